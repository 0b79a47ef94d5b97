/-
  WideDigits is proved: for every two wide numbers and every text the law answers true and changes nothing that was there; condition: the five listed tables start as the program's text lays them (the card ties them to it; one of them, unicode/utf8.first, is pinned by name).
-/
import Derived.Test.YtdlijnkbpnhpoaaDoorHelp
import Derived.Test.YtdlijnkbpnhpoaaDoorDec
import Derived.Test.YtdlijnkbpnhpoaaDoorShelfTrim
import Derived.Lay
import Derived.ShutString
namespace Go.Proofs.YtdlijnkbpnhpoaaDoor
open Go.RowKit Go.ChangeShapes Go.WideShapes Go.ChangeAt Go.Joins
open Go.ChangeMaps (open_string shut_string)

theorem ba_eq (s : ByteArray) (l : List UInt8) (h : l = s.data.toList) : (⟨l.toArray⟩ : ByteArray) = s := by
  subst h; cases s; rfl
theorem text_to (n : Nat) (s : ByteArray) (w : World) (hn : n < B128) (h : Lib.decDigits n = s.data.toList) (htab : Lib.TabIs Tryd.prog w "internal/strconv.uint64pow10" .u64 Lib.pow10Tab) :
    Calls Tryd.prog 23 #[.agg #[.int .u64 (hi n), .int .u64 (lo n)]] w fun e w' => e = .returned (.string s) ∧ Below w.heap.size w w' := by
  have := text_any n w hn htab
  rw [txt_dec, ba_eq s _ h] at this
  exact this
theorem parse_ok (s : ByteArray) (w : World) (hs : s.size ≤ 140737488355328) (n : Nat) (h : parE s.data.toList = 0) (hn : parR s.data.toList = n) :
    Calls Tryd.prog 17 #[.string s] w fun e w' => e = .returned (.tuple #[.agg #[.int .u64 (hi n), .int .u64 (lo n)], .int .i64 0]) ∧ Below w.heap.size w w' := by
  have := parse_any s w hs
  rw [h, hn] at this
  exact this
theorem tab_dr {w : World} (h : Lib.TabIs Tryd.prog w "internal/strconv.uint64pow10" .u64 Lib.pow10Tab) : Lib.TabIs Tryd.prog w.drew "internal/strconv.uint64pow10" .u64 Lib.pow10Tab := h
theorem drop_all (p : UInt8 → Bool) : ∀ l : List UInt8, (∀ x ∈ l, p x = true) → l.dropWhile p = []
  | [], _ => rfl
  | c :: l, h => by rw [List.dropWhile_cons, if_pos (h c List.mem_cons_self)]; exact drop_all p l (fun x hx => h x (List.mem_cons_of_mem _ hx))
theorem trim_none (s : ByteArray) (w : World) (hs : s.size ≤ 60) (h : s.data.toList.all digB = true) :
    Calls Tryd.prog 26 #[.string s, .string ⟨#[48, 49, 50, 51, 52, 53, 54, 55, 56, 57]⟩] w fun e w' => e = .returned (.string ⟨#[]⟩) ∧ Below w.heap.size w w' := by
  have key : Lib.trimS s.data.toList (⟨#[48, 49, 50, 51, 52, 53, 54, 55, 56, 57]⟩ : ByteArray).data.toList = [] := by
    have hc : ∀ c, digB c = true → ([48, 49, 50, 51, 52, 53, 54, 55, 56, 57] : List UInt8).contains c = true := by
      intro c hc
      unfold digB at hc
      simp at hc
      have h1 : c.toNat = 48 ∨ c.toNat = 49 ∨ c.toNat = 50 ∨ c.toNat = 51 ∨ c.toNat = 52 ∨ c.toNat = 53 ∨ c.toNat = 54 ∨ c.toNat = 55 ∨ c.toNat = 56 ∨ c.toNat = 57 := by omega
      have inj : ∀ d : UInt8, c.toNat = d.toNat → c = d := fun d e => UInt8.toNat_inj.1 e
      rcases h1 with e | e | e | e | e | e | e | e | e | e
      · rw [inj 48 e]; rfl
      · rw [inj 49 e]; rfl
      · rw [inj 50 e]; rfl
      · rw [inj 51 e]; rfl
      · rw [inj 52 e]; rfl
      · rw [inj 53 e]; rfl
      · rw [inj 54 e]; rfl
      · rw [inj 55 e]; rfl
      · rw [inj 56 e]; rfl
      · rw [inj 57 e]; rfl
    have hr : Lib.trimRightS s.data.toList [48, 49, 50, 51, 52, 53, 54, 55, 56, 57] = [] := by
      unfold Lib.trimRightS
      have : (s.data.toList.reverse.dropWhile (([48, 49, 50, 51, 52, 53, 54, 55, 56, 57] : List UInt8).contains ·)) = [] := by
        exact drop_all _ _ (fun x hx => hc x (List.all_eq_true.1 h x (by simpa using hx)))
      rw [this]; rfl
    show Lib.trimLeftS (Lib.trimRightS _ [48, 49, 50, 51, 52, 53, 54, 55, 56, 57]) _ = []
    rw [hr]; rfl
  have := Tryd.strings_Trim s ⟨#[48, 49, 50, 51, 52, 53, 54, 55, 56, 57]⟩ w (by omega) (by decide) (ascii_of_all (by decide))
  rw [key] at this
  exact this
theorem cmp_str (a b : Nat) (x y : ByteArray) (w : World) (hx : Lib.decDigits a = x.data.toList) (hy : Lib.decDigits b = y.data.toList) (h : x.size = y.size) :
    Calls Tryd.prog 27 #[.string x, .string y] w fun e w' => e = .returned (.int .i64 (cmpN a b)) ∧ w = w' := by
  refine (Tryd.strings_Compare x y w).mono ?_
  rintro e w' ⟨rfl, rfl⟩
  refine ⟨?_, rfl⟩
  rw [← hx, ← hy, cmp_dec a b]
  rw [← Lib.decDigits_length, ← Lib.decDigits_length, hx, hy, len_size, len_size, h]
theorem cmp_lt0' {m n : Nat} (h : m < n) : cmpN m n < 0 := by rw [cmpN_lt m n h]; decide
theorem cmp_ge0' {m n : Nat} (h : n ≤ m) : ¬ cmpN m n < 0 := by unfold cmpN; split <;> (try split) <;> omega
/-- what the walk asks of a number's digits. -/
structure DigF (a : Nat) (x : ByteArray) : Prop where
  dec : Lib.decDigits a = x.data.toList
  pos : 0 < x.size
  le : x.size ≤ 39
theorem digF (a : Nat) (h : a < B128) : ∃ x, DigF a x := by
  refine ⟨⟨(Lib.decDigits a).toArray⟩, by simp, ?_, ?_⟩
  · rw [sizeOf_dec]; exact Lib.nDigits_pos a
  · rw [sizeOf_dec]; exact nd_le 38 a (by unfold B128 at h; omega)
theorem DigF.first {a : Nat} {x : ByteArray} (h : DigF a x) : ((x[0]'h.pos).toNat : Int) = 48 → a = 0 ∧ x = ⟨#[48]⟩ := by
  intro e
  have h1 := head_eq x h.pos
  have h2 : x[0]'h.pos = 48 := UInt8.toNat_inj.1 (by show _ = 48; omega)
  by_cases ha : a = 0
  · refine ⟨ha, ?_⟩
    have hd := h.dec
    rw [ha, dec_small (by omega)] at hd
    exact (ba_eq x [48] (by rw [← hd]; rfl)).symm
  · exact absurd (by rw [h.dec, h1, h2]) (head_dec a (by omega))

set_option maxRecDepth 100000 in
set_option maxHeartbeats 2000000 in
theorem digits_law (a b : Nat) (s : ByteArray) (w : World) (htab : Lib.TabIs Tryd.prog w "internal/strconv.uint64pow10" .u64 Lib.pow10Tab)
    (ha : a < B128) (hb : b < B128) :
    Calls Tryd.prog 8 #[.agg #[.int .u64 (hi a), .int .u64 (lo a)], .agg #[.int .u64 (hi b), .int .u64 (lo b)], .string s] w fun e w' => e = .returned (.bool true) ∧ Below w.heap.size w w' := by
  have HT := Lib.hid htab
  have A := Lib.hid ha
  have B := Lib.hid hb
  obtain ⟨x, hx⟩ := digF a ha
  obtain ⟨y, hy⟩ := digF b hb
  clear htab ha hb
  have HB0 := ((Below.refl w.heap.size w).alloc (Nat.le_refl _) (.cells #[.int .u64 (hi a), .int .u64 (lo a)] 24)).alloc (by simp) (.cells #[.int .u64 (hi b), .int .u64 (lo b)] 24)
  have HT0 := Lib.hid (tab_below HT.out HB0)
  by_cases h60 : 60 < s.size
  · have h60' : (60 : Int) < (s.size : Int) := by omega
    go_enter Tryd.func8, Tryd.ntmps8
    go_wp2_with fail
    refine (awake_any _ HT0.out).mono ?_
    rintro e w1 ⟨rfl, hb1⟩
    go_wp2
    go_ret
    exact ⟨rfl, HB0.trans (hb1.mono (by simp; omega))⟩
  have h60' : (s.size : Int) ≤ 60 := by omega
  have a0 : ((w.alloc (.cells #[.int .u64 (hi a), .int .u64 (lo a)] 24)).alloc (.cells #[.int .u64 (hi b), .int .u64 (lo b)] 24)).cell? ⟨w.heap.size, 0, none⟩ = some (.int .u64 (hi a)) := allc (new0 _ _ _ rfl)
  have a1 : ((w.alloc (.cells #[.int .u64 (hi a), .int .u64 (lo a)] 24)).alloc (.cells #[.int .u64 (hi b), .int .u64 (lo b)] 24)).cell? ⟨w.heap.size, 1, none⟩ = some (.int .u64 (lo a)) := allc (new1 _ _ _ rfl)
  have b0 : ((w.alloc (.cells #[.int .u64 (hi a), .int .u64 (lo a)] 24)).alloc (.cells #[.int .u64 (hi b), .int .u64 (lo b)] 24)).cell? ⟨w.heap.size + 1, 0, none⟩ = some (.int .u64 (hi b)) := new0 _ _ _ (by simp)
  have b1 : ((w.alloc (.cells #[.int .u64 (hi a), .int .u64 (lo a)] 24)).alloc (.cells #[.int .u64 (hi b), .int .u64 (lo b)] 24)).cell? ⟨w.heap.size + 1, 1, none⟩ = some (.int .u64 (lo b)) := new1 _ _ _ (by simp)
  have HZ0 : ((w.alloc (.cells #[.int .u64 (hi a), .int .u64 (lo a)] 24)).alloc (.cells #[.int .u64 (hi b), .int .u64 (lo b)] 24)).heap.size = w.heap.size + 2 := by simp
  go_enter Tryd.func8, Tryd.ntmps8
  go_upto_region 3 with fail
  generalize (w.alloc (.cells #[.int .u64 (hi a), .int .u64 (lo a)] 24)).alloc (.cells #[.int .u64 (hi b), .int .u64 (lo b)] 24) = X at *
  have hzX : w.heap.size + 1 < X.heap.size := by omega
  have hzX0 : w.heap.size < X.heap.size := by omega
  have HS : Hid (s.size ≤ 140737488355328) := by unfold Hid; omega
  clear HZ0 h60
  go_cut [7, 8] (fun s7 s8 wx => ∃ (g n : Nat) (E : Int), s7 = .pointer (some ⟨g, 0, none⟩) ∧ s8 = .int .i64 E ∧ wx.cell? ⟨g, 0, none⟩ = some (.int .u64 (hi n)) ∧ wx.cell? ⟨g, 1, none⟩ = some (.int .u64 (lo n)) ∧ Below X.heap.size X wx ∧ ((E = 0 ∧ Lib.decDigits n = s.data.toList ∧ n < B128) ∨ (E = 10 ∧ n = 0)))
  case first =>
    go_wp2_with fail
    refine (parse_any s _ HS.out).mono ?_
    rintro e w1 ⟨rfl, hb1⟩
    have HD : Hid ((parE s.data.toList = 0 ∧ Lib.decDigits (parR s.data.toList) = s.data.toList ∧ parR s.data.toList < B128) ∨ (parE s.data.toList = 10 ∧ parR s.data.toList = 0)) := by
      rcases parse_or s.data.toList with hE | hE
      · exact .inl ⟨hE, dec_parse _ hE⟩
      · exact .inr hE
    generalize parR s.data.toList = n at *
    generalize parE s.data.toList = E at *
    go_wp2_with fail
    go_meet
    exact ⟨w1.heap.size, n, E, rfl, rfl, new0 _ _ _ rfl, new1 _ _ _ rfl, hb1.alloc hb1.size _, HD.out⟩
  case rest =>
    obtain ⟨g, n, E, rfl, rfl, g0, g1, hbx, hD⟩ := hcut
    have a0' := keepc hbx a0
    have a1' := keepc hbx a1
    have b0' := keepc hbx b0
    have b1' := keepc hbx b1
    have HTc := Lib.hid (tab_below HT0.out hbx)
    have hgl := World.block_lt_of_cell? _ _ g0
    dsimp only at hgl
    go_upto_region 4 with fail
    go_cut [42] (fun s42 wx => s42 = .bool false ∧ Below X.heap.size X wx)
    case first =>
      clear a0' a1' b0' b1' a0 a1 b0 b1
      rcases hD with ⟨rfl, hdec, hlt⟩ | ⟨rfl, rfl⟩
      · have HDc := Lib.hid hdec
        have HLt := Lib.hid hlt
        clear hdec hlt
        go_wp2_with fail
        refine (text_to n s _ HLt.out HDc.out HTc.out).mono ?_
        rintro e w2 ⟨rfl, hb2⟩
        go_wp2_with fail
        go_meet
        exact ⟨rfl, hbx.trans (hb2.mono hbx.size)⟩
      · rw [hi_zero] at g0
        rw [lo_zero] at g1
        go_wp2_with fail
        go_meet
        exact ⟨rfl, hbx⟩
    case rest =>
      obtain ⟨rfl, hb3⟩ := hcut
      clear a0' a1' b0' b1' g0 g1 hbx hD HTc hgl
      have c0 := keepc hb3 a0
      have c1 := keepc hb3 a1
      have e0 := keepc hb3 b0
      have e1 := keepc hb3 b1
      have HT3 := Lib.hid (tab_below HT0.out hb3)
      have hz3 := hb3.size
      go_upto_region 6 with fail
      go_cut [9, 10] (fun s9 s10 wx => s9 = .string x ∧ s10 = .string y ∧ Below X.heap.size X wx)
      case first =>
        clear a0 a1 b0 b1
        go_region_held3 (fun w' => w'.cell? ⟨w.heap.size, 0, none⟩ = some (.int .u64 (hi a)) ∧ w'.cell? ⟨w.heap.size, 1, none⟩ = some (.int .u64 (lo a)) ∧ w'.cell? ⟨w.heap.size + 1, 0, none⟩ = some (.int .u64 (hi b)) ∧ w'.cell? ⟨w.heap.size + 1, 1, none⟩ = some (.int .u64 (lo b))) (first | exact ⟨c0, c1, e0, e1⟩ | exact ⟨k1, k2, k3, k4⟩ | exact ⟨k5, k6, k7, k8⟩)
          (first
            | (go_at_call 23; ((with_reducible refine (text_to a x _ A.out hx.dec (by first | exact HT3.out | exact tab_dr HT3.out)).mono ?_); rintro e w4 ⟨rfl, hb4⟩; have k1 := keepc hb4 (p := ⟨w.heap.size, 0, none⟩) (by exact c0); have k2 := keepc hb4 (p := ⟨w.heap.size, 1, none⟩) (by exact c1); have k3 := keepc hb4 (p := ⟨w.heap.size + 1, 0, none⟩) (by exact e0); have k4 := keepc hb4 (p := ⟨w.heap.size + 1, 1, none⟩) (by exact e1); have HT4 := Lib.hid (tab_drew HT3.out hb4)))
            | (go_at_call 23; ((with_reducible refine (text_to b y _ B.out hy.dec (by exact HT4.out)).mono ?_); rintro e w5 ⟨rfl, hb5⟩; have k5 := keepc hb5 k1; have k6 := keepc hb5 k2; have k7 := keepc hb5 k3; have k8 := keepc hb5 k4)))
        all_goals (go_wp2_with fail; go_meet)
        all_goals exact ⟨rfl, rfl, (hb3.drew.trans (hb4.mono hz3)).trans (hb5.mono (Nat.le_trans hz3 hb4.size))⟩
      case rest =>
        obtain ⟨rfl, rfl, hb4⟩ := hcut
        clear c0 c1 e0 e1 HT3 hz3 hb3
        have c0 := keepc hb4 a0
        have c1 := keepc hb4 a1
        have e0 := keepc hb4 b0
        have e1 := keepc hb4 b1
        have hz4 := hb4.size
        have HP : Hid (parE x.data.toList = 0 ∧ parR x.data.toList = a) := by
          have := parR_dec a A.out
          rw [hx.dec] at this
          exact ⟨this.2, this.1⟩
        clear a0 a1 b0 b1
        go_wp2_with fail
        refine (parse_ok x _ (by have := hx.le; omega) a HP.out.1 HP.out.2).mono ?_
        rintro e w5 ⟨rfl, hb5⟩
        replace c0 := keepc hb5 c0
        replace c1 := keepc hb5 c1
        replace e0 := keepc hb5 e0
        replace e1 := keepc hb5 e1
        have hz5 := hb5.size
        have HX5 := hb4.trans (hb5.mono hz4)
        clear hb4 hb5
        have hpx := hx.pos
        have hne : x.data.toList ≠ [] := by intro e; have := len_size x; rw [e] at this; simp at this; omega
        have tE : x.toList.isEmpty = false := by
          rw [toList_data]
          cases hl : x.data.toList with
          | nil => exact absurd hl hne
          | cons q l => rfl
        have tN : ¬ x.toList = [] := by rw [toList_data]; exact hne
        have HA : Hid (x.data.toList.all digB = true) := by unfold Hid; rw [← hx.dec]; exact digs_dec a
        have hs1 : w.heap.size < w5.heap.size := by omega
        have hs2 : w.heap.size + 1 < w5.heap.size := by omega
        have HB5 : Below w.heap.size w w5 := HB0.trans (HX5.mono (by omega))
        clear hne HX5
        have hord : x.size ≠ y.size → (x.size < y.size ↔ a < b) := fun h => by
          have h1 := Lib.decDigits_length a
          have h2 := Lib.decDigits_length b
          rw [hx.dec, len_size] at h1
          rw [hy.dec, len_size] at h2
          have := nd_order a b (by omega)
          rw [decide_eq_decide] at this
          rw [h1, h2]; exact this
        have hway : ∃ t u v : Bool, ((x[0].toNat : Int) == 48) = t ∧ (t = true → x.toList = [48]) ∧ ((x.size : Int) != (y.size : Int)) = u ∧ (u = false → x.size = y.size) ∧ (u = true → (v = true → (x.size : Int) < (y.size : Int) ∧ cmpN a b < 0) ∧ (v = false → ¬ (x.size : Int) < (y.size : Int) ∧ ¬ cmpN a b < 0)) := by
          refine ⟨_, _, decide (a < b), rfl, fun e => ?_, rfl, fun e => ?_, fun e => ⟨fun hv => ?_, fun hv => ?_⟩⟩
          · rw [(hx.first (beq_iff_eq.1 e)).2, toList_data]
          · have := bne_eq_false_iff_eq.1 e; omega
          · have h1 := bne_iff_ne.1 e
            have h2 := of_decide_eq_true hv
            have h3 := (hord (by omega)).2 h2
            exact ⟨by omega, cmp_lt0' h2⟩
          · have h1 := bne_iff_ne.1 e
            have h2 := of_decide_eq_false hv
            have h3 : ¬ x.size < y.size := fun q => h2 ((hord (by omega)).1 q)
            exact ⟨by omega, cmp_ge0' (by omega)⟩
        obtain ⟨t, u, v, ht, ht2, hu, hu2, hv⟩ := hway
        clear hord
        have HXD := Lib.hid hx.dec
        have HYD := Lib.hid hy.dec
        have HXL := Lib.hid hx.le
        clear hx hy
        cases t <;> cases u
        case' true.false => have t3 := ht2 rfl
        case' true.true => have t3 := ht2 rfl
        case' true.false => have HU := Lib.hid (hu2 rfl)
        case' false.false => have HU := Lib.hid (hu2 rfl)
        case' true.true => have hv2 := hv rfl
        case' false.true => have hv2 := hv rfl
        case' true.true => cases v
        case' false.true => cases v
        case' true.true.false => obtain ⟨v1, v2⟩ := hv2.2 rfl
        case' true.true.true => obtain ⟨v1, v2⟩ := hv2.1 rfl
        case' false.true.false => obtain ⟨v1, v2⟩ := hv2.2 rfl
        case' false.true.true => obtain ⟨v1, v2⟩ := hv2.1 rfl
        all_goals
          clear ht2 hu2
          (try clear hv)
          (try clear hv2)
          go_wp2_with fail
          refine (trim_none x _ (by have := HXL.out; omega) HA.out).mono ?_
          rintro e w6 ⟨rfl, hb6⟩
          replace c0 := keepc hb6 (allc c0)
          replace c1 := keepc hb6 (allc c1)
          replace e0 := keepc hb6 (allc e0)
          replace e1 := keepc hb6 (allc e1)
          have hz6 : w5.heap.size < w6.heap.size := Nat.le_trans (by simp) hb6.size
          have HB6 := (HB5.alloc (by omega) (.cells #[.int .u64 (hi a), .int .u64 (lo a)] 24)).trans (hb6.mono (by simp; omega))
          have HT6 := Lib.hid (tab_below HT.out HB6)
          have hs3 : w.heap.size < w6.heap.size := by omega
          have hs4 : w.heap.size + 1 < w6.heap.size := by omega
          clear hb6 HB5 hs1 hs2
          go_wp2_with fail
        all_goals first
          | (refine (cmp_any a b _).mono ?_
             rintro e w7 ⟨rfl, hb7⟩
             have HT7 := Lib.hid (tab_below HT6.out hb7)
             have hz7 := hb7.size
             go_wp2_with fail
             refine (awake_any _ HT7.out).mono ?_
             rintro e w8 ⟨rfl, hb8⟩
             go_wp2
             go_ret
             exact ⟨rfl, (HB6.trans (hb7.mono (by omega))).trans (hb8.mono (by omega))⟩)
          | (go_region_held3 (fun w' => w'.cell? ⟨w.heap.size, 0, none⟩ = some (.int .u64 (hi a)) ∧ w'.cell? ⟨w.heap.size, 1, none⟩ = some (.int .u64 (lo a)) ∧ w'.cell? ⟨w.heap.size + 1, 0, none⟩ = some (.int .u64 (hi b)) ∧ w'.cell? ⟨w.heap.size + 1, 1, none⟩ = some (.int .u64 (lo b))) (first | exact ⟨c0, c1, e0, e1⟩ | exact ⟨k1, k2, k3, k4⟩ | exact ⟨m1, m2, m3, m4⟩)
              (first
                | (go_at_call 27; refine (cmp_str a b x y _ HXD.out HYD.out HU.out).mono ?_; rintro e w9 ⟨rfl, rfl⟩)
                | (go_at_call 14; refine (cmp_any a b _).mono ?_; rintro e w7 ⟨rfl, hb7⟩; have k1 := keepc hb7 (p := ⟨w.heap.size, 0, none⟩) (by exact c0); have k2 := keepc hb7 (p := ⟨w.heap.size, 1, none⟩) (by exact c1); have k3 := keepc hb7 (p := ⟨w.heap.size + 1, 0, none⟩) (by exact e0); have k4 := keepc hb7 (p := ⟨w.heap.size + 1, 1, none⟩) (by exact e1); have HT7 := Lib.hid (tab_drew HT6.out hb7))
                | (go_at_call 9; refine (awake_any _ (by exact HT7.out)).mono ?_; rintro e w8 ⟨rfl, hb8⟩; have m1 := keepc hb8 k1; have m2 := keepc hb8 k2; have m3 := keepc hb8 k3; have m4 := keepc hb8 k4))
             go_wp2_with fail
             go_ret
             exact ⟨rfl, ((HB6.drew).trans (hb7.mono (Nat.le_of_lt hs3))).trans (hb8.mono (Nat.le_trans (Nat.le_of_lt hs3) hb7.size))⟩)

def laid5 : List (String × DataW Unit) := [("math/bits.deBruijn32tab", Rows.laid_math_bits_deBruijn32tab), ("math/bits.deBruijn64tab", Rows.laid_math_bits_deBruijn64tab), ("internal/strconv.uint64pow10", Rows.laid_internal_strconv_uint64pow10), ("unicode/utf8.acceptRanges", Rows.laid_unicode_utf8_acceptRanges), ("unicode/utf8.first", Rows.laid_unicode_utf8_first)]
theorem tab_of_laid5 {W : World} (h : laidMetH Tryd.prog laid5 W) : Lib.TabIs Tryd.prog W "internal/strconv.uint64pow10" .u64 Lib.pow10Tab := by
  rw [MakeChecks.laidMetH_plain _ _ _ (by kernel_rfl)] at h
  unfold laid5 at h
  obtain ⟨ps, ⟨g0, t0, cs0, f0, p0, q0, hg0, ht0, hv0, hd0, ⟨g1, t1, cs1, f1, p1, q1, hg1, ht1, hv1, hd1, ⟨g2, t2, cs2, f2, p2, q2, hg2, ht2, hv2, hd2, _, _⟩, _⟩, _⟩, _, _⟩ := h
  obtain ⟨t, ht, hu, hc⟩ := tPow
  obtain rfl := Option.some.inj (gPow.symm.trans hg2)
  obtain rfl := Option.some.inj (ht.symm.trans ht2)
  unfold Lib.TabIs
  rw [powData] at hd2
  rw [hv2, ← Lib.cells_of_tab hu Tryd.underlying22 (by kernel_rfl) hc hd2]

set_option maxRecDepth 100000 in
theorem digits_lifted (os : Os) (started : os.Started) (H : Type) (enc : TypeId × Value → H) :
    ReturnsInHanded {} Tryd.checked os 8 .any (fun w args => (Rows.wideDigitsSpec.pre enc Tryd.prog Tryd.f8 [] false w args ∧ laidMetH Tryd.prog laid5 w) ∧ sizedMet enc Tryd.prog Tryd.f8 (OpenSpec.ofChange Rows.wideDigitsSpec) false w args)
      (Rows.wideDigitsSpec.post enc Tryd.prog Tryd.f8 false true false false) := by
  refine returnsInHanded_of_change_and (C := Tryd.checked) (X := fun w _ => laidMetH Tryd.prog laid5 w) (fun _ _ _ hh h => h.of_heap hh) Tryd.own started (by kernel_rfl) Tryd.func8
    (ChangeSpec.witness_shaped (enc := enc) (C := Tryd.checked) (os := os) (X := fun w _ => laidMetH Tryd.prog laid5 w) false (World.laidAll Tryd.prog os laid5) #[.agg #[.int .u64 0, .int .u64 0], .agg #[.int .u64 0, .int .u64 0], .string ⟨#[]⟩] 8 (World.laidAll_os _ _ _)
      (World.shaped_of_ZipB (by kernel_rfl) (by kernel_rfl)) (by kernel_rfl) (by kernel_rfl) (by kernel_rfl)
      (by rw [MakeChecks.laidMetH_plain _ _ _ (by kernel_rfl)]; exact laidMet_laidAll _ (by kernel_rfl) (by kernel_rfl))) ?_
  intro W base args ds gs before hval0 hW _ _ hL _
  have hval : ∀ (j : Nat) t v, Tryd.f8.params[j]? = some t → args[j]? = some v → Value.okWide Tryd.prog W .any base t v := hval0
  have hW' := hW
  obtain ⟨p, q, hA0, hV, rfl, hfz, hnd⟩ := hW
  have hA : DataW.TrodAll enc Tryd.prog W 0 (fun _ => true) true Tryd.f8.params.toList args.toList ds p := hA0
  rw [Tryd.params8] at hA hval
  obtain ⟨v0, v1, v2, d0, d1, d2, p0, p1, p2, rfl, rfl, rfl, h0, h1, h2⟩ := trodAll_three hA
  obtain ⟨rfl, rfl⟩ := trodVars_none hV
  obtain ⟨c0, c1, y0, y1, m, rfl, rfl, rfl, hy0, hy1⟩ := open_agg2 Tryd.underlying24 (by kernel_rfl) Tryd.cells24 (hval 0 24 v0 rfl rfl) h0
  obtain ⟨a1, e0, rfl, wa1⟩ := DataW.trod_int Tryd.underlying22 hy0
  obtain ⟨a0, e1, rfl, wa0⟩ := DataW.trod_int Tryd.underlying22 hy1
  simp at e0 e1
  subst e0 e1
  obtain ⟨c0, c1, y0, y1, m, rfl, rfl, rfl, hy0, hy1⟩ := open_agg2 Tryd.underlying24 (by kernel_rfl) Tryd.cells24 (hval 1 24 v1 rfl rfl) h1
  obtain ⟨b1, e0, rfl, wb1⟩ := DataW.trod_int Tryd.underlying22 hy0
  obtain ⟨b0, e1, rfl, wb0⟩ := DataW.trod_int Tryd.underlying22 hy1
  simp at e0 e1
  subst e0 e1
  obtain ⟨s, rfl, rfl, rfl, hs⟩ := open_string Tryd.underlying9 (hval 2 9 v2 rfl rfl) h2
  obtain ⟨a, ha, rfl, rfl⟩ := of_wide wa1 wa0
  obtain ⟨b, hb, rfl, rfl⟩ := of_wide wb1 wb0
  clear hA0 hval0
  refine (digits_law a b s W (tab_of_laid5 hL) ha hb).mono fun e W' ⟨he, hB⟩ => ?_
  subst he
  exact ⟨_, rfl, law_post hW' (trodAll_mk1 (shut_bool Tryd.underlying4 true)) (trodAll_mk3 (wide_reads wa1 wa0 W' _) (wide_reads wb1 wb0 W' _) (shut_string Tryd.underlying9 hs)) rfl hB⟩

theorem digits_holds : Rows.WideDigitsSaid :=
  OpenClaim.holds_of_wide 8 Tryd.f8 rfl rfl rfl rfl rfl rfl rfl ⟨rfl, rfl, rfl, rfl, rfl⟩ rfl rfl rfl rfl rfl (by kernel_rfl) Tryd.func8 (by kernel_rfl)
    (of_decide_eq_true (by kernel_rfl)) (by unfold Func.isWrapper; first | (rw [if_pos (by decide +kernel)]; kernel_rfl) | (rw [if_neg (by decide +kernel)]; exact ⟨rfl, rfl⟩))
    (fun os started H enc _ => digits_lifted os started H enc)

theorem digits_card : Rows.WideDigitsCardSaid :=
  Claim7.holds_tied_plain_at .later [] [.data, .data, .data, .data, .pinned] true (true, "87e2d8c4c7155894bd0858952195c60b8c955652c0426b7d599210d5fcc65363") false
    digits_holds (fun _ h => by cases h) (by kernel_rfl) (fun _ h => by cases h) wideDigits_row_tie rfl ⟨rfl, rfl⟩ (by kernel_rfl) rfl
    (fun f fn hf hfn => by
      obtain rfl : f = 8 := Option.some.inj ((show Tryd.prog.funcNamed "gridiron/gridironlaw01.WideDigits" = some 8 by kernel_rfl).symm.trans hf) |>.symm
      obtain rfl : fn = Tryd.f8 := (Option.some.inj (Tryd.func8.symm.trans hfn)).symm
      exact ⟨by kernel_rfl, fun j t ht => by
        rw [Tryd.params8] at ht
        have hm : t ∈ [24, 24, 9] := by simpa using Array.mem_of_getElem? ht
        have hall : ([24, 24, 9].all fun u => !Tryd.prog.wantsStandIn u) = true := by kernel_rfl
        exact (show Tryd.prog.wantsStandIn t = false by simpa using List.all_eq_true.1 hall t hm)⟩)
    (by kernel_rfl)
end Go.Proofs.YtdlijnkbpnhpoaaDoor
