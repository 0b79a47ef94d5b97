/-
  BandTurned: with both coordinates exchanged, and each the other way round, a tree tells the same of boxes so turned; over any tree of points.
-/
import Derived.Test.YtfcpfffgodljeaaGreatPl
import Derived.Test.YtfcpfffgodljeaaGreatPaw
namespace Go.Proofs.YtfcpfffgodljeaaGreat
open Go.ChangeShapes Go.WideShapes Go.ChangeAt Go.RowKit Go.Joins

def tn (s : S3) : S3 := (-1 - s.2.1, -1 - s.1, s.2.2)
def tb (b : B4) : B4 := (-1 - b.2.2.2, -1 - b.2.2.1, -1 - b.2.1, -1 - b.1)
theorem tn_rg {L : List S3} : Rg (L.map tn) ↔ Rg L := by
  unfold Rg
  have e : ((fun s : S3 => s.2.2) ∘ tn) = (fun s => s.2.2) := rfl
  rw [List.map_map, e]
theorem tn_hsS (L : List S3) (b : B4) : hsS (L.map tn) (tb b) = hsS L b := by
  unfold hsS hsL
  rw [List.filter_map, List.map_map]
  have e : (hsB (tb b) ∘ tn) = hsB b := by
    funext s
    obtain ⟨b1, b2, b3, b4⟩ := b
    obtain ⟨s1, s2, s3⟩ := s
    rw [Bool.eq_iff_iff]
    simp only [Function.comp, hsB, tb, tn, Bool.and_eq_true, decide_eq_true_eq]
    constructor
    · rintro ⟨⟨⟨h1, h2⟩, h3⟩, h4⟩
      have h1 := of_decide_eq_true h1
      have h2 := of_decide_eq_true h2
      have h3 := of_decide_eq_true h3
      have h4 := of_decide_eq_true h4
      exact ⟨⟨⟨by omega, by omega⟩, by omega⟩, by omega⟩
    · rintro ⟨⟨⟨h1, h2⟩, h3⟩, h4⟩
      exact ⟨⟨⟨decide_eq_true (by omega), decide_eq_true (by omega)⟩, decide_eq_true (by omega)⟩, decide_eq_true (by omega)⟩
  rw [e]
  rfl
theorem tn_wf {s : S3} (h : Wf3 s) : Wf3 (tn s) := by
  have h1 := i64_range h.1
  have h2 := i64_range h.2.1
  exact ⟨WalkArith.wf_i64 (by simp only [tn]; omega), WalkArith.wf_i64 (by simp only [tn]; omega), h.2.2⟩
theorem tb_wf {b : B4} (h : Wf4 b) : Wf4 (tb b) := by
  have h1 := i64_range h.1
  have h2 := i64_range h.2.1
  have h3 := i64_range h.2.2.1
  have h4 := i64_range h.2.2.2
  exact ⟨WalkArith.wf_i64 (by simp only [tb]; omega), WalkArith.wf_i64 (by simp only [tb]; omega), WalkArith.wf_i64 (by simp only [tb]; omega), WalkArith.wf_i64 (by simp only [tb]; omega)⟩

set_option maxRecDepth 100000 in
set_option maxHeartbeats 6400000 in
theorem turned_walk {TS : World → Value → Nat → List Nat → List S3 → Prop} (C : BandC TS) (w : World) (p q : Option Addr) (c d : Nat) (L : List S3) (xs : List B5) (hx : TsS w p L) (hc : L.length ≤ c) (hp : p = none → c = 0) (hw : ∀ s ∈ L, Wf3 s) (hxs : BsS w q xs) (hd : xs.length ≤ d) (hwx : ∀ x ∈ xs, Wf5 x) :
    Calls Tryz.prog 6 #[.slice p L.length c, .slice q xs.length d] w fun e w' => e = .returned (.bool true) ∧ Below w.heap.size w w' := by
  have HAW := Lib.hid (awake_any C)
  by_cases hbig : L.length ≤ 80
  · have hbz : ¬ (80 : Int) < L.length := by omega
    have HX := Lib.hid hx
    have HXS := Lib.hid hxs
    have HWX := Lib.hid hwx
    have HW := Lib.hid hw
    obtain ⟨h12, hh12⟩ : ∃ h, h = min xs.length 12 := ⟨_, rfl⟩
    have hmin := fun X ty => min12 X ty xs.length (h12 : Int) (by rw [hh12])
    have hsl := fun X => slX_to X q xs.length d h12 (by omega)
    have HMIN := Lib.hid hmin
    have HSL := Lib.hid hsl
    have HH := Lib.hid (show h12 ≤ xs.length by omega)
    have h12b : h12 ≤ 12 := by omega
    obtain ⟨er, A, A', n0, hA, hA', hAA, hbu, hbv⟩ : ∃ (er : Int) (A A' : List S3) (n0 : Nat), A.length ≤ 80 ∧ A'.length ≤ 80 ∧ (∀ b, hsS A' (tb b) = hsS A b) ∧
        (∀ X, Below w.heap.size w X → Calls Tryz.prog 16 #[.slice p L.length c] X fun e w' => Below X.heap.size X w' ∧ ∃ v S, e = .returned (.tuple #[v, .int .i64 er]) ∧ TS w' v n0 S A) ∧
        (∀ X p' c', TsS X p' (L.map tn) → L.length ≤ c' → (p' = none → c' = 0) → Calls Tryz.prog 16 #[.slice p' L.length c'] X fun e w' => Below X.heap.size X w' ∧ ∃ v S, e = .returned (.tuple #[v, .int .i64 er]) ∧ TS w' v n0 S A') := by
      have hwt : ∀ s ∈ L.map tn, Wf3 s := fun s hs => by
        obtain ⟨t, ht, rfl⟩ := List.mem_map.1 hs
        exact tn_wf (hw t ht)
      by_cases hrg : Rg L
      · refine ⟨0, L, L.map tn, L.length, hbig, by rw [List.length_map]; exact hbig, tn_hsS L, fun X hX => ?_, fun X p' c' h1 h2 h3 => ?_⟩
        · refine (C.build X p c L (hx.keep hX) (by omega) hc hp hw).mono ?_
          rintro e w' ⟨hb, hor⟩
          rcases hor with ⟨-, v, S, rfl, hT, -⟩ | ⟨hn, -⟩
          · exact ⟨hb, v, S, rfl, hT⟩
          · exact absurd hrg hn
        · have h := C.build X p' c' (L.map tn) h1 (by rw [List.length_map]; omega) (by rw [List.length_map]; exact h2) h3 hwt
          rw [List.length_map] at h
          refine h.mono ?_
          rintro e w' ⟨hb, hor⟩
          rcases hor with ⟨-, v, S, rfl, hT, -⟩ | ⟨hn, -⟩
          · rw [List.length_map] at hT
            exact ⟨hb, v, S, rfl, hT⟩
          · exact absurd (tn_rg.2 hrg) hn
      · refine ⟨2, [], [], 0, by simp, by simp, fun _ => rfl, fun X hX => ?_, fun X p' c' h1 h2 h3 => ?_⟩
        · refine (C.build X p c L (hx.keep hX) (by omega) hc hp hw).mono ?_
          rintro e w' ⟨hb, hor⟩
          rcases hor with ⟨hn, -⟩ | ⟨-, v, S, rfl, hT, -⟩
          · exact absurd hn hrg
          · exact ⟨hb, v, S, rfl, hT⟩
        · have h := C.build X p' c' (L.map tn) h1 (by rw [List.length_map]; omega) (by rw [List.length_map]; exact h2) h3 hwt
          rw [List.length_map] at h
          refine h.mono ?_
          rintro e w' ⟨hb, hor⟩
          rcases hor with ⟨hn, -⟩ | ⟨-, v, S, rfl, hT, -⟩
          · exact absurd (tn_rg.1 hn) hrg
          · exact ⟨hb, v, S, rfl, hT⟩
    have HBU := Lib.hid hbu
    have HBV := Lib.hid hbv
    have HAA := Lib.hid hAA
    have HF := Lib.hid (show ∀ z, (hsS A z).length ≤ 8192 from fun z => Nat.le_trans (hsS_len A z) (by omega))
    obtain ⟨m, hm⟩ : ∃ m, m = L.length := ⟨_, rfl⟩
    have HD := Lib.hid hm
    rw [← hm] at HBU HBV hbz hbig ⊢
    clear hx hc hp hw hxs hd hwx hh12 hmin hsl hA hA' hAA hbu hbv hm
    obtain ⟨xl, hxl⟩ : ∃ l, l = xs.length := ⟨_, rfl⟩
    have HXL := Lib.hid hxl
    rw [← hxl] at HMIN HSL HH ⊢
    clear hxl
    go_enter Tryz.func6, Tryz.ntmps6
    go_wp2
    go_loopw [5, 24] (fun v5 v24 wr => ∃ k : Nat, k ≤ m ∧ v24 = .int .i64 k ∧ Hid (wr.ownsRow w.heap.size 34 3 v5 k (flatT ((L.take k).map tn))) ∧ Hid (Below w.heap.size w wr)) (fun _ v _ => m - (intOf v).toNat)
    case atStart => exact ⟨0, Nat.zero_le _, rfl, Lib.hid (World.ownsRow_nil _ _ _ _), Lib.hid (Below.refl _ _)⟩
    case round =>
      obtain ⟨k, hk, rfl, HR, HB⟩ := hrel
      by_cases hlt : k < m
      · have hltz : (k : Int) < m := by omega
        obtain ⟨s, hse⟩ : ∃ s, L[k]? = some s := ⟨_, List.getElem?_eq_getElem (by have := HD.out; omega)⟩
        obtain ⟨b, off, rfl, h1⟩ := (HX.out.keep HB.out).at hse
        have n0 := h1.c0
        have n1 := h1.c1
        have n2 := h1.c2
        have HSE := Lib.hid hse
        have hwf := HW.out s (List.mem_of_getElem? hse)
        have r1 := i64_range hwf.1
        have r2 := i64_range hwf.2.1
        obtain ⟨W, hW⟩ : ∃ W, W = wr.alloc (.cells (tvs s).toArray 34) := ⟨_, rfl⟩
        have hWN := T1.new wr s 34
        rw [← hW] at hWN
        have HRW := Lib.hid (show W.ownsRow w.heap.size 34 3 u5 k (flatT ((L.take k).map tn)) by rw [hW]; exact HR.out.alloc _)
        have HBW := Lib.hid (show Below w.heap.size w W by rw [hW]; exact HB.out.alloc HB.out.size _)
        have m0 := hWN.c0
        have m1 := hWN.c1
        have m2 := hWN.c2
        simp only [Nat.zero_add] at m0 m1 m2
        obtain ⟨lo, hh, id⟩ := s
        unfold tvs at hW
        have HW2 := Lib.hid hW
        simp only at n0 n1 n2 m0 m1 m2 r1 r2
        obtain ⟨r1, r1'⟩ := r1
        obtain ⟨r2, r2'⟩ := r2
        clear hW hWN hse h1 hwf HR
        go_upto_region 7 with fail
        rw [← HW2.out]
        clear HW2 n0 n1 n2
        go_wp2_with (at_builtin; refine wpList_more Tryz.info34 rfl (by decide) (by decide) Tryz.underlying22 _ rfl (.tmp 28) (.tmp 38) rfl u5 k (flatT ((L.take k).map tn)) rfl (row_at (base' := 0) (World.ownsRow.alloc HRW.out _) (fun _ _ => ⟨rfl, Nat.zero_le _⟩)) ⟨W.heap.size, 0, none⟩ 1 1 (tvs (tn (lo, hh, id))) rfl rfl (td_at W (tn (lo, hh, id)) _) (tvs_one _) (by omega) (by decide) ?_; intro g1 c1 w1 h1 h2 h3; have H1 := Lib.hid h1; have HB1 := Lib.hid ((HBW.out.alloc HBW.out.size (.cells (tvs (tn (lo, hh, id))).toArray 34)).grown h2 (by have := HBW.out.size; simp; omega) (fun k e => (HRW.out.lt k e).1)); have HG1 := Lib.hid (show w.heap.size ≤ g1 from h3.elim (fun e => (HRW.out.lt _ e).1) (fun e => by have := HBW.out.size; simp at e; omega)); clear h1 h2 h3)
        go_roundw
        case rel =>
          refine ⟨k + 1, by omega, by go_num, Lib.hid ?_, HB1⟩
          have h := row_at (base' := w.heap.size) H1.out (fun q e => ⟨rfl, by simp [Value.ownBlock] at e; subst e; exact HG1.out⟩)
          have e1 : flatT ((L.take (k + 1)).map tn) = flatT ((L.take k).map tn) ++ tvs (tn (lo, hh, id)) := by
            rw [List.take_add_one, HSE.out, List.map_append]
            exact flatT_snoc _ _
          rw [e1]
          exact h
        case measure => simp [intOf]; omega
      · obtain rfl : k = m := by omega
        have hltz : ¬ (k : Int) < k := by omega
        have hR := HR.out
        rw [List.take_of_length_le (by have := HD.out; omega)] at hR
        obtain ⟨-, p', c', rfl, hn, hpc, hc', -⟩ := row_ts hR
        have HN := Lib.hid hn
        have HPC := Lib.hid (fun e => (hpc e).1)
        have hmin := HMIN.out
        have hsl := HSL.out
        have hcc := Lib.hid hc'
        clear hR HR hn hpc HX HW HMIN HSL hc'
        go_wp2_with (first
          | (go_at_call 16; (with_reducible refine (HBV.out _ _ _ (HN.out.keep HB1.out) hcc.out HPC.out).mono ?_); rintro e w2 ⟨hb, v2, S2, rfl, hT⟩; have HT := Lib.hid (C.bel HT.out hb); have HU := Lib.hid hT; have HB2 := Lib.hid (HB1.out.trans (hb.mono HB1.out.size)); clear hb hT)
          | (go_at_call 16; (with_reducible refine (HBU.out _ HB.out).mono ?_); rintro e w1 ⟨hb, v1, S1, rfl, hT⟩; have HT := Lib.hid hT; have HB1 := Lib.hid hb; clear hb hT))
        have HBx := Lib.hid (HB.out.trans (HB2.out.mono HB.out.size))
        have HTx := HT
        clear hmin hsl HBU HBV HB1 HB2 HB HN HPC hcc
        go_loopw [60] (fun v60 wr => ∃ k : Nat, k ≤ h12 ∧ v60 = .int .i64 k ∧ Hid (TS wr v1 n0 S1 A) ∧ Hid (TS wr v2 n0 S2 A') ∧ Hid (Below w.heap.size w wr)) (fun i _ => h12 - (intOf i).toNat)
        case atStart => exact ⟨0, Nat.zero_le _, rfl, HTx, HU, HBx⟩
        case round =>
          clear HT HTx HU HBx
          obtain ⟨k2, hk2, rfl, HT, HT2, HB⟩ := hrel
          by_cases hlt2 : k2 < h12
          · have hltz2 : (k2 : Int) < h12 := by omega
            obtain ⟨b, hbe⟩ : ∃ b, xs[k2]? = some b := ⟨_, List.getElem?_eq_getElem (by have := HH.out; have := HXL.out; omega)⟩
            obtain ⟨bb, off, rfl, h1⟩ := (HXS.out.keep HB.out).at hbe
            have HWB := Lib.hid (HWX.out b (List.mem_of_getElem? hbe))
            have n0 := h1.c0
            have n1 := h1.c1
            have n2 := h1.c2
            have n3 := h1.c3
            have n4 := h1.c4
            obtain ⟨W, hW⟩ : ∃ W, W = wr.alloc (.cells (bvs b).toArray 42) := ⟨_, rfl⟩
            have HN := Lib.hid (show X1 W wr.heap.size 0 b by rw [hW]; exact X1.new wr b _)
            have HBW := Lib.hid (show Below w.heap.size w W by rw [hW]; exact HB.out.alloc HB.out.size _)
            have HTW := Lib.hid (show TS W v1 _ S1 A by rw [hW]; exact C.bel HT.out ((Below.refl _ wr).alloc (Nat.le_refl _) _))
            have HTW2 := Lib.hid (show TS W v2 _ S2 A' by rw [hW]; exact C.bel HT2.out ((Below.refl _ wr).alloc (Nat.le_refl _) _))
            have HLT := Lib.hid HN.out.lt
            have HS1 := Lib.hid (fun X n (h : TS X v1 n S1 A) => C.report b h HWB.out)
            have hS2 := fun X n (h : TS X v2 n S2 A') => C.report (tb b.1, 7) h ⟨tb_wf HWB.out.1, rfl⟩
            rw [HAA.out] at hS2
            have HS2 := Lib.hid hS2
            have HI : Hid (∀ X q1 c1 q2 c2, NS X q1 .u32 (hsS A b.1) → NS X q2 .u32 (hsS A b.1) → Calls Tryz.prog 27 #[.slice q1 (hsS A b.1).length c1, .slice q2 (hsS A b.1).length c2] X fun e w' => e = .returned (.bool true) ∧ Below X.heap.size X w') := Lib.hid (fun X q1 c1 q2 c2 h1 h2 => by
              refine (SameIDs_any X q1 q2 c1 c2 _ _ h1 h2 (HF.out _)).mono ?_
              rintro e w' ⟨rfl, hb⟩
              exact ⟨by simp, hb⟩)
            have r1 := i64_range HWB.out.1.1
            have r2 := i64_range HWB.out.1.2.1
            have r3 := i64_range HWB.out.1.2.2.1
            have r4 := i64_range HWB.out.1.2.2.2
            clear hbe h1 HT HB HT2 hS2
            obtain ⟨⟨x1, x2, y1, y2⟩, bi⟩ := b
            unfold bvs at hW
            unfold bv tb at HS2
            unfold bv at HS1
            simp only at n0 n1 n2 n3 n4 HS1 HS2 HI r1 r2 r3 r4
            obtain ⟨r1, r1'⟩ := r1
            obtain ⟨r2, r2'⟩ := r2
            obtain ⟨r3, r3'⟩ := r3
            obtain ⟨r4, r4'⟩ := r4
            have HW1 := Lib.hid hW
            clear hW
            generalize hsS A (x1, x2, y1, y2) = Z at *
            have HRU := Lib.hid (show ∀ (Y : World) r, RL Y r Z → ∃ q c, r = .slice q Z.length c ∧ NS Y q .u32 Z from fun Y r h => by obtain ⟨q, c, h1, h2, -⟩ := h; exact ⟨q, c, h1, h2⟩)
            generalize hzl : Z.length = zl at *
            clear hzl
            have m0 := HN.out.c0
            have m1 := HN.out.c1
            have m2 := HN.out.c2
            have m3 := HN.out.c3
            have m4 := HN.out.c4
            simp only [Nat.zero_add] at m0 m1 m2 m3 m4
            go_upto_region 16 with fail
            rw [← HW1.out]
            clear HW1 n0 n1 n2 n3 n4
            go_wp2_with (first
              | (go_at_call 24; (with_reducible refine (HS1.out _ _ HTW.out).mono ?_); rintro e w5 ⟨⟨r, t, rfl, hr, -, -⟩, hb⟩; obtain ⟨q1, c1, rfl, hq⟩ := HRU.out _ _ hr; have HQ1 := Lib.hid hq; have HT5 := Lib.hid (C.bel HTW.out hb); have HT52 := Lib.hid (C.bel HTW2.out hb); have HN5 := Lib.hid (HN.out.keep hb HLT.out); have k0 := HN5.out.c0; have k1 := HN5.out.c1; have k2' := HN5.out.c2; have k3 := HN5.out.c3; have k4 := HN5.out.c4; simp only [Nat.zero_add] at k0 k1 k2' k3 k4; have HB5 := Lib.hid (HBW.out.trans (hb.mono HBW.out.size)); clear hr hb hq)
              | (go_at_call 24; (with_reducible refine (HS2.out _ _ HT52.out).mono ?_); rintro e w6 ⟨⟨r, t2, rfl, hr, -, -⟩, hb⟩; obtain ⟨q2, c2, rfl, hq⟩ := HRU.out _ _ hr; have HQ2 := Lib.hid hq; have HQ1 := Lib.hid (HQ1.out.keep hb); have HT6 := Lib.hid (C.bel HT5.out hb); have HT62 := Lib.hid (C.bel HT52.out hb); have HB6 := Lib.hid (HB5.out.trans (hb.mono HB5.out.size)); clear hr hb hq)
              | (go_at_call 27; (with_reducible refine (HI.out _ _ _ _ _ HQ1.out HQ2.out).mono ?_); rintro e w8 ⟨rfl, hb⟩; have HT8 := Lib.hid (C.bel HT6.out hb); have HT82 := Lib.hid (C.bel HT62.out hb); have HB8 := Lib.hid (HB6.out.trans (hb.mono HB6.out.size)); clear hb))
            go_roundw
            case rel => exact ⟨k2 + 1, by omega, by go_num, HT8, HT82, HB8⟩
            case measure => simp [intOf]; omega
          · have hltz2 : ¬ (k2 : Int) < h12 := by omega
            go_wp2_with (go_at_call 15; (with_reducible refine (HAW.out _).mono ?_); rintro e w9 ⟨rfl, hb⟩; have HB := Lib.hid (HB.out.trans (hb.mono HB.out.size)); clear hb)
            go_ret
            exact ⟨rfl, HB.out⟩
  · have hbz : (80 : Int) < L.length := by omega
    clear hx hxs hc hw hp
    generalize L.length = m at *
    go_enter Tryz.func6, Tryz.ntmps6
    go_wp2_with (go_at_call 15; (with_reducible refine (HAW.out _).mono ?_); rintro e w9 ⟨rfl, hb⟩; have HB := Lib.hid hb; clear hb)
    go_ret
    exact ⟨rfl, HB.out⟩
end Go.Proofs.YtfcpfffgodljeaaGreat
