/-
  SortMerges: two lists that are put in order, and merged, come out as both together put in order; whatever does not rise is ErrArg. For every two lists of keys; no condition.
-/
import Derived.Test.YtomchimjogdkkaaLift
import Derived.Test.YtomchimjogdkkaaApp
namespace Go.Proofs.Ytomchimjogdkkaa
open Go.ChangeShapes Go.WideShapes Go.ChangeAt Go.RowKit Go.Joins

theorem fine_step {g f : Bool} {A B : List (Int × Int)} (x y : Int × Int) (h : f = (g && decide (A = B))) : (f && decide (x = y)) = (g && decide (A ++ [x] = B ++ [y])) := by
  have hi : (A ++ [x] = B ++ [y]) ↔ (A = B ∧ x = y) := ⟨fun e => by have := List.append_inj' e rfl; simpa using this, by rintro ⟨rfl, rfl⟩; rfl⟩
  subst h
  cases g <;> by_cases h1 : A = B <;> by_cases h2 : x = y <;> simp [hi, h1, h2]

set_option maxRecDepth 100000 in
set_option maxHeartbeats 12800000 in
theorem merges_walk (pa : Option Addr) (ca : Nat) (xs : List (Int × Int)) (pb : Option Addr) (cb : Nat) (ys : List (Int × Int)) (w : World)
    (hka : KS w pa xs) (_hl1 : xs.length ≤ ca) (_hm1 : ca ≤ maxLen) (hkb : KS w pb ys) (_hl2 : ys.length ≤ cb) (_hm2 : cb ≤ maxLen) :
    Calls Try.prog 5 #[.slice pa xs.length ca, .slice pb ys.length cb] w fun e w' => e = .returned (.bool true) ∧ Below w.heap.size w w' := by
  have hmx : maxLen = 9223372036854775807 := rfl
  by_cases hbig : 1000 < xs.length ∨ 1000 < ys.length
  · by_cases h1 : 1000 < xs.length
    · have hbz : (1000 : Int) < xs.length := by omega
      go_enter Try.func5, Try.ntmps5
      go_wp2_with (go_at_call 9; (with_reducible refine (awake_any _).mono ?_); rintro e w1 ⟨rfl, hb⟩)
      go_ret
      exact ⟨rfl, hb⟩
    · have hbz : ¬ (1000 : Int) < xs.length := by omega
      have hbz2 : (1000 : Int) < ys.length := by omega
      go_enter Try.func5, Try.ntmps5
      go_wp2_with (go_at_call 9; (with_reducible refine (awake_any _).mono ?_); rintro e w1 ⟨rfl, hb⟩)
      go_ret
      exact ⟨rfl, hb⟩
  have C1 := Lib.hid (fun X (hX : KS X pa xs) => Order_any X pa ca xs hX (by omega))
  have C2 := Lib.hid (fun X (hX : KS X pb ys) => Order_any X pb cb ys hX (by omega))
  have C3 := Lib.hid (fun X q c (hX : KS X pa xs) (hQ : NS X q .i64 (srt xs)) => rises_any X pa q ca c xs (srt xs) hX hQ (good_srt xs) (by omega))
  have C4 := Lib.hid (fun X q c (hX : KS X pb ys) (hQ : NS X q .i64 (srt ys)) => rises_any X pb q cb c ys (srt ys) hX hQ (good_srt ys) (by omega))
  have M2 := Lib.hid (fun X (hX : KS X pa xs) (hY : KS X pb ys) => Merge_any X pa pb ca cb xs ys hX hY (by omega))
  have HKa := Lib.hid hka
  have HKb := Lib.hid hkb
  have HSA := Lib.hid (srt_len xs)
  have HSB := Lib.hid (srt_len ys)
  clear hka hkb
  obtain ⟨la, hla⟩ : ∃ n, n = xs.length := ⟨_, rfl⟩
  obtain ⟨lb, hlb⟩ : ∃ n, n = ys.length := ⟨_, rfl⟩
  rw [← hla] at C1 C3 hbig HSA
  rw [← hlb] at C2 C4 hbig HSB
  simp only [← hla, ← hlb] at M2
  rw [← hla, ← hlb]
  have HLA := Lib.hid hla
  have HLB := Lib.hid hlb
  clear hla hlb
  have hna : ¬ (1000 : Int) < la := by omega
  have hnb : ¬ (1000 : Int) < lb := by omega
  go_enter Try.func5, Try.ntmps5
  go_upto_region 9 with (first
    | (go_at_call 12; (with_reducible refine (C1.out w HKa.out).mono ?_); rintro e w1 ⟨A1, rfl, -, -, -, ⟨r1, -, hE⟩, hb⟩; rw [HSA.out]; have HE11 := Lib.hid hE.nsn; have HB1 := Lib.hid hb; have HKa1 := Lib.hid (HKa.out.keep hb); have HKb1 := Lib.hid (HKb.out.keep hb); clear hb hE)
    | (go_at_call 12; (with_reducible refine (C2.out w1 HKb1.out).mono ?_); rintro e w2 ⟨A2, rfl, -, -, -, ⟨r2, -, hE⟩, hb⟩; rw [HSB.out]; have HE22 := Lib.hid hE.nsn; have HE12 := Lib.hid (HE11.out.keep hb); have HB2 := Lib.hid (HB1.out.trans (hb.mono HB1.out.size)); have HKa2 := Lib.hid (HKa1.out.keep hb); have HKb2 := Lib.hid (HKb1.out.keep hb); clear hb hE)
    | (go_at_call 21; (with_reducible refine (C3.out w2 _ _ HKa2.out HE12.out.to).mono ?_); rintro e w3 ⟨rfl, hb⟩; have HE23 := Lib.hid (HE22.out.keep hb); have HE13 := Lib.hid (HE12.out.keep hb); have HB3 := Lib.hid (HB2.out.trans (hb.mono HB2.out.size)); have HKa3 := Lib.hid (HKa2.out.keep hb); have HKb3 := Lib.hid (HKb2.out.keep hb); clear hb)
    | (go_at_call 21; (with_reducible refine (C4.out w3 _ _ HKb3.out HE23.out.to).mono ?_); rintro e w4 ⟨rfl, hb⟩; have HE24 := Lib.hid (HE23.out.keep hb); have HE14 := Lib.hid (HE13.out.keep hb); have HB4 := Lib.hid (HB3.out.trans (hb.mono HB3.out.size)); have HKa4 := Lib.hid (HKa3.out.keep hb); have HKb4 := Lib.hid (HKb3.out.keep hb); clear hb))
  clear C1 C2 C3 C4 HE11 HE12 HE13 HE22 HE23 HKa HKa1 HKa2 HKa3 HKb HKb1 HKb2 HKb3 HB1 HB2 HB3
  go_wp2_with fail
  go_loopw [11, 13, 65] (fun v s13 si wr => ∃ (i : Nat) (f : Bool), i ≤ la ∧ si = .int .i64 i ∧ s13 = .bool f ∧ Hid (wr.ownsRow w4.heap.size 40 2 v i (kcells ((keyed xs).take i))) ∧ Hid (f = (true && decide ((keyed xs).take i = xs.take i))) ∧ Hid (Below w4.heap.size w4 wr))
    (fun _ _ si _ => la - (intOf si).toNat)
  case atStart => exact ⟨0, true, Nat.zero_le _, rfl, rfl, Lib.hid (World.ownsRow_nil _ _ _ _), Lib.hid (by simp), Lib.hid (Below.refl _ _)⟩
  case round =>
    obtain ⟨i, f, hin, rfl, rfl, HOWN, HF, HB⟩ := hrel
    by_cases hlt1 : i < la
    · have hltz : (i : Int) < la := by omega
      have hsl := srt_len xs
      have hkl := keyed_len xs
      have hla := HLA.out
      obtain ⟨k, hk⟩ : ∃ k : Nat, (srt xs)[i]? = some (k : Int) := by
        have h1 := (good_srt xs).dom (srt xs)[i] (List.getElem_mem (by omega))
        exact ⟨(srt xs)[i].toNat, by rw [List.getElem?_eq_getElem (by omega), Int.toNat_of_nonneg h1.1]⟩
      have hkn : k < la := by
        have := (good_srt xs).dom (k : Int) (List.mem_of_getElem? hk)
        omega
      obtain ⟨x, hx⟩ : ∃ x, xs[k]? = some x := ⟨_, List.getElem?_eq_getElem (by omega)⟩
      obtain ⟨y, hy⟩ : ∃ y, xs[i]? = some y := ⟨_, List.getElem?_eq_getElem (by omega)⟩
      have hkx : (keyed xs)[i]? = some x := by simp [keyed, hk, hx]
      have ht1 : (keyed xs).take (i + 1) = (keyed xs).take i ++ [x] := by rw [List.take_add_one, hkx]; rfl
      have ht2 : xs.take (i + 1) = xs.take i ++ [y] := by rw [List.take_add_one, hy]; rfl
      rcases HKa4.out with he | ⟨b, off, rfl, hks, hbl⟩
      · rw [he] at hy; cases hy
      have up : ∀ a v, w4.cell? a = some v → wr.cell? a = some v := fun a v e => (HB.out.cell (World.block_lt_of_cell? w4 _ e)).trans e
      have cp := up _ _ (HE14.out i _ hk)
      rw [Nat.zero_add] at cp
      have c1 := up _ _ (hks k x hx).1
      have c2 := up _ _ (hks k x hx).2
      have d1 := up _ _ (hks i y hy).1
      have d2 := up _ _ (hks i y hy).2
      have HT1 := Lib.hid ht1
      have HT2 := Lib.hid ht2
      have HTI := Lib.hid (show ((keyed xs).take i).length = i by simp; omega)
      have hbl0 := Lib.hid hbl
      clear hsl hkl hla hk hx hy hkx ht1 ht2 up hks hbl
      go_upto_region 13 with (at_builtin; refine wpList_appK rfl (.tmp 68) (.tmp 76) rfl w4.heap.size i _ ((keyed xs).take i) [x] (some ⟨wr.heap.size, 0, none⟩) 1 rfl rfl (HOWN.out.alloc _) (KS.one wr x) (fun h => by cases h) ?_ ?_ ?_)
      · simp; omega
      · have := HB.out.size; simp; omega
      intro v' w1 hown' hgrow
      have HB1 := Lib.hid ((HB.out.alloc HB.out.size (.cells #[.int .i64 x.1, .int .u32 x.2] 40)).grown hgrow (by have := HB.out.size; simp; omega) (fun k hk => (HOWN.out.lt k hk).1))
      rw [← HT1.out] at hown'
      have hown2 := hown'
      obtain ⟨p', c', rfl, hlen', hKS', -⟩ := KS.own hown'
      have HOWN1 := Lib.hid hown2
      rcases hKS' with he | ⟨g, o, rfl, hks', -⟩
      · rw [HT1.out] at he; simp at he
      have hxi : ((keyed xs).take (i + 1))[i]? = some x := by
        rw [HT1.out, List.getElem?_append_right (Nat.le_of_eq HTI.out), HTI.out, Nat.sub_self]
        rfl
      have e1 := (hks' i x hxi).1
      have e2 := (hks' i x hxi).2
      rw [hlen'] at HOWN1 ⊢
      have q1 : ∀ s : Wd (Bw w1), s.w.cell? ⟨g, o + i * 2, none⟩ = some (.int .i64 x.1) := fun s => Bw.cell s e1
      have q2 : ∀ s : Wd (Bw w1), s.w.cell? ⟨g, o + i * 2 + 1, none⟩ = some (.int .u32 x.2) := fun s => Bw.cell s e2
      have up1 : ∀ a v, a.block < w4.heap.size → wr.cell? a = some v → w1.cell? a = some v := fun a v h e => by rw [HB1.out.cell h, ← HB.out.cell h]; exact e
      have hb0 : b < w4.heap.size := hbl0.out
      have q3 : ∀ s : Wd (Bw w1), s.w.cell? ⟨b, off + i * 2, none⟩ = some (.int .i64 y.1) := fun s => Bw.cell s (up1 _ _ hb0 d1)
      have q4 : ∀ s : Wd (Bw w1), s.w.cell? ⟨b, off + i * 2 + 1, none⟩ = some (.int .u32 y.2) := fun s => Bw.cell s (up1 _ _ hb0 d2)
      have inst : Nonempty (Wd (Bw w1)) := ⟨⟨w1, Below.refl _ _⟩⟩
      have eq1 := eqk x y
      have eq2 := gdk
      clear hown' hgrow hown2 hks' hxi e1 e2 up1 cp c1 c2 d1 d2 HOWN HB
      go_upto_region 13 with fail
      cases f
      · refine wp_region_wd (Bw w1) (by kernel_rfl) (by kernel_rfl) ((Below.refl _ w1).drew) ?_
        repeat (first | go_big_quiet_step (fail) | quiet_step (fail))
        refine wpQuiet_nil ?_
        rintro _ ⟨s, rfl⟩
        have HB2 := Lib.hid (HB1.out.trans (s.h.mono HB1.out.size))
        have HO2 := Lib.hid (HOWN1.out.kept (row := none) ⟨s.h.os, s.h.tape, s.h.output, s.h.size, fun k hk _ => s.h.block k hk⟩ (.inr (by simp [Value.ownBlock])))
        go_wp2
        go_roundw
        case rel => exact ⟨i + 1, false, by omega, by first | rfl | go_num, rfl, HO2, Lib.hid (by rw [HT1.out, HT2.out]; exact fine_step x y HF.out), HB2⟩
        case measure => simp [intOf]; omega
      · obtain ⟨q, hq⟩ : ∃ q, q = decide (x = y) := ⟨_, rfl⟩
        rw [← hq] at eq1
        have HQ := Lib.hid hq
        clear hq
        refine wp_region_wd (Bw w1) (by kernel_rfl) (by kernel_rfl) ((Below.refl _ w1).drew) ?_
        repeat (first | go_big_quiet_step (fail) | quiet_step (fail))
        refine wpQuiet_nil ?_
        rintro _ ⟨s, rfl⟩
        have HB2 := Lib.hid (HB1.out.trans (s.h.mono HB1.out.size))
        have HO2 := Lib.hid (HOWN1.out.kept (row := none) ⟨s.h.os, s.h.tape, s.h.output, s.h.size, fun k hk _ => s.h.block k hk⟩ (.inr (by simp [Value.ownBlock])))
        go_wp2
        go_roundw
        case rel => exact ⟨i + 1, q, by omega, by first | rfl | go_num, rfl, HO2, Lib.hid (by rw [HT1.out, HT2.out, HQ.out]; exact fine_step x y HF.out), HB2⟩
        case measure => simp [intOf]; omega
    · have hltz : ¬ (i : Int) < la := by omega
      have hie : la = i := by omega
      subst hie
      obtain ⟨w5, hw5⟩ : ∃ w5, w5 = wr := ⟨_, rfl⟩
      subst hw5
      have hkl := keyed_len xs
      have htk : (keyed xs).take la = keyed xs := List.take_of_length_le (by have := HLA.out; omega)
      have htk2 : xs.take la = xs := List.take_of_length_le (by have := HLA.out; omega)
      rw [htk] at HOWN HF
      rw [htk2, Bool.true_and] at HF
      obtain ⟨px, cx, rfl, hlx, hKx, hcx⟩ := KS.own HOWN.out
      rw [hlx]
      have HKx5 := Lib.hid hKx
      have HCX := Lib.hid hcx
      have hB5 : Below w4.heap.size w4 w5 := HB.out
      have HKa5 := Lib.hid (HKa4.out.keep hB5)
      have HKb5 := Lib.hid (HKb4.out.keep hB5)
      have HE25 := Lib.hid (HE24.out.keep hB5)
      have HB5 := Lib.hid (HB4.out.trans (hB5.mono HB4.out.size))
      have HF1 := HF
      have HLX := Lib.hid hlx
      obtain ⟨f1, hf1⟩ : ∃ f1, f1 = f := ⟨_, rfl⟩
      subst hf1
      clear hkl htk htk2 HOWN HF hKx hcx hB5 HKa4 HKb4 HE24 HE14 HB4 HB hlx
      go_wp2_with fail
      go_loopw [12, 13, 93] (fun v s13 si wr => ∃ (i : Nat) (f : Bool), i ≤ lb ∧ si = .int .i64 i ∧ s13 = .bool f ∧ Hid (wr.ownsRow w5.heap.size 40 2 v i (kcells ((keyed ys).take i))) ∧ Hid (f = (f1 && decide ((keyed ys).take i = ys.take i))) ∧ Hid (Below w5.heap.size w5 wr))
        (fun _ _ si _ => lb - (intOf si).toNat)
      case atStart => exact ⟨0, f1, Nat.zero_le _, rfl, rfl, Lib.hid (World.ownsRow_nil _ _ _ _), Lib.hid (by simp), Lib.hid (Below.refl _ _)⟩
      case round =>
        obtain ⟨i, f, hin, rfl, rfl, HOWN, HF, HB⟩ := hrel
        by_cases hlt2 : i < lb
        · have hltz : (i : Int) < lb := by omega
          have hsl := srt_len ys
          have hkl := keyed_len ys
          have hla := HLB.out
          obtain ⟨k, hk⟩ : ∃ k : Nat, (srt ys)[i]? = some (k : Int) := by
            have h1 := (good_srt ys).dom (srt ys)[i] (List.getElem_mem (by omega))
            exact ⟨(srt ys)[i].toNat, by rw [List.getElem?_eq_getElem (by omega), Int.toNat_of_nonneg h1.1]⟩
          have hkn : k < lb := by
            have := (good_srt ys).dom (k : Int) (List.mem_of_getElem? hk)
            omega
          obtain ⟨x, hx⟩ : ∃ x, ys[k]? = some x := ⟨_, List.getElem?_eq_getElem (by omega)⟩
          obtain ⟨y, hy⟩ : ∃ y, ys[i]? = some y := ⟨_, List.getElem?_eq_getElem (by omega)⟩
          have hkx : (keyed ys)[i]? = some x := by simp [keyed, hk, hx]
          have ht1 : (keyed ys).take (i + 1) = (keyed ys).take i ++ [x] := by rw [List.take_add_one, hkx]; rfl
          have ht2 : ys.take (i + 1) = ys.take i ++ [y] := by rw [List.take_add_one, hy]; rfl
          rcases HKb5.out with he | ⟨b, off, rfl, hks, hbl⟩
          · rw [he] at hy; cases hy
          have up : ∀ a v, w5.cell? a = some v → wr.cell? a = some v := fun a v e => (HB.out.cell (World.block_lt_of_cell? w5 _ e)).trans e
          have cp := up _ _ (HE25.out i _ hk)
          rw [Nat.zero_add] at cp
          have c1 := up _ _ (hks k x hx).1
          have c2 := up _ _ (hks k x hx).2
          have d1 := up _ _ (hks i y hy).1
          have d2 := up _ _ (hks i y hy).2
          have HT1 := Lib.hid ht1
          have HT2 := Lib.hid ht2
          have HTI := Lib.hid (show ((keyed ys).take i).length = i by simp; omega)
          have hbl0 := Lib.hid hbl
          clear hsl hkl hla hk hx hy hkx ht1 ht2 up hks hbl
          go_upto_region 19 with (at_builtin; refine wpList_appK rfl (.tmp 96) (.tmp 104) rfl w5.heap.size i _ ((keyed ys).take i) [x] (some ⟨wr.heap.size, 0, none⟩) 1 rfl rfl (HOWN.out.alloc _) (KS.one wr x) (fun h => by cases h) ?_ ?_ ?_)
          · simp; omega
          · have := HB.out.size; simp; omega
          intro v' w1 hown' hgrow
          have HB1 := Lib.hid ((HB.out.alloc HB.out.size (.cells #[.int .i64 x.1, .int .u32 x.2] 40)).grown hgrow (by have := HB.out.size; simp; omega) (fun k hk => (HOWN.out.lt k hk).1))
          rw [← HT1.out] at hown'
          have hown2 := hown'
          obtain ⟨p', c', rfl, hlen', hKS', -⟩ := KS.own hown'
          have HOWN1 := Lib.hid hown2
          rcases hKS' with he | ⟨g, o, rfl, hks', -⟩
          · rw [HT1.out] at he; simp at he
          have hxi : ((keyed ys).take (i + 1))[i]? = some x := by
            rw [HT1.out, List.getElem?_append_right (Nat.le_of_eq HTI.out), HTI.out, Nat.sub_self]
            rfl
          have e1 := (hks' i x hxi).1
          have e2 := (hks' i x hxi).2
          rw [hlen'] at HOWN1 ⊢
          have q1 : ∀ s : Wd (Bw w1), s.w.cell? ⟨g, o + i * 2, none⟩ = some (.int .i64 x.1) := fun s => Bw.cell s e1
          have q2 : ∀ s : Wd (Bw w1), s.w.cell? ⟨g, o + i * 2 + 1, none⟩ = some (.int .u32 x.2) := fun s => Bw.cell s e2
          have up1 : ∀ a v, a.block < w5.heap.size → wr.cell? a = some v → w1.cell? a = some v := fun a v h e => by rw [HB1.out.cell h, ← HB.out.cell h]; exact e
          have hb0 : b < w5.heap.size := hbl0.out
          have q3 : ∀ s : Wd (Bw w1), s.w.cell? ⟨b, off + i * 2, none⟩ = some (.int .i64 y.1) := fun s => Bw.cell s (up1 _ _ hb0 d1)
          have q4 : ∀ s : Wd (Bw w1), s.w.cell? ⟨b, off + i * 2 + 1, none⟩ = some (.int .u32 y.2) := fun s => Bw.cell s (up1 _ _ hb0 d2)
          have inst : Nonempty (Wd (Bw w1)) := ⟨⟨w1, Below.refl _ _⟩⟩
          have eq1 := eqk x y
          have eq2 := gdk
          clear hown' hgrow hown2 hks' hxi e1 e2 up1 cp c1 c2 d1 d2 HOWN HB
          go_upto_region 19 with fail
          cases f
          · refine wp_region_wd (Bw w1) (by kernel_rfl) (by kernel_rfl) ((Below.refl _ w1).drew) ?_
            repeat (first | go_big_quiet_step (fail) | quiet_step (fail))
            refine wpQuiet_nil ?_
            rintro _ ⟨s, rfl⟩
            have HB2 := Lib.hid (HB1.out.trans (s.h.mono HB1.out.size))
            have HO2 := Lib.hid (HOWN1.out.kept (row := none) ⟨s.h.os, s.h.tape, s.h.output, s.h.size, fun k hk _ => s.h.block k hk⟩ (.inr (by simp [Value.ownBlock])))
            go_wp2
            go_roundw
            case rel => exact ⟨i + 1, false, by omega, by first | rfl | go_num, rfl, HO2, Lib.hid (by rw [HT1.out, HT2.out]; exact fine_step x y HF.out), HB2⟩
            case measure => simp [intOf]; omega
          · obtain ⟨q, hq⟩ : ∃ q, q = decide (x = y) := ⟨_, rfl⟩
            rw [← hq] at eq1
            have HQ := Lib.hid hq
            clear hq
            refine wp_region_wd (Bw w1) (by kernel_rfl) (by kernel_rfl) ((Below.refl _ w1).drew) ?_
            repeat (first | go_big_quiet_step (fail) | quiet_step (fail))
            refine wpQuiet_nil ?_
            rintro _ ⟨s, rfl⟩
            have HB2 := Lib.hid (HB1.out.trans (s.h.mono HB1.out.size))
            have HO2 := Lib.hid (HOWN1.out.kept (row := none) ⟨s.h.os, s.h.tape, s.h.output, s.h.size, fun k hk _ => s.h.block k hk⟩ (.inr (by simp [Value.ownBlock])))
            go_wp2
            go_roundw
            case rel => exact ⟨i + 1, q, by omega, by first | rfl | go_num, rfl, HO2, Lib.hid (by rw [HT1.out, HT2.out, HQ.out]; exact fine_step x y HF.out), HB2⟩
            case measure => simp [intOf]; omega
        · have hltz : ¬ (i : Int) < lb := by omega
          have hie : lb = i := by omega
          subst hie
          obtain ⟨w6, hw6⟩ : ∃ w6, w6 = wr := ⟨_, rfl⟩
          subst hw6
          have hkl := keyed_len ys
          have htk : (keyed ys).take lb = keyed ys := List.take_of_length_le (by have := HLB.out; omega)
          have htk2 : ys.take lb = ys := List.take_of_length_le (by have := HLB.out; omega)
          rw [htk] at HOWN HF
          rw [htk2] at HF
          obtain ⟨py, cy, rfl, hly, hKy, hcy⟩ := KS.own HOWN.out
          rw [hly]
          have HKy6 := Lib.hid hKy
          have HCY := Lib.hid hcy
          have HLY := Lib.hid hly
          have hB6 : Below w5.heap.size w5 w6 := HB.out
          have HKx6 := Lib.hid (HKx5.out.keep hB6)
          have HKa6 := Lib.hid (HKa5.out.keep hB6)
          have HKb6 := Lib.hid (HKb5.out.keep hB6)
          have HB6 := Lib.hid (HB5.out.trans (hB6.mono HB5.out.size))
          have hfin : f = (risD xs && risD ys) := by
            have h1 : decide (keyed xs = xs) = risD xs := by rw [Bool.eq_iff_iff]; simp [keyed_iff]
            have h2 : decide (keyed ys = ys) = risD ys := by rw [Bool.eq_iff_iff]; simp [keyed_iff]
            rw [HF.out, HF1.out, h1, h2]
          have HFIN := Lib.hid hfin
          clear hkl htk htk2 HOWN HF hKy hcy hB6 HKx5 HKa5 HKb5 HE25 HB5 HB HF1 hfin hly
          have C5 := CopyKeys_any w6 px cx (keyed xs) HKx6.out HCX.out (by have := HLX.out; omega)
          rw [HLX.out] at C5
          have HC5 := Lib.hid C5
          clear C5
          go_upto_region 22 with (first
            | (go_at_call 10; (with_reducible refine HC5.out.mono ?_); rintro e w7 ⟨v7, rfl, hown7, hb⟩; have HO7 := Lib.hid hown7; have HB7 := Lib.hid hb; have HKy7 := Lib.hid (HKy6.out.keep hb); clear hown7 hb)
            | (at_builtin; refine wpList_appK rfl (.tmp 120) (.tmp 121) rfl w6.heap.size _ v7 (keyed xs) (keyed ys) py cy rfl ?hx HO7.out HKy7.out HCY.out ?_ HB7.out.size ?_))
          case hx => rw [HLY.out]; rfl
          · have := HLY.out; omega
          intro v8 w8 hown8 hgrow
          have hB8 : Below w6.heap.size w6 w8 := HB7.out.grown hgrow HB7.out.size (fun k hk => (HO7.out.lt k hk).1)
          obtain ⟨p8, c8, rfl, hl8, hK8, -⟩ := KS.own hown8
          have HK8 := Lib.hid hK8
          have HKx8 := Lib.hid (HKx6.out.keep hB8)
          have HKy8 := Lib.hid (HKy6.out.keep hB8)
          have HKa8 := Lib.hid (HKa6.out.keep hB8)
          have HKb8 := Lib.hid (HKb6.out.keep hB8)
          have HB8 := Lib.hid (HB6.out.trans (hB8.mono HB6.out.size))
          have M1 := fun X (h1 : KS X px (keyed xs)) (h2 : KS X py (keyed ys)) => Merge_any X px py cx cy (keyed xs) (keyed ys) h1 h2 (by have := HLX.out; have := HLY.out; omega)
          simp only [ris_keyed, Bool.and_self, if_true, mgd_eq (ris_keyed xs) (ris_keyed ys), HLX.out, HLY.out] at M1
          have C6 := fun X (h1 : KS X p8 (keyed xs ++ keyed ys)) => Order_any X p8 c8 (keyed xs ++ keyed ys) h1 (by have := HLX.out; have := HLY.out; simp; omega)
          have hlen8 : (keyed xs ++ keyed ys).length = la + lb := by simp [HLX.out, HLY.out]
          rw [hlen8] at C6 ⊢
          have HM1 := Lib.hid M1
          have HC6 := Lib.hid C6
          have hsl8 : (srt (keyed xs ++ keyed ys)).length = la + lb := by rw [srt_len, hlen8]
          have I1 := fun X q r c d (h1 : NS X q .i64 (srt (keyed xs ++ keyed ys))) (h2 : NS X r .i64 (srt (keyed xs ++ keyed ys))) => ints_any X q r c d _ _ h1 h2 (by omega)
          simp only [hsl8, decide_true] at I1
          have HI1 := Lib.hid I1
          have HS8 := Lib.hid hsl8
          clear hown8 hgrow hB8 hK8 M1 C6 hlen8 I1 hsl8 hl8 HO7 HB7 HKy7 HKx6 HKy6 HKa6 HKb6 HB6 HC5 HCX HCY
          obtain ⟨n, hn⟩ : ∃ n, n = la + lb := ⟨_, rfl⟩
          rw [← hn] at HM1 HC6 HI1 HS8 ⊢
          clear hn
          obtain ⟨r, hr⟩ : ∃ r, r = (risD xs && risD ys) := ⟨_, rfl⟩
          rw [← hr] at HFIN
          simp only [← hr] at M2
          have hfr := HFIN.out
          subst hfr
          clear hr HFIN
          cases f
          · simp only [Bool.false_eq_true, if_false] at M2
            go_wp2_with (first
              | (go_at_call 15; (with_reducible refine (HM1.out w8 HKx8.out HKy8.out).mono ?_); rintro e w9 ⟨A9, rfl, -, -, -, ⟨r9, -, hE⟩, hb⟩; rw [HS8.out]; have HE9 := Lib.hid hE.nsn; have HK9 := Lib.hid (HK8.out.keep hb); have HKa9 := Lib.hid (HKa8.out.keep hb); have HKb9 := Lib.hid (HKb8.out.keep hb); have HB9 := Lib.hid (HB8.out.trans (hb.mono HB8.out.size)); clear hb hE)
              | (go_at_call 12; (with_reducible refine (HC6.out w9 HK9.out).mono ?_); rintro e w10 ⟨A10, rfl, -, -, -, ⟨r10, -, hE⟩, hb⟩; rw [HS8.out]; have HE10 := Lib.hid hE.nsn; have HE910 := Lib.hid (HE9.out.keep hb); have HKa10 := Lib.hid (HKa9.out.keep hb); have HKb10 := Lib.hid (HKb9.out.keep hb); have HB10 := Lib.hid (HB9.out.trans (hb.mono HB9.out.size)); clear hb hE)
              | (go_at_call 14; (with_reducible refine (HI1.out w10 _ _ _ _ HE910.out.to HE10.out.to).mono ?_); rintro e w11 ⟨rfl, hb⟩; have HKa11 := Lib.hid (HKa10.out.keep hb); have HKb11 := Lib.hid (HKb10.out.keep hb); have HB11 := Lib.hid (HB10.out.trans (hb.mono HB10.out.size)); clear hb)
              | (go_at_call 15; (with_reducible refine (M2.out w11 HKa11.out HKb11.out).mono ?_); rintro e w12 ⟨rfl, hb⟩; have HB12 := Lib.hid (HB11.out.trans (hb.mono HB11.out.size)); clear hb)
              | (go_at_call 9; (with_reducible refine (awake_any w12).mono ?_); rintro e w13 ⟨rfl, hb⟩; have HB13 := Lib.hid (HB12.out.trans (hb.mono HB12.out.size)); clear hb))
            go_ret
            exact ⟨rfl, HB13.out⟩
          · simp only [if_true] at M2
            go_wp2_with (first
              | (go_at_call 15; (with_reducible refine (HM1.out w8 HKx8.out HKy8.out).mono ?_); rintro e w9 ⟨A9, rfl, -, -, -, ⟨r9, -, hE⟩, hb⟩; rw [HS8.out]; have HE9 := Lib.hid hE.nsn; have HK9 := Lib.hid (HK8.out.keep hb); have HKa9 := Lib.hid (HKa8.out.keep hb); have HKb9 := Lib.hid (HKb8.out.keep hb); have HB9 := Lib.hid (HB8.out.trans (hb.mono HB8.out.size)); clear hb hE)
              | (go_at_call 12; (with_reducible refine (HC6.out w9 HK9.out).mono ?_); rintro e w10 ⟨A10, rfl, -, -, -, ⟨r10, -, hE⟩, hb⟩; rw [HS8.out]; have HE10 := Lib.hid hE.nsn; have HE910 := Lib.hid (HE9.out.keep hb); have HKa10 := Lib.hid (HKa9.out.keep hb); have HKb10 := Lib.hid (HKb9.out.keep hb); have HB10 := Lib.hid (HB9.out.trans (hb.mono HB9.out.size)); clear hb hE)
              | (go_at_call 14; (with_reducible refine (HI1.out w10 _ _ _ _ HE910.out.to HE10.out.to).mono ?_); rintro e w11 ⟨rfl, hb⟩; have HKa11 := Lib.hid (HKa10.out.keep hb); have HKb11 := Lib.hid (HKb10.out.keep hb); have HB11 := Lib.hid (HB10.out.trans (hb.mono HB10.out.size)); clear hb)
              | (go_at_call 15; (with_reducible refine (M2.out w11 HKa11.out HKb11.out).mono ?_); rintro e w12 ⟨A12, rfl, -, -, -, -, hb⟩; have HB12 := Lib.hid (HB11.out.trans (hb.mono HB11.out.size)); clear hb)
              | (go_at_call 9; (with_reducible refine (awake_any w12).mono ?_); rintro e w13 ⟨rfl, hb⟩; have HB13 := Lib.hid (HB12.out.trans (hb.mono HB12.out.size)); clear hb))
            go_ret
            exact ⟨rfl, HB13.out⟩

set_option maxRecDepth 100000 in
theorem merges_lifted (os : Os) (started : os.Started) (H : Type) (enc : TypeId × Value → H) :
    ReturnsInHanded {} Try.checked os 5 .any (Rows.sortMergesSpec.pre6 enc Try.prog Try.f5 Rows.sortMergesRow.domain false) (Rows.sortMergesSpec.post enc Try.prog Try.f5 false true false false) := by
  refine returnsInHanded_of_change (C := Try.checked) Try.own started (by kernel_rfl) Try.func5
    (ChangeSpec.witness6 (enc := enc) (C := Try.checked) false ⟨#[], #[.slice none 0 0, .slice none 0 0], []⟩ 8 (by kernel_rfl) (by kernel_rfl) (by kernel_rfl) (by kernel_rfl)) ?_
  intro W base args ds gs before hval0 hW hcnd _
  have hval : ∀ (j : Nat) t v, Try.f5.params[j]? = some t → args[j]? = some v → Value.okWide Try.prog W .any base t v := hval0
  have hW' := hW
  obtain ⟨p, q, hA0, hV, rfl, hfz, hnd⟩ := hW
  have hA : DataW.TrodAll enc Try.prog W 0 (fun _ => true) true Try.f5.params.toList args.toList ds p := hA0
  rw [Try.params5] at hA hval
  obtain ⟨v0, vs0, d0, ds0, p0, q0, hargs, rfl, rfl, h0, r0⟩ := trodAll_cons hA
  obtain ⟨v1, vs1, d1, ds1, p1, q1, rfl, rfl, rfl, h1, r1⟩ := trodAll_cons r0
  obtain ⟨rfl, rfl, rfl⟩ := trodAll_nil r1
  obtain rfl : args = #[v0, v1] := by cases args; simp_all
  obtain ⟨rfl, rfl⟩ := trodVars_none hV
  obtain ⟨a0, len0, cap0, rfl⟩ := okWide_slice Try.underlying22 (hval 0 22 v0 rfl rfl)
  obtain ⟨xs0, rfl, hx0, hl0, hm0⟩ := open_keys h0
  obtain ⟨a1, len1, cap1, rfl⟩ := okWide_slice Try.underlying22 (hval 1 22 v1 rfl rfl)
  obtain ⟨xs1, rfl, hx1, hl1, hm1⟩ := open_keys h1
  clear hA0 hval0
  simp only [List.append_nil] at hW'
  have hlt : ∀ x ∈ p0 ++ p1, x.block < W.heap.size := fun x hx => by simpa using hW'.lt x hx
  refine (merges_walk _ _ _ _ _ _ W hx0 hl0 hm0 hx1 hl1 hm1).mono fun e W' ⟨he, hb⟩ => ?_
  subst he
  have hR := (trodAll_cons_mk (Below.trod Try.laidOut (by kernel_rfl) (of_decide_eq_true (by kernel_rfl)) h0 hb (fun x hx => hlt x (by simp [hx]))) (trodAll_cons_mk (Below.trod Try.laidOut (by kernel_rfl) (of_decide_eq_true (by kernel_rfl)) h1 hb (fun x hx => hlt x (by simp [hx]))) trodAll_mk0))
  simp only [List.append_nil] at hR
  exact ⟨_, rfl, law_post hW' (trodAll_cons_mk (shut_bool Try.underlying4 _) trodAll_mk0) hR rfl hb⟩

theorem merges_holds : Rows.SortMergesSaid :=
  OpenClaim.holds_of_wide 5 Try.f5 rfl rfl rfl rfl rfl rfl rfl ⟨rfl, rfl, rfl, rfl, rfl⟩ rfl rfl rfl rfl rfl (by kernel_rfl) Try.func5 (by kernel_rfl)
    (of_decide_eq_true (by kernel_rfl)) (by unfold Func.isWrapper; first | (rw [if_pos (by decide +kernel)]; kernel_rfl) | (rw [if_neg (by decide +kernel)]; exact ⟨rfl, rfl⟩))
    (fun os started H enc _ => merges_lifted os started H enc)
end Go.Proofs.Ytomchimjogdkkaa
