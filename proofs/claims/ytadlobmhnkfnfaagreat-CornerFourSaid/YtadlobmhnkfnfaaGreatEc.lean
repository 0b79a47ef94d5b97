/-
  CornerFour: four corners that have no number in common have each point once; over any tree that tells corners.
-/
import Derived.Test.YtadlobmhnkfnfaaGreatME
namespace Go.Proofs.YtadlobmhnkfnfaaGreat.Co
open Go.ChangeShapes Go.WideShapes Go.ChangeAt Go.RowKit Go.Joins
set_option maxRecDepth 100000 in
set_option maxHeartbeats 12800000 in
theorem four_walk {TS : World → Value → Nat → List Nat → List S3 → Prop} (C : CornC TS) (w : World) (p : Option Addr) (c : Nat) (L : List S3) (x y : Int) (hx : TsS w p L) (hc : L.length ≤ c) (hp : p = none → c = 0) (hw : ∀ s ∈ L, Wf3 s) (hwx : (Lit.int .i64 x).wf = true) (hwy : (Lit.int .i64 y).wf = true) :
    Calls Tryz.prog 5 #[.slice p L.length c, .int .i64 x, .int .i64 y] w fun e w' => e = .returned (.bool true) ∧ Below w.heap.size w w' := by
  have HAW := Lib.hid (awake_any C)
  have hxr := i64_range hwx
  have hyr := i64_range hwy
  obtain ⟨hx1, hx2⟩ := hxr
  obtain ⟨hy1, hy2⟩ := hyr
  have HB := Lib.hid (Below.refl w.heap.size w)
  by_cases hbig : L.length ≤ 100
  · have hbz : ¬ (100 : Int) < L.length := by omega
    by_cases hxm : x = 9223372036854775807
    · subst hxm
      clear hx hc hp hw
      generalize L.length = m at *
      go_enter Tryz.func5, Tryz.ntmps5
      go_wp2_with (go_at_call 9; (with_reducible refine (HAW.out _).mono ?_); rintro e w9 ⟨rfl, hb⟩; have HB := Lib.hid (HB.out.trans (hb.mono HB.out.size)); clear hb)
      go_ret
      exact ⟨rfl, HB.out⟩
    · have hxn : (x == 9223372036854775807) = false := by simpa using hxm
      by_cases hym : y = 9223372036854775807
      · subst hym
        clear hx hc hp hw
        generalize L.length = m at *
        go_enter Tryz.func5, Tryz.ntmps5
        go_wp2_with (go_at_call 9; (with_reducible refine (HAW.out _).mono ?_); rintro e w9 ⟨rfl, hb⟩; have HB := Lib.hid (HB.out.trans (hb.mono HB.out.size)); clear hb)
        go_ret
        exact ⟨rfl, HB.out⟩
      · have hyn : (y == 9223372036854775807) = false := by simpa using hym
        have HX := Lib.hid hx
        have HWF := Lib.hid hw
        have HBU := Lib.hid (C.build w p c L hx (by omega) hc hp hw)
        obtain ⟨m, hmm⟩ : ∃ m, m = L.length := ⟨_, rfl⟩
        have HM := Lib.hid hmm
        rw [← hmm] at HBU hbz hbig ⊢
        have HXE := Lib.hid (show -9223372036854775808 ≤ x ∧ x < 9223372036854775807 by omega)
        have HYE := Lib.hid (show -9223372036854775808 ≤ y ∧ y < 9223372036854775807 by omega)
        clear hx hc hp hw hmm
        by_cases hrg : Rg L
        · have HRG := Lib.hid hrg
          have hmk := @run_makeMap Tryz.prog
          go_enter Tryz.func5, Tryz.ntmps5
          go_upto_region 6 with (go_at_call 10; (with_reducible refine HBU.out.mono ?_); rintro e w1 ⟨hb, hor⟩; rcases hor with ⟨-, v, S, rfl, hT, hS⟩ | ⟨hn', -⟩; rotate_left; (exact absurd hrg hn'); rw [← HM.out] at hT; have HT := Lib.hid hT; have HB := Lib.hid hb; clear hb hT hS)
          obtain ⟨W, hW⟩ : ∃ W, W = w1.alloc (.map #[] 0) := ⟨_, rfl⟩
          have HMP := Lib.hid (show MP Tryz.prog 31 W w1.heap.size (ones (fourN L x y 0)) by rw [hW]; exact MP.made _ _ w1)
          have HSM := Lib.hid (C.lies HT.out)
          have HMB := Lib.hid (show w.heap.size ≤ w1.heap.size from HB.out.size)
          have HB := Lib.hid (show Below w.heap.size w W by rw [hW]; exact HB.out.alloc HB.out.size _)
          have HT := Lib.hid (show TS W v m S L by rw [hW]; exact C.bel HT.out ((Below.refl _ w1).alloc (Nat.le_refl _) _))
          have HW := Lib.hid hW.symm
          clear hW hrg
          go_upto_region 7 with fail
          rw [HW.out]
          clear HW hmk
          go_wp2
          generalize w1.heap.size = mb at *
          go_loopw [10, 43] (fun v10 v43 wr => ∃ k : Nat, k ≤ 4 ∧ v43 = .int .u8 k ∧ v10 = .int .i64 (fourN L x y k).length ∧ Hid (MP Tryz.prog 31 wr mb (ones (fourN L x y k))) ∧ Hid (TS wr v m S L) ∧ Hid (Below w.heap.size w wr)) (fun _ v _ => 4 - (intOf v).toNat)
          case atStart => exact ⟨0, Nat.zero_le _, rfl, rfl, HMP, HT, HB⟩
          case round =>
            clear HMP HT HB
            obtain ⟨k, hk, rfl, rfl, HMP, HT, HB⟩ := hrel
            by_cases hlt : k < 4
            · have hltz : (k : Int) < 4 := by omega
              obtain ⟨r, hr0⟩ : ∃ r, r = k % 2 := ⟨_, rfl⟩
              obtain ⟨d, hd0⟩ : ∃ d, d = k / 2 := ⟨_, rfl⟩
              have hr : (k : Int) % 2 = (r : Int) := by omega
              have hd : (k : Int) / 2 = (d : Int) := by omega
              have hr1 : r ≤ 1 := by omega
              have hd1 : d ≤ 1 := by omega
              obtain ⟨hxa, hxb⟩ := HXE.out
              obtain ⟨hya, hyb⟩ := HYE.out
              have HRE := Lib.hid (fun X (h : TS X v m S L) => C.report (x + r) (y + d) k h (WalkArith.wf_i64 (by omega)) (WalkArith.wf_i64 (by omega)) (by omega))
              have HCO := Lib.hid (fun X (h : TS X v m S L) => C.count (x + r) (y + d) k h (WalkArith.wf_i64 (by omega)) (WalkArith.wf_i64 (by omega)) (by omega))
              have HFS := Lib.hid (show fourN L x y (k + 1) = fourN L x y k ++ nmS (coB (x + r) (y + d) k) L by rw [hr0, hd0]; rfl)
              have HZW := Lib.hid (fun n (h : n ∈ nmS (coB (x + r) (y + d) k) L) => nm_wf HWF.out h)
              have HON := Lib.hid (four_once HRG.out x y (show k + 1 ≤ 4 by omega))
              have hfl := four_len L x y (show k + 1 ≤ 4 by omega)
              rw [HFS.out] at HON hfl
              rw [← HM.out, List.length_append] at hfl
              generalize nmS (coB (x + r) (y + d) k) L = Z at *
              have HRL := Lib.hid (show ∀ (Y : World) r, RL Y r Z → ∃ q c, r = .slice q Z.length c ∧ NS Y q .u32 Z from fun Y r h => by obtain ⟨q, c, h1, h2, -⟩ := h; exact ⟨q, c, h1, h2⟩)
              obtain ⟨F, hF⟩ : ∃ F, F = fourN L x y k := ⟨_, rfl⟩
              rw [← hF] at HMP HFS HON hfl ⊢
              have HF := Lib.hid hF
              obtain ⟨fl, hfe⟩ : ∃ fl, fl = F.length := ⟨_, rfl⟩
              have HFL := Lib.hid hfe
              rw [← hfe] at hfl ⊢
              obtain ⟨zl, hze⟩ : ∃ zl, zl = Z.length := ⟨_, rfl⟩
              have HZL := Lib.hid hze
              rw [← hze] at hfl HRE HCO HRL
              clear hr0 hd0 hF hfe hze
              go_upto_region 15 with (first
                | (go_at_call 17; (with_reducible refine (HRE.out _ HT.out).mono ?_); rintro e w5 ⟨⟨r5, t5, rfl, h5, -, -⟩, hb⟩; obtain ⟨q5, c5, rfl, hq⟩ := HRL.out _ _ h5; have HQ := Lib.hid hq; have HT := Lib.hid (C.bel HT.out hb); have HMP := Lib.hid (HMP.out.keep hb); have HB := Lib.hid (HB.out.trans (hb.mono HB.out.size)); clear hb h5 hq)
                | (go_at_call 18; (with_reducible refine (HCO.out _ HT.out).mono ?_); rintro e w6 ⟨⟨t6, rfl, -⟩, hb⟩; have HQ := Lib.hid (HQ.out.keep hb); have HT := Lib.hid (C.bel HT.out hb); have HMP := Lib.hid (HMP.out.keep hb); have HB := Lib.hid (HB.out.trans (hb.mono HB.out.size)); clear hb))
              clear HRE HCO HRL
              have HM0 := Lib.hid (show MP Tryz.prog 31 w6 mb (ones (F ++ Z.take 0)) by rw [List.take_zero, List.append_nil]; exact HMP.out)
              clear HMP
              have HTx := HT
              have HBx := HB
              have HQx := HQ
              clear HT HB HQ
              go_wp2
              go_loopw [77] (fun v77 wz => ∃ j : Nat, j ≤ zl ∧ v77 = .int .i64 j ∧ Hid (MP Tryz.prog 31 wz mb (ones (F ++ Z.take j))) ∧ Hid (NS wz q5 .u32 Z) ∧ Hid (TS wz v m S L) ∧ Hid (Below w.heap.size w wz)) (fun i _ => zl - (intOf i).toNat)
              case atStart => exact ⟨0, Nat.zero_le _, rfl, HM0, HQx, HTx, HBx⟩
              case round =>
                clear HM0 HQx HTx HBx
                obtain ⟨j, hj, rfl, HMP, HQ, HT, HB⟩ := hrel
                by_cases hlt2 : j < zl
                · have hltz2 : (j : Int) < zl := by omega
                  obtain ⟨n, hne⟩ : ∃ n, Z[j]? = some n := ⟨_, List.getElem?_eq_getElem (by have := HZL.out; omega)⟩
                  have hwf := HZW.out n (List.mem_of_getElem? hne)
                  have htk : Z.take (j + 1) = Z.take j ++ [n] := by rw [List.take_add_one, hne]; rfl
                  have hnd : ((F ++ Z.take j) ++ [n]).Nodup := by
                    rw [List.append_assoc, ← htk]
                    exact HON.out.sublist ((List.Sublist.refl F).append (List.take_sublist _ _))
                  obtain ⟨hlook, w12, hput, hM2, hO2⟩ := ones_more HMP.out hnd hwf (by rw [List.length_append, List.length_take, ← HFL.out]; omega)
                  rw [List.append_assoc, ← htk] at hM2
                  have HM2 := Lib.hid hM2
                  have HN2 := Lib.hid (ns_mapped HMP.out HQ.out hO2)
                  have HT2 := Lib.hid (C.keep HT.out hO2 (fun b hb hb2 => by have := HSM.out b hb; rw [List.mem_singleton.1 hb2] at this; exact Nat.lt_irrefl _ this))
                  have HB3 := Lib.hid (HB.out.trans (hO2.below HB.out.size (fun b hb => by rw [List.mem_singleton.1 hb]; exact HMB.out)))
                  rcases HQ.out with h0 | ⟨b, off, rfl, h1⟩
                  · rw [h0] at hne; simp at hne
                  · have cx := h1 j n hne
                    clear h1 hne hwf htk hnd hM2 hO2
                    go_wp2_with (first
                      | (at_lookup; refine wpList_lookR rfl _ _ _ _ rfl _ _ _ rfl rfl hlook ?_)
                      | (at_mapUpdate; refine wpList_putR rfl _ _ _ _ rfl _ _ _ rfl rfl rfl hput ?_))
                    go_roundw
                    case rel => exact ⟨j + 1, by omega, by go_num, HM2, HN2, HT2, HB3⟩
                    case measure => simp [intOf]; omega
                · obtain rfl : j = zl := by omega
                  have hltz2 : ¬ (j : Int) < j := by omega
                  have HM3 := Lib.hid (show MP Tryz.prog 31 wr mb (ones (fourN L x y (k + 1))) by
                    have h := HMP.out
                    rw [List.take_of_length_le (by have := HZL.out; omega), ← HFS.out] at h
                    exact h)
                  have hsum : (fourN L x y (k + 1)).length = fl + j := by rw [HFS.out, List.length_append, ← HFL.out, ← HZL.out]
                  have HSU := Lib.hid hsum
                  clear hsum
                  go_wp2
                  go_roundw
                  case rel => exact ⟨k + 1, by omega, by go_num, by rw [HSU.out]; go_num, HM3, HT, HB⟩
                  case measure => simp [intOf]; omega
            · have hltz : ¬ (k : Int) < 4 := by omega
              have hk4 : k = 4 := by omega
              have HMX := Lib.hid (show MP Tryz.prog 31 wr mb (ones (fourN L x y 4)) from hk4 ▸ HMP.out)
              have hl4 : (fourN L x y k).length = m := by rw [hk4, four_len4, ← HM.out]
              have HBX := HB
              rw [hl4]
              clear hl4 hk4
              clear HT HB HMP
              go_wp2
              go_loopw [89] (fun v89 wz => ∃ j : Nat, j ≤ m ∧ v89 = .int .i64 j ∧ Hid (MP Tryz.prog 31 wz mb (ones (fourN L x y 4))) ∧ Hid (Below w.heap.size w wz)) (fun i _ => m - (intOf i).toNat)
              case atStart => exact ⟨0, Nat.zero_le _, rfl, HMX, HBX⟩
              case round =>
                clear HMX HBX
                obtain ⟨j, hj, rfl, HMP, HB⟩ := hrel
                by_cases hlt2 : j < m
                · have hltz2 : (j : Int) < m := by omega
                  obtain ⟨s, hse⟩ : ∃ s, L[j]? = some s := ⟨_, List.getElem?_eq_getElem (by have := HM.out; omega)⟩
                  obtain ⟨bb, off, rfl, h1⟩ := (HX.out.keep HB.out).at hse
                  have hms := List.mem_of_getElem? hse
                  have hwf := (HWF.out s hms).2.2
                  have hmem := four_mem hms x y
                  have n0 := h1.c0
                  have n1 := h1.c1
                  have n2 := h1.c2
                  obtain ⟨W4, hW4⟩ : ∃ W4, W4 = wr.alloc (.cells (tvs s).toArray 33) := ⟨_, rfl⟩
                  have hN4 : T1 W4 wr.heap.size 0 s := by rw [hW4]; exact T1.new wr s _
                  have HM4 := Lib.hid (show MP Tryz.prog 31 W4 mb (ones (fourN L x y 4)) by rw [hW4]; exact HMP.out.keep ((Below.refl _ wr).alloc (Nat.le_refl _) _))
                  have HB4 := Lib.hid (show Below w.heap.size w W4 by rw [hW4]; exact HB.out.alloc HB.out.size _)
                  have hlook := ones_look HM4.out hwf hmem
                  have m0 := hN4.c0
                  have m1 := hN4.c1
                  have m2 := hN4.c2
                  simp only [Nat.zero_add] at m0 m1 m2
                  obtain ⟨px, py, pi⟩ := s
                  unfold tvs at hW4
                  simp only at n0 n1 n2 m0 m1 m2 hW4 hlook
                  have HW4 := Lib.hid hW4
                  clear h1 hse hms hwf hmem hN4 hW4
                  go_upto_region 24 with fail
                  rw [← HW4.out]
                  clear HW4 n0 n1 n2
                  go_wp2_with (at_lookup; refine wpList_lookR rfl _ _ _ _ rfl _ _ _ rfl rfl hlook ?_)
                  go_roundw
                  case rel => exact ⟨j + 1, by omega, by go_num, HM4, HB4⟩
                  case measure => simp [intOf]; omega
                · obtain rfl : j = m := by omega
                  have hltz2 : ¬ (j : Int) < j := by omega
                  have hlen := fun ty => HMP.out.len Tryz.underlying48 ty
                  rw [ones_len, four_len4, ← HM.out] at hlen
                  go_wp2_with (go_at_call 9; (with_reducible refine (HAW.out _).mono ?_); rintro e w9 ⟨rfl, hb⟩; have HB := Lib.hid (HB.out.trans (hb.mono HB.out.size)); clear hb)
                  go_ret
                  exact ⟨rfl, HB.out⟩
        · go_enter Tryz.func5, Tryz.ntmps5
          go_wp2_with (first
            | (go_at_call 10; (with_reducible refine HBU.out.mono ?_); rintro e w1 ⟨hb, hor⟩; rcases hor with ⟨hn, -⟩ | ⟨-, v, S, rfl, -, -⟩; (exact absurd hn hrg); have HB := Lib.hid hb; clear hb)
            | (go_at_call 9; (with_reducible refine (HAW.out _).mono ?_); rintro e w9 ⟨rfl, hb⟩; have HB := Lib.hid (HB.out.trans (hb.mono HB.out.size)); clear hb))
          go_ret
          exact ⟨rfl, HB.out⟩
  · have hbz : (100 : Int) < L.length := by omega
    clear hx hc hw hp hbig
    generalize L.length = m at *
    go_enter Tryz.func5, Tryz.ntmps5
    go_wp2_with (go_at_call 9; (with_reducible refine (HAW.out _).mono ?_); rintro e w9 ⟨rfl, hb⟩; have HB := Lib.hid (HB.out.trans (hb.mono HB.out.size)); clear hb)
    go_ret
    exact ⟨rfl, HB.out⟩
end Go.Proofs.YtadlobmhnkfnfaaGreat.Co
