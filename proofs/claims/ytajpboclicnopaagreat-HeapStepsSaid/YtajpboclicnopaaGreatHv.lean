/-
  HeapSteps: as the number rises, sides have more, and just those whose Y is between; as many come as there are; over any tree that tells three sides.
-/
import Derived.Test.YtajpboclicnopaaGreatHu
namespace Go.Proofs.YtajpboclicnopaaGreat.Hp
open Go.ChangeShapes Go.WideShapes Go.ChangeAt Go.RowKit Go.Joins
set_option maxRecDepth 100000 in
set_option maxHeartbeats 12800000 in
theorem steps_walk {TS : World → Value → Nat → List Nat → List S3 → Prop} (C : HeapC TS) (w : World) (p : Option Addr) (c : Nat) (L : List S3) (x1 x2 : Int) (hx : TsS w p L) (hc : L.length ≤ c) (hp : p = none → c = 0) (hw : ∀ s ∈ L, Wf3 s) (hwx : (Lit.int .i64 x1).wf = true) (hwy : (Lit.int .i64 x2).wf = true) :
    Calls Tryz.prog 6 #[.slice p L.length c, .int .i64 x1, .int .i64 x2] w fun e w' => e = .returned (.bool true) ∧ Below w.heap.size w w' := by
  have HAW := Lib.hid (awake_any C)
  by_cases hbig : L.length ≤ 80
  · have hbz : ¬ (80 : Int) < L.length := by omega
    have HX := Lib.hid hx
    have HWF := Lib.hid hw
    have HBU := Lib.hid (C.build w p c L hx (by omega) hc hp hw)
    obtain ⟨m, hmm⟩ : ∃ m, m = L.length := ⟨_, rfl⟩
    have HM := Lib.hid hmm
    rw [← hmm] at HBU hbz hbig ⊢
    have HWX := Lib.hid (And.intro hwx hwy)
    clear hx hc hp hw hmm hwx hwy
    by_cases hrg : Rg L
    · have HRG := Lib.hid hrg
      have hmk := @run_makeMap Tryz.prog
      go_enter Tryz.func6, Tryz.ntmps6
      go_upto_region 6 with (go_at_call 10; (with_reducible refine HBU.out.mono ?_); rintro e w1 ⟨hb, hor⟩; rcases hor with ⟨-, v, S, rfl, hT, hS⟩ | ⟨hn', -⟩; rotate_left; (exact absurd hrg hn'); rw [← HM.out] at hT; have HT := Lib.hid hT; have HB := Lib.hid hb; clear hb hT hS)
      obtain ⟨W, hW⟩ : ∃ W, W = w1.alloc (.map #[] 0) := ⟨_, rfl⟩
      have HMP := Lib.hid (show MP Tryz.prog 32 W w1.heap.size (ysE []) by rw [hW]; exact MP.made _ _ w1)
      have HSM := Lib.hid (C.lies HT.out)
      have HMB := Lib.hid (show w.heap.size ≤ w1.heap.size from HB.out.size)
      have HB := Lib.hid (show Below w.heap.size w W by rw [hW]; exact HB.out.alloc HB.out.size _)
      have HT := Lib.hid (show TS W v m S L by rw [hW]; exact C.bel HT.out ((Below.refl _ w1).alloc (Nat.le_refl _) _))
      have HW := Lib.hid hW.symm
      clear hW hrg
      go_upto_region 7 with fail
      rw [HW.out]
      clear HW hmk HBU
      generalize w1.heap.size = ib at *
      have HSE := Lib.hid (show StE L x1 x2 [] from fun p hp => by cases hp)
      have HQ0 := Lib.hid (show ∀ (i : Nat) (s : S3), i < 0 → L[i]? = some s → inX x1 x2 s = true → HasE [] s.2.2 s.2.1 from fun i s h => absurd h (by omega))
      go_wp2
      go_loopw [38] (fun v38 wr => ∃ (k : Nat) (E : List (Int × Int)), k ≤ m ∧ v38 = .int .i64 k ∧ Hid (MP Tryz.prog 32 wr ib (ysE E)) ∧ Hid (StE L x1 x2 E) ∧ Hid (∀ (i : Nat) (s : S3), i < k → L[i]? = some s → inX x1 x2 s = true → HasE E s.2.2 s.2.1) ∧ Hid (TS wr v m S L) ∧ Hid (Below w.heap.size w wr)) (fun i _ => m - (intOf i).toNat)
      case atStart => exact ⟨0, [], Nat.zero_le _, rfl, HMP, HSE, HQ0, HT, HB⟩
      case round =>
        clear HMP HSE HQ0 HT HB
        obtain ⟨k, E, hk, rfl, HMP, HSE, HQ0, HT, HB⟩ := hrel
        by_cases hlt : k < m
        · have hltz : (k : Int) < m := by omega
          obtain ⟨s, hse⟩ : ∃ s, L[k]? = some s := ⟨_, List.getElem?_eq_getElem (by have := HM.out; omega)⟩
          obtain ⟨bb, off, rfl, h1⟩ := (HX.out.keep HB.out).at hse
          have hms := List.mem_of_getElem? hse
          have HWS := Lib.hid (HWF.out s hms)
          have HKE := Lib.hid hse
          have n0 := h1.c0
          have n1 := h1.c1
          have n2 := h1.c2
          obtain ⟨W4, hW4⟩ : ∃ W4, W4 = wr.alloc (.cells (tvs s).toArray 34) := ⟨_, rfl⟩
          have hN4 : T1 W4 wr.heap.size 0 s := by rw [hW4]; exact T1.new wr s _
          have hb4 : Below wr.heap.size wr W4 := by rw [hW4]; exact (Below.refl _ wr).alloc (Nat.le_refl _) _
          have HN4 := Lib.hid hN4
          have HB4 := Lib.hid (HB.out.trans (hb4.mono HB.out.size))
          have HM4 := Lib.hid (HMP.out.keep hb4)
          have HT4 := Lib.hid (C.bel HT.out hb4)
          have HTH := Lib.hid (C.three x1 x2 s.2.1 HT4.out HWX.out.1 HWX.out.2 HWS.out.2.1)
          have HZW := Lib.hid (fun n (h : n ∈ nmS (thB x1 x2 s.2.1) L) => nm_wf HWF.out h)
          have HZM := Lib.hid (fun n (h : n ∈ nmS (thB x1 x2 s.2.1) L) => mem_th h)
          have HZO := Lib.hid (fun (h : inX x1 x2 s = true) => show s.2.2 ∈ nmS (thB x1 x2 s.2.1) L from mem_nmS.2 ⟨s, hms, by rw [th_in, h, Bool.true_and]; simp, rfl⟩)
          have hzl := nmS_len (thB x1 x2 s.2.1) L
          generalize nmS (thB x1 x2 s.2.1) L = Z at *
          have HRL := Lib.hid (show ∀ (Y : World) r, RL Y r Z → ∃ q c, r = .slice q Z.length c ∧ NS Y q .u32 Z from fun Y r h => by obtain ⟨q, c, h1, h2, -⟩ := h; exact ⟨q, c, h1, h2⟩)
          obtain ⟨zl, hze⟩ : ∃ zl, zl = Z.length := ⟨_, rfl⟩
          have HZL := Lib.hid hze
          rw [← hze] at hzl HRL
          rw [← HM.out] at hzl
          have m0 := hN4.c0
          have m1 := hN4.c1
          have m2 := hN4.c2
          simp only [Nat.zero_add] at m0 m1 m2
          obtain ⟨px, py, pi⟩ := s
          unfold tvs at hW4
          simp only at n0 n1 n2 m0 m1 m2 hW4 HTH
          have HW4 := Lib.hid hW4
          clear h1 hse hms hN4 hW4 hb4 hze
          go_upto_region 10 with fail
          rw [← HW4.out]
          clear HW4 n0 n1 n2
          go_upto_region 11 with (go_at_call 17; (with_reducible refine HTH.out.mono ?_); rintro e w5 ⟨⟨r5, t5, rfl, h5, -, -⟩, hb⟩; obtain ⟨q5, c5, rfl, hq⟩ := HRL.out _ _ h5; have HQ5 := Lib.hid hq; have HN5 := Lib.hid (HN4.out.keep hb HN4.out.lt); have HT5 := Lib.hid (C.bel HT4.out hb); have HM5 := Lib.hid (HM4.out.keep hb); have HB5 := Lib.hid (HB4.out.trans (hb.mono HB4.out.size)); clear hb h5 hq)
          have HPB := Lib.hid (show ib < wr.heap.size from HMP.out.lt)
          have HR0 := Lib.hid (show ∀ n ∈ Z.take 0, HasE E n py from fun n hn => by simp at hn)
          clear HTH HRL HN4 HT4 HM4 HB4 HMP HT HB m0 m1 m2
          generalize wr.heap.size = pb at *
          go_wp2
          go_loopw [53] (fun v53 wz => ∃ (j : Nat) (E : List (Int × Int)), j ≤ zl ∧ v53 = .int .i64 j ∧ Hid (MP Tryz.prog 32 wz ib (ysE E)) ∧ Hid (StE L x1 x2 E) ∧ Hid (∀ (i : Nat) (s : S3), i < k → L[i]? = some s → inX x1 x2 s = true → HasE E s.2.2 s.2.1) ∧ Hid (∀ n ∈ Z.take j, HasE E n py) ∧ Hid (NS wz q5 .u32 Z) ∧ Hid (T1 wz pb 0 (px, py, pi)) ∧ Hid (TS wz v m S L) ∧ Hid (Below w.heap.size w wz)) (fun i _ => zl - (intOf i).toNat)
          case atStart => exact ⟨0, E, Nat.zero_le _, rfl, HM5, HSE, HQ0, HR0, HQ5, HN5, HT5, HB5⟩
          case round =>
            clear HM5 HSE HQ0 HR0 HQ5 HN5 HT5 HB5
            obtain ⟨j, E, hj, rfl, HMP, HSE, HQ0, HR0, HQ, HN, HT, HB⟩ := hrel
            by_cases hlt2 : j < zl
            · have hltz2 : (j : Int) < zl := by omega
              obtain ⟨n, hne⟩ : ∃ n, Z[j]? = some n := ⟨_, List.getElem?_eq_getElem (by have := HZL.out; omega)⟩
              have hmem := List.mem_of_getElem? hne
              have hwf := HZW.out n hmem
              have htk : Z.take (j + 1) = Z.take j ++ [n] := by rw [List.take_add_one, hne]; rfl
              obtain ⟨w12, hput, hM2, hO2⟩ := ys_store HMP.out (by have := ys_few HMP.out HSE.out; have := HM.out; omega) py hwf
              have HM3 := Lib.hid hM2
              have HN3 := Lib.hid (HN.out.off hO2 (by have := HPB.out; simp; omega))
              have HQ3 := Lib.hid (ns_mapped HMP.out HQ.out hO2)
              have HT3 := Lib.hid (C.keep HT.out hO2 (fun b hb hb2 => by have := HSM.out b hb; rw [List.mem_singleton.1 hb2] at this; exact Nat.lt_irrefl _ this))
              have HB3 := Lib.hid (HB.out.trans (hO2.below HB.out.size (fun b hb => by rw [List.mem_singleton.1 hb]; exact HMB.out)))
              have HSE3 := Lib.hid (HSE.out.put (HZM.out n hmem))
              have HQ03 := Lib.hid (fun (hy : ∀ p ∈ E, p.1 = n → py ≤ p.2) (i : Nat) (s : S3) h1 h2 h3 => (HQ0.out i s h1 h2 h3).put hy)
              have HR03 := Lib.hid (fun (hy : ∀ p ∈ E, p.1 = n → py ≤ p.2) => show ∀ a ∈ Z.take (j + 1), HasE (putE E n py) a py from fun a ha => by
                rw [htk] at ha
                rcases List.mem_append.1 ha with ha | ha
                · exact (HR0.out a ha).put hy
                · rw [List.mem_singleton.1 ha]; exact HasE.new E n py)
              have HR04 := Lib.hid (fun (y : Int) (hy : (n, y) ∈ E) (hle : y ≤ py) => show ∀ a ∈ Z.take (j + 1), HasE E a py from fun a ha => by
                rw [htk] at ha
                rcases List.mem_append.1 ha with ha | ha
                · exact HR0.out a ha
                · rw [List.mem_singleton.1 ha]; exact ⟨_, hy, rfl, hle⟩)
              have HKE2 := Lib.hid (ys_names HMP.out)
              have m1 := HN.out.c1
              simp only [Nat.zero_add] at m1
              rcases HQ.out with h0 | ⟨b, off, rfl, h1⟩
              · rw [h0] at hne; simp at hne
              · have cx := h1 j n hne
                rcases ys_look HMP.out hwf with ⟨y, hy, hlook⟩ | ⟨hno, hlook⟩
                · have HY := Lib.hid hy
                  have HYU := Lib.hid (show ∀ p ∈ E, p.1 = n → p.2 = y from fun p hp e => by
                    obtain ⟨i, hi⟩ := List.getElem?_of_mem hp
                    obtain ⟨i2, hi2⟩ := List.getElem?_of_mem hy
                    have k1 : (E.map (·.1))[i]? = some n := by rw [List.getElem?_map, hi]; exact congrArg some e
                    have k2 : (E.map (·.1))[i2]? = some n := by rw [List.getElem?_map, hi2]; rfl
                    have := (List.getElem?_inj (by simpa using (List.getElem?_eq_some_iff.1 hi).1) HKE2.out).1 (k1.trans k2.symm)
                    subst this
                    rw [hi] at hi2
                    rw [Option.some.inj hi2])
                  clear h1 hne hmem hwf htk hM2 hO2 hy
                  by_cases hlo : py < y
                  · have HLE := Lib.hid (show ∀ p ∈ E, p.1 = n → py ≤ p.2 from fun p hp e => by rw [HYU.out p hp e]; omega)
                    go_wp2_with (first
                      | (at_lookup; refine wpList_lookR rfl _ _ _ _ rfl _ _ _ rfl rfl hlook ?_)
                      | (at_mapUpdate; refine wpList_putR rfl _ _ _ _ rfl _ _ _ rfl rfl rfl hput ?_))
                    go_roundw
                    case rel => exact ⟨j + 1, putE E n py, by omega, by go_num, HM3, HSE3, Lib.hid (HQ03.out HLE.out), Lib.hid (HR03.out HLE.out), HQ3, HN3, HT3, HB3⟩
                    case measure => simp [intOf]; omega
                  · have HR5 := Lib.hid (HR04.out y HY.out (by omega))
                    clear hput
                    go_wp2_with (first
                      | (at_lookup; refine wpList_lookR rfl _ _ _ _ rfl _ _ _ rfl rfl hlook ?_))
                    go_roundw
                    case rel => exact ⟨j + 1, E, by omega, by go_num, HMP, HSE, HQ0, HR5, HQ, HN, HT, HB⟩
                    case measure => simp [intOf]; omega
                · have HLE := Lib.hid (show ∀ p ∈ E, p.1 = n → py ≤ p.2 from fun p hp e => absurd e (hno p hp))
                  clear h1 hne hmem hwf htk hM2 hO2 hno
                  go_wp2_with (first
                    | (at_lookup; refine wpList_lookR rfl _ _ _ _ rfl _ _ _ rfl rfl hlook ?_)
                    | (at_mapUpdate; refine wpList_putR rfl _ _ _ _ rfl _ _ _ rfl rfl rfl hput ?_))
                  go_roundw
                  case rel => exact ⟨j + 1, putE E n py, by omega, by go_num, HM3, HSE3, Lib.hid (HQ03.out HLE.out), Lib.hid (HR03.out HLE.out), HQ3, HN3, HT3, HB3⟩
                  case measure => simp [intOf]; omega
            · obtain rfl : j = zl := by omega
              have hltz2 : ¬ (j : Int) < j := by omega
              have HQN := Lib.hid (show ∀ (i : Nat) (s : S3), i < k + 1 → L[i]? = some s → inX x1 x2 s = true → HasE E s.2.2 s.2.1 from fun i s h1 h2 h3 => by
                by_cases hik : i < k
                · exact HQ0.out i s hik h2 h3
                · obtain rfl : i = k := by omega
                  rw [HKE.out] at h2
                  cases h2
                  have h4 := HR0.out
                  rw [List.take_of_length_le (by have := HZL.out; omega)] at h4
                  exact h4 _ (HZO.out h3))
              go_wp2
              go_roundw
              case rel => exact ⟨k + 1, E, by omega, by go_num, HMP, HSE, HQN, HT, HB⟩
              case measure => simp [intOf]; omega
        · obtain rfl : k = m := by omega
          have hltz : ¬ (k : Int) < k := by omega
          have hall : ∀ s ∈ L, inX x1 x2 s = true → HasE E s.2.2 s.2.1 := fun s hs h => by
            obtain ⟨i, hi⟩ := List.getElem?_of_mem hs
            exact HQ0.out i s (by have := (List.getElem?_eq_some_iff.1 hi).1; have := HM.out; omega) hi h
          have HOW := Lib.hid (fun s (hs : s ∈ L) => st_own HRG.out HSE.out hall (ys_names HMP.out) hs)
          have HMY := Lib.hid (st_many HRG.out HSE.out hall (ys_names HMP.out))
          have hlf := List.length_filter_le (inX x1 x2) L
          have HBY := HB
          have HMPY := HMP
          have HZ0 := Lib.hid (show ((L.take 0).filter (inX x1 x2)).length = 0 by simp)
          clear HQ0 hall HB HMP HT HSE
          generalize wr = wy at *
          go_wp2
          go_loopw [18, 79] (fun v18 v79 wz => ∃ j : Nat, j ≤ k ∧ v79 = .int .i64 j ∧ v18 = .int .i64 (((L.take j).filter (inX x1 x2)).length : Nat) ∧ Hid (MP Tryz.prog 32 wz ib (ysE E)) ∧ Hid (Below w.heap.size w wz)) (fun _ i _ => k - (intOf i).toNat)
          case atStart => exact ⟨0, Nat.zero_le _, rfl, by rw [HZ0.out]; rfl, HMPY, HBY⟩
          case round =>
            clear HMPY HBY HZ0
            obtain ⟨j, hj, rfl, rfl, HMP, HB⟩ := hrel
            by_cases hlt2 : j < k
            · have hltz2 : (j : Int) < k := by omega
              obtain ⟨s, hse⟩ : ∃ s, L[j]? = some s := ⟨_, List.getElem?_eq_getElem (by have := HM.out; omega)⟩
              obtain ⟨bb, off, rfl, h1⟩ := (HX.out.keep HB.out).at hse
              have hms := List.mem_of_getElem? hse
              have HWS := Lib.hid (HWF.out s hms)
              obtain ⟨o1, o2, o3⟩ := HOW.out s hms
              have n0 := h1.c0
              have n1 := h1.c1
              have n2 := h1.c2
              obtain ⟨W7, hW7⟩ : ∃ W7, W7 = wr.alloc (.cells (tvs s).toArray 34) := ⟨_, rfl⟩
              have hN7 : T1 W7 wr.heap.size 0 s := by rw [hW7]; exact T1.new wr s _
              have hb7 : Below wr.heap.size wr W7 := by rw [hW7]; exact (Below.refl _ wr).alloc (Nat.le_refl _) _
              have HM7 := Lib.hid (HMP.out.keep hb7)
              have HB7 := Lib.hid (HB.out.trans (hb7.mono HB.out.size))
              have m0 := hN7.c0
              have m1 := hN7.c1
              have m2 := hN7.c2
              simp only [Nat.zero_add] at m0 m1 m2
              have hct : ((L.take (j + 1)).filter (inX x1 x2)).length = ((L.take j).filter (inX x1 x2)).length + (if inX x1 x2 s then 1 else 0) := by
                rw [List.take_add_one, hse, Option.toList_some, List.filter_append, List.length_append]
                by_cases h : inX x1 x2 s = true <;> simp [h]
              have hcl : ((L.take j).filter (inX x1 x2)).length ≤ 80 := Nat.le_trans (List.length_filter_le _ _) (by rw [List.length_take]; omega)
              by_cases hin : inX x1 x2 s = true
              · rw [if_pos hin] at hct
                have hlook := HM7.out.look Tryz.underlying56 Tryz.underlying32 HWS.out.2.2 (List.mem_map.2 ⟨_, o1 hin, rfl⟩) (show (zeroValue 2).run Tryz.prog W7 = .ok (.int .i64 0) W7 by kernel_rfl) true
                simp only [if_true] at hlook
                have hin2 : x1 ≤ s.1 ∧ s.1 ≤ x2 := by unfold inX at hin; simpa using hin
                obtain ⟨ha, hb⟩ := hin2
                obtain ⟨px, py, pi⟩ := s
                unfold tvs at hW7
                simp only at n0 n1 n2 m0 m1 m2 hW7 hlook ha hb
                have HW7 := Lib.hid hW7
                have HC2 := Lib.hid hct
                generalize ((L.take j).filter (inX x1 x2)).length = cc at *
                clear h1 hse hms hN7 hb7 hW7 o1 o2 o3 hin hct
                go_upto_region 23 with fail
                rw [← HW7.out]
                clear HW7 n0 n1 n2
                go_wp2_with (first | (at_lookup; refine wpList_lookR rfl _ _ _ _ rfl _ _ _ rfl rfl hlook ?_))
                go_roundw
                case rel => exact ⟨j + 1, by omega, by go_num, by rw [HC2.out]; go_num, HM7, HB7⟩
                case measure => simp [intOf]; omega
              · have hin' : inX x1 x2 s = false := by simpa using hin
                rw [if_neg hin, Nat.add_zero] at hct
                have hlook := HM7.out.miss Tryz.underlying56 Tryz.underlying32 HWS.out.2.2 (fun p hp e => by
                  obtain ⟨q, hq, rfl⟩ := List.mem_map.1 hp
                  exact hin (o2 ⟨q, hq, e⟩)) (show (zeroValue 2).run Tryz.prog W7 = .ok (.int .i64 0) W7 by kernel_rfl) true
                simp only [if_true] at hlook
                have hin2 : ¬ (x1 ≤ s.1 ∧ s.1 ≤ x2) := by unfold inX at hin; simpa using hin
                obtain ⟨px, py, pi⟩ := s
                unfold tvs at hW7
                simp only at n0 n1 n2 m0 m1 m2 hW7 hlook hin2
                have HW7 := Lib.hid hW7
                have HC2 := Lib.hid hct
                generalize ((L.take j).filter (inX x1 x2)).length = cc at *
                clear h1 hse hms hN7 hb7 hW7 o1 o2 o3 hin hin' hct
                by_cases ha : x1 ≤ px
                · have hb : ¬ px ≤ x2 := fun h => hin2 ⟨ha, h⟩
                  clear hin2
                  go_upto_region 23 with fail
                  rw [← HW7.out]
                  clear HW7 n0 n1 n2
                  go_wp2_with (first | (at_lookup; refine wpList_lookR rfl _ _ _ _ rfl _ _ _ rfl rfl hlook ?_))
                  go_roundw
                  case rel => exact ⟨j + 1, by omega, by go_num, by rw [HC2.out, Nat.add_zero], HM7, HB7⟩
                  case measure => simp [intOf]; omega
                · clear hin2
                  go_upto_region 23 with fail
                  rw [← HW7.out]
                  clear HW7 n0 n1 n2
                  go_wp2_with (first | (at_lookup; refine wpList_lookR rfl _ _ _ _ rfl _ _ _ rfl rfl hlook ?_))
                  go_roundw
                  case rel => exact ⟨j + 1, by omega, by go_num, by rw [HC2.out, Nat.add_zero], HM7, HB7⟩
                  case measure => simp [intOf]; omega
            · obtain rfl : j = k := by omega
              have hltz2 : ¬ (j : Int) < j := by omega
              have hln := fun ty => HMP.out.len Tryz.underlying56 ty
              rw [ysE_len, ← HMY.out] at hln
              rw [List.take_of_length_le (by have := HM.out; omega)]
              go_wp2_with (go_at_call 9; (with_reducible refine (HAW.out _).mono ?_); rintro e w9 ⟨rfl, hb⟩; have HB := Lib.hid (HB.out.trans (hb.mono HB.out.size)); clear hb)
              go_ret
              exact ⟨rfl, HB.out⟩
    · go_enter Tryz.func6, Tryz.ntmps6
      go_wp2_with (first
        | (go_at_call 10; (with_reducible refine HBU.out.mono ?_); rintro e w1 ⟨hb, hor⟩; rcases hor with ⟨hn, -⟩ | ⟨-, v, S, rfl, -, -⟩; (exact absurd hn hrg); have HB := Lib.hid hb; clear hb)
        | (go_at_call 9; (with_reducible refine (HAW.out _).mono ?_); rintro e w9 ⟨rfl, hb⟩; have HB := Lib.hid (HB.out.trans (hb.mono HB.out.size)); clear hb))
      go_ret
      exact ⟨rfl, HB.out⟩
  · have hbz : (80 : Int) < L.length := by omega
    have HB := Lib.hid (Below.refl w.heap.size w)
    clear hx hc hw hp hbig
    generalize L.length = m at *
    go_enter Tryz.func6, Tryz.ntmps6
    go_wp2_with (go_at_call 9; (with_reducible refine (HAW.out _).mono ?_); rintro e w9 ⟨rfl, hb⟩; have HB := Lib.hid (HB.out.trans (hb.mono HB.out.size)); clear hb)
    go_ret
    exact ⟨rfl, HB.out⟩
end Go.Proofs.YtajpboclicnopaaGreat.Hp
