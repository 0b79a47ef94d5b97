/-
  WideSums is proved: for every three wide numbers the law answers true and changes nothing that was there; condition: the three listed tables start as the program's text lays them (the card ties them to it).
-/
import Derived.Test.YtdlijnkbpnhpoaaDoorAwake
import Derived.Test.YtdlijnkbpnhpoaaDoorLift
namespace Go.Proofs.YtdlijnkbpnhpoaaDoor
open Go.RowKit Go.ChangeShapes Go.WideShapes Go.ChangeAt Go.Joins

theorem addR_comm (a b : Nat) : addR b a = addR a b := by unfold addR; rw [Nat.add_comm]
theorem addK_comm (a b : Nat) : addK b a = addK a b := by unfold addK; rw [Nat.add_comm]
theorem add3 (a b c : Nat) : (addK (addR a b) c && addK a b) = (addK a (addR b c) && addK b c) ∧ ((addK (addR a b) c && addK a b) = true → addR (addR a b) c = addR a (addR b c)) := by
  by_cases h1 : a + b < B128 <;> by_cases h2 : b + c < B128
  · rw [addR_yes h1, addR_yes h2, addK_yes h1, addK_yes h2]
    unfold addK addR
    rw [Nat.add_assoc]
    exact ⟨rfl, fun _ => rfl⟩
  · rw [addR_yes h1, addK_yes h1, addK_no h2]
    have : addK (a + b) c = false := addK_no (by omega)
    rw [this]; simp
  · rw [addR_yes h2, addK_yes h2, addK_no h1]
    have : addK a (b + c) = false := addK_no (by omega)
    rw [this]; simp
  · rw [addK_no h1, addK_no h2]; simp

set_option maxRecDepth 100000 in
set_option maxHeartbeats 1000000 in
theorem sums_any (a b c : Nat) (w : World) (htab : Lib.TabIs Tryd.prog w "internal/strconv.uint64pow10" .u64 Lib.pow10Tab) :
    Calls Tryd.prog 5 #[.agg #[.int .u64 (hi a), .int .u64 (lo a)], .agg #[.int .u64 (hi b), .int .u64 (lo b)], .agg #[.int .u64 (hi c), .int .u64 (lo c)]] w fun e w' => e = .returned (.bool true) ∧ Below w.heap.size w w' := by
  have HT := Lib.hid htab
  clear htab
  go_enter Tryd.func5, Tryd.ntmps5
  go_wp2_with fail
  refine (add_gen a b _).mono ?_
  rintro e w1 ⟨rfl, hb1⟩
  have a0 := keepc hb1 (p := ⟨w.heap.size, 0, none⟩) (v := .int .u64 (hi a)) (allc (allc (new0 _ _ _ rfl)))
  have a1 := keepc hb1 (p := ⟨w.heap.size, 1, none⟩) (v := .int .u64 (lo a)) (allc (allc (new1 _ _ _ rfl)))
  have b0 := keepc hb1 (p := ⟨w.heap.size + 1, 0, none⟩) (v := .int .u64 (hi b)) (allc (new0 _ _ _ (by simp)))
  have b1 := keepc hb1 (p := ⟨w.heap.size + 1, 1, none⟩) (v := .int .u64 (lo b)) (allc (new1 _ _ _ (by simp)))
  have c0 := keepc hb1 (p := ⟨w.heap.size + 1 + 1, 0, none⟩) (v := .int .u64 (hi c)) (new0 _ _ _ (by simp))
  have c1 := keepc hb1 (p := ⟨w.heap.size + 1 + 1, 1, none⟩) (v := .int .u64 (lo c)) (new1 _ _ _ (by simp))
  have hz1 : w.heap.size + 1 + 1 < w1.heap.size := Nat.le_trans (by simp) hb1.size
  have hy1 : w.heap.size + 1 < w1.heap.size := by omega
  have hx1 : w.heap.size < w1.heap.size := by omega
  have HB1 := ((((Below.refl _ w).alloc (Nat.le_refl _) (Obj.cells #[.int .u64 (hi a), .int .u64 (lo a)] 24)).alloc (by simp) (Obj.cells #[.int .u64 (hi b), .int .u64 (lo b)] 24)).alloc (by simp; omega) (Obj.cells #[.int .u64 (hi c), .int .u64 (lo c)] 24)).trans (hb1.mono (by simp; omega))
  clear hb1
  go_wp2_with fail
  refine (add_gen b a _).mono ?_
  rw [addR_comm, addK_comm]
  rintro e w2 ⟨rfl, hb2⟩
  have x0 := keepc hb2 (p := ⟨w1.heap.size, 0, none⟩) (new0 _ _ _ rfl)
  have x1 := keepc hb2 (p := ⟨w1.heap.size, 1, none⟩) (new1 _ _ _ rfl)
  replace a0 := keepc hb2 (allc a0)
  replace a1 := keepc hb2 (allc a1)
  replace b0 := keepc hb2 (allc b0)
  replace b1 := keepc hb2 (allc b1)
  replace c0 := keepc hb2 (allc c0)
  replace c1 := keepc hb2 (allc c1)
  have hu2 : w1.heap.size < w2.heap.size := Nat.le_trans (by simp) hb2.size
  have hz2 : w.heap.size + 1 + 1 < w2.heap.size := by omega
  have hy2 : w.heap.size + 1 < w2.heap.size := by omega
  have hx2 : w.heap.size < w2.heap.size := by omega
  have HB2 := (HB1.alloc (by omega) (Obj.cells #[.int .u64 (hi (addR a b)), .int .u64 (lo (addR a b))] 24)).trans (hb2.mono (by simp; omega))
  clear hb2 HB1 hz1 hy1 hx1
  have H3 := Lib.hid (add3 a b c)
  generalize addK a b = k1 at *
  generalize addR a b = p at *
  go_wp2_with fail
  refine (add_gen p c _).mono ?_
  rintro e w3 ⟨rfl, hb3⟩
  replace x0 := keepc hb3 (allc x0)
  replace x1 := keepc hb3 (allc x1)
  replace a0 := keepc hb3 (allc a0)
  replace a1 := keepc hb3 (allc a1)
  replace b0 := keepc hb3 (allc b0)
  replace b1 := keepc hb3 (allc b1)
  replace c0 := keepc hb3 (allc c0)
  replace c1 := keepc hb3 (allc c1)
  have hv3 : w2.heap.size < w3.heap.size := Nat.le_trans (by simp) hb3.size
  have hz3 : w.heap.size + 1 + 1 < w3.heap.size := by omega
  have hy3 : w.heap.size + 1 < w3.heap.size := by omega
  have hx3 : w.heap.size < w3.heap.size := by omega
  have HB3 := (HB2.alloc (by omega) (Obj.cells #[.int .u64 (hi p), .int .u64 (lo p)] 24)).trans (hb3.mono (by simp; omega))
  clear hb3 HB2 hz2 hy2 hx2
  generalize addK p c = k2 at *
  generalize addR p c = q at *
  cases k1
  case' false => cases k2
  case' true => cases k2
  all_goals
    go_wp2_with fail
    refine (add_gen b c _).mono ?_
    rintro e w4 ⟨rfl, hb4⟩
    have q0 := keepc hb4 (p := ⟨w3.heap.size, 0, none⟩) (new0 _ _ _ rfl)
    have q1 := keepc hb4 (p := ⟨w3.heap.size, 1, none⟩) (new1 _ _ _ rfl)
    replace a0 := keepc hb4 (allc a0)
    replace a1 := keepc hb4 (allc a1)
    have ht4 : w3.heap.size < w4.heap.size := Nat.le_trans (by simp) hb4.size
    have hx4 : w.heap.size < w4.heap.size := by omega
    have HB4 := (HB3.alloc (by omega) (Obj.cells #[.int .u64 (hi q), .int .u64 (lo q)] 24)).trans (hb4.mono (by simp; omega))
    clear hb4 HB3 hz3 hy3 hx3 hv3 b0 b1 c0 c1 x0 x1 hu2
    generalize addK b c = k3 at *
    generalize addR b c = r at *
    go_wp2_with fail
    refine (add_gen a r _).mono ?_
    rintro e w5 ⟨rfl, hb5⟩
    replace q0 := keepc hb5 (allc q0)
    replace q1 := keepc hb5 (allc q1)
    have ht5 : w4.heap.size < w5.heap.size := Nat.le_trans (by simp) hb5.size
    have hx5 : w3.heap.size < w5.heap.size := by omega
    have hw5 : w.heap.size < w5.heap.size := by omega
    have HB5 := (HB4.alloc (by omega) (Obj.cells #[.int .u64 (hi r), .int .u64 (lo r)] 24)).trans (hb5.mono (by simp; omega))
    clear hb5 HB4 a0 a1 hx4
    generalize addK a r = k4 at *
    generalize addR a r = s at *
    have HT5 := Lib.hid (tab_below HT.out (HB5.alloc (by omega) (Obj.cells #[.int .u64 (hi s), .int .u64 (lo s)] 24)))
    cases k3 <;> cases k4 <;> first
      | exact absurd H3.out.1 (by decide)
      | (obtain rfl := H3.out.2 rfl
         go_wp2_with fail
         refine (awake_any _ HT5.out).mono ?_
         rintro e w6 ⟨rfl, hb6⟩
         go_wp2
         go_ret
         exact ⟨rfl, (HB5.alloc (by omega) _).trans (hb6.mono (by simp; omega))⟩)
      | (go_wp2_with fail
         refine (awake_any _ HT5.out).mono ?_
         rintro e w6 ⟨rfl, hb6⟩
         go_wp2
         go_ret
         exact ⟨rfl, (HB5.alloc (by omega) _).trans (hb6.mono (by simp; omega))⟩)

set_option maxRecDepth 100000 in
theorem sums_lifted (os : Os) (started : os.Started) (H : Type) (enc : TypeId × Value → H) :
    ReturnsInHanded {} Tryd.checked os 5 .any (fun w args => (Rows.wideSumsSpec.pre enc Tryd.prog Tryd.f5 [] false w args ∧ laidMetH Tryd.prog laid3 w) ∧ sizedMet enc Tryd.prog Tryd.f5 (OpenSpec.ofChange Rows.wideSumsSpec) false w args)
      (Rows.wideSumsSpec.post enc Tryd.prog Tryd.f5 false true false false) := by
  refine returnsInHanded_of_change_and (C := Tryd.checked) (X := fun w _ => laidMetH Tryd.prog laid3 w) (fun _ _ _ hh h => h.of_heap hh) Tryd.own started (by kernel_rfl) Tryd.func5
    (ChangeSpec.witness_shaped (enc := enc) (C := Tryd.checked) (os := os) (X := fun w _ => laidMetH Tryd.prog laid3 w) false (World.doorLaid Tryd.prog 2000 os) #[.agg #[.int .u64 0, .int .u64 0], .agg #[.int .u64 0, .int .u64 0], .agg #[.int .u64 0, .int .u64 0]] 8 rfl (World.shaped_of_RefB (by kernel_rfl) (by kernel_rfl)) (by kernel_rfl) (by kernel_rfl) (by kernel_rfl) (door3 os _)) ?_
  intro W base args ds gs before hval0 hW _ _ hL _
  have hval : ∀ (j : Nat) t v, Tryd.f5.params[j]? = some t → args[j]? = some v → Value.okWide Tryd.prog W .any base t v := hval0
  have hW' := hW
  obtain ⟨p, q, hA0, hV, rfl, hfz, hnd⟩ := hW
  have hA : DataW.TrodAll enc Tryd.prog W 0 (fun _ => true) true Tryd.f5.params.toList args.toList ds p := hA0
  rw [Tryd.params5] at hA hval
  obtain ⟨v0, v1, v2, d0, d1, d2, p0, p1, p2, rfl, rfl, rfl, h0, h1, h2⟩ := trodAll_three hA
  obtain ⟨rfl, rfl⟩ := trodVars_none hV
  obtain ⟨c0, c1, y0, y1, m, rfl, rfl, rfl, hy0, hy1⟩ := open_agg2 Tryd.underlying24 (by kernel_rfl) Tryd.cells24 (hval 0 24 v0 rfl rfl) h0
  obtain ⟨a1, e0, rfl, wa1⟩ := DataW.trod_int Tryd.underlying22 hy0
  obtain ⟨a0, e1, rfl, wa0⟩ := DataW.trod_int Tryd.underlying22 hy1
  simp at e0 e1
  subst e0 e1
  obtain ⟨c0, c1, y0, y1, m, rfl, rfl, rfl, hy0, hy1⟩ := open_agg2 Tryd.underlying24 (by kernel_rfl) Tryd.cells24 (hval 1 24 v1 rfl rfl) h1
  obtain ⟨b1, e0, rfl, wb1⟩ := DataW.trod_int Tryd.underlying22 hy0
  obtain ⟨b0, e1, rfl, wb0⟩ := DataW.trod_int Tryd.underlying22 hy1
  simp at e0 e1
  subst e0 e1
  obtain ⟨c0, c1, y0, y1, m, rfl, rfl, rfl, hy0, hy1⟩ := open_agg2 Tryd.underlying24 (by kernel_rfl) Tryd.cells24 (hval 2 24 v2 rfl rfl) h2
  obtain ⟨c1, e0, rfl, wc1⟩ := DataW.trod_int Tryd.underlying22 hy0
  obtain ⟨c0, e1, rfl, wc0⟩ := DataW.trod_int Tryd.underlying22 hy1
  simp at e0 e1
  subst e0 e1
  obtain ⟨a, _, rfl, rfl⟩ := of_wide wa1 wa0
  obtain ⟨b, _, rfl, rfl⟩ := of_wide wb1 wb0
  obtain ⟨c, _, rfl, rfl⟩ := of_wide wc1 wc0
  clear hA0 hval0
  refine (sums_any a b c W (tab_of_laid hL)).mono fun e W' ⟨he, hb⟩ => ?_
  subst he
  exact ⟨_, rfl, law_post hW' (trodAll_mk1 (shut_bool Tryd.underlying4 true)) (trodAll_mk3 (wide_reads wa1 wa0 W' _) (wide_reads wb1 wb0 W' _) (wide_reads wc1 wc0 W' _)) rfl hb⟩

theorem sums_holds : Rows.WideSumsSaid :=
  OpenClaim.holds_of_wide 5 Tryd.f5 rfl rfl rfl rfl rfl rfl rfl ⟨rfl, rfl, rfl, rfl, rfl⟩ rfl rfl rfl rfl rfl (by kernel_rfl) Tryd.func5 (by kernel_rfl)
    (of_decide_eq_true (by kernel_rfl)) (by unfold Func.isWrapper; first | (rw [if_pos (by decide +kernel)]; kernel_rfl) | (rw [if_neg (by decide +kernel)]; exact ⟨rfl, rfl⟩))
    (fun os started H enc _ => sums_lifted os started H enc)

theorem sums_card : Rows.WideSumsCardSaid :=
  Claim7.holds_tied_plain_at .later [] [.data, .data, .data] true (true, "87e2d8c4c7155894bd0858952195c60b8c955652c0426b7d599210d5fcc65363") false
    sums_holds (fun _ h => by cases h) (by kernel_rfl) (fun _ h => by cases h) wideSums_row_tie rfl ⟨rfl, rfl⟩ (by kernel_rfl) rfl
    (fun f fn hf hfn => by
      obtain rfl : f = 5 := Option.some.inj ((show Tryd.prog.funcNamed "gridiron/gridironlaw01.WideSums" = some 5 by kernel_rfl).symm.trans hf) |>.symm
      obtain rfl : fn = Tryd.f5 := (Option.some.inj (Tryd.func5.symm.trans hfn)).symm
      exact ⟨by kernel_rfl, fun j t ht => by
        rw [Tryd.params5] at ht
        have hm : t ∈ [24, 24, 24] := by simpa using Array.mem_of_getElem? ht
        have hall : ([24, 24, 24].all fun u => !Tryd.prog.wantsStandIn u) = true := by kernel_rfl
        exact (show Tryd.prog.wantsStandIn t = false by simpa using List.all_eq_true.1 hall t hm)⟩)
    (by kernel_rfl)
end Go.Proofs.YtdlijnkbpnhpoaaDoor
