/-
  WideSpans is proved: for every three numbers of 64 bits with a sign the law answers true and changes nothing that was there; condition: the three listed tables start as the program's text lays them (the card ties them to it).
-/
import Derived.Test.YtdlijnkbpnhpoaaDoorHelp
namespace Go.Proofs.YtdlijnkbpnhpoaaDoor
open Go.RowKit Go.ChangeShapes Go.WideShapes Go.ChangeAt Go.Joins

set_option maxRecDepth 100000 in
set_option maxHeartbeats 1000000 in
theorem spans_any (a b c : Int) (w : World) (htab : Lib.TabIs Tryd.prog w "internal/strconv.uint64pow10" .u64 Lib.pow10Tab)
    (ha : -9223372036854775808 ≤ a ∧ a < 9223372036854775808) (hb : -9223372036854775808 ≤ b ∧ b < 9223372036854775808) (hc : -9223372036854775808 ≤ c ∧ c < 9223372036854775808) :
    Calls Tryd.prog 7 #[.int .i64 a, .int .i64 b, .int .i64 c] w fun e w' => e = .returned (.bool true) ∧ Below w.heap.size w w' := by
  have HT := Lib.hid htab
  clear htab
  obtain ⟨p, hp⟩ : ∃ p, p = min a (min b (min (max a b) c)) := ⟨_, rfl⟩
  obtain ⟨q, hq⟩ : ∃ q, q = max (min a b) (min (max a b) c) := ⟨_, rfl⟩
  obtain ⟨r, hr⟩ : ∃ r, r = max a (max b c) := ⟨_, rfl⟩
  have h1 : p ≤ q := by omega
  have h2 : q ≤ r := by omega
  have h3 : -9223372036854775808 ≤ p := by omega
  have h4 : r < 9223372036854775808 := by omega
  have HP := Lib.hid hp
  have HQ := Lib.hid hq
  have HR := Lib.hid hr
  have G1 := Lib.hid h1
  have G2 := Lib.hid h2
  have G3 := Lib.hid h3
  have G4 := Lib.hid h4
  have G5 : Hid (p ≤ r) := Int.le_trans h1 h2
  have W1 : Hid (-9223372036854775808 ≤ q) := Int.le_trans h3 h1
  have W2 : Hid (q < 9223372036854775808) := Int.lt_of_le_of_lt h2 h4
  have D1 : Hid (0 ≤ q - p ∧ 0 ≤ r - q ∧ (q - p) + (r - q) < 18446744073709551616 ∧ (q - p) + (r - q) = r - p) := by unfold Hid; omega
  clear hp hq hr h1 h2 h3 h4 ha hb hc
  by_cases hpr : p = r
  case' pos => have t1 : (r - p == 0) = true := by rw [hpr]; simp
  case' pos => have t2 : (p == r) = true := beq_iff_eq.2 hpr
  case' neg => have t1 : (r - p == 0) = false := beq_eq_false_iff_ne.2 (by omega)
  case' neg => have t2 : (p == r) = false := beq_eq_false_iff_ne.2 hpr
  all_goals
    clear hpr
    go_enter Tryd.func7, Tryd.ntmps7
    go_wp2_with fail
    rw [← HP.out, ← HQ.out, ← HR.out]
    refine (diff_le p q _ G1.out G3.out W2.out).mono ?_
    rintro e w0 ⟨rfl, rfl⟩
    go_wp2_with fail
    refine (of_any _ _).mono ?_
    rintro e w1 ⟨rfl, hb1⟩
    go_wp2_with fail
    refine (diff_le q r _ G2.out W1.out G4.out).mono ?_
    rintro e w0 ⟨rfl, rfl⟩
    go_wp2_with fail
    refine (of_any _ _).mono ?_
    rintro e w2 ⟨rfl, hb2⟩
    go_wp2_with fail
    refine (add_low _ _ _ D1.out.1 D1.out.2.1 D1.out.2.2.1).mono ?_
    rw [D1.out.2.2.2]
    rintro e w3 ⟨rfl, hb3⟩
    have HB3 := (hb1.trans (hb2.mono hb1.size)).trans (hb3.mono (Nat.le_trans hb1.size hb2.size))
    clear hb1 hb2 hb3
    have HZ := HB3.size
    have c0 := new0 w3 (.int .u64 0) (.int .u64 (r - p)) rfl
    have c1 := new1 w3 (.int .u64 0) (.int .u64 (r - p)) rfl
    have HT3 := Lib.hid (tab_below HT.out (HB3.alloc HZ (.cells #[.int .u64 0, .int .u64 (r - p)] 24)))
    go_wp2_with fail
    go_region_held3 (fun w' => w'.cell? ⟨w3.heap.size, 0, none⟩ = some (.int .u64 0) ∧ w'.cell? ⟨w3.heap.size, 1, none⟩ = some (.int .u64 (r - p))) (first | exact ⟨c0, c1⟩ | exact ⟨k1, k2⟩ | exact ⟨m1, m2⟩)
      (first
        | (go_at_call 21; ((with_reducible refine (diff_le p r _ G5.out G3.out G4.out).mono ?_); rintro e w7 ⟨rfl, rfl⟩))
        | (go_at_call 21; ((with_reducible refine (diff_no p p _ (Int.le_refl _)).mono ?_); rintro e w7 ⟨rfl, rfl⟩))
        | (go_at_call 21; ((with_reducible refine (diff_no r p _ G5.out).mono ?_); rintro e w7 ⟨rfl, rfl⟩))
        | (go_at_call 16; refine (of_any _ _).mono ?_; rintro e w4 ⟨rfl, hb4⟩; have k1 := keepc hb4 (p := ⟨w3.heap.size, 0, none⟩) (v := .int .u64 0) (by exact c0); have k2 := keepc hb4 (p := ⟨w3.heap.size, 1, none⟩) (v := .int .u64 (r - p)) (by exact c1); have HT4 := Lib.hid (tab_drew HT3.out hb4))
        | (go_at_call 9; refine (awake_any _ (by exact HT4.out)).mono ?_; rintro e w5 ⟨rfl, hb5⟩; have m1 := keepc hb5 k1; have m2 := keepc hb5 k2))
    go_wp2_with fail
    go_ret
    exact ⟨rfl, (((HB3.alloc HZ _).drew).trans (hb4.mono (by simp; omega))).trans (hb5.mono (Nat.le_trans (by simp; omega) hb4.size))⟩
theorem of_wf64 {x : Int} (h : (Lit.int .i64 x).wf = true) : -9223372036854775808 ≤ x ∧ x < 9223372036854775808 := by
  have := bounds_i64 h
  omega

set_option maxRecDepth 100000 in
theorem spans_lifted (os : Os) (started : os.Started) (H : Type) (enc : TypeId × Value → H) :
    ReturnsInHanded {} Tryd.checked os 7 .any (fun w args => (Rows.wideSpansSpec.pre enc Tryd.prog Tryd.f7 [] false w args ∧ laidMetH Tryd.prog laid3 w) ∧ sizedMet enc Tryd.prog Tryd.f7 (OpenSpec.ofChange Rows.wideSpansSpec) false w args)
      (Rows.wideSpansSpec.post enc Tryd.prog Tryd.f7 false true false false) := by
  refine returnsInHanded_of_change_and (C := Tryd.checked) (X := fun w _ => laidMetH Tryd.prog laid3 w) (fun _ _ _ hh h => h.of_heap hh) Tryd.own started (by kernel_rfl) Tryd.func7
    (ChangeSpec.witness_shaped (enc := enc) (C := Tryd.checked) (os := os) (X := fun w _ => laidMetH Tryd.prog laid3 w) false (World.doorLaid Tryd.prog 2000 os) #[.int .i64 0, .int .i64 0, .int .i64 0] 8 rfl (World.shaped_of_RefB (by kernel_rfl) (by kernel_rfl)) (by kernel_rfl) (by kernel_rfl) (by kernel_rfl) (door3 os _)) ?_
  intro W base args ds gs before hval0 hW _ _ hL _
  have hval : ∀ (j : Nat) t v, Tryd.f7.params[j]? = some t → args[j]? = some v → Value.okWide Tryd.prog W .any base t v := hval0
  have hW' := hW
  obtain ⟨p, q, hA0, hV, rfl, hfz, hnd⟩ := hW
  have hA : DataW.TrodAll enc Tryd.prog W 0 (fun _ => true) true Tryd.f7.params.toList args.toList ds p := hA0
  rw [Tryd.params7] at hA hval
  obtain ⟨v0, v1, v2, d0, d1, d2, p0, p1, p2, rfl, rfl, rfl, h0, h1, h2⟩ := trodAll_three hA
  obtain ⟨rfl, rfl⟩ := trodVars_none hV
  obtain ⟨a, rfl, rfl, rfl, wa⟩ := open_int Tryd.underlying2 (hval 0 2 v0 rfl rfl) h0
  obtain ⟨b, rfl, rfl, rfl, wb⟩ := open_int Tryd.underlying2 (hval 1 2 v1 rfl rfl) h1
  obtain ⟨c, rfl, rfl, rfl, wc⟩ := open_int Tryd.underlying2 (hval 2 2 v2 rfl rfl) h2
  clear hA0 hval0
  refine (spans_any a b c W (tab_of_laid hL) (of_wf64 wa) (of_wf64 wb) (of_wf64 wc)).mono fun e W' ⟨he, hb⟩ => ?_
  subst he
  exact ⟨_, rfl, law_post hW' (trodAll_mk1 (shut_bool Tryd.underlying4 true)) (trodAll_mk3 (shut_int Tryd.underlying2 wa) (shut_int Tryd.underlying2 wb) (shut_int Tryd.underlying2 wc)) rfl hb⟩

theorem spans_holds : Rows.WideSpansSaid :=
  OpenClaim.holds_of_wide 7 Tryd.f7 rfl rfl rfl rfl rfl rfl rfl ⟨rfl, rfl, rfl, rfl, rfl⟩ rfl rfl rfl rfl rfl (by kernel_rfl) Tryd.func7 (by kernel_rfl)
    (of_decide_eq_true (by kernel_rfl)) (by unfold Func.isWrapper; first | (rw [if_pos (by decide +kernel)]; kernel_rfl) | (rw [if_neg (by decide +kernel)]; exact ⟨rfl, rfl⟩))
    (fun os started H enc _ => spans_lifted os started H enc)

theorem spans_card : Rows.WideSpansCardSaid :=
  Claim7.holds_tied_plain_at .later [] [.data, .data, .data] true (true, "87e2d8c4c7155894bd0858952195c60b8c955652c0426b7d599210d5fcc65363") false
    spans_holds (fun _ h => by cases h) (by kernel_rfl) (fun _ h => by cases h) wideSpans_row_tie rfl ⟨rfl, rfl⟩ (by kernel_rfl) rfl
    (fun f fn hf hfn => by
      obtain rfl : f = 7 := Option.some.inj ((show Tryd.prog.funcNamed "gridiron/gridironlaw01.WideSpans" = some 7 by kernel_rfl).symm.trans hf) |>.symm
      obtain rfl : fn = Tryd.f7 := (Option.some.inj (Tryd.func7.symm.trans hfn)).symm
      exact ⟨by kernel_rfl, fun j t ht => by
        rw [Tryd.params7] at ht
        have hm : t ∈ [2, 2, 2] := by simpa using Array.mem_of_getElem? ht
        have hall : ([2, 2, 2].all fun u => !Tryd.prog.wantsStandIn u) = true := by kernel_rfl
        exact (show Tryd.prog.wantsStandIn t = false by simpa using List.all_eq_true.1 hall t hm)⟩)
    (by kernel_rfl)
end Go.Proofs.YtdlijnkbpnhpoaaDoor
