/-
  WideProducts is proved: for every three numbers of 64 bits the law answers true and changes nothing that was there; condition: the three listed tables start as the program's text lays them (the card ties them to it).
-/
import Derived.Test.YtdlijnkbpnhpoaaDoorHelp
namespace Go.Proofs.YtdlijnkbpnhpoaaDoor
open Go.RowKit Go.ChangeShapes Go.WideShapes Go.ChangeAt Go.Joins

theorem mul_flip (a b : Nat) (w : World) (ha : a < B64) (hb : b < B64) :
    Calls Tryd.prog 19 #[.int .u64 b, .int .u64 a] w fun e w' => e = .returned (.agg #[.int .u64 (hi (a * b)), .int .u64 (lo (a * b))]) ∧ Below w.heap.size w w' := by
  rw [Nat.mul_comm a b]; exact mul_any b a w hb ha
theorem mul_none (a : Nat) (w : World) (ha : a < B64) :
    Calls Tryd.prog 19 #[.int .u64 a, .int .u64 0] w fun e w' => e = .returned (.agg #[.int .u64 0, .int .u64 0]) ∧ Below w.heap.size w w' := by
  have h := mul_any a 0 w ha (by decide +kernel)
  rw [Nat.mul_zero, hi_zero, lo_zero] at h
  exact h
theorem mul_at (x y : Int) (w : World) (m n : Nat) (e1 : x = m) (e2 : y = n) (hm : m < B64) (hn : n < B64) :
    Calls Tryd.prog 19 #[.int .u64 x, .int .u64 y] w fun e w' => e = .returned (.agg #[.int .u64 (hi (m * n)), .int .u64 (lo (m * n))]) ∧ Below w.heap.size w w' := by
  subst e1 e2; exact mul_any m n w hm hn
theorem add_to (m n s : Nat) (w : World) (h : m + n = s) (hs : s < B128) :
    Calls Tryd.prog 10 #[.agg #[.int .u64 (hi m), .int .u64 (lo m)], .agg #[.int .u64 (hi n), .int .u64 (lo n)]] w fun e w' => e = .returned (.tuple #[.agg #[.int .u64 (hi s), .int .u64 (lo s)], .bool true]) ∧ Below w.heap.size w w' := by
  subst h; exact add_yes m n w hs
theorem sub_to (m n s : Nat) (w : World) (h : n + s = m) (hm : m < B128) :
    Calls Tryd.prog 12 #[.agg #[.int .u64 (hi m), .int .u64 (lo m)], .agg #[.int .u64 (hi n), .int .u64 (lo n)]] w fun e w' => e = .returned (.tuple #[.agg #[.int .u64 (hi s), .int .u64 (lo s)], .bool true]) ∧ Below w.heap.size w w' := by
  obtain rfl : s = m - n := by omega
  exact sub_yes m n w hm (by omega)
theorem split_half (a b : Nat) : a * (b / 2) + a * (b - b / 2) = a * b := by
  rw [← Nat.mul_add]; congr 1; omega
theorem prod_lt (a b : Nat) (ha : a < B64) (hb : b < B64) : a * b < B128 := by
  have h1 : a * b ≤ 18446744073709551615 * 18446744073709551615 := Nat.mul_le_mul (by unfold B64 at ha; omega) (by unfold B64 at hb; omega)
  unfold B128; omega
theorem split_part (a l h : Nat) (hle : l ≤ h) : a * l + a * (h - l) = a * h := by
  rw [← Nat.mul_add]; congr 1; omega
theorem min_max (b c : Nat) (hb : b < B64) (hc : c < B64) : ∃ l h : Nat, min (b : Int) (c : Int) = (l : Int) ∧ max (b : Int) (c : Int) = (h : Int) ∧ l ≤ h ∧ h < B64 := by
  by_cases h : b ≤ c
  · exact ⟨b, c, by omega, by omega, h, hc⟩
  · exact ⟨c, b, by omega, by omega, by omega, hb⟩
theorem mul_once (a : Nat) (w : World) (ha : a < B64) :
    Calls Tryd.prog 19 #[.int .u64 a, .int .u64 1] w fun e w' => e = .returned (.agg #[.int .u64 0, .int .u64 a]) ∧ Below w.heap.size w w' := by
  have h := mul_any a 1 w ha (by decide +kernel)
  rw [Nat.mul_one, small_hi a ha, small_lo a ha] at h
  exact h

set_option maxRecDepth 100000 in
set_option maxHeartbeats 1000000 in
theorem prods_any (a b c : Nat) (w : World) (htab : Lib.TabIs Tryd.prog w "internal/strconv.uint64pow10" .u64 Lib.pow10Tab)
    (ha : a < B64) (hb : b < B64) (hc : c < B64) :
    Calls Tryd.prog 6 #[.int .u64 a, .int .u64 b, .int .u64 c] w fun e w' => e = .returned (.bool true) ∧ Below w.heap.size w w' := by
  have HT := Lib.hid htab
  have A := Lib.hid ha
  have B := Lib.hid hb
  have C := Lib.hid hc
  clear htab ha hb hc
  go_enter Tryd.func6, Tryd.ntmps6
  go_wp2_with fail
  refine (mul_any a b _ A.out B.out).mono ?_
  rintro e w1 ⟨rfl, hb1⟩
  have HZ := hb1.size
  have c0 := new0 w1 (.int .u64 (hi (a * b))) (.int .u64 (lo (a * b))) rfl
  have c1 := new1 w1 (.int .u64 (hi (a * b))) (.int .u64 (lo (a * b))) rfl
  go_upto_region 2 with fail
  go_cut [35] (fun s35 wx => s35 = .bool false ∧ wx.cell? ⟨w1.heap.size, 0, none⟩ = some (.int .u64 (hi (a * b))) ∧ wx.cell? ⟨w1.heap.size, 1, none⟩ = some (.int .u64 (lo (a * b))) ∧ Below w1.heap.size w1 wx ∧ w1.heap.size < wx.heap.size)
  case first =>
    go_region_held3 (fun w' => w'.cell? ⟨w1.heap.size, 0, none⟩ = some (.int .u64 (hi (a * b))) ∧ w'.cell? ⟨w1.heap.size, 1, none⟩ = some (.int .u64 (lo (a * b)))) (first | exact ⟨c0, c1⟩ | exact ⟨k1, k2⟩ | exact ⟨k3, k4⟩ | exact ⟨k5, k6⟩ | exact ⟨k7, k8⟩)
      (first
        | (go_at_call 19; ((with_reducible refine (mul_flip a b _ A.out B.out).mono ?_); rintro e w2 ⟨rfl, hb2⟩; have k1 := keepc hb2 (p := ⟨w1.heap.size, 0, none⟩) (by exact c0); have k2 := keepc hb2 (p := ⟨w1.heap.size, 1, none⟩) (by exact c1)))
        | (go_at_call 19; ((with_reducible refine (mul_none a _ A.out).mono ?_); rintro e w3 ⟨rfl, hb3⟩; have k3 := keepc hb3 k1; have k4 := keepc hb3 k2))
        | (go_at_call 19; ((with_reducible refine (mul_once a _ A.out).mono ?_); rintro e w4 ⟨rfl, hb4⟩; have k5 := keepc hb4 k3; have k6 := keepc hb4 k4))
        | (go_at_call 16; refine (of_any _ _).mono ?_; rintro e w5 ⟨rfl, hb5⟩; have k7 := keepc hb5 k5; have k8 := keepc hb5 k6))
    all_goals (go_wp2_with fail; go_meet)
    have z2 : w1.heap.size < w2.heap.size := Nat.le_trans (by simp) hb2.size
    have z5 : w1.heap.size < w5.heap.size := Nat.lt_of_lt_of_le z2 (Nat.le_trans hb3.size (Nat.le_trans hb4.size hb5.size))
    exact ⟨rfl, k7, k8, ((((((Below.refl _ _).alloc (Nat.le_refl _) _).drew).trans (hb2.mono (by simp))).trans (hb3.mono (by omega))).trans (hb4.mono (by have := hb3.size; omega))).trans (hb5.mono (by have := hb3.size; have := hb4.size; omega)), z5⟩
  case rest =>
    obtain ⟨rfl, x0, x1, hBx, hzx⟩ := hcut
    have HBx := hb1.trans (hBx.mono HZ)
    clear c0 c1 hb1 hBx
    have hb0 : (0 : Int) ≤ (b : Int) := by omega
    have hb9 : (b : Int) ≤ 18446744073709551615 := by have := B.out; unfold B64 at this; omega
    have hs1 := Lib.hid (split_half a b)
    have hs2 : Hid (a * b < B128) := prod_lt a b A.out B.out
    obtain ⟨l, h, hl, hh, hle, hlt⟩ := min_max b c B.out C.out
    have HLE := Lib.hid hle
    have HLT := Lib.hid hlt
    clear hle hlt
    go_wp2_with fail
    refine (mul_at _ _ _ a (b / 2) rfl (by omega) A.out (Nat.lt_of_le_of_lt (Nat.div_le_self b 2) B.out)).mono ?_
    rintro e w2 ⟨rfl, hb2⟩
    replace x0 := keepc hb2 x0
    replace x1 := keepc hb2 x1
    have hz2 := hb2.size
    have HB2 := HBx.trans (hb2.mono (by omega))
    clear hb2 HBx
    go_wp2_with fail
    refine (mul_at _ _ _ a (b - b / 2) rfl (by omega) A.out (Nat.lt_of_le_of_lt (Nat.sub_le b _) B.out)).mono ?_
    rintro e w3 ⟨rfl, hb3⟩
    replace x0 := keepc hb3 x0
    replace x1 := keepc hb3 x1
    have hz3 := hb3.size
    have HB3 := HB2.trans (hb3.mono (by omega))
    clear hb3 HB2
    go_wp2_with fail
    refine (add_to _ _ (a * b) _ hs1.out hs2.out).mono ?_
    rintro e w4 ⟨rfl, hb4⟩
    replace x0 := keepc hb4 x0
    replace x1 := keepc hb4 x1
    have hz4 := hb4.size
    have HB4 := HB3.trans (hb4.mono (by omega))
    have hy4 : w1.heap.size < w4.heap.size := by omega
    clear hb4 HB3
    go_wp2_with fail
    refine (mul_any a h _ A.out HLT.out).mono ?_
    rintro e w5 ⟨rfl, hb5⟩
    have HB5 := (HB4.alloc (by omega) (Obj.cells #[Value.int IntKind.u64 (hi (a * b)), Value.int IntKind.u64 (lo (a * b))] 24)).trans (hb5.mono (by simp; omega))
    have hz5 : w4.heap.size < w5.heap.size := Nat.le_trans (by simp) hb5.size
    clear hb5 HB4 x0 x1
    go_wp2_with fail
    refine (mul_any a l _ A.out (Nat.lt_of_le_of_lt HLE.out HLT.out)).mono ?_
    rintro e w6 ⟨rfl, hb6⟩
    have hz6 := hb6.size
    have HB6 := HB5.trans (hb6.mono (by omega))
    clear hb6 HB5
    go_wp2_with fail
    refine (sub_to _ _ (a * (h - l)) _ (split_part a l h HLE.out) (prod_lt a h A.out HLT.out)).mono ?_
    rintro e w7 ⟨rfl, hb7⟩
    have hz7 := hb7.size
    have HB7 := HB6.trans (hb7.mono (by omega))
    clear hb7 HB6
    have hd : IntKind.u64.wrap ((h : Int) - (l : Int)) = ((h - l : Nat) : Int) := by
      have q1 := HLE.out
      have q2 := HLT.out
      unfold B64 at q2
      rw [IntWalk.u64_in _ (by omega)]; omega
    have DL : Hid (h - l < B64) := Nat.lt_of_le_of_lt (Nat.sub_le h l) HLT.out
    generalize h - l = d at *
    have c0 := new0 w7 (.int .u64 (hi (a * d))) (.int .u64 (lo (a * d))) rfl
    have c1 := new1 w7 (.int .u64 (hi (a * d))) (.int .u64 (lo (a * d))) rfl
    have HT7 := Lib.hid (tab_below HT.out (HB7.alloc (by omega) (.cells #[.int .u64 (hi (a * d)), .int .u64 (lo (a * d))] 24)))
    go_wp2_with fail
    go_region_held3 (fun w' => w'.cell? ⟨w7.heap.size, 0, none⟩ = some (.int .u64 (hi (a * d))) ∧ w'.cell? ⟨w7.heap.size, 1, none⟩ = some (.int .u64 (lo (a * d)))) (first | exact ⟨c0, c1⟩ | exact ⟨k1, k2⟩ | exact ⟨m1, m2⟩)
      (first
        | (go_at_call 19; refine (mul_any a d _ A.out DL.out).mono ?_; rintro e w8 ⟨rfl, hb8⟩; have k1 := keepc hb8 (p := ⟨w7.heap.size, 0, none⟩) (by exact c0); have k2 := keepc hb8 (p := ⟨w7.heap.size, 1, none⟩) (by exact c1); have HT8 := Lib.hid (tab_drew HT7.out hb8))
        | (go_at_call 9; refine (awake_any _ (by exact HT8.out)).mono ?_; rintro e w9 ⟨rfl, hb9⟩; have m1 := keepc hb9 k1; have m2 := keepc hb9 k2))
    go_wp2_with fail
    go_ret
    exact ⟨rfl, (((HB7.alloc (by omega) _).drew).trans (hb8.mono (by simp; omega))).trans (hb9.mono (Nat.le_trans (by simp; omega) hb8.size))⟩
theorem nat_of {x : Int} (h : (Lit.int .u64 x).wf = true) : ∃ n : Nat, x = n := Int.eq_ofNat_of_zero_le (of_wf h).1
theorem nat_lt {n : Nat} (h : (Lit.int .u64 (n : Int)).wf = true) : n < B64 := by
  have := of_wf h
  unfold B64; omega

set_option maxRecDepth 100000 in
theorem prods_lifted (os : Os) (started : os.Started) (H : Type) (enc : TypeId × Value → H) :
    ReturnsInHanded {} Tryd.checked os 6 .any (fun w args => (Rows.wideProductsSpec.pre enc Tryd.prog Tryd.f6 [] false w args ∧ laidMetH Tryd.prog laid3 w) ∧ sizedMet enc Tryd.prog Tryd.f6 (OpenSpec.ofChange Rows.wideProductsSpec) false w args)
      (Rows.wideProductsSpec.post enc Tryd.prog Tryd.f6 false true false false) := by
  refine returnsInHanded_of_change_and (C := Tryd.checked) (X := fun w _ => laidMetH Tryd.prog laid3 w) (fun _ _ _ hh h => h.of_heap hh) Tryd.own started (by kernel_rfl) Tryd.func6
    (ChangeSpec.witness_shaped (enc := enc) (C := Tryd.checked) (os := os) (X := fun w _ => laidMetH Tryd.prog laid3 w) false (World.doorLaid Tryd.prog 2000 os) #[.int .u64 0, .int .u64 0, .int .u64 0] 8 rfl (World.shaped_of_RefB (by kernel_rfl) (by kernel_rfl)) (by kernel_rfl) (by kernel_rfl) (by kernel_rfl) (door3 os _)) ?_
  intro W base args ds gs before hval0 hW _ _ hL _
  have hval : ∀ (j : Nat) t v, Tryd.f6.params[j]? = some t → args[j]? = some v → Value.okWide Tryd.prog W .any base t v := hval0
  have hW' := hW
  obtain ⟨p, q, hA0, hV, rfl, hfz, hnd⟩ := hW
  have hA : DataW.TrodAll enc Tryd.prog W 0 (fun _ => true) true Tryd.f6.params.toList args.toList ds p := hA0
  rw [Tryd.params6] at hA hval
  obtain ⟨v0, v1, v2, d0, d1, d2, p0, p1, p2, rfl, rfl, rfl, h0, h1, h2⟩ := trodAll_three hA
  obtain ⟨rfl, rfl⟩ := trodVars_none hV
  obtain ⟨a, rfl, rfl, rfl, wa⟩ := open_int Tryd.underlying22 (hval 0 22 v0 rfl rfl) h0
  obtain ⟨b, rfl, rfl, rfl, wb⟩ := open_int Tryd.underlying22 (hval 1 22 v1 rfl rfl) h1
  obtain ⟨c, rfl, rfl, rfl, wc⟩ := open_int Tryd.underlying22 (hval 2 22 v2 rfl rfl) h2
  obtain ⟨a, rfl⟩ := nat_of wa
  obtain ⟨b, rfl⟩ := nat_of wb
  obtain ⟨c, rfl⟩ := nat_of wc
  clear hA0 hval0
  refine (prods_any a b c W (tab_of_laid hL) (nat_lt wa) (nat_lt wb) (nat_lt wc)).mono fun e W' ⟨he, hb⟩ => ?_
  subst he
  exact ⟨_, rfl, law_post hW' (trodAll_mk1 (shut_bool Tryd.underlying4 true)) (trodAll_mk3 (shut_int Tryd.underlying22 wa) (shut_int Tryd.underlying22 wb) (shut_int Tryd.underlying22 wc)) rfl hb⟩

theorem prods_holds : Rows.WideProductsSaid :=
  OpenClaim.holds_of_wide 6 Tryd.f6 rfl rfl rfl rfl rfl rfl rfl ⟨rfl, rfl, rfl, rfl, rfl⟩ rfl rfl rfl rfl rfl (by kernel_rfl) Tryd.func6 (by kernel_rfl)
    (of_decide_eq_true (by kernel_rfl)) (by unfold Func.isWrapper; first | (rw [if_pos (by decide +kernel)]; kernel_rfl) | (rw [if_neg (by decide +kernel)]; exact ⟨rfl, rfl⟩))
    (fun os started H enc _ => prods_lifted os started H enc)

theorem prods_card : Rows.WideProductsCardSaid :=
  Claim7.holds_tied_plain_at .later [] [.data, .data, .data] true (true, "87e2d8c4c7155894bd0858952195c60b8c955652c0426b7d599210d5fcc65363") false
    prods_holds (fun _ h => by cases h) (by kernel_rfl) (fun _ h => by cases h) wideProducts_row_tie rfl ⟨rfl, rfl⟩ (by kernel_rfl) rfl
    (fun f fn hf hfn => by
      obtain rfl : f = 6 := Option.some.inj ((show Tryd.prog.funcNamed "gridiron/gridironlaw01.WideProducts" = some 6 by kernel_rfl).symm.trans hf) |>.symm
      obtain rfl : fn = Tryd.f6 := (Option.some.inj (Tryd.func6.symm.trans hfn)).symm
      exact ⟨by kernel_rfl, fun j t ht => by
        rw [Tryd.params6] at ht
        have hm : t ∈ [22, 22, 22] := by simpa using Array.mem_of_getElem? ht
        have hall : ([22, 22, 22].all fun u => !Tryd.prog.wantsStandIn u) = true := by kernel_rfl
        exact (show Tryd.prog.wantsStandIn t = false by simpa using List.all_eq_true.1 hall t hm)⟩)
    (by kernel_rfl)
end Go.Proofs.YtdlijnkbpnhpoaaDoor
