/-
  SortWork: putting in order writes what both halves write, and all once. For every list of keys; no condition.
-/
import Derived.Test.YtomchimjogdkkaaLift
namespace Go.Proofs.Ytomchimjogdkkaa
open Go.ChangeShapes Go.WideShapes Go.ChangeAt Go.RowKit Go.Joins

theorem KS.take {X : World} {p : Option Addr} {ks : List (Int × Int)} (h : KS X p ks) (n : Nat) : KS X p (ks.take n) := by
  rcases h with rfl | ⟨b, off, rfl, h, hb⟩
  · exact .inl (by simp)
  · refine .inr ⟨b, off, rfl, fun j k e => ?_, hb⟩
    rw [List.getElem?_take] at e
    split at e
    · exact h j k e
    · cases e
theorem slk_lo (X : World) (p : Option Addr) (n c h : Nat) (hh : h ≤ c) : (Instr.slice 22 (.slice p n c) none (some (.int .i64 h)) none).run Try.prog X = .ok (.slice p h c) X := by
  obtain ⟨i0, hi, hz0, hz1, hz2⟩ := info_parts (show (Try.prog.info? 40).map (fun i => (i.zero, i.size, i.bytes)) = some (some (.agg #[.int .i64 0, .int .u32 0]), 2, 16) by kernel_rfl)
  simp [Instr.slice, run_underlying Try.underlying22, Instr.sliceBounds, Instr.sliceBound, asIntOf, sizeOf, typeInfo, hi, hh]
  cases p <;> simp [Addr.add_zero']
theorem slk_hi (p : Option Addr) (ks : List (Int × Int)) (c h : Nat) (hh : h ≤ ks.length) (hc : ks.length ≤ c) : ∃ p', (∀ X, (Instr.slice 22 (.slice p ks.length c) (some (.int .i64 h)) none none).run Try.prog X = .ok (.slice p' (ks.length - h) (c - h)) X) ∧ ∀ X, KS X p ks → KS X p' (ks.drop h) := by
  obtain ⟨i0, hi, hz0, hz1, hz2⟩ := info_parts (show (Try.prog.info? 40).map (fun i => (i.zero, i.size, i.bytes)) = some (some (.agg #[.int .i64 0, .int .u32 0]), 2, 16) by kernel_rfl)
  refine ⟨if c = h then p else p.map (·.add (h * 2)), fun X => ?_, fun X hX => ?_⟩
  · simp [Instr.slice, run_underlying Try.underlying22, Instr.sliceBounds, Instr.sliceBound, asIntOf, sizeOf, typeInfo, hi, hz1, hh]
  · by_cases he : h = ks.length
    · exact .inl (by simp [he])
    · rcases hX with rfl | ⟨b, off, rfl, hk, hb⟩
      · simp at hh; subst hh; simp at he
      · rw [if_neg (by omega)]
        refine .inr ⟨b, off + h * 2, by simp [addn], fun j k e => ?_, hb⟩
        rw [List.getElem?_drop] at e
        have := hk (h + j) k e
        rw [show off + (h + j) * 2 = off + h * 2 + j * 2 by omega] at this
        exact this

set_option maxRecDepth 100000 in
set_option maxHeartbeats 3200000 in
theorem work_walk (p : Option Addr) (cap : Nat) (ks : List (Int × Int)) (w : World) (hks : KS w p ks) (hl : ks.length ≤ cap) (_hm : cap ≤ maxLen) :
    Calls Try.prog 6 #[.slice p ks.length cap] w fun e w' => e = .returned (.bool true) ∧ Below w.heap.size w w' := by
  have hmx : maxLen = 9223372036854775807 := rfl
  by_cases hbig : 3000 < ks.length
  · have hbz : (3000 : Int) < ks.length := by omega
    go_enter Try.func6, Try.ntmps6
    go_wp2_with (go_at_call 9; (with_reducible refine (awake_any _).mono ?_); rintro e w1 ⟨rfl, hb⟩)
    go_ret
    exact ⟨rfl, hb⟩
  obtain ⟨h, hh⟩ : ∃ h, h = ks.length / 2 := ⟨_, rfl⟩
  obtain ⟨p', s2, hp'⟩ := slk_hi p ks cap h (by omega) hl
  have s1 := fun X => slk_lo X p ks.length cap h (by omega)
  have l1 : (ks.take h).length = h := by simp; omega
  have l2 : (ks.drop h).length = ks.length - h := by simp
  have C1 := Lib.hid (fun X (hX : KS X p ks) => Order_any X p cap ks hX (by omega))
  have C2 := Lib.hid (fun X (hX : KS X p ks) => Order_any X p cap (ks.take h) (hX.take h) (by omega))
  have C3 := Lib.hid (fun X (hX : KS X p ks) => Order_any X p' (cap - h) (ks.drop h) (hp' X hX) (by omega))
  rw [l1] at C2
  rw [l2] at C3
  have HK := Lib.hid hks
  clear hks hp'
  obtain ⟨n, hn⟩ : ∃ n, n = ks.length := ⟨_, rfl⟩
  rw [← hn] at C1 C3 s1 s2 hbig hl hh
  rw [← hn]
  clear hn l1 l2
  have e1 : (n : Int).tdiv 2 = (h : Int) := by rw [hh]; rfl
  have e2 : (n : Int) / 2 = (h : Int) := by omega
  obtain ⟨m, hm2⟩ : ∃ m, m = n - h := ⟨_, rfl⟩
  rw [← hm2] at C3 s2
  have hnb : ¬ (3000 : Int) < n := by omega
  have hw1 := wrt_le 12 n (by omega)
  have hw2 := wrt_le 12 h (by omega)
  have hw3 := wrt_le 12 m (by omega)
  have hwr : 2 ≤ n → wrt n = wrt h + wrt m + n := by intro h2; rw [wrt, if_neg (by omega), ← hh, ← hm2]
  have hw0 : n < 2 → wrt n = 0 := by intro h2; rw [wrt, if_pos (by omega)]
  have HWR := Lib.hid hwr
  have HW0 := Lib.hid hw0
  have HH := Lib.hid hh
  have HM2 := Lib.hid hm2
  clear hwr hw0 hh hm2
  have b1 : wrt n ≤ 40000 := by omega
  have b2 : wrt h ≤ 40000 := by have := HH.out; omega
  have b3 : wrt m ≤ 40000 := by have := HM2.out; omega
  clear hw1 hw2 hw3
  obtain ⟨x1, hx1⟩ : ∃ x, x = wrt n := ⟨_, rfl⟩
  obtain ⟨x2, hx2⟩ : ∃ x, x = wrt h := ⟨_, rfl⟩
  obtain ⟨x3, hx3⟩ : ∃ x, x = wrt m := ⟨_, rfl⟩
  rw [← hx1] at C1 HWR HW0 b1
  rw [← hx2] at C2 HWR b2
  rw [← hx3] at C3 HWR b3
  have HX1 := Lib.hid hx1
  clear hx1 hx2 hx3
  go_enter Try.func6, Try.ntmps6
  go_upto_region 8 with (first
    | (go_at_call 12; (with_reducible refine (C1.out w HK.out).mono ?_); rintro e w1 ⟨A1, rfl, -, -, -, -, hb⟩; have HB1 := Lib.hid hb; have HK1 := Lib.hid (HK.out.keep hb); clear hb)
    | (go_at_call 12; (with_reducible refine (C2.out w1 HK1.out).mono ?_); rintro e w2 ⟨A2, rfl, -, -, -, -, hb⟩; have HB2 := Lib.hid (HB1.out.trans (hb.mono HB1.out.size)); have HK2 := Lib.hid (HK1.out.keep hb); clear hb)
    | (go_at_call 12; (with_reducible refine (C3.out w2 HK2.out).mono ?_); rintro e w3 ⟨A3, rfl, -, -, -, -, hb⟩; have HB3 := Lib.hid (HB2.out.trans (hb.mono HB2.out.size)); clear hb))
  by_cases h2 : n < 2
  · have h2z : (n : Int) < 2 := by omega
    have hx0 : x1 = 0 := HW0.out h2
    subst hx0
    go_wp2_with (go_at_call 9; (with_reducible refine (awake_any _).mono ?_); rintro e w4 ⟨rfl, hb⟩; have HB4 := Lib.hid (HB3.out.trans (hb.mono HB3.out.size)); clear hb)
    go_ret
    exact ⟨rfl, HB4.out⟩
  · have h2z : ¬ (n : Int) < 2 := by omega
    have hsum : x1 = x2 + x3 + n := HWR.out (by omega)
    have HS := Lib.hid hsum
    clear hsum
    go_wp2_with fail
    go_loopw [12, 13] (fun a b wr => ∃ k : Nat, k ≤ 12 ∧ a = .int .i64 k ∧ b = .int .i64 ((2 ^ k : Nat) : Int) ∧ Hid (k = 0 ∨ 2 ^ (k - 1) < n) ∧ wr = w3) (fun a _ _ => 13 - (intOf a).toNat)
    case atStart => exact ⟨0, by omega, rfl, rfl, Lib.hid (.inl rfl), rfl⟩
    case round =>
      obtain ⟨k, hk, rfl, rfl, HP, rfl⟩ := hrel
      obtain ⟨t, ht⟩ : ∃ t, t = 2 ^ k := ⟨_, rfl⟩
      rw [← ht]
      have htl : t ≤ 4096 := by rw [ht]; exact Nat.pow_le_pow_right (by decide) hk
      by_cases hlt : t < n
      · have hltz : (t : Int) < n := by omega
        have hk2 : k < 12 := by
          rcases Nat.lt_or_ge k 12 with h | h
          · exact h
          · have : t = 4096 := by rw [ht, show k = 12 by omega]
            omega
        have HT := Lib.hid ht
        clear ht
        go_wp2
        go_roundw
        case rel => exact ⟨k + 1, by omega, by go_num, by rw [Nat.pow_succ, ← HT.out]; go_num, Lib.hid (.inr (by rw [Nat.add_sub_cancel, ← HT.out]; exact hlt)), by first | trivial | rfl⟩
        case measure => simp [intOf]; omega
      · have hltz : ¬ (t : Int) < n := by omega
        have hle : x1 ≤ n * k := by
          have := wrt_le k n (by omega)
          rw [HX1.out, Nat.mul_comm]
          exact this
        have hnk : n * k ≤ 36000 := Nat.mul_le_mul (show n ≤ 3000 by omega) hk
        obtain ⟨z, hz⟩ : ∃ z, z = n * k := ⟨_, rfl⟩
        have hzz : (n : Int) * k = (z : Int) := by rw [hz, Int.natCast_mul]
        rw [← hz] at hle hnk
        have hse : ((x2 : Int) + x3 + n) = x1 := by have := HS.out; omega
        clear ht hz
        go_wp2_with (go_at_call 9; (with_reducible refine (awake_any _).mono ?_); rintro e w4 ⟨rfl, hb⟩; have HB4 := Lib.hid (HB3.out.trans (hb.mono HB3.out.size)); clear hb)
        go_ret
        exact ⟨rfl, HB4.out⟩

set_option maxRecDepth 100000 in
theorem work_lifted (os : Os) (started : os.Started) (H : Type) (enc : TypeId × Value → H) :
    ReturnsInHanded {} Try.checked os 6 .any (Rows.sortWorkSpec.pre6 enc Try.prog Try.f6 Rows.sortWorkRow.domain false) (Rows.sortWorkSpec.post enc Try.prog Try.f6 false true false false) := by
  refine returnsInHanded_of_change (C := Try.checked) Try.own started (by kernel_rfl) Try.func6
    (ChangeSpec.witness6 (enc := enc) (C := Try.checked) false ⟨#[], #[.slice none 0 0], []⟩ 8 (by kernel_rfl) (by kernel_rfl) (by kernel_rfl) (by kernel_rfl)) ?_
  intro W base args ds gs before hval0 hW hcnd _
  have hval : ∀ (j : Nat) t v, Try.f6.params[j]? = some t → args[j]? = some v → Value.okWide Try.prog W .any base t v := hval0
  have hW' := hW
  obtain ⟨p, q, hA0, hV, rfl, hfz, hnd⟩ := hW
  have hA : DataW.TrodAll enc Try.prog W 0 (fun _ => true) true Try.f6.params.toList args.toList ds p := hA0
  rw [Try.params6] at hA hval
  obtain ⟨v0, vs0, d0, ds0, p0, q0, hargs, rfl, rfl, h0, r0⟩ := trodAll_cons hA
  obtain ⟨rfl, rfl, rfl⟩ := trodAll_nil r0
  obtain rfl : args = #[v0] := by cases args; simp_all
  obtain ⟨rfl, rfl⟩ := trodVars_none hV
  obtain ⟨a0, len0, cap0, rfl⟩ := okWide_slice Try.underlying22 (hval 0 22 v0 rfl rfl)
  obtain ⟨xs0, rfl, hx0, hl0, hm0⟩ := open_keys h0
  clear hA0 hval0
  simp only [List.append_nil] at hW'
  have hlt : ∀ x ∈ p0, x.block < W.heap.size := fun x hx => by simpa using hW'.lt x hx
  refine (work_walk _ _ _ W hx0 hl0 hm0).mono fun e W' ⟨he, hb⟩ => ?_
  subst he
  have hR := (trodAll_cons_mk (Below.trod Try.laidOut (by kernel_rfl) (of_decide_eq_true (by kernel_rfl)) h0 hb (fun x hx => hlt x (by simp [hx]))) trodAll_mk0)
  simp only [List.append_nil] at hR
  exact ⟨_, rfl, law_post hW' (trodAll_cons_mk (shut_bool Try.underlying4 _) trodAll_mk0) hR rfl hb⟩

theorem work_holds : Rows.SortWorkSaid :=
  OpenClaim.holds_of_wide 6 Try.f6 rfl rfl rfl rfl rfl rfl rfl ⟨rfl, rfl, rfl, rfl, rfl⟩ rfl rfl rfl rfl rfl (by kernel_rfl) Try.func6 (by kernel_rfl)
    (of_decide_eq_true (by kernel_rfl)) (by unfold Func.isWrapper; first | (rw [if_pos (by decide +kernel)]; kernel_rfl) | (rw [if_neg (by decide +kernel)]; exact ⟨rfl, rfl⟩))
    (fun os started H enc _ => work_lifted os started H enc)
end Go.Proofs.Ytomchimjogdkkaa
