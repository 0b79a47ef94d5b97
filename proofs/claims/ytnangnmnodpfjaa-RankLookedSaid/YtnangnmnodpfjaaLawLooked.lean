/-
  RankLooked: how many numbers are looked at. For every list and every number; no condition.
-/
import Derived.Test.YtnangnmnodpfjaaLift
namespace Go.Proofs.Ytnangnmnodpfjaa
open Go.ChangeShapes Go.WideShapes Go.ChangeAt Go.RowKit Go.Joins

set_option maxRecDepth 100000 in
set_option maxHeartbeats 3200000 in
theorem looked_walk (p : Option Addr) (cap : Nat) (xs : List Int) (x : Int) (w : World) (hx : NS w p .i64 xs) :
    Calls Try.prog 5 #[.slice p xs.length cap, .int .i64 x] w fun e w' => e = .returned (.bool true) ∧ Below w.heap.size w w' := by
  by_cases hb1 : 2000 < xs.length
  · have hbz : (2000 : Int) < xs.length := by omega
    clear hx
    go_enter Try.func5, Try.ntmps5
    go_wp2_with (go_at_call 9; (with_reducible refine (awake_any _).mono ?_); rintro e w1 ⟨rfl, hb⟩)
    go_ret
    exact ⟨rfl, hb⟩
  have CF := Lib.hid (First_any w p cap xs x hx (by omega))
  have CA := Lib.hid (fun X (hX : NS X p .i64 xs) => Above_any X p cap xs x hX (by omega))
  have CL := Lib.hid (fun X => Log_any ((xs.length : Int) + 1) X (by omega))
  have hl : lgI ((xs.length : Int) + 1) = lgN (xs.length + 1) := by
    unfold lgI
    congr 1
  rw [hl] at CL
  obtain ⟨k1, k2, k3⟩ := lk_looks (notLess xs x) (n := xs.length) (by omega)
  obtain ⟨m1, m2, m3⟩ := lk_looks (isMore xs x) (n := xs.length) (by omega)
  have e1 : lk (notLess xs x) xs.length = firstP xs x := rfl
  have e2 : lk (isMore xs x) xs.length = aboveP xs x := rfl
  rw [e1] at k1 k2 k3
  rw [e2] at m1 m2 m3
  have z0 : xs.length = 0 → lgN (xs.length + 1) = 0 := fun h => by rw [h]; exact lg_small (by omega)
  have HX := Lib.hid hx
  unfold two at CF CA
  obtain ⟨a, ha⟩ : ∃ a, a = (firstP xs x).1 := ⟨_, rfl⟩
  obtain ⟨b, hb⟩ : ∃ a, a = (firstP xs x).2 := ⟨_, rfl⟩
  obtain ⟨c, hc⟩ : ∃ a, a = (aboveP xs x).1 := ⟨_, rfl⟩
  obtain ⟨d, hd⟩ : ∃ a, a = (aboveP xs x).2 := ⟨_, rfl⟩
  obtain ⟨L, hL⟩ : ∃ L, L = lgN (xs.length + 1) := ⟨_, rfl⟩
  rw [← ha] at CF k1
  rw [← hb] at CF k2 k3
  rw [← hc] at CA m1
  rw [← hd] at CA m2 m3
  rw [← hL] at CL k2 k3 m2 m3 z0
  clear ha hb hc hd e1 e2 hl hx
  obtain ⟨n, hn⟩ : ∃ n, n = xs.length := ⟨_, rfl⟩
  rw [← hn] at hb1 CF CA CL k1 m1 z0
  rw [← hn]
  have hL64 : L ≤ 2 ^ 63 := by
    rw [hL, ← hn]
    unfold lgN
    exact Nat.le_trans (Lib.bitLen_le _ 64 (by omega) (by omega)) (by decide)
  clear hL
  have hbz : ¬ (2000 : Int) < n := by omega
  have y1 : ¬ (n : Int) < a := by omega
  have y2 : ¬ (n : Int) < c := by omega
  have y3 : (b : Int) ≤ L := by omega
  have y4 : (d : Int) ≤ L := by omega
  have y5 : (L : Int) - 1 ≤ b := by omega
  have y6 : (L : Int) - 1 ≤ d := by omega
  by_cases h0 : n = 0
  · have hL0 := z0 h0
    have hb0 : b = 0 := by omega
    have hd0 : d = 0 := by omega
    subst hb0 hd0
    have h0z : ¬ (0 : Int) < n := by omega
    clear hn z0 h0
    go_enter Try.func5, Try.ntmps5
    go_wp2_with (first
      | (go_at_call 18; (with_reducible refine (CL.out _).mono ?_); rintro e w1 ⟨rfl, rfl⟩)
      | (go_at_call 11; (with_reducible refine CF.out.mono ?_); rintro e w1 ⟨rfl, hb⟩; have HX1 := Lib.hid (HX.out.keep hb); have HB1 := Lib.hid hb; clear hb)
      | (go_at_call 13; (with_reducible refine (CA.out w1 HX1.out).mono ?_); rintro e w2 ⟨rfl, hb⟩; have HB2 := Lib.hid (HB1.out.trans (hb.mono HB1.out.size)); clear hb)
      | (go_at_call 9; (with_reducible refine (awake_any _).mono ?_); rintro e w3 ⟨rfl, hb⟩; have HB3 := Lib.hid (HB2.out.trans (hb.mono HB2.out.size)); clear hb))
    go_ret
    exact ⟨rfl, HB3.out⟩
  · have h0z : (0 : Int) < n := by omega
    clear hn z0 h0
    go_enter Try.func5, Try.ntmps5
    go_wp2_with (first
      | (go_at_call 18; (with_reducible refine (CL.out _).mono ?_); rintro e w1 ⟨rfl, rfl⟩)
      | (go_at_call 11; (with_reducible refine CF.out.mono ?_); rintro e w1 ⟨rfl, hb⟩; have HX1 := Lib.hid (HX.out.keep hb); have HB1 := Lib.hid hb; clear hb)
      | (go_at_call 13; (with_reducible refine (CA.out w1 HX1.out).mono ?_); rintro e w2 ⟨rfl, hb⟩; have HB2 := Lib.hid (HB1.out.trans (hb.mono HB1.out.size)); clear hb)
      | (go_at_call 9; (with_reducible refine (awake_any _).mono ?_); rintro e w3 ⟨rfl, hb⟩; have HB3 := Lib.hid (HB2.out.trans (hb.mono HB2.out.size)); clear hb))
    go_ret
    exact ⟨rfl, HB3.out⟩

set_option maxRecDepth 100000 in
theorem looked_lifted (os : Os) (started : os.Started) (H : Type) (enc : TypeId × Value → H) :
    ReturnsInHanded {} Try.checked os 5 .any (Rows.rankLookedSpec.pre6 enc Try.prog Try.f5 Rows.rankLookedRow.domain false) (Rows.rankLookedSpec.post enc Try.prog Try.f5 false true false false) := by
  refine returnsInHanded_of_change (C := Try.checked) Try.own started (by kernel_rfl) Try.func5
    (ChangeSpec.witness6 (enc := enc) (C := Try.checked) false ⟨#[], #[.slice none 0 0, .int .i64 0], []⟩ 8 (by kernel_rfl) (by kernel_rfl) (by kernel_rfl) (by kernel_rfl)) ?_
  intro W base args ds gs before hval0 hW hcnd _
  have hval : ∀ (j : Nat) t v, Try.f5.params[j]? = some t → args[j]? = some v → Value.okWide Try.prog W .any base t v := hval0
  have hW' := hW
  obtain ⟨p, q, hA0, hV, rfl, hfz, hnd⟩ := hW
  have hA : DataW.TrodAll enc Try.prog W 0 (fun _ => true) true Try.f5.params.toList args.toList ds p := hA0
  rw [Try.params5] at hA hval
  obtain ⟨v0, vs0, d0, ds0, p0, q0, hargs, rfl, rfl, h0, r0⟩ := trodAll_cons hA
  obtain ⟨v1, vs1, d1, ds1, p1, q1, rfl, rfl, rfl, h1, r1⟩ := trodAll_cons r0
  obtain ⟨rfl, rfl, rfl⟩ := trodAll_nil r1
  obtain rfl : args = #[v0, v1] := by cases args; simp_all
  obtain ⟨rfl, rfl⟩ := trodVars_none hV
  obtain ⟨a0, len0, cap0, rfl⟩ := okWide_slice Try.underlying22 (hval 0 22 v0 rfl rfl)
  obtain ⟨xs0, rfl, hx0, hl0, hm0, hp0, hw0⟩ := open_nums2 h0
  obtain ⟨a1, rfl, rfl, rfl, w1⟩ := open_int Try.underlying2 (hval 1 2 v1 rfl rfl) h1
  clear hA0 hval0
  simp only [List.append_nil] at hW'
  have hlt : ∀ x ∈ p0, x.block < W.heap.size := fun x hx => by simpa using hW'.lt x (by simpa using hx)
  refine (looked_walk _ _ _ _ W hx0).mono fun e W' ⟨he, hb⟩ => ?_
  subst he
  have hR : DataW.TrodAll enc Try.prog W' 0 (fun b => decide (b < W.heap.size)) true _ _ _ _ := (trodAll_cons_mk (Below.trod Try.laidOut (by kernel_rfl) (of_decide_eq_true (by kernel_rfl)) h0 hb (fun x hx => hlt x (by simp [hx]))) (trodAll_cons_mk (shut_int Try.underlying2 w1) trodAll_mk0))
  simp only [List.append_nil] at hR
  exact ⟨_, rfl, law_post hW' (trodAll_cons_mk (shut_bool Try.underlying4 _) trodAll_mk0) hR rfl hb⟩

theorem looked_holds : Rows.RankLookedSaid :=
  OpenClaim.holds_of_wide 5 Try.f5 rfl rfl rfl rfl rfl rfl rfl ⟨rfl, rfl, rfl, rfl, rfl⟩ rfl rfl rfl rfl rfl (by kernel_rfl) Try.func5 (by kernel_rfl)
    (of_decide_eq_true (by kernel_rfl)) (by unfold Func.isWrapper; first | (rw [if_pos (by decide +kernel)]; kernel_rfl) | (rw [if_neg (by decide +kernel)]; exact ⟨rfl, rfl⟩))
    (fun os started H enc _ => looked_lifted os started H enc)
end Go.Proofs.Ytnangnmnodpfjaa
