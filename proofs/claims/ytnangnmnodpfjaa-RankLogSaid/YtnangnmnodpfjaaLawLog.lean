/-
  RankLog: 1 doubled so often is n at least, and doubled once less it is not; of twice n it is one more. For every number; no condition.
-/
import Derived.Test.YtnangnmnodpfjaaLift
namespace Go.Proofs.Ytnangnmnodpfjaa
open Go.ChangeShapes Go.WideShapes Go.ChangeAt Go.RowKit Go.Joins

theorem wrap_pow (k : Nat) (hk : k ≤ 63) : IntKind.u64.wrap ((2 : Int) ^ k) = ((2 ^ k : Nat) : Int) := by
  have h1 : (2 ^ k : Nat) ≤ 2 ^ 63 := Nat.pow_le_pow_right (by decide) hk
  have h2 : ((2 : Int) ^ k) = ((2 ^ k : Nat) : Int) := by simp
  rw [h2]
  generalize (2 ^ k : Nat) = P at h1 ⊢
  simp [IntKind.wrap, IntKind.bits, IntKind.signed]
  omega

set_option maxRecDepth 100000 in
set_option maxHeartbeats 1600000 in
theorem log_walk (n : Int) (w : World) (hn : n ≤ 9223372036854775807) :
    Calls Try.prog 7 #[.int .i64 n] w fun e w' => e = .returned (.bool true) ∧ Below w.heap.size w w' := by
  have HC := Lib.hid (fun X => Log_any n X hn)
  by_cases h : n < 2
  · have h0 : lgI n = 0 := lg_small (by omega)
    rw [h0] at HC
    clear h0
    go_enter Try.func7, Try.ntmps7
    go_wp2_with (first
      | (go_at_call 18; (with_reducible refine (HC.out _).mono ?_); rintro e w1 ⟨rfl, rfl⟩)
      | (go_at_call 9; (with_reducible refine (awake_any _).mono ?_); rintro e w2 ⟨rfl, hb⟩))
    go_ret
    exact ⟨rfl, hb⟩
  · obtain ⟨m, rfl⟩ : ∃ m : Nat, n = (m : Int) := ⟨n.toNat, by omega⟩
    have hmm : lgI (m : Int) = lgN m := by unfold lgI; rw [Int.toNat_natCast]
    obtain ⟨h1, h2, h3, h4⟩ := lg_spec (n := m) (by omega) (by omega)
    have ht : m ≤ 2305843009213693952 → lgI (2 * (m : Int)) = lgN m + 1 := fun h5 => by
      rw [← lg_twice (n := m) (by omega) h5]
      unfold lgI
      congr 1
    have HT := Lib.hid (fun X (h5 : m ≤ 2305843009213693952) => Log_any (2 * (m : Int)) X (by omega))
    rw [hmm] at HC
    obtain ⟨k, hk⟩ : ∃ k, k = lgN m := ⟨_, rfl⟩
    rw [← hk] at HC h1 h2 h3 h4 ht
    have s1 := wrap_pow k h2
    have s2 := wrap_pow (k - 1) (by omega)
    obtain ⟨P, hP⟩ : ∃ P, P = 2 ^ k := ⟨_, rfl⟩
    obtain ⟨Q, hQ⟩ : ∃ Q, Q = 2 ^ (k - 1) := ⟨_, rfl⟩
    rw [← hP] at s1 h3
    rw [← hQ] at s2 h4
    have z1 : ¬ (k : Int) < 1 := by omega
    have z2 : ¬ (63 : Int) < k := by omega
    have z3 : ¬ (P : Int) < m := by omega
    have z4 : ¬ (m : Int) ≤ Q := by omega
    have HTT := Lib.hid ht
    clear hP hQ hk ht hmm h3 h4
    by_cases h5 : (2305843009213693952 : Int) < m
    · go_enter Try.func7, Try.ntmps7
      go_wp2_with (first
        | (go_at_call 18; (with_reducible refine (HC.out _).mono ?_); rintro e w1 ⟨rfl, rfl⟩)
        | (go_at_call 9; (with_reducible refine (awake_any _).mono ?_); rintro e w2 ⟨rfl, hb⟩))
      go_ret
      exact ⟨rfl, hb⟩
    · have HD := Lib.hid (fun X => HT.out X (by omega))
      rw [HTT.out (by omega)] at HD
      have h6 : (m : Int) ≤ 2305843009213693952 := by omega
      go_enter Try.func7, Try.ntmps7
      go_wp2_with (first
        | (go_at_call 18; (with_reducible refine (HC.out _).mono ?_); rintro e w1 ⟨rfl, rfl⟩)
        | (go_at_call 18; (with_reducible refine (HD.out _).mono ?_); rintro e w1 ⟨rfl, rfl⟩)
        | (go_at_call 9; (with_reducible refine (awake_any _).mono ?_); rintro e w2 ⟨rfl, hb⟩))
      go_ret
      exact ⟨rfl, hb⟩

theorem wf_le {a : Int} (h : (Lit.int .i64 a).wf = true) : a ≤ 9223372036854775807 := by
  simp [Lit.wf] at h
  omega

set_option maxRecDepth 100000 in
theorem ranklog_lifted (os : Os) (started : os.Started) (H : Type) (enc : TypeId × Value → H) :
    ReturnsInHanded {} Try.checked os 7 .any (Rows.rankLogSpec.pre6 enc Try.prog Try.f7 Rows.rankLogRow.domain false) (Rows.rankLogSpec.post enc Try.prog Try.f7 false true false false) := by
  refine returnsInHanded_of_change (C := Try.checked) Try.own started (by kernel_rfl) Try.func7
    (ChangeSpec.witness6 (enc := enc) (C := Try.checked) false ⟨#[], #[.int .i64 0], []⟩ 8 (by kernel_rfl) (by kernel_rfl) (by kernel_rfl) (by kernel_rfl)) ?_
  intro W base args ds gs before hval0 hW hcnd _
  have hval : ∀ (j : Nat) t v, Try.f7.params[j]? = some t → args[j]? = some v → Value.okWide Try.prog W .any base t v := hval0
  have hW' := hW
  obtain ⟨p, q, hA0, hV, rfl, hfz, hnd⟩ := hW
  have hA : DataW.TrodAll enc Try.prog W 0 (fun _ => true) true Try.f7.params.toList args.toList ds p := hA0
  rw [Try.params7] at hA hval
  obtain ⟨v0, vs0, d0, ds0, p0, q0, hargs, rfl, rfl, h0, r0⟩ := trodAll_cons hA
  obtain ⟨rfl, rfl, rfl⟩ := trodAll_nil r0
  obtain rfl : args = #[v0] := by cases args; simp_all
  obtain ⟨rfl, rfl⟩ := trodVars_none hV
  obtain ⟨a0, rfl, rfl, rfl, w0⟩ := open_int Try.underlying3 (hval 0 3 v0 rfl rfl) h0
  clear hA0 hval0
  simp only [List.append_nil] at hW'
  refine (log_walk a0 W (wf_le w0)).mono fun e W' ⟨he, hb⟩ => ?_
  subst he
  have hR : DataW.TrodAll enc Try.prog W' 0 (fun b => decide (b < W.heap.size)) true _ _ _ _ := (trodAll_cons_mk (shut_int Try.underlying3 w0) trodAll_mk0)
  simp only [List.append_nil] at hR
  exact ⟨_, rfl, law_post hW' (trodAll_cons_mk (shut_bool Try.underlying4 _) trodAll_mk0) hR rfl hb⟩

theorem ranklog_holds : Rows.RankLogSaid :=
  OpenClaim.holds_of_wide 7 Try.f7 rfl rfl rfl rfl rfl rfl rfl ⟨rfl, rfl, rfl, rfl, rfl⟩ rfl rfl rfl rfl rfl (by kernel_rfl) Try.func7 (by kernel_rfl)
    (of_decide_eq_true (by kernel_rfl)) (by unfold Func.isWrapper; first | (rw [if_pos (by decide +kernel)]; kernel_rfl) | (rw [if_neg (by decide +kernel)]; exact ⟨rfl, rfl⟩))
    (fun os started H enc _ => ranklog_lifted os started H enc)
end Go.Proofs.Ytnangnmnodpfjaa
