/-
  Small tools of layer 10's laws: min, slices cut. No condition but those typed at each theorem.
-/
import Derived.Test.YtfcpfffgodljeaaGreatPref
namespace Go.Proofs.YtfcpfffgodljeaaGreat
open Go.ChangeShapes Go.WideShapes Go.ChangeAt Go.RowKit Go.Joins

theorem Tryz.info5 : (Tryz.prog.info? 5).map (fun i => (i.zero, i.size, i.bytes)) = some (some (.int .u8 0), 1, 1) := by kernel_rfl
theorem min12 (X : World) (ty : TypeId) (n : Nat) (k : Int) (hk : k = ((min n 12 : Nat) : Int)) : (Builtin.min_ #[3, 3] ty #[.int .i64 n, .int .i64 12]).run Tryz.prog X = .ok (.int .i64 k) X := by
  subst hk
  by_cases h : n ≤ 12
  · have h2 : ¬ (12 : Int) < n := by omega
    simp [Builtin.min_, Builtin.min2, go_sem, Nat.min_eq_left h, h2]
  · have h2 : (12 : Int) < n := by omega
    simp [Builtin.min_, Builtin.min2, go_sem, Nat.min_eq_right (by omega : 12 ≤ n), h2]
theorem min20 (X : World) (ty : TypeId) (n : Nat) (k : Int) (hk : k = ((min n 20 : Nat) : Int)) : (Builtin.min_ #[3, 3] ty #[.int .i64 n, .int .i64 20]).run Tryz.prog X = .ok (.int .i64 k) X := by
  subst hk
  by_cases h : n ≤ 20
  · have h2 : ¬ (20 : Int) < n := by omega
    simp [Builtin.min_, Builtin.min2, go_sem, Nat.min_eq_left h, h2]
  · have h2 : (20 : Int) < n := by omega
    simp [Builtin.min_, Builtin.min2, go_sem, Nat.min_eq_right (by omega : 20 ≤ n), h2]
theorem min100 (X : World) (ty : TypeId) (n : Nat) (k : Int) (hk : k = ((min n 100 : Nat) : Int)) : (Builtin.min_ #[3, 3] ty #[.int .i64 n, .int .i64 100]).run Tryz.prog X = .ok (.int .i64 k) X := by
  subst hk
  by_cases h : n ≤ 100
  · have h2 : ¬ (100 : Int) < n := by omega
    simp [Builtin.min_, Builtin.min2, go_sem, Nat.min_eq_left h, h2]
  · have h2 : (100 : Int) < n := by omega
    simp [Builtin.min_, Builtin.min2, go_sem, Nat.min_eq_right (by omega : 100 ≤ n), h2]
theorem slX_to (X : World) (p : Option Addr) (n c h : Nat) (hm : h ≤ c) : (Instr.slice 23 (.slice p n c) none (some (.int .i64 h)) none).run Tryz.prog X = .ok (.slice p h c) X := by
  obtain ⟨i0, hi, hz0, hz1, hz2⟩ := info_parts Tryz.info42
  simp [Instr.slice, run_underlying Tryz.underlying23, Instr.sliceBounds, Instr.sliceBound, asIntOf, sizeOf, typeInfo, hi, hm]
  cases p <;> simp [Addr.add_zero']
theorem slP_to (X : World) (p : Option Addr) (n c h : Nat) (hm : h ≤ c) : (Instr.slice 22 (.slice p n c) none (some (.int .i64 h)) none).run Tryz.prog X = .ok (.slice p h c) X := by
  obtain ⟨i0, hi, hz0, hz1, hz2⟩ := info_parts Tryz.info34
  simp [Instr.slice, run_underlying Tryz.underlying22, Instr.sliceBounds, Instr.sliceBound, asIntOf, sizeOf, typeInfo, hi, hm]
  cases p <;> simp [Addr.add_zero']
theorem slB_to (X : World) (p : Option Addr) (n c h : Nat) (hm : h ≤ c) : (Instr.slice 39 (.slice p n c) none (some (.int .i64 h)) none).run Tryz.prog X = .ok (.slice p h c) X := by
  obtain ⟨i0, hi, hz0, hz1, hz2⟩ := info_parts Tryz.info5
  simp [Instr.slice, run_underlying Tryz.underlying39, Instr.sliceBounds, Instr.sliceBound, asIntOf, sizeOf, typeInfo, hi, hm]
  cases p <;> simp [Addr.add_zero']
theorem ns_pre {w : World} {p : Option Addr} {k : IntKind} {xs : List Int} (h : NS w p k xs) (n : Nat) : NS w p k (xs.take n) := by
  rcases h with rfl | ⟨b, off, rfl, h⟩
  · exact .inl (by simp)
  · refine .inr ⟨b, off, rfl, fun j x e => h j x ?_⟩
    rw [List.getElem?_take] at e
    split at e
    · exact e
    · cases e
theorem row_sp {w : World} {base : Nat} {v : Value} {L : List S3} {t : TypeId} (h : w.ownsRow base t 3 v L.length (flatT L)) : ∃ p c, v = .slice p L.length c ∧ TsS w p L ∧ L.length ≤ c ∧ (p = none → c = 0) := by
  obtain ⟨-, p, c, e, h2, h4, h3, -⟩ := row_ts h
  exact ⟨p, c, e, h2, h3, fun h => (h4 h).1⟩
theorem i64_range {x : Int} (h : (Lit.int .i64 x).wf = true) : -9223372036854775808 ≤ x ∧ x ≤ 9223372036854775807 := by
  simpa [Lit.wf, show IntKind.i64.min = -9223372036854775808 from rfl, show IntKind.i64.max = 9223372036854775807 from rfl] using h
end Go.Proofs.YtfcpfffgodljeaaGreat
