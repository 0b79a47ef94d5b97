/-
  Small tools of layer 9's laws: min, max, slices cut. No condition but those typed at each theorem.
-/
import Derived.Test.YtgcimicbbadapaaIu
namespace Go.Proofs.Ytgcimicbbadapaa.Iv
open Go.ChangeShapes Go.WideShapes Go.ChangeAt Go.RowKit Go.Joins

theorem Try.info2 : (Try.prog.info? 2).map (fun i => (i.zero, i.size, i.bytes)) = some (some (.int .i64 0), 1, 8) := by kernel_rfl
theorem min14 (X : World) (ty : TypeId) (n : Nat) (k : Int) (hk : k = ((min n 14 : Nat) : Int)) : (Builtin.min_ #[3, 3] ty #[.int .i64 n, .int .i64 14]).run Try.prog X = .ok (.int .i64 k) X := by
  subst hk
  by_cases h : n ≤ 14
  · have h2 : ¬ (14 : Int) < n := by omega
    simp [Builtin.min_, Builtin.min2, go_sem, Nat.min_eq_left h, h2]
  · have h2 : (14 : Int) < n := by omega
    simp [Builtin.min_, Builtin.min2, go_sem, Nat.min_eq_right (by omega : 14 ≤ n), h2]
theorem min20 (X : World) (ty : TypeId) (n : Nat) (k : Int) (hk : k = ((min n 20 : Nat) : Int)) : (Builtin.min_ #[3, 3] ty #[.int .i64 n, .int .i64 20]).run Try.prog X = .ok (.int .i64 k) X := by
  subst hk
  by_cases h : n ≤ 20
  · have h2 : ¬ (20 : Int) < n := by omega
    simp [Builtin.min_, Builtin.min2, go_sem, Nat.min_eq_left h, h2]
  · have h2 : (20 : Int) < n := by omega
    simp [Builtin.min_, Builtin.min2, go_sem, Nat.min_eq_right (by omega : 20 ≤ n), h2]
theorem min100 (X : World) (ty : TypeId) (n : Nat) (k : Int) (hk : k = ((min n 100 : Nat) : Int)) : (Builtin.min_ #[3, 3] ty #[.int .i64 n, .int .i64 100]).run Try.prog X = .ok (.int .i64 k) X := by
  subst hk
  by_cases h : n ≤ 100
  · have h2 : ¬ (100 : Int) < n := by omega
    simp [Builtin.min_, Builtin.min2, go_sem, Nat.min_eq_left h, h2]
  · have h2 : (100 : Int) < n := by omega
    simp [Builtin.min_, Builtin.min2, go_sem, Nat.min_eq_right (by omega : 100 ≤ n), h2]
theorem minII (X : World) (ty : TypeId) (x y : Int) : (Builtin.min_ #[2, 2] ty #[.int .i64 x, .int .i64 y]).run Try.prog X = .ok (.int .i64 (min x y)) X := by
  by_cases h : y < x
  · simp [Builtin.min_, Builtin.min2, go_sem, h, Int.min_eq_right (by omega : y ≤ x)]
  · simp [Builtin.min_, Builtin.min2, go_sem, h, Int.min_eq_left (by omega : x ≤ y)]
theorem maxII (X : World) (ty : TypeId) (x y : Int) : (Builtin.max_ #[2, 2] ty #[.int .i64 x, .int .i64 y]).run Try.prog X = .ok (.int .i64 (max x y)) X := by
  by_cases h : x < y
  · simp [Builtin.max_, Builtin.max2, go_sem, h, Int.max_eq_right (by omega : x ≤ y)]
  · simp [Builtin.max_, Builtin.max2, go_sem, h, Int.max_eq_left (by omega : y ≤ x)]
theorem slL_to (X : World) (p : Option Addr) (n c h : Nat) (hm : h ≤ c) : (Instr.slice 23 (.slice p n c) none (some (.int .i64 h)) none).run Try.prog X = .ok (.slice p h c) X := by
  obtain ⟨i0, hi, hz0, hz1, hz2⟩ := info_parts Try.info2
  simp [Instr.slice, run_underlying Try.underlying23, Instr.sliceBounds, Instr.sliceBound, asIntOf, sizeOf, typeInfo, hi, hm]
  cases p <;> simp [Addr.add_zero']
theorem slS_to (X : World) (p : Option Addr) (n c h : Nat) (hm : h ≤ c) : (Instr.slice 22 (.slice p n c) none (some (.int .i64 h)) none).run Try.prog X = .ok (.slice p h c) X := by
  obtain ⟨i0, hi, hz0, hz1, hz2⟩ := info_parts Try.info34
  simp [Instr.slice, run_underlying Try.underlying22, Instr.sliceBounds, Instr.sliceBound, asIntOf, sizeOf, typeInfo, hi, hm]
  cases p <;> simp [Addr.add_zero']
theorem ns_pre {w : World} {p : Option Addr} {k : IntKind} {xs : List Int} (h : NS w p k xs) (n : Nat) : NS w p k (xs.take n) := by
  rcases h with rfl | ⟨b, off, rfl, h⟩
  · exact .inl (by simp)
  · refine .inr ⟨b, off, rfl, fun j x e => h j x ?_⟩
    rw [List.getElem?_take] at e
    split at e
    · exact e
    · cases e
end Go.Proofs.Ytgcimicbbadapaa.Iv
