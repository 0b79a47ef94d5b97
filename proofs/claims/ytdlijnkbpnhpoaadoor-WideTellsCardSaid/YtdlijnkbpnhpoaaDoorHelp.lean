/-
  Small contracts that several laws use: a difference of two numbers in order, a sum of two that fit in 64 bits, the table behind a draw. Conditions: those typed at each theorem.
-/
import Derived.Test.YtdlijnkbpnhpoaaDoorAwake
import Derived.Test.YtdlijnkbpnhpoaaDoorLift
namespace Go.Proofs.YtdlijnkbpnhpoaaDoor
open Go.RowKit

theorem tab_drew {w w' : World} (h : Lib.TabIs Tryd.prog w "internal/strconv.uint64pow10" .u64 Lib.pow10Tab) (hb : Below w.drew.heap.size w.drew w') : Lib.TabIs Tryd.prog w' "internal/strconv.uint64pow10" .u64 Lib.pow10Tab :=
  tab_below h (w' := w') ⟨hb.os, hb.tape, hb.output, hb.size, hb.block⟩
theorem diff_le (x y : Int) (w : World) (h : x ≤ y) (hx : -9223372036854775808 ≤ x) (hy : y < 9223372036854775808) :
    Calls Tryd.prog 21 #[.int .i64 x, .int .i64 y] w fun e w' => e = .returned (.int .u64 (y - x)) ∧ w = w' := by
  by_cases hxy : x < y
  · exact diff_yes x y w hxy hx hy
  · obtain rfl : x = y := by omega
    rw [Int.sub_self]; exact diff_no x x w (Int.le_refl _)
theorem add_low (x y : Int) (w : World) (hx : 0 ≤ x) (hy : 0 ≤ y) (h : x + y < 18446744073709551616) :
    Calls Tryd.prog 10 #[.agg #[.int .u64 0, .int .u64 x], .agg #[.int .u64 0, .int .u64 y]] w fun e w' => e = .returned (.tuple #[.agg #[.int .u64 0, .int .u64 (x + y)], .bool true]) ∧ Below w.heap.size w w' := by
  have h1 := of_low x hx (by omega)
  have h2 := of_low y hy (by omega)
  have h3 := of_low (x + y) (by omega) h
  have h4 : x.toNat + y.toNat = (x + y).toNat := by omega
  have h5 : x.toNat + y.toNat < B128 := by unfold B128; omega
  have := add_yes x.toNat y.toNat w h5
  rw [h1.1, h1.2, h2.1, h2.2, h4, h3.1, h3.2] at this
  exact this

end Go.Proofs.YtdlijnkbpnhpoaaDoor
