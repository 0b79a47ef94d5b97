/-
  What the document-side function Diff tells: what wide.Diff tells; conditions: those typed at each theorem.
-/
import Derived.Test.YtdlijnkbpnhpoaaDoorRefSub
namespace Go.Proofs.YtdlijnkbpnhpoaaDoor
open Go.RowKit
/-- a signed number, counted from the least one on. -/
def upN (x : Int) : Nat := (x + 9223372036854775808).toNat
theorem up_wrap (x : Int) (h0 : -9223372036854775808 ≤ x) (h1 : x < 9223372036854775808) : IntKind.u64.wrap (IntKind.u64.wrap x + 9223372036854775808) = lo (upN x) := by
  unfold upN lo B64
  simp only [IntKind.wrap, IntKind.bits, IntKind.signed]
  simp
  omega
theorem up_zero (x : Int) (h0 : -9223372036854775808 ≤ x) (h1 : x < 9223372036854775808) : (0 : Int) = hi (upN x) := by
  unfold upN hi B64
  omega
theorem up_top (x : Int) (h0 : -9223372036854775808 ≤ x) (h1 : x < 9223372036854775808) : upN x < B128 := by
  unfold upN B128
  omega

set_option maxRecDepth 100000 in
set_option maxHeartbeats 1000000 in
theorem rdiff_any (x y : Int) (w : World) (hx0 : -9223372036854775808 ≤ x) (hx1 : x < 9223372036854775808) (hy0 : -9223372036854775808 ≤ y) (hy1 : y < 9223372036854775808) :
    Calls Tryd.prog 22 #[.int .i64 x, .int .i64 y] w fun e w' => e = .returned (.int .u64 (lo (upN y - upN x))) ∧ Below w.heap.size w w' := by
  have EX := Lib.hid (up_wrap x hx0 hx1)
  have EY := Lib.hid (up_wrap y hy0 hy1)
  have ZX := Lib.hid (up_zero x hx0 hx1)
  have ZY := Lib.hid (up_zero y hy0 hy1)
  have TX := Lib.hid (up_top x hx0 hx1)
  have TY := Lib.hid (up_top y hy0 hy1)
  go_enter Tryd.func22, Tryd.ntmps22
  go_upto_region 3 with fail
  rw [EX.out, EY.out]
  have HB0 := ((Below.refl w.heap.size w).alloc (Nat.le_refl _) (.cells #[.int .u64 0, .int .u64 (lo (upN x))] 24)).alloc (by simp) (.cells #[.int .u64 0, .int .u64 (lo (upN y))] 24)
  have a0 := allc (o := .cells #[.int .u64 0, .int .u64 (lo (upN y))] 24) (new0 w (.int .u64 0) (.int .u64 (lo (upN x))) rfl)
  have a1 := allc (o := .cells #[.int .u64 0, .int .u64 (lo (upN y))] 24) (new1 w (.int .u64 0) (.int .u64 (lo (upN x))) rfl)
  have b0 := new0 (w.alloc (.cells #[.int .u64 0, .int .u64 (lo (upN x))] 24)) (.int .u64 0) (.int .u64 (lo (upN y))) (n := w.heap.size + 1) (by simp)
  have b1 := new1 (w.alloc (.cells #[.int .u64 0, .int .u64 (lo (upN x))] 24)) (.int .u64 0) (.int .u64 (lo (upN y))) (n := w.heap.size + 1) (by simp)
  generalize (w.alloc (.cells #[.int .u64 0, .int .u64 (lo (upN x))] 24)).alloc (.cells #[.int .u64 0, .int .u64 (lo (upN y))] 24) = X at *
  have hz := HB0.size
  go_wp2_with (go_at_call 13; refine (rsub_at _ _ _ _ (upN y) (upN x) ZY.out rfl ZX.out rfl _ TY.out TX.out).mono ?_; rintro e w1 ⟨rfl, hb1⟩)
  go_ret
  have hz1 := hb1.size
  exact ⟨rfl, (HB0.trans (hb1.mono hz)).alloc (by omega) _⟩
theorem rdiff_no (x y : Int) (w : World) (hx0 : -9223372036854775808 ≤ x) (hx1 : x < 9223372036854775808) (hy0 : -9223372036854775808 ≤ y) (hy1 : y < 9223372036854775808) (h : y ≤ x) :
    Calls Tryd.prog 22 #[.int .i64 x, .int .i64 y] w fun e w' => e = .returned (.int .u64 0) ∧ Below w.heap.size w w' :=
  (rdiff_any x y w hx0 hx1 hy0 hy1).mono fun _ _ ⟨he, hw⟩ => ⟨by rw [he, show upN y - upN x = 0 by unfold upN; omega, lo_zero], hw⟩
theorem rdiff_yes (x y : Int) (w : World) (hx0 : -9223372036854775808 ≤ x) (hx1 : x < 9223372036854775808) (hy0 : -9223372036854775808 ≤ y) (hy1 : y < 9223372036854775808) (h : x < y) :
    Calls Tryd.prog 22 #[.int .i64 x, .int .i64 y] w fun e w' => e = .returned (.int .u64 (y - x)) ∧ Below w.heap.size w w' :=
  (rdiff_any x y w hx0 hx1 hy0 hy1).mono fun _ _ ⟨he, hw⟩ => ⟨by rw [he, show lo (upN y - upN x) = y - x by unfold upN lo B64; omega], hw⟩
end Go.Proofs.YtdlijnkbpnhpoaaDoor
