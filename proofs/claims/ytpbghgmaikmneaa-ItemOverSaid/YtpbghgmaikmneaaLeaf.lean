/-
  What the functions of item, and the document's own ones, tell, call by call, for every argument of their types; no condition.
-/
import Derived.Test.YtpbghgmaikmneaaRows
import Derived.WalkKit
import Derived.WalkSpells
import Derived.WalkLawsBesides
import Derived.Lib.Hide
namespace Go.Proofs.Ytpbghgmaikmneaa
open Go.RowKit

theorem retb {p q : Bool} (h : p = true ↔ q = true) : Ending.returned (.bool p) = .returned (.bool q) := by rw [Bool.eq_iff_iff.2 h]
def stabD (a b x : Int) : Bool := decide (a ≤ x) && decide (x ≤ b)
def meetD (a b x y : Int) : Bool := decide (a ≤ b) && decide (x ≤ y) && decide (a ≤ y) && decide (x ≤ b)
def inD (x y a b c d : Int) : Bool := decide (a ≤ x) && decide (x ≤ b) && decide (c ≤ y) && decide (y ≤ d)
def rsD (a b : Int) : Bool := decide (a ≤ b)
def rbD (a b c d : Int) : Bool := decide (a ≤ b) && decide (c ≤ d)
def overD (x y u v : Int) : Bool := decide (u ≤ x) && decide (v ≤ y) && (decide (u < x) || decide (v < y))
def cellD (a b c d x y : Int) : Bool := decide (a ≤ x) && decide (x < b) && decide (c ≤ y) && decide (y < d)

set_option maxRecDepth 100000 in
set_option maxHeartbeats 400000 in
theorem stab_any (a b i x : Int) (w : World) :
    Calls Try.prog 17 #[.agg #[.int .i64 a, .int .i64 b, .int .u32 i], .int .i64 x] w fun e w' => e = .returned (.bool (stabD a b x)) ∧ Below w.heap.size w w' := by
  by_cases h1 : a ≤ x
  rotate_left
  · (go_enter Try.func17, Try.ntmps17; go_wp2 <;> go_ret <;> exact ⟨retb (by simp [stabD] <;> omega), ((Below.refl _ _).alloc (Nat.le_refl _) _)⟩)
  by_cases h2 : x ≤ b
  rotate_left
  · (go_enter Try.func17, Try.ntmps17; go_wp2 <;> go_ret <;> exact ⟨retb (by simp [stabD] <;> omega), ((Below.refl _ _).alloc (Nat.le_refl _) _)⟩)
  (go_enter Try.func17, Try.ntmps17; go_wp2 <;> go_ret <;> exact ⟨retb (by simp [stabD] <;> omega), ((Below.refl _ _).alloc (Nat.le_refl _) _)⟩)

set_option maxRecDepth 100000 in
set_option maxHeartbeats 400000 in
theorem rstab_any (a b i x : Int) (w : World) :
    Calls Try.prog 18 #[.agg #[.int .i64 a, .int .i64 b, .int .u32 i], .int .i64 x] w fun e w' => e = .returned (.bool (stabD a b x)) ∧ Below w.heap.size w w' := by
  by_cases h1 : a ≤ x
  rotate_left
  · (go_enter Try.func18, Try.ntmps18; go_wp2 <;> go_ret <;> exact ⟨retb (by simp [stabD] <;> omega), ((Below.refl _ _).alloc (Nat.le_refl _) _)⟩)
  by_cases h2 : x ≤ b
  rotate_left
  · (go_enter Try.func18, Try.ntmps18; go_wp2 <;> go_ret <;> exact ⟨retb (by simp [stabD] <;> omega), ((Below.refl _ _).alloc (Nat.le_refl _) _)⟩)
  (go_enter Try.func18, Try.ntmps18; go_wp2 <;> go_ret <;> exact ⟨retb (by simp [stabD] <;> omega), ((Below.refl _ _).alloc (Nat.le_refl _) _)⟩)

set_option maxRecDepth 100000 in
set_option maxHeartbeats 400000 in
theorem meet_any (a b i x y : Int) (w : World) :
    Calls Try.prog 19 #[.agg #[.int .i64 a, .int .i64 b, .int .u32 i], .int .i64 x, .int .i64 y] w fun e w' => e = .returned (.bool (meetD a b x y)) ∧ Below w.heap.size w w' := by
  (go_enter Try.func19, Try.ntmps19; go_wp2 <;> go_ret <;> exact ⟨retb (by simp [meetD] <;> omega), ((Below.refl _ _).alloc (Nat.le_refl _) _)⟩)

set_option maxRecDepth 100000 in
set_option maxHeartbeats 400000 in
theorem in_any (x y i a b c d j : Int) (w : World) :
    Calls Try.prog 21 #[.agg #[.int .i64 x, .int .i64 y, .int .u32 i], .agg #[.int .i64 a, .int .i64 b, .int .i64 c, .int .i64 d, .int .u32 j]] w fun e w' => e = .returned (.bool (inD x y a b c d)) ∧ Below w.heap.size w w' := by
  by_cases h1 : a ≤ x
  rotate_left
  · (go_enter Try.func21, Try.ntmps21; go_wp2 <;> go_ret <;> exact ⟨retb (by simp [inD] <;> omega), (((Below.refl _ _).alloc (Nat.le_refl _) _).alloc (by simp) _)⟩)
  by_cases h2 : x ≤ b
  rotate_left
  · (go_enter Try.func21, Try.ntmps21; go_wp2 <;> go_ret <;> exact ⟨retb (by simp [inD] <;> omega), (((Below.refl _ _).alloc (Nat.le_refl _) _).alloc (by simp) _)⟩)
  by_cases h3 : c ≤ y
  rotate_left
  · (go_enter Try.func21, Try.ntmps21; go_wp2 <;> go_ret <;> exact ⟨retb (by simp [inD] <;> omega), (((Below.refl _ _).alloc (Nat.le_refl _) _).alloc (by simp) _)⟩)
  by_cases h4 : y ≤ d
  rotate_left
  · (go_enter Try.func21, Try.ntmps21; go_wp2 <;> go_ret <;> exact ⟨retb (by simp [inD] <;> omega), (((Below.refl _ _).alloc (Nat.le_refl _) _).alloc (by simp) _)⟩)
  (go_enter Try.func21, Try.ntmps21; go_wp2 <;> go_ret <;> exact ⟨retb (by simp [inD] <;> omega), (((Below.refl _ _).alloc (Nat.le_refl _) _).alloc (by simp) _)⟩)

set_option maxRecDepth 100000 in
set_option maxHeartbeats 400000 in
theorem rin_any (x y i a b c d j : Int) (w : World) :
    Calls Try.prog 22 #[.agg #[.int .i64 x, .int .i64 y, .int .u32 i], .agg #[.int .i64 a, .int .i64 b, .int .i64 c, .int .i64 d, .int .u32 j]] w fun e w' => e = .returned (.bool (inD x y a b c d)) ∧ Below w.heap.size w w' := by
  by_cases h1 : a ≤ x
  rotate_left
  · (go_enter Try.func22, Try.ntmps22; go_wp2 <;> go_ret <;> exact ⟨retb (by simp [inD] <;> omega), (((Below.refl _ _).alloc (Nat.le_refl _) _).alloc (by simp) _)⟩)
  by_cases h2 : x ≤ b
  rotate_left
  · (go_enter Try.func22, Try.ntmps22; go_wp2 <;> go_ret <;> exact ⟨retb (by simp [inD] <;> omega), (((Below.refl _ _).alloc (Nat.le_refl _) _).alloc (by simp) _)⟩)
  by_cases h3 : c ≤ y
  rotate_left
  · (go_enter Try.func22, Try.ntmps22; go_wp2 <;> go_ret <;> exact ⟨retb (by simp [inD] <;> omega), (((Below.refl _ _).alloc (Nat.le_refl _) _).alloc (by simp) _)⟩)
  by_cases h4 : y ≤ d
  rotate_left
  · (go_enter Try.func22, Try.ntmps22; go_wp2 <;> go_ret <;> exact ⟨retb (by simp [inD] <;> omega), (((Below.refl _ _).alloc (Nat.le_refl _) _).alloc (by simp) _)⟩)
  (go_enter Try.func22, Try.ntmps22; go_wp2 <;> go_ret <;> exact ⟨retb (by simp [inD] <;> omega), (((Below.refl _ _).alloc (Nat.le_refl _) _).alloc (by simp) _)⟩)

set_option maxRecDepth 100000 in
set_option maxHeartbeats 400000 in
theorem rs_any (a b i : Int) (w : World) :
    Calls Try.prog 23 #[.agg #[.int .i64 a, .int .i64 b, .int .u32 i]] w fun e w' => e = .returned (.bool (rsD a b)) ∧ Below w.heap.size w w' := by
  by_cases h1 : a ≤ b
  rotate_left
  · (go_enter Try.func23, Try.ntmps23; go_wp2 <;> go_ret <;> exact ⟨retb (by simp [rsD] <;> omega), ((Below.refl _ _).alloc (Nat.le_refl _) _)⟩)
  (go_enter Try.func23, Try.ntmps23; go_wp2 <;> go_ret <;> exact ⟨retb (by simp [rsD] <;> omega), ((Below.refl _ _).alloc (Nat.le_refl _) _)⟩)

set_option maxRecDepth 100000 in
set_option maxHeartbeats 400000 in
theorem rrs_any (a b i : Int) (w : World) :
    Calls Try.prog 24 #[.agg #[.int .i64 a, .int .i64 b, .int .u32 i]] w fun e w' => e = .returned (.bool (rsD a b)) ∧ Below w.heap.size w w' := by
  by_cases h1 : a ≤ b
  rotate_left
  · (go_enter Try.func24, Try.ntmps24; go_wp2 <;> go_ret <;> exact ⟨retb (by simp [rsD] <;> omega), ((Below.refl _ _).alloc (Nat.le_refl _) _)⟩)
  (go_enter Try.func24, Try.ntmps24; go_wp2 <;> go_ret <;> exact ⟨retb (by simp [rsD] <;> omega), ((Below.refl _ _).alloc (Nat.le_refl _) _)⟩)

set_option maxRecDepth 100000 in
set_option maxHeartbeats 400000 in
theorem rb_any (a b c d j : Int) (w : World) :
    Calls Try.prog 25 #[.agg #[.int .i64 a, .int .i64 b, .int .i64 c, .int .i64 d, .int .u32 j]] w fun e w' => e = .returned (.bool (rbD a b c d)) ∧ Below w.heap.size w w' := by
  by_cases h1 : a ≤ b
  rotate_left
  · (go_enter Try.func25, Try.ntmps25; go_wp2 <;> go_ret <;> exact ⟨retb (by simp [rbD] <;> omega), ((Below.refl _ _).alloc (Nat.le_refl _) _)⟩)
  by_cases h2 : c ≤ d
  rotate_left
  · (go_enter Try.func25, Try.ntmps25; go_wp2 <;> go_ret <;> exact ⟨retb (by simp [rbD] <;> omega), ((Below.refl _ _).alloc (Nat.le_refl _) _)⟩)
  (go_enter Try.func25, Try.ntmps25; go_wp2 <;> go_ret <;> exact ⟨retb (by simp [rbD] <;> omega), ((Below.refl _ _).alloc (Nat.le_refl _) _)⟩)

set_option maxRecDepth 100000 in
set_option maxHeartbeats 400000 in
theorem rrb_any (a b c d j : Int) (w : World) :
    Calls Try.prog 26 #[.agg #[.int .i64 a, .int .i64 b, .int .i64 c, .int .i64 d, .int .u32 j]] w fun e w' => e = .returned (.bool (rbD a b c d)) ∧ Below w.heap.size w w' := by
  by_cases h1 : a ≤ b
  rotate_left
  · (go_enter Try.func26, Try.ntmps26; go_wp2 <;> go_ret <;> exact ⟨retb (by simp [rbD] <;> omega), ((Below.refl _ _).alloc (Nat.le_refl _) _)⟩)
  by_cases h2 : c ≤ d
  rotate_left
  · (go_enter Try.func26, Try.ntmps26; go_wp2 <;> go_ret <;> exact ⟨retb (by simp [rbD] <;> omega), ((Below.refl _ _).alloc (Nat.le_refl _) _)⟩)
  (go_enter Try.func26, Try.ntmps26; go_wp2 <;> go_ret <;> exact ⟨retb (by simp [rbD] <;> omega), ((Below.refl _ _).alloc (Nat.le_refl _) _)⟩)

set_option maxRecDepth 100000 in
set_option maxHeartbeats 400000 in
theorem over_any (x y i u v j : Int) (w : World) :
    Calls Try.prog 27 #[.agg #[.int .i64 x, .int .i64 y, .int .u32 i], .agg #[.int .i64 u, .int .i64 v, .int .u32 j]] w fun e w' => e = .returned (.bool (overD x y u v)) ∧ Below w.heap.size w w' := by
  by_cases h1 : u ≤ x
  rotate_left
  · (go_enter Try.func27, Try.ntmps27; go_wp2 <;> go_ret <;> exact ⟨retb (by simp [overD] <;> omega), (((Below.refl _ _).alloc (Nat.le_refl _) _).alloc (by simp) _)⟩)
  by_cases h2 : v ≤ y
  rotate_left
  · (go_enter Try.func27, Try.ntmps27; go_wp2 <;> go_ret <;> exact ⟨retb (by simp [overD] <;> omega), (((Below.refl _ _).alloc (Nat.le_refl _) _).alloc (by simp) _)⟩)
  by_cases h3 : ¬ u < x
  rotate_left
  · (go_enter Try.func27, Try.ntmps27; go_wp2 <;> go_ret <;> exact ⟨retb (by simp [overD] <;> omega), (((Below.refl _ _).alloc (Nat.le_refl _) _).alloc (by simp) _)⟩)
  (go_enter Try.func27, Try.ntmps27; go_wp2 <;> go_ret <;> exact ⟨retb (by simp [overD] <;> omega), (((Below.refl _ _).alloc (Nat.le_refl _) _).alloc (by simp) _)⟩)

set_option maxRecDepth 100000 in
set_option maxHeartbeats 400000 in
theorem rover_any (x y i u v j : Int) (w : World) :
    Calls Try.prog 28 #[.agg #[.int .i64 x, .int .i64 y, .int .u32 i], .agg #[.int .i64 u, .int .i64 v, .int .u32 j]] w fun e w' => e = .returned (.bool (overD x y u v)) ∧ Below w.heap.size w w' := by
  by_cases h1 : u ≤ x
  rotate_left
  · (go_enter Try.func28, Try.ntmps28; go_wp2 <;> go_ret <;> exact ⟨retb (by simp [overD] <;> omega), (((Below.refl _ _).alloc (Nat.le_refl _) _).alloc (by simp) _)⟩)
  by_cases h2 : v ≤ y
  rotate_left
  · (go_enter Try.func28, Try.ntmps28; go_wp2 <;> go_ret <;> exact ⟨retb (by simp [overD] <;> omega), (((Below.refl _ _).alloc (Nat.le_refl _) _).alloc (by simp) _)⟩)
  by_cases h3 : ¬ u < x
  rotate_left
  · (go_enter Try.func28, Try.ntmps28; go_wp2 <;> go_ret <;> exact ⟨retb (by simp [overD] <;> omega), (((Below.refl _ _).alloc (Nat.le_refl _) _).alloc (by simp) _)⟩)
  (go_enter Try.func28, Try.ntmps28; go_wp2 <;> go_ret <;> exact ⟨retb (by simp [overD] <;> omega), (((Below.refl _ _).alloc (Nat.le_refl _) _).alloc (by simp) _)⟩)

set_option maxRecDepth 100000 in
set_option maxHeartbeats 400000 in
theorem cell_any (a b c d j x y : Int) (w : World) :
    Calls Try.prog 29 #[.agg #[.int .i64 a, .int .i64 b, .int .i64 c, .int .i64 d, .int .u32 j], .int .i64 x, .int .i64 y] w fun e w' => e = .returned (.bool (cellD a b c d x y)) ∧ Below w.heap.size w w' := by
  by_cases h1 : a ≤ x
  rotate_left
  · (go_enter Try.func29, Try.ntmps29; go_wp2 <;> go_ret <;> exact ⟨retb (by simp [cellD] <;> omega), ((Below.refl _ _).alloc (Nat.le_refl _) _)⟩)
  by_cases h2 : x < b
  rotate_left
  · (go_enter Try.func29, Try.ntmps29; go_wp2 <;> go_ret <;> exact ⟨retb (by simp [cellD] <;> omega), ((Below.refl _ _).alloc (Nat.le_refl _) _)⟩)
  by_cases h3 : c ≤ y
  rotate_left
  · (go_enter Try.func29, Try.ntmps29; go_wp2 <;> go_ret <;> exact ⟨retb (by simp [cellD] <;> omega), ((Below.refl _ _).alloc (Nat.le_refl _) _)⟩)
  by_cases h4 : y < d
  rotate_left
  · (go_enter Try.func29, Try.ntmps29; go_wp2 <;> go_ret <;> exact ⟨retb (by simp [cellD] <;> omega), ((Below.refl _ _).alloc (Nat.le_refl _) _)⟩)
  (go_enter Try.func29, Try.ntmps29; go_wp2 <;> go_ret <;> exact ⟨retb (by simp [cellD] <;> omega), ((Below.refl _ _).alloc (Nat.le_refl _) _)⟩)

set_option maxRecDepth 100000 in
set_option maxHeartbeats 400000 in
theorem rcell_any (a b c d j x y : Int) (w : World) :
    Calls Try.prog 30 #[.agg #[.int .i64 a, .int .i64 b, .int .i64 c, .int .i64 d, .int .u32 j], .int .i64 x, .int .i64 y] w fun e w' => e = .returned (.bool (cellD a b c d x y)) ∧ Below w.heap.size w w' := by
  by_cases h1 : a ≤ x
  rotate_left
  · (go_enter Try.func30, Try.ntmps30; go_wp2 <;> go_ret <;> exact ⟨retb (by simp [cellD] <;> omega), ((Below.refl _ _).alloc (Nat.le_refl _) _)⟩)
  by_cases h2 : x < b
  rotate_left
  · (go_enter Try.func30, Try.ntmps30; go_wp2 <;> go_ret <;> exact ⟨retb (by simp [cellD] <;> omega), ((Below.refl _ _).alloc (Nat.le_refl _) _)⟩)
  by_cases h3 : c ≤ y
  rotate_left
  · (go_enter Try.func30, Try.ntmps30; go_wp2 <;> go_ret <;> exact ⟨retb (by simp [cellD] <;> omega), ((Below.refl _ _).alloc (Nat.le_refl _) _)⟩)
  by_cases h4 : y < d
  rotate_left
  · (go_enter Try.func30, Try.ntmps30; go_wp2 <;> go_ret <;> exact ⟨retb (by simp [cellD] <;> omega), ((Below.refl _ _).alloc (Nat.le_refl _) _)⟩)
  (go_enter Try.func30, Try.ntmps30; go_wp2 <;> go_ret <;> exact ⟨retb (by simp [cellD] <;> omega), ((Below.refl _ _).alloc (Nat.le_refl _) _)⟩)

end Go.Proofs.Ytpbghgmaikmneaa