/-
  The contracts of item once more, at a known answer; what fits tells of three things in order. No condition but those typed at each theorem.
-/
import Derived.Test.YtpbghgmaikmneaaLift
import Derived.Deep.DeepCutAuto
namespace Go.Proofs.Ytpbghgmaikmneaa
open Go.RowKit

theorem stab_is {a b x : Int} {r : Bool} (h : stabD a b x = r) (i : Int) (w : World) : Calls Try.prog 17 #[.agg #[.int .i64 a, .int .i64 b, .int .u32 i], .int .i64 x] w fun e w' => e = .returned (.bool r) ∧ Below w.heap.size w w' := h ▸ stab_any a b i x w
theorem in_is {x y a b c d : Int} {r : Bool} (h : inD x y a b c d = r) (i j : Int) (w : World) : Calls Try.prog 21 #[.agg #[.int .i64 x, .int .i64 y, .int .u32 i], .agg #[.int .i64 a, .int .i64 b, .int .i64 c, .int .i64 d, .int .u32 j]] w fun e w' => e = .returned (.bool r) ∧ Below w.heap.size w w' := h ▸ in_any x y i a b c d j w
theorem rb_is {a b c d : Int} {r : Bool} (h : rbD a b c d = r) (j : Int) (w : World) : Calls Try.prog 25 #[.agg #[.int .i64 a, .int .i64 b, .int .i64 c, .int .i64 d, .int .u32 j]] w fun e w' => e = .returned (.bool r) ∧ Below w.heap.size w w' := h ▸ rb_any a b c d j w
theorem over_is {x y u v : Int} {r : Bool} (h : overD x y u v = r) (i j : Int) (w : World) : Calls Try.prog 27 #[.agg #[.int .i64 x, .int .i64 y, .int .u32 i], .agg #[.int .i64 u, .int .i64 v, .int .u32 j]] w fun e w' => e = .returned (.bool r) ∧ Below w.heap.size w w' := h ▸ over_any x y i u v j w
theorem cell_is {a b c d x y : Int} {r : Bool} (h : cellD a b c d x y = r) (j : Int) (w : World) : Calls Try.prog 29 #[.agg #[.int .i64 a, .int .i64 b, .int .i64 c, .int .i64 d, .int .u32 j], .int .i64 x, .int .i64 y] w fun e w' => e = .returned (.bool r) ∧ Below w.heap.size w w' := h ▸ cell_any a b c d j x y w
theorem byx_is {x y i u v j r : Int} (h : ordD x i u j = r) (w : World) : Calls Try.prog 9 #[.agg #[.int .i64 x, .int .i64 y, .int .u32 i], .agg #[.int .i64 u, .int .i64 v, .int .u32 j]] w fun e w' => e = .returned (.int .i64 r) ∧ Below w.heap.size w w' := h ▸ byx_any x y i u v j w
theorem byy_is {x y i u v j r : Int} (h : ordD y i v j = r) (w : World) : Calls Try.prog 11 #[.agg #[.int .i64 x, .int .i64 y, .int .u32 i], .agg #[.int .i64 u, .int .i64 v, .int .u32 j]] w fun e w' => e = .returned (.int .i64 r) ∧ Below w.heap.size w w' := h ▸ byy_any x y i u v j w
theorem bylo_is {x y i u v j r : Int} (h : ordD x i u j = r) (w : World) : Calls Try.prog 13 #[.agg #[.int .i64 x, .int .i64 y, .int .u32 i], .agg #[.int .i64 u, .int .i64 v, .int .u32 j]] w fun e w' => e = .returned (.int .i64 r) ∧ Below w.heap.size w w' := h ▸ bylo_any x y i u v j w
theorem byhi_is {x y i u v j r : Int} (h : ordD y i v j = r) (w : World) : Calls Try.prog 15 #[.agg #[.int .i64 x, .int .i64 y, .int .u32 i], .agg #[.int .i64 u, .int .i64 v, .int .u32 j]] w fun e w' => e = .returned (.int .i64 r) ∧ Below w.heap.size w w' := h ▸ byhi_any x y i u v j w

/-- the three ways of an order -/
theorem ord3 (x i u j : Int) : ordD x i u j = -1 ∧ (x < u ∨ x = u ∧ i < j) ∨ ordD x i u j = 0 ∧ x = u ∧ i = j ∨ ordD x i u j = 1 ∧ (u < x ∨ x = u ∧ j < i) := by
  by_cases h1 : x < u ∨ x = u ∧ i < j
  · exact .inl ⟨ordD_lt h1, h1⟩
  · by_cases h2 : u < x ∨ x = u ∧ j < i
    · exact .inr (.inr ⟨ordD_gt h2, h2⟩)
    · exact .inr (.inl ⟨ordD_eq (by omega), by omega⟩)

set_option maxRecDepth 100000 in
set_option maxHeartbeats 1000000 in
theorem fits_ord (x i u j s k : Int) (w : World) :
    Calls Try.prog 32 #[.int .i64 (ordD x i u j), .int .i64 (ordD u j x i), .int .i64 (ordD u j s k), .int .i64 (ordD x i s k)] w fun e w' => e = .returned (.bool true) ∧ Below w.heap.size w w' := by
  rcases ord3 x i u j with ⟨h1, g1⟩ | ⟨h1, g1⟩ | ⟨h1, g1⟩ <;> rcases ord3 u j x i with ⟨h2, g2⟩ | ⟨h2, g2⟩ | ⟨h2, g2⟩ <;> first
    | (exfalso; omega)
    | (rcases ord3 u j s k with ⟨h3, g3⟩ | ⟨h3, g3⟩ | ⟨h3, g3⟩ <;> rcases ord3 x i s k with ⟨h4, g4⟩ | ⟨h4, g4⟩ | ⟨h4, g4⟩ <;> first
        | (exfalso; omega)
        | (rw [h1, h2, h3, h4]
           clear h1 h2 h3 h4 g1 g2 g3 g4
           go_enter Try.func32, Try.ntmps32
           go_wp2
           go_ret
           exact ⟨rfl, Below.refl _ _⟩))
end Go.Proofs.Ytpbghgmaikmneaa