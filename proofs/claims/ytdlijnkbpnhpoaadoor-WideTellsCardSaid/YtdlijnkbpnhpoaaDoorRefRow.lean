/-
  Rows of bits: a bit set, a bit struck, one round of a subtraction; Cmp at a known order; conditions: those typed at each theorem.
-/
import Derived.Test.YtdlijnkbpnhpoaaDoorRefCmp
import Derived.OneCell
namespace Go.Proofs.YtdlijnkbpnhpoaaDoor
open Go.RowKit

theorem up_at (Y k : Nat) : (Y + 2 ^ k) / 2 ^ k = Y / 2 ^ k + 1 := Nat.add_div_right _ (pow_pos2 k)
theorem up_div (Y k j : Nat) (h : bitN Y k = 0) (hj : k < j) : (Y + 2 ^ k) / 2 ^ j = Y / 2 ^ j := by
  obtain ⟨d, rfl⟩ : ∃ d, j = k + 1 + d := ⟨j - (k + 1), by omega⟩
  have e : ∀ Z : Nat, Z / 2 ^ (k + 1 + d) = Z / 2 ^ k / 2 / 2 ^ d := fun Z => by rw [Nat.pow_add, Nat.pow_succ, ← Nat.div_div_eq_div_mul, ← Nat.div_div_eq_div_mul]
  rw [e, e, up_at]
  unfold bitN at h
  congr 1; omega
theorem up_lo' (Y k j : Nat) (hj : j < k) : bitN (Y + 2 ^ k) j = bitN Y j := by
  obtain ⟨d, rfl⟩ : ∃ d, k = j + 1 + d := ⟨k - (j + 1), by omega⟩
  have e : 2 ^ (j + 1 + d) = 2 ^ j * (2 * 2 ^ d) := by rw [Nat.pow_add, Nat.pow_succ, Nat.mul_assoc]
  unfold bitN
  rw [e, Nat.add_mul_div_left _ _ (pow_pos2 j)]; omega
theorem bit_up (Y k j : Nat) (h : bitN Y k = 0) : bitN (Y + 2 ^ k) j = if k = j then 1 else bitN Y j := by
  by_cases e : k = j
  · subst e
    rw [if_pos rfl]
    unfold bitN at *
    rw [up_at]; omega
  · rw [if_neg e]
    by_cases hj : j < k
    · exact up_lo' Y k j hj
    · unfold bitN; rw [up_div Y k j h (by omega)]
theorem row_up (Y k n : Nat) (h : bitN Y k = 0) : (bitsL Y n).set k (.int .i64 1) = bitsL (Y + 2 ^ k) n := by
  apply List.ext_getElem
  · simp [bitsL]
  · intro j h1 h2
    simp only [List.getElem_set, bitsL, List.getElem_map, List.getElem_range, bitV, bit_up Y k j h]
    by_cases e : k = j
    · simp [e]
    · simp [e]
theorem row_dn (Y k n : Nat) (h : bitN Y k = 0) : (bitsL (Y + 2 ^ k) n).set k (.int .i64 0) = bitsL Y n := by
  apply List.ext_getElem
  · simp [bitsL]
  · intro j h1 h2
    simp only [List.getElem_set, bitsL, List.getElem_map, List.getElem_range, bitV, bit_up Y k j h]
    by_cases e : k = j
    · subst e; simp [h]
    · simp [e]
/-- a number with a bit at k is one without it, and the bit. -/
theorem drop_bit (Y k : Nat) (h : bitN Y k = 1) : ∃ Z, Y = Z + 2 ^ k ∧ bitN Z k = 0 ∧ ∀ i, i ≤ k → Z / 2 ^ i + 2 ^ (k - i) = Y / 2 ^ i := by
  have h1 : 1 ≤ Y / 2 ^ k := by
    by_cases q : Y / 2 ^ k = 0
    · unfold bitN at h; rw [q] at h; omega
    · exact Nat.pos_of_ne_zero q
  have hle : 2 ^ k ≤ Y := by
    have := (Nat.le_div_iff_mul_le (pow_pos2 k)).1 h1; omega
  refine ⟨Y - 2 ^ k, by omega, ?_, fun i hi => ?_⟩
  · have := up_at (Y - 2 ^ k) k
    rw [Nat.sub_add_cancel hle] at this
    unfold bitN at *; omega
  · have e : 2 ^ k = 2 ^ i * 2 ^ (k - i) := by rw [← Nat.pow_add]; congr 1; omega
    have h2 : Y = (Y - 2 ^ k) + 2 ^ i * 2 ^ (k - i) := by omega
    conv => rhs; rw [h2]
    rw [Nat.add_mul_div_left _ _ (pow_pos2 i)]
/-- one round without a borrow. -/
theorem sub_plain (X D b i : Nat) (h : X / 2 ^ i = D / 2 ^ i + b / 2 ^ i) (hn : bitN b i ≤ bitN X i) : bitN X i - bitN b i = bitN D i ∧ X / 2 ^ (i + 1) = D / 2 ^ (i + 1) + b / 2 ^ (i + 1) := by
  have a1 := div_succ X i
  have a2 := div_succ D i
  have a3 := div_succ b i
  have b1 := bit01 X i
  have b2 := bit01 D i
  have b3 := bit01 b i
  omega
theorem sub_borrow (X D b i : Nat) (h : X / 2 ^ i = D / 2 ^ i + b / 2 ^ i) (hn : bitN X i < bitN b i) : bitN X i = 0 ∧ bitN b i = 1 ∧ bitN D i = 1 ∧ X / 2 ^ (i + 1) = D / 2 ^ (i + 1) + b / 2 ^ (i + 1) + 1 := by
  have a1 := div_succ X i
  have a2 := div_succ D i
  have a3 := div_succ b i
  have b1 := bit01 X i
  have b2 := bit01 D i
  have b3 := bit01 b i
  omega
/-- the row of differences, as far as it is told. -/
def outL (D i : Nat) : List Value := (List.range 128).map fun j => if j < i then bitV D j else .int .i64 0
theorem outL_zero (D : Nat) : outL D 0 = List.replicate 128 (.int .i64 0) := by
  apply List.ext_getElem
  · simp [outL]
  · intro i h1 h2
    rw [List.getElem_replicate]
    simp only [outL, List.getElem_map, List.getElem_range]
    rw [if_neg (by omega)]
theorem outL_len (D i : Nat) : (outL D i).length = 128 := by simp [outL]
theorem outL_step (D i : Nat) : (outL D i).set i (bitV D i) = outL D (i + 1) := by
  apply List.ext_getElem
  · simp [outL]
  · intro j h1 h2
    simp only [List.getElem_set, outL, List.getElem_map, List.getElem_range]
    by_cases e : i = j
    · subst e; simp
    · rw [if_neg e]
      by_cases e2 : j < i
      · rw [if_pos e2, if_pos (by omega)]
      · rw [if_neg e2, if_neg (by omega)]
theorem outL_full (D : Nat) : outL D 128 = bitsL D 128 := by
  apply List.ext_getElem
  · simp [outL, bitsL]
  · intro j h1 h2
    simp only [outL, bitsL, List.getElem_map, List.getElem_range]
    rw [if_pos (by simp [bitsL] at h2; exact h2)]
theorem own_below {w w' : World} {B C : Nat} {g n cap : Nat} {xs : List Value} (h : w.ownsRow B 3 1 (.slice (some ⟨g, 0, none⟩) n cap) n xs) (hb : Below C w w') (hg : g < C) : w'.ownsRow B 3 1 (.slice (some ⟨g, 0, none⟩) n cap) n xs := by
  refine ⟨h.1, ?_⟩
  rcases h.2 with hn | ⟨g', cap', cur, e, hb', hgg, rest⟩
  · exact .inl hn
  · simp only [Value.slice.injEq, Option.some.injEq, Addr.mk.injEq, and_true, true_and] at e
    obtain ⟨rfl, rfl⟩ := e
    exact .inr ⟨_, _, cur, rfl, hb', (hb.block _ hg).trans hgg, rest⟩
theorem own_cell {w : World} {B g n cap N : Nat} (h : w.ownsRow B 3 1 (.slice (some ⟨g, 0, none⟩) n cap) n (bitsL N n)) (j : Nat) (hj : j < n) : w.cell? ⟨g, j, none⟩ = some (.int .i64 (bitN N j : Int)) := bits_cells h j hj

theorem cmpN_ge (a b : Nat) (h : b ≤ a) : 0 ≤ cmpN a b ∧ cmpN a b ≤ 1 := by
  unfold cmpN
  rw [if_neg (by omega)]
  by_cases q : b < a
  · rw [if_pos q]; omega
  · rw [if_neg q]; omega
theorem rcmp_ge (a b : Nat) (w : World) (ha : a < B128) (hb : b < B128) (h : b ≤ a) :
    Calls Tryd.prog 15 #[.agg #[.int .u64 (hi a), .int .u64 (lo a)], .agg #[.int .u64 (hi b), .int .u64 (lo b)]] w fun e w' => ∃ c : Int, 0 ≤ c ∧ c ≤ 1 ∧ e = .returned (.int .i64 c) ∧ Below w.heap.size w w' :=
  (rcmp_any a b w ha hb).mono fun _ _ ⟨he, hw⟩ => ⟨cmpN a b, (cmpN_ge a b h).1, (cmpN_ge a b h).2, he, hw⟩
theorem rcmp_lt (a b : Nat) (w : World) (ha : a < B128) (hb : b < B128) (h : a < b) :
    Calls Tryd.prog 15 #[.agg #[.int .u64 (hi a), .int .u64 (lo a)], .agg #[.int .u64 (hi b), .int .u64 (lo b)]] w fun e w' => e = .returned (.int .i64 (-1)) ∧ Below w.heap.size w w' :=
  (rcmp_any a b w ha hb).mono fun _ _ ⟨he, hw⟩ => ⟨by rw [he, cmpN_lt a b h], hw⟩
end Go.Proofs.YtdlijnkbpnhpoaaDoor
