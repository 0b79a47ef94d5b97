/-
  Each number once, as a plain list; rank.Squeeze of no list. No condition but those typed at each theorem.
-/
import Derived.Test.YtnangnmnodpfjaaIns
import Derived.Test.YtnangnmnodpfjaaMem
import Derived.Shelf.SlicesE.Compact
namespace Go.Proofs.Ytnangnmnodpfjaa
open Go.RowKit Go.Sort

/-- slices.Sort puts n numbers in order -/
def SortsL (n : Nat) : Prop := ∀ (X : World) (blk off cap : Nat) (d : Array Int), d.size = n → Holds encU X blk off d →
  Calls Try.prog 26 #[.slice (some ⟨blk, off, none⟩) d.size cap] X fun e w' => e = .returned (.tuple #[]) ∧ Holds encU w' blk off (Sort.sort ltInt d) ∧ Off [blk] X w'

theorem sort_small (d : Array Int) (h : d.size ≤ 12) : Sort.sort ltInt d = Sort.insertionSort ltInt d 0 d.size := by
  unfold Sort.sort
  rw [pdq, if_pos (by omega)]

theorem off_putRow (w : World) (q blk off : Nat) (d : Array Int) : Off [blk] w (putRow encU (Sort.ahead w q) blk off d) := by
  refine ⟨rfl, rfl, rfl, ?_, ?_⟩
  · simp [putRow, mapBlock, Sort.ahead]
  · intro k _ hk
    simp at hk
    simp [putRow, mapBlock, Sort.ahead, Array.getElem?_modify, Ne.symm hk]

/-- each number once, rising -/
def onceL (xs : List Int) : List Int := Lib.compactUpTo (Sort.sort ltInt xs.toArray) xs.length
theorem sort_size (xs : List Int) : (Sort.sort ltInt xs.toArray).size = xs.length := by
  have := congrArg List.length (sortInt xs)
  simpa using this
theorem onceL_len (xs : List Int) : (onceL xs).length ≤ xs.length := by
  unfold onceL Lib.compactUpTo
  rw [List.length_map]
  exact Nat.le_trans (List.length_filter_le _ _) (by simp)
/-- what Once told: none, or a block of its own that holds the numbers and may be written -/
def OS (w w' : World) (q : Option Addr) (xs : List Int) : Prop := (q = none ∧ xs = []) ∨ ∃ g, q = some ⟨g, 0, none⟩ ∧ w.heap.size ≤ g ∧ Holds encU w' g 0 xs.toArray
theorem holds_front {w : World} {g : Nat} {xs ys : List Int} (h : Holds encU w g 0 (xs ++ ys).toArray) : Holds encU w g 0 xs.toArray := by
  intro j hj
  simp at hj
  have := h j (by simp; omega)
  simpa [List.getElem_append, hj, getElem!_pos, show j < xs.length + ys.length by omega] using this
theorem Try.info2 : (Try.prog.info? 2).map (fun i => (i.zero, i.size, i.bytes)) = some (some (.int .i64 0), 1, 8) := by kernel_rfl

set_option maxRecDepth 100000 in
theorem ins_nil (w : World) : Calls Try.prog 33 #[.slice none 0 0, .int .i64 0, .int .i64 0] w fun e w' => e = .returned (.tuple #[]) ∧ w' = w := by
  go_enter Try.func33, Try.ntmps33
  go_wp2
  go_loopw [6] (fun vi wr => vi = .int .i64 1 ∧ wr = w) (fun _ _ => 0)
  case atStart => exact ⟨rfl, rfl⟩
  case round =>
    obtain ⟨rfl, rfl⟩ := hrel
    go_wp2
    go_end0
    exact ⟨rfl, rfl⟩
set_option maxRecDepth 100000 in
theorem pdq_nil (lim : Int) (w : World) : Calls Try.prog 30 #[.slice none 0 0, .int .i64 0, .int .i64 0, .int .i64 lim] w fun e w' => e = .returned (.tuple #[]) ∧ w' = w := by
  go_enter Try.func30, Try.ntmps30
  go_wp2
  go_loopw [1, 2, 3] (fun s1 s2 s3 wr => s1 = .int .i64 0 ∧ s2 = .int .i64 0 ∧ s3 = .int .i64 lim ∧ wr = w) (fun _ _ _ _ => 0)
  case atStart => exact ⟨rfl, rfl, rfl, rfl⟩
  case round =>
    obtain ⟨rfl, rfl, rfl, rfl⟩ := hrel
    go_wp2_with (go_at_call 33; (with_reducible refine (ins_nil _).mono ?_); rintro e w1 ⟨rfl, rfl⟩)
    refine bodyPost_ret (results_none rfl _ _ _) rfl ?_
    exact ⟨rfl, rfl⟩
set_option maxRecDepth 100000 in
theorem sort_nil (w : World) : Calls Try.prog 26 #[.slice none 0 0] w fun e w' => e = .returned (.tuple #[]) ∧ w' = w := by
  have HL' := Lib.hid (fun X => Try.bits_Len 0 X (by omega) (by omega))
  go_enter Try.func26, Try.ntmps26
  go_wp2_with (first
    | (go_at_call 28; (with_reducible refine (HL'.out _).mono ?_); rintro e w1 ⟨rfl, rfl⟩)
    | (go_at_call 30; (with_reducible refine (pdq_nil _ _).mono ?_); rintro e w1 ⟨rfl, rfl⟩))
  go_end0
  exact ⟨rfl, rfl⟩
set_option maxRecDepth 100000 in
theorem comp_nil (w : World) : Calls Try.prog 27 #[.slice none 0 0] w fun e w' => e = .returned (.slice none 0 0) ∧ w' = w := by
  go_enter Try.func27, Try.ntmps27
  go_wp2
  go_ret
  exact ⟨rfl, rfl⟩
set_option maxRecDepth 100000 in
theorem Squeeze_nil (w : World) : Calls Try.prog 16 #[.slice none 0 0] w fun e w' => e = .returned (.slice none 0 0) ∧ w' = w := by
  go_enter Try.func16, Try.ntmps16
  go_wp2_with (first
    | (go_at_call 25; (with_reducible refine (Try.slices_Clone_nil 0 0 _).mono ?_); rintro e w1 ⟨rfl, rfl⟩)
    | (go_at_call 26; (with_reducible refine (sort_nil _).mono ?_); rintro e w1 ⟨rfl, rfl⟩)
    | (go_at_call 27; (with_reducible refine (comp_nil _).mono ?_); rintro e w1 ⟨rfl, rfl⟩))
  go_ret
  exact ⟨rfl, rfl⟩
end Go.Proofs.Ytnangnmnodpfjaa
