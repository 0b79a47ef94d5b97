/-
  Blocks of a variable's own, written cell by cell. No condition but those typed at each theorem.
-/
import Derived.Test.YtpbghgmaikmneaaWd
namespace Go.Proofs.Ytpbghgmaikmneaa
open Go.RowKit

/-- A block of a variable's own: these values, and it may be written. -/
def Own (X : World) (n : Nat) (vs : List Value) : Prop := Row X n vs ∧ ∀ k, X.frozen? ⟨n, k, none⟩ = false
theorem Own.new (X : World) {n : Nat} (vs : List Value) (t : TypeId) (hn : n = X.heap.size) : Own (X.alloc (.cells vs.toArray t)) n vs :=
  ⟨Row.new X vs t hn, fun k => by subst hn; simp⟩
theorem Own.all {X : World} {n : Nat} {vs : List Value} (h : Own X n vs) (hn : n < X.heap.size) (o : Obj) : Own (X.alloc o) n vs :=
  ⟨h.1.all o, fun k => (World.frozen?_of_block (w := X) (Below.heap_alloc X o n hn)).trans (h.2 k)⟩
theorem Own.drew {X : World} {n : Nat} {vs : List Value} (h : Own X n vs) : Own X.drew n vs := h
theorem Row.far {X : World} {n : Nat} {vs : List Value} (h : Row X n vs) (q : Addr) (v : Value) (hq : q.block ≠ n) : Row (X.setCell q v) n vs :=
  fun k u e => (World.cell?_of_block (w := X) (Below.heap_setCell X q v n (fun e => hq e.symm))).trans (h k u e)
theorem Own.far {X : World} {n : Nat} {vs : List Value} (h : Own X n vs) (q : Addr) (v : Value) (hq : q.block ≠ n) : Own (X.setCell q v) n vs :=
  ⟨h.1.far q v hq, fun k => (World.frozen?_of_block (w := X) (Below.heap_setCell X q v n (fun e => hq e.symm))).trans (h.2 k)⟩
theorem Row.set {X : World} {n : Nat} {vs : List Value} (h : Row X n vs) (k : Nat) (v : Value) {u : Value} (hk : vs[k]? = some u) : Row (X.setCell ⟨n, k, none⟩ v) n (vs.set k v) := by
  intro j x e
  by_cases hj : k = j
  · subst hj
    obtain ⟨hlt, _⟩ := List.getElem?_eq_some_iff.1 hk
    rw [List.getElem?_set_self hlt] at e
    cases e
    exact World.cell?_setCell_same' _ _ _ (by rw [h k u hk]; rfl)
  · rw [List.getElem?_set_ne hj] at e
    exact (World.cell?_setCell_other _ _ _ _ (by simp <;> omega)).trans (h j x e)
theorem BlC {w X : World} (h : Hid (Below w.heap.size w X)) (q : Addr) (v : Value) (hq : w.heap.size ≤ q.block) : Hid (Below w.heap.size w (X.setCell q v)) := Lib.hid (h.out.setCell hq v)
theorem BlW {w X : World} (h : Hid (Below w.heap.size w X)) : Hid (Below w.heap.size w X.drew) := Lib.hid h.out.drew
end Go.Proofs.Ytpbghgmaikmneaa
