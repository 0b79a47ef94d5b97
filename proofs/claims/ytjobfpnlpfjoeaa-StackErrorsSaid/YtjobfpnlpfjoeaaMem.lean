/-
  Blocks of whole numbers; what stands while some blocks are written. No condition but those typed at each theorem.
-/
import Derived.Test.YtjobfpnlpfjoeaaClo
import Derived.Laws.MakeOwn
import Derived.Laws.CopyRow
import Derived.Deep.LoopGhost
namespace Go.Proofs.Ytjobfpnlpfjoeaa
open Go.RowKit

/-- the block A holds these numbers, and may be written -/
def EB (k : IntKind) (t : TypeId) (w : World) (A : Nat) (L : List Int) : Prop := w.heap[A]? = some (.cells (L.map (Value.int k)).toArray t (0, 0))
section
variable {k : IntKind} {t : TypeId} {w w' : World} {A : Nat} {L : List Int}
theorem EB.lt (h : EB k t w A L) : A < w.heap.size := lt_of_block h
theorem EB.cell (h : EB k t w A L) {i : Nat} {x : Int} (e : L[i]? = some x) : w.cell? ⟨A, i, none⟩ = some (.int k x) := by
  simp [World.cell?, show w.heap[A]? = _ from h, e]
theorem EB.free (h : EB k t w A L) (i : Nat) : w.frozen? ⟨A, i, none⟩ = false := by
  simp [World.frozen?, show w.heap[A]? = _ from h]
theorem EB.set (h : EB k t w A L) (i : Nat) (x : Int) : EB k t (w.setCell ⟨A, i, none⟩ (.int k x)) A (L.set i x) := by
  unfold EB
  rw [heap_setCell_same _ _ _ _ _ _ h]
  simp [List.map_set]
theorem EB.far (h : EB k t w A L) {a : Addr} (ha : a.block ≠ A) (v : Value) : EB k t (w.setCell a v) A L := by
  unfold EB
  rw [Below.heap_setCell _ _ _ _ (fun e => ha e.symm)]
  exact h
theorem EB.all (h : EB k t w A L) (o : Obj) : EB k t (w.alloc o) A L := by
  unfold EB
  rw [Below.heap_alloc _ _ _ h.lt]
  exact h
theorem EB.drew (h : EB k t w A L) : EB k t w.drew A L := h
theorem EB.keep {N : Nat} (h : EB k t w A L) (hb : Below N w w') (hN : A < N) : EB k t w' A L := (hb.block A hN).trans h
theorem EB.new (k : IntKind) (t : TypeId) (w : World) (L : List Int) : EB k t (w.alloc (.cells (L.map (Value.int k)).toArray t)) w.heap.size L := heap_alloc_new w _
theorem EB.made (k : IntKind) (t : TypeId) (w : World) (n : Nat) : EB k t (w.alloc (.cells (madeCells #[.int k 0] n) t)) w.heap.size (List.replicate n 0) := by
  have h : (madeCells #[.int k 0] n) = ((List.replicate n (0 : Int)).map (Value.int k)).toArray := by
    apply Array.ext
    · simp [size_madeCells]
    · intro i h1 h2
      simp [madeCells, Nat.mod_one]
  rw [h]
  exact EB.new k t w _
theorem EB.eq {M : List Int} (h : EB k t w A L) (e : L = M) : EB k t w A M := e ▸ h
end

/-- all stands but what lies in these blocks -/
structure Off (S : List Nat) (w w' : World) : Prop where
  os : w'.os = w.os
  tape : w'.tape = w.tape
  output : w'.output = w.output
  size : w.heap.size ≤ w'.heap.size
  block : ∀ k, k < w.heap.size → k ∉ S → w'.heap[k]? = w.heap[k]?
section
variable {S : List Nat} {w X w' : World}
theorem Off.refl (S : List Nat) (w : World) : Off S w w := ⟨rfl, rfl, rfl, Nat.le_refl _, fun _ _ _ => rfl⟩
theorem Off.trans (h : Off S w X) (g : Off S X w') : Off S w w' :=
  ⟨g.os.trans h.os, g.tape.trans h.tape, g.output.trans h.output, Nat.le_trans h.size g.size, fun k hk hS => (g.block k (Nat.lt_of_lt_of_le hk h.size) hS).trans (h.block k hk hS)⟩
theorem Off.mono {T : List Nat} (h : Off S w w') (hT : ∀ k, k < w.heap.size → k ∈ S → k ∈ T) : Off T w w' :=
  ⟨h.os, h.tape, h.output, h.size, fun k hk hS => h.block k hk (fun e => hS (hT k hk e))⟩
theorem Off.of {N : Nat} (hb : Below N w w') (hN : w.heap.size ≤ N) : Off S w w' := ⟨hb.os, hb.tape, hb.output, hb.size, fun k hk _ => hb.block k (Nat.lt_of_lt_of_le hk hN)⟩
theorem Off.bel (h : Off S w X) (hb : Below X.heap.size X w') : Off S w w' := h.trans (Off.of hb (Nat.le_refl _))
theorem Off.below {N : Nat} (h : Off S w w') (hN : N ≤ w.heap.size) (hS : ∀ k ∈ S, N ≤ k) : Below N w w' :=
  ⟨h.os, h.tape, h.output, h.size, fun k hk => h.block k (Nat.lt_of_lt_of_le hk hN) (fun e => absurd (hS k e) (by omega))⟩
theorem Off.all (h : Off S w X) (o : Obj) : Off S w (X.alloc o) := h.trans ⟨rfl, rfl, rfl, by simp, fun k hk _ => Below.heap_alloc _ _ _ hk⟩
theorem Off.drew (h : Off S w X) : Off S w X.drew := ⟨h.os, h.tape, h.output, h.size, h.block⟩
theorem Off.set (h : Off S w X) (a : Addr) (v : Value) (ha : a.block ∈ S ∨ w.heap.size ≤ a.block) : Off S w (X.setCell a v) :=
  ⟨h.os, h.tape, h.output, by simpa [World.setCell] using h.size, fun k hk hS => (Below.heap_setCell _ _ _ _ (fun e => by subst e; exact ha.elim hS (fun g => absurd g (by omega)))).trans (h.block k hk hS)⟩
theorem Off.cell (h : Off S w w') {a : Addr} {v : Value} (hc : w.cell? a = some v) (hS : a.block ∉ S) : w'.cell? a = some v :=
  (World.cell?_of_block (h.block _ (World.block_lt_of_cell? w a hc) hS)).trans hc
theorem EB.off {k : IntKind} {t : TypeId} {A : Nat} {L : List Int} (h : EB k t w A L) (g : Off S w w') (hS : A ∉ S) : EB k t w' A L := (g.block A h.lt hS).trans h
end
end Go.Proofs.Ytjobfpnlpfjoeaa
