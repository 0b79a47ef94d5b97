/-
  Runs of places in memory: how they are made, From, Has, Drop. No condition but those typed at each theorem.
-/
import Derived.Test.YtldmajifkmcdcaaGreatAu
import Derived.Deep.CutBlock
import Derived.Laws.Rows
import Derived.Test.YtldmajifkmcdcaaGreatAf
import Derived.Test.YtldmajifkmcdcaaGreatMBa
import Derived.Test.YtldmajifkmcdcaaGreatLt
import Derived.BigQuiet
import Derived.Deep.RegionHeld3
import Derived.Deep.RegionWith
namespace Go.Proofs.YtldmajifkmcdcaaGreat
open Go.RowKit
def zs (O : List Nat) : List Int := O.map (fun x : Nat => (x : Int))
theorem offN {S : List Nat} {w X : World} (h : Off S w X) (n : Nat) : Off S w (X.drewN n) := ⟨h.os, h.tape, h.output, h.size, h.block⟩
section
variable {w w' : World} {b o m : Nat} {al : Nat → Bool} {br bo : Nat} {R : List (Nat × Nat)} {O : List Nat}
end
theorem EV.far {t : TypeId} {w : World} {A : Nat} {L : List Value} (h : EV t w A L) {a : Addr} (ha : a.block ≠ A) (v : Value) : EV t (w.setCell a v) A L := (Below.heap_setCell _ _ _ _ (Ne.symm ha)).trans h
end Go.Proofs.YtldmajifkmcdcaaGreat
/-
  How many were dropped, in memory: how stretches are made, Add, Ahead. No condition but those typed at each theorem.
-/
namespace Go.Proofs.YtldmajifkmcdcaaGreat
open Go.RowKit
section
variable {w w' : World} {b o N : Nat} {al : Nat → Bool} {z ba bw : Nat} {FA FW : List Nat}
end
theorem three (w : World) (a b c : Obj) : (((w.alloc a).alloc b).alloc c).heap[w.heap.size]? = some a ∧ (((w.alloc a).alloc b).alloc c).heap[w.heap.size + 1]? = some b ∧ (((w.alloc a).alloc b).alloc c).heap[w.heap.size + 1 + 1]? = some c ∧ Below w.heap.size w (((w.alloc a).alloc b).alloc c) := by
  refine ⟨?_, ?_, ?_, (((Below.refl _ w).alloc (Nat.le_refl _) _).alloc (by simp) _).alloc (by simp; omega) _⟩
  · exact (Below.heap_alloc _ _ _ (by simp; omega)).trans ((Below.heap_alloc _ _ _ (by simp)).trans (heap_alloc_new w _))
  · have := heap_alloc_new (w.alloc a) b
    rw [World.size_alloc] at this
    exact (Below.heap_alloc _ _ _ (by simp)).trans this
  · have := heap_alloc_new ((w.alloc a).alloc b) c
    rw [World.size_alloc, World.size_alloc] at this
    exact this
end Go.Proofs.YtldmajifkmcdcaaGreat
/-
  Names in a row, of which some were dropped, in memory (alive.Names): Has, Between, Count, Drop. No condition but those typed at each theorem.
-/
namespace Go.Proofs.YtldmajifkmcdcaaGreat.Bd
open Go.RowKit Go.Sort
/-- where a row of names lies -/
structure NmP where
  vn : Value
  br : Nat
  bo : Nat
  ba : Nat
  bw : Nat
/-- the blocks that a drop writes -/
def mbl (P : NmP) : List Nat := [P.br, P.bo, P.ba, P.bw]
section
variable {w w' : World} {b o : Nat} {SP A : List S3} {P : NmP}
end
end Go.Proofs.YtldmajifkmcdcaaGreat.Bd
/-
  Names in a row are made (alive.NamesOf): all are there. No condition but those typed at each theorem.
-/
namespace Go.Proofs.YtldmajifkmcdcaaGreat.Bd
open Go.RowKit Go.Sort
/-- the cells of a row of names -/
def nmc (n z : Nat) (P : NmP) : List Value := [P.vn, .slice (some ⟨P.br, 0, none⟩) (n + 1) (n + 1), .slice (some ⟨P.bo, 0, none⟩) (n + 1) (n + 1), .int .i64 z, .slice (some ⟨P.ba, 0, none⟩) (n / z + 1) (n / z + 1), .slice (some ⟨P.bw, 0, none⟩) (n + 1) (n + 1)]
end Go.Proofs.YtldmajifkmcdcaaGreat.Bd
