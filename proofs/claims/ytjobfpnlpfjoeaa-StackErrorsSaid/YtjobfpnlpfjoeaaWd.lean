/-
  Rows of cells; a region that draws its order, whose operations only read and whose callees leave all that lay as it was: walked once, over a class of worlds of one's own; blocks of a variable's own. No condition but those typed at each theorem.
-/
import Derived.Test.YtjobfpnlpfjoeaaKey
namespace Go.Proofs.Ytjobfpnlpfjoeaa
open Go.RowKit
/-- the block n holds these values, one behind the other -/
def Row (W : World) (n : Nat) (vs : List Value) : Prop := ∀ k v, vs[k]? = some v → W.cell? ⟨n, k, none⟩ = some v
theorem Row.keep {X w' : World} {n : Nat} {vs : List Value} (h : Row X n vs) (hb : Below X.heap.size X w') : Row w' n vs :=
  fun k v e => (hb.cell (World.block_lt_of_cell? X _ (h k v e))).trans (h k v e)
theorem Row.all {X : World} {n : Nat} {vs : List Value} (h : Row X n vs) (o : Obj) : Row (X.alloc o) n vs :=
  fun k v e => (World.cell?_alloc_lt _ _ _ (World.block_lt_of_cell? X _ (h k v e))).trans (h k v e)
theorem Row.drew {X : World} {n : Nat} {vs : List Value} (h : Row X n vs) : Row X.drew n vs := h
theorem Row.new (X : World) {n : Nat} (vs : List Value) (t : TypeId) (hn : n = X.heap.size) : Row (X.alloc (.cells vs.toArray t)) n vs := by
  subst hn
  intro k v e
  have := World.cell?_alloc_new (w := X) vs.toArray t k
  rw [this]
  simpa using e
theorem Bl {w X w' : World} (h : Hid (Below w.heap.size w X)) (hb : Below X.heap.size X w') : Hid (Below w.heap.size w w') :=
  Lib.hid (h.out.trans (hb.mono h.out.size))
theorem BlA {w X : World} (h : Hid (Below w.heap.size w X)) (o : Obj) : Hid (Below w.heap.size w (X.alloc o)) := Lib.hid (h.out.alloc h.out.size o)
theorem BlS {w X w' : World} (h : Hid (Below w.heap.size w X)) (e : w' = X) : Hid (Below w.heap.size w w') := e ▸ h

/-- A world of a class. -/
structure Wd (p : World → Prop) where
  w : World
  h : p w

theorem wp_region_wd {P : Program} {id : Nat} {Q : Exit → Act → World → Prop} {a : Act} {w : World} {l : List Oper} (p : World → Prop) (hm : P.follows .mixedOrders = true) (hB : Region.lexB .any l.toArray = true) (hw : p w.drew)
    (h : wpQuiet P l.toArray (fun w' => ∃ s : Wd p, w' = s.w) (fun a' => ∀ w', (∃ s : Wd p, w' = s.w) → Q .normal a' w') l a) : (Code.region id l.toArray true).wp P Q a w :=
  wp_region_quiet (C := fun w' => ∃ s : Wd p, w' = s.w) hm hB ⟨⟨w.drew, hw⟩, rfl⟩ (by simpa using h)

theorem calls_wd {P : Program} {f : FuncId} {args : Array Value} {v : Value} {p : World → Prop} (hp : ∀ X w', p X → Below X.heap.size X w' → p w') (s : Wd p)
    (h : Calls P f args s.w fun e w' => e = .returned v ∧ Below s.w.heap.size s.w w') : Calls P f args s.w fun e w'' => e = .returned v ∧ ∃ s' : Wd p, w'' = s'.w :=
  h.mono fun _ w' ⟨he, hb⟩ => ⟨he, ⟨w', hp _ _ s.h hb⟩, rfl⟩

/-- The worlds in which these blocks hold these values, and all that lay below is as it was. -/
def Cl (w : World) (rs : List (Nat × List Value)) (wx : World) : Prop := (∀ r ∈ rs, Row wx r.1 r.2) ∧ Below w.heap.size w wx
theorem Cl.keep {w X w' : World} {rs : List (Nat × List Value)} (h : Cl w rs X) (hb : Below X.heap.size X w') : Cl w rs w' :=
  ⟨fun r hr => (h.1 r hr).keep hb, h.2.trans (hb.mono h.2.size)⟩
theorem Cl.drew {w X : World} {rs : List (Nat × List Value)} (h : Cl w rs X) : Cl w rs X.drew := ⟨fun r hr => (h.1 r hr).drew, h.2.drew⟩
theorem Cl.row {w X : World} {rs : List (Nat × List Value)} (h : Cl w rs X) (i : Nat) {n : Nat} {vs : List Value} (hi : rs[i]? = some (n, vs)) : Row X n vs :=
  h.1 _ (List.mem_of_getElem? hi)
theorem Cl.cell {w X : World} {rs : List (Nat × List Value)} (h : Cl w rs X) (i : Nat) {n : Nat} {vs : List Value} (hi : rs[i]? = some (n, vs)) (k : Nat) {v : Value} (hk : vs[k]? = some v) : X.cell? ⟨n, k, none⟩ = some v :=
  h.row i hi k v hk
theorem Cl.mk1 {w X : World} {a : Nat × List Value} (ha : Row X a.1 a.2) (hb : Below w.heap.size w X) : Cl w [a] X := ⟨by simpa using ha, hb⟩
theorem Cl.cons {w X : World} {a : Nat × List Value} {rs : List (Nat × List Value)} (ha : Row X a.1 a.2) (h : Cl w rs X) : Cl w (a :: rs) X :=
  ⟨fun r hr => (List.mem_cons.1 hr).elim (fun e => e ▸ ha) (h.1 r), h.2⟩
theorem Cl.nil {w X : World} (hb : Below w.heap.size w X) : Cl w [] X := ⟨(fun _ h => by cases h), hb⟩
/-- A block of a variable's own: these values, and it may be written. -/
def Own (X : World) (n : Nat) (vs : List Value) : Prop := Row X n vs ∧ ∀ k, X.frozen? ⟨n, k, none⟩ = false
theorem Own.new (X : World) {n : Nat} (vs : List Value) (t : TypeId) (hn : n = X.heap.size) : Own (X.alloc (.cells vs.toArray t)) n vs :=
  ⟨Row.new X vs t hn, fun k => by subst hn; simp⟩
theorem Own.all {X : World} {n : Nat} {vs : List Value} (h : Own X n vs) (hn : n < X.heap.size) (o : Obj) : Own (X.alloc o) n vs :=
  ⟨h.1.all o, fun k => (World.frozen?_of_block (w := X) (Below.heap_alloc X o n hn)).trans (h.2 k)⟩
theorem Own.drew {X : World} {n : Nat} {vs : List Value} (h : Own X n vs) : Own X.drew n vs := h
theorem Row.far {X : World} {n : Nat} {vs : List Value} (h : Row X n vs) (q : Addr) (v : Value) (hq : q.block ≠ n) : Row (X.setCell q v) n vs :=
  fun k u e => (World.cell?_of_block (w := X) (Below.heap_setCell X q v n (fun e => hq e.symm))).trans (h k u e)
theorem Own.far {X : World} {n : Nat} {vs : List Value} (h : Own X n vs) (q : Addr) (v : Value) (hq : q.block ≠ n) : Own (X.setCell q v) n vs :=
  ⟨h.1.far q v hq, fun k => (World.frozen?_of_block (w := X) (Below.heap_setCell X q v n (fun e => hq e.symm))).trans (h.2 k)⟩
theorem Row.set {X : World} {n : Nat} {vs : List Value} (h : Row X n vs) (k : Nat) (v : Value) {u : Value} (hk : vs[k]? = some u) : Row (X.setCell ⟨n, k, none⟩ v) n (vs.set k v) := by
  intro j x e
  by_cases hj : k = j
  · subst hj
    obtain ⟨hlt, _⟩ := List.getElem?_eq_some_iff.1 hk
    rw [List.getElem?_set_self hlt] at e
    cases e
    exact World.cell?_setCell_same' _ _ _ (by rw [h k u hk]; rfl)
  · rw [List.getElem?_set_ne hj] at e
    exact (World.cell?_setCell_other _ _ _ _ (by simp <;> omega)).trans (h j x e)
theorem BlC {w X : World} (h : Hid (Below w.heap.size w X)) (q : Addr) (v : Value) (hq : w.heap.size ≤ q.block) : Hid (Below w.heap.size w (X.setCell q v)) := Lib.hid (h.out.setCell hq v)
theorem BlW {w X : World} (h : Hid (Below w.heap.size w X)) : Hid (Below w.heap.size w X.drew) := Lib.hid h.out.drew
end Go.Proofs.Ytjobfpnlpfjoeaa
