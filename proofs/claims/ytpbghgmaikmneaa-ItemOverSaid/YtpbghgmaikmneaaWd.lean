/-
  A region that draws its order, whose operations only read and whose callees leave all that lay as it was: walked once, in the order of the text, over a class of worlds of one's own. No condition but those typed at each theorem.
-/
import Derived.Test.YtpbghgmaikmneaaIs
import Derived.Deep.QuietTactic
import Derived.BigQuiet
namespace Go.Proofs.Ytpbghgmaikmneaa
open Go.RowKit

/-- A world of a class. -/
structure Wd (p : World → Prop) where
  w : World
  h : p w

theorem wp_region_wd {P : Program} {id : Nat} {Q : Exit → Act → World → Prop} {a : Act} {w : World} {l : List Oper} (p : World → Prop) (hm : P.follows .mixedOrders = true) (hB : Region.lexB .any l.toArray = true) (hw : p w.drew)
    (h : wpQuiet P l.toArray (fun w' => ∃ s : Wd p, w' = s.w) (fun a' => ∀ w', (∃ s : Wd p, w' = s.w) → Q .normal a' w') l a) : (Code.region id l.toArray true).wp P Q a w :=
  wp_region_quiet (C := fun w' => ∃ s : Wd p, w' = s.w) hm hB ⟨⟨w.drew, hw⟩, rfl⟩ (by simpa using h)

theorem calls_wd {P : Program} {f : FuncId} {args : Array Value} {v : Value} {p : World → Prop} (hp : ∀ X w', p X → Below X.heap.size X w' → p w') (s : Wd p)
    (h : Calls P f args s.w fun e w' => e = .returned v ∧ Below s.w.heap.size s.w w') : Calls P f args s.w fun e w'' => e = .returned v ∧ ∃ s' : Wd p, w'' = s'.w :=
  h.mono fun _ w' ⟨he, hb⟩ => ⟨he, ⟨w', hp _ _ s.h hb⟩, rfl⟩

/-- The worlds in which these blocks hold these values, and all that lay below is as it was. -/
def Cl (w : World) (rs : List (Nat × List Value)) (wx : World) : Prop := (∀ r ∈ rs, Row wx r.1 r.2) ∧ Below w.heap.size w wx
theorem Cl.keep {w X w' : World} {rs : List (Nat × List Value)} (h : Cl w rs X) (hb : Below X.heap.size X w') : Cl w rs w' :=
  ⟨fun r hr => (h.1 r hr).keep hb, h.2.trans (hb.mono h.2.size)⟩
theorem Cl.drew {w X : World} {rs : List (Nat × List Value)} (h : Cl w rs X) : Cl w rs X.drew := ⟨fun r hr => (h.1 r hr).drew, h.2.drew⟩
theorem Cl.row {w X : World} {rs : List (Nat × List Value)} (h : Cl w rs X) (i : Nat) {n : Nat} {vs : List Value} (hi : rs[i]? = some (n, vs)) : Row X n vs :=
  h.1 _ (List.mem_of_getElem? hi)
theorem Cl.cell {w X : World} {rs : List (Nat × List Value)} (h : Cl w rs X) (i : Nat) {n : Nat} {vs : List Value} (hi : rs[i]? = some (n, vs)) (k : Nat) {v : Value} (hk : vs[k]? = some v) : X.cell? ⟨n, k, none⟩ = some v :=
  h.row i hi k v hk
theorem Cl.mk1 {w X : World} {a : Nat × List Value} (ha : Row X a.1 a.2) (hb : Below w.heap.size w X) : Cl w [a] X := ⟨by simpa using ha, hb⟩
theorem Cl.cons {w X : World} {a : Nat × List Value} {rs : List (Nat × List Value)} (ha : Row X a.1 a.2) (h : Cl w rs X) : Cl w (a :: rs) X :=
  ⟨fun r hr => (List.mem_cons.1 hr).elim (fun e => e ▸ ha) (h.1 r), h.2⟩
theorem Cl.nil {w X : World} (hb : Below w.heap.size w X) : Cl w [] X := ⟨(fun _ h => by cases h), hb⟩
end Go.Proofs.Ytpbghgmaikmneaa
