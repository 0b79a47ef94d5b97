/-
  A node's list in memory: who is between, how many, who is there, a drop. No condition but those typed at each theorem.
-/
import Derived.Test.YtajpboclicnopaaGreatMBa
import Derived.Test.YtajpboclicnopaaGreatNm
import Derived.Test.YtajpboclicnopaaGreatMFx
import Derived.Test.YtajpboclicnopaaGreatMP
namespace Go.Proofs.YtajpboclicnopaaGreat.Bd
open Go.RowKit Go.Sort
/-- where a list lies -/
structure LsP where
  va : Value
  np : NmP
  z : Nat
section
variable {w w' : World} {b o : Nat} {SP A : List S3} {P : LsP}
end
end Go.Proofs.YtajpboclicnopaaGreat.Bd
/-
  A tree of points, plain: who stands at a node, what the canonical nodes of a range tell together, how many things are touched, how much it weighs. No condition but those typed at each theorem.
-/
namespace Go.Proofs.YtajpboclicnopaaGreat.Bd
open Go.RowKit Go.Sort
theorem sum_nil {α : Type} : ∀ l : List α, (l.map (fun _ => 0)).sum = 0
  | [] => rfl
  | x :: l => by rw [List.map_cons, List.sum_cons, sum_nil l]
/-- the points by X, and by Y -/
structure PlI (RX LY : List S3) : Prop where
  ox : Ord kx RX
  oy : Ord ky LY
  pm : RX.Perm LY
  few : RX.length ≤ 400
section
variable {RX LY : List S3}
theorem PlI.idx (h : PlI RX LY) {i : Nat} {s : S3} (e : RX[i]? = some s) : RX.idxOf s = i := by
  obtain ⟨hi, rfl⟩ := List.getElem?_eq_some_iff.1 e
  exact List.Nodup.idxOf_getElem h.ox.nodup i hi
theorem PlI.at_idx (h : PlI RX LY) {s : S3} (e : s ∈ RX) : RX[RX.idxOf s]? = some s ∧ RX.idxOf s < RX.length := by
  obtain ⟨i, hi⟩ := List.mem_iff_getElem?.1 e
  rw [h.idx hi]
  exact ⟨hi, (List.getElem?_eq_some_iff.1 hi).1⟩
/-- those of a range of X -/
theorem range_iff (h : PlI RX LY) (x1 x2 : Int) {a : S3} (ha : a ∈ RX) : ((firstP (RX.map kx) x1).1 ≤ RX.idxOf a ∧ RX.idxOf a < (aboveP (RX.map kx) x2).1) ↔ (x1 ≤ kx a ∧ kx a ≤ x2) := by
  obtain ⟨e, -⟩ := h.at_idx ha
  obtain ⟨-, -, f3⟩ := fst_parts h.ox (Nat.le_trans h.few (by decide)) x1
  obtain ⟨-, -, a3⟩ := abv_parts h.ox (Nat.le_trans h.few (by decide)) x2
  have h1 := f3 _ _ e
  have h2 := a3 _ _ e
  rw [h2]
  constructor
  · rintro ⟨g1, g2⟩
    exact ⟨Decidable.byContradiction (fun c => by have := h1.2 (by omega); omega), g2⟩
  · rintro ⟨g1, g2⟩
    exact ⟨Decidable.byContradiction (fun c => by have := h1.1 (by omega); omega), g2⟩
theorem lgM {a b : Nat} (h : a ≤ b) (hb : b ≤ 100000) : lgN a ≤ lgN b := bl_mono (by omega) (by omega)
end
end Go.Proofs.YtajpboclicnopaaGreat.Bd
/-
  A tree of points in memory; the canonical nodes' lists handed down. No condition but those typed at each theorem.
-/
namespace Go.Proofs.YtajpboclicnopaaGreat.Bd
open Go.RowKit Go.Sort
section
variable {w w' : World}  {RX LY A : List S3}
set_option maxRecDepth 100000 in
theorem rbox_any (w : World) (b : B5) : Calls Tryz.prog 70 #[bv b] w fun e w' => e = .returned (.bool (decide (b.1.1 ≤ b.1.2.1 ∧ b.1.2.2.1 ≤ b.1.2.2.2))) ∧ Below w.heap.size w w' := by
  obtain ⟨⟨x1, x2, y1, y2⟩, i⟩ := b
  unfold bv
  simp only
  by_cases h1 : x1 ≤ x2
  · by_cases h2 : y1 ≤ y2
    · rw [decide_eq_true (show x1 ≤ x2 ∧ y1 ≤ y2 from ⟨h1, h2⟩)]
      go_enter Tryz.func70, Tryz.ntmps70
      go_wp2
      go_ret
      exact ⟨retb (by simp), (Below.refl _ w).alloc (Nat.le_refl _) _⟩
    · rw [decide_eq_false (show ¬ (x1 ≤ x2 ∧ y1 ≤ y2) from fun c => h2 c.2)]
      go_enter Tryz.func70, Tryz.ntmps70
      go_wp2
      go_ret
      exact ⟨retb (by simp), (Below.refl _ w).alloc (Nat.le_refl _) _⟩
  · rw [decide_eq_false (show ¬ (x1 ≤ x2 ∧ y1 ≤ y2) from fun c => h1 c.1)]
    go_enter Tryz.func70, Tryz.ntmps70
    go_wp2
    go_ret
    exact ⟨rfl, (Below.refl _ w).alloc (Nat.le_refl _) _⟩
theorem sum_cap {α : Type} (f : α → Nat) (c : Nat) (h : ∀ x, f x ≤ c) : ∀ l : List α, (l.map f).sum ≤ l.length * c
  | [] => by simp
  | x :: l => by
    have h1 := h x
    have h2 := sum_cap f c h l
    rw [List.map_cons, List.sum_cons, List.length_cons, Nat.add_mul]
    omega
end
end Go.Proofs.YtajpboclicnopaaGreat.Bd
/-
  Report and Count. No condition but those typed at each theorem.
-/
namespace Go.Proofs.YtajpboclicnopaaGreat.Bd
open Go.RowKit Go.Sort
section
variable {W : World}  {RX LY A : List S3} {b : B5} {nb bb : Nat}
theorem hsS_bad {A : List S3} {q : B4} (h : ¬ (q.1 ≤ q.2.1 ∧ q.2.2.1 ≤ q.2.2.2)) : hsS A q = [] := by
  have : A.filter (hsB q) = [] := by
    rw [List.filter_eq_nil_iff]
    intro s _ hs
    unfold hsB at hs
    simp at hs
    omega
  unfold hsS hsL
  rw [this]
  rfl
end
end Go.Proofs.YtajpboclicnopaaGreat.Bd
