/-
  What is asked of a tree of points, whatever it is made of. No condition but those typed at each theorem.
-/
import Derived.Test.YtfcpfffgodljeaaGreatPref
import Derived.Test.YtfcpfffgodljeaaGreatMLook
namespace Go.Proofs.YtfcpfffgodljeaaGreat
open Go.RowKit

/-- v is a slice with these names -/
def RL (w : World) (v : Value) (xs : List Int) : Prop := ∃ p c, v = .slice p xs.length c ∧ NS w p .u32 xs ∧ (p = none → c = 0) ∧ xs.length ≤ c
/-- what Build hands back: a tree, and no error; or an error, and a tree of nothing -/
def Built (TS : World → Value → Nat → List Nat → List S3 → Prop) (w : World) (L : List S3) (e : Ending) (w' : World) : Prop :=
  Below w.heap.size w w' ∧ ((Rg L ∧ ∃ v S, e = .returned (.tuple #[v, .int .i64 0]) ∧ TS w' v L.length S L ∧ ∀ k ∈ S, w.heap.size ≤ k) ∨ (¬ Rg L ∧ ∃ v S, e = .returned (.tuple #[v, .int .i64 2]) ∧ TS w' v 0 S [] ∧ ∀ k ∈ S, w.heap.size ≤ k))
/-- so many things more than it tells does Report touch, and Count -/
def repN (n : Nat) : Nat := 4 * lgN (n + 1) * lgN (n + 1) + 12 * lgN (n + 1) + 12
def cntN (n : Nat) : Nat := 8 * lgN (n + 1) * lgN (n + 1) + 12 * lgN (n + 1) + 12
/-- TS X v n S A: v is a tree that was built of n points, those of A are there, the blocks S are its own -/
structure BandC (TS : World → Value → Nat → List Nat → List S3 → Prop) : Prop where
  keep : ∀ {X X' v n S A T}, TS X v n S A → Off T X X' → (∀ k ∈ S, k ∉ T) → TS X' v n S A
  lies : ∀ {X v n S A}, TS X v n S A → ∀ k ∈ S, k < X.heap.size
  build : ∀ (w : World) (p : Option Addr) (c : Nat) (L : List S3), TsS w p L → L.length ≤ 400 → L.length ≤ c → (p = none → c = 0) → (∀ s ∈ L, Wf3 s) → Calls Tryz.prog 16 #[.slice p L.length c] w (Built TS w L)
  len : ∀ {X v n S A}, TS X v n S A → Calls Tryz.prog 18 #[v] X fun e X' => e = .returned (.int .i64 A.length) ∧ Below X.heap.size X X'
  weight : ∀ {X v n S A}, TS X v n S A → Calls Tryz.prog 19 #[v] X fun e X' => (∃ m : Nat, e = .returned (.int .i64 m) ∧ A.length ≤ m ∧ m ≤ A.length * (lgN (n + 1) + 1)) ∧ Below X.heap.size X X'
  report : ∀ {X v n S A} (b : B5), TS X v n S A → Wf5 b → Calls Tryz.prog 24 #[v, bv b] X fun e X' => (∃ r, ∃ t : Nat, e = .returned (.tuple #[r, .int .i64 t]) ∧ RL X' r (hsS A b.1) ∧ (hsS A b.1).length ≤ t ∧ t ≤ (hsS A b.1).length + repN n) ∧ Below X.heap.size X X'
  count : ∀ {X v n S A} (b : B5), TS X v n S A → Wf5 b → Calls Tryz.prog 25 #[v, bv b] X fun e X' => (∃ t : Nat, e = .returned (.tuple #[.int .i64 (hsS A b.1).length, .int .i64 t]) ∧ t ≤ cntN n) ∧ Below X.heap.size X X'
  drop : ∀ {X v n S A} (s : S3), TS X v n S A → Wf3 s → Calls Tryz.prog 22 #[v, tv s] X fun e X' => e = .returned (.bool (decide (s ∈ A))) ∧ ∃ S', TS X' v n S' (drp A s) ∧ Off S X X' ∧ ∀ k ∈ S', k ∈ S ∨ X.heap.size ≤ k
  few : ∀ {X v n S A}, TS X v n S A → A.length ≤ n ∧ n ≤ 400 ∧ Rg A
section
variable {TS : World → Value → Nat → List Nat → List S3 → Prop} {X X' : World} {v : Value} {n : Nat} {S : List Nat} {A : List S3}
theorem BandC.bel (C : BandC TS) (h : TS X v n S A) (hb : Below X.heap.size X X') : TS X' v n S A := C.keep h (Off.of (S := []) hb (Nat.le_refl _)) (by simp)
end
end Go.Proofs.YtfcpfffgodljeaaGreat
