/-
  Keys: which one stands ahead, call by call; keys in memory. No condition but those typed at each theorem.
-/
import Derived.Test.YtomchimjogdkkaaRows
import Derived.WalkKit
import Derived.WalkSpells
import Derived.WalkLawsBesides
import Derived.Lib.Hide
import Derived.Deep.QuietTactic
import Derived.BigQuiet
import Derived.Shelf.Abstract
namespace Go.Proofs.Ytomchimjogdkkaa
open Go.RowKit

theorem retb {p q : Bool} (h : p = true ↔ q = true) : Ending.returned (.bool p) = .returned (.bool q) := by rw [Bool.eq_iff_iff.2 h]
/-- the key k stands ahead of j -/
def kl (k j : Int × Int) : Bool := decide (k.1 < j.1) || decide (k.1 = j.1) && decide (k.2 < j.2)
def kv (k : Int × Int) : Value := .agg #[.int .i64 k.1, .int .u32 k.2]

set_option maxRecDepth 100000 in
set_option maxHeartbeats 800000 in
theorem before_any (k j : Int × Int) (w : World) :
    Calls Try.prog 24 #[kv k, kv j] w fun e w' => e = .returned (.bool (kl k j)) ∧ Below w.heap.size w w' := by
  unfold kv
  obtain ⟨a, i⟩ := k
  obtain ⟨b, n⟩ := j
  have hb : ∀ x y, Below w.heap.size w ((w.alloc x).alloc y) := fun x y => ((Below.refl _ w).alloc (Nat.le_refl _) x).alloc (by simp) y
  by_cases h1 : a < b
  · go_enter Try.func24, Try.ntmps24
    go_wp2 <;> go_ret <;> exact ⟨retb (by simp [kl, h1]), hb _ _⟩
  · by_cases h2 : a = b
    · subst h2
      by_cases h3 : i < n
      · (go_enter Try.func24, Try.ntmps24
         go_wp2 <;> go_ret <;> exact ⟨retb (by simp [kl, h3]), hb _ _⟩)
      · (go_enter Try.func24, Try.ntmps24
         go_wp2 <;> go_ret <;> exact ⟨retb (by simp [kl, h3]), hb _ _⟩)
    · go_enter Try.func24, Try.ntmps24
      go_wp2 <;> go_ret <;> exact ⟨retb (by simp [kl, h1, h2]), hb _ _⟩

/-- from this place on these keys lie, two cells each -/
def Ks (w : World) (b off : Nat) (ks : List (Int × Int)) : Prop :=
  ∀ j k, ks[j]? = some k → w.cell? ⟨b, off + j * 2, none⟩ = some (.int .i64 k.1) ∧ w.cell? ⟨b, off + j * 2 + 1, none⟩ = some (.int .u32 k.2)
/-- a slice's first place, and the keys that it has -/
def KS (w : World) (p : Option Addr) (ks : List (Int × Int)) : Prop :=
  ks = [] ∨ ∃ b off, p = some ⟨b, off, none⟩ ∧ Ks w b off ks ∧ b < w.heap.size
theorem Ks.keep {w w' : World} {b off : Nat} {ks : List (Int × Int)} {N : Nat} (h : Ks w b off ks) (hb : Below N w w') (hN : b < N) : Ks w' b off ks :=
  fun j k e => ⟨(hb.cell (p := ⟨b, _, none⟩) hN).trans (h j k e).1, (hb.cell (p := ⟨b, _, none⟩) hN).trans (h j k e).2⟩
theorem KS.keep {w w' : World} {p : Option Addr} {ks : List (Int × Int)} (h : KS w p ks) (hb : Below w.heap.size w w') : KS w' p ks := by
  rcases h with h | ⟨b, off, rfl, h, hlt⟩
  · exact .inl h
  · exact .inr ⟨b, off, rfl, h.keep hb hlt, Nat.lt_of_lt_of_le hlt hb.size⟩
end Go.Proofs.Ytomchimjogdkkaa
