/-
  Names told: in a block of their own, put in order. No condition but those typed at each theorem.
-/
import Derived.Test.YtldmajifkmcdcaaGreatP3
import Derived.Test.YtldmajifkmcdcaaGreatMU
namespace Go.Proofs.YtldmajifkmcdcaaGreat
open Go.RowKit Go.Sort
/-- what Stab told: none, or a block that begins with these names -/
structure TLb (w : World) (g cap : Nat) (xs : List Int) : Prop where
  roomF : xs.length ≤ cap ∧ cap ≤ maxLen
  cell : ∀ {i : Nat} {x : Int}, xs[i]? = some x → w.cell? ⟨g, i, none⟩ = some (.int .u32 x)
def TL (w : World) (v : Value) (n : Nat) (xs : List Int) : Prop := xs.length = n ∧ ((v = .slice none 0 0 ∧ n = 0) ∨ ∃ g cap, v = .slice (some ⟨g, 0, none⟩) n cap ∧ TLb w g cap xs)
theorem TL.u {w : World} {v : Value} {n : Nat} {xs : List Int} (h : TL w v n xs) : xs.length = n ∧ ∃ p c, v = .slice p n c ∧ NS w p .u32 xs ∧ (p = none → c = 0) ∧ n ≤ c := by
  obtain ⟨h1, h2⟩ := h
  refine ⟨h1, ?_⟩
  rcases h2 with ⟨rfl, h2⟩ | ⟨g, cap, rfl, hb⟩
  · subst h2
    exact ⟨none, 0, rfl, .inl (List.length_eq_zero_iff.1 h1), fun _ => rfl, Nat.le_refl _⟩
  · exact ⟨some ⟨g, 0, none⟩, cap, rfl, .inr ⟨g, 0, rfl, fun j x e => by rw [Nat.zero_add]; exact hb.cell e⟩, (fun h => by cases h), by have := hb.roomF.1; omega⟩
/-! ### slices.Sort of no names -/
set_option maxRecDepth 100000 in
theorem U32.ins_nil (w : World) : Calls Tryz.prog 99 #[.slice none 0 0, .int .i64 0, .int .i64 0] w fun e w' => e = .returned (.tuple #[]) ∧ w' = w := by
  go_enter Tryz.func99, Tryz.ntmps99
  go_wp2
  go_loopw [6] (fun vi wr => vi = .int .i64 1 ∧ wr = w) (fun _ _ => 0)
  case atStart => exact ⟨rfl, rfl⟩
  case round =>
    obtain ⟨rfl, rfl⟩ := hrel
    go_wp2
    go_end0
    exact ⟨rfl, rfl⟩
set_option maxRecDepth 100000 in
theorem U32.pdq_nil (lim : Int) (w : World) : Calls Tryz.prog 74 #[.slice none 0 0, .int .i64 0, .int .i64 0, .int .i64 lim] w fun e w' => e = .returned (.tuple #[]) ∧ w' = w := by
  go_enter Tryz.func74, Tryz.ntmps74
  go_wp2
  go_loopw [1, 2, 3] (fun s1 s2 s3 wr => s1 = .int .i64 0 ∧ s2 = .int .i64 0 ∧ s3 = .int .i64 lim ∧ wr = w) (fun _ _ _ _ => 0)
  case atStart => exact ⟨rfl, rfl, rfl, rfl⟩
  case round =>
    obtain ⟨rfl, rfl, rfl, rfl⟩ := hrel
    go_wp2_with (go_at_call 99; (with_reducible refine (U32.ins_nil _).mono ?_); rintro e w1 ⟨rfl, rfl⟩)
    refine bodyPost_ret (results_none rfl _ _ _) rfl ?_
    exact ⟨rfl, rfl⟩
set_option maxRecDepth 100000 in
theorem U32.sort_nil (w : World) : Calls Tryz.prog 45 #[.slice none 0 0] w fun e w' => e = .returned (.tuple #[]) ∧ w' = w := by
  have HL' := Lib.hid (fun X => Tryz.bits_Len 0 X (by omega) (by omega))
  go_enter Tryz.func45, Tryz.ntmps45
  go_wp2_with (first
    | (go_at_call 32; (with_reducible refine (HL'.out _).mono ?_); rintro e w1 ⟨rfl, rfl⟩)
    | (go_at_call 74; (with_reducible refine (U32.pdq_nil _ _).mono ?_); rintro e w1 ⟨rfl, rfl⟩))
  go_end0
  exact ⟨rfl, rfl⟩
theorem sort_nsort (l : List Int) : (Sort.sort ltInt l.toArray).toList = nsort l := by
  rw [sortInt]
  refine sorted_unique ((List.mergeSort_perm _ _).trans (nsort_perm l).symm) ?_ (nsort_sorted l)
  have := List.pairwise_mergeSort (le := fun x y : Int => decide (x ≤ y)) (fun a b c h1 h2 => by simp at *; omega) (fun a b => by simp; omega) l
  exact this.imp (fun h => by simpa using h)
/-- names of one's own, told -/
theorem told_any (w : World) (base : Nat) (v : Value) (xs : List Int) (hr : w.ownsRow base 32 1 v xs.length (xs.map (Value.int .u32))) (hl : xs.length ≤ 8192) :
    Calls Tryz.prog 45 #[v] w fun e w' => e = .returned (.tuple #[]) ∧ TL w' v xs.length (nsort xs) ∧ Off v.ownBlock.toList w w' := by
  have hr0 := hr
  obtain ⟨h1, h2⟩ := hr
  rcases h2 with ⟨rfl, h2⟩ | ⟨g, cap, cur, rfl, hb, hg, hnc, hcm, hcs, htk⟩
  · have hx : xs = [] := List.length_eq_zero_iff.1 h2
    subst hx
    refine (U32.sort_nil w).mono ?_
    rintro e w' ⟨rfl, rfl⟩
    exact ⟨rfl, ⟨rfl, .inl ⟨rfl, rfl⟩⟩, Off.refl _ _⟩
  · have hH : Holds U32.encU w g 0 xs.toArray := fun j hj => by
      simp at hj
      have hx : xs[j]? = some xs[j] := List.getElem?_eq_getElem hj
      have := row_cells hr0 (j := j) (u := .int .u32 xs[j]) (by rw [List.getElem?_map, hx]; rfl)
      rw [Nat.zero_add]
      simpa [getElem!_pos, hj] using this
    have hs := U32.sorts_any xs.length hl w g 0 cap xs.toArray (by simp) hH
    simp only [List.size_toArray] at hs
    refine hs.mono ?_
    rintro e w' ⟨rfl, h3, h4⟩
    refine ⟨rfl, ⟨nsort_len xs, .inr ⟨g, cap, rfl, ⟨by rw [nsort_len]; exact ⟨hnc, hcm⟩, fun {i x} e => ?_⟩⟩⟩, h4⟩
    have e2 := sort_nsort xs
    have hi := (List.getElem?_eq_some_iff.1 e).1
    rw [← e2] at e hi
    simp at hi
    have := (h3 i hi).1
    rw [Nat.zero_add] at this
    rw [this]
    simp at e
    obtain ⟨hi', e⟩ := List.getElem?_eq_some_iff.1 (show (Sort.sort ltInt xs.toArray).toList[i]? = some x by simpa using e)
    simp only [getElem!_pos, hi, U32.encU]
    rw [← e]
    simp
end Go.Proofs.YtldmajifkmcdcaaGreat
