/-
  What is asked of a tree of spans, for the program's. No condition but those typed at each theorem.
-/
import Derived.Test.YtgcimicbbadapaaSb
import Derived.Test.YtgcimicbbadapaaSd
import Derived.Test.YtgcimicbbadapaaSif
import Derived.Test.YtgcimicbbadapaaSo
namespace Go.Proofs.Ytgcimicbbadapaa
open Go.RowKit

theorem wtD_drp {E : List Int} (s : S3) (A : List S3) (h : A.Nodup) : wtD E A = wtD E (drp A s) + (if s ∈ A then (cs E s).length else 0) := by
  induction A using snoc_rec with
  | h0 => simp [wtD, drp]
  | h1 l a ih =>
    have h1 := List.nodup_append.1 h
    have h2 : a ∉ l := fun ha => h1.2.2 a ha a (by simp) rfl
    have ih' := ih h1.1
    rw [drp_snoc, wtD_snoc]
    by_cases e : a = s
    · subst e
      rw [if_neg h2] at ih'
      simp
      omega
    · rw [if_neg e, wtD_snoc]
      by_cases hs : s ∈ l
      · rw [if_pos hs] at ih'
        rw [if_pos (by simp [hs])]
        omega
      · rw [if_neg hs] at ih'
        rw [if_neg (by simp [hs, Ne.symm e])]
        omega
/-- v is a tree that was built of n spans, those of A are there, the blocks S are its own; or no tree -/
def TSg (X : World) (v : Value) (n : Nat) (S : List Nat) (A : List S3) : Prop :=
  n ≤ 400 ∧ ((v = .pointer none ∧ A = [] ∧ S = []) ∨
  ∃ g ev eb gf gn gm E NV NM D, v = .pointer (some ⟨g, 0, none⟩) ∧ S = bks g eb gf gn gm NV D ∧ SegM X g ev eb gf gn gm E NV NM D (wtD E A : Nat) ∧ SgI E NM D ∧ D.map (·.1) = A ∧ E.length ≤ 2 * n ∧ A.length ≤ n ∧ ∀ s ∈ A, Wf3 s)
theorem segC : SegC TSg where
  keep := by
    rintro X X' v n S A T ⟨hn, h⟩ o hT
    refine ⟨hn, ?_⟩
    rcases h with h | ⟨g, ev, eb, gf, gn, gm, E, NV, NM, D, hv, rfl, hM, h⟩
    · exact .inl h
    · exact .inr ⟨g, ev, eb, gf, gn, gm, E, NV, NM, D, hv, rfl, hM.off o hT, h⟩
  lies := by
    rintro X v n S A ⟨hn, h⟩
    rcases h with ⟨-, -, rfl⟩ | ⟨g, ev, eb, gf, gn, gm, E, NV, NM, D, hv, rfl, hM, h⟩
    · simp
    · exact hM.lies
  build := by
    intro w p c L hx hl hc hw
    refine (build_any w p c L hx hl hw).mono ?_
    rintro e w' ⟨hb, h⟩
    refine ⟨hb, ?_⟩
    rcases h with ⟨hr, g, E, rfl, ⟨ev, eb, gf, gn, gm, NV, NM, D, hM, hI, hD, hS⟩, hE⟩ | ⟨hr, rfl⟩
    · exact .inl ⟨hr, _, _, rfl, ⟨hl, .inr ⟨g, ev, eb, gf, gn, gm, E, NV, NM, D, rfl, rfl, hM, hI, hD, hE, Nat.le_refl _, hw⟩⟩, hS⟩
    · exact .inr ⟨hr, _, [], rfl, ⟨by omega, .inl ⟨rfl, rfl, rfl⟩⟩, by simp⟩
  len := by
    rintro X v n S A ⟨hn, h⟩
    rcases h with ⟨rfl, rfl, -⟩ | ⟨g, ev, eb, gf, gn, gm, E, NV, NM, D, rfl, -, hM, hI, rfl, hE, hA, hw⟩
    · refine (sLen_no X).mono ?_
      rintro e w' ⟨rfl, rfl⟩
      exact ⟨rfl, Below.refl _ _⟩
    · refine (sLen_yes hM).mono ?_
      rintro e w' ⟨rfl, rfl⟩
      exact ⟨by simp, Below.refl _ _⟩
  weight := by
    rintro X v n S A ⟨hn, h⟩
    rcases h with ⟨rfl, rfl, -⟩ | ⟨g, ev, eb, gf, gn, gm, E, NV, NM, D, rfl, -, hM, hI, rfl, hE, hA, hw⟩
    · refine (sWeight_no X).mono ?_
      rintro e w' ⟨rfl, rfl⟩
      exact ⟨⟨0, rfl, by simp, by simp⟩, Below.refl _ _⟩
    · refine (sWeight_yes hM).mono ?_
      rintro e w' ⟨rfl, rfl⟩
      have := wtD_few hI.up hE hn (D.map (·.1)) hI.all
      exact ⟨⟨_, rfl, this.1, this.2⟩, Below.refl _ _⟩
  stab := by
    rintro X v n S A x ⟨hn, h⟩ hx
    rcases h with ⟨rfl, rfl, -⟩ | ⟨g, ev, eb, gf, gn, gm, E, NV, NM, D, rfl, -, hM, hI, rfl, hE, hA, hw⟩
    · refine (sStab_no X x).mono ?_
      rintro e w' ⟨rfl, rfl⟩
      exact ⟨⟨_, 0, rfl, ⟨rfl, .inl ⟨rfl, rfl⟩⟩, Nat.zero_le _, Nat.zero_le _⟩, Below.refl _ _⟩
    · obtain ⟨k1, k2⟩ := hI.stabN x
      have k3 := stb_len (D.map (·.1)) x
      have k4 := px_few hI.up x hE hn
      refine (sStab_yes hM hI.up (by omega) hI.len x (by omega)).mono ?_
      rintro e w' ⟨⟨r, rfl, ht⟩, hb⟩
      rw [k1, k2] at ht
      exact ⟨⟨r, _, rfl, ht, by omega, by omega⟩, hb⟩
  count := by
    rintro X v n S A x ⟨hn, h⟩ hx
    rcases h with ⟨rfl, rfl, -⟩ | ⟨g, ev, eb, gf, gn, gm, E, NV, NM, D, rfl, -, hM, hI, rfl, hE, hA, hw⟩
    · refine (sCount_no X x).mono ?_
      rintro e w' ⟨rfl, rfl⟩
      exact ⟨⟨0, rfl, Nat.zero_le _⟩, Below.refl _ _⟩
    · obtain ⟨k1, k2⟩ := hI.stabN x
      have k3 := stb_len (D.map (·.1)) x
      have k4 := px_few hI.up x hE hn
      refine (sCount_yes hM hI.up (by omega) hI.len x (by omega)).mono ?_
      rintro e w' ⟨rfl, hb⟩
      rw [k2]
      exact ⟨⟨_, rfl, k4⟩, hb⟩
  drop := by
    rintro X v n S A s ⟨hn, h⟩ hs
    rcases h with ⟨rfl, rfl, rfl⟩ | ⟨g, ev, eb, gf, gn, gm, E, NV, NM, D, rfl, rfl, hM, hI, rfl, hE, hA, hw⟩
    · refine (sDrop_no X s).mono ?_
      rintro e w' ⟨rfl, hb⟩
      exact ⟨by simp, [], ⟨hn, .inl ⟨rfl, rfl, rfl⟩⟩, Off.of hb (Nat.le_refl _), by simp⟩
    · have hall := hI.all
      have hwt := wtD_le hI.up (by omega) _ hall (by omega)
      refine (sDrop_yes hM hI (fun d hd => (hw d.1 (List.mem_map.2 ⟨d, hd, rfl⟩)).2.2) (fun d hd => ?_) (by omega) s hs).mono ?_
      · obtain ⟨h1, h2, h3⟩ := hall d.1 (List.mem_map.2 ⟨d, hd, rfl⟩)
        have := (cs_few hI.up h1 h2 h3 hE hn).2
        have k : lgN (4 * n + 4) ≤ lgN (4 * 400 + 4) := bl_mono (by omega) (by omega)
        rw [show lgN (4 * 400 + 4) = 11 by decide] at k
        rw [← hI.st d hd, List.length_map] at this
        omega
      · rintro e w' ⟨rfl, NV', NM', D', wt', hM', hI', hD', hwt', hO, hN⟩
        have h1 := wtD_drp (E := E) s (D.map (·.1)) hI.rg.once
        have h2 : wt' = (wtD E (drp (D.map (·.1)) s) : Nat) := by rw [hwt', h1]; omega
        refine ⟨rfl, _, ⟨hn, .inr ⟨g, ev, eb, gf, gn, gm, E, NV', NM', D', rfl, rfl, h2 ▸ hM', hI', hD', hE, ?_, ?_⟩⟩, hO, hN⟩
        · exact Nat.le_trans (drp_len _ _) hA
        · exact fun q hq => hw q (mem_drp.1 hq).1
  few := by
    rintro X v n S A ⟨hn, h⟩
    rcases h with ⟨rfl, rfl, -⟩ | ⟨g, ev, eb, gf, gn, gm, E, NV, NM, D, rfl, -, hM, hI, rfl, hE, hA, hw⟩
    · exact ⟨Nat.zero_le _, hn, Rg.nil⟩
    · exact ⟨hA, hn, hI.rg⟩
end Go.Proofs.Ytgcimicbbadapaa
