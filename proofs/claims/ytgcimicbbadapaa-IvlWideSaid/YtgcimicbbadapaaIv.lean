/-
  Where a tree's things lie: none in another's block. No condition but those typed at each theorem.
-/
import Derived.Test.YtgcimicbbadapaaIh
namespace Go.Proofs.Ytgcimicbbadapaa.Iv
open Go.RowKit

def IvP.var (P : IvP) : List Nat := [P.br, P.bo, P.fr, P.fo, P.wr, P.wo]
/-- nothing lies in another's block -/
structure IvNe (P : IvP) (E : List Int) : Prop where
  nd : P.var.Nodup
  g : P.g ∉ P.var
  sb : P.sb ∉ P.var ∧ P.sb ≠ P.g
  qe : E ≠ [] → ∀ x off, P.qe = some ⟨x, off, none⟩ → x ∉ P.var ∧ x ≠ P.g
  pr : ∀ x off, P.pr = some ⟨x, off, none⟩ → x ∉ P.var ∧ x ≠ P.g
  pf : ∀ x off, P.pf = some ⟨x, off, none⟩ → x ∉ P.var ∧ x ≠ P.g
  pw : ∀ x off, P.pw = some ⟨x, off, none⟩ → x ∉ P.var ∧ x ≠ P.g
  pl : ∀ x off, P.pl = some ⟨x, off, none⟩ → x ∉ P.var ∧ x ≠ P.g
theorem sub_len {A row : List S3} (hA : A.Nodup) (hs : ∀ s ∈ A, s ∈ row) : A.length ≤ row.length := by
  induction A generalizing row with
  | nil => simp
  | cons a A ih =>
    rw [List.nodup_cons] at hA
    have ha := hs a (List.mem_cons_self ..)
    have := ih (row := row.erase a) hA.2 (fun s h => (List.mem_erase_of_ne (by rintro rfl; exact hA.1 h)).2 (hs s (List.mem_cons_of_mem _ h)))
    rw [List.length_erase_of_mem ha] at this
    have h0 : 0 < row.length := List.length_pos_of_mem ha
    rw [List.length_cons]; omega
theorem egLo : ∀ args w, (callFunc 61 args).run Try.prog w = .ok (.enter 61 args) w := enters_of Try.func61 (by kernel_rfl) rfl
theorem egHi : ∀ args w, (callFunc 62 args).run Try.prog w = .ok (.enter 62 args) w := enters_of Try.func62 (by kernel_rfl) rfl
end Go.Proofs.Ytgcimicbbadapaa.Iv
