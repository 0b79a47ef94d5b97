/-
  A point is dropped. No condition but those typed at each theorem.
-/
import Derived.Test.YtldmajifkmcdcaaGreatMBb
import Derived.Test.YtldmajifkmcdcaaGreatMQ
namespace Go.Proofs.YtldmajifkmcdcaaGreat.Bd
open Go.RowKit Go.Sort
theorem wpOp_callW {P : Program} {ops : Array Oper} {Q : Exit → Act → World → Prop} {K : Act → World → Prop} {n : Nat} {o : Oper} {a : Act} {w : World} {f : FuncId} {args : Array Value} (ho : ops[n]? = some o) (hg : Region.wanted o (yielded ops a.tmps) = true)
    (hr : (execOp a.eval o).run P w = .ok (.enter f args) w) (h : Calls P f args w fun e w' => ∃ v, e = .returned v ∧ K (a.put o.dst v) w') : wpOp P ops Q n K a w := by
  unfold wpOp
  rw [ho]
  simp only []
  rw [if_pos hg]
  left
  unfold Oper.wp
  rw [hr, Oper.upon_enter]
  exact h.mono fun e w' hh => by obtain ⟨v, rfl, hk⟩ := hh; exact hk
section
variable {w w' : World}  {RX LY A : List S3}
theorem drp_one {A : List S3} (hA : A.Nodup) {s : S3} (hs : s ∈ A) : (drp A s).length + 1 = A.length := by
  induction A with
  | nil => cases hs
  | cons a A ih =>
    rw [List.nodup_cons] at hA
    by_cases e : a = s
    · subst e
      have : drp (a :: A) a = A := by
        have h1 := drp_not hA.1
        unfold drp at h1 ⊢
        rw [List.filter_cons, h1]
        simp
      rw [this, List.length_cons]
    · have hm : s ∈ A := by
        rcases List.mem_cons.1 hs with h | h
        · exact absurd h.symm e
        · exact h
      have h1 := ih hA.2 hm
      have h2 : drp (a :: A) s = a :: drp A s := by
        unfold drp
        rw [List.filter_cons]
        simp [e]
      rw [h2, List.length_cons, List.length_cons]
      omega
end
end Go.Proofs.YtldmajifkmcdcaaGreat.Bd
