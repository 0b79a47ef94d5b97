/-
  A region that draws its order, that only reads but for its last operations, and that stands in a round of a loop over a function: walked once, in the text's order. No condition but those typed at each theorem.
-/
import Derived.Test.YtmkmkndcndpfeaaRight
namespace Go.Proofs.Ytmkmkndcndpfeaa
open Go.RowKit

/-- an operation that yields a value, or nothing, or does not end well: no call, no round, nothing put off -/
def Flat (r : Result Next) : Prop := ∀ x w', r = .ok x w' → (∃ v, x = .value v) ∨ x = .skip
structure PlainOp (P : Program) (o : Oper) : Prop where
  about : ∀ w ρ, o.about P w ρ = none
  nodefer : ∀ c, o.op ≠ .defer c
  flat : ∀ ρ w, Flat ((execOp ρ o).run P w)
theorem flat_v {P : Program} (r : Result Value) : Flat (r.andThen fun a w' => (Sem.run P (pure (Next.value a)) w')) := by
  intro x w' h
  cases r with
  | ok v w1 =>
    simp [Result.andThen] at h
    exact .inl ⟨v, h.1.symm⟩
  | halt e w1 => simp [Result.andThen] at h
theorem flat_u {P : Program} (r : Result Unit) : Flat (r.andThen fun _ w' => (Sem.run P (pure Next.skip) w')) := by
  intro x w' h
  cases r with
  | ok v w1 =>
    simp [Result.andThen] at h
    exact .inr h.1.symm
  | halt e w1 => simp [Result.andThen] at h
section
variable {P : Program} {o : Oper}
theorem plain_move {x : Operand} (h : o.op = .move x) : PlainOp P o :=
  ⟨fun w ρ => by simp [Oper.about, h], fun c => (by rw [h]; intro e; cases e), fun ρ w => by
    intro y w' e
    simp [execOp, h] at e
    exact .inl ⟨_, e.1.symm⟩⟩
theorem plain_load {t : TypeId} {x : Operand} (h : o.op = .load t x) : PlainOp P o :=
  ⟨fun w ρ => by simp [Oper.about, h], fun c => (by rw [h]; intro e; cases e), fun ρ w => by
    simp only [execOp, h, Sem.run_bind]
    exact flat_v _⟩
theorem plain_store {t : TypeId} {x y : Operand} (h : o.op = .store t x y) : PlainOp P o :=
  ⟨fun w ρ => by simp [Oper.about, h], fun c => (by rw [h]; intro e; cases e), fun ρ w => by
    simp only [execOp, h, Sem.run_bind]
    exact flat_u _⟩
theorem plain_indexAddr {t : TypeId} {x y : Operand} (h : o.op = .indexAddr t x y) : PlainOp P o :=
  ⟨fun w ρ => by simp [Oper.about, h], fun c => (by rw [h]; intro e; cases e), fun ρ w => by
    simp only [execOp, h, Sem.run_bind]
    exact flat_v _⟩
theorem plain_binOp {b : BinOp} {t u : TypeId} {x y : Operand} (h : o.op = .binOp b t x y u) : PlainOp P o :=
  ⟨fun w ρ => by simp [Oper.about, h], fun c => (by rw [h]; intro e; cases e), fun ρ w => by
    intro y w' e
    simp only [execOp, h] at e
    rw [Sem.run_bind] at e
    exact flat_v _ y w' e⟩
theorem plain_max {args : Array Operand} {ts : Array TypeId} (h : o.op = .call { callee := .builtin .max, args := args, argTypes := ts }) : PlainOp P o :=
  ⟨fun w ρ => by simp [Oper.about, h, resolve, Target.leads], fun c => (by rw [h]; intro e; cases e), fun ρ w => by
    simp only [execOp, h, resolve, invoke, builtin, Sem.run_bind, Sem.run_pure, Result.andThen_ok]
    exact flat_v (P := P) _⟩
end
section
variable {F : Fence} {n : Nat} {P : Program} {ops : Array Oper} {Q : Exit → Act → World → Prop} {md : Region.Mode}
theorem wp_in {o : Oper} {a : Act} {w : World} {K : Act → World → Prop} (h : PlainOp P o) (hh : o.wp P a w K Q) : o.wpIn F n P a w K Q := by
  unfold Oper.wpIn
  unfold Oper.wp at hh
  refine ⟨fun f hf => (by rw [h.about] at hf; cases hf), ?_⟩
  rw [Oper.semAt_plain F _ _ h.nodefer]
  have hf := h.flat a.eval w
  generalize (execOp a.eval o).run P w = r at *
  cases r with
  | ok x w' => rcases hf x w' rfl with ⟨v, rfl⟩ | rfl <;> exact hh
  | halt x w' => cases x <;> (simp only [Oper.upon, Oper.uponIn] at hh ⊢) <;> exact hh
theorem wpOp_in {i : Nat} {a : Act} {w : World} {K : Act → World → Prop} (h : ∀ o, ops[i]? = some o → PlainOp P o) (hout : ¬ LetsOut Q) (hh : wpOp P ops Q i K a w) : wpOpIn F n P ops Q i K a w := by
  unfold wpOp at hh
  unfold wpOpIn
  cases ho : ops[i]? with
  | none => simpa [ho] using hh
  | some o =>
    simp only [ho] at hh ⊢
    split
    · rename_i hw
      simp only [hw, if_true] at hh
      rcases hh with hh | ⟨_, hh⟩
      · exact wp_in (h o ho) hh
      · exact absurd hh hout
    · rename_i hw
      simp only [hw] at hh
      exact ⟨fun f hf => (by rw [(h o ho).about] at hf; cases hf), hh⟩
theorem wpAny_in (h : ∀ (i : Nat) o, ops[i]? = some o → PlainOp P o) (hout : ¬ LetsOut Q) : ∀ (fuel : Nat) (listed : Array Bool) (a : Act) (w : World), wpAny P md ops Q fuel listed a w → wpAnyIn F n P md ops Q fuel listed a w
  | 0, _, _, _, hh => hh
  | fuel + 1, _, _, _, hh => ⟨hh.1, fun i hi => wpOpIn_mono (fun a' w' => wpAny_in h hout fuel _ a' w') (wpOp_in (h i) hout (hh.2 i hi))⟩
theorem wpAny_still_tail {a : Act} {w : World} {l : List Oper} (k : Nat) (hB : Region.lexTailB .any l.toArray k = true)
    (h : wpStill P l.toArray w (fun a' => wpList P l.toArray Q (l.drop k) a' w) (l.take k) a) : wpAny P .any l.toArray Q l.toArray.size (Array.replicate l.toArray.size false) a w := by
  simp only [Region.lexTailB, Bool.and_eq_true, decide_eq_true_eq] at hB
  obtain ⟨⟨⟨⟨hsel, hk⟩, hs⟩, hc⟩, hlex⟩ := hB
  have hk' : k < l.length := by simpa using hk
  have htl : (l.take k).length = k := by simp; omega
  have hdl : (l.drop k).length = l.toArray.size - k := by simp
  have inv0 : HeadInv .any l.toArray k (Array.replicate l.toArray.size false) :=
    ⟨by simp, fun j oj _ hl => (by rw [getD_replicate_false] at hl; cases hl), fun t _ ht => getD_in (by simpa using ht) (getD_replicate_false _ _)⟩
  have H := wpAnyL_lex (md := .any) (g := l.toArray.size - k) hsel hs hc hk (l.take k) 0 _ a (fun j hj => by
    have hj' : j < k := by rw [htl] at hj; exact hj
    simp [hj']) (by simpa using htl) inv0 (by rw [htl]; exact hlex) h
  have := wpAny_of_head (Q' := Q) (g := l.toArray.size - k) (fun listed a' hL => by
    have := wpAny_of_seq (md := .any) (Q' := Q) (l.drop k) k listed a' w (fun j => by simp [List.getElem?_drop]) (by rw [hdl]; exact hL.1) hL.2
    rwa [hdl] at this) _ _ _ H
  rw [htl, show k + (l.toArray.size - k) = l.toArray.size by omega] at this
  exact this
/-- such a region, in whatever fence -/
theorem wpIn_region_tail {id : Nat} {a : Act} {w : World} {l : List Oper} (k : Nat) (hm : P.follows .mixedOrders = true) (hB : Region.lexTailB .any l.toArray k = true) (hp : ∀ o ∈ l, PlainOp P o) (hout : ¬ LetsOut Q)
    (h : wpStill P l.toArray w.drew (fun a' => wpList P l.toArray Q (l.drop k) a' w.drew) (l.take k) a) : (Code.region id l.toArray true).wpIn F n P Q a w :=
  wpIn_region_any hm (wpAny_in (fun i o e => hp o (by simpa using Array.mem_of_getElem? e)) hout _ _ _ _ (wpAny_still_tail k hB h))
end
end Go.Proofs.Ytmkmkndcndpfeaa
