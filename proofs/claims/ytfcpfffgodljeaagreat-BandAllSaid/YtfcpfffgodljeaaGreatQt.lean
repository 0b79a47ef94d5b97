/-
  A region that draws its order: first operations that leave a class of worlds, calls among them, then a row of operations whose order is forced: one walk serves every order. No condition but those typed at each theorem.
-/
import Derived.StillTail
import Derived.Deep.Quiet
import Derived.Test.YtfcpfffgodljeaaGreatMGen
namespace Go.Proofs.YtfcpfffgodljeaaGreat

section
variable {P : Program} {ops : Array Oper} {md : Region.Mode} {C : World → Prop}

/-- so many of the first n come up, in any order; then L -/
def anyQ (P : Program) (md : Region.Mode) (ops : Array Oper) (C : World → Prop) (n : Nat) (L : Array Bool → Act → Prop) : Nat → Array Bool → Act → Prop
  | 0, done, a => L done a
  | k + 1, done, a => Region.ready md ops done ≠ [] ∧ ∀ i ∈ Region.ready md ops done, i < n ∧ qOp P ops C i (anyQ P md ops C n L k (done.setIfInBounds i true)) a

theorem anyQ_any {n g : Nat} {L : Array Bool → Act → Prop} {Q : Exit → Act → World → Prop} (hL : ∀ done a w, C w → L done a → wpAny P md ops Q g done a w) :
    ∀ k done a w, C w → anyQ P md ops C n L k done a → wpAny P md ops Q (k + g) done a w := by
  intro k
  induction k with
  | zero =>
    intro done a w hw h
    simpa using hL done a w hw h
  | succ k ih =>
    intro done a w hw h
    rw [show k + 1 + g = (k + g) + 1 by omega]
    exact ⟨fun h0 => absurd h0 h.1, fun i hi => wpOp_of_qOp hw (fun a' w' hw' h' => ih _ a' w' hw' h') (h.2 i hi).2⟩

theorem anyQ_take {n i : Nat} {o : Oper} {v : Value} {L : Array Bool → Act → Prop} (ho : ops[i]? = some o) (hsel : ∀ (j : Nat) (o : Oper) cs b, ops[j]? = some o → o.op ≠ .select cs b)
    (hs : Region.sinkB md ops n = true) (hc : Region.chainB md ops n = true) (hn : n < ops.size) (hin : i < n) (hend : ∀ done a, L done a → ∀ j ∈ Region.ready md ops done, n ≤ j) :
    ∀ k done a, HeadInv md ops n done → (∀ j oj, ops[j]? = some oj → j ≠ i → done.getD j true = false → (∀ e ∈ oj.after, Region.binds md e = true → e.on ≠ i) → o.apart ops oj = true) →
      i ∈ Region.ready md ops done → YieldsIn P ops C o v a → anyQ P md ops C n L k (done.setIfInBounds i true) (a.put o.dst v) → anyQ P md ops C n L (k + 1) done a := by
  intro k
  induction k with
  | zero =>
    intro done a inv _ hr hy hL
    refine ⟨List.ne_nil_of_mem hr, fun j hj => ?_⟩
    have hjn : j < n := Nat.lt_of_not_le fun h => tail_waits hs hc hn inv _ i rfl hin (mem_ready.1 hr).1 j h hj
    by_cases e : j = i
    · subst e
      exact ⟨hjn, hy.qOp ho hL⟩
    · exact absurd hjn (Nat.not_lt.2 (hend _ _ hL j (ready_mono hj e)))
  | succ k ih =>
    intro done a inv hfree hr hy hL
    refine ⟨List.ne_nil_of_mem hr, fun j hj => ?_⟩
    have hjn : j < n := Nat.lt_of_not_le fun h => tail_waits hs hc hn inv _ i rfl hin (mem_ready.1 hr).1 j h hj
    by_cases e : j = i
    · subst e
      exact ⟨hjn, hy.qOp ho hL⟩
    · obtain ⟨hun, oj, hoj, hall⟩ := mem_ready.1 hj
      have hfar : ∀ e ∈ oj.after, Region.binds md e = true → e.on ≠ i := fun e' he hb heq => by
        have h1 := hall e' he hb
        rw [heq, getD_both (mem_ready.1 hr).1] at h1
        cases h1
      refine ⟨hjn, qOp_mono (fun a' h' => ih _ a' (inv.set hj hjn) (fun q oq hq hqi hqd hno => hfree q oq hq hqi ?_ hno) (ready_mono hr (Ne.symm e)) h'.1 ?_)
        (qOp_put hoj (hfree j oj hoj e hun hfar) (fun cs b => hsel i o cs b ho) (fun cs b => hsel j oj cs b hoj) hy (hL.2 j (ready_mono hj e)).2)⟩
      · by_cases hjq : j = q
        · rw [← hjq]; exact hun
        · rwa [getD_set_ne true hjq] at hqd
      · rw [Array.setIfInBounds_comm _ _ e]
        exact h'.2

theorem anyQ_lex {n g : Nat} {Lq : Act → Prop} (hsel : Region.noSelect ops = true) (hs : Region.sinkB md ops n = true) (hc : Region.chainB md ops n = true) (hn : n < ops.size) :
    ∀ (l : List Oper) (k : Nat) (done : Array Bool) (a : Act), (∀ j, j < l.length → l[j]? = ops[k + j]?) → k + l.length = n → HeadInv md ops n done → Region.lexHead md ops g l.length k done = true →
      wpQuiet P ops C Lq l a → anyQ P md ops C n (fun done' a' => Region.seqB md ops g n done' = true ∧ Lq a') l.length done a := by
  intro l
  induction l with
  | nil =>
    intro k done a _ hk _ hB h
    obtain rfl : k = n := by simpa using hk
    exact ⟨hB, h⟩
  | cons o l ih =>
    intro k done a hl hk inv hB h
    have ho : ops[k]? = some o := (hl 0 (by simp)).symm
    simp only [List.length_cons, Region.lexHead, Bool.and_eq_true] at hB
    have hkn : k < n := by simp only [List.length_cons] at hk; omega
    have hr : k ∈ Region.ready md ops done := by simpa using hB.1.1
    have hq : qOp P ops C k (wpQuiet P ops C Lq l) a := by unfold qOp; rw [ho]; exact h
    obtain ⟨v, hy, hK⟩ := yieldsIn_of_qOp ho hq
    refine anyQ_take ho (Region.noSelect_spec hsel) hs hc hn hkn (fun _ _ hL => seqB_ready hL.1) l.length done a inv (Region.free_spec ho hB.1.2) hr hy (ih (k + 1) _ _ (fun j hj => ?_) ?_ (inv.set hr hkn) hB.2 hK)
    · have := hl (j + 1) (by simp; omega)
      rw [show k + 1 + j = k + (j + 1) by omega]
      simpa using this
    · simp only [List.length_cons] at hk
      omega
end

/-- the first n operations leave the class, the others come in their order -/
theorem wp_region_qt {P : Program} {id : Nat} {Q : Exit → Act → World → Prop} {a : Act} {w : World} {l : List Oper} (p : World → Prop) (n : Nat) (hm : P.follows .mixedOrders = true) (hB : Region.lexTailB .any l.toArray n = true) (hw : p w.drew)
    (h : wpQuiet P l.toArray (fun w' => ∃ s : Wd p, w' = s.w) (fun a' => ∀ w', (∃ s : Wd p, w' = s.w) → wpList P l.toArray Q (l.drop n) a' w') (l.take n) a) : (Code.region id l.toArray true).wp P Q a w := by
  simp only [Region.lexTailB, Bool.and_eq_true, decide_eq_true_eq] at hB
  obtain ⟨⟨⟨⟨hsel, hn⟩, hs⟩, hc⟩, hlex⟩ := hB
  have hnl : n < l.length := by simpa using hn
  have htake : (l.take n).length = n := by simp; omega
  have inv : HeadInv .any l.toArray n (Array.replicate l.toArray.size false) :=
    ⟨by simp, fun j _ _ hl => absurd hl (by rw [getD_replicate_false]; decide), fun t _ ht => getD_in (by simpa using ht) (getD_replicate_false _ _)⟩
  have H := anyQ_lex (P := P) (C := fun w' => ∃ s : Wd p, w' = s.w) (md := .any) (g := l.toArray.size - n) hsel hs hc hn (l.take n) 0 _ a (fun j hj => by rw [htake] at hj; simp [hj]) (by simpa using htake) inv (by rw [htake]; exact hlex) h
  refine wp_region_any hm ?_
  have hsz : (l.take n).length + (l.toArray.size - n) = l.toArray.size := by rw [htake]; omega
  have H2 := anyQ_any (Q := Q) (g := l.toArray.size - n) (fun done a' w' hw' hL => by
    have hlen : (l.drop n).length = l.toArray.size - n := by simp
    have := wpAny_of_seq (P := P) (Q' := Q) (l.drop n) n done a' w' (fun j => by simp) (by rw [hlen]; exact hL.1) (hL.2 w' hw')
    rwa [hlen] at this) _ _ a _ ⟨⟨w.drew, hw⟩, rfl⟩ H
  rw [hsz] at H2
  exact H2
end Go.Proofs.YtfcpfffgodljeaaGreat
