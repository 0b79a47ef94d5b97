/-
  A region that draws its order: first operations that leave a class of worlds, calls among them, then a row of operations whose order is forced: one walk serves every order. No condition but those typed at each theorem.
-/
import Derived.StillTail
import Derived.Deep.Quiet
import Derived.Test.YtldmajifkmcdcaaGreatMGen
namespace Go.Proofs.YtldmajifkmcdcaaGreat
section
variable {P : Program} {ops : Array Oper} {md : Region.Mode} {C : World → Prop}
/-- so many of the first n come up, in any order; then L -/
def anyQ (P : Program) (md : Region.Mode) (ops : Array Oper) (C : World → Prop) (n : Nat) (L : Array Bool → Act → Prop) : Nat → Array Bool → Act → Prop
  | 0, done, a => L done a
  | k + 1, done, a => Region.ready md ops done ≠ [] ∧ ∀ i ∈ Region.ready md ops done, i < n ∧ qOp P ops C i (anyQ P md ops C n L k (done.setIfInBounds i true)) a
theorem anyQ_any {n g : Nat} {L : Array Bool → Act → Prop} {Q : Exit → Act → World → Prop} (hL : ∀ done a w, C w → L done a → wpAny P md ops Q g done a w) :
    ∀ k done a w, C w → anyQ P md ops C n L k done a → wpAny P md ops Q (k + g) done a w := by
  intro k
  induction k with
  | zero =>
    intro done a w hw h
    simpa using hL done a w hw h
  | succ k ih =>
    intro done a w hw h
    rw [show k + 1 + g = (k + g) + 1 by omega]
    exact ⟨fun h0 => absurd h0 h.1, fun i hi => wpOp_of_qOp hw (fun a' w' hw' h' => ih _ a' w' hw' h') (h.2 i hi).2⟩
theorem anyQ_take {n i : Nat} {o : Oper} {v : Value} {L : Array Bool → Act → Prop} (ho : ops[i]? = some o) (hsel : ∀ (j : Nat) (o : Oper) cs b, ops[j]? = some o → o.op ≠ .select cs b)
    (hs : Region.sinkB md ops n = true) (hc : Region.chainB md ops n = true) (hn : n < ops.size) (hin : i < n) (hend : ∀ done a, L done a → ∀ j ∈ Region.ready md ops done, n ≤ j) :
    ∀ k done a, HeadInv md ops n done → (∀ j oj, ops[j]? = some oj → j ≠ i → done.getD j true = false → (∀ e ∈ oj.after, Region.binds md e = true → e.on ≠ i) → o.apart ops oj = true) →
      i ∈ Region.ready md ops done → YieldsIn P ops C o v a → anyQ P md ops C n L k (done.setIfInBounds i true) (a.put o.dst v) → anyQ P md ops C n L (k + 1) done a := by
  intro k
  induction k with
  | zero =>
    intro done a inv _ hr hy hL
    refine ⟨List.ne_nil_of_mem hr, fun j hj => ?_⟩
    have hjn : j < n := Nat.lt_of_not_le fun h => tail_waits hs hc hn inv _ i rfl hin (mem_ready.1 hr).1 j h hj
    by_cases e : j = i
    · subst e
      exact ⟨hjn, hy.qOp ho hL⟩
    · exact absurd hjn (Nat.not_lt.2 (hend _ _ hL j (ready_mono hj e)))
  | succ k ih =>
    intro done a inv hfree hr hy hL
    refine ⟨List.ne_nil_of_mem hr, fun j hj => ?_⟩
    have hjn : j < n := Nat.lt_of_not_le fun h => tail_waits hs hc hn inv _ i rfl hin (mem_ready.1 hr).1 j h hj
    by_cases e : j = i
    · subst e
      exact ⟨hjn, hy.qOp ho hL⟩
    · obtain ⟨hun, oj, hoj, hall⟩ := mem_ready.1 hj
      have hfar : ∀ e ∈ oj.after, Region.binds md e = true → e.on ≠ i := fun e' he hb heq => by
        have h1 := hall e' he hb
        rw [heq, getD_both (mem_ready.1 hr).1] at h1
        cases h1
      refine ⟨hjn, qOp_mono (fun a' h' => ih _ a' (inv.set hj hjn) (fun q oq hq hqi hqd hno => hfree q oq hq hqi ?_ hno) (ready_mono hr (Ne.symm e)) h'.1 ?_)
        (qOp_put hoj (hfree j oj hoj e hun hfar) (fun cs b => hsel i o cs b ho) (fun cs b => hsel j oj cs b hoj) hy (hL.2 j (ready_mono hj e)).2)⟩
      · by_cases hjq : j = q
        · rw [← hjq]; exact hun
        · rwa [getD_set_ne true hjq] at hqd
      · rw [Array.setIfInBounds_comm _ _ e]
        exact h'.2
theorem anyQ_lex {n g : Nat} {Lq : Act → Prop} (hsel : Region.noSelect ops = true) (hs : Region.sinkB md ops n = true) (hc : Region.chainB md ops n = true) (hn : n < ops.size) :
    ∀ (l : List Oper) (k : Nat) (done : Array Bool) (a : Act), (∀ j, j < l.length → l[j]? = ops[k + j]?) → k + l.length = n → HeadInv md ops n done → Region.lexHead md ops g l.length k done = true →
      wpQuiet P ops C Lq l a → anyQ P md ops C n (fun done' a' => Region.seqB md ops g n done' = true ∧ Lq a') l.length done a := by
  intro l
  induction l with
  | nil =>
    intro k done a _ hk _ hB h
    obtain rfl : k = n := by simpa using hk
    exact ⟨hB, h⟩
  | cons o l ih =>
    intro k done a hl hk inv hB h
    have ho : ops[k]? = some o := (hl 0 (by simp)).symm
    simp only [List.length_cons, Region.lexHead, Bool.and_eq_true] at hB
    have hkn : k < n := by simp only [List.length_cons] at hk; omega
    have hr : k ∈ Region.ready md ops done := by simpa using hB.1.1
    have hq : qOp P ops C k (wpQuiet P ops C Lq l) a := by unfold qOp; rw [ho]; exact h
    obtain ⟨v, hy, hK⟩ := yieldsIn_of_qOp ho hq
    refine anyQ_take ho (Region.noSelect_spec hsel) hs hc hn hkn (fun _ _ hL => seqB_ready hL.1) l.length done a inv (Region.free_spec ho hB.1.2) hr hy (ih (k + 1) _ _ (fun j hj => ?_) ?_ (inv.set hr hkn) hB.2 hK)
    · have := hl (j + 1) (by simp; omega)
      rw [show k + 1 + j = k + (j + 1) by omega]
      simpa using this
    · simp only [List.length_cons] at hk
      omega
end
/-- the first n operations leave the class, the others come in their order -/
theorem wp_region_qt {P : Program} {id : Nat} {Q : Exit → Act → World → Prop} {a : Act} {w : World} {l : List Oper} (p : World → Prop) (n : Nat) (hm : P.follows .mixedOrders = true) (hB : Region.lexTailB .any l.toArray n = true) (hw : p w.drew)
    (h : wpQuiet P l.toArray (fun w' => ∃ s : Wd p, w' = s.w) (fun a' => ∀ w', (∃ s : Wd p, w' = s.w) → wpList P l.toArray Q (l.drop n) a' w') (l.take n) a) : (Code.region id l.toArray true).wp P Q a w := by
  simp only [Region.lexTailB, Bool.and_eq_true, decide_eq_true_eq] at hB
  obtain ⟨⟨⟨⟨hsel, hn⟩, hs⟩, hc⟩, hlex⟩ := hB
  have hnl : n < l.length := by simpa using hn
  have htake : (l.take n).length = n := by simp; omega
  have inv : HeadInv .any l.toArray n (Array.replicate l.toArray.size false) :=
    ⟨by simp, fun j _ _ hl => absurd hl (by rw [getD_replicate_false]; decide), fun t _ ht => getD_in (by simpa using ht) (getD_replicate_false _ _)⟩
  have H := anyQ_lex (P := P) (C := fun w' => ∃ s : Wd p, w' = s.w) (md := .any) (g := l.toArray.size - n) hsel hs hc hn (l.take n) 0 _ a (fun j hj => by rw [htake] at hj; simp [hj]) (by simpa using htake) inv (by rw [htake]; exact hlex) h
  refine wp_region_any hm ?_
  have hsz : (l.take n).length + (l.toArray.size - n) = l.toArray.size := by rw [htake]; omega
  have H2 := anyQ_any (Q := Q) (g := l.toArray.size - n) (fun done a' w' hw' hL => by
    have hlen : (l.drop n).length = l.toArray.size - n := by simp
    have := wpAny_of_seq (P := P) (Q' := Q) (l.drop n) n done a' w' (fun j => by simp) (by rw [hlen]; exact hL.1) (hL.2 w' hw')
    rwa [hlen] at this) _ _ a _ ⟨⟨w.drew, hw⟩, rfl⟩ H
  rw [hsz] at H2
  exact H2
end Go.Proofs.YtldmajifkmcdcaaGreat
/-
  A region that draws its order: operations that leave a class of worlds, then one call, then operations that leave the world alone: one walk serves every order. No condition but those typed at each theorem.
-/
namespace Go.Proofs.YtldmajifkmcdcaaGreat
section
variable {P : Program} {ops : Array Oper} {md : Region.Mode} {C : World → Prop}
/-- behind the n-th each waits for one from n on -/
def chain2B (md : Region.Mode) (ops : Array Oper) (n : Nat) : Bool :=
  (List.range ops.size).all fun t => decide (t ≤ n) || (List.range t).any (fun j => decide (n ≤ j) && Region.waitsFor md ops t j)
/-- the n-th alone comes up, then the others in any order -/
def midB (md : Region.Mode) (ops : Array Oper) (g n : Nat) (done : Array Bool) : Bool := decide (Region.ready md ops done = [n]) && Region.lexFrom md ops g (n + 1) (done.setIfInBounds n true)
def lexHead2 (md : Region.Mode) (ops : Array Oper) (g : Nat) : Nat → Nat → Array Bool → Bool
  | 0, k, done => midB md ops g k done
  | f + 1, k, done => (Region.ready md ops done).contains k && Region.free md ops done k && lexHead2 md ops g f (k + 1) (done.setIfInBounds k true)
def qcB (md : Region.Mode) (ops : Array Oper) (n : Nat) : Bool :=
  Region.noSelect ops && decide (n < ops.size) && Region.sinkB md ops n && chain2B md ops n && lexHead2 md ops (ops.size - n - 1) n 0 (Array.replicate ops.size false)
theorem midB_ready {g n : Nat} {done : Array Bool} (h : midB md ops g n done = true) : ∀ j ∈ Region.ready md ops done, n ≤ j := by
  intro j hj
  simp only [midB, Bool.and_eq_true, decide_eq_true_eq] at h
  rw [h.1] at hj
  have : j = n := by simpa using hj
  omega
theorem head_waits {n : Nat} (hs : Region.sinkB md ops n = true) {listed : Array Bool} (inv : HeadInv md ops n listed) :
    ∀ (d i : Nat), n - i = d → i < n → listed.getD i true = false → n ∉ Region.ready md ops listed := by
  intro d
  induction d using Nat.strongRecOn with
  | _ d ih =>
    intro i hd hi hun hr
    obtain ⟨_, ot, hot, hall⟩ := mem_ready.1 hr
    have h1 := List.all_eq_true.1 hs i (List.mem_range.2 hi)
    obtain ⟨j, hj, hj2⟩ := List.any_eq_true.1 h1
    simp only [Bool.and_eq_true, decide_eq_true_eq] at hj2
    obtain ⟨oj, hoj, e, he, hb, hon⟩ := Region.waitsFor_spec hj2.2
    have hjle : j ≤ n := by have := List.mem_range.1 hj; omega
    by_cases hjt : j = n
    · subst hjt
      have : oj = ot := Option.some.inj (hoj.symm.trans hot)
      subst this
      have h2 := hall e he hb
      rw [hon, getD_both hun] at h2
      cases h2
    · have hjs : j < listed.size := by rw [inv.size]; exact (Array.getElem?_eq_some_iff.1 hoj).1
      cases hl : listed.getD j false with
      | true =>
        have h2 := inv.closed j oj hoj hl e he hb
        rw [hon, getD_both hun] at h2
        cases h2
      | false => exact ih (n - j) (by omega) j rfl (by omega) (getD_in hjs hl) hr
theorem tail_waits2 {n : Nat} (hs : Region.sinkB md ops n = true) (hc : chain2B md ops n = true) (listed : Array Bool) (inv : HeadInv md ops n listed) (i : Nat) (hi : i < n) (hun : listed.getD i true = false) : ∀ t, n ≤ t → t ∉ Region.ready md ops listed := by
  intro t ht hr
  by_cases htn : t = n
  · subst htn
    exact head_waits hs inv _ i rfl hi hun hr
  · obtain ⟨_, ot, hot, hall⟩ := mem_ready.1 hr
    have htlt : t < ops.size := (Array.getElem?_eq_some_iff.1 hot).1
    have h1 := List.all_eq_true.1 hc t (List.mem_range.2 htlt)
    simp only [Bool.or_eq_true, decide_eq_true_eq] at h1
    rcases h1 with h1 | h1
    · omega
    · obtain ⟨j, hj, hj2⟩ := List.any_eq_true.1 h1
      simp only [Bool.and_eq_true, decide_eq_true_eq] at hj2
      obtain ⟨oj, hoj, e, he, hb, hon⟩ := Region.waitsFor_spec hj2.2
      have : oj = ot := Option.some.inj (hoj.symm.trans hot)
      subst this
      have h2 := hall e he hb
      have h3 := inv.tail j hj2.1 (by have := List.mem_range.1 hj; omega)
      rw [hon, getD_both h3] at h2
      cases h2
theorem anyQ_take2 {n i : Nat} {o : Oper} {v : Value} {L : Array Bool → Act → Prop} (ho : ops[i]? = some o) (hsel : ∀ (j : Nat) (o : Oper) cs b, ops[j]? = some o → o.op ≠ .select cs b)
    (hT : ∀ done, HeadInv md ops n done → ∀ i, i < n → done.getD i true = false → ∀ t, n ≤ t → t ∉ Region.ready md ops done) (hin : i < n) (hend : ∀ done a, L done a → ∀ j ∈ Region.ready md ops done, n ≤ j) :
    ∀ k done a, HeadInv md ops n done → (∀ j oj, ops[j]? = some oj → j ≠ i → done.getD j true = false → (∀ e ∈ oj.after, Region.binds md e = true → e.on ≠ i) → o.apart ops oj = true) →
      i ∈ Region.ready md ops done → YieldsIn P ops C o v a → anyQ P md ops C n L k (done.setIfInBounds i true) (a.put o.dst v) → anyQ P md ops C n L (k + 1) done a := by
  intro k
  induction k with
  | zero =>
    intro done a inv _ hr hy hL
    refine ⟨List.ne_nil_of_mem hr, fun j hj => ?_⟩
    have hjn : j < n := Nat.lt_of_not_le fun h => hT done inv i hin (mem_ready.1 hr).1 j h hj
    by_cases e : j = i
    · subst e
      exact ⟨hjn, hy.qOp ho hL⟩
    · exact absurd hjn (Nat.not_lt.2 (hend _ _ hL j (ready_mono hj e)))
  | succ k ih =>
    intro done a inv hfree hr hy hL
    refine ⟨List.ne_nil_of_mem hr, fun j hj => ?_⟩
    have hjn : j < n := Nat.lt_of_not_le fun h => hT done inv i hin (mem_ready.1 hr).1 j h hj
    by_cases e : j = i
    · subst e
      exact ⟨hjn, hy.qOp ho hL⟩
    · obtain ⟨hun, oj, hoj, hall⟩ := mem_ready.1 hj
      have hfar : ∀ e ∈ oj.after, Region.binds md e = true → e.on ≠ i := fun e' he hb heq => by
        have h1 := hall e' he hb
        rw [heq, getD_both (mem_ready.1 hr).1] at h1
        cases h1
      refine ⟨hjn, qOp_mono (fun a' h' => ih _ a' (inv.set hj hjn) (fun q oq hq hqi hqd hno => hfree q oq hq hqi ?_ hno) (ready_mono hr (Ne.symm e)) h'.1 ?_)
        (qOp_put hoj (hfree j oj hoj e hun hfar) (fun cs b => hsel i o cs b ho) (fun cs b => hsel j oj cs b hoj) hy (hL.2 j (ready_mono hj e)).2)⟩
      · by_cases hjq : j = q
        · rw [← hjq]; exact hun
        · rwa [getD_set_ne true hjq] at hqd
      · rw [Array.setIfInBounds_comm _ _ e]
        exact h'.2
theorem anyQ_lex2 {n g : Nat} {Lq : Act → Prop} (hsel : Region.noSelect ops = true) (hT : ∀ done, HeadInv md ops n done → ∀ i, i < n → done.getD i true = false → ∀ t, n ≤ t → t ∉ Region.ready md ops done) (hn : n < ops.size) :
    ∀ (l : List Oper) (k : Nat) (done : Array Bool) (a : Act), (∀ j, j < l.length → l[j]? = ops[k + j]?) → k + l.length = n → HeadInv md ops n done → lexHead2 md ops g l.length k done = true →
      wpQuiet P ops C Lq l a → anyQ P md ops C n (fun done' a' => midB md ops g n done' = true ∧ Lq a') l.length done a := by
  intro l
  induction l with
  | nil =>
    intro k done a _ hk _ hB h
    obtain rfl : k = n := by simpa using hk
    exact ⟨hB, h⟩
  | cons o l ih =>
    intro k done a hl hk inv hB h
    have ho : ops[k]? = some o := (hl 0 (by simp)).symm
    simp only [List.length_cons, lexHead2, Bool.and_eq_true] at hB
    have hkn : k < n := by simp only [List.length_cons] at hk; omega
    have hr : k ∈ Region.ready md ops done := by simpa using hB.1.1
    have hq : qOp P ops C k (wpQuiet P ops C Lq l) a := by unfold qOp; rw [ho]; exact h
    obtain ⟨v, hy, hK⟩ := yieldsIn_of_qOp ho hq
    refine anyQ_take2 ho (Region.noSelect_spec hsel) hT hkn (fun _ _ hL => midB_ready hL.1) l.length done a inv (Region.free_spec ho hB.1.2) hr hy (ih (k + 1) _ _ (fun j hj => ?_) ?_ (inv.set hr hkn) hB.2 hK)
    · have := hl (j + 1) (by simp; omega)
      rw [show k + 1 + j = k + (j + 1) by omega]
      simpa using this
    · simp only [List.length_cons] at hk
      omega
end
theorem wp_region_qc {P : Program} {id : Nat} {Q : Exit → Act → World → Prop} {a : Act} {w : World} {l : List Oper} (p : World → Prop) (n : Nat) (hm : P.follows .mixedOrders = true) (hB : qcB .any l.toArray n = true) (hw : p w.drew)
    (h : wpQuiet P l.toArray (fun w' => ∃ s : Wd p, w' = s.w) (fun a' => ∀ w', (∃ s : Wd p, w' = s.w) → wpOp P l.toArray Q n (fun a2 w2 => wpQuiet P l.toArray (fun x => x = w2) (fun a3 => Q .normal a3 w2) (l.drop (n + 1)) a2) a' w') (l.take n) a) : (Code.region id l.toArray true).wp P Q a w := by
  simp only [qcB, Bool.and_eq_true, decide_eq_true_eq] at hB
  obtain ⟨⟨⟨⟨hsel, hn⟩, hs⟩, hc⟩, hlex⟩ := hB
  have hnl : n < l.length := by simpa using hn
  have htake : (l.take n).length = n := by simp; omega
  have inv : HeadInv .any l.toArray n (Array.replicate l.toArray.size false) :=
    ⟨by simp, fun j _ _ hl => absurd hl (by rw [getD_replicate_false]; decide), fun t _ ht => getD_in (by simpa using ht) (getD_replicate_false _ _)⟩
  have H := anyQ_lex2 (P := P) (C := fun w' => ∃ s : Wd p, w' = s.w) (md := .any) (g := l.toArray.size - n - 1) hsel (tail_waits2 hs hc) hn (l.take n) 0 _ a (fun j hj => by rw [htake] at hj; simp [hj]) (by simpa using htake) inv (by rw [htake]; exact hlex) h
  refine wp_region_any hm ?_
  have hsz : (l.take n).length + (l.toArray.size - n - 1 + 1) = l.toArray.size := by rw [htake]; omega
  have H2 := anyQ_any (Q := Q) (g := l.toArray.size - n - 1 + 1) (fun done a' w' hw' hL => by
    obtain ⟨hL1, hL2⟩ := hL
    simp only [midB, Bool.and_eq_true, decide_eq_true_eq] at hL1
    refine ⟨fun h0 => (by rw [hL1.1] at h0; cases h0), fun i hi => ?_⟩
    rw [hL1.1] at hi
    have hin : i = n := by simpa using hi
    subst hin
    refine wpOp_mono (fun a2 w2 h3 => ?_) (hL2 w' hw')
    have hlen : (l.drop (i + 1)).length = l.toArray.size - i - 1 := by simp; omega
    have := wpAnyQ_lex (P := P) (ops := l.toArray) (C := fun x => x = w2) (md := .any) hsel (l.drop (i + 1)) (i + 1) (done.setIfInBounds i true) a2 (fun j => by simp) (by rw [hlen]; exact hL1.2) h3
    rw [hlen] at this
    exact wpAny_of_quiet (C := fun x => x = w2) (Q := fun a3 => Q .normal a3 w2) (fun a3 w3 e hq => by subst e; exact hq) _ _ _ _ rfl this) _ _ a _ ⟨⟨w.drew, hw⟩, rfl⟩ H
  rw [hsz] at H2
  exact H2
end Go.Proofs.YtldmajifkmcdcaaGreat
/-
  A region that draws its order: quiet operations and a call among them, then a call that waits for all of them, and so on: one walk serves every order. No condition but those typed at each theorem.
-/
namespace Go.Proofs.YtldmajifkmcdcaaGreat
section
variable {P : Program} {ops : Array Oper} {md : Region.Mode} {C : World → Prop}
/-- the first n are done -/
def upTo (m n : Nat) : Array Bool := ((List.range m).map fun i => decide (i < n)).toArray
theorem upTo_size (m n : Nat) : (upTo m n).size = m := by simp [upTo]
theorem upTo_getD {m n i : Nat} {d : Bool} (h : i < m) : (upTo m n).getD i d = decide (i < n) := by simp [upTo, h]
theorem upTo_set (m n : Nat) : (upTo m n).setIfInBounds n true = upTo m (n + 1) := by
  refine Array.ext (by simp [upTo]) fun i h1 h2 => ?_
  have hm : i < m := by simpa [upTo] using h2
  rw [Array.getElem_setIfInBounds (by simpa [upTo] using hm)]
  by_cases e : n = i
  · simp [upTo, e]
  · simp only [e, if_false, upTo, List.getElem_toArray, List.getElem_map, List.getElem_range]
    exact decide_eq_decide.2 (by omega)
theorem upTo_zero (m : Nat) : upTo m 0 = Array.replicate m false := by
  refine Array.ext (by simp [upTo]) fun i h1 h2 => ?_
  simp [upTo]
/-- each waits for what stands ahead of it alone -/
def backB (md : Region.Mode) (ops : Array Oper) : Bool :=
  (List.range ops.size).all fun j => match ops[j]? with
    | some o => o.after.all fun e => !Region.binds md e || decide (e.on < j)
    | none => true
theorem upTo_inv (hb : backB md ops = true) {k n : Nat} (hk : k ≤ n) : HeadInv md ops n (upTo ops.size k) := by
  refine ⟨upTo_size _ _, fun j oj hj hl e he hbi => ?_, fun t ht hts => ?_⟩
  · have hjs : j < ops.size := (Array.getElem?_eq_some_iff.1 hj).1
    rw [upTo_getD hjs] at hl
    have hjk : j < k := by simpa using hl
    have h1 := List.all_eq_true.1 hb j (List.mem_range.2 hjs)
    simp only [hj] at h1
    have h2 := Array.all_eq_true'.1 h1 e he
    rw [hbi] at h2
    have h3 : e.on < j := by simpa using h2
    rw [upTo_getD (by omega)]
    simp; omega
  · rw [upTo_getD hts]
    simp; omega
/-- hands a value on and leaves the world alone, if it comes through -/
def plainB (o : Oper) : Bool := match o.op with
  | .move _ | .assign _ | .pick _ _ _ | .load _ _ | .binOp _ _ _ _ _ | .unOp _ _ _ | .indexAddr _ _ _ | .fieldAddr _ _ _ | .extract _ _ => true
  | _ => false
theorem bind_value {α : Type} {s : Sem α} {f : α → Value} {w w' : World} {n : Next} (hs : (s >>= fun x => (pure (Next.value (f x)) : Sem Next)).run P w = .ok n w') : ∃ u, n = .value u := by
  rw [Sem.run_bind] at hs
  cases hr : s.run P w with
  | ok u w1 =>
    rw [hr] at hs
    simp [Result.andThen, Sem.run_pure] at hs
    exact ⟨_, hs.1.symm⟩
  | halt x w1 =>
    rw [hr] at hs
    simp [Result.andThen] at hs
theorem pure_value {v : Value} {w w' : World} {n : Next} (hs : (pure (Next.value v) : Sem Next).run P w = .ok n w') : ∃ u, n = .value u := by
  rw [Sem.run_pure] at hs
  injection hs with h1 h2
  exact ⟨_, h1.symm⟩
theorem plain_value {o : Oper} (hp : plainB o = true) {ev : Operand → Value} {w w' : World} {n : Next} (h : (execOp ev o).run P w = .ok n w') : ∃ u, n = .value u := by
  unfold plainB at hp
  unfold execOp at h
  split at hp
  case h_10 => cases hp
  all_goals (rename_i he; simp only [he] at h; first | exact bind_value h | exact pure_value h)
/-- an operation that hands a value on and leaves the world alone, or a call -/
def gOp (P : Program) (ops : Array Oper) (i : Nat) (K : Act → World → Prop) (a : Act) (w : World) : Prop :=
  match ops[i]? with
  | none => False
  | some o => if Region.wanted o (yielded ops a.tmps) then (∃ u, (execOp a.eval o).run P w = .ok (.value u) w ∧ K (a.put o.dst u) w) ∨ (∃ f args, (execOp a.eval o).run P w = .ok (.enter f args) w ∧ Calls P f args w fun e w' => ∃ u, e = .returned u ∧ K (a.put o.dst u) w') else K (a.put o.dst undef) w
theorem gOp_mono {i : Nat} {a : Act} {w : World} {K K' : Act → World → Prop} (h : ∀ a w, K a w → K' a w) (hh : gOp P ops i K a w) : gOp P ops i K' a w := by
  unfold gOp at *
  cases ho : ops[i]? with
  | none => rw [ho] at hh; exact hh
  | some o =>
    rw [ho] at hh
    simp only [] at hh ⊢
    split
    · rename_i hw
      rw [if_pos hw] at hh
      rcases hh with ⟨u, h1, h2⟩ | ⟨f, args, h1, h2⟩
      · exact .inl ⟨u, h1, h _ _ h2⟩
      · exact .inr ⟨f, args, h1, h2.mono fun e w' ⟨u, h3, h4⟩ => ⟨u, h3, h _ _ h4⟩⟩
    · rename_i hw
      rw [if_neg hw] at hh
      exact h _ _ hh
theorem wpOp_of_gOp {Q : Exit → Act → World → Prop} {i : Nat} {a : Act} {w : World} {K : Act → World → Prop} (hh : gOp P ops i K a w) : wpOp P ops Q i K a w := by
  unfold gOp at hh
  unfold wpOp
  cases ho : ops[i]? with
  | none => rw [ho] at hh; exact hh.elim
  | some o =>
    rw [ho] at hh
    simp only [] at hh ⊢
    split
    · rename_i hw
      rw [if_pos hw] at hh
      left
      unfold Oper.wp
      rcases hh with ⟨u, h1, h2⟩ | ⟨f, args, h1, h2⟩
      · rw [h1]
        exact h2
      · rw [h1, Oper.upon_enter]
        refine h2.mono ?_
        rintro e w' ⟨u, rfl, hK⟩
        exact hK
    · rename_i hw
      rw [if_neg hw] at hh
      exact hh
/-- it yields just this, in every world of the class, and leaves it alone -/
def YX (P : Program) (ops : Array Oper) (C : World → Prop) (o : Oper) (v : Value) (a : Act) : Prop :=
  (Region.wanted o (yielded ops a.tmps) = true ∧ ∀ w, C w → (execOp a.eval o).run P w = .ok (.value v) w) ∨ (Region.wanted o (yielded ops a.tmps) = false ∧ v = undef)
theorem YX.of {o : Oper} {v : Value} {a : Act} (hp : plainB o = true) (h : YieldsIn P ops C o v a) : YX P ops C o v a := by
  rcases h with ⟨h1, h2⟩ | h
  · refine .inl ⟨h1, fun w hw => ?_⟩
    have h3 := h2 w hw
    unfold Oper.quietAt at h3
    cases hr : (execOp a.eval o).run P w with
    | ok n w' =>
      obtain ⟨u, rfl⟩ := plain_value hp hr
      rw [hr] at h3
      obtain ⟨rfl, rfl⟩ := h3
      rfl
    | halt x w' =>
      rw [hr] at h3
      exact h3.elim
  · exact .inr h
theorem YX.gOp {i : Nat} {o : Oper} {v : Value} {a : Act} {w : World} {K : Act → World → Prop} (hi : ops[i]? = some o) (hy : YX P ops C o v a) (hw : C w) (h : K (a.put o.dst v) w) : gOp P ops i K a w := by
  unfold Go.Proofs.YtldmajifkmcdcaaGreat.gOp
  rw [hi]
  simp only []
  rcases hy with ⟨h1, h2⟩ | ⟨h1, rfl⟩
  · rw [if_pos h1]
    exact .inl ⟨v, h2 w hw, h⟩
  · rw [if_neg (by rw [h1]; exact Bool.false_ne_true)]
    exact h
theorem YX.same {o : Oper} {v : Value} {a a' : Act} (hy : YX P ops C o v a) (he : execOp a'.eval o = execOp a.eval o) (hw : Region.wanted o (yielded ops a'.tmps) = Region.wanted o (yielded ops a.tmps)) : YX P ops C o v a' := by
  unfold YX at *
  rw [he, hw]
  exact hy
theorem gOp_put {j : Nat} {oi oj : Oper} {v : Value} (hj : ops[j]? = some oj) (hap : oi.apart ops oj = true) (hsi : ∀ cs b, oi.op ≠ .select cs b) (hsj : ∀ cs b, oj.op ≠ .select cs b) {K : Act → World → Prop} {a : Act} {w : World}
    (hy : YX P ops C oi v a) (h : gOp P ops j K (a.put oi.dst v) w) : gOp P ops j (fun a' w' => YX P ops C oi v a' ∧ K (a'.put oi.dst v) w') a w := by
  obtain ⟨h1, h2, h3⟩ := Oper.apart_spec hap
  have keep : ∀ u, YX P ops C oi v (a.put oj.dst u) := fun u => hy.same (execOp_put oi hsi a oj.dst u h3) (wanted_put oi a oj.dst u h3)
  unfold gOp at *
  rw [hj] at h ⊢
  simp only [] at h ⊢
  rw [wanted_put oj a oi.dst v h1, execOp_put oj hsj a oi.dst v h1] at h
  split
  · rename_i hw
    rw [if_pos hw] at h
    rcases h with ⟨u, h4, h5⟩ | ⟨f, args, h4, h5⟩
    · exact .inl ⟨u, h4, keep u, by rw [← Act.put_comm a v u h2]; exact h5⟩
    · exact .inr ⟨f, args, h4, h5.mono fun e w' ⟨u, h6, h7⟩ => ⟨u, h6, keep u, by rw [← Act.put_comm a v u h2]; exact h7⟩⟩
  · rename_i hw
    rw [if_neg hw] at h
    exact ⟨keep _, by rw [← Act.put_comm a v undef h2]; exact h⟩
/-- so many of those ahead of n come up, in any order; then L -/
def anyH (P : Program) (md : Region.Mode) (ops : Array Oper) (C : World → Prop) (n : Nat) (L : Act → World → Prop) : Nat → Array Bool → Act → World → Prop
  | 0, done, a, w => C w ∧ done = upTo ops.size n ∧ L a w
  | f + 1, done, a, w => C w ∧ Region.ready md ops done ≠ [] ∧ ∀ i ∈ Region.ready md ops done, i < n ∧ gOp P ops i (anyH P md ops C n L f (done.setIfInBounds i true)) a w
theorem anyH_in {n f : Nat} {L : Act → World → Prop} {done : Array Bool} {a : Act} {w : World} (h : anyH P md ops C n L f done a w) : C w := by
  cases f with
  | zero => exact h.1
  | succ f => exact h.1
theorem anyH_any {n g : Nat} {L : Act → World → Prop} {Q : Exit → Act → World → Prop} (hL : ∀ a w, C w → L a w → wpAny P md ops Q g (upTo ops.size n) a w) :
    ∀ f done a w, anyH P md ops C n L f done a w → wpAny P md ops Q (f + g) done a w := by
  intro f
  induction f with
  | zero =>
    rintro done a w ⟨h1, rfl, h2⟩
    simpa using hL a w h1 h2
  | succ f ih =>
    rintro done a w ⟨h1, h2, h3⟩
    rw [show f + 1 + g = (f + g) + 1 by omega]
    exact ⟨fun h0 => absurd h0 h2, fun i hi => wpOp_of_gOp (gOp_mono (fun a' w' h' => ih _ a' w' h') (h3 i hi).2)⟩
theorem anyH_take {n i : Nat} {o : Oper} {v : Value} {L : Act → World → Prop} (ho : ops[i]? = some o) (hsel : ∀ (j : Nat) (o : Oper) cs b, ops[j]? = some o → o.op ≠ .select cs b)
    (hT : ∀ done, HeadInv md ops n done → ∀ i, i < n → done.getD i true = false → ∀ t, n ≤ t → t ∉ Region.ready md ops done) (hin : i < n) (hr0 : Region.ready md ops (upTo ops.size n) = [n]) :
    ∀ f done a w, HeadInv md ops n done → (∀ j oj, ops[j]? = some oj → j ≠ i → done.getD j true = false → (∀ e ∈ oj.after, Region.binds md e = true → e.on ≠ i) → o.apart ops oj = true) →
      i ∈ Region.ready md ops done → YX P ops C o v a → C w → anyH P md ops C n L f (done.setIfInBounds i true) (a.put o.dst v) w → anyH P md ops C n L (f + 1) done a w := by
  intro f
  induction f with
  | zero =>
    intro done a w inv _ hr hy hw hL
    refine ⟨hw, List.ne_nil_of_mem hr, fun j hj => ?_⟩
    have hjn : j < n := Nat.lt_of_not_le fun h => hT done inv i hin (mem_ready.1 hr).1 j h hj
    by_cases e : j = i
    · subst e
      exact ⟨hjn, hy.gOp ho hw hL⟩
    · exfalso
      have h2 := ready_mono hj e
      rw [hL.2.1, hr0] at h2
      have : j = n := by simpa using h2
      omega
  | succ f ih =>
    intro done a w inv hfree hr hy hw hL
    refine ⟨hw, List.ne_nil_of_mem hr, fun j hj => ?_⟩
    have hjn : j < n := Nat.lt_of_not_le fun h => hT done inv i hin (mem_ready.1 hr).1 j h hj
    by_cases e : j = i
    · subst e
      exact ⟨hjn, hy.gOp ho hw hL⟩
    · obtain ⟨hun, oj, hoj, hall⟩ := mem_ready.1 hj
      have hfar : ∀ e ∈ oj.after, Region.binds md e = true → e.on ≠ i := fun e' he hb heq => by
        have h1 := hall e' he hb
        rw [heq, getD_both (mem_ready.1 hr).1] at h1
        cases h1
      refine ⟨hjn, gOp_mono (fun a' w' h' => ih _ a' w' (inv.set hj hjn) (fun q oq hq hqi hqd hno => hfree q oq hq hqi ?_ hno) (ready_mono hr (Ne.symm e)) h'.1 (anyH_in h'.2) ?_)
        (gOp_put hoj (hfree j oj hoj e hun hfar) (fun cs b => hsel i o cs b ho) (fun cs b => hsel j oj cs b hoj) hy (hL.2.2 j (ready_mono hj e)).2)⟩
      · by_cases hjq : j = q
        · rw [← hjq]; exact hun
        · rwa [getD_set_ne true hjq] at hqd
      · rw [Array.setIfInBounds_comm _ _ e]
        exact h'.2
/-- the operations from k to n - 2 are plain, may come up in their order and are apart from what does not wait for them; then the (n - 1)-th alone -/
def pieceB (md : Region.Mode) (ops : Array Oper) (n : Nat) : Nat → Nat → Bool
  | 0, k => decide (k + 1 = n) && decide (Region.ready md ops (upTo ops.size k) = [k])
  | f + 1, k => (Region.ready md ops (upTo ops.size k)).contains k && Region.free md ops (upTo ops.size k) k && (match ops[k]? with | some o => plainB o | none => false) && pieceB md ops n f (k + 1)
theorem anyH_lex {n : Nat} {L : Act → World → Prop} (hsel : Region.noSelect ops = true) (hT : ∀ done, HeadInv md ops n done → ∀ i, i < n → done.getD i true = false → ∀ t, n ≤ t → t ∉ Region.ready md ops done)
    (hb : backB md ops = true) (hr : Region.ready md ops (upTo ops.size n) = [n]) :
    ∀ (l : List Oper) (k : Nat) (a : Act) (w : World), (∀ j, j < l.length → l[j]? = ops[k + j]?) → k + l.length + 1 = n → pieceB md ops n l.length k = true → C w →
      wpQuiet P ops C (fun a' => ∀ w', C w' → gOp P ops (n - 1) (fun a2 w2 => C w2 ∧ L a2 w2) a' w') l a → anyH P md ops C n L (l.length + 1) (upTo ops.size k) a w := by
  intro l
  induction l with
  | nil =>
    intro k a w _ hk hB hw h
    simp only [List.length_nil, pieceB, Bool.and_eq_true, decide_eq_true_eq] at hB
    refine ⟨hw, by rw [hB.2]; simp, fun i hi => ?_⟩
    rw [hB.2] at hi
    obtain rfl : i = k := by simpa using hi
    refine ⟨by omega, ?_⟩
    have h2 := h w hw
    rw [show n - 1 = i by omega] at h2
    refine gOp_mono (fun a2 w2 h3 => ⟨h3.1, ?_, h3.2⟩) h2
    rw [upTo_set, hB.1]
  | cons o l ih =>
    intro k a w hl hk hB hw h
    have ho : ops[k]? = some o := (hl 0 (by simp)).symm
    simp only [List.length_cons, pieceB, Bool.and_eq_true, ho] at hB
    have hkn : k < n := by simp only [List.length_cons] at hk; omega
    have hrk : k ∈ Region.ready md ops (upTo ops.size k) := by simpa using hB.1.1.1
    have hq : qOp P ops C k (wpQuiet P ops C (fun a' => ∀ w', C w' → gOp P ops (n - 1) (fun a2 w2 => C w2 ∧ L a2 w2) a' w') l) a := by unfold qOp; rw [ho]; exact h
    obtain ⟨v, hy, hK⟩ := yieldsIn_of_qOp ho hq
    refine anyH_take ho (Region.noSelect_spec hsel) hT hkn hr (l.length + 1) _ a w (upTo_inv hb (by omega)) (Region.free_spec ho hB.1.1.2) hrk (YX.of hB.1.2 hy) hw ?_
    rw [upTo_set]
    refine ih (k + 1) _ w (fun j hj => ?_) ?_ hB.2 hw hK
    · have := hl (j + 1) (by simp; omega)
      rw [show k + 1 + j = k + (j + 1) by omega]
      simpa using this
    · simp only [List.length_cons] at hk
      omega
/-- a walk: quiet operations and the call n - 1, in a class p of worlds; the call n; and so on -/
def callsH (P : Program) (ops : Array Oper) (Q : Exit → Act → World → Prop) (p : World → World → Prop) : List Nat → Nat → List Oper → Act → World → Prop
  | [], _, l, a, w => wpQuiet P ops (fun x => x = w) (fun a3 => Q .normal a3 w) l a
  | n :: ns, k, l, a, w => wpQuiet P ops (fun x => ∃ s : Wd (p w), x = s.w) (fun a' => ∀ w', (∃ s : Wd (p w), w' = s.w) → gOp P ops (n - 1) (fun a1 w1 => (∃ s : Wd (p w), w1 = s.w) ∧ gOp P ops n (fun a2 w2 => callsH P ops Q p ns (n + 1) (l.drop (n + 1 - k)) a2 w2) a1 w1) a' w') (l.take (n - 1 - k)) a
def callsB (md : Region.Mode) (ops : Array Oper) : List Nat → Nat → Bool
  | [], k => Region.lexFrom md ops (ops.size - k) k (upTo ops.size k)
  | n :: ns, k => decide (k + 1 ≤ n) && decide (n < ops.size) && Region.sinkB md ops n && chain2B md ops n && decide (Region.ready md ops (upTo ops.size n) = [n]) && pieceB md ops n (n - 1 - k) k && callsB md ops ns (n + 1)
theorem wpAny_calls {Q : Exit → Act → World → Prop} (p : World → World → Prop) (hp : ∀ w, p w w) (hsel : Region.noSelect ops = true) (hb : backB md ops = true) :
    ∀ (ns : List Nat) (k : Nat) (l : List Oper) (a : Act) (w : World), k ≤ ops.size → (∀ j, l[j]? = ops[k + j]?) → callsB md ops ns k = true → callsH P ops Q p ns k l a w → wpAny P md ops Q (ops.size - k) (upTo ops.size k) a w := by
  intro ns
  induction ns with
  | nil =>
    intro k l a w hk hl hB h
    have hlen : l.length = ops.size - k := by
      have h1 : l.length ≤ ops.size - k := by
        rcases Nat.lt_or_ge (ops.size - k) l.length with h | h
        · have := hl (ops.size - k)
          rw [List.getElem?_eq_getElem h, Array.getElem?_eq_none (by omega)] at this
          cases this
        · exact h
      have h2 : ops.size - k ≤ l.length := by
        rcases Nat.lt_or_ge l.length (ops.size - k) with h | h
        · have := hl l.length
          rw [List.getElem?_eq_none (Nat.le_refl _), Array.getElem?_eq_getElem (by omega)] at this
          cases this
        · exact h
      omega
    have := wpAnyQ_lex (P := P) (ops := ops) (C := fun x => x = w) (md := md) hsel l k (upTo ops.size k) a hl (by rw [hlen]; exact hB) h
    rw [hlen] at this
    exact wpAny_of_quiet (C := fun x => x = w) (Q := fun a3 => Q .normal a3 w) (fun a3 w3 e hq => by subst e; exact hq) _ _ _ _ rfl this
  | cons n ns ih =>
    intro k l a w hk hl hB h
    simp only [callsB, Bool.and_eq_true, decide_eq_true_eq] at hB
    obtain ⟨⟨⟨⟨⟨⟨hkn, hn⟩, hs⟩, hc⟩, hr⟩, hpc⟩, hB⟩ := hB
    have hln : n - k < l.length := by
      rcases Nat.lt_or_ge (n - k) l.length with h | h
      · exact h
      · have := hl (n - k)
        rw [List.getElem?_eq_none h, show k + (n - k) = n by omega, Array.getElem?_eq_getElem hn] at this
        cases this
    have htake : (l.take (n - 1 - k)).length = n - 1 - k := by simp; omega
    have H := anyH_lex (P := P) (C := fun x => ∃ s : Wd (p w), x = s.w) (L := fun a1 w1 => gOp P ops n (fun a2 w2 => callsH P ops Q p ns (n + 1) (l.drop (n + 1 - k)) a2 w2) a1 w1) hsel (tail_waits2 hs hc) hb hr (l.take (n - 1 - k)) k a w
      (fun j hj => by rw [htake] at hj; rw [List.getElem?_take, if_pos hj]; exact hl j) (by omega) (by rw [htake]; exact hpc) ⟨⟨w, hp w⟩, rfl⟩ h
    have H2 := anyH_any (Q := Q) (g := ops.size - (n + 1) + 1) (fun a' w' _ hL => by
      refine ⟨fun h0 => (by rw [hr] at h0; cases h0), fun i hi => ?_⟩
      rw [hr] at hi
      obtain rfl : i = n := by simpa using hi
      refine wpOp_of_gOp (gOp_mono (fun a2 w2 h3 => ?_) hL)
      rw [upTo_set]
      exact ih (i + 1) _ a2 w2 (by omega) (fun j => by rw [List.getElem?_drop, hl]; congr 1; omega) hB h3) _ _ _ _ H
    rw [htake, show n - 1 - k + 1 + (ops.size - (n + 1) + 1) = ops.size - k by omega] at H2
    exact H2
end
theorem wp_region_qk {P : Program} {id : Nat} {Q : Exit → Act → World → Prop} {a : Act} {w : World} {l : List Oper} (p : World → World → Prop) (hp : ∀ w, p w w) (ns : List Nat) (hm : P.follows .mixedOrders = true) (hB : (Region.noSelect l.toArray && backB .any l.toArray && callsB .any l.toArray ns 0) = true)
    (h : callsH P l.toArray Q p ns 0 l a w.drew) : (Code.region id l.toArray true).wp P Q a w := by
  simp only [Bool.and_eq_true] at hB
  refine wp_region_any hm ?_
  have := wpAny_calls (P := P) (Q := Q) p hp hB.1.1 hB.1.2 ns 0 l a w.drew (Nat.zero_le _) (by simp) hB.2 h
  rw [upTo_zero] at this
  exact this
theorem callsH_cons {P : Program} {ops : Array Oper} {Q : Exit → Act → World → Prop} {p : World → World → Prop} {n k : Nat} {ns : List Nat} {l : List Oper} {a : Act} {w : World}
    (h : wpQuiet P ops (fun x => ∃ s : Wd (p w), x = s.w) (fun a' => ∀ w', (∃ s : Wd (p w), w' = s.w) → gOp P ops (n - 1) (fun a1 w1 => (∃ s : Wd (p w), w1 = s.w) ∧ gOp P ops n (fun a2 w2 => callsH P ops Q p ns (n + 1) (l.drop (n + 1 - k)) a2 w2) a1 w1) a' w') (l.take (n - 1 - k)) a) : callsH P ops Q p (n :: ns) k l a w := h
theorem callsH_nil {P : Program} {ops : Array Oper} {Q : Exit → Act → World → Prop} {p : World → World → Prop} {k : Nat} {l : List Oper} {a : Act} {w : World}
    (h : wpQuiet P ops (fun x => x = w) (fun a3 => Q .normal a3 w) l a) : callsH P ops Q p [] k l a w := h
theorem gOp_call {P : Program} {ops : Array Oper} {K : Act → World → Prop} {n : Nat} {o : Oper} {a : Act} {w : World} {f : FuncId} {args : Array Value} (ho : ops[n]? = some o) (hg : Region.wanted o (yielded ops a.tmps) = true)
    (hr : (execOp a.eval o).run P w = .ok (.enter f args) w) (h : Calls P f args w fun e w' => ∃ v, e = .returned v ∧ K (a.put o.dst v) w') : gOp P ops n K a w := by
  unfold gOp
  rw [ho]
  simp only []
  rw [if_pos hg]
  exact .inr ⟨f, args, hr, h⟩
end Go.Proofs.YtldmajifkmcdcaaGreat
/-
  A region that draws its order and holds two calls: quiet operations in any order, the first call among them; then the second call, which waits for all of them; then operations that leave the world alone: one walk serves every order. No condition but those typed at each theorem.
-/
namespace Go.Proofs.YtldmajifkmcdcaaGreat
section
variable {P : Program} {ops : Array Oper} {md : Region.Mode} {C : World → Prop}
/-- hands a value on and leaves the world alone, if it comes through: with len, and a number's other type -/
def plain2B (o : Oper) : Bool := plainB o || (match o.op with
  | .convert _ _ _ => true
  | .call c => (match c.callee with
    | .builtin .len => true
    | _ => false)
  | _ => false)
theorem plain_value2 {o : Oper} (hp : plain2B o = true) {ev : Operand → Value} {w w' : World} {n : Next} (h : (execOp ev o).run P w = .ok n w') : ∃ u, n = .value u := by
  unfold plain2B at hp
  rw [Bool.or_eq_true] at hp
  rcases hp with hp | hp
  · exact plain_value hp h
  · split at hp
    · rename_i he
      unfold execOp at h
      simp only [he] at h
      exact bind_value h
    · rename_i c he
      split at hp
      · rename_i hc
        unfold execOp at h
        simp only [he, resolve, hc, Sem.run_bind, Sem.run_pure, Result.andThen, invoke, builtin] at h
        exact bind_value (by rw [Sem.run_bind]; exact h)
      · cases hp
    · cases hp
theorem YX.of2 {o : Oper} {v : Value} {a : Act} (hp : plain2B o = true) (h : YieldsIn P ops C o v a) : YX P ops C o v a := by
  rcases h with ⟨h1, h2⟩ | h
  · refine .inl ⟨h1, fun w hw => ?_⟩
    have h3 := h2 w hw
    unfold Oper.quietAt at h3
    cases hr : (execOp a.eval o).run P w with
    | ok n w' =>
      obtain ⟨u, rfl⟩ := plain_value2 hp hr
      rw [hr] at h3
      obtain ⟨rfl, rfl⟩ := h3
      rfl
    | halt x w' =>
      rw [hr] at h3
      exact h3.elim
  · exact .inr h
/-- these operations are plain, may come up in this order and are apart from what does not wait for them; then c alone; then all ahead of n have come -/
def pieceP (md : Region.Mode) (ops : Array Oper) (n c : Nat) : List Nat → Array Bool → Bool
  | [], done => decide (c < n) && decide (Region.ready md ops done = [c]) && decide (done.setIfInBounds c true = upTo ops.size n)
  | i :: is, done => decide (i < n) && (Region.ready md ops done).contains i && Region.free md ops done i && (match ops[i]? with | some o => plain2B o | none => false) && pieceP md ops n c is (done.setIfInBounds i true)
theorem anyH_lexP {n c : Nat} {L : Act → World → Prop} (hsel : Region.noSelect ops = true) (hT : ∀ done, HeadInv md ops n done → ∀ i, i < n → done.getD i true = false → ∀ t, n ≤ t → t ∉ Region.ready md ops done)
    (hr : Region.ready md ops (upTo ops.size n) = [n]) :
    ∀ (is : List Nat) (done : Array Bool) (a : Act) (w : World), HeadInv md ops n done → pieceP md ops n c is done = true → C w →
      wpQuiet P ops C (fun a' => gOp P ops c (fun a2 w2 => C w2 ∧ L a2 w2) a' w) (is.filterMap fun i => ops[i]?) a → anyH P md ops C n L (is.length + 1) done a w := by
  intro is
  induction is with
  | nil =>
    intro done a w inv hB hw h
    simp only [pieceP, Bool.and_eq_true, decide_eq_true_eq] at hB
    obtain ⟨⟨hcn, hrd⟩, hset⟩ := hB
    refine ⟨hw, by rw [hrd]; simp, fun i hi => ?_⟩
    rw [hrd] at hi
    obtain rfl : i = c := by simpa using hi
    have h' : gOp P ops i (fun a2 w2 => C w2 ∧ L a2 w2) a w := h
    exact ⟨hcn, gOp_mono (fun a2 w2 h3 => ⟨h3.1, hset, h3.2⟩) h'⟩
  | cons i is ih =>
    intro done a w inv hB hw h
    simp only [pieceP, Bool.and_eq_true, decide_eq_true_eq] at hB
    obtain ⟨⟨⟨⟨hin, hrk⟩, hfree⟩, hpl⟩, hB⟩ := hB
    cases ho : ops[i]? with
    | none => rw [ho] at hpl; cases hpl
    | some o =>
      rw [ho] at hpl
      simp only [List.filterMap_cons, ho] at h
      have hri : i ∈ Region.ready md ops done := by simpa using hrk
      have hq : qOp P ops C i (wpQuiet P ops C (fun a' => gOp P ops c (fun a2 w2 => C w2 ∧ L a2 w2) a' w) (is.filterMap fun i => ops[i]?)) a := by unfold qOp; rw [ho]; exact h
      obtain ⟨v, hy, hK⟩ := yieldsIn_of_qOp ho hq
      exact anyH_take ho (Region.noSelect_spec hsel) hT hin hr (is.length + 1) _ a w inv (Region.free_spec ho hfree) hri (YX.of2 hpl hy) hw (ih _ _ w (inv.set hri hin) hB hw hK)
end
def qpB (md : Region.Mode) (ops : Array Oper) (is : List Nat) (c n : Nat) : Bool :=
  Region.noSelect ops && backB md ops && decide (n < ops.size) && Region.sinkB md ops n && chain2B md ops n && decide (Region.ready md ops (upTo ops.size n) = [n]) && decide (is.length + 1 = n) && pieceP md ops n c is (upTo ops.size 0) && Region.lexFrom md ops (ops.size - (n + 1)) (n + 1) (upTo ops.size (n + 1))
theorem wp_region_qp {P : Program} {id : Nat} {Q : Exit → Act → World → Prop} {a : Act} {w : World} {l : List Oper} (p : World → Prop) (is : List Nat) (c n : Nat) (hm : P.follows .mixedOrders = true) (hB : qpB .any l.toArray is c n = true) (hw : p w.drew)
    (h : wpQuiet P l.toArray (fun x => ∃ s : Wd p, x = s.w) (fun a' => gOp P l.toArray c (fun a1 w1 => (∃ s : Wd p, w1 = s.w) ∧ gOp P l.toArray n (fun a2 w2 => wpQuiet P l.toArray (fun x => x = w2) (fun a3 => Q .normal a3 w2) (l.drop (n + 1)) a2) a1 w1) a' w.drew) (is.filterMap fun i => l.toArray[i]?) a) : (Code.region id l.toArray true).wp P Q a w := by
  simp only [qpB, Bool.and_eq_true, decide_eq_true_eq] at hB
  obtain ⟨⟨⟨⟨⟨⟨⟨⟨hsel, hb⟩, hn⟩, hs⟩, hc⟩, hr⟩, hlen⟩, hpc⟩, hlx⟩ := hB
  refine wp_region_any hm ?_
  have H := anyH_lexP (P := P) (md := .any) (C := fun x => ∃ s : Wd p, x = s.w) (L := fun a1 w1 => gOp P l.toArray n (fun a2 w2 => wpQuiet P l.toArray (fun x => x = w2) (fun a3 => Q .normal a3 w2) (l.drop (n + 1)) a2) a1 w1) hsel (tail_waits2 hs hc) hr is (upTo l.toArray.size 0) a w.drew (upTo_inv hb (Nat.zero_le _)) hpc ⟨⟨w.drew, hw⟩, rfl⟩ h
  have H2 := anyH_any (Q := Q) (g := l.toArray.size - (n + 1) + 1) (fun a' w' _ hL => by
    refine ⟨fun h0 => (by rw [hr] at h0; cases h0), fun i hi => ?_⟩
    rw [hr] at hi
    obtain rfl : i = n := by simpa using hi
    refine wpOp_of_gOp (gOp_mono (fun a2 w2 h3 => ?_) hL)
    rw [upTo_set]
    have hlen2 : (l.drop (i + 1)).length = l.toArray.size - (i + 1) := by simp
    have := wpAnyQ_lex (P := P) (ops := l.toArray) (C := fun x => x = w2) (md := .any) hsel (l.drop (i + 1)) (i + 1) (upTo l.toArray.size (i + 1)) a2 (fun j => by simp) (by rw [hlen2]; exact hlx) h3
    rw [hlen2] at this
    exact wpAny_of_quiet (C := fun x => x = w2) (Q := fun a3 => Q .normal a3 w2) (fun a3 w3 e hq => by subst e; exact hq) _ _ _ _ rfl this) _ _ _ _ H
  rw [hlen, show n + (l.toArray.size - (n + 1) + 1) = l.toArray.size by omega, upTo_zero] at H2
  exact H2
end Go.Proofs.YtldmajifkmcdcaaGreat
/-
  Qk's walk of a drawn region of several calls, with operations that make memory among those that come up alone: Qk's text, its gOp taken wider. No condition but those typed at each theorem.
-/
namespace Go.Proofs.YtldmajifkmcdcaaGreat.G2
section
variable {P : Program} {ops : Array Oper} {md : Region.Mode} {C : World → Prop}
/-- hands a value on and leaves the world alone, if it comes through: with the lesser of two, and a part of a slice -/
def plain3B (o : Oper) : Bool := plain2B o || (match o.op with
  | .slice _ _ _ _ _ => true
  | .call c => (match c.callee with
    | .builtin .min => true
    | _ => false)
  | _ => false)
theorem plain_value3 {o : Oper} (hp : plain3B o = true) {ev : Operand → Value} {w w' : World} {n : Next} (h : (execOp ev o).run P w = .ok n w') : ∃ u, n = .value u := by
  unfold plain3B at hp
  rw [Bool.or_eq_true] at hp
  rcases hp with hp | hp
  · exact plain_value2 hp h
  · split at hp
    · rename_i he
      unfold execOp at h
      simp only [he] at h
      exact bind_value h
    · rename_i c he
      split at hp
      · rename_i hc
        unfold execOp at h
        simp only [he, resolve, hc, Sem.run_bind, Sem.run_pure, Result.andThen, invoke, builtin] at h
        exact bind_value (by rw [Sem.run_bind]; exact h)
      · cases hp
    · cases hp
theorem yx_of3 {o : Oper} {v : Value} {a : Act} (hp : plain3B o = true) (h : YieldsIn P ops C o v a) : YX P ops C o v a := by
  rcases h with ⟨h1, h2⟩ | h
  · refine .inl ⟨h1, fun w hw => ?_⟩
    have h3 := h2 w hw
    unfold Oper.quietAt at h3
    cases hr : (execOp a.eval o).run P w with
    | ok n w' =>
      obtain ⟨u, rfl⟩ := plain_value3 hp hr
      rw [hr] at h3
      obtain ⟨rfl, rfl⟩ := h3
      rfl
    | halt x w' =>
      rw [hr] at h3
      exact h3.elim
  · exact .inr h
/-- an operation that hands a value on and leaves the world alone, or a call -/
def gOp (P : Program) (ops : Array Oper) (i : Nat) (K : Act → World → Prop) (a : Act) (w : World) : Prop :=
  match ops[i]? with
  | none => False
  | some o => if Region.wanted o (yielded ops a.tmps) then (∃ u w1, (execOp a.eval o).run P w = .ok (.value u) w1 ∧ K (a.put o.dst u) w1) ∨ (∃ f args, (execOp a.eval o).run P w = .ok (.enter f args) w ∧ Calls P f args w fun e w' => ∃ u, e = .returned u ∧ K (a.put o.dst u) w') else K (a.put o.dst undef) w
theorem gOp_mono {i : Nat} {a : Act} {w : World} {K K' : Act → World → Prop} (h : ∀ a w, K a w → K' a w) (hh : gOp P ops i K a w) : gOp P ops i K' a w := by
  unfold gOp at *
  cases ho : ops[i]? with
  | none => rw [ho] at hh; exact hh
  | some o =>
    rw [ho] at hh
    simp only [] at hh ⊢
    split
    · rename_i hw
      rw [if_pos hw] at hh
      rcases hh with ⟨u, w1, h1, h2⟩ | ⟨f, args, h1, h2⟩
      · exact .inl ⟨u, w1, h1, h _ _ h2⟩
      · exact .inr ⟨f, args, h1, h2.mono fun e w' ⟨u, h3, h4⟩ => ⟨u, h3, h _ _ h4⟩⟩
    · rename_i hw
      rw [if_neg hw] at hh
      exact h _ _ hh
theorem wpOp_of_gOp {Q : Exit → Act → World → Prop} {i : Nat} {a : Act} {w : World} {K : Act → World → Prop} (hh : gOp P ops i K a w) : wpOp P ops Q i K a w := by
  unfold gOp at hh
  unfold wpOp
  cases ho : ops[i]? with
  | none => rw [ho] at hh; exact hh.elim
  | some o =>
    rw [ho] at hh
    simp only [] at hh ⊢
    split
    · rename_i hw
      rw [if_pos hw] at hh
      left
      unfold Oper.wp
      rcases hh with ⟨u, w1, h1, h2⟩ | ⟨f, args, h1, h2⟩
      · rw [h1]
        exact h2
      · rw [h1, Oper.upon_enter]
        refine h2.mono ?_
        rintro e w' ⟨u, rfl, hK⟩
        exact hK
    · rename_i hw
      rw [if_neg hw] at hh
      exact hh
theorem yx_gOp {i : Nat} {o : Oper} {v : Value} {a : Act} {w : World} {K : Act → World → Prop} (hi : ops[i]? = some o) (hy : YX P ops C o v a) (hw : C w) (h : K (a.put o.dst v) w) : gOp P ops i K a w := by
  unfold gOp
  rw [hi]
  simp only []
  rcases hy with ⟨h1, h2⟩ | ⟨h1, rfl⟩
  · rw [if_pos h1]
    exact .inl ⟨v, w, h2 w hw, h⟩
  · rw [if_neg (by rw [h1]; exact Bool.false_ne_true)]
    exact h
theorem gOp_put {j : Nat} {oi oj : Oper} {v : Value} (hj : ops[j]? = some oj) (hap : oi.apart ops oj = true) (hsi : ∀ cs b, oi.op ≠ .select cs b) (hsj : ∀ cs b, oj.op ≠ .select cs b) {K : Act → World → Prop} {a : Act} {w : World}
    (hy : YX P ops C oi v a) (h : gOp P ops j K (a.put oi.dst v) w) : gOp P ops j (fun a' w' => YX P ops C oi v a' ∧ K (a'.put oi.dst v) w') a w := by
  obtain ⟨h1, h2, h3⟩ := Oper.apart_spec hap
  have keep : ∀ u, YX P ops C oi v (a.put oj.dst u) := fun u => hy.same (execOp_put oi hsi a oj.dst u h3) (wanted_put oi a oj.dst u h3)
  unfold gOp at *
  rw [hj] at h ⊢
  simp only [] at h ⊢
  rw [wanted_put oj a oi.dst v h1, execOp_put oj hsj a oi.dst v h1] at h
  split
  · rename_i hw
    rw [if_pos hw] at h
    rcases h with ⟨u, w1, h4, h5⟩ | ⟨f, args, h4, h5⟩
    · exact .inl ⟨u, w1, h4, keep u, by rw [← Act.put_comm a v u h2]; exact h5⟩
    · exact .inr ⟨f, args, h4, h5.mono fun e w' ⟨u, h6, h7⟩ => ⟨u, h6, keep u, by rw [← Act.put_comm a v u h2]; exact h7⟩⟩
  · rename_i hw
    rw [if_neg hw] at h
    exact ⟨keep _, by rw [← Act.put_comm a v undef h2]; exact h⟩
/-- so many of those ahead of n come up, in any order; then L -/
def anyH (P : Program) (md : Region.Mode) (ops : Array Oper) (C : World → Prop) (n : Nat) (L : Act → World → Prop) : Nat → Array Bool → Act → World → Prop
  | 0, done, a, w => C w ∧ done = upTo ops.size n ∧ L a w
  | f + 1, done, a, w => C w ∧ Region.ready md ops done ≠ [] ∧ ∀ i ∈ Region.ready md ops done, i < n ∧ gOp P ops i (anyH P md ops C n L f (done.setIfInBounds i true)) a w
theorem anyH_in {n f : Nat} {L : Act → World → Prop} {done : Array Bool} {a : Act} {w : World} (h : anyH P md ops C n L f done a w) : C w := by
  cases f with
  | zero => exact h.1
  | succ f => exact h.1
theorem anyH_any {n g : Nat} {L : Act → World → Prop} {Q : Exit → Act → World → Prop} (hL : ∀ a w, C w → L a w → wpAny P md ops Q g (upTo ops.size n) a w) :
    ∀ f done a w, anyH P md ops C n L f done a w → wpAny P md ops Q (f + g) done a w := by
  intro f
  induction f with
  | zero =>
    rintro done a w ⟨h1, rfl, h2⟩
    simpa using hL a w h1 h2
  | succ f ih =>
    rintro done a w ⟨h1, h2, h3⟩
    rw [show f + 1 + g = (f + g) + 1 by omega]
    exact ⟨fun h0 => absurd h0 h2, fun i hi => wpOp_of_gOp (gOp_mono (fun a' w' h' => ih _ a' w' h') (h3 i hi).2)⟩
theorem anyH_take {n i : Nat} {o : Oper} {v : Value} {L : Act → World → Prop} (ho : ops[i]? = some o) (hsel : ∀ (j : Nat) (o : Oper) cs b, ops[j]? = some o → o.op ≠ .select cs b)
    (hT : ∀ done, HeadInv md ops n done → ∀ i, i < n → done.getD i true = false → ∀ t, n ≤ t → t ∉ Region.ready md ops done) (hin : i < n) (hr0 : Region.ready md ops (upTo ops.size n) = [n]) :
    ∀ f done a w, HeadInv md ops n done → (∀ j oj, ops[j]? = some oj → j ≠ i → done.getD j true = false → (∀ e ∈ oj.after, Region.binds md e = true → e.on ≠ i) → o.apart ops oj = true) →
      i ∈ Region.ready md ops done → YX P ops C o v a → C w → anyH P md ops C n L f (done.setIfInBounds i true) (a.put o.dst v) w → anyH P md ops C n L (f + 1) done a w := by
  intro f
  induction f with
  | zero =>
    intro done a w inv _ hr hy hw hL
    refine ⟨hw, List.ne_nil_of_mem hr, fun j hj => ?_⟩
    have hjn : j < n := Nat.lt_of_not_le fun h => hT done inv i hin (mem_ready.1 hr).1 j h hj
    by_cases e : j = i
    · subst e
      exact ⟨hjn, yx_gOp ho hy hw hL⟩
    · exfalso
      have h2 := ready_mono hj e
      rw [hL.2.1, hr0] at h2
      have : j = n := by simpa using h2
      omega
  | succ f ih =>
    intro done a w inv hfree hr hy hw hL
    refine ⟨hw, List.ne_nil_of_mem hr, fun j hj => ?_⟩
    have hjn : j < n := Nat.lt_of_not_le fun h => hT done inv i hin (mem_ready.1 hr).1 j h hj
    by_cases e : j = i
    · subst e
      exact ⟨hjn, yx_gOp ho hy hw hL⟩
    · obtain ⟨hun, oj, hoj, hall⟩ := mem_ready.1 hj
      have hfar : ∀ e ∈ oj.after, Region.binds md e = true → e.on ≠ i := fun e' he hb heq => by
        have h1 := hall e' he hb
        rw [heq, getD_both (mem_ready.1 hr).1] at h1
        cases h1
      refine ⟨hjn, gOp_mono (fun a' w' h' => ih _ a' w' (inv.set hj hjn) (fun q oq hq hqi hqd hno => hfree q oq hq hqi ?_ hno) (ready_mono hr (Ne.symm e)) h'.1 (anyH_in h'.2) ?_)
        (gOp_put hoj (hfree j oj hoj e hun hfar) (fun cs b => hsel i o cs b ho) (fun cs b => hsel j oj cs b hoj) hy (hL.2.2 j (ready_mono hj e)).2)⟩
      · by_cases hjq : j = q
        · rw [← hjq]; exact hun
        · rwa [getD_set_ne true hjq] at hqd
      · rw [Array.setIfInBounds_comm _ _ e]
        exact h'.2
/-- the operations from k to n - 2 are plain, may come up in their order and are apart from what does not wait for them; then the (n - 1)-th alone -/
def pieceB (md : Region.Mode) (ops : Array Oper) (n : Nat) : Nat → Nat → Bool
  | 0, k => decide (k + 1 = n) && decide (Region.ready md ops (upTo ops.size k) = [k])
  | f + 1, k => (Region.ready md ops (upTo ops.size k)).contains k && Region.free md ops (upTo ops.size k) k && (match ops[k]? with | some o => plain3B o | none => false) && pieceB md ops n f (k + 1)
theorem anyH_lex {n : Nat} {L : Act → World → Prop} (hsel : Region.noSelect ops = true) (hT : ∀ done, HeadInv md ops n done → ∀ i, i < n → done.getD i true = false → ∀ t, n ≤ t → t ∉ Region.ready md ops done)
    (hb : backB md ops = true) (hr : Region.ready md ops (upTo ops.size n) = [n]) :
    ∀ (l : List Oper) (k : Nat) (a : Act) (w : World), (∀ j, j < l.length → l[j]? = ops[k + j]?) → k + l.length + 1 = n → pieceB md ops n l.length k = true → C w →
      wpQuiet P ops C (fun a' => ∀ w', C w' → gOp P ops (n - 1) (fun a2 w2 => C w2 ∧ L a2 w2) a' w') l a → anyH P md ops C n L (l.length + 1) (upTo ops.size k) a w := by
  intro l
  induction l with
  | nil =>
    intro k a w _ hk hB hw h
    simp only [List.length_nil, pieceB, Bool.and_eq_true, decide_eq_true_eq] at hB
    refine ⟨hw, by rw [hB.2]; simp, fun i hi => ?_⟩
    rw [hB.2] at hi
    obtain rfl : i = k := by simpa using hi
    refine ⟨by omega, ?_⟩
    have h2 := h w hw
    rw [show n - 1 = i by omega] at h2
    refine gOp_mono (fun a2 w2 h3 => ⟨h3.1, ?_, h3.2⟩) h2
    rw [upTo_set, hB.1]
  | cons o l ih =>
    intro k a w hl hk hB hw h
    have ho : ops[k]? = some o := (hl 0 (by simp)).symm
    simp only [List.length_cons, pieceB, Bool.and_eq_true, ho] at hB
    have hkn : k < n := by simp only [List.length_cons] at hk; omega
    have hrk : k ∈ Region.ready md ops (upTo ops.size k) := by simpa using hB.1.1.1
    have hq : qOp P ops C k (wpQuiet P ops C (fun a' => ∀ w', C w' → gOp P ops (n - 1) (fun a2 w2 => C w2 ∧ L a2 w2) a' w') l) a := by unfold qOp; rw [ho]; exact h
    obtain ⟨v, hy, hK⟩ := yieldsIn_of_qOp ho hq
    refine anyH_take ho (Region.noSelect_spec hsel) hT hkn hr (l.length + 1) _ a w (upTo_inv hb (by omega)) (Region.free_spec ho hB.1.1.2) hrk (yx_of3 hB.1.2 hy) hw ?_
    rw [upTo_set]
    refine ih (k + 1) _ w (fun j hj => ?_) ?_ hB.2 hw hK
    · have := hl (j + 1) (by simp; omega)
      rw [show k + 1 + j = k + (j + 1) by omega]
      simpa using this
    · simp only [List.length_cons] at hk
      omega
/-- a walk: quiet operations and the call n - 1, in a class p of worlds; the call n; and so on -/
def callsH (P : Program) (ops : Array Oper) (Q : Exit → Act → World → Prop) (p : World → World → Prop) : List Nat → Nat → List Oper → Act → World → Prop
  | [], _, l, a, w => wpQuiet P ops (fun x => x = w) (fun a3 => Q .normal a3 w) l a
  | n :: ns, k, l, a, w => wpQuiet P ops (fun x => ∃ s : Wd (p w), x = s.w) (fun a' => ∀ w', (∃ s : Wd (p w), w' = s.w) → gOp P ops (n - 1) (fun a1 w1 => (∃ s : Wd (p w), w1 = s.w) ∧ gOp P ops n (fun a2 w2 => callsH P ops Q p ns (n + 1) (l.drop (n + 1 - k)) a2 w2) a1 w1) a' w') (l.take (n - 1 - k)) a
def callsB (md : Region.Mode) (ops : Array Oper) : List Nat → Nat → Bool
  | [], k => Region.lexFrom md ops (ops.size - k) k (upTo ops.size k)
  | n :: ns, k => decide (k + 1 ≤ n) && decide (n < ops.size) && Region.sinkB md ops n && chain2B md ops n && decide (Region.ready md ops (upTo ops.size n) = [n]) && pieceB md ops n (n - 1 - k) k && callsB md ops ns (n + 1)
theorem wpAny_calls {Q : Exit → Act → World → Prop} (p : World → World → Prop) (hp : ∀ w, p w w) (hsel : Region.noSelect ops = true) (hb : backB md ops = true) :
    ∀ (ns : List Nat) (k : Nat) (l : List Oper) (a : Act) (w : World), k ≤ ops.size → (∀ j, l[j]? = ops[k + j]?) → callsB md ops ns k = true → callsH P ops Q p ns k l a w → wpAny P md ops Q (ops.size - k) (upTo ops.size k) a w := by
  intro ns
  induction ns with
  | nil =>
    intro k l a w hk hl hB h
    have hlen : l.length = ops.size - k := by
      have h1 : l.length ≤ ops.size - k := by
        rcases Nat.lt_or_ge (ops.size - k) l.length with h | h
        · have := hl (ops.size - k)
          rw [List.getElem?_eq_getElem h, Array.getElem?_eq_none (by omega)] at this
          cases this
        · exact h
      have h2 : ops.size - k ≤ l.length := by
        rcases Nat.lt_or_ge l.length (ops.size - k) with h | h
        · have := hl l.length
          rw [List.getElem?_eq_none (Nat.le_refl _), Array.getElem?_eq_getElem (by omega)] at this
          cases this
        · exact h
      omega
    have := wpAnyQ_lex (P := P) (ops := ops) (C := fun x => x = w) (md := md) hsel l k (upTo ops.size k) a hl (by rw [hlen]; exact hB) h
    rw [hlen] at this
    exact wpAny_of_quiet (C := fun x => x = w) (Q := fun a3 => Q .normal a3 w) (fun a3 w3 e hq => by subst e; exact hq) _ _ _ _ rfl this
  | cons n ns ih =>
    intro k l a w hk hl hB h
    simp only [callsB, Bool.and_eq_true, decide_eq_true_eq] at hB
    obtain ⟨⟨⟨⟨⟨⟨hkn, hn⟩, hs⟩, hc⟩, hr⟩, hpc⟩, hB⟩ := hB
    have hln : n - k < l.length := by
      rcases Nat.lt_or_ge (n - k) l.length with h | h
      · exact h
      · have := hl (n - k)
        rw [List.getElem?_eq_none h, show k + (n - k) = n by omega, Array.getElem?_eq_getElem hn] at this
        cases this
    have htake : (l.take (n - 1 - k)).length = n - 1 - k := by simp; omega
    have H := anyH_lex (P := P) (C := fun x => ∃ s : Wd (p w), x = s.w) (L := fun a1 w1 => gOp P ops n (fun a2 w2 => callsH P ops Q p ns (n + 1) (l.drop (n + 1 - k)) a2 w2) a1 w1) hsel (tail_waits2 hs hc) hb hr (l.take (n - 1 - k)) k a w
      (fun j hj => by rw [htake] at hj; rw [List.getElem?_take, if_pos hj]; exact hl j) (by omega) (by rw [htake]; exact hpc) ⟨⟨w, hp w⟩, rfl⟩ h
    have H2 := anyH_any (Q := Q) (g := ops.size - (n + 1) + 1) (fun a' w' _ hL => by
      refine ⟨fun h0 => (by rw [hr] at h0; cases h0), fun i hi => ?_⟩
      rw [hr] at hi
      obtain rfl : i = n := by simpa using hi
      refine wpOp_of_gOp (gOp_mono (fun a2 w2 h3 => ?_) hL)
      rw [upTo_set]
      exact ih (i + 1) _ a2 w2 (by omega) (fun j => by rw [List.getElem?_drop, hl]; congr 1; omega) hB h3) _ _ _ _ H
    rw [htake, show n - 1 - k + 1 + (ops.size - (n + 1) + 1) = ops.size - k by omega] at H2
    exact H2
end
theorem wp_region_qk {P : Program} {id : Nat} {Q : Exit → Act → World → Prop} {a : Act} {w : World} {l : List Oper} (p : World → World → Prop) (hp : ∀ w, p w w) (ns : List Nat) (hm : P.follows .mixedOrders = true) (hB : (Region.noSelect l.toArray && backB .any l.toArray && callsB .any l.toArray ns 0) = true)
    (h : callsH P l.toArray Q p ns 0 l a w.drew) : (Code.region id l.toArray true).wp P Q a w := by
  simp only [Bool.and_eq_true] at hB
  refine wp_region_any hm ?_
  have := wpAny_calls (P := P) (Q := Q) p hp hB.1.1 hB.1.2 ns 0 l a w.drew (Nat.zero_le _) (by simp) hB.2 h
  rw [upTo_zero] at this
  exact this
theorem callsH_cons {P : Program} {ops : Array Oper} {Q : Exit → Act → World → Prop} {p : World → World → Prop} {n k : Nat} {ns : List Nat} {l : List Oper} {a : Act} {w : World}
    (h : wpQuiet P ops (fun x => ∃ s : Wd (p w), x = s.w) (fun a' => ∀ w', (∃ s : Wd (p w), w' = s.w) → gOp P ops (n - 1) (fun a1 w1 => (∃ s : Wd (p w), w1 = s.w) ∧ gOp P ops n (fun a2 w2 => callsH P ops Q p ns (n + 1) (l.drop (n + 1 - k)) a2 w2) a1 w1) a' w') (l.take (n - 1 - k)) a) : callsH P ops Q p (n :: ns) k l a w := h
theorem callsH_nil {P : Program} {ops : Array Oper} {Q : Exit → Act → World → Prop} {p : World → World → Prop} {k : Nat} {l : List Oper} {a : Act} {w : World}
    (h : wpQuiet P ops (fun x => x = w) (fun a3 => Q .normal a3 w) l a) : callsH P ops Q p [] k l a w := h
theorem gOp_call {P : Program} {ops : Array Oper} {K : Act → World → Prop} {n : Nat} {o : Oper} {a : Act} {w : World} {f : FuncId} {args : Array Value} (ho : ops[n]? = some o) (hg : Region.wanted o (yielded ops a.tmps) = true)
    (hr : (execOp a.eval o).run P w = .ok (.enter f args) w) (h : Calls P f args w fun e w' => ∃ v, e = .returned v ∧ K (a.put o.dst v) w') : gOp P ops n K a w := by
  unfold gOp
  rw [ho]
  simp only []
  rw [if_pos hg]
  exact .inr ⟨f, args, hr, h⟩
theorem gOp_val {P : Program} {ops : Array Oper} {K : Act → World → Prop} {n : Nat} {o : Oper} {a : Act} {w w' : World} {v : Value} (ho : ops[n]? = some o) (hg : Region.wanted o (yielded ops a.tmps) = true)
    (hr : (execOp a.eval o).run P w = .ok (.value v) w') (h : K (a.put o.dst v) w') : gOp P ops n K a w := by
  unfold gOp
  rw [ho]
  simp only []
  rw [if_pos hg]
  exact .inl ⟨v, w', hr, h⟩
end Go.Proofs.YtldmajifkmcdcaaGreat.G2
