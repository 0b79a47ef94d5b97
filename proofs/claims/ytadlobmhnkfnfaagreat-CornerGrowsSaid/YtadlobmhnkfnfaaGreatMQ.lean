/-
  A region that draws its order: first operations that leave a class of worlds, calls among them, then a row of operations whose order is forced: one walk serves every order. No condition but those typed at each theorem.
-/
import Derived.StillTail
import Derived.Deep.Quiet
import Derived.Test.YtadlobmhnkfnfaaGreatMGen
namespace Go.Proofs.YtadlobmhnkfnfaaGreat
section
variable {P : Program} {ops : Array Oper} {md : Region.Mode} {C : World → Prop}
/-- so many of the first n come up, in any order; then L -/
def anyQ (P : Program) (md : Region.Mode) (ops : Array Oper) (C : World → Prop) (n : Nat) (L : Array Bool → Act → Prop) : Nat → Array Bool → Act → Prop
  | 0, done, a => L done a
  | k + 1, done, a => Region.ready md ops done ≠ [] ∧ ∀ i ∈ Region.ready md ops done, i < n ∧ qOp P ops C i (anyQ P md ops C n L k (done.setIfInBounds i true)) a
theorem anyQ_any {n g : Nat} {L : Array Bool → Act → Prop} {Q : Exit → Act → World → Prop} (hL : ∀ done a w, C w → L done a → wpAny P md ops Q g done a w) :
    ∀ k done a w, C w → anyQ P md ops C n L k done a → wpAny P md ops Q (k + g) done a w := by
  intro k
  induction k with
  | zero =>
    intro done a w hw h
    simpa using hL done a w hw h
  | succ k ih =>
    intro done a w hw h
    rw [show k + 1 + g = (k + g) + 1 by omega]
    exact ⟨fun h0 => absurd h0 h.1, fun i hi => wpOp_of_qOp hw (fun a' w' hw' h' => ih _ a' w' hw' h') (h.2 i hi).2⟩
theorem anyQ_take {n i : Nat} {o : Oper} {v : Value} {L : Array Bool → Act → Prop} (ho : ops[i]? = some o) (hsel : ∀ (j : Nat) (o : Oper) cs b, ops[j]? = some o → o.op ≠ .select cs b)
    (hs : Region.sinkB md ops n = true) (hc : Region.chainB md ops n = true) (hn : n < ops.size) (hin : i < n) (hend : ∀ done a, L done a → ∀ j ∈ Region.ready md ops done, n ≤ j) :
    ∀ k done a, HeadInv md ops n done → (∀ j oj, ops[j]? = some oj → j ≠ i → done.getD j true = false → (∀ e ∈ oj.after, Region.binds md e = true → e.on ≠ i) → o.apart ops oj = true) →
      i ∈ Region.ready md ops done → YieldsIn P ops C o v a → anyQ P md ops C n L k (done.setIfInBounds i true) (a.put o.dst v) → anyQ P md ops C n L (k + 1) done a := by
  intro k
  induction k with
  | zero =>
    intro done a inv _ hr hy hL
    refine ⟨List.ne_nil_of_mem hr, fun j hj => ?_⟩
    have hjn : j < n := Nat.lt_of_not_le fun h => tail_waits hs hc hn inv _ i rfl hin (mem_ready.1 hr).1 j h hj
    by_cases e : j = i
    · subst e
      exact ⟨hjn, hy.qOp ho hL⟩
    · exact absurd hjn (Nat.not_lt.2 (hend _ _ hL j (ready_mono hj e)))
  | succ k ih =>
    intro done a inv hfree hr hy hL
    refine ⟨List.ne_nil_of_mem hr, fun j hj => ?_⟩
    have hjn : j < n := Nat.lt_of_not_le fun h => tail_waits hs hc hn inv _ i rfl hin (mem_ready.1 hr).1 j h hj
    by_cases e : j = i
    · subst e
      exact ⟨hjn, hy.qOp ho hL⟩
    · obtain ⟨hun, oj, hoj, hall⟩ := mem_ready.1 hj
      have hfar : ∀ e ∈ oj.after, Region.binds md e = true → e.on ≠ i := fun e' he hb heq => by
        have h1 := hall e' he hb
        rw [heq, getD_both (mem_ready.1 hr).1] at h1
        cases h1
      refine ⟨hjn, qOp_mono (fun a' h' => ih _ a' (inv.set hj hjn) (fun q oq hq hqi hqd hno => hfree q oq hq hqi ?_ hno) (ready_mono hr (Ne.symm e)) h'.1 ?_)
        (qOp_put hoj (hfree j oj hoj e hun hfar) (fun cs b => hsel i o cs b ho) (fun cs b => hsel j oj cs b hoj) hy (hL.2 j (ready_mono hj e)).2)⟩
      · by_cases hjq : j = q
        · rw [← hjq]; exact hun
        · rwa [getD_set_ne true hjq] at hqd
      · rw [Array.setIfInBounds_comm _ _ e]
        exact h'.2
theorem anyQ_lex {n g : Nat} {Lq : Act → Prop} (hsel : Region.noSelect ops = true) (hs : Region.sinkB md ops n = true) (hc : Region.chainB md ops n = true) (hn : n < ops.size) :
    ∀ (l : List Oper) (k : Nat) (done : Array Bool) (a : Act), (∀ j, j < l.length → l[j]? = ops[k + j]?) → k + l.length = n → HeadInv md ops n done → Region.lexHead md ops g l.length k done = true →
      wpQuiet P ops C Lq l a → anyQ P md ops C n (fun done' a' => Region.seqB md ops g n done' = true ∧ Lq a') l.length done a := by
  intro l
  induction l with
  | nil =>
    intro k done a _ hk _ hB h
    obtain rfl : k = n := by simpa using hk
    exact ⟨hB, h⟩
  | cons o l ih =>
    intro k done a hl hk inv hB h
    have ho : ops[k]? = some o := (hl 0 (by simp)).symm
    simp only [List.length_cons, Region.lexHead, Bool.and_eq_true] at hB
    have hkn : k < n := by simp only [List.length_cons] at hk; omega
    have hr : k ∈ Region.ready md ops done := by simpa using hB.1.1
    have hq : qOp P ops C k (wpQuiet P ops C Lq l) a := by unfold qOp; rw [ho]; exact h
    obtain ⟨v, hy, hK⟩ := yieldsIn_of_qOp ho hq
    refine anyQ_take ho (Region.noSelect_spec hsel) hs hc hn hkn (fun _ _ hL => seqB_ready hL.1) l.length done a inv (Region.free_spec ho hB.1.2) hr hy (ih (k + 1) _ _ (fun j hj => ?_) ?_ (inv.set hr hkn) hB.2 hK)
    · have := hl (j + 1) (by simp; omega)
      rw [show k + 1 + j = k + (j + 1) by omega]
      simpa using this
    · simp only [List.length_cons] at hk
      omega
end
/-- the first n operations leave the class, the others come in their order -/
theorem wp_region_qt {P : Program} {id : Nat} {Q : Exit → Act → World → Prop} {a : Act} {w : World} {l : List Oper} (p : World → Prop) (n : Nat) (hm : P.follows .mixedOrders = true) (hB : Region.lexTailB .any l.toArray n = true) (hw : p w.drew)
    (h : wpQuiet P l.toArray (fun w' => ∃ s : Wd p, w' = s.w) (fun a' => ∀ w', (∃ s : Wd p, w' = s.w) → wpList P l.toArray Q (l.drop n) a' w') (l.take n) a) : (Code.region id l.toArray true).wp P Q a w := by
  simp only [Region.lexTailB, Bool.and_eq_true, decide_eq_true_eq] at hB
  obtain ⟨⟨⟨⟨hsel, hn⟩, hs⟩, hc⟩, hlex⟩ := hB
  have hnl : n < l.length := by simpa using hn
  have htake : (l.take n).length = n := by simp; omega
  have inv : HeadInv .any l.toArray n (Array.replicate l.toArray.size false) :=
    ⟨by simp, fun j _ _ hl => absurd hl (by rw [getD_replicate_false]; decide), fun t _ ht => getD_in (by simpa using ht) (getD_replicate_false _ _)⟩
  have H := anyQ_lex (P := P) (C := fun w' => ∃ s : Wd p, w' = s.w) (md := .any) (g := l.toArray.size - n) hsel hs hc hn (l.take n) 0 _ a (fun j hj => by rw [htake] at hj; simp [hj]) (by simpa using htake) inv (by rw [htake]; exact hlex) h
  refine wp_region_any hm ?_
  have hsz : (l.take n).length + (l.toArray.size - n) = l.toArray.size := by rw [htake]; omega
  have H2 := anyQ_any (Q := Q) (g := l.toArray.size - n) (fun done a' w' hw' hL => by
    have hlen : (l.drop n).length = l.toArray.size - n := by simp
    have := wpAny_of_seq (P := P) (Q' := Q) (l.drop n) n done a' w' (fun j => by simp) (by rw [hlen]; exact hL.1) (hL.2 w' hw')
    rwa [hlen] at this) _ _ a _ ⟨⟨w.drew, hw⟩, rfl⟩ H
  rw [hsz] at H2
  exact H2
end Go.Proofs.YtadlobmhnkfnfaaGreat
/-
  A region that draws its order: operations that leave a class of worlds, then one call, then operations that leave the world alone: one walk serves every order. No condition but those typed at each theorem.
-/
namespace Go.Proofs.YtadlobmhnkfnfaaGreat
section
variable {P : Program} {ops : Array Oper} {md : Region.Mode} {C : World → Prop}
/-- behind the n-th each waits for one from n on -/
def chain2B (md : Region.Mode) (ops : Array Oper) (n : Nat) : Bool :=
  (List.range ops.size).all fun t => decide (t ≤ n) || (List.range t).any (fun j => decide (n ≤ j) && Region.waitsFor md ops t j)
/-- the n-th alone comes up, then the others in any order -/
def midB (md : Region.Mode) (ops : Array Oper) (g n : Nat) (done : Array Bool) : Bool := decide (Region.ready md ops done = [n]) && Region.lexFrom md ops g (n + 1) (done.setIfInBounds n true)
def lexHead2 (md : Region.Mode) (ops : Array Oper) (g : Nat) : Nat → Nat → Array Bool → Bool
  | 0, k, done => midB md ops g k done
  | f + 1, k, done => (Region.ready md ops done).contains k && Region.free md ops done k && lexHead2 md ops g f (k + 1) (done.setIfInBounds k true)
def qcB (md : Region.Mode) (ops : Array Oper) (n : Nat) : Bool :=
  Region.noSelect ops && decide (n < ops.size) && Region.sinkB md ops n && chain2B md ops n && lexHead2 md ops (ops.size - n - 1) n 0 (Array.replicate ops.size false)
theorem midB_ready {g n : Nat} {done : Array Bool} (h : midB md ops g n done = true) : ∀ j ∈ Region.ready md ops done, n ≤ j := by
  intro j hj
  simp only [midB, Bool.and_eq_true, decide_eq_true_eq] at h
  rw [h.1] at hj
  have : j = n := by simpa using hj
  omega
theorem head_waits {n : Nat} (hs : Region.sinkB md ops n = true) {listed : Array Bool} (inv : HeadInv md ops n listed) :
    ∀ (d i : Nat), n - i = d → i < n → listed.getD i true = false → n ∉ Region.ready md ops listed := by
  intro d
  induction d using Nat.strongRecOn with
  | _ d ih =>
    intro i hd hi hun hr
    obtain ⟨_, ot, hot, hall⟩ := mem_ready.1 hr
    have h1 := List.all_eq_true.1 hs i (List.mem_range.2 hi)
    obtain ⟨j, hj, hj2⟩ := List.any_eq_true.1 h1
    simp only [Bool.and_eq_true, decide_eq_true_eq] at hj2
    obtain ⟨oj, hoj, e, he, hb, hon⟩ := Region.waitsFor_spec hj2.2
    have hjle : j ≤ n := by have := List.mem_range.1 hj; omega
    by_cases hjt : j = n
    · subst hjt
      have : oj = ot := Option.some.inj (hoj.symm.trans hot)
      subst this
      have h2 := hall e he hb
      rw [hon, getD_both hun] at h2
      cases h2
    · have hjs : j < listed.size := by rw [inv.size]; exact (Array.getElem?_eq_some_iff.1 hoj).1
      cases hl : listed.getD j false with
      | true =>
        have h2 := inv.closed j oj hoj hl e he hb
        rw [hon, getD_both hun] at h2
        cases h2
      | false => exact ih (n - j) (by omega) j rfl (by omega) (getD_in hjs hl) hr
theorem tail_waits2 {n : Nat} (hs : Region.sinkB md ops n = true) (hc : chain2B md ops n = true) (listed : Array Bool) (inv : HeadInv md ops n listed) (i : Nat) (hi : i < n) (hun : listed.getD i true = false) : ∀ t, n ≤ t → t ∉ Region.ready md ops listed := by
  intro t ht hr
  by_cases htn : t = n
  · subst htn
    exact head_waits hs inv _ i rfl hi hun hr
  · obtain ⟨_, ot, hot, hall⟩ := mem_ready.1 hr
    have htlt : t < ops.size := (Array.getElem?_eq_some_iff.1 hot).1
    have h1 := List.all_eq_true.1 hc t (List.mem_range.2 htlt)
    simp only [Bool.or_eq_true, decide_eq_true_eq] at h1
    rcases h1 with h1 | h1
    · omega
    · obtain ⟨j, hj, hj2⟩ := List.any_eq_true.1 h1
      simp only [Bool.and_eq_true, decide_eq_true_eq] at hj2
      obtain ⟨oj, hoj, e, he, hb, hon⟩ := Region.waitsFor_spec hj2.2
      have : oj = ot := Option.some.inj (hoj.symm.trans hot)
      subst this
      have h2 := hall e he hb
      have h3 := inv.tail j hj2.1 (by have := List.mem_range.1 hj; omega)
      rw [hon, getD_both h3] at h2
      cases h2
theorem anyQ_take2 {n i : Nat} {o : Oper} {v : Value} {L : Array Bool → Act → Prop} (ho : ops[i]? = some o) (hsel : ∀ (j : Nat) (o : Oper) cs b, ops[j]? = some o → o.op ≠ .select cs b)
    (hT : ∀ done, HeadInv md ops n done → ∀ i, i < n → done.getD i true = false → ∀ t, n ≤ t → t ∉ Region.ready md ops done) (hin : i < n) (hend : ∀ done a, L done a → ∀ j ∈ Region.ready md ops done, n ≤ j) :
    ∀ k done a, HeadInv md ops n done → (∀ j oj, ops[j]? = some oj → j ≠ i → done.getD j true = false → (∀ e ∈ oj.after, Region.binds md e = true → e.on ≠ i) → o.apart ops oj = true) →
      i ∈ Region.ready md ops done → YieldsIn P ops C o v a → anyQ P md ops C n L k (done.setIfInBounds i true) (a.put o.dst v) → anyQ P md ops C n L (k + 1) done a := by
  intro k
  induction k with
  | zero =>
    intro done a inv _ hr hy hL
    refine ⟨List.ne_nil_of_mem hr, fun j hj => ?_⟩
    have hjn : j < n := Nat.lt_of_not_le fun h => hT done inv i hin (mem_ready.1 hr).1 j h hj
    by_cases e : j = i
    · subst e
      exact ⟨hjn, hy.qOp ho hL⟩
    · exact absurd hjn (Nat.not_lt.2 (hend _ _ hL j (ready_mono hj e)))
  | succ k ih =>
    intro done a inv hfree hr hy hL
    refine ⟨List.ne_nil_of_mem hr, fun j hj => ?_⟩
    have hjn : j < n := Nat.lt_of_not_le fun h => hT done inv i hin (mem_ready.1 hr).1 j h hj
    by_cases e : j = i
    · subst e
      exact ⟨hjn, hy.qOp ho hL⟩
    · obtain ⟨hun, oj, hoj, hall⟩ := mem_ready.1 hj
      have hfar : ∀ e ∈ oj.after, Region.binds md e = true → e.on ≠ i := fun e' he hb heq => by
        have h1 := hall e' he hb
        rw [heq, getD_both (mem_ready.1 hr).1] at h1
        cases h1
      refine ⟨hjn, qOp_mono (fun a' h' => ih _ a' (inv.set hj hjn) (fun q oq hq hqi hqd hno => hfree q oq hq hqi ?_ hno) (ready_mono hr (Ne.symm e)) h'.1 ?_)
        (qOp_put hoj (hfree j oj hoj e hun hfar) (fun cs b => hsel i o cs b ho) (fun cs b => hsel j oj cs b hoj) hy (hL.2 j (ready_mono hj e)).2)⟩
      · by_cases hjq : j = q
        · rw [← hjq]; exact hun
        · rwa [getD_set_ne true hjq] at hqd
      · rw [Array.setIfInBounds_comm _ _ e]
        exact h'.2
theorem anyQ_lex2 {n g : Nat} {Lq : Act → Prop} (hsel : Region.noSelect ops = true) (hT : ∀ done, HeadInv md ops n done → ∀ i, i < n → done.getD i true = false → ∀ t, n ≤ t → t ∉ Region.ready md ops done) (hn : n < ops.size) :
    ∀ (l : List Oper) (k : Nat) (done : Array Bool) (a : Act), (∀ j, j < l.length → l[j]? = ops[k + j]?) → k + l.length = n → HeadInv md ops n done → lexHead2 md ops g l.length k done = true →
      wpQuiet P ops C Lq l a → anyQ P md ops C n (fun done' a' => midB md ops g n done' = true ∧ Lq a') l.length done a := by
  intro l
  induction l with
  | nil =>
    intro k done a _ hk _ hB h
    obtain rfl : k = n := by simpa using hk
    exact ⟨hB, h⟩
  | cons o l ih =>
    intro k done a hl hk inv hB h
    have ho : ops[k]? = some o := (hl 0 (by simp)).symm
    simp only [List.length_cons, lexHead2, Bool.and_eq_true] at hB
    have hkn : k < n := by simp only [List.length_cons] at hk; omega
    have hr : k ∈ Region.ready md ops done := by simpa using hB.1.1
    have hq : qOp P ops C k (wpQuiet P ops C Lq l) a := by unfold qOp; rw [ho]; exact h
    obtain ⟨v, hy, hK⟩ := yieldsIn_of_qOp ho hq
    refine anyQ_take2 ho (Region.noSelect_spec hsel) hT hkn (fun _ _ hL => midB_ready hL.1) l.length done a inv (Region.free_spec ho hB.1.2) hr hy (ih (k + 1) _ _ (fun j hj => ?_) ?_ (inv.set hr hkn) hB.2 hK)
    · have := hl (j + 1) (by simp; omega)
      rw [show k + 1 + j = k + (j + 1) by omega]
      simpa using this
    · simp only [List.length_cons] at hk
      omega
end
theorem wp_region_qc {P : Program} {id : Nat} {Q : Exit → Act → World → Prop} {a : Act} {w : World} {l : List Oper} (p : World → Prop) (n : Nat) (hm : P.follows .mixedOrders = true) (hB : qcB .any l.toArray n = true) (hw : p w.drew)
    (h : wpQuiet P l.toArray (fun w' => ∃ s : Wd p, w' = s.w) (fun a' => ∀ w', (∃ s : Wd p, w' = s.w) → wpOp P l.toArray Q n (fun a2 w2 => wpQuiet P l.toArray (fun x => x = w2) (fun a3 => Q .normal a3 w2) (l.drop (n + 1)) a2) a' w') (l.take n) a) : (Code.region id l.toArray true).wp P Q a w := by
  simp only [qcB, Bool.and_eq_true, decide_eq_true_eq] at hB
  obtain ⟨⟨⟨⟨hsel, hn⟩, hs⟩, hc⟩, hlex⟩ := hB
  have hnl : n < l.length := by simpa using hn
  have htake : (l.take n).length = n := by simp; omega
  have inv : HeadInv .any l.toArray n (Array.replicate l.toArray.size false) :=
    ⟨by simp, fun j _ _ hl => absurd hl (by rw [getD_replicate_false]; decide), fun t _ ht => getD_in (by simpa using ht) (getD_replicate_false _ _)⟩
  have H := anyQ_lex2 (P := P) (C := fun w' => ∃ s : Wd p, w' = s.w) (md := .any) (g := l.toArray.size - n - 1) hsel (tail_waits2 hs hc) hn (l.take n) 0 _ a (fun j hj => by rw [htake] at hj; simp [hj]) (by simpa using htake) inv (by rw [htake]; exact hlex) h
  refine wp_region_any hm ?_
  have hsz : (l.take n).length + (l.toArray.size - n - 1 + 1) = l.toArray.size := by rw [htake]; omega
  have H2 := anyQ_any (Q := Q) (g := l.toArray.size - n - 1 + 1) (fun done a' w' hw' hL => by
    obtain ⟨hL1, hL2⟩ := hL
    simp only [midB, Bool.and_eq_true, decide_eq_true_eq] at hL1
    refine ⟨fun h0 => (by rw [hL1.1] at h0; cases h0), fun i hi => ?_⟩
    rw [hL1.1] at hi
    have hin : i = n := by simpa using hi
    subst hin
    refine wpOp_mono (fun a2 w2 h3 => ?_) (hL2 w' hw')
    have hlen : (l.drop (i + 1)).length = l.toArray.size - i - 1 := by simp; omega
    have := wpAnyQ_lex (P := P) (ops := l.toArray) (C := fun x => x = w2) (md := .any) hsel (l.drop (i + 1)) (i + 1) (done.setIfInBounds i true) a2 (fun j => by simp) (by rw [hlen]; exact hL1.2) h3
    rw [hlen] at this
    exact wpAny_of_quiet (C := fun x => x = w2) (Q := fun a3 => Q .normal a3 w2) (fun a3 w3 e hq => by subst e; exact hq) _ _ _ _ rfl this) _ _ a _ ⟨⟨w.drew, hw⟩, rfl⟩ H
  rw [hsz] at H2
  exact H2
end Go.Proofs.YtadlobmhnkfnfaaGreat
/-
  A region that draws its order: quiet operations and a call among them, then a call that waits for all of them, and so on: one walk serves every order. No condition but those typed at each theorem.
-/
namespace Go.Proofs.YtadlobmhnkfnfaaGreat
section
variable {P : Program} {ops : Array Oper} {md : Region.Mode} {C : World → Prop}
/-- the first n are done -/
def upTo (m n : Nat) : Array Bool := ((List.range m).map fun i => decide (i < n)).toArray
theorem upTo_size (m n : Nat) : (upTo m n).size = m := by simp [upTo]
theorem upTo_getD {m n i : Nat} {d : Bool} (h : i < m) : (upTo m n).getD i d = decide (i < n) := by simp [upTo, h]
/-- each waits for what stands ahead of it alone -/
def backB (md : Region.Mode) (ops : Array Oper) : Bool :=
  (List.range ops.size).all fun j => match ops[j]? with
    | some o => o.after.all fun e => !Region.binds md e || decide (e.on < j)
    | none => true
theorem upTo_inv (hb : backB md ops = true) {k n : Nat} (hk : k ≤ n) : HeadInv md ops n (upTo ops.size k) := by
  refine ⟨upTo_size _ _, fun j oj hj hl e he hbi => ?_, fun t ht hts => ?_⟩
  · have hjs : j < ops.size := (Array.getElem?_eq_some_iff.1 hj).1
    rw [upTo_getD hjs] at hl
    have hjk : j < k := by simpa using hl
    have h1 := List.all_eq_true.1 hb j (List.mem_range.2 hjs)
    simp only [hj] at h1
    have h2 := Array.all_eq_true'.1 h1 e he
    rw [hbi] at h2
    have h3 : e.on < j := by simpa using h2
    rw [upTo_getD (by omega)]
    simp; omega
  · rw [upTo_getD hts]
    simp; omega
end
end Go.Proofs.YtadlobmhnkfnfaaGreat
/-
  A region that draws its order: some operations that yield the same in any world were taken first; then operations that leave a class of worlds, one call, and operations that leave the world alone: one walk serves every order. No condition but those typed at each theorem.
-/
namespace Go.Proofs.YtadlobmhnkfnfaaGreat
section
variable {P : Program} {ops : Array Oper} {md : Region.Mode} {C : World → Prop}
def sinkK (md : Region.Mode) (ops : Array Oper) (k n : Nat) : Bool :=
  (List.range n).all fun i => decide (i < k) || (List.range (n + 1)).any fun j => decide (i < j) && Region.waitsFor md ops j i
/-- those ahead of k were taken -/
structure HeadInvK (md : Region.Mode) (ops : Array Oper) (k n : Nat) (listed : Array Bool) : Prop where
  inv : HeadInv md ops n listed
  low : ∀ i, i < k → listed.getD i false = true
theorem HeadInvK.set {k n i : Nat} {listed : Array Bool} (h : HeadInvK md ops k n listed) (hi : i ∈ Region.ready md ops listed) (hin : i < n) : HeadInvK md ops k n (listed.setIfInBounds i true) :=
  ⟨h.inv.set hi hin, fun j hj => getD_set_true (h.low j hj)⟩
theorem head_waitsK {k n : Nat} (hs : sinkK md ops k n = true) {listed : Array Bool} (inv : HeadInvK md ops k n listed) :
    ∀ (d i : Nat), n - i = d → i < n → listed.getD i true = false → n ∉ Region.ready md ops listed := by
  intro d
  induction d using Nat.strongRecOn with
  | _ d ih =>
    intro i hd hi hun hr
    obtain ⟨_, ot, hot, hall⟩ := mem_ready.1 hr
    have h1 := List.all_eq_true.1 hs i (List.mem_range.2 hi)
    have hki : ¬ i < k := fun c => by
      have := inv.low i c
      rw [getD_both hun] at this
      cases this
    rw [decide_eq_false hki, Bool.false_or] at h1
    obtain ⟨j, hj, hj2⟩ := List.any_eq_true.1 h1
    simp only [Bool.and_eq_true, decide_eq_true_eq] at hj2
    obtain ⟨oj, hoj, e, he, hb, hon⟩ := Region.waitsFor_spec hj2.2
    have hjle : j ≤ n := by have := List.mem_range.1 hj; omega
    by_cases hjt : j = n
    · subst hjt
      have : oj = ot := Option.some.inj (hoj.symm.trans hot)
      subst this
      have h2 := hall e he hb
      rw [hon, getD_both hun] at h2
      cases h2
    · have hjs : j < listed.size := by rw [inv.inv.size]; exact (Array.getElem?_eq_some_iff.1 hoj).1
      cases hl : listed.getD j false with
      | true =>
        have h2 := inv.inv.closed j oj hoj hl e he hb
        rw [hon, getD_both hun] at h2
        cases h2
      | false => exact ih (n - j) (by omega) j rfl (by omega) (getD_in hjs hl) hr
theorem tail_waitsK {k n : Nat} (hs : sinkK md ops k n = true) (hc : chain2B md ops n = true) (listed : Array Bool) (inv : HeadInvK md ops k n listed) (i : Nat) (hi : i < n) (hun : listed.getD i true = false) : ∀ t, n ≤ t → t ∉ Region.ready md ops listed := by
  intro t ht hr
  by_cases htn : t = n
  · subst htn
    exact head_waitsK hs inv _ i rfl hi hun hr
  · obtain ⟨_, ot, hot, hall⟩ := mem_ready.1 hr
    have htlt : t < ops.size := (Array.getElem?_eq_some_iff.1 hot).1
    have h1 := List.all_eq_true.1 hc t (List.mem_range.2 htlt)
    simp only [Bool.or_eq_true, decide_eq_true_eq] at h1
    rcases h1 with h1 | h1
    · omega
    · obtain ⟨j, hj, hj2⟩ := List.any_eq_true.1 h1
      simp only [Bool.and_eq_true, decide_eq_true_eq] at hj2
      obtain ⟨oj, hoj, e, he, hb, hon⟩ := Region.waitsFor_spec hj2.2
      have : oj = ot := Option.some.inj (hoj.symm.trans hot)
      subst this
      have h2 := hall e he hb
      have h3 := inv.inv.tail j hj2.1 (by have := List.mem_range.1 hj; omega)
      rw [hon, getD_both h3] at h2
      cases h2
theorem anyQ_takeK {k0 n i : Nat} {o : Oper} {v : Value} {L : Array Bool → Act → Prop} (ho : ops[i]? = some o) (hsel : ∀ (j : Nat) (o : Oper) cs b, ops[j]? = some o → o.op ≠ .select cs b)
    (hT : ∀ done, HeadInvK md ops k0 n done → ∀ i, i < n → done.getD i true = false → ∀ t, n ≤ t → t ∉ Region.ready md ops done) (hin : i < n) (hend : ∀ done a, L done a → ∀ j ∈ Region.ready md ops done, n ≤ j) :
    ∀ k done a, HeadInvK md ops k0 n done → (∀ j oj, ops[j]? = some oj → j ≠ i → done.getD j true = false → (∀ e ∈ oj.after, Region.binds md e = true → e.on ≠ i) → o.apart ops oj = true) →
      i ∈ Region.ready md ops done → YieldsIn P ops C o v a → anyQ P md ops C n L k (done.setIfInBounds i true) (a.put o.dst v) → anyQ P md ops C n L (k + 1) done a := by
  intro k
  induction k with
  | zero =>
    intro done a inv _ hr hy hL
    refine ⟨List.ne_nil_of_mem hr, fun j hj => ?_⟩
    have hjn : j < n := Nat.lt_of_not_le fun h => hT done inv i hin (mem_ready.1 hr).1 j h hj
    by_cases e : j = i
    · subst e
      exact ⟨hjn, hy.qOp ho hL⟩
    · exact absurd hjn (Nat.not_lt.2 (hend _ _ hL j (ready_mono hj e)))
  | succ k ih =>
    intro done a inv hfree hr hy hL
    refine ⟨List.ne_nil_of_mem hr, fun j hj => ?_⟩
    have hjn : j < n := Nat.lt_of_not_le fun h => hT done inv i hin (mem_ready.1 hr).1 j h hj
    by_cases e : j = i
    · subst e
      exact ⟨hjn, hy.qOp ho hL⟩
    · obtain ⟨hun, oj, hoj, hall⟩ := mem_ready.1 hj
      have hfar : ∀ e ∈ oj.after, Region.binds md e = true → e.on ≠ i := fun e' he hb heq => by
        have h1 := hall e' he hb
        rw [heq, getD_both (mem_ready.1 hr).1] at h1
        cases h1
      refine ⟨hjn, qOp_mono (fun a' h' => ih _ a' (inv.set hj hjn) (fun q oq hq hqi hqd hno => hfree q oq hq hqi ?_ hno) (ready_mono hr (Ne.symm e)) h'.1 ?_)
        (qOp_put hoj (hfree j oj hoj e hun hfar) (fun cs b => hsel i o cs b ho) (fun cs b => hsel j oj cs b hoj) hy (hL.2 j (ready_mono hj e)).2)⟩
      · by_cases hjq : j = q
        · rw [← hjq]; exact hun
        · rwa [getD_set_ne true hjq] at hqd
      · rw [Array.setIfInBounds_comm _ _ e]
        exact h'.2
theorem anyQ_lexK {k0 n g : Nat} {Lq : Act → Prop} (hsel : Region.noSelect ops = true) (hT : ∀ done, HeadInvK md ops k0 n done → ∀ i, i < n → done.getD i true = false → ∀ t, n ≤ t → t ∉ Region.ready md ops done) (hn : n < ops.size) :
    ∀ (l : List Oper) (k : Nat) (done : Array Bool) (a : Act), (∀ j, j < l.length → l[j]? = ops[k + j]?) → k + l.length = n → HeadInvK md ops k0 n done → lexHead2 md ops g l.length k done = true →
      wpQuiet P ops C Lq l a → anyQ P md ops C n (fun done' a' => midB md ops g n done' = true ∧ Lq a') l.length done a := by
  intro l
  induction l with
  | nil =>
    intro k done a _ hk _ hB h
    obtain rfl : k = n := by simpa using hk
    exact ⟨hB, h⟩
  | cons o l ih =>
    intro k done a hl hk inv hB h
    have ho : ops[k]? = some o := (hl 0 (by simp)).symm
    simp only [List.length_cons, lexHead2, Bool.and_eq_true] at hB
    have hkn : k < n := by simp only [List.length_cons] at hk; omega
    have hr : k ∈ Region.ready md ops done := by simpa using hB.1.1
    have hq : qOp P ops C k (wpQuiet P ops C Lq l) a := by unfold qOp; rw [ho]; exact h
    obtain ⟨v, hy, hK⟩ := yieldsIn_of_qOp ho hq
    refine anyQ_takeK ho (Region.noSelect_spec hsel) hT hkn (fun _ _ hL => midB_ready hL.1) l.length done a inv (Region.free_spec ho hB.1.2) hr hy (ih (k + 1) _ _ (fun j hj => ?_) ?_ (inv.set hr hkn) hB.2 hK)
    · have := hl (j + 1) (by simp; omega)
      rw [show k + 1 + j = k + (j + 1) by omega]
      simpa using this
    · simp only [List.length_cons] at hk
      omega
end
def q2B (md : Region.Mode) (ops : Array Oper) (k n : Nat) : Bool :=
  Region.noSelect ops && backB md ops && decide (k ≤ n) && decide (n < ops.size) && sinkK md ops k n && chain2B md ops n && lexHead2 md ops (ops.size - n - 1) (n - k) k (upTo ops.size k)
theorem wpAny_q2 {P : Program} {Q : Exit → Act → World → Prop} {a : Act} {w : World} {l : List Oper} {fuel : Nat} {done : Array Bool} (p : World → Prop) (k n : Nat) (hB : q2B .any l.toArray k n = true) (hd : done = upTo l.toArray.size k) (hf : fuel = l.toArray.size - k) (hw : p w)
    (h : wpQuiet P l.toArray (fun w' => ∃ s : Wd p, w' = s.w) (fun a' => ∀ w', (∃ s : Wd p, w' = s.w) → wpOp P l.toArray Q n (fun a2 w2 => wpQuiet P l.toArray (fun x => x = w2) (fun a3 => Q .normal a3 w2) (l.drop (n + 1)) a2) a' w') ((l.drop k).take (n - k)) a) : wpAny P .any l.toArray Q fuel done a w := by
  simp only [q2B, Bool.and_eq_true, decide_eq_true_eq] at hB
  obtain ⟨⟨⟨⟨⟨⟨hsel, hb⟩, hkn⟩, hn⟩, hs⟩, hc⟩, hlex⟩ := hB
  subst hd
  subst hf
  have hnl : n < l.length := by simpa using hn
  have htake : ((l.drop k).take (n - k)).length = n - k := by simp; omega
  have inv : HeadInvK .any l.toArray k n (upTo l.toArray.size k) :=
    ⟨upTo_inv hb hkn, fun i hi => by rw [upTo_getD (by omega)]; simpa using hi⟩
  have H := anyQ_lexK (P := P) (C := fun w' => ∃ s : Wd p, w' = s.w) (md := .any) (g := l.toArray.size - n - 1) hsel (tail_waitsK hs hc) hn ((l.drop k).take (n - k)) k _ a (fun j hj => by rw [htake] at hj; simp [hj]) (by rw [htake]; omega) inv (by rw [htake]; exact hlex) h
  have hsz : ((l.drop k).take (n - k)).length + (l.toArray.size - n - 1 + 1) = l.toArray.size - k := by rw [htake]; omega
  have H2 := anyQ_any (Q := Q) (g := l.toArray.size - n - 1 + 1) (fun done a' w' hw' hL => by
    obtain ⟨hL1, hL2⟩ := hL
    simp only [midB, Bool.and_eq_true, decide_eq_true_eq] at hL1
    refine ⟨fun h0 => (by rw [hL1.1] at h0; cases h0), fun i hi => ?_⟩
    rw [hL1.1] at hi
    have hin : i = n := by simpa using hi
    subst hin
    refine wpOp_mono (fun a2 w2 h3 => ?_) (hL2 w' hw')
    have hlen : (l.drop (i + 1)).length = l.toArray.size - i - 1 := by simp; omega
    have := wpAnyQ_lex (P := P) (ops := l.toArray) (C := fun x => x = w2) (md := .any) hsel (l.drop (i + 1)) (i + 1) (done.setIfInBounds i true) a2 (fun j => by simp) (by rw [hlen]; exact hL1.2) h3
    rw [hlen] at this
    exact wpAny_of_quiet (C := fun x => x = w2) (Q := fun a3 => Q .normal a3 w2) (fun a3 w3 e hq => by subst e; exact hq) _ _ _ _ rfl this) _ _ a _ ⟨⟨w, hw⟩, rfl⟩ H
  rw [hsz] at H2
  exact H2
end Go.Proofs.YtadlobmhnkfnfaaGreat
/-
  A region that draws its order: some operations that yield the same in any world were taken first; then operations that leave a class of worlds, some that come up alone, one behind the other, and operations that leave the world alone: one walk serves every order. No condition but those typed at each theorem.
-/
namespace Go.Proofs.YtadlobmhnkfnfaaGreat
section
variable {P : Program} {ops : Array Oper} {md : Region.Mode} {C : World → Prop}
/-- n, n + 1 .. come up alone, one behind the other, then the others in any order -/
def forcedB (md : Region.Mode) (ops : Array Oper) (g : Nat) : Nat → Nat → Array Bool → Bool
  | 0, n, done => midB md ops g n done
  | f + 1, n, done => decide (Region.ready md ops done = [n]) && forcedB md ops g f (n + 1) (done.setIfInBounds n true)
def forcedK (P : Program) (ops : Array Oper) (Q : Exit → Act → World → Prop) (l : List Oper) : Nat → Nat → Act → World → Prop
  | 0, n, a, w => wpOp P ops Q n (fun a2 w2 => wpQuiet P ops (fun x => x = w2) (fun a3 => Q .normal a3 w2) (l.drop (n + 1)) a2) a w
  | f + 1, n, a, w => wpOp P ops Q n (fun a2 w2 => forcedK P ops Q l f (n + 1) a2 w2) a w
theorem forcedB_ready {g f n : Nat} {done : Array Bool} (h : forcedB md ops g f n done = true) : ∀ j ∈ Region.ready md ops done, n ≤ j := by
  cases f with
  | zero => exact midB_ready h
  | succ f =>
    intro j hj
    simp only [forcedB, Bool.and_eq_true, decide_eq_true_eq] at h
    rw [h.1] at hj
    have : j = n := by simpa using hj
    omega
def lexHeadF (md : Region.Mode) (ops : Array Oper) (g r : Nat) : Nat → Nat → Array Bool → Bool
  | 0, k, done => forcedB md ops g r k done
  | f + 1, k, done => (Region.ready md ops done).contains k && Region.free md ops done k && lexHeadF md ops g r f (k + 1) (done.setIfInBounds k true)
theorem anyQ_lexF {k0 n g r : Nat} {Lq : Act → Prop} (hsel : Region.noSelect ops = true) (hT : ∀ done, HeadInvK md ops k0 n done → ∀ i, i < n → done.getD i true = false → ∀ t, n ≤ t → t ∉ Region.ready md ops done) (hn : n < ops.size) :
    ∀ (l : List Oper) (k : Nat) (done : Array Bool) (a : Act), (∀ j, j < l.length → l[j]? = ops[k + j]?) → k + l.length = n → HeadInvK md ops k0 n done → lexHeadF md ops g r l.length k done = true →
      wpQuiet P ops C Lq l a → anyQ P md ops C n (fun done' a' => forcedB md ops g r n done' = true ∧ Lq a') l.length done a := by
  intro l
  induction l with
  | nil =>
    intro k done a _ hk _ hB h
    obtain rfl : k = n := by simpa using hk
    exact ⟨hB, h⟩
  | cons o l ih =>
    intro k done a hl hk inv hB h
    have ho : ops[k]? = some o := (hl 0 (by simp)).symm
    simp only [List.length_cons, lexHeadF, Bool.and_eq_true] at hB
    have hkn : k < n := by simp only [List.length_cons] at hk; omega
    have hr : k ∈ Region.ready md ops done := by simpa using hB.1.1
    have hq : qOp P ops C k (wpQuiet P ops C Lq l) a := by unfold qOp; rw [ho]; exact h
    obtain ⟨v, hy, hK⟩ := yieldsIn_of_qOp ho hq
    refine anyQ_takeK ho (Region.noSelect_spec hsel) hT hkn (fun _ _ hL => forcedB_ready hL.1) l.length done a inv (Region.free_spec ho hB.1.2) hr hy (ih (k + 1) _ _ (fun j hj => ?_) ?_ (inv.set hr hkn) hB.2 hK)
    · have := hl (j + 1) (by simp; omega)
      rw [show k + 1 + j = k + (j + 1) by omega]
      simpa using this
    · simp only [List.length_cons] at hk
      omega
end
theorem wpAny_forced {P : Program} {Q : Exit → Act → World → Prop} {l : List Oper} (hsel : Region.noSelect l.toArray = true) :
    ∀ (f n : Nat) (done : Array Bool) (a : Act) (w : World), n + f < l.toArray.size → forcedB .any l.toArray (l.toArray.size - (n + f) - 1) f n done = true → forcedK P l.toArray Q l f n a w → wpAny P .any l.toArray Q (l.toArray.size - n) done a w := by
  intro f
  induction f with
  | zero =>
    intro n done a w hn hB h
    rw [Nat.add_zero] at hn hB
    simp only [forcedB, midB, Bool.and_eq_true, decide_eq_true_eq] at hB
    rw [show l.toArray.size - n = l.toArray.size - n - 1 + 1 by omega]
    refine ⟨fun h0 => (by rw [hB.1] at h0; cases h0), fun i hi => ?_⟩
    rw [hB.1] at hi
    have hin : i = n := by simpa using hi
    subst hin
    unfold forcedK at h
    refine wpOp_mono (fun a2 w2 h3 => ?_) h
    have hlen : (l.drop (i + 1)).length = l.toArray.size - i - 1 := by simp; omega
    have := wpAnyQ_lex (P := P) (ops := l.toArray) (C := fun x => x = w2) (md := .any) hsel (l.drop (i + 1)) (i + 1) (done.setIfInBounds i true) a2 (fun j => by simp) (by rw [hlen]; exact hB.2) h3
    rw [hlen] at this
    exact wpAny_of_quiet (C := fun x => x = w2) (Q := fun a3 => Q .normal a3 w2) (fun a3 w3 e hq => by subst e; exact hq) _ _ _ _ rfl this
  | succ f ih =>
    intro n done a w hn hB h
    simp only [forcedB, Bool.and_eq_true, decide_eq_true_eq] at hB
    rw [show l.toArray.size - n = l.toArray.size - (n + 1) + 1 by omega]
    refine ⟨fun h0 => (by rw [hB.1] at h0; cases h0), fun i hi => ?_⟩
    rw [hB.1] at hi
    have hin : i = n := by simpa using hi
    subst hin
    unfold forcedK at h
    exact wpOp_mono (fun a2 w2 h3 => ih (i + 1) _ a2 w2 (by omega) (by rw [show i + 1 + f = i + (f + 1) by omega]; exact hB.2) h3) h
def qfB (md : Region.Mode) (ops : Array Oper) (k n r : Nat) : Bool :=
  Region.noSelect ops && backB md ops && decide (k ≤ n) && decide (n + r < ops.size) && sinkK md ops k n && chain2B md ops n && lexHeadF md ops (ops.size - (n + r) - 1) r (n - k) k (upTo ops.size k)
theorem wpAny_qf {P : Program} {Q : Exit → Act → World → Prop} {a : Act} {w : World} {l : List Oper} {fuel : Nat} {done : Array Bool} (p : World → Prop) (k n r : Nat) (hB : qfB .any l.toArray k n r = true) (hd : done = upTo l.toArray.size k) (hf : fuel = l.toArray.size - k) (hw : p w)
    (h : wpQuiet P l.toArray (fun w' => ∃ s : Wd p, w' = s.w) (fun a' => ∀ w', (∃ s : Wd p, w' = s.w) → forcedK P l.toArray Q l r n a' w') ((l.drop k).take (n - k)) a) : wpAny P .any l.toArray Q fuel done a w := by
  simp only [qfB, Bool.and_eq_true, decide_eq_true_eq] at hB
  obtain ⟨⟨⟨⟨⟨⟨hsel, hb⟩, hkn⟩, hn⟩, hs⟩, hc⟩, hlex⟩ := hB
  subst hd
  subst hf
  have hnl : n < l.length := by have : n + r < l.length := by simpa using hn
                                omega
  have htake : ((l.drop k).take (n - k)).length = n - k := by simp; omega
  have inv : HeadInvK .any l.toArray k n (upTo l.toArray.size k) :=
    ⟨upTo_inv hb hkn, fun i hi => by rw [upTo_getD (by omega)]; simpa using hi⟩
  have H := anyQ_lexF (P := P) (C := fun w' => ∃ s : Wd p, w' = s.w) (md := .any) (g := l.toArray.size - (n + r) - 1) (r := r) hsel (tail_waitsK hs hc) (by omega) ((l.drop k).take (n - k)) k _ a (fun j hj => by rw [htake] at hj; simp [hj]) (by rw [htake]; omega) inv (by rw [htake]; exact hlex) h
  have hsz : ((l.drop k).take (n - k)).length + (l.toArray.size - n) = l.toArray.size - k := by rw [htake]; omega
  have H2 := anyQ_any (Q := Q) (g := l.toArray.size - n) (fun done a' w' hw' hL => wpAny_forced hsel r n done a' w' hn hL.1 (hL.2 w' hw')) _ _ a _ ⟨⟨w, hw⟩, rfl⟩ H
  rw [hsz] at H2
  exact H2
/-- an operation that comes up and hands a value on -/
theorem wpOp_val {P : Program} {ops : Array Oper} {Q : Exit → Act → World → Prop} {K : Act → World → Prop} {n : Nat} {o : Oper} {a : Act} {w w' : World} {v : Value} (ho : ops[n]? = some o) (hg : o.guard = none)
    (hr : (execOp a.eval o).run P w = .ok (.value v) w') (h : K (a.put o.dst v) w') : wpOp P ops Q n K a w := by
  unfold wpOp
  rw [ho]
  simp only []
  rw [if_pos (by simp [Region.wanted, hg])]
  left
  unfold Oper.wp
  rw [hr, Oper.upon_value]
  exact h
end Go.Proofs.YtadlobmhnkfnfaaGreat
