/-
  A region that draws its order: some operations that yield the same in any world were taken first; then operations that leave a class of worlds, one call, and operations that leave the world alone: one walk serves every order. No condition but those typed at each theorem.
-/
import Derived.Test.YtfcpfffgodljeaaGreatMQ
namespace Go.Proofs.YtfcpfffgodljeaaGreat

section
variable {P : Program} {ops : Array Oper} {md : Region.Mode} {C : World → Prop}
def sinkK (md : Region.Mode) (ops : Array Oper) (k n : Nat) : Bool :=
  (List.range n).all fun i => decide (i < k) || (List.range (n + 1)).any fun j => decide (i < j) && Region.waitsFor md ops j i
/-- those ahead of k were taken -/
structure HeadInvK (md : Region.Mode) (ops : Array Oper) (k n : Nat) (listed : Array Bool) : Prop where
  inv : HeadInv md ops n listed
  low : ∀ i, i < k → listed.getD i false = true
theorem HeadInvK.set {k n i : Nat} {listed : Array Bool} (h : HeadInvK md ops k n listed) (hi : i ∈ Region.ready md ops listed) (hin : i < n) : HeadInvK md ops k n (listed.setIfInBounds i true) :=
  ⟨h.inv.set hi hin, fun j hj => getD_set_true (h.low j hj)⟩
theorem head_waitsK {k n : Nat} (hs : sinkK md ops k n = true) {listed : Array Bool} (inv : HeadInvK md ops k n listed) :
    ∀ (d i : Nat), n - i = d → i < n → listed.getD i true = false → n ∉ Region.ready md ops listed := by
  intro d
  induction d using Nat.strongRecOn with
  | _ d ih =>
    intro i hd hi hun hr
    obtain ⟨_, ot, hot, hall⟩ := mem_ready.1 hr
    have h1 := List.all_eq_true.1 hs i (List.mem_range.2 hi)
    have hki : ¬ i < k := fun c => by
      have := inv.low i c
      rw [getD_both hun] at this
      cases this
    rw [decide_eq_false hki, Bool.false_or] at h1
    obtain ⟨j, hj, hj2⟩ := List.any_eq_true.1 h1
    simp only [Bool.and_eq_true, decide_eq_true_eq] at hj2
    obtain ⟨oj, hoj, e, he, hb, hon⟩ := Region.waitsFor_spec hj2.2
    have hjle : j ≤ n := by have := List.mem_range.1 hj; omega
    by_cases hjt : j = n
    · subst hjt
      have : oj = ot := Option.some.inj (hoj.symm.trans hot)
      subst this
      have h2 := hall e he hb
      rw [hon, getD_both hun] at h2
      cases h2
    · have hjs : j < listed.size := by rw [inv.inv.size]; exact (Array.getElem?_eq_some_iff.1 hoj).1
      cases hl : listed.getD j false with
      | true =>
        have h2 := inv.inv.closed j oj hoj hl e he hb
        rw [hon, getD_both hun] at h2
        cases h2
      | false => exact ih (n - j) (by omega) j rfl (by omega) (getD_in hjs hl) hr
theorem tail_waitsK {k n : Nat} (hs : sinkK md ops k n = true) (hc : chain2B md ops n = true) (listed : Array Bool) (inv : HeadInvK md ops k n listed) (i : Nat) (hi : i < n) (hun : listed.getD i true = false) : ∀ t, n ≤ t → t ∉ Region.ready md ops listed := by
  intro t ht hr
  by_cases htn : t = n
  · subst htn
    exact head_waitsK hs inv _ i rfl hi hun hr
  · obtain ⟨_, ot, hot, hall⟩ := mem_ready.1 hr
    have htlt : t < ops.size := (Array.getElem?_eq_some_iff.1 hot).1
    have h1 := List.all_eq_true.1 hc t (List.mem_range.2 htlt)
    simp only [Bool.or_eq_true, decide_eq_true_eq] at h1
    rcases h1 with h1 | h1
    · omega
    · obtain ⟨j, hj, hj2⟩ := List.any_eq_true.1 h1
      simp only [Bool.and_eq_true, decide_eq_true_eq] at hj2
      obtain ⟨oj, hoj, e, he, hb, hon⟩ := Region.waitsFor_spec hj2.2
      have : oj = ot := Option.some.inj (hoj.symm.trans hot)
      subst this
      have h2 := hall e he hb
      have h3 := inv.inv.tail j hj2.1 (by have := List.mem_range.1 hj; omega)
      rw [hon, getD_both h3] at h2
      cases h2

theorem anyQ_takeK {k0 n i : Nat} {o : Oper} {v : Value} {L : Array Bool → Act → Prop} (ho : ops[i]? = some o) (hsel : ∀ (j : Nat) (o : Oper) cs b, ops[j]? = some o → o.op ≠ .select cs b)
    (hT : ∀ done, HeadInvK md ops k0 n done → ∀ i, i < n → done.getD i true = false → ∀ t, n ≤ t → t ∉ Region.ready md ops done) (hin : i < n) (hend : ∀ done a, L done a → ∀ j ∈ Region.ready md ops done, n ≤ j) :
    ∀ k done a, HeadInvK md ops k0 n done → (∀ j oj, ops[j]? = some oj → j ≠ i → done.getD j true = false → (∀ e ∈ oj.after, Region.binds md e = true → e.on ≠ i) → o.apart ops oj = true) →
      i ∈ Region.ready md ops done → YieldsIn P ops C o v a → anyQ P md ops C n L k (done.setIfInBounds i true) (a.put o.dst v) → anyQ P md ops C n L (k + 1) done a := by
  intro k
  induction k with
  | zero =>
    intro done a inv _ hr hy hL
    refine ⟨List.ne_nil_of_mem hr, fun j hj => ?_⟩
    have hjn : j < n := Nat.lt_of_not_le fun h => hT done inv i hin (mem_ready.1 hr).1 j h hj
    by_cases e : j = i
    · subst e
      exact ⟨hjn, hy.qOp ho hL⟩
    · exact absurd hjn (Nat.not_lt.2 (hend _ _ hL j (ready_mono hj e)))
  | succ k ih =>
    intro done a inv hfree hr hy hL
    refine ⟨List.ne_nil_of_mem hr, fun j hj => ?_⟩
    have hjn : j < n := Nat.lt_of_not_le fun h => hT done inv i hin (mem_ready.1 hr).1 j h hj
    by_cases e : j = i
    · subst e
      exact ⟨hjn, hy.qOp ho hL⟩
    · obtain ⟨hun, oj, hoj, hall⟩ := mem_ready.1 hj
      have hfar : ∀ e ∈ oj.after, Region.binds md e = true → e.on ≠ i := fun e' he hb heq => by
        have h1 := hall e' he hb
        rw [heq, getD_both (mem_ready.1 hr).1] at h1
        cases h1
      refine ⟨hjn, qOp_mono (fun a' h' => ih _ a' (inv.set hj hjn) (fun q oq hq hqi hqd hno => hfree q oq hq hqi ?_ hno) (ready_mono hr (Ne.symm e)) h'.1 ?_)
        (qOp_put hoj (hfree j oj hoj e hun hfar) (fun cs b => hsel i o cs b ho) (fun cs b => hsel j oj cs b hoj) hy (hL.2 j (ready_mono hj e)).2)⟩
      · by_cases hjq : j = q
        · rw [← hjq]; exact hun
        · rwa [getD_set_ne true hjq] at hqd
      · rw [Array.setIfInBounds_comm _ _ e]
        exact h'.2

theorem anyQ_lexK {k0 n g : Nat} {Lq : Act → Prop} (hsel : Region.noSelect ops = true) (hT : ∀ done, HeadInvK md ops k0 n done → ∀ i, i < n → done.getD i true = false → ∀ t, n ≤ t → t ∉ Region.ready md ops done) (hn : n < ops.size) :
    ∀ (l : List Oper) (k : Nat) (done : Array Bool) (a : Act), (∀ j, j < l.length → l[j]? = ops[k + j]?) → k + l.length = n → HeadInvK md ops k0 n done → lexHead2 md ops g l.length k done = true →
      wpQuiet P ops C Lq l a → anyQ P md ops C n (fun done' a' => midB md ops g n done' = true ∧ Lq a') l.length done a := by
  intro l
  induction l with
  | nil =>
    intro k done a _ hk _ hB h
    obtain rfl : k = n := by simpa using hk
    exact ⟨hB, h⟩
  | cons o l ih =>
    intro k done a hl hk inv hB h
    have ho : ops[k]? = some o := (hl 0 (by simp)).symm
    simp only [List.length_cons, lexHead2, Bool.and_eq_true] at hB
    have hkn : k < n := by simp only [List.length_cons] at hk; omega
    have hr : k ∈ Region.ready md ops done := by simpa using hB.1.1
    have hq : qOp P ops C k (wpQuiet P ops C Lq l) a := by unfold qOp; rw [ho]; exact h
    obtain ⟨v, hy, hK⟩ := yieldsIn_of_qOp ho hq
    refine anyQ_takeK ho (Region.noSelect_spec hsel) hT hkn (fun _ _ hL => midB_ready hL.1) l.length done a inv (Region.free_spec ho hB.1.2) hr hy (ih (k + 1) _ _ (fun j hj => ?_) ?_ (inv.set hr hkn) hB.2 hK)
    · have := hl (j + 1) (by simp; omega)
      rw [show k + 1 + j = k + (j + 1) by omega]
      simpa using this
    · simp only [List.length_cons] at hk
      omega
end
def q2B (md : Region.Mode) (ops : Array Oper) (k n : Nat) : Bool :=
  Region.noSelect ops && backB md ops && decide (k ≤ n) && decide (n < ops.size) && sinkK md ops k n && chain2B md ops n && lexHead2 md ops (ops.size - n - 1) (n - k) k (upTo ops.size k)
theorem wpAny_q2 {P : Program} {Q : Exit → Act → World → Prop} {a : Act} {w : World} {l : List Oper} {fuel : Nat} {done : Array Bool} (p : World → Prop) (k n : Nat) (hB : q2B .any l.toArray k n = true) (hd : done = upTo l.toArray.size k) (hf : fuel = l.toArray.size - k) (hw : p w)
    (h : wpQuiet P l.toArray (fun w' => ∃ s : Wd p, w' = s.w) (fun a' => ∀ w', (∃ s : Wd p, w' = s.w) → wpOp P l.toArray Q n (fun a2 w2 => wpQuiet P l.toArray (fun x => x = w2) (fun a3 => Q .normal a3 w2) (l.drop (n + 1)) a2) a' w') ((l.drop k).take (n - k)) a) : wpAny P .any l.toArray Q fuel done a w := by
  simp only [q2B, Bool.and_eq_true, decide_eq_true_eq] at hB
  obtain ⟨⟨⟨⟨⟨⟨hsel, hb⟩, hkn⟩, hn⟩, hs⟩, hc⟩, hlex⟩ := hB
  subst hd
  subst hf
  have hnl : n < l.length := by simpa using hn
  have htake : ((l.drop k).take (n - k)).length = n - k := by simp; omega
  have inv : HeadInvK .any l.toArray k n (upTo l.toArray.size k) :=
    ⟨upTo_inv hb hkn, fun i hi => by rw [upTo_getD (by omega)]; simpa using hi⟩
  have H := anyQ_lexK (P := P) (C := fun w' => ∃ s : Wd p, w' = s.w) (md := .any) (g := l.toArray.size - n - 1) hsel (tail_waitsK hs hc) hn ((l.drop k).take (n - k)) k _ a (fun j hj => by rw [htake] at hj; simp [hj]) (by rw [htake]; omega) inv (by rw [htake]; exact hlex) h
  have hsz : ((l.drop k).take (n - k)).length + (l.toArray.size - n - 1 + 1) = l.toArray.size - k := by rw [htake]; omega
  have H2 := anyQ_any (Q := Q) (g := l.toArray.size - n - 1 + 1) (fun done a' w' hw' hL => by
    obtain ⟨hL1, hL2⟩ := hL
    simp only [midB, Bool.and_eq_true, decide_eq_true_eq] at hL1
    refine ⟨fun h0 => (by rw [hL1.1] at h0; cases h0), fun i hi => ?_⟩
    rw [hL1.1] at hi
    have hin : i = n := by simpa using hi
    subst hin
    refine wpOp_mono (fun a2 w2 h3 => ?_) (hL2 w' hw')
    have hlen : (l.drop (i + 1)).length = l.toArray.size - i - 1 := by simp; omega
    have := wpAnyQ_lex (P := P) (ops := l.toArray) (C := fun x => x = w2) (md := .any) hsel (l.drop (i + 1)) (i + 1) (done.setIfInBounds i true) a2 (fun j => by simp) (by rw [hlen]; exact hL1.2) h3
    rw [hlen] at this
    exact wpAny_of_quiet (C := fun x => x = w2) (Q := fun a3 => Q .normal a3 w2) (fun a3 w3 e hq => by subst e; exact hq) _ _ _ _ rfl this) _ _ a _ ⟨⟨w, hw⟩, rfl⟩ H
  rw [hsz] at H2
  exact H2
end Go.Proofs.YtfcpfffgodljeaaGreat
