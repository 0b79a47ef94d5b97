/-
  A frame's nodes, one by one: which is a leaf, over what each is; plain lists, no program. No condition but those typed at each theorem.
-/
import Derived.Test.YtmkmkndcndpfeaaFlow
import Derived.Test.YtmkmkndcndpfeaaLog
namespace Go.Proofs.Ytmkmkndcndpfeaa
open Go.RowKit

def nf (n : Nd) : Int := n.2.2.2.1
def nt (n : Nd) : Int := n.2.2.2.2.1
/-- how many leaves -/
def lvc (L : List Nd) : Nat := L.countP (fun n => decide (nk n = 1))
theorem lvc_snoc (L : List Nd) (n : Nd) : lvc (L ++ [n]) = lvc L + (if nk n = 1 then 1 else 0) := by
  simp [lvc, List.countP_append, List.countP_cons]
theorem lvc_le (L : List Nd) : lvc L ≤ L.length := List.countP_le_length
/-- what stands behind these nodes: the next leaf, or a node over two of them that lie side by side -/
def PN (pre : List Nd) (n : Nd) : Prop :=
  n = (1, -1, -1, (lvc pre : Int), (lvc pre : Int) + 1, 0, (lvc pre : Int)) ∨
    ∃ (l r : Nat) (a b : Nd), pre[l]? = some a ∧ pre[r]? = some b ∧ n = (2, (l : Int), (r : Int), nf a, nt b, 0, 0) ∧ nt a = nf b ∧ nt b - nf b ≤ nt a - nf a ∧ nt a - nf a ≤ nt b - nf b + 1
def AllP (L : List Nd) : Prop := ∀ i n, L[i]? = some n → PN (L.take i) n
theorem AllP.nil : AllP [] := fun i n h => by simp at h
theorem AllP.snoc {L : List Nd} {n : Nd} (h : AllP L) (hn : PN L n) : AllP (L ++ [n]) := fun i m e => by
  by_cases hi : i < L.length
  · rw [List.getElem?_append_left hi] at e
    rw [List.take_append_of_le_length (by omega)]
    exact h i m e
  · rw [List.getElem?_append_right (by omega)] at e
    have hj : i - L.length = 0 := by
      have := (List.getElem?_eq_some_iff.1 e).1
      simp at this
      omega
    rw [hj] at e
    cases e
    have : i = L.length := by omega
    subst this
    simpa using hn
def bal : Tr → Prop
  | .lf => True
  | .nd l r => bal l ∧ bal r ∧ lv r ≤ lv l ∧ lv l ≤ lv r + 1
theorem bal_tr (m : Nat) : bal (tr m) := by
  induction m using Nat.strongRecOn with
  | _ m ih =>
    by_cases h2 : 2 ≤ m
    · rw [tr_two h2, bal, lv_tr (by omega), lv_tr (by omega)]
      exact ⟨ih _ (by omega), ih _ (by omega), by omega, by omega⟩
    · rw [tr_one (by omega)]
      trivial
theorem all_nds : ∀ t b f (A : List Nd), bal t → A.length = b → lvc A = f → AllP A → AllP (A ++ nds b f t) ∧ lvc (A ++ nds b f t) = f + lv t ∧ ∃ n, (A ++ nds b f t)[rt b t]? = some n ∧ nf n = f ∧ nt n = f + lv t
  | .lf, b, f, A, _, hb, hf, hA => by
    refine ⟨hA.snoc (.inl ?_), ?_, (1, -1, -1, (f : Int), ((f + 1 : Nat) : Int), 0, (f : Int)), ?_, rfl, ?_⟩
    · rw [hf]; simp
    · rw [nds, lvc_snoc, hf]; simp [nk, lv]
    · rw [nds, List.getElem?_append_right (by simp [rt, lv, hb])]; simp [rt, lv, hb]
    · simp [nt, lv]
  | .nd l r, b, f, A, hbal, hb, hf, hA => by
    obtain ⟨b1, b2, b3, b4⟩ := hbal
    obtain ⟨l1, l2, na, l3, l4, l5⟩ := all_nds l b f A b1 hb hf hA
    have hlen : (A ++ nds b f l).length = b + sz l := by rw [List.length_append, nds_len, hb]
    obtain ⟨r1, r2, nb, r3, r4, r5⟩ := all_nds r (b + sz l) (f + lv l) _ b2 hlen l2 l1
    have hlen2 : (A ++ nds b f l ++ nds (b + sz l) (f + lv l) r).length = b + sz l + sz r := by rw [List.length_append, nds_len, hlen]
    have e : A ++ nds b f (.nd l r) = A ++ nds b f l ++ nds (b + sz l) (f + lv l) r ++ [(2, (rt b l : Int), (rt (b + sz l) r : Int), (f : Int), ((f + (lv l + lv r) : Nat) : Int), 0, 0)] := by
      simp [nds]
    have hk : rt b l < (A ++ nds b f l).length := by rw [hlen]; have := rt_lt b l; omega
    rw [e]
    refine ⟨r1.snoc (.inr ⟨rt b l, rt (b + sz l) r, na, nb, ?_, r3, ?_, ?_, ?_, ?_⟩), ?_, (2, (rt b l : Int), (rt (b + sz l) r : Int), (f : Int), ((f + (lv l + lv r) : Nat) : Int), 0, 0), ?_, rfl, ?_⟩
    · rw [List.getElem?_append_left hk]; exact l3
    · rw [l4, r5]
      simp only [Prod.mk.injEq, true_and, and_true]
      omega
    · rw [l5, r4]; omega
    · rw [l4, l5, r4, r5]; omega
    · rw [l4, l5, r4, r5]; omega
    · rw [lvc_snoc, r2]; simp [nk, lv]; omega
    · rw [rt_nd, List.getElem?_append_right (by rw [hlen2]; exact Nat.le_refl _), hlen2]; simp
    · simp [nt, lv]
/-- over what a node is -/
theorem nds_bound : ∀ t b f, ∀ n ∈ nds b f t, (f : Int) ≤ nf n ∧ nf n < nt n ∧ nt n ≤ f + lv t
  | .lf, b, f, n, h => by
    simp only [nds, List.mem_singleton] at h
    subst h
    simp only [nf, nt, lv]
    omega
  | .nd l r, b, f, n, h => by
    have := lv_pos l
    have := lv_pos r
    simp only [nds, List.mem_append, List.mem_singleton] at h
    simp only [lv]
    rcases h with (h | h) | h
    · have := nds_bound l b f n h; omega
    · have := nds_bound r _ _ n h; omega
    · subst h
      simp only [nf, nt]
      omega
theorem ndN_pos {n : Nat} (h : 1 ≤ n) : ndN n = nds 0 0 (tr n) := by unfold ndN; rw [if_neg (by omega)]
theorem ndN_all (n : Nat) : AllP (ndN n) := by
  by_cases h : 1 ≤ n
  · rw [ndN_pos h]
    have := (all_nds (tr n) 0 0 [] (bal_tr n) rfl rfl AllP.nil).1
    simpa using this
  · unfold ndN
    rw [if_pos (by omega)]
    exact AllP.nil
theorem ndN_lvc (n : Nat) : lvc (ndN n) = n := by
  by_cases h : 1 ≤ n
  · rw [ndN_pos h]
    have := (all_nds (tr n) 0 0 [] (bal_tr n) rfl rfl AllP.nil).2.1
    rw [lv_tr h] at this
    simpa using this
  · unfold ndN
    rw [if_pos (by omega)]
    have : n = 0 := by omega
    subst this
    rfl
theorem ndN_top {n : Nat} (h : 1 ≤ n) : ∃ x, (ndN n)[2 * n - 2]? = some x ∧ nf x = 0 ∧ nt x = n := by
  rw [ndN_pos h]
  obtain ⟨x, h1, h2, h3⟩ := (all_nds (tr n) 0 0 [] (bal_tr n) rfl rfl AllP.nil).2.2
  rw [lv_tr h] at h3
  refine ⟨x, ?_, h2, by omega⟩
  have e : rt 0 (tr n) = 2 * n - 2 := by unfold rt; rw [lv_tr h]; omega
  rw [e] at h1
  simpa using h1
theorem ndN_bound {n i : Nat} {x : Nd} (e : (ndN n)[i]? = some x) : 0 ≤ nf x ∧ nf x < nt x ∧ nt x ≤ n := by
  by_cases h : 1 ≤ n
  · rw [ndN_pos h] at e
    have := nds_bound (tr n) 0 0 x (List.mem_of_getElem? e)
    rw [lv_tr h] at this
    omega
  · unfold ndN at e
    rw [if_pos (by omega)] at e
    simp at e
theorem ndN_height {n : Nat} (h : 1 ≤ n) (hn : n ≤ 1500) : (hl (ndN n))[2 * n - 2]? = some (lgI n : Int) := by
  rw [ndN_pos h]
  have h1 := hl_root (tr n) 0 0 [] rfl
  have e : rt 0 (tr n) = 2 * n - 2 := by unfold rt; rw [lv_tr h]; omega
  rw [e, ht_tr h (by omega)] at h1
  simpa [lgI] using h1
end Go.Proofs.Ytmkmkndcndpfeaa
