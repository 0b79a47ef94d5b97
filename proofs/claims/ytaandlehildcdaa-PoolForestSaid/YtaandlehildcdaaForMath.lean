/-
  A search below each root: what has been seen, what is open; each place is met once. Plain lists, no program. No condition but those typed at each theorem.
-/
import Derived.Test.YtaandlehildcdaaMath
namespace Go.Proofs.Ytaandlehildcdaa
/-- how often each place is met -/
def cnt (n : Nat) (V : List Nat) : List Int := (List.range n).map (fun (i : Nat) => ((V.count i : Nat) : Int))
theorem cnt_len (n : Nat) (V : List Nat) : (cnt n V).length = n := by simp [cnt]
theorem cnt_get {n : Nat} (V : List Nat) {i : Nat} (h : i < n) : (cnt n V)[i]? = some ((V.count i : Nat) : Int) := by simp [cnt, h]
theorem cnt_perm (n : Nat) {V V' : List Nat} (h : V.Perm V') : cnt n V = cnt n V' := by
  unfold cnt
  refine List.map_congr_left (fun i _ => ?_)
  rw [h.count_eq]
theorem cnt_nil (n : Nat) : cnt n [] = List.replicate n 0 := by
  apply List.ext_getElem?
  intro i
  by_cases hi : i < n
  · rw [cnt_get _ hi, List.getElem?_replicate, if_pos hi]
    simp
  · rw [List.getElem?_eq_none (by rw [cnt_len]; omega), List.getElem?_eq_none (by simp; omega)]
theorem cnt_set {n : Nat} (V : List Nat) {k : Nat} (h : k < n) (h0 : V.count k = 0) : (cnt n V).set k 1 = cnt n (V ++ [k]) := by
  apply List.ext_getElem?
  intro i
  by_cases hi : i < n
  · rw [cnt_get _ hi, List.count_append]
    by_cases e : k = i
    · subst e
      rw [List.getElem?_set_self (by rw [cnt_len]; exact h), h0]
      simp
    · rw [List.getElem?_set_ne e, cnt_get _ hi]
      simp [e]
  · rw [List.getElem?_eq_none (by rw [List.length_set, cnt_len]; omega), List.getElem?_eq_none (by rw [cnt_len]; omega)]
theorem cnt_range (n : Nat) {i : Nat} (h : i < n) : (cnt n (List.range n))[i]? = some 1 := by
  rw [cnt_get _ h]
  have : (List.range n).count i = 1 := by rw [List.nodup_range.count, if_pos (List.mem_range.2 h)]
  rw [this]
  rfl
/-- all that is below the first j roots -/
def vis (N : List Nd) (j : Nat) : List Nat := ((rootsL N).take j).flatMap (below N)
theorem vis_succ {N : List Nd} {j r : Nat} (e : (rootsL N)[j]? = some r) : vis N (j + 1) = vis N j ++ below N r := by
  unfold vis
  rw [List.take_add_one, e, List.flatMap_append]
  simp
theorem vis_part (N : List Nd) (j : Nat) : ∃ R, (rootsL N).flatMap (below N) = vis N j ++ R :=
  ⟨((rootsL N).drop j).flatMap (below N), by unfold vis; rw [← List.flatMap_append, List.take_append_drop]⟩
theorem vis_nodup {N : List Nd} (hR : Rt N) (j : Nat) : (vis N j).Nodup := by
  obtain ⟨R, h⟩ := vis_part N j
  have h1 := (forest hR).nodup_iff.2 List.nodup_range
  rw [h] at h1
  exact (List.nodup_append.1 h1).1
theorem vis_all {N : List Nd} (hR : Rt N) {j : Nat} (h : j = (rootsL N).length) : (vis N j).Perm (List.range N.length) := by
  unfold vis
  rw [h, List.take_length]
  exact forest hR
/-- the search below the root number j: what has been seen, what is open -/
structure FS (N : List Nd) (j : Nat) (V O : List Nat) : Prop where
  perm : (V ++ O.flatMap (below N)).Perm (vis N (j + 1))
  inn : ∀ o ∈ O, o < N.length
theorem FS.start {N : List Nd} {j r : Nat} (e : (rootsL N)[j]? = some r) : FS N j (vis N j) [r] :=
  ⟨by rw [vis_succ e]; simp, fun o ho => by
    simp at ho
    subst ho
    exact (mem_rootsL.1 (List.mem_of_getElem? e)).1⟩
theorem FS.done {N : List Nd} {j : Nat} {V : List Nat} (h : FS N j V []) : V.Perm (vis N (j + 1)) := by
  have := h.perm
  simpa using this
theorem FS.pop {N : List Nd} {j k : Nat} {V O : List Nat} {n : Nd} (h : FS N j V (O ++ [k])) (hR : Rt N) (e : N[k]? = some n) : V.count k = 0 ∧ FS N j (V ++ [k]) (O ++ (ksL n).map Int.toNat) := by
  have hk := below_kids hR e
  have hp := h.perm
  rw [List.flatMap_append, List.flatMap_cons, List.flatMap_nil, List.append_nil, hk] at hp
  have hnd := hp.nodup_iff.2 (vis_nodup hR (j + 1))
  constructor
  · rw [List.count_eq_zero]
    intro hm
    rw [List.nodup_append] at hnd
    exact hnd.2.2 k hm k (by simp) rfl
  · refine ⟨?_, ?_⟩
    · refine List.Perm.trans ?_ hp
      rw [List.flatMap_append, List.flatMap_map, List.append_assoc]
      refine List.Perm.append_left V ?_
      rw [List.singleton_append]
      exact List.perm_middle.symm
    · intro o ho
      rcases List.mem_append.1 ho with ho | ho
      · exact h.inn o (List.mem_append.2 (.inl ho))
      · obtain ⟨x, hx, rfl⟩ := List.mem_map.1 ho
        have := hR.kid e hx
        have := (List.getElem?_eq_some_iff.1 e).1
        omega
theorem FS.len {N : List Nd} {j : Nat} {V O : List Nat} (h : FS N j V O) (hR : Rt N) : V.length ≤ N.length := by
  obtain ⟨R, hv⟩ := vis_part N (j + 1)
  have h1 := (forest hR).length_eq
  rw [hv, List.length_append, List.length_range] at h1
  have h2 := h.perm.length_eq
  rw [List.length_append] at h2
  omega
end Go.Proofs.Ytaandlehildcdaa
