/-
  What a tree of spans holds, as plain lists: names at nodes, and for each span its seats; what a number's path tells; a span put; a span taken out, seat by seat; no program. No condition but those typed at each theorem.
-/
import Derived.Test.YtgcimicbbadapaaSg
namespace Go.Proofs.Ytgcimicbbadapaa

/-- a span that is there: itself, its seats as a slice, its seats (node, place) -/
abbrev En := S3 × Value × List (Nat × Nat)
def nm (NM : List (List Int)) (k : Nat) : List Int := NM.getD k []
theorem nm_set (NM : List (List Int)) (k k' : Nat) (l : List Int) (hk : k < NM.length) : nm (NM.set k l) k' = if k = k' then l else nm NM k' := by
  unfold nm
  rw [List.getD_eq_getElem?_getD, List.getD_eq_getElem?_getD, List.getElem?_set]
  by_cases h : k = k'
  · subst h
    simp [hk]
  · simp [h]
structure SgI (E : List Int) (NM : List (List Int)) (D : List En) : Prop where
  up : Up E
  len : NM.length = 2 * ms E - 1
  rg : Rg (D.map (·.1))
  ends : ∀ d ∈ D, d.1.1 ∈ E ∧ d.1.2.1 ∈ E
  st : ∀ d ∈ D, d.2.2.map (·.1) = cs E d.1
  tos : ∀ d ∈ D, ∀ q ∈ d.2.2, (nm NM q.1)[q.2]? = some d.1.2.2
  fro : ∀ k p i, (nm NM k)[p]? = some i → ∃ d ∈ D, d.1.2.2 = i ∧ (k, p) ∈ d.2.2
theorem en_eq {D : List En} (h : Rg (D.map (·.1))) {d d' : En} (hd : d ∈ D) (hd' : d' ∈ D) (e : d.1.2.2 = d'.1.2.2) : d = d' := by
  obtain ⟨i, hi⟩ := List.mem_iff_getElem?.1 hd
  obtain ⟨j, hj⟩ := List.mem_iff_getElem?.1 hd'
  have h1 : ((D.map (·.1)).map (·.2.2))[i]? = some d.1.2.2 := by rw [List.getElem?_map, List.getElem?_map, hi]; rfl
  have h2 : ((D.map (·.1)).map (·.2.2))[j]? = some d.1.2.2 := by rw [List.getElem?_map, List.getElem?_map, hj, e]; rfl
  have hij := (List.getElem?_inj (by simpa using (List.getElem?_eq_some_iff.1 hi).1) h.2).1 (h1.trans h2.symm)
  subst hij
  rw [hi] at hj
  exact Option.some.inj hj
theorem fst_once {st : List (Nat × Nat)} (h : (st.map (·.1)).Nodup) {k p p' : Nat} (h1 : (k, p) ∈ st) (h2 : (k, p') ∈ st) : p = p' := by
  obtain ⟨i, hi⟩ := List.mem_iff_getElem?.1 h1
  obtain ⟨j, hj⟩ := List.mem_iff_getElem?.1 h2
  have e1 : (st.map (·.1))[i]? = some k := by rw [List.getElem?_map, hi]; rfl
  have e2 : (st.map (·.1))[j]? = some k := by rw [List.getElem?_map, hj]; rfl
  have hij := (List.getElem?_inj (by simpa using (List.getElem?_eq_some_iff.1 hi).1) h).1 (e1.trans e2.symm)
  subst hij
  rw [hi] at hj
  exact congrArg Prod.snd (Option.some.inj hj)
/-- what stands at these nodes, one behind the other -/
def tld (NM : List (List Int)) (ks : List Nat) : List Int := ks.flatMap (nm NM)
theorem tld_snoc (NM : List (List Int)) (ks : List Nat) (k : Nat) : tld NM (ks ++ [k]) = tld NM ks ++ nm NM k := by simp [tld]
section
variable {E : List Int} {NM : List (List Int)} {D : List En}
theorem SgI.once (h : SgI E NM D) (k : Nat) : (nm NM k).Nodup := by
  refine List.pairwise_iff_getElem.2 (fun i j hi hj hij e0 => ?_)
  have e : (nm NM k)[i]? = (nm NM k)[j]? := by rw [List.getElem?_eq_getElem hi, List.getElem?_eq_getElem hj, e0]
  obtain ⟨x, hx⟩ : ∃ x, (nm NM k)[i]? = some x := ⟨_, List.getElem?_eq_getElem hi⟩
  obtain ⟨d, hd, e1, hq⟩ := h.fro k i x hx
  obtain ⟨d', hd', e2, hq'⟩ := h.fro k j x (e ▸ hx)
  have := en_eq h.rg hd hd' (e1.trans e2.symm)
  subst this
  have := fst_once (by rw [h.st d hd]; exact cs_once _ _) hq hq'
  omega
theorem SgI.at (h : SgI E NM D) {k : Nat} {i : Int} : i ∈ nm NM k ↔ ∃ d ∈ D, d.1.2.2 = i ∧ k ∈ cs E d.1 := by
  constructor
  · intro hi
    obtain ⟨p, hp⟩ := List.mem_iff_getElem?.1 hi
    obtain ⟨d, hd, e, hq⟩ := h.fro k p i hp
    exact ⟨d, hd, e, by rw [← h.st d hd]; exact List.mem_map.2 ⟨_, hq, rfl⟩⟩
  · rintro ⟨d, hd, e, hk⟩
    rw [← h.st d hd] at hk
    obtain ⟨q, hq, rfl⟩ := List.mem_map.1 hk
    exact e ▸ List.mem_of_getElem? (h.tos d hd q hq)
theorem mt_pos {ks p : List Nat} {k : Nat} (h1 : k ∈ ks) (h2 : k ∈ p) : 1 ≤ mt ks p := by
  obtain ⟨a, b, rfl⟩ := List.append_of_mem h1
  rw [mt_append, show k :: b = [k] ++ b from rfl, mt_append]
  have : 1 ≤ p.count k := List.count_pos_iff.2 h2
  simp only [mt, List.map_cons, List.map_nil, List.sum_cons, List.sum_nil] at *
  omega
theorem mt_two {ks p : List Nat} {k k' : Nat} (h1 : k ∈ ks) (h1' : k' ∈ ks) (hne : k ≠ k') (h2 : k ∈ p) (h2' : k' ∈ p) : 2 ≤ mt ks p := by
  obtain ⟨a, b, rfl⟩ := List.append_of_mem h1
  rw [mt_append, show k :: b = [k] ++ b from rfl, mt_append]
  have e1 : 1 ≤ mt [k] p := mt_pos (by simp) h2
  rcases List.mem_append.1 h1' with h3 | h3
  · have := mt_pos h3 h2'
    omega
  · rcases List.mem_cons.1 h3 with h4 | h4
    · exact absurd h4.symm hne
    · have := mt_pos h4 h2'
      omega
theorem mt_ex {ks p : List Nat} (h : 1 ≤ mt ks p) : ∃ k ∈ ks, k ∈ p := by
  by_cases hx : ∃ k ∈ ks, k ∈ p
  · exact hx
  · rw [mt_none (fun k hk hp => hx ⟨k, hk, hp⟩)] at h
    omega
/-- what a number's path tells is what the number stabs -/
theorem SgI.stab (h : SgI E NM D) (x : Int) : (tld NM (px E x)).Perm (stbL (D.map (·.1)) x) := by
  have hle : ∀ d ∈ D, d.1.1 ≤ d.1.2.1 := fun d hd => h.rg.1 _ (List.mem_map.2 ⟨d, hd, rfl⟩)
  have hmet : ∀ d ∈ D, mt (cs E d.1) (px E x) = if stbB x d.1 = true then 1 else 0 := fun d hd => cs_met h.up (h.ends d hd).1 (h.ends d hd).2 (hle d hd) x
  refine (List.perm_ext_iff_of_nodup ?_ ?_).2 ?_
  · unfold tld
    refine List.pairwise_flatMap.2 ⟨fun k _ => h.once k, List.Pairwise.imp_of_mem (fun {k k'} hk hk' hne => ?_) (px_once E x)⟩
    intro i hi i' hi' ei
    subst ei
    obtain ⟨d, hd, e1, hc⟩ := h.at.1 hi
    obtain ⟨d', hd', e2, hc'⟩ := h.at.1 hi'
    have := en_eq h.rg hd hd' (e1.trans e2.symm)
    subst this
    have h2 := mt_two hc hc' hne hk hk'
    rw [hmet d hd] at h2
    split at h2 <;> omega
  · unfold stbL
    exact (List.filter_sublist.map _).nodup h.rg.2
  · intro i
    unfold tld stbL
    simp only [List.mem_flatMap, List.mem_map, List.mem_filter]
    constructor
    · rintro ⟨k, hk, hi⟩
      obtain ⟨d, hd, e1, hc⟩ := h.at.1 hi
      have h2 := mt_pos hc hk
      rw [hmet d hd] at h2
      refine ⟨d.1, ⟨⟨d, hd, rfl⟩, ?_⟩, e1⟩
      by_cases hs : stbB x d.1 = true
      · exact hs
      · rw [if_neg hs] at h2; omega
    · rintro ⟨s, ⟨⟨d, hd, rfl⟩, hs⟩, e⟩
      have h2 := hmet d hd
      rw [if_pos hs] at h2
      obtain ⟨k, hk, hp⟩ := mt_ex (by omega : 1 ≤ mt (cs E d.1) (px E x))
      exact ⟨k, hp, h.at.2 ⟨d, hd, e, hk⟩⟩
theorem SgI.stabN (h : SgI E NM D) (x : Int) : nsort (tld NM (px E x)) = stb (D.map (·.1)) x ∧ (tld NM (px E x)).length = (stb (D.map (·.1)) x).length := by
  have := nsort_eq (h.stab x)
  exact ⟨this, by rw [← nsort_len, this]; rfl⟩

/-! ### a span put -/
def pN (id : Int) (NM : List (List Int)) (ks : List Nat) : List (List Int) := ks.foldl (fun M k => M.set k (nm M k ++ [id])) NM
def pS (NM : List (List Int)) (ks : List Nat) : List (Nat × Nat) := ks.map (fun k => (k, (nm NM k).length))
theorem pN_snoc (id : Int) (NM : List (List Int)) (ks : List Nat) (k : Nat) : pN id NM (ks ++ [k]) = (pN id NM ks).set k (nm (pN id NM ks) k ++ [id]) := by simp [pN]
theorem pS_snoc (NM : List (List Int)) (ks : List Nat) (k : Nat) : pS NM (ks ++ [k]) = pS NM ks ++ [(k, (nm NM k).length)] := by simp [pS]
theorem pN_len (id : Int) (NM : List (List Int)) (ks : List Nat) : (pN id NM ks).length = NM.length := by
  induction ks using snoc_rec with
  | h0 => rfl
  | h1 l a ih => rw [pN_snoc, List.length_set, ih]
theorem pN_at (id : Int) (NM : List (List Int)) (ks : List Nat) (hn : ks.Nodup) (hl : ∀ k ∈ ks, k < NM.length) (k : Nat) : nm (pN id NM ks) k = if k ∈ ks then nm NM k ++ [id] else nm NM k := by
  induction ks using snoc_rec with
  | h0 => rfl
  | h1 l a ih =>
    have h1 := List.nodup_append.1 hn
    have h2 : a ∉ l := fun ha => h1.2.2 a ha a (by simp) rfl
    have ih' := ih h1.1 (fun k hk => hl k (by simp [hk]))
    rw [pN_snoc, nm_set _ _ _ _ (by rw [pN_len]; exact hl a (by simp))]
    by_cases hak : a = k
    · subst hak
      rw [if_pos rfl, ih', if_neg h2, if_pos (by simp)]
    · rw [if_neg hak, ih']
      simp [Ne.symm hak]
theorem SgI.put (h : SgI E NM D) {s : S3} (v : Value) (h1 : s.1 ∈ E) (h2 : s.2.1 ∈ E) (h3 : s.1 ≤ s.2.1) (h4 : ∀ d ∈ D, d.1.2.2 ≠ s.2.2) : SgI E (pN s.2.2 NM (cs E s)) (D ++ [(s, v, pS NM (cs E s))]) := by
  have hcl : ∀ k ∈ cs E s, k < NM.length := fun k hk => by rw [h.len]; exact cs_lt h.up h1 h2 h3 hk
  have hat := pN_at s.2.2 NM (cs E s) (cs_once E s) hcl
  refine ⟨h.up, by rw [pN_len]; exact h.len, ?_, ?_, ?_, ?_, ?_⟩
  · rw [List.map_append]
    exact h.rg.snoc h3 (fun y hy => by obtain ⟨d, hd, rfl⟩ := List.mem_map.1 hy; exact h4 d hd)
  · intro d hd
    rcases List.mem_append.1 hd with hd | hd
    · exact h.ends d hd
    · simp at hd; subst hd; exact ⟨h1, h2⟩
  · intro d hd
    rcases List.mem_append.1 hd with hd | hd
    · exact h.st d hd
    · simp at hd; subst hd
      simp only [pS, List.map_map]
      exact List.map_id' _
  · intro d hd q hq
    rcases List.mem_append.1 hd with hd | hd
    · have := h.tos d hd q hq
      rw [hat]
      split
      · rw [List.getElem?_append_left (List.getElem?_eq_some_iff.1 this).1]
        exact this
      · exact this
    · simp at hd; subst hd
      simp only [pS, List.mem_map] at hq
      obtain ⟨k, hk, rfl⟩ := hq
      rw [hat, if_pos hk]
      simp
  · intro k p i hi
    rw [hat] at hi
    split at hi
    · rename_i hk
      by_cases hp : p < (nm NM k).length
      · rw [List.getElem?_append_left hp] at hi
        obtain ⟨d, hd, e, hq⟩ := h.fro k p i hi
        exact ⟨d, by simp [hd], e, hq⟩
      · rw [List.getElem?_append_right (by omega)] at hi
        have h5 : p = (nm NM k).length := by
          have := (List.getElem?_eq_some_iff.1 hi).1
          simp at this
          omega
        subst h5
        simp at hi
        exact ⟨(s, v, pS NM (cs E s)), by simp, hi, List.mem_map.2 ⟨k, hk, rfl⟩⟩
    · obtain ⟨d, hd, e, hq⟩ := h.fro k p i hi
      exact ⟨d, by simp [hd], e, hq⟩

/-! ### a span taken out, seat by seat -/
structure LvI (E : List Int) (NM : List (List Int)) (D : List En) (x : En) (j : Nat) : Prop where
  up : Up E
  len : NM.length = 2 * ms E - 1
  rg : Rg (D.map (·.1))
  ends : ∀ d ∈ D, d.1.1 ∈ E ∧ d.1.2.1 ∈ E
  st : ∀ d ∈ D, d.2.2.map (·.1) = cs E d.1
  mem : x ∈ D
  tos : ∀ d ∈ D, ∀ q ∈ d.2.2, (d = x → q ∈ x.2.2.drop j) → (nm NM q.1)[q.2]? = some d.1.2.2
  fro : ∀ k p i, (nm NM k)[p]? = some i → ∃ d ∈ D, d.1.2.2 = i ∧ (k, p) ∈ d.2.2 ∧ (d = x → (k, p) ∈ x.2.2.drop j)
theorem SgI.leave (h : SgI E NM D) {x : En} (hx : x ∈ D) : LvI E NM D x 0 :=
  ⟨h.up, h.len, h.rg, h.ends, h.st, hx, fun d hd q hq _ => h.tos d hd q hq, fun k p i hi => by obtain ⟨d, hd, e, hq⟩ := h.fro k p i hi; exact ⟨d, hd, e, hq, fun e => by subst e; simpa using hq⟩⟩
theorem LvI.done {x : En} {j : Nat} (h : LvI E NM D x j) (hj : x.2.2.length ≤ j) : SgI E NM (D.filter (fun d => decide (d.1.2.2 ≠ x.1.2.2))) := by
  have hm : ∀ {d}, d ∈ D.filter (fun d => decide (d.1.2.2 ≠ x.1.2.2)) → d ∈ D ∧ d ≠ x := fun {d} hd => by
    obtain ⟨h1, h2⟩ := List.mem_filter.1 hd
    refine ⟨h1, fun e => ?_⟩
    subst e
    simp at h2
  have hd0 : x.2.2.drop j = [] := List.drop_of_length_le hj
  refine ⟨h.up, h.len, h.rg.sub (List.filter_sublist.map _), fun d hd => h.ends d (hm hd).1, fun d hd => h.st d (hm hd).1, fun d hd q hq => h.tos d (hm hd).1 q hq (fun e => absurd e (hm hd).2), fun k p i hi => ?_⟩
  obtain ⟨d, hd, e, hq, hx⟩ := h.fro k p i hi
  have hne : d ≠ x := fun e => by have := hx e; rw [hd0] at this; simp at this
  refine ⟨d, List.mem_filter.2 ⟨hd, ?_⟩, e, hq⟩
  simp only [ne_eq, decide_eq_true_eq]
  exact fun e => hne (en_eq h.rg hd h.mem e)
/-- who stands last at a node, and takes the free seat -/
theorem LvI.last {x : En} {j k p : Nat} (h : LvI E NM D x j) (hq : x.2.2[j]? = some (k, p)) :
    k < NM.length ∧ (nm NM k)[p]? = some x.1.2.2 ∧ ∃ (m : Nat) (last : Int) (a : Nat) (dl : En) (c : Nat), (nm NM k).length = m + 1 ∧ p ≤ m ∧ (nm NM k)[m]? = some last ∧ D[a]? = some dl ∧ dl.1.2.2 = last ∧ dl.2.2[c]? = some (k, m) ∧ (∀ c', c' < c → ∀ r : Nat × Nat, dl.2.2[c']? = some r → r.1 ≠ k) := by
  have hqm : (k, p) ∈ x.2.2.drop j := List.mem_of_getElem? (i := 0) (by rw [List.getElem?_drop]; simpa using hq)
  have hqx := List.mem_of_getElem? hq
  have h1 := h.tos x h.mem (k, p) hqx (fun _ => hqm)
  have hkl : k < NM.length := by
    rcases Nat.lt_or_ge k NM.length with h2 | h2
    · exact h2
    · have : nm NM k = [] := by unfold nm; rw [List.getD_eq_getElem?_getD, List.getElem?_eq_none h2]; rfl
      simp only [this] at h1
      simp at h1
  have hpl := (List.getElem?_eq_some_iff.1 h1).1
  obtain ⟨m, hm⟩ : ∃ m, (nm NM k).length = m + 1 := ⟨(nm NM k).length - 1, by simp only at hpl; omega⟩
  obtain ⟨last, hl⟩ : ∃ y, (nm NM k)[m]? = some y := ⟨_, List.getElem?_eq_getElem (by omega)⟩
  obtain ⟨dl, hdl, e, hql, -⟩ := h.fro k m last hl
  obtain ⟨a, ha⟩ := List.mem_iff_getElem?.1 hdl
  obtain ⟨c, hc⟩ := List.mem_iff_getElem?.1 hql
  refine ⟨hkl, h1, m, last, a, dl, c, hm, by simp only at hpl; omega, hl, ha, e, hc, fun c' hc' r hr hrk => ?_⟩
  have hn : (dl.2.2.map (·.1)).Nodup := by rw [h.st dl hdl]; exact cs_once _ _
  have e1 : (dl.2.2.map (·.1))[c]? = some k := by rw [List.getElem?_map, hc]; rfl
  have e2 : (dl.2.2.map (·.1))[c']? = some k := by rw [List.getElem?_map, hr, ← hrk]; rfl
  have := (List.getElem?_inj (by simpa using (List.getElem?_eq_some_iff.1 hc).1) hn).1 (e1.trans e2.symm)
  omega
theorem set_same {α : Type} {l : List α} {i : Nat} {x : α} (h : l[i]? = some x) : l.set i x = l := by
  apply List.ext_getElem?
  intro j
  rw [List.getElem?_set]
  split
  · rename_i e
    subst e
    have := (List.getElem?_eq_some_iff.1 h).1
    rw [if_pos this, h]
  · rfl
theorem LvI.step {x dl : En} {j k p m a c : Nat} {last : Int} (h : LvI E NM D x j) (hq : x.2.2[j]? = some (k, p)) (hkl : k < NM.length) (hpx : (nm NM k)[p]? = some x.1.2.2) (hm : (nm NM k).length = m + 1) (hpm : p ≤ m)
    (hl : (nm NM k)[m]? = some last) (ha : D[a]? = some dl) (hdn : dl.1.2.2 = last) (hc : dl.2.2[c]? = some (k, m)) :
    LvI E (NM.set k (((nm NM k).set p last).take m)) (D.set a (dl.1, dl.2.1, dl.2.2.set c (k, p))) x (j + 1) := by
  have hdl : dl ∈ D := List.mem_of_getElem? ha
  have hqx := List.mem_of_getElem? hq
  have hxn : (x.2.2.map (·.1)).Nodup := by rw [h.st x h.mem]; exact cs_once _ _
  have hdn' : (dl.2.2.map (·.1)).Nodup := by rw [h.st dl hdl]; exact cs_once _ _
  have hal := (List.getElem?_eq_some_iff.1 ha).1
  have hcl := (List.getElem?_eq_some_iff.1 hc).1
  have hjl := (List.getElem?_eq_some_iff.1 hq).1
  -- x's own seats: those from j + 1 on are those of other nodes
  have hdrop : ∀ q : Nat × Nat, q ∈ x.2.2.drop (j + 1) ↔ (q ∈ x.2.2.drop j ∧ q.1 ≠ k) := by
    intro q
    have e1 : x.2.2.drop j = (k, p) :: x.2.2.drop (j + 1) := by
      rw [List.drop_eq_getElem_cons hjl]
      congr 1
      rw [List.getElem?_eq_getElem hjl] at hq
      exact Option.some.inj hq
    have e2 : ((k, p) :: x.2.2.drop (j + 1)).map (·.1) |>.Nodup := by
      rw [← e1]
      exact ((List.drop_sublist _ _).map _).nodup hxn
    rw [e1]
    rw [List.map_cons, List.nodup_cons] at e2
    constructor
    · intro hq
      exact ⟨List.mem_cons_of_mem _ hq, fun e => e2.1 (List.mem_map.2 ⟨q, hq, e⟩)⟩
    · rintro ⟨h1, h2⟩
      rcases List.mem_cons.1 h1 with h1 | h1
      · subst h1; exact absurd rfl h2
      · exact h1
  -- whoever stands last at the node is x itself only if its seat is the last one
  have hself : dl = x → m = p := fun e => by subst e; exact fst_once hdn' (List.mem_of_getElem? hc) hqx
  have hown : m = p → dl = x := fun e => by
    subst e
    rw [hpx] at hl
    exact en_eq h.rg hdl h.mem (by rw [hdn]; exact (Option.some.inj hl).symm)
  obtain ⟨d', hd'⟩ : ∃ d' : En, d' = (dl.1, dl.2.1, dl.2.2.set c (k, p)) := ⟨_, rfl⟩
  have hd1 : d'.1 = dl.1 := by rw [hd']
  have hd2 : d'.2.2 = dl.2.2.set c (k, p) := by rw [hd']
  have hdx : dl = x → d' = dl := fun e => by
    have := hself e
    subst this
    rw [hd', set_same hc]
  rw [← hd']
  have hmap : (D.set a d').map (·.1) = D.map (·.1) := by
    rw [List.map_set, hd1]
    exact set_same (by rw [List.getElem?_map, ha]; rfl)
  have hmem : ∀ d, d ∈ D.set a d' → d = d' ∨ (d ∈ D ∧ d ≠ dl) := by
    intro d hd
    obtain ⟨i, hi⟩ := List.mem_iff_getElem?.1 hd
    rw [List.getElem?_set] at hi
    split at hi
    · left
      exact (Option.some.inj hi).symm
    · rename_i hne
      right
      refine ⟨List.mem_of_getElem? hi, fun e => ?_⟩
      subst e
      have k1 : ((D.map (·.1)).map (·.2.2))[a]? = some d.1.2.2 := by rw [List.getElem?_map, List.getElem?_map, ha]; rfl
      have k2 : ((D.map (·.1)).map (·.2.2))[i]? = some d.1.2.2 := by rw [List.getElem?_map, List.getElem?_map, hi]; rfl
      exact hne ((List.getElem?_inj (by simpa using hal) h.rg.2).1 (k1.trans k2.symm))
  have hmem2 : ∀ d ∈ D, d ≠ dl → d ∈ D.set a d' := by
    intro d hd hne
    obtain ⟨i, hi⟩ := List.mem_iff_getElem?.1 hd
    refine List.mem_of_getElem? (i := i) ?_
    rw [List.getElem?_set]
    split
    · rename_i e
      subst e
      rw [ha] at hi
      exact absurd (Option.some.inj hi).symm hne
    · exact hi
  have hmem3 : d' ∈ D.set a d' := List.mem_of_getElem? (i := a) (by rw [List.getElem?_set]; simp [hal])
  have hst' : d'.2.2.map (·.1) = dl.2.2.map (·.1) := by
    rw [hd2, List.map_set]
    exact set_same (by rw [List.getElem?_map, hc]; rfl)
  -- what stands at the node behind it
  have hlen : (nm NM k).length = m + 1 := hm
  have hnew : ∀ p', (((nm NM k).set p last).take m)[p']? = if p' < m then (if p' = p then some last else (nm NM k)[p']?) else none := by
    intro p'
    rw [List.getElem?_take]
    split
    · rw [List.getElem?_set]
      by_cases e : p = p'
      · subst e
        simp
        omega
      · simp [e, Ne.symm e]
    · rfl
  -- seats of d'
  have hseat : ∀ q : Nat × Nat, q ∈ d'.2.2 ↔ (q = (k, p) ∨ (q ∈ dl.2.2 ∧ q.1 ≠ k)) := by
    intro q
    rw [hd2]
    constructor
    · intro hq
      obtain ⟨i, hi⟩ := List.mem_iff_getElem?.1 hq
      rw [List.getElem?_set] at hi
      split at hi
      · exact .inl (Option.some.inj hi).symm
      · rename_i hne
        refine .inr ⟨List.mem_of_getElem? hi, fun e => ?_⟩
        have k1 : (dl.2.2.map (·.1))[c]? = some k := by rw [List.getElem?_map, hc]; rfl
        have k2 : (dl.2.2.map (·.1))[i]? = some k := by rw [List.getElem?_map, hi, ← e]; rfl
        exact hne ((List.getElem?_inj (by simpa using hcl) hdn').1 (k1.trans k2.symm))
    · rintro (rfl | ⟨h1, h2⟩)
      · exact List.mem_of_getElem? (i := c) (by rw [List.getElem?_set]; simp [hcl])
      · obtain ⟨i, hi⟩ := List.mem_iff_getElem?.1 h1
        refine List.mem_of_getElem? (i := i) ?_
        rw [List.getElem?_set]
        split
        · rename_i e
          subst e
          rw [hc] at hi
          have := Option.some.inj hi
          subst this
          exact absurd rfl h2
        · exact hi
  refine ⟨h.up, by rw [List.length_set]; exact h.len, by rw [hmap]; exact h.rg, ?_, ?_, ?_, ?_, ?_⟩
  · intro d hd
    rcases hmem d hd with rfl | ⟨hd, _⟩
    · rw [hd1]; exact h.ends dl hdl
    · exact h.ends d hd
  · intro d hd
    rcases hmem d hd with rfl | ⟨hd, _⟩
    · rw [hst', hd1]; exact h.st dl hdl
    · exact h.st d hd
  · by_cases e : dl = x
    · rw [← e, ← hdx e]; exact hmem3
    · exact hmem2 x h.mem (Ne.symm e)
  · intro d hd q hq hx
    rw [nm_set _ _ _ _ hkl]
    by_cases e : dl = x
    · -- x itself stood last
      have hmp := hself e
      have hD : d ∈ D := by
        rcases hmem d hd with rfl | ⟨hd, _⟩
        · rw [hdx e]; exact hdl
        · exact hd
      have h0 := h.tos d hD q hq (fun e2 => ((hdrop q).1 (hx e2)).1)
      split
      · rename_i hk
        have hkq : (k, q.2) = q := by rw [hk]
        rw [hnew]
        have hlt := (List.getElem?_eq_some_iff.1 h0).1
        rw [← hk] at h0 hlt
        have hne : q.2 ≠ p := fun e3 => by
          rw [e3, hpx] at h0
          have hdx2 := en_eq h.rg hD h.mem (Option.some.inj h0).symm
          exact ((hdrop q).1 (hx hdx2)).2 hk.symm
        rw [if_pos (by omega), if_neg hne]
        exact h0
      · exact h0
    · have hmp : p < m := by
        rcases Nat.lt_or_ge p m with h1 | h1
        · exact h1
        · exact absurd (hown (by omega)) e
      rcases hmem d hd with rfl | ⟨hD, hdd⟩
      · rcases (hseat q).1 hq with rfl | ⟨h1, h2⟩
        · rw [if_pos rfl, hnew, if_pos hmp, if_pos rfl, hd1, hdn]
        · rw [if_neg (Ne.symm h2), hd1]
          exact h.tos dl hdl q h1 (fun e2 => absurd e2 e)
      · have h0 := h.tos d hD q hq (fun e2 => ((hdrop q).1 (hx e2)).1)
        split
        · rename_i hk
          rw [← hk] at h0
          have hlt := (List.getElem?_eq_some_iff.1 h0).1
          have hne : q.2 ≠ p := fun e3 => by
            rw [e3, hpx] at h0
            have hdx2 := en_eq h.rg hD h.mem (Option.some.inj h0).symm
            exact ((hdrop q).1 (hx hdx2)).2 hk.symm
          have hne2 : q.2 ≠ m := fun e3 => by
            rw [e3, hl] at h0
            exact hdd (en_eq h.rg hD hdl (by rw [hdn]; exact (Option.some.inj h0).symm))
          rw [hnew, if_pos (by omega), if_neg hne]
          exact h0
        · exact h0
  · intro k2 p2 i hi
    rw [nm_set _ _ _ _ hkl] at hi
    split at hi
    · rename_i hk
      subst hk
      rw [hnew] at hi
      split at hi
      · rename_i hlt
        split at hi
        · rename_i hp
          subst hp
          have hi2 := Option.some.inj hi
          have hdlx : dl ≠ x := fun e => by have := hself e; omega
          have hd'x : d' ≠ x := fun e => hdlx (en_eq h.rg hdl h.mem (by rw [← hd1, e]))
          exact ⟨d', hmem3, by rw [hd1, hdn, hi2], (hseat _).2 (.inl rfl), fun e => absurd e hd'x⟩
        · rename_i hp
          obtain ⟨d, hd, e, hq2, hx⟩ := h.fro k p2 i hi
          have hne : d ≠ dl := fun e2 => by
            subst e2
            have := fst_once hdn' hq2 (List.mem_of_getElem? hc)
            omega
          refine ⟨d, hmem2 d hd hne, e, hq2, fun e2 => ?_⟩
          subst e2
          have := fst_once hxn hq2 hqx
          exact absurd this hp
      · cases hi
    · rename_i hk
      obtain ⟨d, hd, e, hq2, hx⟩ := h.fro k2 p2 i hi
      by_cases hdd : d = dl
      · subst hdd
        refine ⟨d', hmem3, by rw [hd1]; exact e, (hseat _).2 (.inr ⟨hq2, Ne.symm hk⟩), fun e2 => ?_⟩
        have e3 : d = x := en_eq h.rg hd h.mem (by rw [← hd1, e2])
        exact (hdrop _).2 ⟨hx e3, Ne.symm hk⟩
      · exact ⟨d, hmem2 d hd hdd, e, hq2, fun e2 => (hdrop _).2 ⟨hx e2, Ne.symm hk⟩⟩
end
end Go.Proofs.Ytgcimicbbadapaa
