/-
  A tree of spans in memory: what it is behind one write (names of a node, a seat, the map of spans, the weight). No condition but those typed at each theorem.
-/
import Derived.Test.YtgcimicbbadapaaSm
namespace Go.Proofs.Ytgcimicbbadapaa
open Go.RowKit
section
variable {X X' : World} {g : Nat} {ev : Value} {eb : List Nat} {gf gn gm : Nat} {E : List Int} {NV : List Value} {NM : List (List Int)} {D : List En} {wt : Int}

theorem MP.notCells {P : Program} {k : TypeId} {w : World} {b : Nat} {L : List (Int × Value)} (h : MP P k w b L) {c : Array Value} {t : TypeId} {b' : Nat} (h' : w.heap[b']? = some (.cells c t (0, 0))) : b ≠ b' := by
  rintro rfl
  obtain ⟨es, cl, h, _⟩ := h
  rw [h] at h'
  cases h'
theorem SegM.nameType (h : SegM X g ev eb gf gn gm E NV NM D wt) {v : Value} (hv : v ∈ NV) {b : Nat} (e : v.ownBlock = some b) : ∃ cur, X.heap[b]? = some (.cells cur 32 (0, 0)) := by
  obtain ⟨i, hi⟩ := List.mem_iff_getElem?.1 hv
  exact row_type (h.row i v hi) e
theorem SegM.seatType (h : SegM X g ev eb gf gn gm E NV NM D wt) {d : En} (hd : d ∈ D) {b : Nat} (e : d.2.1.ownBlock = some b) : ∃ cur, X.heap[b]? = some (.cells cur 99 (0, 0)) := by
  obtain ⟨b', cap, rest, e2, -, he⟩ := h.seats d hd
  rw [e2] at e
  cases e
  exact ⟨_, he⟩
theorem SegM.nameSet {k : Nat} {v v' : Value} {L : List Int} (h : SegM X g ev eb gf gn gm E NV NM D wt) (hk : NV[k]? = some v) (o : Off (gn :: v.ownBlock.toList) X X') (hgn : EV 41 X' gn (NV.set k v'))
    (hrow : X'.ownsRow 0 32 1 v' L.length (L.map (Value.int .u32))) (hnew : ∀ b, v'.ownBlock = some b → v.ownBlock = some b ∨ X.heap.size ≤ b) : SegM X' g ev eb gf gn gm E (NV.set k v') (NM.set k L) D wt := by
  have hvm : v ∈ NV := List.mem_of_getElem? hk
  have hkl : k < NV.length := (List.getElem?_eq_some_iff.1 hk).1
  have hb : ∀ b, b < X.heap.size → b ≠ gn → v.ownBlock ≠ some b → X'.heap[b]? = X.heap[b]? := fun b hl h1 h2 => o.block b hl (by simp [h1, h2])
  have hcell : ∀ {b : Nat} {c : Array Value} {t : TypeId}, X.heap[b]? = some (.cells c t (0, 0)) → t ≠ 41 → t ≠ 32 → X'.heap[b]? = X.heap[b]? := fun {b c t} e h1 h2 =>
    hb b (lt_of_block e) (types_ne e h.nms h1) (fun e2 => by obtain ⟨cur, hc⟩ := h.nameType hvm e2; exact types_ne e hc h2 rfl)
  refine ⟨?_, ?_, ?_, hgn, by simp [h.nlen], ?_, ?_, ?_, ?_, h.sap, ?_⟩
  · rw [List.length_set]
    exact (hcell h.seg (by decide) (by decide)).trans h.seg
  · exact h.ends.block (fun b hm => hb b (h.ends.lt b hm) (h.eap b hm).2.1 ((h.eap b hm).2.2.2.1 v hvm))
  · exact h.fr.block (hcell h.fr (by decide) (by decide))
  · intro i u hi
    rw [nm_set _ _ _ _ (by rw [← h.nlen]; exact hkl)]
    rw [List.getElem?_set] at hi
    split at hi
    · rename_i e
      subst e
      cases hi
      rw [if_pos rfl]
      exact hrow
    · rename_i e
      rw [if_neg e]
      refine row_at (h.row i u hi) (fun b hb2 => ⟨?_, Nat.zero_le _⟩)
      obtain ⟨cur, hc⟩ := h.nameType (List.mem_of_getElem? hi) hb2
      exact hb b (lt_of_block hc) (types_ne hc h.nms (by decide)) (fun e2 => e (h.nap k i v u b hk hi e2 hb2))
  · intro i j v1 v2 b hi hj e1 e2
    rw [List.getElem?_set] at hi hj
    have hold : ∀ (i : Nat) (u : Value), NV[i]? = some u → u.ownBlock = some b → b < X.heap.size := fun i u hi e => by
      obtain ⟨cur, hc⟩ := h.nameType (List.mem_of_getElem? hi) e
      exact lt_of_block hc
    split at hi
    · rename_i ei
      cases hi
      split at hj
      · rename_i ej
        rw [← ei, ej]
      · rename_i ej
        rcases hnew b e1 with h1 | h1
        · exact ei ▸ h.nap k j v v2 b hk hj h1 e2
        · have := hold j v2 hj e2
          omega
    · split at hj
      · rename_i ei ej
        cases hj
        rcases hnew b e2 with h1 | h1
        · exact ej ▸ h.nap i k v1 v b hi hk e1 h1
        · have := hold i v1 hi e1
          omega
      · exact h.nap i j v1 v2 b hi hj e1 e2
  · exact h.mp.block (hb gm h.mp.lt (h.mp.notCells h.nms) (fun e => by obtain ⟨cur, hc⟩ := h.nameType hvm e; exact h.mp.notCells hc rfl))
  · intro d hd
    refine (h.seats d hd).block (fun b e => ?_)
    obtain ⟨cur, hc⟩ := h.seatType hd e
    exact hcell hc (by decide) (by decide)
  · intro b hm
    obtain ⟨h1, h2, h3, h4, h5⟩ := h.eap b hm
    refine ⟨h1, h2, h3, fun u hu e => ?_, h5⟩
    rcases List.mem_or_eq_of_mem_set hu with hu | rfl
    · exact h4 u hu e
    · rcases hnew b e with h6 | h6
      · exact h4 v hvm h6
      · have := h.ends.lt b hm
        omega
theorem bks_nameSet {k : Nat} {v v' : Value} (hk : NV[k]? = some v) (hnew : ∀ b, v'.ownBlock = some b → v.ownBlock = some b ∨ X.heap.size ≤ b) {b : Nat} (hb : b ∈ bks g eb gf gn gm (NV.set k v') D) : b ∈ bks g eb gf gn gm NV D ∨ X.heap.size ≤ b := by
  rcases mem_bks.1 hb with h | h | h | h | h | ⟨u, hu, e⟩ | h
  · exact .inl (mem_bks.2 (.inl h))
  · exact .inl (mem_bks.2 (.inr (.inl h)))
  · exact .inl (mem_bks.2 (.inr (.inr (.inl h))))
  · exact .inl (mem_bks.2 (.inr (.inr (.inr (.inl h)))))
  · exact .inl (mem_bks.2 (.inr (.inr (.inr (.inr (.inl h))))))
  · rcases List.mem_or_eq_of_mem_set hu with hu | rfl
    · exact .inl (mem_bks.2 (.inr (.inr (.inr (.inr (.inr (.inl ⟨u, hu, e⟩)))))))
    · rcases hnew b e with h1 | h1
      · exact .inl (mem_bks.2 (.inr (.inr (.inr (.inr (.inr (.inl ⟨v, List.mem_of_getElem? hk, h1⟩)))))))
      · exact .inr h1
  · exact .inl (mem_bks.2 (.inr (.inr (.inr (.inr (.inr (.inr h)))))))
/-- no block of a tree but the one is its map -/
theorem SegM.neM (h : SegM X g ev eb gf gn gm E NV NM D wt) : gm ≠ g ∧ gm ≠ gf ∧ gm ≠ gn ∧ (∀ b ∈ eb, gm ≠ b) ∧ (∀ v ∈ NV, ∀ b, v.ownBlock = some b → gm ≠ b) ∧ ∀ d ∈ D, ∀ b, d.2.1.ownBlock = some b → gm ≠ b :=
  ⟨h.mp.notCells h.seg, h.mp.notCells h.fr, h.mp.notCells h.nms, fun b hb e => (h.eap b hb).2.2.1 e.symm, fun v hv b e => by obtain ⟨cur, hc⟩ := h.nameType hv e; exact h.mp.notCells hc, fun d hd b e => by obtain ⟨cur, hc⟩ := h.seatType hd e; exact h.mp.notCells hc⟩
/-- no block of a tree but the one holds its own cells -/
theorem SegM.neG (h : SegM X g ev eb gf gn gm E NV NM D wt) : gf ≠ g ∧ gn ≠ g ∧ gm ≠ g ∧ (∀ b ∈ eb, b ≠ g) ∧ (∀ v ∈ NV, ∀ b, v.ownBlock = some b → b ≠ g) ∧ ∀ d ∈ D, ∀ b, d.2.1.ownBlock = some b → b ≠ g :=
  ⟨types_ne h.fr h.seg (by decide), types_ne h.nms h.seg (by decide), h.mp.notCells h.seg, fun b hb => (h.eap b hb).1, fun v hv b e => by obtain ⟨cur, hc⟩ := h.nameType hv e; exact types_ne hc h.seg (by decide), fun d hd b e => by obtain ⟨cur, hc⟩ := h.seatType hd e; exact types_ne hc h.seg (by decide)⟩
theorem SegM.mapTurn {D' : List En} (h : SegM X g ev eb gf gn gm E NV NM D wt) (o : Off [gm] X X') (hmp : MP Try.prog 32 X' gm (kvD D')) (hs : ∀ d ∈ D', SB X d.2.1 d.2.2) (hne : ∀ d ∈ D', ∀ b, d.2.1.ownBlock = some b → gm ≠ b)
    (hsap : ∀ d ∈ D', ∀ d' ∈ D', ∀ b, d.2.1.ownBlock = some b → d'.2.1.ownBlock = some b → d.1 = d'.1) (heap : ∀ b ∈ eb, ∀ d ∈ D', d.2.1.ownBlock ≠ some b) : SegM X' g ev eb gf gn gm E NV NM D' wt := by
  obtain ⟨n1, n2, n3, n4, n5, n6⟩ := h.neM
  have hb : ∀ b, b < X.heap.size → gm ≠ b → X'.heap[b]? = X.heap[b]? := fun b hl hn => o.block b hl (by simpa using Ne.symm hn)
  refine ⟨(hb g h.seg.lt n1).trans h.seg, h.ends.block (fun b hm => hb b (h.ends.lt b hm) (n4 b hm)), h.fr.block (hb gf h.fr.lt n2), (hb gn h.nms.lt n3).trans h.nms, h.nlen, fun i u hi => row_at (h.row i u hi) (fun b e => ⟨?_, Nat.zero_le _⟩), h.nap, hmp,
    fun d hd => (hs d hd).block (fun b e => ?_), hsap, fun b hm => ?_⟩
  · exact hb b ((h.row i u hi).lt b e).2 (n5 u (List.mem_of_getElem? hi) b e)
  · obtain ⟨b', e2, hl⟩ := (hs d hd).own
    rw [e] at e2
    cases e2
    exact hb b hl (hne d hd b e)
  · obtain ⟨h1, h2, h3, h4, h5⟩ := h.eap b hm
    exact ⟨h1, h2, h3, h4, heap b hm⟩
theorem kvD_filter (D : List En) (i : Int) : (kvD D).filter (fun p => decide (p.1 ≠ i)) = kvD (D.filter (fun d => decide (d.1.2.2 ≠ i))) := by
  unfold kvD
  rw [List.filter_map]
  rfl
theorem SegM.mapDrop {i : Int} (h : SegM X g ev eb gf gn gm E NV NM D wt) (o : Off [gm] X X') (hmp : MP Try.prog 32 X' gm ((kvD D).filter (fun p => decide (p.1 ≠ i)))) : SegM X' g ev eb gf gn gm E NV NM (D.filter (fun d => decide (d.1.2.2 ≠ i))) wt := by
  rw [kvD_filter] at hmp
  have hm : ∀ {d}, d ∈ D.filter (fun d => decide (d.1.2.2 ≠ i)) → d ∈ D := fun h => (List.mem_filter.1 h).1
  exact h.mapTurn o hmp (fun d hd => h.seats d (hm hd)) (fun d hd => h.neM.2.2.2.2.2 d (hm hd)) (fun d hd d' hd' => h.sap d (hm hd) d' (hm hd')) (fun b hb d hd => (h.eap b hb).2.2.2.2 d (hm hd))
theorem SegM.mapPut {s : S3} {sv : Value} {st : List (Nat × Nat)} (h : SegM X g ev eb gf gn gm E NV NM D wt) (hf : ∀ d ∈ D, d.1.2.2 ≠ s.2.2) (o : Off [gm] X X') (hmp : MP Try.prog 32 X' gm ((kvD D).filter (fun p => decide (p.1 ≠ s.2.2)) ++ [(s.2.2, stV (s, sv, st))]))
    (hs : SB X sv st) (hne : ∀ b, sv.ownBlock = some b → b ∉ bks g eb gf gn gm NV D) : SegM X' g ev eb gf gn gm E NV NM (D ++ [(s, sv, st)]) wt := by
  rw [kvD_filter, List.filter_eq_self.2 (fun d hd => by simpa using hf d hd)] at hmp
  have hm : ∀ {d}, d ∈ D ++ [(s, sv, st)] → d ∈ D ∨ d = (s, sv, st) := fun h => by simpa using h
  refine h.mapTurn o ?_ (fun d hd => ?_) (fun d hd b e => ?_) (fun d hd d' hd' b e e' => ?_) (fun b hb d hd e => ?_)
  · have : kvD (D ++ [(s, sv, st)]) = kvD D ++ [(s.2.2, stV (s, sv, st))] := by simp [kvD]
    rw [this]
    exact hmp
  · rcases hm hd with hd | rfl
    · exact h.seats d hd
    · exact hs
  · rcases hm hd with hd | rfl
    · exact h.neM.2.2.2.2.2 d hd b e
    · exact fun e2 => hne b e (mem_bks.2 (.inr (.inr (.inr (.inl e2.symm)))))
  · rcases hm hd with hd | rfl
    · rcases hm hd' with hd' | rfl
      · exact h.sap d hd d' hd' b e e'
      · exact absurd (mem_bks.2 (.inr (.inr (.inr (.inr (.inr (.inr ⟨d, hd, e⟩))))))) (hne b e')
    · rcases hm hd' with hd' | rfl
      · exact absurd (mem_bks.2 (.inr (.inr (.inr (.inr (.inr (.inr ⟨d', hd', e'⟩))))))) (hne b e)
      · rfl
  · rcases hm hd with hd | rfl
    · exact (h.eap b hb).2.2.2.2 d hd e
    · exact hne b e (mem_bks.2 (.inr (.inr (.inr (.inr (.inl hb))))))
theorem SegM.wtSet (h : SegM X g ev eb gf gn gm E NV NM D wt) (wt' : Int) : SegM (X.setCell ⟨g, 5, none⟩ (.int .i64 wt')) g ev eb gf gn gm E NV NM D wt' := by
  obtain ⟨n1, n2, n3, n4, n5, n6⟩ := h.neG
  have o : Off [g] X (X.setCell ⟨g, 5, none⟩ (.int .i64 wt')) := (Off.refl _ X).set _ _ (.inl (by simp))
  have hb : ∀ b, b < X.heap.size → b ≠ g → (X.setCell ⟨g, 5, none⟩ (.int .i64 wt')).heap[b]? = X.heap[b]? := fun b hl hn => o.block b hl (by simpa using hn)
  refine ⟨h.seg.set 5 (.int .i64 wt'), h.ends.block (fun b hm => hb b (h.ends.lt b hm) (n4 b hm)), h.fr.block (hb gf h.fr.lt n1), (hb gn h.nms.lt n2).trans h.nms, h.nlen, fun i u hi => row_at (h.row i u hi) (fun b e => ⟨?_, Nat.zero_le _⟩), h.nap, h.mp.block (hb gm h.mp.lt n3),
    fun d hd => (h.seats d hd).block (fun b e => ?_), h.sap, h.eap⟩
  · exact hb b ((h.row i u hi).lt b e).2 (n5 u (List.mem_of_getElem? hi) b e)
  · obtain ⟨cur, hc⟩ := h.seatType hd e
    exact hb b (lt_of_block hc) (n6 d hd b e)
theorem SegM.seatSet {a c b n cap k p p' : Nat} {d : En} (h : SegM X g ev eb gf gn gm E NV NM D wt) (ha : D[a]? = some d) (hv : d.2.1 = .slice (some ⟨b, 0, none⟩) n cap) (hc : d.2.2[c]? = some (k, p)) :
    SegM (X.setCell ⟨b, c * 2 + 1, none⟩ (.int .i64 (p' : Nat))) g ev eb gf gn gm E NV NM (D.set a (d.1, d.2.1, d.2.2.set c (k, p'))) wt := by
  have hd : d ∈ D := List.mem_of_getElem? ha
  have hob : d.2.1.ownBlock = some b := by rw [hv]; rfl
  obtain ⟨cur, hty⟩ := h.seatType hd hob
  have o : Off [b] X (X.setCell ⟨b, c * 2 + 1, none⟩ (.int .i64 (p' : Nat))) := (Off.refl _ X).set _ _ (.inl (by simp))
  have hb : ∀ k, k < X.heap.size → k ≠ b → (X.setCell ⟨b, c * 2 + 1, none⟩ (.int .i64 (p' : Nat))).heap[k]? = X.heap[k]? := fun k hl hn => o.block k hl (by simpa using hn)
  have hcell : ∀ {k : Nat} {c' : Array Value} {t : TypeId}, X.heap[k]? = some (.cells c' t (0, 0)) → t ≠ 99 → (X.setCell ⟨b, c * 2 + 1, none⟩ (.int .i64 (p' : Nat))).heap[k]? = X.heap[k]? := fun {k c' t} e h1 => hb k (lt_of_block e) (types_ne e hty h1)
  have hal := (List.getElem?_eq_some_iff.1 ha).1
  have hkv : kvD (D.set a (d.1, d.2.1, d.2.2.set c (k, p'))) = kvD D := by
    unfold kvD
    rw [List.map_set]
    exact set_same (by rw [List.getElem?_map, ha]; rfl)
  have hmem : ∀ e, e ∈ D.set a (d.1, d.2.1, d.2.2.set c (k, p')) → e = (d.1, d.2.1, d.2.2.set c (k, p')) ∨ (e ∈ D ∧ e.2.1.ownBlock ≠ some b) := by
    intro e he
    obtain ⟨i, hi⟩ := List.mem_iff_getElem?.1 he
    rw [List.getElem?_set] at hi
    split at hi
    · exact .inl (by exact (Option.some.inj hi).symm)
    · rename_i hne
      refine .inr ⟨List.mem_of_getElem? hi, fun e2 => hne ?_⟩
      have h1 := h.sap d hd e (List.mem_of_getElem? hi) b hob e2
      have k1 : ((kvD D).map (·.1))[a]? = some d.1.2.2 := by simp [kvD, ha]
      have k2 : ((kvD D).map (·.1))[i]? = some d.1.2.2 := by simp [kvD, hi, h1]
      exact (List.getElem?_inj (by simpa [kvD] using hal) h.mp.once).1 (k1.trans k2.symm)
  refine ⟨(hcell h.seg (by decide)).trans h.seg, h.ends.block (fun q hm => hb q (h.ends.lt q hm) (fun e => by subst e; exact (h.eap q hm).2.2.2.2 d hd hob)), h.fr.block (hcell h.fr (by decide)), (hcell h.nms (by decide)).trans h.nms, h.nlen, fun i u hi => row_at (h.row i u hi) (fun q e => ⟨?_, Nat.zero_le _⟩), h.nap, ?_, fun e he => ?_, ?_, ?_⟩
  · obtain ⟨cur', hc'⟩ := h.nameType (List.mem_of_getElem? hi) e
    exact hcell hc' (by decide)
  · rw [hkv]
    exact h.mp.block (hb gm h.mp.lt (h.mp.notCells hty))
  · rcases hmem e he with rfl | ⟨he, hne⟩
    · obtain ⟨b', cap', rest, e1, e2, e3⟩ := h.seats d hd
      have hbb : b' = b := by rw [e1] at hob; exact Option.some.inj hob
      subst hbb
      refine ⟨b', cap', rest, by simp only [List.length_set]; exact e1, by simp only [List.length_set]; exact e2, ?_⟩
      have h1 := e3.set (c * 2 + 1) (.int .i64 (p' : Nat))
      have hcl := (List.getElem?_eq_some_iff.1 hc).1
      rw [List.set_append_left _ _ (by rw [flatQ_len]; omega), flatQ_set _ hc] at h1
      exact h1
    · refine (h.seats e he).block (fun q eq => ?_)
      obtain ⟨cur', hc'⟩ := h.seatType he eq
      exact hb q (lt_of_block hc') (fun e2 => hne (by rw [eq, e2]))
  · intro e he e' he' q h1 h2
    have hD : ∀ e, e ∈ D.set a (d.1, d.2.1, d.2.2.set c (k, p')) → ∃ e0 ∈ D, e0.1 = e.1 ∧ e0.2.1 = e.2.1 := fun e he => by
      rcases hmem e he with rfl | ⟨he, -⟩
      · exact ⟨d, hd, rfl, rfl⟩
      · exact ⟨e, he, rfl, rfl⟩
    obtain ⟨e0, k1, k2, k3⟩ := hD e he
    obtain ⟨e0', k1', k2', k3'⟩ := hD e' he'
    rw [← k2, ← k2']
    exact h.sap e0 k1 e0' k1' q (by rw [k3]; exact h1) (by rw [k3']; exact h2)
  · intro q hq
    obtain ⟨h1, h2, h3, h4, h5⟩ := h.eap q hq
    refine ⟨h1, h2, h3, h4, fun e he e2 => ?_⟩
    rcases hmem e he with rfl | ⟨he, -⟩
    · exact h5 d hd e2
    · exact h5 e he e2
theorem bks_seatSet {a : Nat} {d : En} {st : List (Nat × Nat)} (ha : D[a]? = some d) {b : Nat} : b ∈ bks g eb gf gn gm NV (D.set a (d.1, d.2.1, st)) ↔ b ∈ bks g eb gf gn gm NV D := by
  have : (D.set a (d.1, d.2.1, st)).filterMap (fun d => d.2.1.ownBlock) = D.filterMap (fun d => d.2.1.ownBlock) := by
    have h1 : ∀ l : List En, l.filterMap (fun d => d.2.1.ownBlock) = (l.map (fun d => d.2.1)).filterMap Value.ownBlock := fun l => by rw [List.filterMap_map]; rfl
    rw [h1, h1, List.map_set]
    congr 1
    exact set_same (by rw [List.getElem?_map, ha]; rfl)
  unfold bks
  rw [this]
end
end Go.Proofs.Ytgcimicbbadapaa
