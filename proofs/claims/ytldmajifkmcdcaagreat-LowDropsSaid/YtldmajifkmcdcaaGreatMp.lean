/-
  A map whose keys are names (uint32), of any elements, in memory: which entries there are, in any order; looked up, written, cut, counted. No condition but those typed at each theorem.
-/
import Derived.Test.YtldmajifkmcdcaaGreatMGen
import Derived.Maps.OwnOps
import Derived.Maps.OwnSet
namespace Go.Proofs.YtldmajifkmcdcaaGreat
open Go.RowKit Go.ChangeMaps Go.MapKept
open Go.WideElems (Fit rd rg pl rd_val rd_key rg_of)
open Go.Maps (Keyed)
/-- how an element reads: as itself -/
def asIs : Value → Option (DataW Value × List MemPlace) := fun v => some (.held v, [])
/-- an entry, as it reads -/
def ent (p : Int × Value) : Lit × DataW Value := (.int .u32 p.1, .held p.2)
/-- the block b is a map that has these entries -/
def MP (P : Program) (k : TypeId) (w : World) (b : Nat) (L : List (Int × Value)) : Prop :=
  ∃ es clock, w.heap[b]? = some (.map es clock) ∧ Fit P k asIs es clock ∧ ((es.toList.map (rg P k asIs)).foldr DataW.insert []).Perm (L.map ent) ∧ (L.map (·.1)).Nodup
/-- nothing but the map's block turns -/
theorem off_setBlock {w : World} {b : Nat} {es : Array MapEntry} {clock : Nat} {o' : Obj} (hb : w.heap[b]? = some (.map es clock)) : Off [b] w (setBlock w b o') :=
  ⟨rfl, rfl, rfl, by simp [setBlock], fun k _ hk => heap_setBlock_other hb _ (fun e => hk (by simp [e]))⟩
section
variable {P : Program} {k : TypeId} {w w' : World} {b : Nat} {L : List (Int × Value)}
theorem MP.lt (h : MP P k w b L) : b < w.heap.size := by obtain ⟨es, c, h, _⟩ := h; exact lt_of_block h
theorem MP.block (h : MP P k w b L) (hb : w'.heap[b]? = w.heap[b]?) : MP P k w' b L := by
  obtain ⟨es, c, h1, h2⟩ := h
  exact ⟨es, c, hb.trans h1, h2⟩
theorem MP.off {S : List Nat} (h : MP P k w b L) (g : Off S w w') (hS : b ∉ S) : MP P k w' b L := h.block (g.block b h.lt hS)
theorem MP.keep (h : MP P k w b L) (g : Below w.heap.size w w') : MP P k w' b L := h.block (g.block b h.lt)
theorem MP.perm {M : List (Int × Value)} (h : MP P k w b L) (hp : L.Perm M) : MP P k w b M := by
  obtain ⟨es, c, h1, h2, h3, h4⟩ := h
  exact ⟨es, c, h1, h2, h3.trans (hp.map _), (hp.map _).nodup_iff.1 h4⟩
theorem MP.once (h : MP P k w b L) : (L.map (·.1)).Nodup := by obtain ⟨_, _, _, _, _, h⟩ := h; exact h
theorem MP.made (P : Program) (k : TypeId) (w : World) : MP P k (w.alloc (.map #[] 0)) w.heap.size [] :=
  ⟨#[], 0, (MapKept.heap_alloc w _).1, ⟨by simp, stamped_empty 0, by simp⟩, by simp, by simp⟩
theorem ent_inj {p q : Int × Value} (h : ent p = ent q) : p = q := by
  simp only [ent, Prod.mk.injEq, Lit.int.injEq, DataW.held.injEq, true_and] at h
  exact Prod.ext h.1 h.2
theorem ent_at {es : Array MapEntry} {x : MapEntry} (hx : x ∈ es.toList) : rg P k asIs x ∈ (es.toList.map (rg P k asIs)).foldr DataW.insert [] :=
  (WideShapes.sorted_perm _).mem_iff.2 (List.mem_map.2 ⟨x, hx, rfl⟩)
theorem rg_asIs {x : MapEntry} {y : Lit × DataW Value} (h : rd P k asIs x = some y) : rg P k asIs x = y ∧ y.2 = .held x.val := by
  obtain ⟨z, hz, hy⟩ := rd_val h
  simp only [asIs, Option.some.injEq] at hz
  exact ⟨rg_of h, by rw [hy, ← hz]⟩
theorem notKey_ent {i : Int} {p : Int × Value} : notKey (.int .u32 i) (ent p) = decide (p.1 ≠ i) := by
  have h1 := Go.Maps.notKey_iff (H := Value) (k := .int .u32 i) (p := ent p) (by simp [WideAt.IsKeyLit])
  have h2 : (ent p).1 ≠ .int .u32 i ↔ p.1 ≠ i := by simp [ent]
  rw [h2] at h1
  cases hn : notKey (.int .u32 i) (ent p) with
  | true => rw [hn] at h1; simpa using h1
  | false => rw [hn] at h1; simpa using h1
section
variable {t e : TypeId} (ht : P.underlying t = some (.map k e)) (hk : P.underlying k = some (.int .u32))
include ht hk
theorem MP.look (h : MP P k w b L) {i : Int} {v : Value} (hi : (Lit.int .u32 i).wf = true) (hm : (i, v) ∈ L) {z : Value} (hz : (zeroValue e).run P w = .ok z w) (c : Bool) :
    (Instr.lookup t (.map (some b)) (.int .u32 i) c).run P w = .ok (if c then .tuple #[v, .bool true] else v) w := by
  obtain ⟨es, clock, hb, F, hp, hn⟩ := h
  have hkey := Go.Maps.keyOf_int_mk hk hi
  rcases Maps.fit_look c (Go.Maps.int_keyed hk) ht hz hb F hkey with ⟨_, h2, _⟩ | ⟨e0, y, hm0, hk0, hrun, hR, _, _⟩
  · exfalso
    have h3 : ent (i, v) ∈ (es.toList.map (rg P k asIs)).foldr DataW.insert [] := hp.mem_iff.2 (List.mem_map.2 ⟨_, hm, rfl⟩)
    have h4 := (WideShapes.sorted_perm _).mem_iff.1 h3
    obtain ⟨x, hx, hxe⟩ := List.mem_map.1 h4
    obtain ⟨y, hy⟩ := F.reads x hx
    obtain ⟨h5, h6⟩ := rg_asIs hy
    have h7 := rd_key hy
    rw [← h5, hxe] at h7
    exact h2 x hx ((Go.Maps.int_keyed hk).inj h7 hkey)
  · obtain ⟨y0, hy0⟩ := F.reads e0 hm0
    obtain ⟨h5, h6⟩ := rg_asIs hy0
    have h7 := rd_key hy0
    rw [hk0, hkey] at h7
    have h8 : ent (i, e0.val) ∈ L.map ent := hp.mem_iff.1 (by
      have := ent_at (P := P) (k := k) hm0
      rw [h5] at this
      have e2 : y0 = ent (i, e0.val) := Prod.ext (Option.some.inj h7).symm h6
      rwa [e2] at this)
    obtain ⟨q, hq, hqe⟩ := List.mem_map.1 h8
    have hq2 := ent_inj hqe
    subst hq2
    have : v = e0.val := by
      obtain ⟨a, ha⟩ := List.mem_iff_getElem?.1 hm
      obtain ⟨a', ha'⟩ := List.mem_iff_getElem?.1 hq
      have k1 : (L.map (·.1))[a]? = some i := by rw [List.getElem?_map, ha]; rfl
      have k2 : (L.map (·.1))[a']? = some i := by rw [List.getElem?_map, ha']; rfl
      have := (List.getElem?_inj (by simpa using (List.getElem?_eq_some_iff.1 ha).1) hn).1 (k1.trans k2.symm)
      subst this
      rw [ha] at ha'
      exact congrArg Prod.snd (Option.some.inj ha')
    rw [this]
    exact hrun
theorem MP.miss (h : MP P k w b L) {i : Int} (hi : (Lit.int .u32 i).wf = true) (hm : ∀ p ∈ L, p.1 ≠ i) {z : Value} (hz : (zeroValue e).run P w = .ok z w) (c : Bool) :
    (Instr.lookup t (.map (some b)) (.int .u32 i) c).run P w = .ok (if c then .tuple #[z, .bool false] else z) w := by
  obtain ⟨es, clock, hb, F, hp, hn⟩ := h
  have hkey := Go.Maps.keyOf_int_mk hk hi
  rcases Maps.fit_look c (Go.Maps.int_keyed hk) ht hz hb F hkey with ⟨hrun, _, _⟩ | ⟨e0, y, hm0, hk0, _, hR, _, _⟩
  · exact hrun
  · exfalso
    obtain ⟨y0, hy0⟩ := F.reads e0 hm0
    obtain ⟨h5, h6⟩ := rg_asIs hy0
    have h7 := rd_key hy0
    rw [hk0, hkey] at h7
    have h8 := hp.mem_iff.1 (ent_at (P := P) (k := k) hm0)
    rw [h5] at h8
    obtain ⟨q, hq, hqe⟩ := List.mem_map.1 h8
    have h9 := Option.some.inj h7
    rw [← hqe] at h9
    simp only [ent, Lit.int.injEq, true_and] at h9
    exact hm q hq h9.symm
theorem MP.store (h : MP P k w b L) (hl : L.length < maxLen) {i : Int} (v : Value) (hi : (Lit.int .u32 i).wf = true) :
    ∃ w', (Instr.mapUpdate t (.map (some b)) (.int .u32 i) v).run P w = .ok () w' ∧ MP P k w' b (L.filter (fun p => decide (p.1 ≠ i)) ++ [(i, v)]) ∧ Off [b] w w' := by
  obtain ⟨es, clock, hb, F, hp, hn⟩ := h
  have hkey := Go.Maps.keyOf_int_mk hk hi
  have hlen : es.size = L.length := by
    have := hp.length_eq
    rw [length_sorted] at this
    simpa using this
  obtain ⟨es', clock', hrun, F', hput, _⟩ := Maps.fit_store (R' := asIs) (val := v) (yv := (.held v, [])) (Go.Maps.int_keyed hk) ht hb F (by omega) (fun _ _ _ _ hz => hz) hkey rfl
  refine ⟨_, hrun, ⟨es', clock', heap_setBlock_same hb _, F', ?_, ?_⟩, off_setBlock hb⟩
  · rw [hput]
    unfold putKey
    have h1 : (((es.toList.map (rg P k asIs)).foldr DataW.insert []).filter (notKey (.int .u32 i))).Perm ((L.filter (fun p => decide (p.1 ≠ i))).map ent) := by
      refine (hp.filter _).trans ?_
      rw [List.filter_map]
      have : (notKey (.int .u32 i) ∘ ent) = (fun p : Int × Value => decide (p.1 ≠ i)) := by
        funext p
        exact notKey_ent
      rw [this]
    rw [List.map_append]
    refine List.Perm.trans ?_ ((List.perm_append_singleton (ent (i, v)) _).symm)
    have h2 : (DataW.insert ((Lit.int .u32 i), DataW.held v) (((es.toList.map (rg P k asIs)).foldr DataW.insert []).filter (notKey (.int .u32 i)))).Perm (((Lit.int .u32 i), DataW.held v) :: (((es.toList.map (rg P k asIs)).foldr DataW.insert []).filter (notKey (.int .u32 i)))) := WideShapes.insert_perm _ _
    exact h2.trans (h1.cons _)
  · rw [List.map_append, List.nodup_append]
    refine ⟨(List.filter_sublist.map _).nodup hn, by simp, ?_⟩
    intro a ha c hc e
    obtain ⟨p, hp1, rfl⟩ := List.mem_map.1 ha
    simp at hc
    subst hc
    have := (List.mem_filter.1 hp1).2
    simp at this
    exact this e
theorem MP.drop (h : MP P k w b L) (i : Int) (hi : (Lit.int .u32 i).wf = true) (ty : TypeId) :
    ∃ w', (Builtin.delete_ #[t, k] ty #[.map (some b), .int .u32 i]).run P w = .ok (.tuple #[]) w' ∧ MP P k w' b (L.filter (fun p => decide (p.1 ≠ i))) ∧ Off [b] w w' := by
  obtain ⟨es, clock, hb, F, hp, hn⟩ := h
  have hkey := Go.Maps.keyOf_int_mk hk hi
  obtain ⟨es', hrun, F', hle, hdel, _⟩ := Maps.fit_drop (ty := ty) (Go.Maps.int_keyed hk) ht hb F hkey
  refine ⟨_, hrun, ⟨es', clock, heap_setBlock_same hb _, F', ?_, (List.filter_sublist.map _).nodup hn⟩, off_setBlock hb⟩
  rw [hdel]
  unfold delKey
  refine (hp.filter _).trans ?_
  rw [List.filter_map]
  have : (notKey (.int .u32 i) ∘ ent) = (fun p : Int × Value => decide (p.1 ≠ i)) := by
    funext p
    exact notKey_ent
  rw [this]
omit hk in
theorem MP.len (h : MP P k w b L) (ty : TypeId) : (Builtin.len_ #[t] ty #[.map (some b)]).run P w = .ok (.int .i64 (L.length : Nat)) w := by
  obtain ⟨es, clock, hb, F, hp, hn⟩ := h
  have hlen : es.size = L.length := by
    have := hp.length_eq
    rw [length_sorted] at this
    simpa using this
  rw [← hlen]
  simp [Builtin.len_, run_underlying ht, MapKept.run_getObj_map hb, goInt, Result.andThen]
end
end
end Go.Proofs.YtldmajifkmcdcaaGreat
