/-
  A map whose keys are names (uint32), of any elements, in memory: which entries there are, in any order; looked up, written, cut, counted. No condition but those typed at each theorem.
-/
import Derived.Test.YtadlobmhnkfnfaaGreatMGen
import Derived.Maps.OwnOps
import Derived.Maps.OwnSet
import Derived.Test.YtadlobmhnkfnfaaGreatP3
import Derived.Maps.RangeWalk
namespace Go.Proofs.YtadlobmhnkfnfaaGreat
open Go.RowKit Go.ChangeMaps Go.MapKept
open Go.WideElems (Fit rd rg pl rd_val rd_key rg_of)
open Go.Maps (Keyed)
/-- how an element reads: as itself -/
def asIs : Value → Option (DataW Value × List MemPlace) := fun v => some (.held v, [])
/-- an entry, as it reads -/
def ent (p : Int × Value) : Lit × DataW Value := (.int .u32 p.1, .held p.2)
/-- the block b is a map that has these entries -/
def MP (P : Program) (k : TypeId) (w : World) (b : Nat) (L : List (Int × Value)) : Prop :=
  ∃ es clock, w.heap[b]? = some (.map es clock) ∧ Fit P k asIs es clock ∧ ((es.toList.map (rg P k asIs)).foldr DataW.insert []).Perm (L.map ent) ∧ (L.map (·.1)).Nodup
/-- nothing but the map's block turns -/
theorem off_setBlock {w : World} {b : Nat} {es : Array MapEntry} {clock : Nat} {o' : Obj} (hb : w.heap[b]? = some (.map es clock)) : Off [b] w (setBlock w b o') :=
  ⟨rfl, rfl, rfl, by simp [setBlock], fun k _ hk => heap_setBlock_other hb _ (fun e => hk (by simp [e]))⟩
section
variable {P : Program} {k : TypeId} {w w' : World} {b : Nat} {L : List (Int × Value)}
theorem MP.lt (h : MP P k w b L) : b < w.heap.size := by obtain ⟨es, c, h, _⟩ := h; exact lt_of_block h
theorem MP.block (h : MP P k w b L) (hb : w'.heap[b]? = w.heap[b]?) : MP P k w' b L := by
  obtain ⟨es, c, h1, h2⟩ := h
  exact ⟨es, c, hb.trans h1, h2⟩
theorem MP.off {S : List Nat} (h : MP P k w b L) (g : Off S w w') (hS : b ∉ S) : MP P k w' b L := h.block (g.block b h.lt hS)
theorem MP.keep (h : MP P k w b L) (g : Below w.heap.size w w') : MP P k w' b L := h.block (g.block b h.lt)
theorem MP.perm {M : List (Int × Value)} (h : MP P k w b L) (hp : L.Perm M) : MP P k w b M := by
  obtain ⟨es, c, h1, h2, h3, h4⟩ := h
  exact ⟨es, c, h1, h2, h3.trans (hp.map _), (hp.map _).nodup_iff.1 h4⟩
theorem MP.once (h : MP P k w b L) : (L.map (·.1)).Nodup := by obtain ⟨_, _, _, _, _, h⟩ := h; exact h
theorem MP.made (P : Program) (k : TypeId) (w : World) : MP P k (w.alloc (.map #[] 0)) w.heap.size [] :=
  ⟨#[], 0, (MapKept.heap_alloc w _).1, ⟨by simp, stamped_empty 0, by simp⟩, by simp, by simp⟩
theorem ent_inj {p q : Int × Value} (h : ent p = ent q) : p = q := by
  simp only [ent, Prod.mk.injEq, Lit.int.injEq, DataW.held.injEq, true_and] at h
  exact Prod.ext h.1 h.2
theorem ent_at {es : Array MapEntry} {x : MapEntry} (hx : x ∈ es.toList) : rg P k asIs x ∈ (es.toList.map (rg P k asIs)).foldr DataW.insert [] :=
  (WideShapes.sorted_perm _).mem_iff.2 (List.mem_map.2 ⟨x, hx, rfl⟩)
theorem rg_asIs {x : MapEntry} {y : Lit × DataW Value} (h : rd P k asIs x = some y) : rg P k asIs x = y ∧ y.2 = .held x.val := by
  obtain ⟨z, hz, hy⟩ := rd_val h
  simp only [asIs, Option.some.injEq] at hz
  exact ⟨rg_of h, by rw [hy, ← hz]⟩
theorem notKey_ent {i : Int} {p : Int × Value} : notKey (.int .u32 i) (ent p) = decide (p.1 ≠ i) := by
  have h1 := Go.Maps.notKey_iff (H := Value) (k := .int .u32 i) (p := ent p) (by simp [WideAt.IsKeyLit])
  have h2 : (ent p).1 ≠ .int .u32 i ↔ p.1 ≠ i := by simp [ent]
  rw [h2] at h1
  cases hn : notKey (.int .u32 i) (ent p) with
  | true => rw [hn] at h1; simpa using h1
  | false => rw [hn] at h1; simpa using h1
section
variable {t e : TypeId} (ht : P.underlying t = some (.map k e)) (hk : P.underlying k = some (.int .u32))
include ht hk
theorem MP.look (h : MP P k w b L) {i : Int} {v : Value} (hi : (Lit.int .u32 i).wf = true) (hm : (i, v) ∈ L) {z : Value} (hz : (zeroValue e).run P w = .ok z w) (c : Bool) :
    (Instr.lookup t (.map (some b)) (.int .u32 i) c).run P w = .ok (if c then .tuple #[v, .bool true] else v) w := by
  obtain ⟨es, clock, hb, F, hp, hn⟩ := h
  have hkey := Go.Maps.keyOf_int_mk hk hi
  rcases Maps.fit_look c (Go.Maps.int_keyed hk) ht hz hb F hkey with ⟨_, h2, _⟩ | ⟨e0, y, hm0, hk0, hrun, hR, _, _⟩
  · exfalso
    have h3 : ent (i, v) ∈ (es.toList.map (rg P k asIs)).foldr DataW.insert [] := hp.mem_iff.2 (List.mem_map.2 ⟨_, hm, rfl⟩)
    have h4 := (WideShapes.sorted_perm _).mem_iff.1 h3
    obtain ⟨x, hx, hxe⟩ := List.mem_map.1 h4
    obtain ⟨y, hy⟩ := F.reads x hx
    obtain ⟨h5, h6⟩ := rg_asIs hy
    have h7 := rd_key hy
    rw [← h5, hxe] at h7
    exact h2 x hx ((Go.Maps.int_keyed hk).inj h7 hkey)
  · obtain ⟨y0, hy0⟩ := F.reads e0 hm0
    obtain ⟨h5, h6⟩ := rg_asIs hy0
    have h7 := rd_key hy0
    rw [hk0, hkey] at h7
    have h8 : ent (i, e0.val) ∈ L.map ent := hp.mem_iff.1 (by
      have := ent_at (P := P) (k := k) hm0
      rw [h5] at this
      have e2 : y0 = ent (i, e0.val) := Prod.ext (Option.some.inj h7).symm h6
      rwa [e2] at this)
    obtain ⟨q, hq, hqe⟩ := List.mem_map.1 h8
    have hq2 := ent_inj hqe
    subst hq2
    have : v = e0.val := by
      obtain ⟨a, ha⟩ := List.mem_iff_getElem?.1 hm
      obtain ⟨a', ha'⟩ := List.mem_iff_getElem?.1 hq
      have k1 : (L.map (·.1))[a]? = some i := by rw [List.getElem?_map, ha]; rfl
      have k2 : (L.map (·.1))[a']? = some i := by rw [List.getElem?_map, ha']; rfl
      have := (List.getElem?_inj (by simpa using (List.getElem?_eq_some_iff.1 ha).1) hn).1 (k1.trans k2.symm)
      subst this
      rw [ha] at ha'
      exact congrArg Prod.snd (Option.some.inj ha')
    rw [this]
    exact hrun
theorem MP.miss (h : MP P k w b L) {i : Int} (hi : (Lit.int .u32 i).wf = true) (hm : ∀ p ∈ L, p.1 ≠ i) {z : Value} (hz : (zeroValue e).run P w = .ok z w) (c : Bool) :
    (Instr.lookup t (.map (some b)) (.int .u32 i) c).run P w = .ok (if c then .tuple #[z, .bool false] else z) w := by
  obtain ⟨es, clock, hb, F, hp, hn⟩ := h
  have hkey := Go.Maps.keyOf_int_mk hk hi
  rcases Maps.fit_look c (Go.Maps.int_keyed hk) ht hz hb F hkey with ⟨hrun, _, _⟩ | ⟨e0, y, hm0, hk0, _, hR, _, _⟩
  · exact hrun
  · exfalso
    obtain ⟨y0, hy0⟩ := F.reads e0 hm0
    obtain ⟨h5, h6⟩ := rg_asIs hy0
    have h7 := rd_key hy0
    rw [hk0, hkey] at h7
    have h8 := hp.mem_iff.1 (ent_at (P := P) (k := k) hm0)
    rw [h5] at h8
    obtain ⟨q, hq, hqe⟩ := List.mem_map.1 h8
    have h9 := Option.some.inj h7
    rw [← hqe] at h9
    simp only [ent, Lit.int.injEq, true_and] at h9
    exact hm q hq h9.symm
theorem MP.store (h : MP P k w b L) (hl : L.length < maxLen) {i : Int} (v : Value) (hi : (Lit.int .u32 i).wf = true) :
    ∃ w', (Instr.mapUpdate t (.map (some b)) (.int .u32 i) v).run P w = .ok () w' ∧ MP P k w' b (L.filter (fun p => decide (p.1 ≠ i)) ++ [(i, v)]) ∧ Off [b] w w' := by
  obtain ⟨es, clock, hb, F, hp, hn⟩ := h
  have hkey := Go.Maps.keyOf_int_mk hk hi
  have hlen : es.size = L.length := by
    have := hp.length_eq
    rw [length_sorted] at this
    simpa using this
  obtain ⟨es', clock', hrun, F', hput, _⟩ := Maps.fit_store (R' := asIs) (val := v) (yv := (.held v, [])) (Go.Maps.int_keyed hk) ht hb F (by omega) (fun _ _ _ _ hz => hz) hkey rfl
  refine ⟨_, hrun, ⟨es', clock', heap_setBlock_same hb _, F', ?_, ?_⟩, off_setBlock hb⟩
  · rw [hput]
    unfold putKey
    have h1 : (((es.toList.map (rg P k asIs)).foldr DataW.insert []).filter (notKey (.int .u32 i))).Perm ((L.filter (fun p => decide (p.1 ≠ i))).map ent) := by
      refine (hp.filter _).trans ?_
      rw [List.filter_map]
      have : (notKey (.int .u32 i) ∘ ent) = (fun p : Int × Value => decide (p.1 ≠ i)) := by
        funext p
        exact notKey_ent
      rw [this]
    rw [List.map_append]
    refine List.Perm.trans ?_ ((List.perm_append_singleton (ent (i, v)) _).symm)
    have h2 : (DataW.insert ((Lit.int .u32 i), DataW.held v) (((es.toList.map (rg P k asIs)).foldr DataW.insert []).filter (notKey (.int .u32 i)))).Perm (((Lit.int .u32 i), DataW.held v) :: (((es.toList.map (rg P k asIs)).foldr DataW.insert []).filter (notKey (.int .u32 i)))) := WideShapes.insert_perm _ _
    exact h2.trans (h1.cons _)
  · rw [List.map_append, List.nodup_append]
    refine ⟨(List.filter_sublist.map _).nodup hn, by simp, ?_⟩
    intro a ha c hc e
    obtain ⟨p, hp1, rfl⟩ := List.mem_map.1 ha
    simp at hc
    subst hc
    have := (List.mem_filter.1 hp1).2
    simp at this
    exact this e
theorem MP.drop (h : MP P k w b L) (i : Int) (hi : (Lit.int .u32 i).wf = true) (ty : TypeId) :
    ∃ w', (Builtin.delete_ #[t, k] ty #[.map (some b), .int .u32 i]).run P w = .ok (.tuple #[]) w' ∧ MP P k w' b (L.filter (fun p => decide (p.1 ≠ i))) ∧ Off [b] w w' := by
  obtain ⟨es, clock, hb, F, hp, hn⟩ := h
  have hkey := Go.Maps.keyOf_int_mk hk hi
  obtain ⟨es', hrun, F', hle, hdel, _⟩ := Maps.fit_drop (ty := ty) (Go.Maps.int_keyed hk) ht hb F hkey
  refine ⟨_, hrun, ⟨es', clock, heap_setBlock_same hb _, F', ?_, (List.filter_sublist.map _).nodup hn⟩, off_setBlock hb⟩
  rw [hdel]
  unfold delKey
  refine (hp.filter _).trans ?_
  rw [List.filter_map]
  have : (notKey (.int .u32 i) ∘ ent) = (fun p : Int × Value => decide (p.1 ≠ i)) := by
    funext p
    exact notKey_ent
  rw [this]
omit hk in
theorem MP.len (h : MP P k w b L) (ty : TypeId) : (Builtin.len_ #[t] ty #[.map (some b)]).run P w = .ok (.int .i64 (L.length : Nat)) w := by
  obtain ⟨es, clock, hb, F, hp, hn⟩ := h
  have hlen : es.size = L.length := by
    have := hp.length_eq
    rw [length_sorted] at this
    simpa using this
  rw [← hlen]
  simp [Builtin.len_, run_underlying ht, MapKept.run_getObj_map hb, goInt, Result.andThen]
end
end
end Go.Proofs.YtadlobmhnkfnfaaGreat
/-
  A map that counts names: steps, names each with a one; a list parted in two by a test. No condition but those typed at each theorem.
-/
namespace Go.Proofs.YtadlobmhnkfnfaaGreat
open Go.ChangeShapes Go.WideShapes Go.ChangeAt Go.RowKit Go.Joins
/-! ### steps of a map -/
theorem wpList_lookR {P : Program} {w : World} {ops : Array Oper} {rest : List Oper} {o : Oper} {a : Act} {Q : Exit → Act → World → Prop} (hg : o.guard = none) (m x : Operand) (t : TypeId) (c : Bool) (hop : o.op = Op.lookup t m x c) (u v r : Value)
    (hm : a.eval m = u) (hx : a.eval x = v) (hrun : (Instr.lookup t u v c).run P w = .ok r w) (hK : wpList P ops Q rest (a.put o.dst r) w) : wpList P ops Q (o :: rest) a w :=
  wpList_plain hg fun K' hK' => by
    unfold Oper.wp
    simp [execOp, hop, hm, hx, hrun, Result.andThen]
    exact hK' _ _ hK
theorem wpList_putR {P : Program} {w w' : World} {ops : Array Oper} {rest : List Oper} {o : Oper} {a : Act} {Q : Exit → Act → World → Prop} (hg : o.guard = none) (m x y : Operand) (t : TypeId) (hop : o.op = Op.mapUpdate t m x y) (u v z : Value)
    (hm : a.eval m = u) (hx : a.eval x = v) (hy : a.eval y = z) (hrun : (Instr.mapUpdate t u v z).run P w = .ok () w') (hK : wpList P ops Q rest (a.put o.dst undef) w') : wpList P ops Q (o :: rest) a w :=
  wpList_plain hg fun K' hK' => by
    unfold Oper.wp
    simp [execOp, hop, hm, hx, hy, hrun, Result.andThen]
    exact hK' _ _ hK
theorem zeroI3 (w : World) : (zeroValue 3).run Tryz.prog w = .ok (.int .i64 0) w := by kernel_rfl
/-- each of these names, with a one -/
def ones (l : List Int) : List (Int × Value) := l.map (fun n => (n, .int .i64 1))
theorem ones_len (l : List Int) : (ones l).length = l.length := by simp [ones]
theorem ones_more {w : World} {b : Nat} {l : List Int} {n : Int} (h : MP Tryz.prog 31 w b (ones l)) (hn : (l ++ [n]).Nodup) (hw : (Lit.int .u32 n).wf = true) (hl : l.length ≤ 8192) :
    (Instr.lookup 48 (.map (some b)) (.int .u32 n) false).run Tryz.prog w = .ok (.int .i64 0) w ∧
    ∃ w', (Instr.mapUpdate 48 (.map (some b)) (.int .u32 n) (.int .i64 1)).run Tryz.prog w = .ok () w' ∧ MP Tryz.prog 31 w' b (ones (l ++ [n])) ∧ Off [b] w w' := by
  have hne : ∀ p ∈ ones l, p.1 ≠ n := by
    intro p hp e
    obtain ⟨m, hm, rfl⟩ := List.mem_map.1 hp
    exact (List.nodup_append.1 hn).2.2 m hm n (by simp) e
  refine ⟨h.miss Tryz.underlying48 Tryz.underlying31 hw hne (zeroI3 w) false, ?_⟩
  obtain ⟨w', h1, h2, h3⟩ := h.store Tryz.underlying48 Tryz.underlying31 (by rw [ones_len]; simp [maxLen]; omega) (.int .i64 1) hw
  refine ⟨w', h1, ?_, h3⟩
  rw [List.filter_eq_self.2 (fun q hq => by simpa using hne q hq)] at h2
  have e : ones (l ++ [n]) = ones l ++ [(n, .int .i64 1)] := by simp [ones]
  rw [e]
  exact h2
theorem ones_look {w : World} {b : Nat} {l : List Int} {n : Int} (h : MP Tryz.prog 31 w b (ones l)) (hw : (Lit.int .u32 n).wf = true) (hm : n ∈ l) :
    (Instr.lookup 48 (.map (some b)) (.int .u32 n) false).run Tryz.prog w = .ok (.int .i64 1) w :=
  h.look Tryz.underlying48 Tryz.underlying31 hw (List.mem_map.2 ⟨n, hm, rfl⟩) (zeroI3 w) false
theorem filter_or {α : Type} (p q r : α → Bool) : ∀ (L : List α), (∀ s ∈ L, p s = (q s || r s) ∧ ¬ (q s = true ∧ r s = true)) → (L.filter q ++ L.filter r).Perm (L.filter p) := by
  intro L
  induction L with
  | nil => intro _; exact List.Perm.refl _
  | cons a L ih =>
    intro h
    have ih := ih (fun s hs => h s (List.mem_cons_of_mem _ hs))
    obtain ⟨h1, h2⟩ := h a List.mem_cons_self
    cases hq : q a with
    | false =>
      cases hr : r a with
      | false =>
        rw [hq, hr] at h1
        simp only [List.filter_cons, hq, hr, h1, Bool.or_self, Bool.false_eq_true, if_false]
        exact ih
      | true =>
        rw [hq, hr] at h1
        simp only [List.filter_cons, hq, hr, h1, Bool.false_or, Bool.false_eq_true, if_false, if_true]
        exact List.perm_middle.trans (ih.cons a)
    | true =>
      cases hr : r a with
      | false =>
        rw [hq, hr] at h1
        simp only [List.filter_cons, hq, hr, h1, Bool.or_false, Bool.false_eq_true, if_false, if_true, List.cons_append]
        exact ih.cons a
      | true => exact absurd ⟨hq, hr⟩ h2
end Go.Proofs.YtadlobmhnkfnfaaGreat
/-
  A map keyed by names, ranged over by a loop that does not write it: whichever entry comes is one of it. No condition but those typed at each theorem.
-/
namespace Go.Proofs.YtadlobmhnkfnfaaGreat
open Go.RowKit Go.ChangeMaps Go.MapKept
open Go.WideElems (Fit rd rg pl rd_val rd_key rg_of)
open Go.Maps (Keyed)
/-- the block r is an iterator over the map in block b, of whose entries so many are still to come -/
def Itr (P : Program) (k : TypeId) (w : World) (b r : Nat) (L : List (Int × Value)) (cnt : Nat) : Prop :=
  ∃ es clock since seen c0, w.heap[b]? = some (.map es clock) ∧ Fit P k asIs es clock ∧ ((es.toList.map (rg P k asIs)).foldr DataW.insert []).Perm (L.map ent) ∧ (L.map (·.1)).Nodup ∧
    w.heap[r]? = some (.mapIter (some b) since seen c0) ∧ (∀ x ∈ es.toList, x.born < since) ∧ (leftOf es seen).size = cnt ∧ since ≤ c0 ∧ since ≤ clock
section
variable {P : Program} {k : TypeId} {w w' : World} {b r cnt : Nat} {L : List (Int × Value)}
theorem Itr.map (h : Itr P k w b r L cnt) : MP P k w b L := by
  obtain ⟨es, clock, _, _, _, hb, F, hp, hn, _⟩ := h
  exact ⟨es, clock, hb, F, hp, hn⟩
theorem Itr.lt (h : Itr P k w b r L cnt) : r < w.heap.size := by
  obtain ⟨es, clock, _, _, _, _, _, _, _, hr, _⟩ := h
  exact lt_of_block hr
theorem Itr.ne (h : Itr P k w b r L cnt) : r ≠ b := by
  obtain ⟨es, clock, _, _, _, hb, _, _, _, hr, _⟩ := h
  intro e
  rw [e, hb] at hr
  cases hr
theorem Itr.off {S : List Nat} (h : Itr P k w b r L cnt) (g : Off S w w') (hb : b ∉ S) (hr : r ∉ S) : Itr P k w' b r L cnt := by
  have h1 := h.map.lt
  have h2 := h.lt
  obtain ⟨es, clock, since, seen, c0, e1, F, hp, hn, e2, rest⟩ := h
  exact ⟨es, clock, since, seen, c0, (g.block b h1 hb).trans e1, F, hp, hn, (g.block r h2 hr).trans e2, rest⟩
theorem Itr.keep (h : Itr P k w b r L cnt) (g : Below w.heap.size w w') : Itr P k w' b r L cnt := h.off (Off.of (S := []) g (Nat.le_refl _)) (by simp) (by simp)
theorem Itr.left_eq (h : Itr P k w b r L cnt) : w.rangeLeft b r = cnt := by
  obtain ⟨es, clock, since, seen, c0, e1, F, hp, hn, e2, _, hc, _⟩ := h
  simp only [World.rangeLeft, e1, e2]
  exact hc
theorem MP.range {t e : TypeId} (h : MP P k w b L) (ht : P.underlying t = some (.map k e)) :
    ∃ w' cnt, (Instr.range t (.map (some b))).run P w = .ok (.pointer (some ⟨w.heap.size, 0, none⟩)) w' ∧ Itr P k w' b w.heap.size L cnt ∧ Below w.heap.size w w' ∧ w'.heap.size = w.heap.size + 1 := by
  have hlt := h.lt
  obtain ⟨es, clock, hb, F, hp, hn⟩ := h
  exact ⟨_, _, run_range_map w t k e b es clock ht hb, ⟨es, clock, clock, #[], clock, ((MapKept.heap_alloc w _).2 b hlt).trans hb, F, hp, hn, (MapKept.heap_alloc w _).1, F.stamped.1, rfl, Nat.le_refl _, Nat.le_refl _⟩, (Below.refl _ w).alloc (Nat.le_refl _) _, by simp⟩
theorem Itr.next (h : Itr P k w b r L cnt) (hk : P.underlying k = some (.int .u32)) (ty : TypeId) :
    ((Instr.next (.pointer (some ⟨r, 0, none⟩)) false ty).run P w = .ok (.tuple #[.bool false]) w) ∨
    ∃ i v w' cnt', (i, v) ∈ L ∧ (Instr.next (.pointer (some ⟨r, 0, none⟩)) false ty).run P w = .ok (.tuple #[.bool true, .int .u32 i, v]) w' ∧ Itr P k w' b r L cnt' ∧ cnt' < cnt ∧ Off [r] w w' ∧ w'.heap.size = w.heap.size ∧
      (Instr.entry (.pointer (some ⟨r, 0, none⟩))).run P w' = .ok (.tuple #[.int .u32 i, v]) w' := by
  have hne := h.ne
  obtain ⟨es, clock, since, seen, c0, hb, F, hp, hn, hr, hold, rfl, hsc, hsk⟩ := h
  rcases run_next_at (P := P) w ty r b since c0 seen es clock hr hb hold hsc with ⟨h0, hrun⟩ | ⟨e, he, w1, hal, hrun⟩
  · exact .inl hrun
  · obtain ⟨hem, hes⟩ := mem_left he
    obtain ⟨y0, hy0⟩ := F.reads e hem
    obtain ⟨h5, h6⟩ := rg_asIs hy0
    have h7 := rd_key hy0
    obtain ⟨i, hi, hkl, hw⟩ := Maps.keyOf_int_inv hk h7
    have hmem : (i, e.val) ∈ L := by
      have h8 : rg P k asIs e ∈ L.map ent := hp.mem_iff.1 (ent_at (P := P) (k := k) hem)
      rw [h5] at h8
      have e2 : y0 = ent (i, e.val) := Prod.ext hkl h6
      rw [e2] at h8
      obtain ⟨q, hq, hqe⟩ := List.mem_map.1 h8
      exact ent_inj hqe ▸ hq
    have hr1 : w1.heap[r]? = some (.mapIter (some b) since seen c0) := by rcases hal with rfl | rfl <;> exact hr
    have hb1 : w1.heap[b]? = some (.map es clock) := by rcases hal with rfl | rfl <;> exact hb
    have hset := heap_set (o' := .mapIter (some b) since (seen.push e.born) clock) hr1
    have hb' : (setBlock w1 r (.mapIter (some b) since (seen.push e.born) clock)).heap[b]? = some (.map es clock) := (hset.2 b (fun e1 => hne e1.symm)).trans hb1
    have hent := run_entry_at (P := P) _ r b since seen es clock e hset.1 hb' hem ((stamped_iff es clock).1 F.stamped).2.1
    rw [hi] at hrun hent
    refine .inr ⟨i, e.val, _, _, hmem, hrun, ⟨es, clock, since, seen.push e.born, clock, hb', F, hp, hn, hset.1, hold, rfl, hsk, hsk⟩, left_shrinks es seen e he, ?_, ?_, hent⟩
    · rcases hal with rfl | rfl
      · exact ⟨rfl, rfl, rfl, by simp [setBlock], fun j _ hj => hset.2 j (fun e1 => hj (by simp [e1]))⟩
      · exact ⟨rfl, rfl, rfl, by simp [setBlock], fun j _ hj => hset.2 j (fun e1 => hj (by simp [e1]))⟩
    · rcases hal with rfl | rfl <;> simp [setBlock]
end
section
variable {P : Program} {w : World} {ops : Array Oper} {rest : List Oper} {o : Oper} {a : Act} {Q : Exit → Act → World → Prop}
/-- 'range m' -/
theorem wpList_rangeM (hg : o.guard = none) (m : Operand) (t : TypeId) (hop : o.op = Op.range t m) {k e : TypeId} (ht : P.underlying t = some (.map k e)) {b : Nat} {L : List (Int × Value)} (hm : a.eval m = .map (some b)) (h : MP P k w b L)
    (hK : ∀ w' cnt, Itr P k w' b w.heap.size L cnt → Below w.heap.size w w' → w'.heap.size = w.heap.size + 1 → wpList P ops Q rest (a.put o.dst (.pointer (some ⟨w.heap.size, 0, none⟩))) w') :
    wpList P ops Q (o :: rest) a w := by
  refine wpList_plain hg fun K' hK' => ?_
  obtain ⟨w', cnt, hrun, r1, r2, r3⟩ := h.range ht
  unfold Oper.wp
  simp [execOp, hop, hm, hrun, Result.andThen]
  exact hK' _ _ (hK w' cnt r1 r2 r3)
/-- a step, over names each with a one -/
theorem wpList_nextO (hg : o.guard = none) (it : Operand) (hop : o.op = Op.next it false) {k : TypeId} (hk : P.underlying k = some (.int .u32)) {b r cnt : Nat} {l : List Int} (hit : a.eval it = .pointer (some ⟨r, 0, none⟩)) (h : Itr P k w b r (l.map (fun n => (n, .int .i64 1))) cnt)
    (hDone : wpList P ops Q rest (a.put o.dst (.tuple #[.bool false])) w)
    (hMore : ∀ (i : Int) (w' : World) (cnt' : Nat), i ∈ l → Itr P k w' b r (l.map (fun n => (n, .int .i64 1))) cnt' → cnt' < cnt → Off [r] w w' → w'.heap.size = w.heap.size → (Instr.entry (.pointer (some ⟨r, 0, none⟩))).run P w' = .ok (.tuple #[.int .u32 i, .int .i64 1]) w' → wpList P ops Q rest (a.put o.dst (.tuple #[.bool true, .int .u32 i, .int .i64 1])) w') :
    wpList P ops Q (o :: rest) a w := by
  refine wpList_plain hg fun K' hK' => ?_
  unfold Oper.wp
  rcases h.next hk o.type with hrun | ⟨i, v, w', cnt', hm, hrun, h1, h2, h3, h4, h5⟩
  · simp [execOp, hop, hit, hrun, Result.andThen]
    exact hK' _ _ hDone
  · obtain ⟨n, hn, e⟩ := List.mem_map.1 hm
    cases e
    simp [execOp, hop, hit, hrun, Result.andThen]
    exact hK' _ _ (hMore _ w' cnt' hn h1 h2 h3 h4 h5)
end
end Go.Proofs.YtadlobmhnkfnfaaGreat
