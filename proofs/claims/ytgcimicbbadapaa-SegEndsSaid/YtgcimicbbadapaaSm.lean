/-
  A tree of spans in memory: its own cells, its ends, its names by nodes, its spans and their seats; made, Len, Weight, slot, over. No condition but those typed at each theorem.
-/
import Derived.Test.YtgcimicbbadapaaSt
import Derived.Test.YtgcimicbbadapaaMp
import Derived.Test.YtgcimicbbadapaaMLook
import Derived.Test.YtgcimicbbadapaaMFb
namespace Go.Proofs.Ytgcimicbbadapaa
open Go.RowKit

/-- a tree's cells -/
def segL (g : Nat) (ev : Value) (gf gn nn gm : Nat) (wt : Int) : List Value := [.pointer (some ⟨g, 0, none⟩), ev, .pointer (some ⟨gf, 0, none⟩), .slice (some ⟨gn, 0, none⟩) nn nn, .map (some gm), .int .i64 wt]
/-- a span that is there, as the map has it -/
def stV (d : En) : Value := .agg #[.int .i64 d.1.1, .int .i64 d.1.2.1, .int .u32 d.1.2.2, d.2.1]
def kvD (D : List En) : List (Int × Value) := D.map (fun d => (d.1.2.2, stV d))
/-- seats, cell by cell -/
def qv (q : Nat × Nat) : List Value := [.int .i64 q.1, .int .i64 q.2]
def flatQ (st : List (Nat × Nat)) : List Value := st.flatMap qv
theorem flatQ_snoc (st : List (Nat × Nat)) (q : Nat × Nat) : flatQ (st ++ [q]) = flatQ st ++ qv q := by simp [flatQ]
theorem flatQ_len (st : List (Nat × Nat)) : (flatQ st).length = st.length * 2 := by
  induction st with
  | nil => rfl
  | cons n ns ih => rw [show flatQ (n :: ns) = qv n ++ flatQ ns from rfl, List.length_append, ih, List.length_cons, show (qv n).length = 2 from rfl]; omega
theorem flatQ_get (st : List (Nat × Nat)) {j i : Nat} {q : Nat × Nat} (e : st[j]? = some q) (hi : i < 2) : (flatQ st)[j * 2 + i]? = (qv q)[i]? := by
  induction st generalizing j with
  | nil => simp at e
  | cons m ns ih =>
    rw [show flatQ (m :: ns) = qv m ++ flatQ ns from rfl]
    cases j with
    | zero =>
      simp at e
      subst e
      rw [Nat.zero_mul, Nat.zero_add, List.getElem?_append_left (by rw [show (qv m).length = 2 from rfl]; exact hi)]
    | succ j =>
      simp only [List.getElem?_cons_succ] at e
      rw [List.getElem?_append_right (by rw [show (qv m).length = 2 from rfl]; omega), show (qv m).length = 2 from rfl, show (j + 1) * 2 + i - 2 = j * 2 + i by omega]
      exact ih e
theorem flatQ_set (st : List (Nat × Nat)) {j k p p' : Nat} (e : st[j]? = some (k, p)) : (flatQ st).set (j * 2 + 1) (.int .i64 (p' : Nat)) = flatQ (st.set j (k, p')) := by
  induction st generalizing j with
  | nil => simp at e
  | cons m ns ih =>
    rw [show flatQ (m :: ns) = qv m ++ flatQ ns from rfl]
    cases j with
    | zero =>
      simp at e
      subst e
      rfl
    | succ j =>
      simp only [List.getElem?_cons_succ] at e
      rw [List.set_append_right _ _ (by rw [show (qv m).length = 2 from rfl]; omega), show (qv m).length = 2 from rfl, show (j + 1) * 2 + 1 - 2 = j * 2 + 1 by omega, ih e]
      rfl
/-- seats in memory -/
def SB (X : World) (v : Value) (st : List (Nat × Nat)) : Prop := ∃ b cap rest, v = .slice (some ⟨b, 0, none⟩) st.length cap ∧ st.length ≤ cap ∧ EV 99 X b (flatQ st ++ rest)
/-- the ends in memory, and their block -/
def EndsM (X : World) (ev : Value) (E : List Int) (eb : List Nat) : Prop := ∃ p c, ev = .slice p E.length c ∧ ((E = [] ∧ eb = []) ∨ ∃ b, p = some ⟨b, 0, none⟩ ∧ eb = [b] ∧ E ≠ [] ∧ Ns X b 0 .i64 E)
structure SegM (X : World) (g : Nat) (ev : Value) (eb : List Nat) (gf gn gm : Nat) (E : List Int) (NV : List Value) (NM : List (List Int)) (D : List En) (wt : Int) : Prop where
  seg : EV 66 X g (segL g ev gf gn NV.length gm wt)
  ends : EndsM X ev E eb
  fr : FR X gf (ms E) 0 (.pointer none)
  nms : EV 41 X gn NV
  nlen : NV.length = NM.length
  row : ∀ k v, NV[k]? = some v → X.ownsRow 0 32 1 v (nm NM k).length ((nm NM k).map (Value.int .u32))
  nap : ∀ (i j : Nat) (v v' : Value) (b : Nat), NV[i]? = some v → NV[j]? = some v' → v.ownBlock = some b → v'.ownBlock = some b → i = j
  mp : MP Try.prog 32 X gm (kvD D)
  seats : ∀ d ∈ D, SB X d.2.1 d.2.2
  sap : ∀ d ∈ D, ∀ d' ∈ D, ∀ b, d.2.1.ownBlock = some b → d'.2.1.ownBlock = some b → d.1 = d'.1
  eap : ∀ b ∈ eb, b ≠ g ∧ b ≠ gn ∧ b ≠ gm ∧ (∀ v ∈ NV, v.ownBlock ≠ some b) ∧ ∀ d ∈ D, d.2.1.ownBlock ≠ some b
/-- all blocks of a tree -/
def bks (g : Nat) (eb : List Nat) (gf gn gm : Nat) (NV : List Value) (D : List En) : List Nat := g :: gf :: gn :: gm :: (eb ++ (NV.filterMap Value.ownBlock ++ D.filterMap (fun d => d.2.1.ownBlock)))
theorem mem_bks {g : Nat} {eb : List Nat} {gf gn gm : Nat} {NV : List Value} {D : List En} {k : Nat} : k ∈ bks g eb gf gn gm NV D ↔ k = g ∨ k = gf ∨ k = gn ∨ k = gm ∨ k ∈ eb ∨ (∃ v ∈ NV, v.ownBlock = some k) ∨ ∃ d ∈ D, d.2.1.ownBlock = some k := by
  simp [bks, List.mem_filterMap]
theorem EndsM.block {X X' : World} {ev : Value} {E : List Int} {eb : List Nat} (h : EndsM X ev E eb) (hb : ∀ k ∈ eb, X'.heap[k]? = X.heap[k]?) : EndsM X' ev E eb := by
  obtain ⟨p, c, e, h⟩ := h
  refine ⟨p, c, e, ?_⟩
  rcases h with h | ⟨b, hp, he, h0, h⟩
  · exact .inl h
  · exact .inr ⟨b, hp, he, h0, fun j x hx => (World.cell?_of_block (a := ⟨b, 0 + j, none⟩) (hb b (by simp [he]))).trans (h j x hx)⟩
theorem EndsM.ns {X : World} {ev : Value} {E : List Int} {eb : List Nat} (h : EndsM X ev E eb) : ∃ p c, ev = .slice p E.length c ∧ NS X p .i64 E := by
  obtain ⟨p, c, e, h⟩ := h
  refine ⟨p, c, e, ?_⟩
  rcases h with h | ⟨b, hp, he, h0, h⟩
  · exact .inl h.1
  · exact .inr ⟨b, 0, hp, h⟩
theorem EndsM.lt {X : World} {ev : Value} {E : List Int} {eb : List Nat} (h : EndsM X ev E eb) : ∀ k ∈ eb, k < X.heap.size := by
  obtain ⟨p, c, e, h⟩ := h
  rcases h with ⟨h, rfl⟩ | ⟨b, hp, rfl, h0, h⟩
  · simp
  · intro k hk
    simp at hk
    subst hk
    cases E with
    | nil => exact absurd rfl h0
    | cons x xs => exact World.block_lt_of_cell? X _ (h 0 x rfl)
theorem SB.own {X : World} {v : Value} {st : List (Nat × Nat)} (h : SB X v st) : ∃ b, v.ownBlock = some b ∧ b < X.heap.size := by
  obtain ⟨b, cap, rest, rfl, -, he⟩ := h
  exact ⟨b, rfl, he.lt⟩
theorem SB.block {X X' : World} {v : Value} {st : List (Nat × Nat)} (h : SB X v st) (hb : ∀ b, v.ownBlock = some b → X'.heap[b]? = X.heap[b]?) : SB X' v st := by
  obtain ⟨b, cap, rest, rfl, hl, he⟩ := h
  exact ⟨b, cap, rest, rfl, hl, (hb b rfl).trans he⟩
section
variable {X X' : World} {g : Nat} {ev : Value} {eb : List Nat} {gf gn gm : Nat} {E : List Int} {NV : List Value} {NM : List (List Int)} {D : List En} {wt : Int}
theorem SegM.block (h : SegM X g ev eb gf gn gm E NV NM D wt) (hb : ∀ k ∈ bks g eb gf gn gm NV D, X'.heap[k]? = X.heap[k]?) : SegM X' g ev eb gf gn gm E NV NM D wt := by
  have hv : ∀ v ∈ NV, ∀ k, v.ownBlock = some k → X'.heap[k]? = X.heap[k]? := fun v hv k e => hb k (mem_bks.2 (.inr (.inr (.inr (.inr (.inr (.inl ⟨v, hv, e⟩)))))))
  exact ⟨(hb g (mem_bks.2 (.inl rfl))).trans h.seg, h.ends.block (fun k hk => hb k (mem_bks.2 (.inr (.inr (.inr (.inr (.inl hk))))))), h.fr.block (hb gf (mem_bks.2 (.inr (.inl rfl)))), (hb gn (mem_bks.2 (.inr (.inr (.inl rfl))))).trans h.nms, h.nlen,
    fun k v e => row_at (h.row k v e) (fun b hb' => ⟨hv v (List.mem_of_getElem? e) b hb', Nat.zero_le _⟩), h.nap, h.mp.block (hb gm (mem_bks.2 (.inr (.inr (.inr (.inl rfl)))))),
    fun d hd => (h.seats d hd).block (fun b e => hb b (mem_bks.2 (.inr (.inr (.inr (.inr (.inr (.inr ⟨d, hd, e⟩)))))))), h.sap, h.eap⟩
theorem SegM.lies (h : SegM X g ev eb gf gn gm E NV NM D wt) : ∀ k ∈ bks g eb gf gn gm NV D, k < X.heap.size := by
  intro k hk
  rcases mem_bks.1 hk with rfl | rfl | rfl | rfl | hk | ⟨v, hv, e⟩ | ⟨d, hd, e⟩
  · exact h.seg.lt
  · exact h.fr.lt
  · exact h.nms.lt
  · exact h.mp.lt
  · exact h.ends.lt k hk
  · obtain ⟨i, hi⟩ := List.mem_iff_getElem?.1 hv
    exact ((h.row i v hi).lt k e).2
  · obtain ⟨b, e2, hb⟩ := (h.seats d hd).own
    rw [e] at e2
    cases e2
    exact hb
theorem SegM.off {T : List Nat} (h : SegM X g ev eb gf gn gm E NV NM D wt) (o : Off T X X') (hT : ∀ k ∈ bks g eb gf gn gm NV D, k ∉ T) : SegM X' g ev eb gf gn gm E NV NM D wt := h.block (fun k hk => o.block k (h.lies k hk) (hT k hk))
theorem SegM.bel (h : SegM X g ev eb gf gn gm E NV NM D wt) (o : Below X.heap.size X X') : SegM X' g ev eb gf gn gm E NV NM D wt := h.block (fun k hk => o.block k (h.lies k hk))

theorem Try.eqSameS (a : Addr) (w : World) : (binOp .eql 25 (.pointer (some a)) (.pointer (some a))).run Try.prog w = .ok (.bool true) w := by
  obtain ⟨j, hj⟩ := Option.isSome_iff_exists.1 (show (Try.prog.info? 66).isSome = true by kernel_rfl)
  exact run_eql_ptr_same w a Try.underlying25 hj
set_option maxRecDepth 100000 in
theorem smade_yes (h : SegM X g ev eb gf gn gm E NV NM D wt) :
    Calls Try.prog 30 #[.pointer (some ⟨g, 0, none⟩)] X fun e w' => e = .returned (.bool true) ∧ w' = X := by
  have c0 : X.cell? ⟨g, 0, none⟩ = some (.pointer (some ⟨g, 0, none⟩)) := h.seg.cell (i := 0) rfl
  have q := Try.eqSameS
  clear h
  go_enter Try.func30, Try.ntmps30
  go_wp2
  go_ret
  exact ⟨rfl, rfl⟩
set_option maxRecDepth 100000 in
theorem smade_no (X : World) :
    Calls Try.prog 30 #[.pointer none] X fun e w' => e = .returned (.bool false) ∧ w' = X := by
  go_enter Try.func30, Try.ntmps30
  go_wp2
  go_ret
  exact ⟨rfl, rfl⟩
set_option maxRecDepth 100000 in
theorem sLen_yes (h : SegM X g ev eb gf gn gm E NV NM D wt) :
    Calls Try.prog 13 #[.pointer (some ⟨g, 0, none⟩)] X fun e w' => e = .returned (.int .i64 (D.length : Nat)) ∧ w' = X := by
  have c4 : X.cell? ⟨g, 4, none⟩ = some (.map (some gm)) := h.seg.cell (i := 4) rfl
  have hl := fun ty => h.mp.len Try.underlying64 ty
  rw [show (kvD D).length = D.length by simp [kvD]] at hl
  have HM := Lib.hid (smade_yes h)
  clear h
  go_enter Try.func13, Try.ntmps13
  go_wp2_with (go_at_call 30; (with_reducible refine HM.out.mono ?_); rintro e w1 ⟨rfl, rfl⟩)
  go_ret
  exact ⟨rfl, rfl⟩
set_option maxRecDepth 100000 in
theorem sLen_no (X : World) :
    Calls Try.prog 13 #[.pointer none] X fun e w' => e = .returned (.int .i64 0) ∧ w' = X := by
  have HM := Lib.hid (smade_no X)
  go_enter Try.func13, Try.ntmps13
  go_wp2_with (go_at_call 30; (with_reducible refine HM.out.mono ?_); rintro e w1 ⟨rfl, rfl⟩)
  go_ret
  exact ⟨rfl, rfl⟩
set_option maxRecDepth 100000 in
theorem sWeight_yes (h : SegM X g ev eb gf gn gm E NV NM D wt) :
    Calls Try.prog 14 #[.pointer (some ⟨g, 0, none⟩)] X fun e w' => e = .returned (.int .i64 wt) ∧ w' = X := by
  have c5 : X.cell? ⟨g, 5, none⟩ = some (.int .i64 wt) := h.seg.cell (i := 5) rfl
  have HM := Lib.hid (smade_yes h)
  clear h
  go_enter Try.func14, Try.ntmps14
  go_wp2_with (go_at_call 30; (with_reducible refine HM.out.mono ?_); rintro e w1 ⟨rfl, rfl⟩)
  go_ret
  exact ⟨rfl, rfl⟩
set_option maxRecDepth 100000 in
theorem sWeight_no (X : World) :
    Calls Try.prog 14 #[.pointer none] X fun e w' => e = .returned (.int .i64 0) ∧ w' = X := by
  have HM := Lib.hid (smade_no X)
  go_enter Try.func14, Try.ntmps14
  go_wp2_with (go_at_call 30; (with_reducible refine HM.out.mono ?_); rintro e w1 ⟨rfl, rfl⟩)
  go_ret
  exact ⟨rfl, rfl⟩
theorem getD_some {E : List Int} {k : Nat} (hk : k < E.length) : E[k]? = some (E.getD k 0) := by
  rw [List.getD_eq_getElem?_getD, List.getElem?_eq_getElem hk]
  rfl
set_option maxRecDepth 100000 in
set_option maxHeartbeats 800000 in
theorem slot_any (h : SegM X g ev eb gf gn gm E NV NM D wt) (hU : Up E) (hl : E.length ≤ 800) (x : Int) :
    Calls Try.prog 52 #[.pointer (some ⟨g, 0, none⟩), .int .i64 x] X fun e w' => e = .returned (.tuple #[.int .i64 (slI E x), .int .i64 ((firstP E x).2 : Nat)]) ∧ Below X.heap.size X w' := by
  obtain ⟨p, c, he, hns⟩ := h.ends.ns
  have c1 : X.cell? ⟨g, 1, none⟩ = some (.slice p E.length c) := he ▸ h.seg.cell (i := 1) rfl
  have HF := First_any X p c E x hns (by omega)
  have hp := (first_parts hU x).1
  have hsl : slI E x = if (firstP E x).1 = E.length then -1 else if E.getD (firstP E x).1 0 = x then 2 * ((firstP E x).1 : Int) else 2 * ((firstP E x).1 : Int) - 1 := rfl
  have hcell : (firstP E x).1 < E.length → ∃ b, p = some ⟨b, 0, none⟩ ∧ X.cell? ⟨b, (firstP E x).1, none⟩ = some (.int .i64 (E.getD (firstP E x).1 0)) := fun hlt => by
    obtain ⟨p', c', he', h2⟩ := h.ends
    have hpp : p' = p := by rw [he'] at he; cases he; rfl
    subst hpp
    rcases h2 with ⟨h2, _⟩ | ⟨b, hb, _, _, h2⟩
    · rw [h2] at hlt; simp at hlt
    · exact ⟨b, hb, by have := h2 _ _ (getD_some hlt); rwa [Nat.zero_add] at this⟩
  unfold two at HF
  generalize slI E x = sv at *
  rcases hP : firstP E x with ⟨i, k⟩
  rw [hP] at HF hp hsl hcell
  clear hP he hns h
  simp only at HF hp hsl hcell ⊢
  generalize hn : E.length = n at *
  have HF' := Lib.hid HF
  clear HF hn
  by_cases h1 : i = n
  · rw [if_pos h1] at hsl
    subst hsl
    have hz : ((i : Int) == (n : Int)) = true := by simp [h1]
    clear h1 hcell
    go_enter Try.func52, Try.ntmps52
    go_wp2_with (go_at_call 81; (with_reducible refine HF'.out.mono ?_); rintro e w1 ⟨rfl, hb⟩; have c1' := (hb.cell (World.block_lt_of_cell? X _ c1)).trans c1; have HB := Lib.hid hb; clear hb c1)
    go_ret2
    exact ⟨rfl, HB.out⟩
  · obtain ⟨b, rfl, c2⟩ := hcell (by omega)
    rw [if_neg h1] at hsl
    have hz : ((i : Int) == (n : Int)) = false := by simp; omega
    have hi : i < n := by omega
    clear h1 hcell
    by_cases h2 : E.getD i 0 = x
    · rw [if_pos h2] at hsl
      subst hsl
      have hz2 : (E.getD i 0 == x) = true := beq_iff_eq.2 h2
      clear h2
      generalize E.getD i 0 = y at *
      go_enter Try.func52, Try.ntmps52
      go_wp2_with (go_at_call 81; (with_reducible refine HF'.out.mono ?_); rintro e w1 ⟨rfl, hb⟩; have c1' := (hb.cell (World.block_lt_of_cell? X _ c1)).trans c1; have c2' := (hb.cell (World.block_lt_of_cell? X _ c2)).trans c2; have HB := Lib.hid hb; clear hb c1 c2)
      go_ret2
      refine ⟨?_, HB.out⟩
      go_num
    · rw [if_neg h2] at hsl
      subst hsl
      have hz2 : (E.getD i 0 == x) = false := beq_eq_false_iff_ne.2 h2
      clear h2
      generalize E.getD i 0 = y at *
      go_enter Try.func52, Try.ntmps52
      go_wp2_with (go_at_call 81; (with_reducible refine HF'.out.mono ?_); rintro e w1 ⟨rfl, hb⟩; have c1' := (hb.cell (World.block_lt_of_cell? X _ c1)).trans c1; have c2' := (hb.cell (World.block_lt_of_cell? X _ c2)).trans c2; have HB := Lib.hid hb; clear hb c1 c2)
      go_ret2
      refine ⟨?_, HB.out⟩
      go_num
end
end Go.Proofs.Ytgcimicbbadapaa
