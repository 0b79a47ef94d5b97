/-
  The nodes' lists laid one behind the other: what stands in the midst of it; an append of long elements. No condition but those typed at each theorem.
-/
import Derived.Test.YtfcpfffgodljeaaGreatBg
import Derived.Test.YtfcpfffgodljeaaGreatBm
namespace Go.Proofs.YtfcpfffgodljeaaGreat.Bd
open Go.RowKit Go.Sort

theorem info_list : (Tryz.prog.info? 89).map (fun i => (i.zero, i.size, i.bytes)) = some (some (.agg #[.slice none 0 0, .slice none 0 0, .slice none 0 0, .slice none 0 0, .slice none 0 0, .int .i64 0, .slice none 0 0, .slice none 0 0]), 8, 176) := by kernel_rfl
theorem under_lists : Tryz.prog.underlying 72 = some (.slice 89) := by kernel_rfl
theorem run_long {P : Program} {e : TypeId} {z : Value} {size bytes : Nat} (hi : (P.info? e).map (fun i => (i.zero, i.size, i.bytes)) = some (some z, size, bytes)) (hzs : z.cells.size = size) (hsz : 0 < size)
    {t : TypeId} (ht : P.underlying t = some (.slice e)) (ty : TypeId) (w : World) (v : Value) (n : Nat) (xs : List Value) (hown : w.ownsRow 0 e size v n xs) (a : Addr) (m c : Nat) (news : List Value) (hl : news.length = m * size)
    (hnews : ∀ j u, news[j]? = some u → w.cell? (a.add j) = some u) (h1 : ∀ u ∈ news, u.oneCell' = true) (hn : n + m ≤ 100000) (hb : (n + m) * bytes ≤ 6400000) (hm : 0 < m) :
    ∃ g cap w', (Builtin.append_ #[t, t] ty #[v, .slice (some a) m c]).run P w = .ok (.slice (some ⟨g, 0, none⟩) (n + m) cap) w' ∧ w'.ownsRow 0 e size (.slice (some ⟨g, 0, none⟩) (n + m) cap) (n + m) (xs ++ news) ∧ w.grownBy w' v.ownBlock ∧ (v.ownBlock = some g ∨ g = w.heap.size) := by
  obtain ⟨i0, hi0, hz0, hz1, hz2⟩ := info_parts hi
  have hmx : maxLen = 9223372036854775807 := rfl
  obtain ⟨v', w', hr, h2, h3, -⟩ := run_append_own (P := P) w 0 t ty e i0 z size bytes ht hi0 hz0 hz1 hz2 hzs hsz v n xs hown a m c news hl hnews h1 (by omega) (by omega) (Nat.zero_le _)
  have hblk := append_block (P := P) ht hi0 hz0 hz1 hz2 hown hl hnews h1 (by omega) (by omega) hm hr
  rcases h2.2 with ⟨rfl, h4⟩ | ⟨g, cap, cur, rfl, _⟩
  · omega
  · exact ⟨g, cap, w', hr, h2, h3, hblk g rfl⟩
theorem step_long {P : Program} {e : TypeId} {z : Value} {size bytes : Nat} (hi : (P.info? e).map (fun i => (i.zero, i.size, i.bytes)) = some (some z, size, bytes)) (hzs : z.cells.size = size) (hsz : 0 < size)
    {t : TypeId} (ht : P.underlying t = some (.slice e)) {w : World} {ops : Array Oper} {o : Oper} {a : Act} {K : Act → World → Prop} {Q : Exit → Act → World → Prop} {E : Prop} (hg : o.guard = none) (s x : Operand) (hop : o.op = Op.call { callee := Callee.builtin Builtin.append, args := #[s, x], argTypes := #[t, t] })
    (v : Value) (n : Nat) (xs : List Value) (hs : a.eval s = v) (hown : w.ownsRow 0 e size v n xs) (ad : Addr) (m c : Nat) (news : List Value) (hx : a.eval x = .slice (some ad) m c) (hl : news.length = m * size)
    (hnews : ∀ j u, news[j]? = some u → w.cell? (ad.add j) = some u) (h1 : ∀ u ∈ news, u.oneCell' = true) (hn : n + m ≤ 100000) (hb : (n + m) * bytes ≤ 6400000) (hm : 0 < m)
    (hK : ∀ g cap w', w'.ownsRow 0 e size (.slice (some ⟨g, 0, none⟩) (n + m) cap) (n + m) (xs ++ news) → w.grownBy w' v.ownBlock → (v.ownBlock = some g ∨ g = w.heap.size) → K (a.put o.dst (.slice (some ⟨g, 0, none⟩) (n + m) cap)) w') :
    if Region.wanted o (yielded ops a.tmps) = true then Oper.wp P o a w K Q else E := by
  have hw : Region.wanted o (yielded ops a.tmps) = true := by simp [Region.wanted, hg]
  rw [if_pos hw]
  obtain ⟨g, cap, w', hr, r1, r2, r3⟩ := run_long hi hzs hsz ht o.type w v n xs hown ad m c news hl hnews h1 hn hb hm
  unfold Oper.wp execOp
  simp only [hop, resolve, invoke, builtin, Sem.run_bind, Sem.run_pure, Result.andThen_ok, List.map_toArray, List.map_cons, List.map_nil, hs, hx, hr]
  exact hK g cap w' r1 r2 r3
/-- a list's cells -/
def lc8 (l : Nat) (p : LsP) : List Value := lcl l p.z p.va p.np
/-- the lists, cell by cell, from the n-th on -/
def flatN (len : Nat → Nat) : Nat → List LsP → List Value
  | _, [] => []
  | n, p :: LL => lc8 (len n) p ++ flatN len (n + 1) LL
theorem flatN_len (len : Nat → Nat) : ∀ n LL, (flatN len n LL).length = LL.length * 8
  | _, [] => rfl
  | n, p :: LL => by rw [flatN, List.length_append, flatN_len len (n + 1) LL, List.length_cons]; simp [lc8, lcl, nmc]; omega
theorem flatN_get (len : Nat → Nat) {p : LsP} {i : Nat} (hi : i < 8) : ∀ {n : Nat} {LL : List LsP} {j : Nat}, LL[j]? = some p → (flatN len n LL)[j * 8 + i]? = (lc8 (len (n + j)) p)[i]?
  | n, [], j, h => by simp at h
  | n, q :: LL, 0, h => by
    simp at h
    subst h
    rw [flatN, List.getElem?_append_left (by simp [lc8, lcl, nmc]; omega)]
    simp
  | n, q :: LL, j + 1, h => by
    rw [flatN, List.getElem?_append_right (by simp [lc8, lcl, nmc]; omega)]
    have := flatN_get len hi (n := n + 1) (LL := LL) (j := j) (by simpa using h)
    rw [show (j + 1) * 8 + i - (lc8 (len n) q).length = j * 8 + i by simp [lc8, lcl, nmc]; omega, this, show n + 1 + j = n + (j + 1) by omega]
theorem flatN_snoc (len : Nat → Nat) (p : LsP) : ∀ n LL, flatN len n (LL ++ [p]) = flatN len n LL ++ lc8 (len (n + LL.length)) p
  | n, [] => by simp [flatN]
  | n, q :: LL => by
    rw [List.cons_append, flatN, flatN_snoc len p (n + 1) LL, flatN, List.append_assoc, List.length_cons, show n + 1 + LL.length = n + (LL.length + 1) by omega]
/-- in the midst: these lists are laid -/
structure FjM (w wr : World) (P : FiP) (RX LY : List S3) (cnt wt : Nat) (OV : List (Value × Value)) (LL : List LsP) (lv : Value) : Prop where
  ev : EV 74 wr P.B [.pointer (some ⟨P.B, 0, none⟩), P.rva, P.rvn, .pointer (some ⟨P.fb, 0, none⟩), lv, .int .i64 cnt, .int .i64 wt]
  row : OrR wr kx RX P.rva P.rvn
  fr : FR wr P.fb RX.length P.fd P.fp
  os : EV 70 wr P.ob (flatO OV)
  or_ : ∀ (k : Nat) (q : Value × Value), OV[k]? = some q → OrR wr ky (SPk RX LY k) q.1 q.2
  lst : ∀ (k : Nat) (p : LsP), LL[k]? = some p → OV[k]? = some (p.va, p.np.vn) ∧ NoB w wr (SPk RX LY k).length p.z p.np
  ap : LL.Pairwise Apt
  rows : wr.ownsRow w.heap.size 89 8 lv LL.length (flatN (fun k => (SPk RX LY k).length) 0 LL)
  off : Off [P.B] w wr
section
variable {w wr w' : World} {P : FiP} {RX LY : List S3} {cnt wt : Nat} {OV : List (Value × Value)} {LL : List LsP} {lv : Value}
theorem FjM.start (h : FiM w wr P RX cnt wt OV (SPk RX LY)) : FjM w wr P RX LY cnt wt OV [] (.slice none 0 0) :=
  ⟨h.ev, h.row, h.fr, h.os, h.or_, fun k p e => by simp at e, .nil, World.ownsRow_nil .., h.off⟩
theorem FjM.keep (h : FjM w wr P RX LY cnt wt OV LL lv) (g : Below wr.heap.size wr w') : FjM w w' P RX LY cnt wt OV LL lv :=
  ⟨h.ev.keep g h.ev.lt, h.row.keep g, h.fr.keep g, h.os.keep g h.os.lt, fun k q e => (h.or_ k q e).keep g, fun k p e => ⟨(h.lst k p e).1, (h.lst k p e).2.keep g⟩, h.ap, row_keep h.rows g, h.off.bel g⟩
/-- one list more -/
theorem FjM.step {X : World} {p : LsP} {lv' : Value} (h : FjM w wr P RX LY cnt wt OV LL lv) (g : Off lv.ownBlock.toList wr X) (hq : OV[LL.length]? = some (p.va, p.np.vn)) (hp : NoB w X (SPk RX LY LL.length).length p.z p.np) (hnew : ∀ x ∈ mbl p.np, wr.heap.size ≤ x)
    (hrow : X.ownsRow 0 89 8 lv' (LL.length + 1) (flatN (fun k => (SPk RX LY k).length) 0 LL ++ lc8 (SPk RX LY LL.length).length p)) (hl : ∀ x, lv'.ownBlock = some x → lv.ownBlock = some x ∨ wr.heap.size ≤ x) :
    FjM w (X.setCell ⟨P.B, 4, none⟩ lv') P RX LY cnt wt OV (LL ++ [p]) lv' := by
  have tl : ∀ {t : TypeId} {c : Array Value} {x : Nat}, wr.heap[x]? = some (.cells c t (0, 0)) → t ≠ 89 → x ∉ lv.ownBlock.toList := fun {t c x} e ht hm => by
    obtain ⟨c', e'⟩ := row_type h.rows (by simpa using hm)
    exact types_ne e e' ht rfl
  have evX := h.ev.off g (tl h.ev (by decide))
  have ho := (Off.refl [P.B] X).set ⟨P.B, 4, none⟩ lv' (.inl (by simp))
  have tB : ∀ {t : TypeId} {c : Array Value} {x : Nat}, X.heap[x]? = some (.cells c t (0, 0)) → t ≠ 74 → x ∉ [P.B] := fun {t c x} e ht => by
    simp
    exact types_ne e evX ht
  have hmt : ∀ {wx : World} {l z : Nat} {q : NmP}, NoB w wx l z q → ∀ x ∈ mbl q, ∃ c t, wx.heap[x]? = some (.cells c t (0, 0)) ∧ (t = 200 ∨ t = 3) := fun {wx l z q} hq x hx => by
    simp only [mbl, List.mem_cons, List.not_mem_nil, or_false] at hx
    rcases hx with rfl | rfl | rfl | rfl
    · exact ⟨_, _, hq.r, .inl rfl⟩
    · exact ⟨_, _, hq.o, .inr rfl⟩
    · exact ⟨_, _, hq.a, .inr rfl⟩
    · exact ⟨_, _, hq.b, .inr rfl⟩
  have hb : ∀ {l z : Nat} {q : NmP}, NoB w wr l z q → NoB w X l z q := fun {l z q} hq => hq.off g (fun x hx => by
    obtain ⟨c, t, e, ht⟩ := hmt hq x hx
    exact tl e (by rcases ht with rfl | rfl <;> decide))
  have hb2 : ∀ {l z : Nat} {q : NmP}, NoB w X l z q → NoB w (X.setCell ⟨P.B, 4, none⟩ lv') l z q := fun {l z q} hq => hq.off ho (fun x hx => by
    obtain ⟨c, t, e, ht⟩ := hmt hq x hx
    exact tB e (by rcases ht with rfl | rfl <;> decide))
  have hrX := h.row.off g (fun x hx => by obtain ⟨c, e⟩ := row_type h.row.ra hx; exact tl e (by decide)) (fun x hx => by obtain ⟨c, e⟩ := row_type h.row.rn hx; exact tl e (by decide))
  have hsz := h.off.size
  refine ⟨evX.set 4 lv', hrX.off ho (fun x hx => by obtain ⟨c, e⟩ := row_type hrX.ra hx; exact tB e (by decide)) (fun x hx => by obtain ⟨c, e⟩ := row_type hrX.rn hx; exact tB e (by decide)), ?_, ?_, fun k q e => ?_, fun k q e => ?_, ?_, ?_, (h.off.via g (fun x hx hm => ?_)).trans ho⟩
  · have h1 := h.fr.block (g.block _ h.fr.lt (tl h.fr (by decide)))
    exact h1.block (ho.block _ h1.lt (tB h1 (by decide)))
  · have h1 := h.os.off g (tl h.os (by decide))
    exact h1.off ho (tB h1 (by decide))
  · have h0 := h.or_ k q e
    have h1 := h0.off g (fun x hx => by obtain ⟨c, e⟩ := row_type h0.ra hx; exact tl e (by decide)) (fun x hx => by obtain ⟨c, e⟩ := row_type h0.rn hx; exact tl e (by decide))
    exact h1.off ho (fun x hx => by obtain ⟨c, e⟩ := row_type h1.ra hx; exact tB e (by decide)) (fun x hx => by obtain ⟨c, e⟩ := row_type h1.rn hx; exact tB e (by decide))
  · rcases Nat.lt_trichotomy k LL.length with c | c | c
    · rw [List.getElem?_append_left c] at e
      obtain ⟨e1, e2⟩ := h.lst k q e
      exact ⟨e1, hb2 (hb e2)⟩
    · subst c
      simp at e
      subst e
      exact ⟨hq, hb2 hp⟩
    · rw [List.getElem?_eq_none (by simp; omega)] at e; cases e
  · rw [List.pairwise_append]
    refine ⟨h.ap, by simp, fun q hq' r hr => ?_⟩
    rw [List.mem_singleton.1 hr]
    obtain ⟨j, hj⟩ := List.mem_iff_getElem?.1 hq'
    obtain ⟨-, e2⟩ := h.lst j q hj
    exact fun x hx hm => by
      have h1 := e2.lt x hx
      have h2 := hnew x hm
      omega
  · rw [flatN_snoc, Nat.zero_add, List.length_append, List.length_singleton]
    have hlow : ∀ x, lv'.ownBlock = some x → w.heap.size ≤ x := fun x hx => (hl x hx).elim (fun c => (row_lt h.rows c).1) (fun c => by omega)
    exact row_at hrow (fun x hx => by
      obtain ⟨c, e⟩ := row_type hrow hx
      exact ⟨ho.block x (row_lt hrow hx).2 (tB e (by decide)), hlow x hx⟩)
  · have := (row_lt h.rows (by simpa using hm)).1
    omega
theorem row_cellK {w : World} {base n : Nat} {e : TypeId} {size : Nat} {v : Value} {xs : List Value} (h : w.ownsRow base e size v n xs) {g c : Nat} (hv : v = .slice (some ⟨g, 0, none⟩) n c) {j : Nat} {u : Value} (hj : xs[j]? = some u) : w.cell? ⟨g, j, none⟩ = some u := by
  obtain ⟨h1, h2⟩ := h
  rcases h2 with ⟨h2, _⟩ | ⟨g', cap, cur, hv', hb, hg, hnc, hcm, hcs, htk⟩
  · rw [h2] at hv; cases hv
  · rw [hv'] at hv
    injection hv with hv
    injection hv with hv
    injection hv with hv _ _
    subst hv
    rw [← htk] at hj
    rw [List.getElem?_take] at hj
    split at hj
    · rw [Array.getElem?_toList] at hj
      simp [World.cell?, hg, hj]
    · cases hj
/-- all lists are laid: a tree, of which all are there -/
theorem FjM.done (h : FjM w wr P RX LY LY.length (wts RX LY) OV LL lv) (hm : LL.length = 2 * RX.length - 1) (hpl : PlI RX LY) :
    ∃ Q : BdP, Q.B = P.B ∧ BdM wr Q RX LY LY ∧ ∀ x ∈ blks Q, x = P.B ∨ x = P.fb ∨ P.rva.ownBlock = some x ∨ P.rvn.ownBlock = some x ∨ w.heap.size ≤ x ∨ ∃ (k : Nat) (q : Value × Value), OV[k]? = some q ∧ (q.1.ownBlock = some x ∨ q.2.ownBlock = some x) := by
  obtain ⟨lb, hlb⟩ : ∃ lb, (LL ≠ [] → ∃ c, lv = .slice (some ⟨lb, 0, none⟩) LL.length c) ∧ (lb ≠ P.B) ∧ (LL ≠ [] → w.heap.size ≤ lb ∧ ∃ c, wr.heap[lb]? = some (.cells c 89 (0, 0))) := by
    by_cases he : LL = []
    · exact ⟨P.B + 1, fun c => absurd he c, by omega, fun c => absurd he c⟩
    · obtain ⟨g, c, L, e, hg, -⟩ := row_whole h.rows (by cases LL with | nil => exact absurd rfl he | cons a l => simp)
      have hown : lv.ownBlock = some g := by rw [e]; rfl
      obtain ⟨cc, hc⟩ := row_type h.rows hown
      exact ⟨g, fun _ => ⟨c, e⟩, types_ne hc h.ev (by decide), fun _ => ⟨hg, cc, hc⟩⟩
  obtain ⟨hb1, hb2, hb3⟩ := hlb
  have hnod : ∀ (k : Nat) (p : LsP), LL[k]? = some p → LsM wr lb (k * 8) (SPk RX LY k) LY p := fun k p e => by
    have he : LL ≠ [] := by intro c; rw [c] at e; simp at e
    obtain ⟨c, hv⟩ := hb1 he
    obtain ⟨-, cc, hlbt⟩ := hb3 he
    obtain ⟨ho, hl⟩ := h.lst k p e
    have hcell : ∀ i u, i < 8 → (lc8 (SPk RX LY k).length p)[i]? = some u → wr.cell? ⟨lb, k * 8 + i, none⟩ = some u := fun i u hi hu =>
      row_cellK h.rows hv (by rw [flatN_get _ hi e, Nat.zero_add]; exact hu)
    refine ⟨hcell 0 _ (by omega) rfl, hcell 1 _ (by omega) rfl, h.or_ k _ ho, hl.mem (fun i u hu => ?_) (h.or_ k _ ho).rn (SPk_few hpl k) (SPk_ord hpl k).nodup (hl.apart hlbt (by decide) (by decide)) (fun s hs => (List.mem_filter.1 hs).1), SPk_few hpl k, SPk_ord hpl k⟩
    have hi : i < 6 := by have := (List.getElem?_eq_some_iff.1 hu).1; simpa [nmc] using this
    have := hcell (i + 2) u (by omega) (by unfold lc8 lcl; rw [List.getElem?_cons_succ, List.getElem?_cons_succ]; exact hu)
    rw [show k * 8 + (i + 2) = k * 8 + 2 + i by omega] at this
    exact this
  refine ⟨⟨P.B, P.fb, lb, P.fd, P.fp, P.rva, P.rvn, lv, LL⟩, rfl, ⟨h.ev, h.row, h.fr, hm, hb1, hnod, h.ap, hpl, hb2⟩, fun x hx => ?_⟩
  unfold blks at hx
  simp only [List.mem_cons, List.mem_append, List.mem_flatMap, Option.mem_toList] at hx
  rcases hx with rfl | rfl | (hx | hx) | ⟨p, hp, hx⟩
  · exact .inl rfl
  · exact .inr (.inl rfl)
  · exact .inr (.inr (.inl hx))
  · exact .inr (.inr (.inr (.inl hx)))
  · obtain ⟨k, hk⟩ := List.mem_iff_getElem?.1 hp
    obtain ⟨ho, hl⟩ := h.lst k p hk
    unfold lblk at hx
    simp only [List.mem_cons, List.mem_append, Option.mem_toList] at hx
    rcases hx with rfl | hx | hx | hx
    · exact .inr (.inr (.inr (.inr (.inl (hb3 (by intro c; rw [c] at hp; simp at hp)).1))))
    · exact .inr (.inr (.inr (.inr (.inl (hl.new x hx)))))
    · exact .inr (.inr (.inr (.inr (.inr ⟨k, _, ho, .inl hx⟩))))
    · exact .inr (.inr (.inr (.inr (.inr ⟨k, _, ho, .inr hx⟩))))
end
end Go.Proofs.YtfcpfffgodljeaaGreat.Bd
