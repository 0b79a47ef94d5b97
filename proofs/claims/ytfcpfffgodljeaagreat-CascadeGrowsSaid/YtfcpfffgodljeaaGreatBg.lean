/-
  The nodes' lists are filled: what stands in the midst of it. No condition but those typed at each theorem.
-/
import Derived.Test.YtfcpfffgodljeaaGreatMBb
namespace Go.Proofs.YtfcpfffgodljeaaGreat.Bd
open Go.RowKit Go.Sort

/-- the orders, cell by cell -/
def flatO (OV : List (Value × Value)) : List Value := OV.flatMap (fun q => [q.1, q.2])
theorem flatO_len (OV : List (Value × Value)) : (flatO OV).length = OV.length * 2 := by
  induction OV with
  | nil => rfl
  | cons a OV ih => simp only [flatO, List.flatMap_cons, List.length_append, List.length_cons, List.length_nil] at ih ⊢; omega
theorem flatO_get (OV : List (Value × Value)) {k : Nat} {q : Value × Value} (h : OV[k]? = some q) : (flatO OV)[k * 2]? = some q.1 ∧ (flatO OV)[k * 2 + 1]? = some q.2 := by
  induction OV generalizing k with
  | nil => simp at h
  | cons a OV ih =>
    cases k with
    | zero => simp at h; subst h; simp [flatO]
    | succ k =>
      have := ih (k := k) (by simpa using h)
      rw [show (k + 1) * 2 = k * 2 + 1 + 1 by omega, show k * 2 + 1 + 1 + 1 = (k * 2 + 1) + 1 + 1 by omega]
      simpa [flatO] using this
theorem flatO_set (OV : List (Value × Value)) (k : Nat) (a b : Value) : ((flatO OV).set (k * 2) a).set (k * 2 + 1) b = flatO (OV.set k (a, b)) := by
  induction OV generalizing k with
  | nil => simp [flatO]
  | cons q OV ih =>
    cases k with
    | zero => simp [flatO]
    | succ k =>
      have := ih k
      rw [show (k + 1) * 2 = k * 2 + 1 + 1 by omega, show k * 2 + 1 + 1 + 1 = (k * 2 + 1) + 1 + 1 by omega]
      simp only [flatO, List.flatMap_cons, List.cons_append, List.nil_append, List.set_cons_succ] at this ⊢
      rw [this]
/-- what does not turn while a tree is filled -/
structure FiP where
  B : Nat
  fb : Nat
  ob : Nat
  fd : Int
  fp : Value
  rva : Value
  rvn : Value
/-- in the midst: who stands in which order -/
structure FiM (w wr : World) (P : FiP) (RX : List S3) (cnt wt : Nat) (OV : List (Value × Value)) (Lf : Nat → List S3) : Prop where
  ev : EV 74 wr P.B [.pointer (some ⟨P.B, 0, none⟩), P.rva, P.rvn, .pointer (some ⟨P.fb, 0, none⟩), .slice none 0 0, .int .i64 cnt, .int .i64 wt]
  row : OrR wr kx RX P.rva P.rvn
  fr : FR wr P.fb RX.length P.fd P.fp
  os : EV 70 wr P.ob (flatO OV)
  osl : OV.length = 2 * RX.length - 1
  or_ : ∀ (k : Nat) (q : Value × Value), OV[k]? = some q → OrR wr ky (Lf k) q.1 q.2
  new : ∀ (k : Nat) (q : Value × Value), OV[k]? = some q → (∀ x, q.1.ownBlock = some x → w.heap.size ≤ x) ∧ (∀ x, q.2.ownBlock = some x → w.heap.size ≤ x)
  ap : ∀ (j k : Nat) (p q : Value × Value), OV[j]? = some p → OV[k]? = some q → j ≠ k → (∀ x, p.1.ownBlock = some x → q.1.ownBlock ≠ some x) ∧ (∀ x, p.2.ownBlock = some x → q.2.ownBlock ≠ some x)
  old : (∀ x, P.rva.ownBlock = some x → x < w.heap.size) ∧ (∀ x, P.rvn.ownBlock = some x → x < w.heap.size)
  obn : w.heap.size ≤ P.ob
  off : Off [P.B] w wr
section
variable {w wr w' : World} {P : FiP} {RX : List S3} {cnt wt : Nat} {OV : List (Value × Value)} {Lf : Nat → List S3}
theorem FiM.keep (h : FiM w wr P RX cnt wt OV Lf) (g : Below wr.heap.size wr w') : FiM w w' P RX cnt wt OV Lf :=
  ⟨h.ev.keep g h.ev.lt, h.row.keep g, h.fr.keep g, h.os.keep g h.os.lt, h.osl, fun k q e => (h.or_ k q e).keep g, h.new, h.ap, h.old, h.obn, h.off.bel g⟩
/-- one more at the node k -/
def upd (Lf : Nat → List S3) (k : Nat) (s : S3) : Nat → List S3 := fun j => if j = k then Lf k ++ [s] else Lf j
theorem FiM.step (h : FiM w wr P RX cnt wt OV Lf) {k : Nat} {va vn va' vn' : Value} {s : S3} (hk : OV[k]? = some (va, vn)) (hr : OrR w' ky (Lf k ++ [s]) va' vn') (hE : EV 70 w' P.ob (((flatO OV).set (k * 2) va').set (k * 2 + 1) vn'))
    (ho : Off (P.ob :: (va.ownBlock.toList ++ vn.ownBlock.toList)) wr w') (h1 : Whr wr va va') (h2 : Whr wr vn vn') : FiM w w' P RX cnt wt (OV.set k (va', vn')) (upd Lf k s) := by
  have hkl := (List.getElem?_eq_some_iff.1 hk).1
  have hO := h.or_ k _ hk
  have hN := h.new k _ hk
  have hsz := h.off.size
  have tB : P.B ∉ P.ob :: (va.ownBlock.toList ++ vn.ownBlock.toList) := by
    simp only [List.mem_cons, List.mem_append, Option.mem_toList, not_or]
    refine ⟨types_ne h.ev h.os (by decide), fun c => ?_, fun c => ?_⟩
    · obtain ⟨x, e⟩ := row_type hO.ra c; exact types_ne h.ev e (by decide) rfl
    · obtain ⟨x, e⟩ := row_type hO.rn c; exact types_ne h.ev e (by decide) rfl
  have tF : P.fb ∉ P.ob :: (va.ownBlock.toList ++ vn.ownBlock.toList) := by
    simp only [List.mem_cons, List.mem_append, Option.mem_toList, not_or]
    refine ⟨types_ne h.fr h.os (by decide), fun c => ?_, fun c => ?_⟩
    · obtain ⟨x, e⟩ := row_type hO.ra c; exact types_ne h.fr e (by decide) rfl
    · obtain ⟨x, e⟩ := row_type hO.rn c; exact types_ne h.fr e (by decide) rfl
  have tO : ∀ x, x < w.heap.size → x ∉ P.ob :: (va.ownBlock.toList ++ vn.ownBlock.toList) := fun x hx => by
    simp only [List.mem_cons, List.mem_append, Option.mem_toList, not_or]
    have := h.obn
    exact ⟨by omega, fun c => by have := hN.1 x c; omega, fun c => by have := hN.2 x c; omega⟩
  have hset : ∀ (j : Nat) (q : Value × Value), (OV.set k (va', vn'))[j]? = some q → (j = k ∧ q = (va', vn')) ∨ (j ≠ k ∧ OV[j]? = some q) := fun j q e => by
    rw [List.getElem?_set] at e
    split at e
    · rename_i hjk
      injection e with e
      exact .inl ⟨hjk.symm, e.symm⟩
    · rename_i hjk
      exact .inr ⟨fun c => hjk c.symm, e⟩
  have hother : ∀ (j : Nat) (q : Value × Value), OV[j]? = some q → j ≠ k → (∀ x, q.1.ownBlock = some x → x ∉ P.ob :: (va.ownBlock.toList ++ vn.ownBlock.toList)) ∧ (∀ x, q.2.ownBlock = some x → x ∉ P.ob :: (va.ownBlock.toList ++ vn.ownBlock.toList)) := fun j q e hjk => by
    have hq := h.or_ j q e
    have hap := h.ap j k q _ e hk hjk
    refine ⟨fun x hx => ?_, fun x hx => ?_⟩
    · obtain ⟨c1, e1⟩ := row_type hq.ra hx
      simp only [List.mem_cons, List.mem_append, Option.mem_toList, not_or]
      refine ⟨types_ne e1 h.os (by decide), hap.1 x hx, fun c => ?_⟩
      obtain ⟨c2, e2⟩ := row_type hO.rn c
      exact types_ne e1 e2 (by decide) rfl
    · obtain ⟨c1, e1⟩ := row_type hq.rn hx
      simp only [List.mem_cons, List.mem_append, Option.mem_toList, not_or]
      refine ⟨types_ne e1 h.os (by decide), fun c => ?_, hap.2 x hx⟩
      obtain ⟨c2, e2⟩ := row_type hO.ra c
      exact types_ne e1 e2 (by decide) rfl
  have hlow : ∀ (j : Nat) (q : Value × Value), OV[j]? = some q → (∀ x, q.1.ownBlock = some x → x < wr.heap.size) ∧ (∀ x, q.2.ownBlock = some x → x < wr.heap.size) := fun j q e =>
    ⟨fun x hx => (row_lt (h.or_ j q e).ra hx).2, fun x hx => (row_lt (h.or_ j q e).rn hx).2⟩
  refine ⟨h.ev.off ho tB, h.row.off ho (fun x hx => tO x (h.old.1 x hx)) (fun x hx => tO x (h.old.2 x hx)), h.fr.block (ho.block _ h.fr.lt tF), by rw [flatO_set] at hE; exact hE, by rw [List.length_set]; exact h.osl, fun j q e => ?_, fun j q e => ?_, fun i j p q ei ej hij => ?_, h.old, h.obn, h.off.via ho (fun x hx hm => ?_)⟩
  · rcases hset j q e with ⟨rfl, rfl⟩ | ⟨hjk, e⟩
    · unfold upd; rw [if_pos rfl]; exact hr
    · unfold upd; rw [if_neg hjk]; exact (h.or_ j q e).off ho (hother j q e hjk).1 (hother j q e hjk).2
  · rcases hset j q e with ⟨rfl, rfl⟩ | ⟨hjk, e⟩
    · exact ⟨fun x hx => (h1 x hx).elim (hN.1 x) (fun g => by omega), fun x hx => (h2 x hx).elim (hN.2 x) (fun g => by omega)⟩
    · exact h.new j q e
  · rcases hset i p ei with ⟨ci, cp⟩ | ⟨hik, ei'⟩
    · rcases hset j q ej with ⟨cj, cq⟩ | ⟨hjk, ej'⟩
      · exact absurd (ci.trans cj.symm) hij
      · have hap := h.ap j k q _ ej' hk hjk
        have hl := hlow j q ej'
        rw [cp]
        exact ⟨fun x hx hy => (h1 x hx).elim (fun c => hap.1 x hy c) (fun g => by have := hl.1 x hy; omega), fun x hx hy => (h2 x hx).elim (fun c => hap.2 x hy c) (fun g => by have := hl.2 x hy; omega)⟩
    · rcases hset j q ej with ⟨cj, cq⟩ | ⟨hjk, ej'⟩
      · have hap := h.ap i k p _ ei' hk hik
        have hl := hlow i p ei'
        rw [cq]
        exact ⟨fun x hx hy => (h1 x hy).elim (fun c => hap.1 x hx c) (fun g => by have := hl.1 x hx; omega), fun x hx hy => (h2 x hy).elim (fun c => hap.2 x hx c) (fun g => by have := hl.2 x hx; omega)⟩
      · exact h.ap i j p q ei' ej' hij
  · exact absurd hm (tO x hx)
/-- the weight is more -/
theorem FiM.heavy (h : FiM w wr P RX cnt wt OV Lf) (wt' : Nat) : FiM w (wr.setCell ⟨P.B, 6, none⟩ (.int .i64 wt')) P RX cnt wt' OV Lf := by
  have ho := (Off.refl [P.B] wr).set ⟨P.B, 6, none⟩ (.int .i64 wt') (.inl (by simp))
  have tB : ∀ {t : TypeId} {c : Array Value} {x : Nat}, wr.heap[x]? = some (.cells c t (0, 0)) → t ≠ 74 → x ∉ [P.B] := fun {t c x} e ht => by
    simp
    exact types_ne e h.ev ht
  refine ⟨h.ev.set 6 _, h.row.off ho (fun x hx => ?_) (fun x hx => ?_), h.fr.block (ho.block _ h.fr.lt (tB h.fr (by decide))), h.os.off ho (tB h.os (by decide)), h.osl, fun k q e => (h.or_ k q e).off ho (fun x hx => ?_) (fun x hx => ?_), h.new, h.ap, h.old, h.obn, h.off.trans ho⟩
  · obtain ⟨c, e⟩ := row_type h.row.ra hx; exact tB e (by decide)
  · obtain ⟨c, e⟩ := row_type h.row.rn hx; exact tB e (by decide)
  · obtain ⟨c, e'⟩ := row_type (h.or_ k q e).ra hx; exact tB e' (by decide)
  · obtain ⟨c, e'⟩ := row_type (h.or_ k q e).rn hx; exact tB e' (by decide)
end
end Go.Proofs.YtfcpfffgodljeaaGreat.Bd
