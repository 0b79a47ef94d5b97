/-
  What hangs on the way down to a node's lowest point: a step down, in memory. No condition but those typed at each theorem.
-/
import Derived.Test.YtldmajifkmcdcaaGreatMVg
namespace Go.Proofs.YtldmajifkmcdcaaGreat.Lv
open Go.RowKit Go.Sort Bd
section
variable {w0 B1 V0 w w' : World} {P : LoP} {RX A : List S3} {g : Nat → Option S3} {m q cap : Nat} {cc : Int} {xs : List Nat}
/-- a copy of a node -/
def KC (w : World) (b : Nat) (RX : List S3) (g : Nat → Option S3) (k : Nat) : Prop := ∃ nd, (ndN RX.length)[k]? = some nd ∧ EV 79 w b (kl nd (bv RX (g k)))
/-- on the way down -/
structure PaM (w0 B1 V0 wr : World) (P : LoP) (RX A : List S3) (g : Nat → Option S3) (m q c0 : Nat) (xs : List Nat) (KB k0 : Nat) (s : S3) (k : Nat) (d : Nat) (ys : List Nat) : Prop where
  km : k < m
  kc : KC wr KB RX g k
  q : QS w0 B1 V0 P g m q (c0 + d) ys wr
  p : (sg RX A (lo RX.length k) (hi RX.length k) ++ pend RX A ys).Perm (sg RX A (lo RX.length k0) (hi RX.length k0) ++ pend RX A xs)
  l : ys.length ≤ xs.length + d
  h : d + lgN (hi RX.length k - lo RX.length k) ≤ lgN (hi RX.length k0 - lo RX.length k0)
  i : lo RX.length k ≤ RX.idxOf s ∧ RX.idxOf s < hi RX.length k
  b : B1.heap.size ≤ KB ∧ KB < wr.heap.size
theorem KpT.set {v0 W : World} (h : KpT v0 W) {b : Nat} (hb : v0.heap.size ≤ b) (i : Nat) (v : Value) : KpT v0 (W.setCell ⟨b, i, none⟩ v) := fun k cs t e h1 h2 => by
  have hlt := (Array.getElem?_eq_some_iff.1 e).1
  exact (((Off.refl [b] W).set ⟨b, i, none⟩ v (.inl (by simp))).block k (Array.getElem?_eq_some_iff.1 (h k cs t e h1 h2)).1 (by simp; omega)).trans (h k cs t e h1 h2)
/-- eight cells written over -/
def set8 (W : World) (b : Nat) (u0 u1 u2 u3 u4 u5 u6 u7 : Value) : World := (((((((W.setCell ⟨b, 0, none⟩ u0).setCell ⟨b, 1, none⟩ u1).setCell ⟨b, 2, none⟩ u2).setCell ⟨b, 3, none⟩ u3).setCell ⟨b, 4, none⟩ u4).setCell ⟨b, 5, none⟩ u5).setCell ⟨b, 6, none⟩ u6).setCell ⟨b, 7, none⟩ u7
section
variable {W v0 : World} {b : Nat} {u0 u1 u2 u3 u4 u5 u6 u7 : Value}
theorem set8_ev {t : TypeId} {x0 x1 x2 x3 x4 x5 x6 x7 : Value} (h : EV t W b [x0, x1, x2, x3, x4, x5, x6, x7]) : EV t (set8 W b u0 u1 u2 u3 u4 u5 u6 u7) b [u0, u1, u2, u3, u4, u5, u6, u7] := (((((((h.set 0 u0).set 1 u1).set 2 u2).set 3 u3).set 4 u4).set 5 u5).set 6 u6).set 7 u7
theorem set8_off : Off [b] W (set8 W b u0 u1 u2 u3 u4 u5 u6 u7) := ((((((((Off.refl [b] W).set _ u0 (.inl (by simp))).set _ u1 (.inl (by simp))).set _ u2 (.inl (by simp))).set _ u3 (.inl (by simp))).set _ u4 (.inl (by simp))).set _ u5 (.inl (by simp))).set _ u6 (.inl (by simp))).set _ u7 (.inl (by simp))
end
theorem QS.put {V0 W W' : World} {c : Nat} {b : Nat} {cs : Array Value} {t : TypeId} (h : QS w0 B1 V0 P g m q c xs W) (o : Off [b] W W') (hb : V0.heap.size ≤ b) (hb0 : B1.heap.size ≤ b) (e : W.heap[b]? = some (.cells cs t (0, 0))) (h1 : t ≠ 3) (h2 : t ≠ 92) : QS w0 B1 V0 P g m q c xs W' := by
  obtain ⟨⟨q1, ⟨v, q2, q3⟩, q4, q5, q6, q7, q8, q9, q10⟩, hh⟩ := h
  refine ⟨⟨q1.trans (o.below q1.size (by simp; omega)), ⟨v, q2.off o ?_, row_offS q3 o (fun k hk => ?_)⟩, q4, q5, q6, fun k cs' t' e' h3 h4 => ?_, Nat.le_trans q8 o.size, q9.via o (fun k hk hm => by have := List.mem_singleton.1 hm; omega), q10⟩, hh⟩
  · have := types_ne q2 e (fun c => h2 c.symm)
    simpa using this
  · obtain ⟨cc, e'⟩ := row_type q3 hk
    have := types_ne e' e (fun c => h1 c.symm)
    simpa using this
  · have hlt := (Array.getElem?_eq_some_iff.1 e').1
    have e2 := q7 k cs' t' e' h3 h4
    exact (o.block k (Array.getElem?_eq_some_iff.1 e2).1 (by simp; omega)).trans e2
/-- one step down is done: the kid k', beside it hangs b' -/
theorem PaM.step {V0 X w5 W' : World} {c0 KB k0 k k' b' d : Nat} {s : S3} {ys zs : List Nat} (T : TrM w0 P RX A g m cap cc) (h : PaM w0 B1 V0 w P RX A g m q c0 xs KB k0 s k d ys) (hV : V0.heap.size ≤ KB)
    (hp : (pend RX A zs).Perm (sg RX A (lo RX.length b') (hi RX.length b') ++ pend RX A ys)) (hl : zs.length ≤ ys.length + 1) (hq : QS w0 B1 X P g m q (c0 + d + 1) zs w5) (hX : KpT V0 X) (hkb : KB < X.heap.size)
    (hk' : k' < m) (hkid : (sg RX A (lo RX.length k) (hi RX.length k)).Perm (sg RX A (lo RX.length k') (hi RX.length k') ++ sg RX A (lo RX.length b') (hi RX.length b'))) (hsz : hi RX.length k' - lo RX.length k' ≤ (hi RX.length k - lo RX.length k) - (hi RX.length k - lo RX.length k) / 2) (h2 : 2 ≤ hi RX.length k - lo RX.length k)
    (hi' : lo RX.length k' ≤ RX.idxOf s ∧ RX.idxOf s < hi RX.length k') (o : Off [KB] w5 W') (hkt : ∃ cs, w5.heap[KB]? = some (.cells cs 79 (0, 0))) (hKC : KC W' KB RX g k') : PaM w0 B1 V0 W' P RX A g m q c0 xs KB k0 s k' (d + 1) zs := by
  obtain ⟨cs, e⟩ := hkt
  refine ⟨hk', hKC, ?_, ?_, ?_, ?_, hi', ⟨h.b.1, by have := o.size; have := hq.1.vs; omega⟩⟩
  · have := (hq.of hX (by omega)).put o hV h.b.1 e (by decide) (by decide)
    exact this
  · refine List.Perm.trans ?_ h.p
    refine ((hp.append_left _).trans ?_).trans (hkid.symm.append_right _)
    rw [← List.append_assoc]
  · have := h.l
    omega
  · have h3 := h.h
    have h4 : hi RX.length k ≤ RX.length := (lo_at (by have := T.m2; have := h.km; omega)).2
    have := lg_kid h2 (by have := T.s.few; omega) hsz
    omega
/-- all that hangs there is in the queue -/
def PaR (w0 B1 V0 : World) (P : LoP) (RX A : List S3) (g : Nat → Option S3) (m q c : Nat) (xs : List Nat) (k0 : Nat) (s : S3) (w' : World) : Prop :=
  ∃ ys d, (s :: pend RX A ys).Perm (sg RX A (lo RX.length k0) (hi RX.length k0) ++ pend RX A xs) ∧ ys.length ≤ xs.length + d ∧ d ≤ lgN (hi RX.length k0 - lo RX.length k0) ∧ QS w0 B1 V0 P g m q (c + d) ys w'
end
end Go.Proofs.YtldmajifkmcdcaaGreat.Lv
