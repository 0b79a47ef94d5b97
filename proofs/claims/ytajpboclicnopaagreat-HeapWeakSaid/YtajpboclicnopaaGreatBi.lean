/-
  The nodes' lists laid one behind the other: what stands in the midst of it; an append of long elements. No condition but those typed at each theorem.
-/
import Derived.Test.YtajpboclicnopaaGreatBg
import Derived.Test.YtajpboclicnopaaGreatBm
namespace Go.Proofs.YtajpboclicnopaaGreat.Bd
open Go.RowKit Go.Sort
theorem run_long {P : Program} {e : TypeId} {z : Value} {size bytes : Nat} (hi : (P.info? e).map (fun i => (i.zero, i.size, i.bytes)) = some (some z, size, bytes)) (hzs : z.cells.size = size) (hsz : 0 < size)
    {t : TypeId} (ht : P.underlying t = some (.slice e)) (ty : TypeId) (w : World) (v : Value) (n : Nat) (xs : List Value) (hown : w.ownsRow 0 e size v n xs) (a : Addr) (m c : Nat) (news : List Value) (hl : news.length = m * size)
    (hnews : ∀ j u, news[j]? = some u → w.cell? (a.add j) = some u) (h1 : ∀ u ∈ news, u.oneCell' = true) (hn : n + m ≤ 100000) (hb : (n + m) * bytes ≤ 6400000) (hm : 0 < m) :
    ∃ g cap w', (Builtin.append_ #[t, t] ty #[v, .slice (some a) m c]).run P w = .ok (.slice (some ⟨g, 0, none⟩) (n + m) cap) w' ∧ w'.ownsRow 0 e size (.slice (some ⟨g, 0, none⟩) (n + m) cap) (n + m) (xs ++ news) ∧ w.grownBy w' v.ownBlock ∧ (v.ownBlock = some g ∨ g = w.heap.size) := by
  obtain ⟨i0, hi0, hz0, hz1, hz2⟩ := info_parts hi
  have hmx : maxLen = 9223372036854775807 := rfl
  obtain ⟨v', w', hr, h2, h3, -⟩ := run_append_own (P := P) w 0 t ty e i0 z size bytes ht hi0 hz0 hz1 hz2 hzs hsz v n xs hown a m c news hl hnews h1 (by omega) (by omega) (Nat.zero_le _)
  have hblk := append_block (P := P) ht hi0 hz0 hz1 hz2 hown hl hnews h1 (by omega) (by omega) hm hr
  rcases h2.2 with ⟨rfl, h4⟩ | ⟨g, cap, cur, rfl, _⟩
  · omega
  · exact ⟨g, cap, w', hr, h2, h3, hblk g rfl⟩
theorem step_long {P : Program} {e : TypeId} {z : Value} {size bytes : Nat} (hi : (P.info? e).map (fun i => (i.zero, i.size, i.bytes)) = some (some z, size, bytes)) (hzs : z.cells.size = size) (hsz : 0 < size)
    {t : TypeId} (ht : P.underlying t = some (.slice e)) {w : World} {ops : Array Oper} {o : Oper} {a : Act} {K : Act → World → Prop} {Q : Exit → Act → World → Prop} {E : Prop} (hg : o.guard = none) (s x : Operand) (hop : o.op = Op.call { callee := Callee.builtin Builtin.append, args := #[s, x], argTypes := #[t, t] })
    (v : Value) (n : Nat) (xs : List Value) (hs : a.eval s = v) (hown : w.ownsRow 0 e size v n xs) (ad : Addr) (m c : Nat) (news : List Value) (hx : a.eval x = .slice (some ad) m c) (hl : news.length = m * size)
    (hnews : ∀ j u, news[j]? = some u → w.cell? (ad.add j) = some u) (h1 : ∀ u ∈ news, u.oneCell' = true) (hn : n + m ≤ 100000) (hb : (n + m) * bytes ≤ 6400000) (hm : 0 < m)
    (hK : ∀ g cap w', w'.ownsRow 0 e size (.slice (some ⟨g, 0, none⟩) (n + m) cap) (n + m) (xs ++ news) → w.grownBy w' v.ownBlock → (v.ownBlock = some g ∨ g = w.heap.size) → K (a.put o.dst (.slice (some ⟨g, 0, none⟩) (n + m) cap)) w') :
    if Region.wanted o (yielded ops a.tmps) = true then Oper.wp P o a w K Q else E := by
  have hw : Region.wanted o (yielded ops a.tmps) = true := by simp [Region.wanted, hg]
  rw [if_pos hw]
  obtain ⟨g, cap, w', hr, r1, r2, r3⟩ := run_long hi hzs hsz ht o.type w v n xs hown ad m c news hl hnews h1 hn hb hm
  unfold Oper.wp execOp
  simp only [hop, resolve, invoke, builtin, Sem.run_bind, Sem.run_pure, Result.andThen_ok, List.map_toArray, List.map_cons, List.map_nil, hs, hx, hr]
  exact hK g cap w' r1 r2 r3
/-- a list's cells -/
def lc8 (l : Nat) (p : LsP) : List Value := lcl l p.z p.va p.np
/-- the lists, cell by cell, from the n-th on -/
def flatN (len : Nat → Nat) : Nat → List LsP → List Value
  | _, [] => []
  | n, p :: LL => lc8 (len n) p ++ flatN len (n + 1) LL
theorem flatN_len (len : Nat → Nat) : ∀ n LL, (flatN len n LL).length = LL.length * 8
  | _, [] => rfl
  | n, p :: LL => by rw [flatN, List.length_append, flatN_len len (n + 1) LL, List.length_cons]; simp [lc8, lcl, nmc]; omega
theorem flatN_get (len : Nat → Nat) {p : LsP} {i : Nat} (hi : i < 8) : ∀ {n : Nat} {LL : List LsP} {j : Nat}, LL[j]? = some p → (flatN len n LL)[j * 8 + i]? = (lc8 (len (n + j)) p)[i]?
  | n, [], j, h => by simp at h
  | n, q :: LL, 0, h => by
    simp at h
    subst h
    rw [flatN, List.getElem?_append_left (by simp [lc8, lcl, nmc]; omega)]
    simp
  | n, q :: LL, j + 1, h => by
    rw [flatN, List.getElem?_append_right (by simp [lc8, lcl, nmc]; omega)]
    have := flatN_get len hi (n := n + 1) (LL := LL) (j := j) (by simpa using h)
    rw [show (j + 1) * 8 + i - (lc8 (len n) q).length = j * 8 + i by simp [lc8, lcl, nmc]; omega, this, show n + 1 + j = n + (j + 1) by omega]
theorem flatN_snoc (len : Nat → Nat) (p : LsP) : ∀ n LL, flatN len n (LL ++ [p]) = flatN len n LL ++ lc8 (len (n + LL.length)) p
  | n, [] => by simp [flatN]
  | n, q :: LL => by
    rw [List.cons_append, flatN, flatN_snoc len p (n + 1) LL, flatN, List.append_assoc, List.length_cons, show n + 1 + LL.length = n + (LL.length + 1) by omega]
section
variable {w wr w' : World}  {RX LY : List S3} {cnt wt : Nat} {OV : List (Value × Value)} {LL : List LsP} {lv : Value}
end
end Go.Proofs.YtajpboclicnopaaGreat.Bd
