/-
  Numbers in a block of one's own, one put behind them; places; slices cut. No condition but those typed at each theorem.
-/
import Derived.Test.YtjobfpnlpfjoeaaSame
import Derived.Laws.AppendOwnNone
import Derived.Deep.AppendLies
namespace Go.Proofs.Ytjobfpnlpfjoeaa
open Go.RowKit

/-- the block g, with room for so many, begins with these numbers, and may be written -/
def RB (k : IntKind) (t : TypeId) (w : World) (g cap : Nat) (L : List Int) : Prop :=
  ∃ cur : Array Value, w.heap[g]? = some (.cells cur t (0, 0)) ∧ L.length ≤ cap ∧ cap ≤ maxLen ∧ cur.size = cap ∧ cur.toList.take L.length = L.map (Value.int k)
section
variable {k : IntKind} {t : TypeId} {w w' : World} {g cap : Nat} {L : List Int}
theorem RB.lt (h : RB k t w g cap L) : g < w.heap.size := by obtain ⟨cur, h, _⟩ := h; exact lt_of_block h
theorem RB.cell (h : RB k t w g cap L) {i : Nat} {x : Int} (e : L[i]? = some x) : w.cell? ⟨g, i, none⟩ = some (.int k x) := by
  obtain ⟨cur, h1, h2, h3, h4, h5⟩ := h
  have hi := (List.getElem?_eq_some_iff.1 e).1
  have h6 : (cur.toList.take L.length)[i]? = some (.int k x) := by rw [h5, List.getElem?_map, e]; rfl
  rw [List.getElem?_take, if_pos hi] at h6
  simp [World.cell?, h1]
  simpa using h6
theorem RB.free (h : RB k t w g cap L) (i : Nat) : w.frozen? ⟨g, i, none⟩ = false := by
  obtain ⟨cur, h1, _⟩ := h
  simp [World.frozen?, h1]
theorem RB.set (h : RB k t w g cap L) (i : Nat) (x : Int) : RB k t (w.setCell ⟨g, i, none⟩ (.int k x)) g cap (L.set i x) := by
  obtain ⟨cur, h1, h2, h3, h4, h5⟩ := h
  refine ⟨cur.setIfInBounds i (.int k x), heap_setCell_same _ _ _ _ _ _ h1, by simpa using h2, h3, by simpa using h4, ?_⟩
  rw [Array.toList_setIfInBounds, List.length_set, List.take_set, h5, List.map_set]
theorem RB.keep {N : Nat} (h : RB k t w g cap L) (hb : Below N w w') (hN : g < N) : RB k t w' g cap L := by
  obtain ⟨cur, h1, h2⟩ := h
  exact ⟨cur, (hb.block g hN).trans h1, h2⟩
theorem RB.drew (h : RB k t w g cap L) : RB k t w.drew g cap L := h
theorem RB.eq {M : List Int} (h : RB k t w g cap L) (e : L = M) : RB k t w g cap M := e ▸ h
theorem RB.own (h : RB k t w g cap L) {base n : Nat} (hb : base ≤ g) (hn : n = L.length) : w.ownsRow base t 1 (.slice (some ⟨g, 0, none⟩) n cap) n (L.map (Value.int k)) := by
  subst hn
  obtain ⟨cur, h1, h2, h3, h4, h5⟩ := h
  exact ⟨by simp, .inr ⟨g, cap, cur, rfl, hb, h1, h2, h3, by omega, by rw [Nat.mul_one]; exact h5⟩⟩
end
theorem rb_of {k : IntKind} {t : TypeId} {w : World} {base n : Nat} {v : Value} {L : List Int} (h : w.ownsRow base t 1 v n (L.map (Value.int k))) (hn : 0 < n) : ∃ g cap, v = .slice (some ⟨g, 0, none⟩) n cap ∧ base ≤ g ∧ RB k t w g cap L := by
  obtain ⟨h1, h2⟩ := h
  rw [List.length_map] at h1
  rcases h2 with ⟨rfl, h2⟩ | ⟨g, cap, cur, rfl, hb, hg, hnc, hcm, hcs, htk⟩
  · omega
  · exact ⟨g, cap, rfl, hb, cur, hg, by omega, hcm, by omega, by rw [← htk]; congr 1⟩

/-- one number more, behind those that are there -/
theorem wpList_oneB {ops : Array Oper} {rest : List Oper} {op : Oper} {a : Act} {Q : Exit → Act → World → Prop} {w : World} (hgd : op.guard = none) (s x : Operand) (T t : TypeId) (k : IntKind) (z : Value) (by8 : Nat)
    (hT : Try.prog.underlying T = some (.slice t)) (hi : (Try.prog.info? t).map (fun i => (i.zero, i.size, i.bytes)) = some (some z, 1, by8)) (hzs : z.cells.size = 1) (hby : by8 ≤ 8)
    (ho : op.op = .call { callee := .builtin .append, args := #[s, x], argTypes := #[T, T] }) (base : Nat) (v : Value) (n : Nat) (L : List Int) (B : Nat) (y : Int)
    (hs : a.eval s = v) (hx : a.eval x = .slice (some ⟨B, 0, none⟩) 1 1) (hc : w.cell? ⟨B, 0, none⟩ = some (.int k y)) (hown : w.ownsRow base t 1 v n (L.map (Value.int k))) (hl : n ≤ 100000) (hb : base ≤ w.heap.size)
    (h : ∀ g cap w', base ≤ g → RB k t w' g cap (L ++ [y]) → w.grownBy w' v.ownBlock → wpList Try.prog ops Q rest (a.put op.dst (.slice (some ⟨g, 0, none⟩) (n + 1) cap)) w') : wpList Try.prog ops Q (op :: rest) a w :=
  wpList_plain hgd fun K hK => by
    obtain ⟨i0, hi0, hz0, hz1, hz2⟩ := info_parts hi
    have hmx : maxLen = 9223372036854775807 := rfl
    obtain ⟨v', w', hr, h2, h3, -⟩ := run_append_own (P := Try.prog) w base T op.type t i0 z 1 by8 hT hi0 hz0 hz1 hz2 hzs (by decide) v n (L.map (Value.int k)) hown ⟨B, 0, none⟩ 1 1 [.int k y] rfl
      (by intro j u hu; cases j with
        | zero => simp at hu; subst hu; rw [Addr.add_zero']; exact hc
        | succ j => simp at hu) (by intro u hu; simp at hu; subst hu; rfl) (by omega) (by have : (n + 1) * by8 ≤ (n + 1) * 8 := Nat.mul_le_mul_left _ hby; omega) hb
    rw [show L.map (Value.int k) ++ [Value.int k y] = (L ++ [y]).map (Value.int k) by simp] at h2
    obtain ⟨g, cap, rfl, h5, h6⟩ := rb_of h2 (by omega)
    unfold Oper.wp execOp
    simp only [ho, resolve, invoke, builtin, Sem.run_bind, Sem.run_pure, Result.andThen_ok, List.map_toArray, List.map_cons, List.map_nil, hs, hx, hr]
    exact hK _ _ (h g cap w' h5 h6 h3)
theorem own_ge' {w : World} {base n : Nat} {e : TypeId} {size : Nat} {v : Value} {xs : List Value} (h : w.ownsRow base e size v n xs) : ∀ k, v.ownBlock = some k → base ≤ k := by
  intro k hk
  rcases h.2 with ⟨rfl, _⟩ | ⟨g, cap, cur, rfl, hb, _⟩
  · cases hk
  · simp [Value.ownBlock] at hk; omega

/-- the places from 0 on, below n -/
def upto (n : Nat) : List Int := (List.range n).map Int.ofNat
theorem upto_len (n : Nat) : (upto n).length = n := by simp [upto]
theorem upto_snoc (n : Nat) : upto (n + 1) = upto n ++ [(n : Int)] := by simp [upto, List.range_succ]
theorem upto_get {n i : Nat} (h : i < n) : (upto n)[i]? = some (i : Int) := by simp [upto, h]
theorem Try.info3 : (Try.prog.info? 3).map (fun i => (i.zero, i.size, i.bytes)) = some (some (.int .i64 0), 1, 8) := by kernel_rfl
/-- a slice cut at its end, and one cut at its beginning -/
theorem sl_to (X : World) (p : Option Addr) (n c h : Nat) (hm : h ≤ c) : (Instr.slice 25 (.slice p n c) none (some (.int .i64 h)) none).run Try.prog X = .ok (.slice p h c) X := by
  obtain ⟨i0, hi, hz0, hz1, hz2⟩ := info_parts Try.info3
  simp [Instr.slice, run_underlying Try.underlying25, Instr.sliceBounds, Instr.sliceBound, asIntOf, sizeOf, typeInfo, hi, hm]
  cases p <;> simp [Addr.add_zero']
theorem sl_from (A o n c l : Nat) (hl : l ≤ n) (hn : n ≤ c) : ∃ p, (l < n → p = some ⟨A, o + l, none⟩) ∧ ∀ X, (Instr.slice 25 (.slice (some ⟨A, o, none⟩) n c) (some (.int .i64 l)) none none).run Try.prog X = .ok (.slice p (n - l) (c - l)) X := by
  obtain ⟨i0, hi, hz0, hz1, hz2⟩ := info_parts Try.info3
  by_cases h3 : c = l
  · subst h3
    refine ⟨some ⟨A, o, none⟩, fun h => by omega, fun X => ?_⟩
    simp [Instr.slice, run_underlying Try.underlying25, Instr.sliceBounds, Instr.sliceBound, asIntOf, sizeOf, typeInfo, hi, hl, hn]
  · refine ⟨some ⟨A, o + l, none⟩, fun _ => rfl, fun X => ?_⟩
    simp [Instr.slice, run_underlying Try.underlying25, Instr.sliceBounds, Instr.sliceBound, asIntOf, sizeOf, typeInfo, hi, hz1, hl, h3, Addr.add_lit]
end Go.Proofs.Ytjobfpnlpfjoeaa
