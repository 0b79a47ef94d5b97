/-
  What wide.groups tells, for every wide number; conditions: those typed at each theorem.
-/
import Derived.Test.YtdlijnkbpnhpoaaDoorDiv
import Derived.Maps.AppendAt
namespace Go.Proofs.YtdlijnkbpnhpoaaDoor
open Go.RowKit

theorem ownBelow {W W' : World} {B e size n : Nat} {v : Value} {xs : List Value} (h : W.ownsRow B e size v n xs) (hb : Below W.heap.size W W') : W'.ownsRow B e size v n xs :=
  h.kept (row := none) ⟨hb.os, hb.tape, hb.output, hb.size, fun k hk _ => hb.block k hk⟩ (Classical.em _)

def uv (n : Nat) : Value := .int .u64 (n : Int)
/-- the groups of nineteen digits, the lowest first. -/
def gs (a : Nat) : List Nat :=
  if a < 10000000000000000000 then [a] else if gQ a < 10000000000000000000 then [gR a, gQ a] else [gR a, gR (gQ a), gQ (gQ a)]
def GInv (a0 : Nat) (L : List Nat) (a : Nat) : Prop := (L = [] ∧ a = a0) ∨ (L = [gR a0] ∧ a = gQ a0 ∧ ¬ a0 < 10000000000000000000) ∨ (L = [gR a0, gR (gQ a0)] ∧ a = gQ (gQ a0) ∧ ¬ a0 < 10000000000000000000 ∧ ¬ gQ a0 < 10000000000000000000)
theorem GInv.next {a0 : Nat} {L : List Nat} {a : Nat} (h : GInv a0 L a) (h0 : a0 < B128) (ha : ¬ a < 10000000000000000000) : GInv a0 (L ++ [gR a]) (gQ a) := by
  rcases h with ⟨rfl, rfl⟩ | ⟨rfl, rfl, h1⟩ | ⟨rfl, rfl, h1, h2⟩
  · exact .inr (.inl ⟨rfl, rfl, ha⟩)
  · exact .inr (.inr ⟨rfl, rfl, h1, ha⟩)
  · unfold gQ at *; unfold B128 at h0; omega
theorem GInv.done {a0 : Nat} {L : List Nat} {a : Nat} (h : GInv a0 L a) (ha : a < 10000000000000000000) : L ++ [a] = gs a0 := by
  unfold gs
  rcases h with ⟨rfl, rfl⟩ | ⟨rfl, rfl, h1⟩ | ⟨rfl, rfl, h1, h2⟩
  · rw [if_pos ha]; rfl
  · rw [if_neg h1, if_pos ha]; rfl
  · rw [if_neg h1, if_neg h2]; rfl
theorem GInv.lt {a0 : Nat} {L : List Nat} {a : Nat} (h : GInv a0 L a) (h0 : a0 < B128) : a < B128 ∧ L.length ≤ 2 := by
  rcases h with ⟨rfl, rfl⟩ | ⟨rfl, rfl, h1⟩ | ⟨rfl, rfl, h1, h2⟩ <;> (refine ⟨?_, by simp⟩; (try unfold gQ at *); omega)

theorem g_app {B : Nat} {w2 w3 : World} {u : Value} {n : Nat} {xs : List Value} {x y z h l : Value} (hown : w2.ownsRow (B + 1) 22 1 u n xs)
    (hgrow : ((w2.alloc (.cells #[x, y] 24)).alloc (.cells #[z] 22)).grownBy w3 u.ownBlock) (d0 : w2.cell? ⟨B, 0, none⟩ = some h) (d1 : w2.cell? ⟨B, 1, none⟩ = some l)
    (f0 : w2.frozen? ⟨B, 0, none⟩ = false) (f1 : w2.frozen? ⟨B, 1, none⟩ = false) :
    w3.cell? ⟨B, 0, none⟩ = some h ∧ w3.cell? ⟨B, 1, none⟩ = some l ∧ w3.frozen? ⟨B, 0, none⟩ = false ∧ w3.frozen? ⟨B, 1, none⟩ = false ∧
    w3.cell? ⟨w2.heap.size, 0, none⟩ = some x ∧ w3.cell? ⟨w2.heap.size, 1, none⟩ = some y ∧ w2.heap.size + 2 ≤ w3.heap.size := by
  have hne : some B ≠ u.ownBlock := fun e => by have := (hown.lt B e.symm).1; omega
  have hne2 : some w2.heap.size ≠ u.ownBlock := fun e => by have := (hown.lt _ e.symm).2; omega
  have a0 := allc (o := .cells #[z] 22) (allc (o := .cells #[x, y] 24) d0)
  have a1 := allc (o := .cells #[z] 22) (allc (o := .cells #[x, y] 24) d1)
  refine ⟨hgrow.cell a0 hne, hgrow.cell a1 hne, ?_, ?_, hgrow.cell (allc (new0 _ _ _ rfl)) hne2, hgrow.cell (allc (new1 _ _ _ rfl)) hne2, Nat.le_trans (by simp) hgrow.size⟩
  · exact (World.frozen?_of_block (hgrow.block B (World.block_lt_of_cell? _ _ a0) hne)).trans (allf (allc d0) (allf d0 f0))
  · exact (World.frozen?_of_block (hgrow.block B (World.block_lt_of_cell? _ _ a1) hne)).trans (allf (allc d1) (allf d1 f1))

theorem Tryd.info22 : (Tryd.prog.info? 22).map (fun i => (i.zero, i.size, i.bytes)) = some (some (.int .u64 0), 1, 8) := by kernel_rfl
def slen : Value → Nat | .slice _ n _ => n | _ => 0

theorem own_slen {w : World} {B e size n : Nat} {v : Value} {xs : List Value} (h : w.ownsRow B e size v n xs) : slen v = n := by
  rcases h.2 with ⟨rfl, rfl⟩ | ⟨g, cap, cur, rfl, _⟩ <;> rfl
set_option maxRecDepth 100000 in
set_option maxHeartbeats 1000000 in
/-- wide.groups: a new slice of the groups of nineteen digits, the lowest first. -/
theorem groups_any (a0 : Nat) (w : World) (h0 : a0 < B128) :
    Calls Tryd.prog 38 #[.agg #[.int .u64 (hi a0), .int .u64 (lo a0)]] w fun e w' => ∃ v, e = .returned v ∧ w'.ownsRow (w.heap.size + 1) 22 1 v (gs a0).length ((gs a0).map uv) ∧ Below w.heap.size w w' := by
  obtain ⟨i0, hi0, hz0, hz1, hz2⟩ := info_parts Tryd.info22
  have H0 := Lib.hid h0
  clear h0
  go_enter Tryd.func38, Tryd.ntmps38
  go_wp2
  go_loopw [3, 4, 5] (fun v _ _ wr => ∃ L a, GInv a0 L a ∧ wr.cell? ⟨w.heap.size, 0, none⟩ = some (.int .u64 (hi a)) ∧ wr.cell? ⟨w.heap.size, 1, none⟩ = some (.int .u64 (lo a)) ∧ wr.frozen? ⟨w.heap.size, 0, none⟩ = false ∧ wr.frozen? ⟨w.heap.size, 1, none⟩ = false ∧ wr.ownsRow (w.heap.size + 1) 22 1 v L.length (L.map uv) ∧ Below w.heap.size w wr ∧ w.heap.size + 1 ≤ wr.heap.size) (fun v _ _ _ => 4 - slen v)
  case atStart => exact ⟨[], a0, .inl ⟨rfl, rfl⟩, new0 _ _ _ rfl, new1 _ _ _ rfl, newf _ _ _ _ rfl, newf _ _ _ _ rfl, World.ownsRow_nil _ _ _ _, (Below.refl _ _).alloc (Nat.le_refl _) _, by simp⟩
  case round =>
    obtain ⟨L, a, hG, c0, c1, f0, f1, hown, hB, hsz⟩ := hrel
    obtain ⟨hlt, hlen⟩ := hG.lt H0.out
    by_cases ha : a < 10000000000000000000
    · have hv : Hid (lo a = (a : Int)) := by unfold Hid lo B64; omega
      have t1 : (hi a != 0) = false := by
        have : hi a = 0 := by unfold hi B64; omega
        rw [this]; rfl
      have t2 : decide (10000000000000000000 ≤ lo a) = false := decide_eq_false (by rw [hv.out]; omega)
      have HL := Lib.hid (hG.done ha)
      have HG := Lib.hid hG
      clear ha hG
      go_wp2_with (at_builtin; go_must (refine wpList_append_own _ rfl _ _ 66 rfl (w.heap.size + 1) 22 i0 (.int .u64 0) 1 8 Tryd.underlying66 hi0 hz0 hz1 hz2 rfl (by decide) _ _ _ rfl (hown.alloc _) ⟨wr.heap.size, 0, none⟩ 1 1 [.int .u64 (lo a)] rfl rfl (cell_one_new _ _ _) (by simp [Value.oneCell']) ?_ ?_ ?_ ?_) <;> first | (unfold maxLen; omega) | omega | (simp; omega) | (intro v' w1 hown' hgrow _))
      go_ret
      refine ⟨v', rfl, ?_, (hB.alloc (by omega) _).grown hgrow (by simp; omega) (fun k hk => by have := (hown.lt k hk).1; omega)⟩
      rw [← HL.out]
      simp only [List.map_append, List.map_cons, List.map_nil, List.length_append, List.length_cons, List.length_nil, uv]
      rw [hv.out] at hown'
      exact hown'
    · have hcase : ∃ t : Bool, (hi a != 0) = t ∧ (t = false → decide (10000000000000000000 ≤ lo a) = true) := ⟨_, rfl, fun e => by
        have h1 : hi a = 0 := by simpa using e
        unfold hi B64 at h1; unfold lo B64; simp; omega⟩
      obtain ⟨t, ht, ht2⟩ := hcase
      have HN := Lib.hid (hG.next H0.out ha)
      have HLT := Lib.hid hlt
      clear hG ha hlt
      cases t
      case' false => have t2 := ht2 rfl
      all_goals
        clear ht2
        go_wp2_with fail
        refine (cut_any a _ HLT.out).mono ?_
        rintro e w2 ⟨rfl, hb2⟩
        have d0 := keepc hb2 c0
        have d1 := keepc hb2 c1
        have d2 := keepf hb2 c0 f0
        have d3 := keepf hb2 c1 f1
        have hown2 := ownBelow hown hb2
        have hz2' := hb2.size
        have hB2 := hB.trans (hb2.mono (by omega))
        clear hb2 c0 c1 f0 f1 hown hB
        go_wp2_with (at_builtin; refine wpList_append_own _ rfl _ _ 66 rfl (w.heap.size + 1) 22 i0 (.int .u64 0) 1 8 Tryd.underlying66 hi0 hz0 hz1 hz2 rfl (by decide) _ _ _ rfl ((hown2.alloc _).alloc _) ⟨w2.heap.size + 1, 0, none⟩ 1 1 [.int .u64 (gR a : Int)] rfl rfl (by simpa using cell_one_new (w2.alloc (.cells #[.int .u64 (hi (gQ a)), .int .u64 (lo (gQ a))] 24)) (.int .u64 (gR a : Int)) 22) (by simp [Value.oneCell']) ?_ ?_ ?_ ?_ <;> first | (unfold maxLen; omega) | omega | (simp; omega) | (intro v' w3 hown' hgrow _; obtain ⟨e0, e1, e2, e3, e4, e5, e6⟩ := g_app hown2 hgrow d0 d1 d2 d3; clear d0 d1 d2 d3; have HB3 := Lib.hid (((hB2.alloc (by omega) _).alloc (by simp; omega) _).grown hgrow (by simp; omega) (fun k hk => by have := (hown2.lt k hk).1; omega)); clear hgrow hB2))
        refine ⟨⟨L ++ [gR a], gQ a, HN.out, set20 e0, set21 e1, by simp [World.frozen?_setCell, e2], by simp [World.frozen?_setCell, e3], ?_, (HB3.out.setCell (p := ⟨w.heap.size, 0, none⟩) (Nat.le_refl _) _).setCell (p := ⟨w.heap.size, 1, none⟩) (Nat.le_refl _) _, by simp; omega⟩, ?_⟩
        · simp only [List.map_append, List.map_cons, List.map_nil, List.length_append, List.length_cons, List.length_nil, uv]
          exact ownsRow_setCell_below (ownsRow_setCell_below hown' (a := ⟨w.heap.size, 0, none⟩) (Nat.lt_succ_self _) _) (a := ⟨w.heap.size, 1, none⟩) (Nat.lt_succ_self _) _
        · have q1 := own_slen hown'
          have q2 := own_slen hown2
          omega
end Go.Proofs.YtdlijnkbpnhpoaaDoor
