/-
  pool.kids: what a loop over it is handed, and when it stops; hasOwnKids, fits. No condition but those typed at each theorem.
-/
import Derived.Test.YtjobfpnlpfjoeaaNds
import Derived.RangeFuncNested
import Derived.RangeFuncBound
import Derived.RangeFuncCalls
import Derived.RangeFuncLeaves
import Derived.Shelf.RegionOpen
import Derived.OwnWalkIn
import Derived.TacticsInMore
import Derived.LoopNIn
import Derived.LoopIn
namespace Go.Proofs.Ytjobfpnlpfjoeaa
open Go.RowKit Go.Shelf
attribute [local go_sem] Oper.semAt_some

/-- what lies in this block's cells lies so still -/
def KpB (B : Nat) (W W' : World) : Prop := ∀ i v, W.cell? ⟨B, i, none⟩ = some v → W'.cell? ⟨B, i, none⟩ = some v
theorem kpB_t {B : Nat} {X Y Z : World} (h : KpB B X Y) (k : KpB B Y Z) : KpB B X Z := fun i v e => k i v (h i v e)
theorem kpB_b {B : Nat} {N : Nat} (W : World) (l : Nat) (o o' : Obj) (_ : N ≤ l) (h : W.heap[l]? = some o) (hc : o.isCells = false) (_ : o.isWalk = false) : KpB B W (W.putObj l o') := fun _ _ e =>
  cell_kept e (grownBy_putObj' W l o') (fun r h2 => by cases h2; exact ⟨o, h, hc⟩)
theorem KpB.of {B N : Nat} {W W' : World} (h : Below N W W') (hB : B < N) : KpB B W W' := fun i _ e => (h.cell (p := ⟨B, i, none⟩) hB).trans e

set_option maxHeartbeats 1000000 in
theorem kids_any (n : Nd) (w : World) : Calls Try.prog 39 #[nv n] w fun e w' => e = .returned (.func (.func 41) #[] #[.pointer (some ⟨w.heap.size, 0, none⟩)]) ∧ w' = w.alloc (.cells (nvs n).toArray 36) := by
  have hmf : ∀ (fn : Fn) (first cap : Array Value) (w : World), (Instr.makeFunc fn first cap).run Try.prog w = .ok (.func fn first cap) w := fun _ _ _ _ => rfl
  obtain ⟨k, l, r, f, t, a, m⟩ := n
  unfold nv nvs
  go_enter Try.func39, Try.ntmps39
  go_wp2
  go_ret
  exact ⟨rfl, rfl⟩

set_option maxRecDepth 100000 in
set_option maxHeartbeats 2000000 in
theorem kids_stops (m : Nat) (hm : 1 ≤ m) (n : Nd) (B : Nat) (w : World) (hB : B < w.heap.size) (hc : N1 w B 0 n) :
    SeqStopsK Fence.wide m Try.prog 41 #[.pointer (some ⟨B, 0, none⟩)] (fun x : Int => #[Value.int .i64 x]) (KpB B) (fun xs => xs = ksL n) (fun pre => pre <+: ksL n) 2 w := fun l J Jx W hW _ _ hY h0 => by
  have hc' := hc.keep hW hB
  have k1 := hc'.c1
  have k2 := hc'.c2
  obtain ⟨k, L, R, f, t, a, q⟩ := n
  simp only [Nat.zero_add] at k1 k2
  clear hc hc'
  refine callsIn_of_wp Try.func41 rfl trivial ?_ rfl
  simp only [Try.ntmps41, List.size_toArray, List.length_cons, List.length_nil, Nat.reduceAdd, Nat.reduceSub, Array.replicate_succ, Array.replicate_zero, List.push_toArray, List.append_toArray, List.nil_append, List.cons_append]
  by_cases hL : L = -1
  · subst hL
    by_cases hR : R = -1
    · subst hR
      gi_wp2
      refine ⟨fun _ h => (by cases h), ?_⟩
      gi_wp2
      go_end0
      exact ⟨⟨_, rfl⟩, .inl ⟨[], rfl, h0⟩⟩
    · obtain ⟨fn, tm, asg, bo, hy, hY2⟩ := hY [] R W h0 (by simp)
      dsimp only at hy
      gi_wp2
      refine ⟨fun _ h => (by cases h), ?_⟩
      gi_wp2
      refine hY2.mono ?_
      rintro e W1 (⟨rfl, hJ1, -⟩ | ⟨rfl, hx1⟩)
      · gi_wp2
        go_end0
        exact ⟨⟨_, rfl⟩, .inl ⟨[R], by simp [ksL, nl, nr, hR], hJ1⟩⟩
      · gi_wp2
        go_end0
        exact ⟨⟨_, rfl⟩, .inr ⟨[R], by simp [ksL, nl, nr, hR], hx1⟩⟩
  · obtain ⟨fn, tm, asg, bo, hy, hY2⟩ := hY [] L W h0 (by simp)
    dsimp only at hy
    by_cases hR : R = -1
    · subst hR
      gi_wp2
      refine hY2.mono ?_
      rintro e W1 (⟨rfl, hJ1, hk⟩ | ⟨rfl, hx1⟩)
      · have k3 := hk _ _ k2
        gi_wp2
        go_end0
        exact ⟨⟨_, rfl⟩, .inl ⟨[L], by simp [ksL, nl, nr, hL], hJ1⟩⟩
      · gi_wp2
        refine bodyPost_ret (results_none rfl _ _ _) rfl ?_
        exact ⟨⟨_, rfl⟩, .inr ⟨[L], by simp [ksL, nl, nr, hL], hx1⟩⟩
    · gi_wp2
      refine hY2.mono ?_
      rintro e W1 (⟨rfl, hJ1, hk⟩ | ⟨rfl, hx1⟩)
      · have k3 := hk _ _ k2
        obtain ⟨fn', tm', asg', bo', hy', hY2'⟩ := hY [L] R W1 hJ1 (by simp)
        gi_wp2
        refine hY2'.mono ?_
        rintro e W2 (⟨rfl, hJ2, -⟩ | ⟨rfl, hx2⟩)
        · gi_wp2
          go_end0
          exact ⟨⟨_, rfl⟩, .inl ⟨[L, R], by simp [ksL, nl, nr, hL, hR], hJ2⟩⟩
        · gi_wp2
          go_end0
          exact ⟨⟨_, rfl⟩, .inr ⟨[L, R], by simp [ksL, nl, nr, hL, hR], hx2⟩⟩
      · gi_wp2
        refine bodyPost_ret (results_none rfl _ _ _) rfl ?_
        exact ⟨⟨_, rfl⟩, .inr ⟨[L], by simp [ksL, nl, nr, hL, hR], hx1⟩⟩
end Go.Proofs.Ytjobfpnlpfjoeaa
