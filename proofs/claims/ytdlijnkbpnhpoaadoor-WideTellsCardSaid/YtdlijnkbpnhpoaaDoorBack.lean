/-
  What slices.Backward of a slice of numbers tells to whatever loop body keeps the slice; conditions: those typed at each theorem.
-/
import Derived.Test.YtdlijnkbpnhpoaaDoorBuild
import Derived.RangeFuncBox
import Derived.RangeFuncLeaves
import Derived.Shelf.Abstract
import Derived.Shelf.RegionOpen
import Derived.WalkKit
import Derived.OwnWalkIn
import Derived.TacticsInMore
import Derived.LoopNIn
import Derived.LoopIn
namespace Go.Proofs.YtdlijnkbpnhpoaaDoor
open Go.RowKit Go.Shelf
attribute [local go_sem] Oper.semAt_some

def uptoL {α : Type} (f : Nat → α) (k : Nat) : List α := (List.range k).map f
theorem uptoL_succ {α : Type} (f : Nat → α) (k : Nat) : uptoL f (k + 1) = uptoL f k ++ [f k] := by simp [uptoL, List.range_succ]
theorem uptoL_length {α : Type} (f : Nat → α) (k : Nat) : (uptoL f k).length = k := by simp [uptoL]

structure G19 where
  val : Nat
  lt : val < 10000000000000000000
def g0 : G19 := ⟨0, by decide⟩
/-- the pair that round k tells: the place, and what stands there, from behind. -/
def backAt (zs : List G19) (k : Nat) : Nat × G19 := (zs.length - 1 - k, zs[zs.length - 1 - k]?.getD g0)

set_option maxRecDepth 100000 in
set_option maxHeartbeats 2000000 in
theorem back1_in (F : Fence) (n : Nat) (hf : F.fn 53) (hro : F.round = none) (hn : 1 ≤ n) (l Bs R bb b off cap : Nat) (zs : List G19) (hreach : zs.length ≤ 1000) (hb : b < R) (hbb : b ≠ bb) (hBs1 : Bs < R) (hBs2 : Bs ≠ bb) (J Jx : List (Nat × G19) → World → Prop)
    (hY : ∀ pre x W, J pre W → pre.length < zs.length → YieldAt F (n - 1) Tryd.prog l #[.int .i64 (x.1 : Int), .int .u64 (x.2.1 : Int)] W fun e W' =>
      (e = .returned (.bool true) ∧ J (pre ++ [x]) W' ∧ Fr R bb W W') ∨ (e = .returned (.bool false) ∧ Jx (pre ++ [x]) W'))
    (W : World) (hBs : W.cell? ⟨Bs, 0, none⟩ = some (.slice (some ⟨b, off, none⟩) zs.length cap)) (hc : ∀ j, j < zs.length → W.cell? ⟨b, off + j, none⟩ = some (.int .u64 ((zs[j]?.getD g0).1 : Int))) (h0 : J [] W) :
    CallsIn F n Tryd.prog 53 #[.func (.yield l) #[] #[], .pointer (some ⟨Bs, 0, none⟩)] W fun e W' => (∃ v, e = .returned v) ∧
      ((∃ ys, ys = uptoL (backAt zs) zs.length ∧ J ys W') ∨ (∃ pre, (∃ k, k ≤ zs.length ∧ pre = uptoL (backAt zs) k) ∧ Jx pre W')) := by
  refine callsIn_of_wp Tryd.func53 rfl hf ?_ hro
  simp only [Tryd.ntmps53, List.size_toArray, List.length_cons, List.length_nil, Nat.reduceAdd, Nat.reduceSub, Array.replicate_succ, Array.replicate_zero, List.push_toArray, List.append_toArray, List.nil_append, List.cons_append]
  have HR := Lib.hid hc
  have HY := Lib.hid hY
  clear hc hY
  gi_wp2
  gi_loopw [3] (fun i wr => ∃ k : Nat, k ≤ zs.length ∧ i = .int .i64 ((zs.length : Int) - 1 - (k : Int)) ∧ J (uptoL (backAt zs) k) wr ∧ Fr R bb W wr)
    (fun i _ => (intOf i + 1).toNat)
  case atStart => exact ⟨0, Nat.zero_le _, by simp, h0, Fr.refl _ _ _⟩
  case round =>
    obtain ⟨k, hk, rfl, hJs, hnx⟩ := hrel
    have hBx : wr.cell? ⟨Bs, 0, none⟩ = some (.slice (some ⟨b, off, none⟩) zs.length cap) := (World.cell?_of_block (w := W) (hnx.block Bs hBs1 hBs2)).trans hBs
    by_cases hlt : k < zs.length
    · have hcx : wr.cell? ⟨b, off + (zs.length - 1 - k), none⟩ = some (.int .u64 ((backAt zs k).2.1 : Int)) := (World.cell?_of_block (w := W) (hnx.block b hb hbb)).trans (HR.out (zs.length - 1 - k) (by omega))
      obtain ⟨fn, tmps, assign, body, hy, hR⟩ := HY.out _ (backAt zs k) wr hJs (by rw [uptoL_length]; exact hlt)
      obtain ⟨m, hm⟩ : ∃ m : Nat, zs.length - 1 - k = m := ⟨_, rfl⟩
      have e1 : ((backAt zs k).1 : Int) = (m : Int) := by show ((zs.length - 1 - k : Nat) : Int) = _; rw [hm]
      have e2 : (zs.length : Int) - 1 - (k : Int) = (m : Int) := by omega
      have hml : m < zs.length := by omega
      rw [e1] at hy
      rw [hm] at hcx
      rw [e2]
      have HE := Lib.hid e2
      have HM := Lib.hid hm
      clear e1 e2 hm
      gi_wp2
      refine hR.mono ?_
      rintro e W3 (⟨rfl, hJ3, hk3⟩ | ⟨rfl, hJx3⟩)
      · gi_wp2
        go_roundw
        case rel =>
          have q := HE.out
          exact ⟨k + 1, by omega, congrArg (Value.int .i64) (by omega), by rw [uptoL_succ]; exact hJ3, hnx.trans hk3⟩
        case measure => simp [intOf]
      · gi_wp2
        refine bodyPost_ret (results_none rfl _ _ _) rfl ?_
        exact ⟨⟨_, rfl⟩, .inr ⟨_, ⟨k + 1, by omega, (uptoL_succ _ _).symm⟩, hJx3⟩⟩
    · obtain rfl : k = zs.length := by omega
      have e2 : (zs.length : Int) - 1 - (zs.length : Int) = -1 := by omega
      rw [e2]
      clear e2
      gi_wp2
      go_end0
      exact ⟨⟨_, rfl⟩, .inl ⟨_, rfl, hJs⟩⟩

set_option maxRecDepth 100000 in
set_option maxHeartbeats 1000000 in
/-- slices.Backward(s): the slice value is boxed; the function value captures the box. -/
theorem back_in (F : Fence) (n : Nat) (hf : F.fn 37) (hro : F.round = none) (a : Option Addr) (len cap : Nat) (w : World) :
    CallsIn F n Tryd.prog 37 #[.slice a len cap] w fun e w' => e = .returned (.func (.func 53) #[] #[.pointer (some ⟨w.heap.size, 0, none⟩)]) ∧ w' = w.alloc (.cells #[.slice a len cap] 66) := by
  refine callsIn_of_wp Tryd.func37 rfl hf ?_ hro
  simp only [Tryd.ntmps37, List.size_toArray, List.length_cons, List.length_nil, Nat.reduceAdd, Nat.reduceSub, Array.replicate_succ, Array.replicate_zero, List.push_toArray, List.append_toArray, List.nil_append, List.cons_append]
  gi_wp2
  go_ret
  exact ⟨rfl, rfl⟩

theorem back_stops (F : Fence) (n : Nat) (hf : F.fn 53) (hro : F.round = none) (hn : 1 ≤ n) (Bs R bb b cap : Nat) (zs : List G19) (hreach : zs.length ≤ 1000) (hb : b < R) (hbb : b ≠ bb) (hBs1 : Bs < R) (hBs2 : Bs ≠ bb)
    (w : World) (hR : R ≤ w.heap.size) (hBs : w.cell? ⟨Bs, 0, none⟩ = some (.slice (some ⟨b, 0, none⟩) zs.length cap)) (hc : ∀ j, j < zs.length → w.cell? ⟨b, 0 + j, none⟩ = some (.int .u64 ((zs[j]?.getD g0).1 : Int))) :
    SeqStopsK F n Tryd.prog 53 #[.pointer (some ⟨Bs, 0, none⟩)] (fun x : Nat × G19 => #[Value.int .i64 (x.1 : Int), Value.int .u64 (x.2.1 : Int)]) (Fr R bb) (fun ys => ys = uptoL (backAt zs) zs.length)
      (fun pre => ∃ k, k ≤ zs.length ∧ pre = uptoL (backAt zs) k) zs.length w := fun l J Jx W hW _ _ hY h0 =>
  back1_in F n hf hro hn l Bs R bb b 0 cap zs hreach hb hbb hBs1 hBs2 J Jx hY W ((hW.cell (p := ⟨Bs, 0, none⟩) (by dsimp only; omega)).trans hBs) (fun j hj => (hW.cell (p := ⟨b, 0 + j, none⟩) (by dsimp only; omega)).trans (hc j hj)) h0
theorem frK_b {R b : Nat} {w : World} (hn : R ≤ w.heap.size) (W : World) (l : Nat) (o o' : Obj) (hl : w.heap.size ≤ l) (h : W.heap[l]? = some o) (_ : o.isCells = false) (_ : o.isWalk = false) : Fr R b W (W.putObj l o') :=
  (Fr.refl R b W).grown (grownBy_putObj' W l o') (by have := (Array.getElem?_eq_some_iff.1 h).1; omega) (fun k e => by cases e; omega)
end Go.Proofs.YtdlijnkbpnhpoaaDoor
