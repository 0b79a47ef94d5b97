/-
  A line is laid. No condition but those typed at each theorem.
-/
import Derived.Test.YtbpeoaceoefdpaaGreatIl
import Derived.Test.YtbpeoaceoefdpaaGreatMS3
import Derived.Test.YtbpeoaceoefdpaaGreatSr
import Derived.Deep.CutBlock
import Derived.Laws.Rows
namespace Go.Proofs.YtbpeoaceoefdpaaGreat.Iv
open Go.RowKit

def layR (i N : Nat) : List (Nat × Nat) := (List.range N).map (fun p => if p < i then (p, p + 1) else (0, 0))
def layO (i N : Nat) : List Nat := (List.range N).map (fun p => if p < i then p else 0)
theorem layR_step (i N : Nat) (h : i < N) : (layR i N).set i (i, i + 1) = layR (i + 1) N := by
  apply List.ext_getElem?
  intro p
  unfold layR
  by_cases hp : p < N
  · rw [List.getElem?_set, List.getElem?_map, List.getElem?_map, List.getElem?_range hp]
    by_cases e : i = p
    · subst e; simp [h]
    · rw [if_neg e]; simp only [Option.map_some]; congr 1
      by_cases g : p < i
      · rw [if_pos g, if_pos (by omega)]
      · rw [if_neg g, if_neg (by omega)]
  · rw [List.getElem?_eq_none (by simp; omega), List.getElem?_eq_none (by simp; omega)]
theorem layO_step (i N : Nat) (h : i < N) : (layO i N).set i i = layO (i + 1) N := by
  apply List.ext_getElem?
  intro p
  unfold layO
  by_cases hp : p < N
  · rw [List.getElem?_set, List.getElem?_map, List.getElem?_map, List.getElem?_range hp]
    by_cases e : i = p
    · subst e; simp [h]
    · rw [if_neg e]; simp only [Option.map_some]; congr 1
      by_cases g : p < i
      · rw [if_pos g, if_pos (by omega)]
      · rw [if_neg g, if_neg (by omega)]
  · rw [List.getElem?_eq_none (by simp; omega), List.getElem?_eq_none (by simp; omega)]
theorem lay_done (N : Nat) : layR N N = (List.range N).map (fun p => (p, p + 1)) ∧ layO N N = List.range N := by
  constructor
  · unfold layR
    refine List.map_congr_left (fun p hp => ?_)
    rw [if_pos (List.mem_range.1 hp)]
  · unfold layO
    conv => rhs; rw [← List.map_id (List.range N)]
    refine List.map_congr_left (fun p hp => ?_)
    rw [if_pos (List.mem_range.1 hp)]; rfl
theorem layR_zero (N : Nat) : flatR (layR 0 N) = List.replicate (N * 2) (.int .i64 0) := by
  unfold layR
  have : (List.range N).map (fun p => if p < 0 then (p, p + 1) else (0, 0)) = List.replicate N (0, 0) := by
    rw [List.eq_replicate_iff]; exact ⟨by simp, by simp⟩
  rw [this]
  clear this
  induction N with
  | zero => rfl
  | succ N ih => rw [List.replicate_succ, show (N + 1) * 2 = N * 2 + 1 + 1 by omega, List.replicate_succ, List.replicate_succ, ← ih]; rfl
theorem layO_zero (N : Nat) : zs (layO 0 N) = List.replicate N 0 := by
  unfold layO zs
  rw [List.map_map, List.eq_replicate_iff]; exact ⟨by simp, by simp⟩
theorem info_run : (Tryz.prog.info? 123).map (fun i => (i.zero, i.size, i.bytes)) = some (some (.agg #[.int .i64 0, .int .i64 0]), 2, 16) := by kernel_rfl
theorem info_int : (Tryz.prog.info? 3).map (fun i => (i.zero, i.size, i.bytes)) = some (some (.int .i64 0), 1, 8) := by kernel_rfl
theorem under_runs : Tryz.prog.underlying 57 = some (.slice 123) := by kernel_rfl
theorem under_ints : Tryz.prog.underlying 56 = some (.slice 3) := by kernel_rfl
/-- a line of spans that are all there -/
def Laid (w : World) (p : Option Addr) (c n : Nat) (v : Value) (w' : World) : Prop :=
  ∃ br bo, v = .agg #[.slice p n c, .slice (some ⟨br, 0, none⟩) (n + 1) (n + 1), .slice (some ⟨bo, 0, none⟩) (n + 1) (n + 1)] ∧ EV 123 w' br (flatR (layR (n + 1) (n + 1))) ∧ EB .i64 3 w' bo (zs (layO (n + 1) (n + 1))) ∧ w.heap.size ≤ br ∧ w.heap.size ≤ bo ∧ br ≠ bo ∧ Below w.heap.size w w'

theorem made_ints (n : Nat) : madeCells #[.int .i64 0] (n * 1) = ((zs (layO 0 n)).map (Value.int .i64)).toArray := by
  rw [layO_zero, Nat.mul_one]
  apply Array.ext
  · simp [size_madeCells]
  · intro i h1 h2
    simp [madeCells, Nat.mod_one]
theorem made_runs (n : Nat) : madeCells #[.int .i64 0, .int .i64 0] (n * 2) = (flatR (layR 0 n)).toArray := by
  rw [layR_zero]
  apply Array.ext
  · simp [size_madeCells]
  · intro i h1 h2
    rcases Nat.mod_two_eq_zero_or_one i with e | e <;> simp [madeCells, e]
theorem four (w : World) (a b c d : Obj) : ((((w.alloc a).alloc b).alloc c).alloc d).heap[w.heap.size]? = some a ∧ ((((w.alloc a).alloc b).alloc c).alloc d).heap[w.heap.size + 1]? = some b ∧ ((((w.alloc a).alloc b).alloc c).alloc d).heap[w.heap.size + 1 + 1]? = some c ∧ ((((w.alloc a).alloc b).alloc c).alloc d).heap[w.heap.size + 1 + 1 + 1]? = some d ∧ Below w.heap.size w ((((w.alloc a).alloc b).alloc c).alloc d) := by
  refine ⟨?_, ?_, ?_, ?_, ((((Below.refl _ w).alloc (Nat.le_refl _) _).alloc (by simp) _).alloc (by simp; omega) _).alloc (by simp; omega) _⟩
  · exact (Below.heap_alloc _ _ _ (by simp; omega)).trans ((Below.heap_alloc _ _ _ (by simp; omega)).trans ((Below.heap_alloc _ _ _ (by simp)).trans (heap_alloc_new w _)))
  · have := heap_alloc_new (w.alloc a) b
    rw [World.size_alloc] at this
    exact (Below.heap_alloc _ _ _ (by simp)).trans ((Below.heap_alloc _ _ _ (by simp)).trans this)
  · have := heap_alloc_new ((w.alloc a).alloc b) c
    rw [World.size_alloc, World.size_alloc] at this
    exact (Below.heap_alloc _ _ _ (by simp)).trans this
  · have := heap_alloc_new (((w.alloc a).alloc b).alloc c) d
    rw [World.size_alloc, World.size_alloc, World.size_alloc] at this
    exact this
noncomputable def lineD : TypeDesc := (Tryz.prog.underlying 59).get (by kernel_rfl)
structure LayI (i : Nat) (w : World) (p : Option Addr) (c n : Nat) (wx : World) (br bo B : Nat) : Prop where
  r : EV 123 wx br (flatR (layR i (n + 1)))
  q : EB .i64 3 wx bo (zs (layO i (n + 1)))
  l : EV 59 wx B [.slice p n c, .slice (some ⟨br, 0, none⟩) (n + 1) (n + 1), .slice (some ⟨bo, 0, none⟩) (n + 1) (n + 1)]
  e : EV 59 wx w.heap.size [.slice none 0 0, .slice none 0 0, .slice none 0 0]
  ne : w.heap.size < br ∧ w.heap.size < bo ∧ w.heap.size < B ∧ br ≠ bo ∧ B ≠ br ∧ B ≠ bo
  bel : Below w.heap.size w wx
theorem EV.far {t : TypeId} {w : World} {A : Nat} {L : List Value} (h : EV t w A L) {a : Addr} (ha : a.block ≠ A) (v : Value) : EV t (w.setCell a v) A L := (Below.heap_setCell _ _ _ _ (Ne.symm ha)).trans h
theorem LayI.step {i : Nat} {w : World} {p : Option Addr} {c n : Nat} {wx : World} {br bo B : Nat} (h : LayI i w p c n wx br bo B) (hi : i < n + 1) :
    LayI (i + 1) w p c n (((wx.setCell ⟨br, i * 2, none⟩ (.int .i64 i)).setCell ⟨br, i * 2 + 1, none⟩ (.int .i64 ((i + 1 : Nat) : Int))).setCell ⟨bo, i, none⟩ (.int .i64 i)) br bo B := by
  obtain ⟨n1, n2, n3, n4, n5, n6⟩ := h.ne
  refine ⟨?_, ?_, ?_, ?_, h.ne, ?_⟩
  · have := (h.r.set (i * 2) (.int .i64 i)).set (i * 2 + 1) (.int .i64 ((i + 1 : Nat) : Int))
    rw [flatR_set, layR_step i _ hi] at this
    exact EV.far this (Ne.symm n4) _
  · have := ((h.q.far (a := ⟨br, i * 2, none⟩) n4 (.int .i64 i)).far (a := ⟨br, i * 2 + 1, none⟩) n4 (.int .i64 ((i + 1 : Nat) : Int))).set i i
    rw [zs_set, layO_step i _ hi] at this
    exact this
  · exact EV.far (EV.far (EV.far h.l (Ne.symm n5) _) (Ne.symm n5) _) (Ne.symm n6) _
  · exact EV.far (EV.far (EV.far h.e (by show br ≠ _; omega) _) (by show br ≠ _; omega) _) (by show bo ≠ _; omega) _
  · exact ((h.bel.setCell (by show _ ≤ br; omega) _).setCell (by show _ ≤ br; omega) _).setCell (by show _ ≤ bo; omega) _

set_option maxRecDepth 100000 in
set_option maxHeartbeats 3200000 in
theorem lay_any (w : World) (p : Option Addr) (c n : Nat) (hn : n ≤ 8192) :
    Calls Tryz.prog 46 #[.slice p n c] w fun e w' => ∃ v, e = .returned v ∧ Laid w p c n v w' := by
  have hm1 : ∀ w : World, (Instr.makeSlice 57 (.int .i64 ((n : Int) + 1)) (.int .i64 ((n : Int) + 1))).run Tryz.prog w = .ok (.slice (some ⟨w.heap.size, 0, none⟩) (n + 1) (n + 1)) (w.alloc (.cells (flatR (layR 0 (n + 1))).toArray 123)) := fun w => by
    have := made_any info_run (by decide) (by decide) under_runs w (n + 1) (n + 1) (by omega) (by omega)
    rw [show ((n + 1 : Nat) : Int) = (n : Int) + 1 by omega] at this
    rw [← made_runs]
    exact this
  have hm2 : ∀ w : World, (Instr.makeSlice 56 (.int .i64 ((n : Int) + 1)) (.int .i64 ((n : Int) + 1))).run Tryz.prog w = .ok (.slice (some ⟨w.heap.size, 0, none⟩) (n + 1) (n + 1)) (w.alloc (.cells ((zs (layO 0 (n + 1))).map (Value.int .i64)).toArray 3)) := fun w => by
    have := made_any info_int (by decide) (by decide) under_ints w (n + 1) (n + 1) (by omega) (by omega)
    rw [show ((n + 1 : Nat) : Int) = (n : Int) + 1 by omega] at this
    rw [← made_ints]
    exact this
  go_enter Tryz.func46, Tryz.ntmps46
  go_upto_region 1 with fail
  go_cut [3] from 5 to 15 (fun v wx => ∃ br bo B : Nat, v = .pointer (some ⟨B, 0, none⟩) ∧ Hid (LayI 0 w p c n wx br bo B))
  case first =>
    generalize hF : (flatR (layR 0 (n + 1))).toArray = F at hm1
    generalize hG : ((zs (layO 0 (n + 1))).map (Value.int .i64)).toArray = G at hm2
    have HF := Lib.hid hF
    have HG := Lib.hid hG
    clear hF hG
    go_region
    all_goals go_wp2_with fail
    all_goals go_meet
    all_goals
      (obtain ⟨f0, f1, f2, f3, f4⟩ := four w _ _ _ _
       first
         | exact ⟨w.heap.size + 1, w.heap.size + 1 + 1, w.heap.size + 1 + 1 + 1, rfl, Lib.hid ⟨by show _ = some (Obj.cells _ _ _); rw [HF.out]; exact f1, by show _ = some (Obj.cells _ _ _); rw [HG.out]; exact f2, f3, f0, by omega, f4.drew⟩⟩
         | exact ⟨w.heap.size + 1, w.heap.size + 1 + 1 + 1, w.heap.size + 1 + 1, rfl, Lib.hid ⟨by show _ = some (Obj.cells _ _ _); rw [HF.out]; exact f1, by show _ = some (Obj.cells _ _ _); rw [HG.out]; exact f3, f2, f0, by omega, f4.drew⟩⟩
         | exact ⟨w.heap.size + 1 + 1, w.heap.size + 1, w.heap.size + 1 + 1 + 1, rfl, Lib.hid ⟨by show _ = some (Obj.cells _ _ _); rw [HF.out]; exact f2, by show _ = some (Obj.cells _ _ _); rw [HG.out]; exact f1, f3, f0, by omega, f4.drew⟩⟩
         | exact ⟨w.heap.size + 1 + 1, w.heap.size + 1 + 1 + 1, w.heap.size + 1, rfl, Lib.hid ⟨by show _ = some (Obj.cells _ _ _); rw [HF.out]; exact f2, by show _ = some (Obj.cells _ _ _); rw [HG.out]; exact f3, f1, f0, by omega, f4.drew⟩⟩
         | exact ⟨w.heap.size + 1 + 1 + 1, w.heap.size + 1, w.heap.size + 1 + 1, rfl, Lib.hid ⟨by show _ = some (Obj.cells _ _ _); rw [HF.out]; exact f3, by show _ = some (Obj.cells _ _ _); rw [HG.out]; exact f1, f2, f0, by omega, f4.drew⟩⟩
         | exact ⟨w.heap.size + 1 + 1 + 1, w.heap.size + 1 + 1, w.heap.size + 1, rfl, Lib.hid ⟨by show _ = some (Obj.cells _ _ _); rw [HF.out]; exact f3, by show _ = some (Obj.cells _ _ _); rw [HG.out]; exact f2, f1, f0, by omega, f4.drew⟩⟩)
  case rest =>
    clear hm1 hm2
    obtain ⟨br, bo, B, rfl, HL⟩ := hcut
    have d2 := HL.out.l.cell (i := 2) rfl
    go_wp2
    go_loopw [18] (fun v wr => ∃ i : Nat, i ≤ n + 1 ∧ v = .int .i64 i ∧ Hid (LayI i w p c n wr br bo B)) (fun v _ => n + 1 - (intOf v).toNat)
    case atStart => exact ⟨0, Nat.zero_le _, rfl, HL⟩
    case round =>
      clear HL d2
      obtain ⟨i, hi, rfl, HL⟩ := hrel
      by_cases hlt : i < n + 1
      · have hltz : (i : Int) < n + 1 := by omega
        have d1 := HL.out.l.cell (i := 1) rfl
        have d2 := HL.out.l.cell (i := 2) rfl
        obtain ⟨⟨a, b⟩, hab⟩ : ∃ x, (layR i (n + 1))[i]? = some x := ⟨_, List.getElem?_eq_getElem (by simp [layR]; omega)⟩
        have d3 := HL.out.r.cell (flatR_get _ hab).1
        have d4 := HL.out.r.cell (flatR_get _ hab).2
        have d5 := HL.out.r.free (i * 2)
        have d6 := HL.out.r.free (i * 2 + 1)
        obtain ⟨v, hv⟩ : ∃ v, (zs (layO i (n + 1)))[i]? = some v := ⟨_, List.getElem?_eq_getElem (by simp [layO, zs]; omega)⟩
        have d7 := HL.out.q.cell hv
        have d8 := HL.out.q.free i
        have hne := HL.out.ne
        have hs := HL.out.step hlt
        have e1 : ((i + 1 : Nat) : Int) = (i : Int) + 1 := by omega
        rw [e1] at hs
        have HS := Lib.hid hs
        clear hab hv hs e1
        go_wp2
        go_roundw
        case rel => exact ⟨i + 1, by omega, by go_num, HS⟩
        case measure => simp [intOf]; omega
      · have hltz : ¬ (i : Int) < n + 1 := by omega
        obtain rfl : i = n + 1 := by omega
        have d0 := HL.out.l.cell (i := 0) rfl
        have d1 := HL.out.l.cell (i := 1) rfl
        have d2 := HL.out.l.cell (i := 2) rfl
        have e0 := HL.out.e.cell (i := 0) rfl
        have e1 := HL.out.e.cell (i := 1) rfl
        have e2 := HL.out.e.cell (i := 2) rfl
        have e3 := HL.out.e.free 0
        have e4 := HL.out.e.free 1
        have e5 := HL.out.e.free 2
        have hE := ((HL.out.e.set 0 (.slice p n c)).set 1 (.slice (some ⟨br, 0, none⟩) (n + 1) (n + 1))).set 2 (.slice (some ⟨bo, 0, none⟩) (n + 1) (n + 1))
        have HE := Lib.hid hE
        obtain ⟨n1, n2, n3, n4, n5, n6⟩ := HL.out.ne
        have HR := Lib.hid (EV.far (EV.far (EV.far HL.out.r (a := ⟨w.heap.size, 0, none⟩) (by show w.heap.size ≠ _; omega) (.slice p n c)) (a := ⟨w.heap.size, 1, none⟩) (by show w.heap.size ≠ _; omega) (.slice (some ⟨br, 0, none⟩) (n + 1) (n + 1))) (a := ⟨w.heap.size, 2, none⟩) (by show w.heap.size ≠ _; omega) (.slice (some ⟨bo, 0, none⟩) (n + 1) (n + 1)))
        have HQ := Lib.hid (((HL.out.q.far (a := ⟨w.heap.size, 0, none⟩) (by show w.heap.size ≠ _; omega) (.slice p n c)).far (a := ⟨w.heap.size, 1, none⟩) (by show w.heap.size ≠ _; omega) (.slice (some ⟨br, 0, none⟩) (n + 1) (n + 1))).far (a := ⟨w.heap.size, 2, none⟩) (by show w.heap.size ≠ _; omega) (.slice (some ⟨bo, 0, none⟩) (n + 1) (n + 1)))
        have HBB := Lib.hid (((HL.out.bel.setCell (p := ⟨w.heap.size, 0, none⟩) (Nat.le_refl _) (.slice p n c)).setCell (p := ⟨w.heap.size, 1, none⟩) (Nat.le_refl _) (.slice (some ⟨br, 0, none⟩) (n + 1) (n + 1))).setCell (p := ⟨w.heap.size, 2, none⟩) (Nat.le_refl _) (.slice (some ⟨bo, 0, none⟩) (n + 1) (n + 1)))
        clear hE n1 n2 n3 n5 n6
        go_wp2
        refine bodyPost_ret (results_cell_row (p := 2) (ty := 59) rfl _ _ w.heap.size _ _ _ lineD rfl HE.out (Option.some_get _).symm (by kernel_rfl) (by kernel_rfl)) rfl ?_
        exact ⟨_, rfl, br, bo, rfl, HR.out, HQ.out, by have := HL.out.ne; omega, by have := HL.out.ne; omega, n4, HBB.out⟩
end Go.Proofs.YtbpeoaceoefdpaaGreat.Iv
