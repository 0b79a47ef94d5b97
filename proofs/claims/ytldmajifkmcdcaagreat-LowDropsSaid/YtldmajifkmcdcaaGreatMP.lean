/-
  Boxes, records of five cells, in memory; a list of boxes that came in, opened. No condition but those typed at each theorem.
-/
import Derived.Test.YtldmajifkmcdcaaGreatP3
import Derived.Test.YtldmajifkmcdcaaGreatMLook
namespace Go.Proofs.YtldmajifkmcdcaaGreat
open Go.ChangeShapes Go.WideShapes Go.ChangeAt Go.RowKit Go.Joins
/-- a box and its name -/
abbrev B5 := B4 × Int
def bvs (n : B5) : List Value := [.int .i64 n.1.1, .int .i64 n.1.2.1, .int .i64 n.1.2.2.1, .int .i64 n.1.2.2.2, .int .u32 n.2]
def bv (n : B5) : Value := .agg #[.int .i64 n.1.1, .int .i64 n.1.2.1, .int .i64 n.1.2.2.1, .int .i64 n.1.2.2.2, .int .u32 n.2]
/-- from this place on a box lies -/
structure X1 (w : World) (b o : Nat) (n : B5) : Prop where
  c0 : w.cell? ⟨b, o, none⟩ = some (.int .i64 n.1.1)
  c1 : w.cell? ⟨b, o + 1, none⟩ = some (.int .i64 n.1.2.1)
  c2 : w.cell? ⟨b, o + 2, none⟩ = some (.int .i64 n.1.2.2.1)
  c3 : w.cell? ⟨b, o + 3, none⟩ = some (.int .i64 n.1.2.2.2)
  c4 : w.cell? ⟨b, o + 4, none⟩ = some (.int .u32 n.2)
theorem X1.lt {w : World} {b o : Nat} {n : B5} (h : X1 w b o n) : b < w.heap.size := World.block_lt_of_cell? w _ h.c0
theorem X1.block {w w' : World} {b o : Nat} {n : B5} (h : X1 w b o n) (hb : w'.heap[b]? = w.heap[b]?) : X1 w' b o n := by
  have k : ∀ i, w'.cell? ⟨b, i, none⟩ = w.cell? ⟨b, i, none⟩ := fun i => World.cell?_of_block (a := ⟨b, i, none⟩) hb
  exact ⟨(k _).trans h.c0, (k _).trans h.c1, (k _).trans h.c2, (k _).trans h.c3, (k _).trans h.c4⟩
theorem X1.keep {w w' : World} {b o N : Nat} {n : B5} (h : X1 w b o n) (hb : Below N w w') (hN : b < N) : X1 w' b o n := h.block (hb.block b hN)
theorem X1.off {w w' : World} {b o : Nat} {n : B5} {S : List Nat} (h : X1 w b o n) (hb : Off S w w') (hN : b ∉ S) : X1 w' b o n := h.block (hb.block b h.lt hN)
theorem X1.new (w : World) (n : B5) (t : TypeId) : X1 (w.alloc (.cells (bvs n).toArray t)) w.heap.size 0 n := by
  have k : ∀ i v, (bvs n)[i]? = some v → (w.alloc (.cells (bvs n).toArray t)).cell? ⟨w.heap.size, i, none⟩ = some v := fun i v e => by
    rw [World.cell?_alloc_new]
    simpa using e
  exact ⟨k 0 _ rfl, k 1 _ rfl, k 2 _ rfl, k 3 _ rfl, k 4 _ rfl⟩
end Go.Proofs.YtldmajifkmcdcaaGreat
/-
  The document's Sorted, Has, Drop. No condition but those typed at each theorem.
-/
namespace Go.Proofs.YtldmajifkmcdcaaGreat
open Go.RowKit
/-- one point in a block of its own -/
theorem td_at (W : World) (n : S3) (t : TypeId) : ∀ j u, (tvs n)[j]? = some u → (W.alloc (.cells (tvs n).toArray t)).cell? ((⟨W.heap.size, 0, none⟩ : Addr).add j) = some u := by
  intro j u hu
  rw [Addr.add_lit, Nat.zero_add, World.cell?_alloc_new]
  simpa using hu
set_option maxRecDepth 100000 in
set_option maxHeartbeats 3200000 in
theorem RDropP (w : World) (p : Option Addr) (c : Nat) (L : List S3) (s : S3) (hx : TsS w p L) (hl : L.length ≤ 8192) :
    Calls Tryz.prog 14 #[.slice p L.length c, tv s] w fun e w' => ∃ v, e = .returned (.tuple #[v, .bool (decide (s ∈ L))]) ∧ w'.ownsRow w.heap.size 34 3 v (drp L s).length (flatT (drp L s)) ∧ Below w.heap.size w w' := by
  have HX := Lib.hid hx
  obtain ⟨d, hd⟩ : ∃ d, d = L.length := ⟨_, rfl⟩
  have HD := Lib.hid hd
  rw [← hd] at hl ⊢
  clear hd hx
  have hne := neT
  obtain ⟨W, hW⟩ : ∃ W, W = w.alloc (.cells (tvs s).toArray 34) := ⟨_, rfl⟩
  have hWN := T1.new w s 34
  rw [← hW] at hWN
  have hWB : Below w.heap.size w W := by rw [hW]; exact (Below.refl _ w).alloc (Nat.le_refl _) _
  have HWN := Lib.hid hWN
  have HWB := Lib.hid hWB
  have HW := Lib.hid hW
  have HLW := Lib.hid hWN.lt
  clear hWN hWB hW
  obtain ⟨lo, h2, id⟩ := s
  unfold tv
  simp only
  go_enter Tryz.func14, Tryz.ntmps14
  go_upto_block 0 with fail
  rw [show w.alloc (.cells #[.int .i64 lo, .int .i64 h2, .int .u32 id] 34) = W from HW.out.symm]
  go_wp2
  go_loopw [6, 7] (fun v6 v7 wr => ∃ k : Nat, k ≤ d ∧ v7 = .int .i64 k ∧ (∃ q cq, v6 = .slice q (drp (L.take k) (lo, h2, id)).length cq) ∧ Hid (wr.ownsRow w.heap.size 34 3 v6 (drp (L.take k) (lo, h2, id)).length (flatT (drp (L.take k) (lo, h2, id)))) ∧ Hid (∀ b, v6.ownBlock = some b → w.heap.size < b) ∧ Hid (T1 wr w.heap.size 0 (lo, h2, id)) ∧ Hid (Below w.heap.size w wr)) (fun _ v _ => d - (intOf v).toNat)
  case atStart => exact ⟨0, Nat.zero_le _, rfl, ⟨none, 0, rfl⟩, Lib.hid (World.ownsRow_nil _ _ _ _), Lib.hid (fun b e => by cases e), HWN, HWB⟩
  case round =>
    clear HWN HWB
    obtain ⟨k, hk, rfl, ⟨q, cq, rfl⟩, HR, HNX, HN, HB⟩ := hrel
    by_cases hlt : k < d
    · have hltz : (k : Int) < d := by omega
      obtain ⟨y, hye⟩ : ∃ y, L[k]? = some y := ⟨_, List.getElem?_eq_getElem (by have := HD.out; omega)⟩
      rcases HX.out with h0 | ⟨b, off, rfl, h1⟩
      · rw [h0] at hye; simp at hye
      · have hs1 := (h1 k y hye).keep HB.out (h1 k y hye).lt
        have n0 := hs1.c0
        have n1 := hs1.c1
        have n2 := hs1.c2
        have m0 := HN.out.c0
        have m1 := HN.out.c1
        have m2 := HN.out.c2
        simp only [Nat.zero_add] at m0 m1 m2
        have HDS := Lib.hid (show drp (L.take (k + 1)) (lo, h2, id) = drp (L.take k) (lo, h2, id) ++ (if y = (lo, h2, id) then [] else [y]) by rw [List.take_add_one, hye]; exact drp_snoc _ _ _)
        obtain ⟨D, hD⟩ : ∃ D, D = drp (L.take k) (lo, h2, id) := ⟨_, rfl⟩
        have hDl : D.length ≤ k := by rw [hD]; exact Nat.le_trans (drp_len _ _) (by simp; omega)
        rw [← hD] at HR HNX HDS ⊢
        have HNL := Lib.hid HN.out.lt
        clear hD hs1 hye h1
        obtain ⟨l', h', i'⟩ := y
        simp only at n0 n1 n2
        by_cases he : (l', h', i') = (lo, h2, id)
        · have hdd : (!decide ((l', h', i') = (lo, h2, id))) = false := by rw [decide_eq_true he]; rfl
          obtain ⟨rfl, rfl, rfl⟩ : l' = lo ∧ h' = h2 ∧ i' = id := by simpa using he
          go_upto_region 5 with fail
          go_quiet (fail)
          go_wp2
          go_roundw
          case rel =>
            have h5 : drp (L.take (k + 1)) (l', h', i') = D := by rw [HDS.out, if_pos rfl, List.append_nil]
            exact ⟨k + 1, by omega, by go_num, ⟨q, cq, by rw [h5]⟩, Lib.hid (by rw [h5]; exact HR.out), HNX, Lib.hid ⟨HN.out.c0, HN.out.c1, HN.out.c2⟩, Lib.hid (drewB HB.out)⟩
          case measure => simp [intOf]; omega
        · have hdd : (!decide ((l', h', i') = (lo, h2, id))) = true := by rw [decide_eq_false he]; rfl
          go_upto_region 5 with fail
          go_quiet (fail)
          go_wp2_with (at_builtin; refine wpList_more Tryz.info34 rfl (by decide) (by decide) Tryz.underlying22 _ rfl (.tmp 20) (.tmp 25) rfl (.slice q D.length cq) D.length (flatT D) rfl (row_at (base' := 0) (World.ownsRow.alloc HR.out _) (fun _ _ => ⟨rfl, Nat.zero_le _⟩)) ⟨wr.heap.size, 0, none⟩ 1 1 (tvs (l', h', i')) rfl rfl (td_at wr (l', h', i') _) (tvs_one _) (by omega) (by decide) ?_; intro g1 c1 w1 h1 h2 h3; have H1 := Lib.hid h1; have HB1 := Lib.hid ((HB.out.alloc HB.out.size (.cells (tvs (l', h', i')).toArray 34)).grown ⟨h2.os, h2.tape, h2.output, h2.size, h2.block⟩ (by have := HB.out.size; simp; omega) (fun k e => (HR.out.lt k e).1)); have HG1 := Lib.hid (show w.heap.size ≤ g1 from h3.elim (fun e => (HR.out.lt _ e).1) (fun e => by have := HB.out.size; simp at e; omega)); have HGX := Lib.hid (show w.heap.size < g1 from h3.elim (fun e => HNX.out _ e) (fun e => by have := HNL.out; simp at e; omega)); have HN1 := Lib.hid (HN.out.block (w' := w1) ((h2.block w.heap.size (by have := HNL.out; simp; omega) (fun e => by have := (HR.out.lt _ e.symm); have := HNX.out _ e.symm; omega)).trans (Below.heap_alloc _ _ _ HNL.out))); clear h1 h2 h3)
          go_roundw
          case rel =>
            have h5 : drp (L.take (k + 1)) (lo, h2, id) = D ++ [(l', h', i')] := by rw [HDS.out, if_neg he]
            refine ⟨k + 1, by omega, by go_num, ⟨some ⟨g1, 0, none⟩, c1, by rw [h5]; simp⟩, Lib.hid ?_, Lib.hid (fun b e => by simp [Value.ownBlock] at e; subst e; exact HGX.out), HN1, HB1⟩
            rw [h5, flatT_snoc]
            have h := row_at (base' := w.heap.size) H1.out (fun q e => ⟨rfl, by simp [Value.ownBlock] at e; subst e; exact HG1.out⟩)
            simpa using h
          case measure => simp [intOf]; omega
    · obtain rfl : k = d := by omega
      have hltz : ¬ (k : Int) < k := by omega
      have hR := HR.out
      rw [List.take_of_length_le (by have := HD.out; omega)] at hR ⊢
      have hlen := drp_len L (lo, h2, id)
      have hless := drp_less (A := L) (s := (lo, h2, id))
      rw [← HD.out] at hlen hless
      have HRR := Lib.hid hR
      clear hR HR HNX
      by_cases hs : (lo, h2, id) ∈ L
      · have hz : ((drp L (lo, h2, id)).length : Int) < k := by have := hless.2 hs; omega
        have HS := Lib.hid hs
        clear hless hs
        go_wp2
        go_ret2
        refine ⟨_, ?_, HRR.out, HB.out⟩
        rw [decide_eq_true HS.out]
        rfl
      · have hz : ¬ ((drp L (lo, h2, id)).length : Int) < k := fun h => hs (hless.1 (by omega))
        have HS := Lib.hid hs
        clear hless hs
        go_wp2
        go_ret2
        refine ⟨_, ?_, HRR.out, HB.out⟩
        rw [decide_eq_false HS.out]
        rfl
end Go.Proofs.YtldmajifkmcdcaaGreat
/-
  Small tools of layer 10's laws: min, slices cut. No condition but those typed at each theorem.
-/
namespace Go.Proofs.YtldmajifkmcdcaaGreat
open Go.ChangeShapes Go.WideShapes Go.ChangeAt Go.RowKit Go.Joins
theorem Tryz.info5 : (Tryz.prog.info? 5).map (fun i => (i.zero, i.size, i.bytes)) = some (some (.int .u8 0), 1, 1) := by kernel_rfl
theorem min12 (X : World) (ty : TypeId) (n : Nat) (k : Int) (hk : k = ((min n 12 : Nat) : Int)) : (Builtin.min_ #[3, 3] ty #[.int .i64 n, .int .i64 12]).run Tryz.prog X = .ok (.int .i64 k) X := by
  subst hk
  by_cases h : n ≤ 12
  · have h2 : ¬ (12 : Int) < n := by omega
    simp [Builtin.min_, Builtin.min2, go_sem, Nat.min_eq_left h, h2]
  · have h2 : (12 : Int) < n := by omega
    simp [Builtin.min_, Builtin.min2, go_sem, Nat.min_eq_right (by omega : 12 ≤ n), h2]
theorem min20 (X : World) (ty : TypeId) (n : Nat) (k : Int) (hk : k = ((min n 20 : Nat) : Int)) : (Builtin.min_ #[3, 3] ty #[.int .i64 n, .int .i64 20]).run Tryz.prog X = .ok (.int .i64 k) X := by
  subst hk
  by_cases h : n ≤ 20
  · have h2 : ¬ (20 : Int) < n := by omega
    simp [Builtin.min_, Builtin.min2, go_sem, Nat.min_eq_left h, h2]
  · have h2 : (20 : Int) < n := by omega
    simp [Builtin.min_, Builtin.min2, go_sem, Nat.min_eq_right (by omega : 20 ≤ n), h2]
theorem min100 (X : World) (ty : TypeId) (n : Nat) (k : Int) (hk : k = ((min n 100 : Nat) : Int)) : (Builtin.min_ #[3, 3] ty #[.int .i64 n, .int .i64 100]).run Tryz.prog X = .ok (.int .i64 k) X := by
  subst hk
  by_cases h : n ≤ 100
  · have h2 : ¬ (100 : Int) < n := by omega
    simp [Builtin.min_, Builtin.min2, go_sem, Nat.min_eq_left h, h2]
  · have h2 : (100 : Int) < n := by omega
    simp [Builtin.min_, Builtin.min2, go_sem, Nat.min_eq_right (by omega : 100 ≤ n), h2]
theorem slP_to (X : World) (p : Option Addr) (n c h : Nat) (hm : h ≤ c) : (Instr.slice 22 (.slice p n c) none (some (.int .i64 h)) none).run Tryz.prog X = .ok (.slice p h c) X := by
  obtain ⟨i0, hi, hz0, hz1, hz2⟩ := info_parts Tryz.info34
  simp [Instr.slice, run_underlying Tryz.underlying22, Instr.sliceBounds, Instr.sliceBound, asIntOf, sizeOf, typeInfo, hi, hm]
  cases p <;> simp [Addr.add_zero']
theorem slB_to (X : World) (p : Option Addr) (n c h : Nat) (hm : h ≤ c) : (Instr.slice 39 (.slice p n c) none (some (.int .i64 h)) none).run Tryz.prog X = .ok (.slice p h c) X := by
  obtain ⟨i0, hi, hz0, hz1, hz2⟩ := info_parts Tryz.info5
  simp [Instr.slice, run_underlying Tryz.underlying39, Instr.sliceBounds, Instr.sliceBound, asIntOf, sizeOf, typeInfo, hi, hm]
  cases p <;> simp [Addr.add_zero']
theorem row_sp {w : World} {base : Nat} {v : Value} {L : List S3} {t : TypeId} (h : w.ownsRow base t 3 v L.length (flatT L)) : ∃ p c, v = .slice p L.length c ∧ TsS w p L ∧ L.length ≤ c ∧ (p = none → c = 0) := by
  obtain ⟨-, p, c, e, h2, h4, h3, -⟩ := row_ts h
  exact ⟨p, c, e, h2, h3, fun h => (h4 h).1⟩
theorem i64_range {x : Int} (h : (Lit.int .i64 x).wf = true) : -9223372036854775808 ≤ x ∧ x ≤ 9223372036854775807 := by
  simpa [Lit.wf, show IntKind.i64.min = -9223372036854775808 from rfl, show IntKind.i64.max = 9223372036854775807 from rfl] using h
end Go.Proofs.YtldmajifkmcdcaaGreat
/-
  What is asked of a tree of points, whatever it is made of. No condition but those typed at each theorem.
-/
namespace Go.Proofs.YtldmajifkmcdcaaGreat
open Go.RowKit
/-- v is a slice with these names -/
def RL (w : World) (v : Value) (xs : List Int) : Prop := ∃ p c, v = .slice p xs.length c ∧ NS w p .u32 xs ∧ (p = none → c = 0) ∧ xs.length ≤ c
/-- what Build hands back: a tree, and no error; or an error, and a tree of nothing -/
def Built (TS : World → Value → Nat → List Nat → List S3 → Prop) (w : World) (L : List S3) (e : Ending) (w' : World) : Prop :=
  Below w.heap.size w w' ∧ ((Rg L ∧ ∃ v S, e = .returned (.tuple #[v, .int .i64 0]) ∧ TS w' v L.length S L ∧ ∀ k ∈ S, w.heap.size ≤ k) ∨ (¬ Rg L ∧ ∃ v S, e = .returned (.tuple #[v, .int .i64 2]) ∧ TS w' v 0 S [] ∧ ∀ k ∈ S, w.heap.size ≤ k))
section
variable {TS : World → Value → Nat → List Nat → List S3 → Prop} {X X' : World} {v : Value} {n : Nat} {S : List Nat} {A : List S3}
end
end Go.Proofs.YtldmajifkmcdcaaGreat
