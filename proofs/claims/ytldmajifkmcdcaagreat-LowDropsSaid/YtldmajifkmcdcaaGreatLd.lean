/-
  LowDrops: dropped one by one, the lowest one first, all points come in the order in which they were told at first; over any tree that tells the lowest.
-/
import Derived.Test.YtldmajifkmcdcaaGreatLq
import Derived.Test.YtldmajifkmcdcaaGreatMQ
namespace Go.Proofs.YtldmajifkmcdcaaGreat.Lw
open Go.ChangeShapes Go.WideShapes Go.ChangeAt Go.RowKit Go.Joins
theorem drp_perm {A : List S3} {s : S3} (hd : A.Nodup) (hs : s ∈ A) : A.Perm (s :: drp A s) := by
  induction A with
  | nil => cases hs
  | cons a A ih =>
    obtain ⟨h1, h2⟩ := List.nodup_cons.1 hd
    unfold drp
    by_cases e : a = s
    · subst e
      rw [List.filter_cons, if_neg (by simp), List.filter_eq_self.2 (fun x hx => show decide (x ≠ a) = true from decide_eq_true (fun e => h1 (e ▸ hx)))]
    · rw [List.filter_cons, if_pos (decide_eq_true e)]
      rcases List.mem_cons.1 hs with rfl | hs
      · exact absurd rfl e
      · exact ((ih h2 hs).cons a).trans (List.Perm.swap s a _)
theorem drp_none {A : List S3} {s : S3} (h : s ∉ A) : drp A s = A := List.filter_eq_self.2 (fun x hx => show decide (x ≠ s) = true from decide_eq_true (fun e => h (e ▸ hx)))
/-- without the lowest one the others are left -/
theorem lw_tail {A : List S3} (hr : Rg A) {x1 x2 : Int} {s : S3} {k : List S3} (h : lwL x1 x2 A = s :: k) : s ∈ A ∧ lwL x1 x2 (drp A s) = k ∧ (drp A s).length + 1 = A.length ∧ s ∉ drp A s := by
  obtain ⟨⟨h1, h2, h3⟩, -⟩ := lw_head hr h
  have hp := drp_perm hr.once h1
  refine ⟨h1, ?_, by have := hp.length_eq; simpa using this.symm, fun h4 => by simp [drp] at h4⟩
  have hf := hp.filter (inX x1 x2)
  rw [List.filter_cons, if_pos (by simp [inX, h2, h3])] at hf
  have hk : (s :: (drp A s).filter (inX x1 x2)).Perm (s :: k) := hf.symm.trans ((psort_perm _).symm.trans (by show (lwL x1 x2 A).Perm _; rw [h]))
  have hkk := hk.cons_inv
  have hu := psort_up (A.filter (inX x1 x2))
  have hu2 : Up (s :: k) := by rw [← h]; exact hu
  have hrg : Rg (drp A s) := hr.sub List.filter_sublist
  exact up_unique ((psort_perm _).trans hkk) ((hrg.sub List.filter_sublist).perm (psort_perm _).symm) (psort_up _) (List.pairwise_cons.1 hu2).2
/-- a list of points cut at its beginning -/
theorem slP_from (p : Option Addr) (n c l : Nat) (L : List S3) (w : World) (h : TsS w p L) (hn : n = L.length) (hl : l ≤ n) (hc : n ≤ c) : ∃ p', (∀ X, (Instr.slice 22 (.slice p n c) (some (.int .i64 l)) none none).run Tryz.prog X = .ok (.slice p' (n - l) (c - l)) X) ∧ TsS w p' (L.drop l) := by
  obtain ⟨i0, hi, hz0, hz1, hz2⟩ := info_parts Tryz.info34
  rcases h with rfl | ⟨b, off, rfl, h⟩
  · obtain rfl : n = 0 := hn
    obtain rfl : l = 0 := by omega
    cases p with
    | none => exact ⟨none, fun X => by simp [Instr.slice, run_underlying Tryz.underlying22, Instr.sliceBounds, Instr.sliceBound, asIntOf, sizeOf, typeInfo, hi], .inl rfl⟩
    | some a =>
      by_cases h0 : c = 0
      · subst h0
        exact ⟨some a, fun X => by simp [Instr.slice, run_underlying Tryz.underlying22, Instr.sliceBounds, Instr.sliceBound, asIntOf, sizeOf, typeInfo, hi], .inl rfl⟩
      · refine ⟨some a, fun X => ?_, .inl rfl⟩
        simp [Instr.slice, run_underlying Tryz.underlying22, Instr.sliceBounds, Instr.sliceBound, asIntOf, sizeOf, typeInfo, hi, Addr.add_zero']
  · by_cases h3 : c = l
    · refine ⟨some ⟨b, off, none⟩, fun X => ?_, .inl (by rw [List.drop_eq_nil_iff]; omega)⟩
      subst h3
      simp [Instr.slice, run_underlying Tryz.underlying22, Instr.sliceBounds, Instr.sliceBound, asIntOf, sizeOf, typeInfo, hi, hl, hc]
    · refine ⟨some ⟨b, off + l * 3, none⟩, fun X => ?_, .inr ⟨b, off + l * 3, rfl, fun j s e => ?_⟩⟩
      · simp [Instr.slice, run_underlying Tryz.underlying22, Instr.sliceBounds, Instr.sliceBound, asIntOf, sizeOf, typeInfo, hi, hz1, hl, h3, Addr.add_lit]
      · rw [List.getElem?_drop] at e
        have := h (l + j) s e
        rwa [Nat.add_mul, ← Nat.add_assoc] at this
theorem lows_all {TS : World → Value → Nat → List Nat → List S3 → Prop} {X : World} {v : Value} {n : Nat} {S : List Nat} {A : List S3} (C : LowC TS) (h : TS X v n S A) (x1 x2 k : Int) (h1 : (Lit.int .i64 x1).wf = true) (h2 : (Lit.int .i64 x2).wf = true) (h3 : (Lit.int .i64 k).wf = true) (hk : (n : Int) ≤ k) {W : List S3} (hW : lwL x1 x2 A = W) :
    Calls Tryz.prog 18 #[v, .int .i64 x1, .int .i64 x2, .int .i64 k] X fun e X' => (∃ q c, ∃ t : Nat, e = .returned (.tuple #[.slice q W.length c, .int .i64 t]) ∧ TsS X' q W ∧ W.length ≤ c ∧ ∀ b, q = some b → X.heap.size ≤ b.block) ∧ Below X.heap.size X X' := by
  have hf := (C.few h).1
  have hl := lwL_len x1 x2 A
  have := C.lows x1 x2 k h h1 h2 h3
  rw [List.take_of_length_le (by omega), hW] at this
  refine this.mono ?_
  rintro e X' ⟨⟨r, t, rfl, ⟨⟨q, c, rfl, hq, -, hc, -⟩, hn⟩, -, -⟩, hb⟩
  exact ⟨⟨q, c, t, rfl, hq, hc, fun b e => hn b W.length c (by rw [e])⟩, hb⟩
set_option maxRecDepth 100000 in
set_option maxHeartbeats 12800000 in
theorem drops_walk {TS : World → Value → Nat → List Nat → List S3 → Prop} (C : LowC TS) (w : World) (p : Option Addr) (c : Nat) (L : List S3) (x1 x2 : Int) (hx : TsS w p L) (hc : L.length ≤ c) (hp : p = none → c = 0) (hw : ∀ s ∈ L, Wf3 s) (hw1 : (Lit.int .i64 x1).wf = true) (hw2 : (Lit.int .i64 x2).wf = true) :
    Calls Tryz.prog 8 #[.slice p L.length c, .int .i64 x1, .int .i64 x2] w fun e w' => e = .returned (.bool true) ∧ Below w.heap.size w w' := by
  have HAW := Lib.hid (awake_any C)
  by_cases hbig : L.length ≤ 60
  · have hbz : ¬ (60 : Int) < L.length := by omega
    have HBU := Lib.hid (C.build w p c L hx (by omega) hc hp hw)
    have HWF := Lib.hid hw
    obtain ⟨m, hmm⟩ : ∃ m, m = L.length := ⟨_, rfl⟩
    have HM := Lib.hid hmm
    rw [← hmm] at HBU hbz hbig ⊢
    clear hx hc hp hw hmm
    by_cases hrg : Rg L
    · obtain ⟨W, hW⟩ : ∃ W, W = lwL x1 x2 L := ⟨_, rfl⟩
      have HWW := Lib.hid hW
      have hWl : W.length ≤ m := by rw [hW, HM.out]; exact lwL_len _ _ _
      have hw3 : (Lit.int .i64 ((m : Int) + 1)).wf = true := by simp [Lit.wf, show IntKind.i64.min = -9223372036854775808 from rfl, show IntKind.i64.max = 9223372036854775807 from rfl]; omega
      have HLS := Lib.hid (fun X v S A Z (h : TS X v m S A) (hZ : lwL x1 x2 A = Z) => lows_all C h x1 x2 ((m : Int) + 1) hw1 hw2 hw3 (by omega) hZ)
      have HLO := Lib.hid (fun X v S A p0 p1 p2 pb (h : TS X v m S A) (hf : fstL (lwL x1 x2 A) = (.agg #[.int .i64 p0, .int .i64 p1, .int .u32 p2], pb)) => lowest_is C h x1 x2 hw1 hw2 hf)
      have HSUB := Lib.hid (show ∀ A : List S3, (∀ s ∈ A, s ∈ L) → ∀ s ∈ A, Wf3 s from fun A h s hs => HWF.out s (h s hs))
      clear hW hw1 hw2 hw3
      go_enter Tryz.func8, Tryz.ntmps8
      go_upto_region 7 with (first
        | (go_at_call 10; (with_reducible refine HBU.out.mono ?_); rintro e w1 ⟨hb, hor⟩; rcases hor with ⟨-, v, S, rfl, hT, hS⟩ | ⟨hn', -⟩; rotate_left; (exact absurd hrg hn'); rw [← HM.out] at hT; have HT := Lib.hid hT; have HB := Lib.hid hb; have HSS := Lib.hid hS; clear hb hT hS)
        | (go_at_call 18; (with_reducible refine (HLS.out _ _ _ _ W HT.out HWW.out.symm).mono ?_); rintro e w2 ⟨⟨q1, c1, t1, rfl, hts, hcl, hnew⟩, hb⟩; have HTW := Lib.hid hts; have HDJ := Lib.hid (show ∀ b, q1 = some b → b.block ∉ S from fun b e h => by have := hnew b e; have := C.lies HT.out _ h; omega); have HT := Lib.hid (C.bel HT.out hb); have HB := Lib.hid (HB.out.trans (hb.mono HB.out.size)); clear hb hts hnew))
      obtain ⟨wl, hwl⟩ : ∃ wl, wl = W.length := ⟨_, rfl⟩
      have HWL := Lib.hid hwl
      rw [← hwl] at hWl hcl ⊢
      clear hwl HBU
      have HTx := HT
      go_wp2
      go_loopw [44] (fun v44 wr => ∃ (k : Nat) (S : List Nat) (A : List S3), k ≤ wl ∧ v44 = .int .i64 k ∧ Hid (TS wr v m S A) ∧ Hid (lwL x1 x2 A = W.drop k) ∧ Hid (A.length + k = m) ∧ Hid (∀ b ∈ S, w.heap.size ≤ b) ∧ Hid (∀ b, q1 = some b → b.block ∉ S) ∧ Hid (TsS wr q1 W) ∧ Hid (Below w.heap.size w wr)) (fun i _ => wl - (intOf i).toNat)
      case atStart => exact ⟨0, S, L, Nat.zero_le _, rfl, HT, Lib.hid HWW.out.symm, Lib.hid HM.out.symm, HSS, HDJ, HTW, HB⟩
      case round =>
        clear HT HTx HSS HDJ HTW HB
        obtain ⟨k, S, A, hk, rfl, HT, HA, HAL, HSS, HDJ, HTW, HB⟩ := hrel
        have HRA := Lib.hid (C.few HT.out).2.2.1
        by_cases hlt : k < wl
        · have hltz : (k : Int) < wl := by omega
          obtain ⟨s, hse⟩ : ∃ s, W[k]? = some s := ⟨_, List.getElem?_eq_getElem (by have := HWL.out; omega)⟩
          have hAc : lwL x1 x2 A = s :: W.drop (k + 1) := by
            obtain ⟨h1, h2⟩ := List.getElem?_eq_some_iff.1 hse
            rw [HA.out, List.drop_eq_getElem_cons h1, h2]
          have HTL := Lib.hid (lw_tail HRA.out hAc)
          have HWS := Lib.hid ((C.few HT.out).2.2.2 s HTL.out.1)
          obtain ⟨p', hsl, hts'⟩ := slP_from q1 wl c1 k W wr HTW.out HWL.out hk hcl
          obtain ⟨b1, o1, rfl, hs1⟩ := HTW.out.at hse
          have HT1 := Lib.hid hs1
          have HW0 := Lib.hid (show W ≠ [] from fun h => by rw [h] at hse; simp at hse)
          have HTD := Lib.hid hts'
          have hdl : (W.drop k).length = wl - k := by rw [List.length_drop, ← HWL.out]
          have HDL := Lib.hid hdl
          obtain ⟨s0, s1, s2⟩ := s
          have HF := Lib.hid (show fstL (lwL x1 x2 A) = (.agg #[.int .i64 s0, .int .i64 s1, .int .u32 s2], true) from congrArg fstL hAc)
          have n0 := hs1.c0
          have n1 := hs1.c1
          have n2 := hs1.c2
          simp only at n0 n1 n2
          clear hse hAc hts' hs1 hdl
          go_upto_region 12 with (first
            | (go_at_call 17; (with_reducible refine (HLO.out _ _ _ _ _ _ _ _ HT.out HF.out).mono ?_); rintro e w3 ⟨⟨t3, rfl⟩, hb⟩; have HPS := Lib.hid (show w3.heap.size ∉ S from fun h => by have := C.lies HT.out _ h; have := Below.size hb; omega); have HN := Lib.hid (T1.new w3 (s0, s1, s2) 34); have hb := hb.alloc (Below.size hb) (.cells #[.int .i64 s0, .int .i64 s1, .int .u32 s2] 34); have HT := Lib.hid (C.bel HT.out hb); have HT1 := Lib.hid (HT1.out.keep hb HT1.out.lt); have HTW := Lib.hid (HTW.out.keep hb); have HTD := Lib.hid (HTD.out.keep hb); have HB := Lib.hid (HB.out.trans (hb.mono HB.out.size)); clear hb)
            | (go_at_call 18; (with_reducible refine (HLS.out _ _ _ _ _ HT.out HA.out).mono ?_); rintro e w4 ⟨⟨q2, c2, t4, rfl, hts, -, -⟩, hb⟩; have HTR := Lib.hid hts; have HN := Lib.hid (HN.out.keep hb HN.out.lt); have HT := Lib.hid (C.bel HT.out hb); have HT1 := Lib.hid (HT1.out.keep hb HT1.out.lt); have HTW := Lib.hid (HTW.out.keep hb); have HTD := Lib.hid (HTD.out.keep hb); have HB := Lib.hid (HB.out.trans (hb.mono HB.out.size)); clear hb hts))
          rw [← HWL.out]
          have hdd : (!decide ((s0, s1, s2) = (s0, s1, s2))) = false := by simp
          have hnT := neT
          have hwl8 : wl - k ≤ 8192 := by omega
          clear n0 n1 n2
          refine G2.wp_region_qk Bw (fun w => Below.refl _ w) [15, 21, 27] (by kernel_rfl) (by kernel_rfl) ?_
          have hd := (Below.refl w4.heap.size w4).drew
          have HT := Lib.hid (C.bel HT.out hd)
          have HN := Lib.hid (HN.out.keep hd HN.out.lt)
          have HT1 := Lib.hid (HT1.out.keep hd HT1.out.lt)
          have HTW := Lib.hid (HTW.out.keep hd)
          have HTD := Lib.hid (HTD.out.keep hd)
          have HTR := Lib.hid (HTR.out.keep hd)
          have HB := Lib.hid (HB.out.trans (Below.mono hd HB.out.size))
          clear hd
          generalize w4.drew = X4 at *
          refine G2.callsH_cons ?_
          simp only [Nat.reduceSub, Nat.reduceAdd, List.take_succ_cons, List.take_zero, List.drop_succ_cons, List.drop_zero]
          have inst : Nonempty (Wd (Bw X4)) := ⟨⟨X4, Below.refl _ _⟩⟩
          have i0 : ∀ z : Wd (Bw X4), z.w.cell? ⟨w3.heap.size, 0, none⟩ = _ := fun z => Bw.cell z HN.out.c0
          have i1 : ∀ z : Wd (Bw X4), z.w.cell? ⟨w3.heap.size, 1, none⟩ = _ := fun z => Bw.cell z HN.out.c1
          have i2 : ∀ z : Wd (Bw X4), z.w.cell? ⟨w3.heap.size, 2, none⟩ = _ := fun z => Bw.cell z HN.out.c2
          have j0 : ∀ z : Wd (Bw X4), z.w.cell? ⟨b1, o1 + k * 3, none⟩ = _ := fun z => Bw.cell z HT1.out.c0
          have j1 : ∀ z : Wd (Bw X4), z.w.cell? ⟨b1, o1 + k * 3 + 1, none⟩ = _ := fun z => Bw.cell z HT1.out.c1
          have j2 : ∀ z : Wd (Bw X4), z.w.cell? ⟨b1, o1 + k * 3 + 2, none⟩ = _ := fun z => Bw.cell z HT1.out.c2
          simp only at i0 i1 i2 j0 j1 j2
          repeat (first | go_big_quiet_step (fail) | quiet_step (fail))
          refine wpQuiet_nil ?_
          rintro _ ⟨z, rfl⟩
          refine G2.gOp_val rfl rfl (v := .slice p' (wl - k) (c1 - k)) (w' := z.w) ?_ ?_
          · simp [execOp, Act.eval, go_sem, hsl]
          refine ⟨⟨z, rfl⟩, ?_⟩
          refine G2.gOp_call rfl rfl (f := 19) (args := #[.slice q2 (wl - k) c2, .slice p' (wl - k) (c1 - k)]) ?_ ?_
          · simp [execOp, resolve, invoke, Act.eval, Deferred.ofValue, go_sem]
          have hsame := same_any z.w q2 p' c2 (c1 - k) (W.drop k) (W.drop k) (HTR.out.keep z.h) (HTD.out.keep z.h) (by rw [HDL.out]; exact hwl8)
          rw [decide_eq_true rfl, HDL.out] at hsame
          refine hsame.mono ?_
          rintro e w5 ⟨rfl, hb⟩
          refine ⟨_, rfl, ?_⟩
          have hb5 := Below.trans z.h (hb.mono (Below.size z.h))
          have HT := Lib.hid (C.bel HT.out hb5)
          have HN := Lib.hid (HN.out.keep hb5 HN.out.lt)
          have HTW := Lib.hid (HTW.out.keep hb5)
          have HB := Lib.hid (HB.out.trans (Below.mono hb5 HB.out.size))
          clear hb hb5 hsame z i0 i1 i2 j0 j1 j2 inst HTD HTR HT1
          refine G2.callsH_cons ?_
          simp only [Nat.reduceSub, Nat.reduceAdd, List.take_succ_cons, List.take_zero, List.drop_succ_cons, List.drop_zero]
          have inst : Nonempty (Wd (Bw w5)) := ⟨⟨w5, Below.refl _ _⟩⟩
          have i0 : ∀ z : Wd (Bw w5), z.w.cell? ⟨w3.heap.size, 0, none⟩ = _ := fun z => Bw.cell z HN.out.c0
          have i1 : ∀ z : Wd (Bw w5), z.w.cell? ⟨w3.heap.size, 1, none⟩ = _ := fun z => Bw.cell z HN.out.c1
          have i2 : ∀ z : Wd (Bw w5), z.w.cell? ⟨w3.heap.size, 2, none⟩ = _ := fun z => Bw.cell z HN.out.c2
          simp only at i0 i1 i2
          repeat (first | go_big_quiet_step (fail) | quiet_step (fail))
          refine wpQuiet_nil ?_
          rintro _ ⟨z, rfl⟩
          have l0 := i0 z
          have l1 := i1 z
          have l2 := i2 z
          refine G2.gOp_val rfl rfl (v := .agg #[.int .i64 s0, .int .i64 s1, .int .u32 s2]) (w' := z.w) ?_ ?_
          · simp [execOp, Act.eval, go_sem, l0, l1, l2]
          refine ⟨⟨z, rfl⟩, ?_⟩
          clear l0 l1 l2
          refine G2.gOp_call rfl rfl (f := 15) (args := #[v, .agg #[.int .i64 s0, .int .i64 s1, .int .u32 s2]]) ?_ ?_
          · simp [execOp, resolve, invoke, Act.eval, Deferred.ofValue, go_sem]
          have hdr := C.drop (s0, s1, s2) (C.bel HT.out z.h) HWS.out
          rw [decide_eq_true HTL.out.1] at hdr
          refine hdr.mono ?_
          rintro e w6 ⟨rfl, S6, hT6, hO6, hS6⟩
          refine ⟨_, rfl, ?_⟩
          have HN := Lib.hid (HN.out.keep z.h HN.out.lt)
          have HTW := Lib.hid (HTW.out.keep z.h)
          have HB := Lib.hid (HB.out.trans (Below.mono z.h HB.out.size))
          have HPS6 := Lib.hid (show w3.heap.size ∉ S6 from fun h => (hS6 _ h).elim HPS.out (fun h => by have := HN.out.lt; omega))
          have HDJ6 := Lib.hid (show b1 ∉ S6 from fun h => (hS6 _ h).elim (HDJ.out _ rfl) (fun h => by have := HTW.out.lt (HW0.out); omega))
          have HSS6 := Lib.hid (show ∀ b ∈ S6, w.heap.size ≤ b from fun b hb => (hS6 b hb).elim (HSS.out b) (Nat.le_trans HB.out.size))
          have HN := Lib.hid (HN.out.off hO6 HPS.out)
          have HTW := Lib.hid (HTW.out.off hO6 (fun b off e _ => by cases e; exact HDJ.out _ rfl))
          have HB := Lib.hid (HB.out.trans (hO6.below (N := w.heap.size) HB.out.size HSS.out))
          have HT := Lib.hid hT6
          clear hT6 hO6 hS6 hdr i0 i1 i2 inst HSS HDJ HPS
          refine G2.callsH_cons ?_
          simp only [Nat.reduceSub, Nat.reduceAdd, List.take_succ_cons, List.take_zero, List.drop_succ_cons, List.drop_zero]
          have inst : Nonempty (Wd (Bw w6)) := ⟨⟨w6, Below.refl _ _⟩⟩
          have i0 : ∀ z : Wd (Bw w6), z.w.cell? ⟨w3.heap.size, 0, none⟩ = _ := fun z => Bw.cell z HN.out.c0
          have i1 : ∀ z : Wd (Bw w6), z.w.cell? ⟨w3.heap.size, 1, none⟩ = _ := fun z => Bw.cell z HN.out.c1
          have i2 : ∀ z : Wd (Bw w6), z.w.cell? ⟨w3.heap.size, 2, none⟩ = _ := fun z => Bw.cell z HN.out.c2
          simp only at i0 i1 i2
          repeat (first | go_big_quiet_step (fail) | quiet_step (fail))
          refine wpQuiet_nil ?_
          rintro _ ⟨z, rfl⟩
          have l0 := i0 z
          have l1 := i1 z
          have l2 := i2 z
          refine G2.gOp_val rfl rfl (v := .agg #[.int .i64 s0, .int .i64 s1, .int .u32 s2]) (w' := z.w) ?_ ?_
          · simp [execOp, Act.eval, go_sem, l0, l1, l2]
          refine ⟨⟨z, rfl⟩, ?_⟩
          clear l0 l1 l2
          refine G2.gOp_call rfl rfl (f := 15) (args := #[v, .agg #[.int .i64 s0, .int .i64 s1, .int .u32 s2]]) ?_ ?_
          · simp [execOp, resolve, invoke, Act.eval, Deferred.ofValue, go_sem]
          have hdr := C.drop (s0, s1, s2) (C.bel HT.out z.h) HWS.out
          rw [decide_eq_false HTL.out.2.2.2] at hdr
          rw [drp_none HTL.out.2.2.2] at hdr
          refine hdr.mono ?_
          rintro e w7 ⟨rfl, S7, hT7, hO7, hS7⟩
          refine ⟨_, rfl, ?_⟩
          have HTW := Lib.hid (HTW.out.keep z.h)
          have HB := Lib.hid (HB.out.trans (Below.mono z.h HB.out.size))
          have HD7 := Lib.hid (show b1 ∉ S7 from fun h => (hS7 b1 h).elim HDJ6.out (fun h2 => by have := HTW.out.lt HW0.out; omega))
          have HDJ7 := Lib.hid (show ∀ b, some (⟨b1, o1, none⟩ : Addr) = some b → b.block ∉ S7 from fun b e => by cases e; exact HD7.out)
          have HSS7 := Lib.hid (show ∀ b ∈ S7, w.heap.size ≤ b from fun b hb => (hS7 b hb).elim (HSS6.out b) (Nat.le_trans HB.out.size))
          have HTW := Lib.hid (HTW.out.off hO7 (fun b off e _ => by cases e; exact HDJ6.out))
          have HB := Lib.hid (HB.out.trans (hO7.below (N := w.heap.size) HB.out.size HSS6.out))
          have HT := Lib.hid hT7
          have HA2 := Lib.hid HTL.out.2.1
          have HAL2 := Lib.hid (show (drp A (s0, s1, s2)).length + (k + 1) = m by have := HTL.out.2.2.1; have := HAL.out; omega)
          clear hT7 hO7 hS7 hdr i0 i1 i2 inst
          refine G2.callsH_nil ?_
          have inst : Nonempty (Wd (Bw w7)) := ⟨⟨w7, Below.refl _ _⟩⟩
          repeat (first | go_big_quiet_step (fail) | quiet_step (fail))
          refine wpQuiet_nil ?_
          go_wp2
          go_roundw
          case rel => exact ⟨k + 1, S7, drp A (s0, s1, s2), by omega, by go_num, HT, HA2, HAL2, HSS7, HDJ7, HTW, HB⟩
          case measure => simp [intOf]; omega
        · obtain rfl : k = wl := by omega
          have hltz : ¬ (k : Int) < k := by omega
          have HF := Lib.hid (show fstL (lwL x1 x2 A) = (.agg #[.int .i64 0, .int .i64 0, .int .u32 0], false) by rw [HA.out, List.drop_of_length_le (by have := HWL.out; omega)]; rfl)
          have HLE := Lib.hid (fun X (h : TS X v m S A) => C.len h)
          have hle : (A.length : Int) = (m : Int) - (k : Int) := by have := HAL.out; omega
          obtain ⟨al, hal⟩ : ∃ al, al = A.length := ⟨_, rfl⟩
          rw [← hal] at HLE hle
          have hka : k ≤ m := by omega
          clear hal
          go_wp2_with (first
            | (go_at_call 17; (with_reducible refine (HLO.out _ _ _ _ _ _ _ _ HT.out HF.out).mono ?_); rintro e w3 ⟨⟨t3, rfl⟩, hb⟩; have hb := hb.alloc (Below.size hb) (.cells #[.int .i64 0, .int .i64 0, .int .u32 0] 34); have HT := Lib.hid (C.bel HT.out hb); have HB := Lib.hid (HB.out.trans (hb.mono HB.out.size)); clear hb)
            | (go_at_call 12; (with_reducible refine (HLE.out _ HT.out).mono ?_); rintro e w10 ⟨rfl, hb⟩; have HB := Lib.hid (HB.out.trans (hb.mono HB.out.size)); clear hb)
            | (go_at_call 9; (with_reducible refine (HAW.out _).mono ?_); rintro e w90 ⟨rfl, hb⟩; have HB := Lib.hid (HB.out.trans (hb.mono HB.out.size)); clear hb))
          go_ret
          exact ⟨rfl, HB.out⟩
    · go_enter Tryz.func8, Tryz.ntmps8
      go_wp2_with (first
        | (go_at_call 10; (with_reducible refine HBU.out.mono ?_); rintro e w1 ⟨hb, hor⟩; rcases hor with ⟨hn, -⟩ | ⟨-, v, S, rfl, -, -⟩; (exact absurd hn hrg); have HB := Lib.hid hb; clear hb)
        | (go_at_call 9; (with_reducible refine (HAW.out _).mono ?_); rintro e w9 ⟨rfl, hb⟩; have HB := Lib.hid (HB.out.trans (hb.mono HB.out.size)); clear hb))
      go_ret
      exact ⟨rfl, HB.out⟩
  · have hbz : (60 : Int) < L.length := by omega
    clear hx hc hw hp
    generalize L.length = m at *
    go_enter Tryz.func8, Tryz.ntmps8
    go_wp2_with (go_at_call 9; (with_reducible refine (HAW.out _).mono ?_); rintro e w9 ⟨rfl, hb⟩; have HB := Lib.hid hb; clear hb)
    go_ret
    exact ⟨rfl, HB.out⟩
end Go.Proofs.YtldmajifkmcdcaaGreat.Lw
