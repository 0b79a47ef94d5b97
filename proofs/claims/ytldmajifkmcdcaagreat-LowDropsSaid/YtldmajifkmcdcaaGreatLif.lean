/-
  The law's lows and asked over any tree. No condition but those typed at each theorem.
-/
import Derived.Test.YtldmajifkmcdcaaGreatML
import Derived.Test.YtldmajifkmcdcaaGreatMLs
namespace Go.Proofs.YtldmajifkmcdcaaGreat.Lw
open Go.RowKit
theorem fstL_cons (s : S3) (l : List S3) : fstL (s :: l) = (tv s, true) := rfl
set_option maxRecDepth 100000 in
set_option maxHeartbeats 6400000 in
theorem lows_any {TS : World → Value → Nat → List Nat → List S3 → Prop} {X : World} {v : Value} {n : Nat} {S : List Nat} {A : List S3} (C : LowC TS) (h : TS X v n S A) (x1 x2 k : Int) (h1 : (Lit.int .i64 x1).wf = true) (h2 : (Lit.int .i64 x2).wf = true) (h3 : (Lit.int .i64 k).wf = true) (q4 : Option Addr) (c4 : Nat) (hq : TsS X q4 ((lwL x1 x2 A).take k.toNat)) :
    Calls Tryz.prog 23 #[v, .int .i64 x1, .int .i64 x2, .int .i64 k, .slice q4 ((lwL x1 x2 A).take k.toNat).length c4] X fun e X' => e = .returned (.bool true) ∧ Below X.heap.size X X' := by
  have hnT := neT
  obtain ⟨hAn, hn4, -, hA⟩ := C.few h
  have hlen := lwL_len x1 x2 A
  obtain ⟨Z, hZ⟩ : ∃ Z, Z = (lwL x1 x2 A).take k.toNat := ⟨_, rfl⟩
  have hZl : Z.length ≤ 400 := by rw [hZ, List.length_take]; omega
  have HL1 := Lib.hid (C.lows x1 x2 k h h1 h2 h3)
  rw [← hZ] at HL1 hq ⊢
  have HQ4 := Lib.hid hq
  have HS := Lib.hid (fun Y q c (hb : Below X.heap.size X Y) (hy : TsS Y q Z) => by
    have := same_any Y q q4 c c4 Z Z hy (hq.keep hb) (by omega)
    rw [decide_eq_true rfl] at this
    exact this)
  have HT := Lib.hid (fun Y (hb : Below X.heap.size X Y) => C.lowest x1 x2 (C.bel h hb) h1 h2)
  have HPL := Lib.hid (show ∀ (Y : World) r, PL Y r Z → ∃ q c, r = .slice q Z.length c ∧ TsS Y q Z from fun Y r h => by obtain ⟨q, c, h1, h2, -⟩ := h; exact ⟨q, c, h1, h2⟩)
  by_cases hk : 0 < k
  · cases hl : lwL x1 x2 A with
    | nil =>
      rw [hl] at hZ HT
      have hz0 : Z.length = 0 := by rw [hZ]; simp
      unfold fstL at HT
      simp only at HT
      generalize Z.length = zl at *
      subst hz0
      clear hZ hl hlen hZl h hq hA
      go_enter Tryz.func23, Tryz.ntmps23
      go_upto_region 3 with (first
        | (go_at_call 18; (with_reducible refine HL1.out.mono ?_); rintro e w5 ⟨⟨r, t, rfl, hr, -, -⟩, hb⟩; obtain ⟨q1, c1, rfl, hts⟩ := HPL.out _ _ hr.1; have HQ1 := Lib.hid hts; have HB5 := Lib.hid hb; clear hr hb hts)
        | (go_at_call 17; (with_reducible refine (HT.out _ HB5.out).mono ?_); rintro e w6 ⟨⟨t2, rfl, -⟩, hb⟩; have HQ6 := Lib.hid (HQ1.out.keep hb); have HB6 := Lib.hid (HB5.out.trans (hb.mono HB5.out.size)); clear hb))
      obtain ⟨W, hW⟩ : ∃ W, W = w6.alloc (.cells (tvs (0, 0, 0)).toArray 34) := ⟨_, rfl⟩
      have hN := T1.new w6 (0, 0, 0) 34
      rw [← hW] at hN
      have HBW := Lib.hid (show Below X.heap.size X W by rw [hW]; exact HB6.out.alloc HB6.out.size _)
      have HQW := Lib.hid (show TsS W q1 Z by rw [hW]; exact HQ6.out.keep ((Below.refl _ w6).alloc (Nat.le_refl _) _))
      have HLW := Lib.hid hN.lt
      rw [show w6.alloc (.cells #[.int .i64 0, .int .i64 0, .int .u32 0] 34) = W from hW.symm]
      have m0 := hN.c0
      have m1 := hN.c1
      have m2 := hN.c2
      simp only [Nat.zero_add] at m0 m1 m2
      clear hW hN HQ6 HB6 HB5 HQ1
      go_quiet (fail)
      go_wp2_with (go_at_call 19; (with_reducible refine (HS.out _ q1 c1 (drewB HBW.out) (HQW.out.keep (drewB (Below.refl _ _)))).mono ?_); rintro e w7 ⟨rfl, hb⟩; have HB7 := Lib.hid ((drewB HBW.out).trans (hb.mono (drewB HBW.out).size)); clear hb)
      go_ret
      exact ⟨rfl, HB7.out⟩
    | cons s l =>
      rw [hl] at hZ HT
      rw [fstL_cons] at HT
      simp only at HT
      obtain ⟨j, hj⟩ : ∃ j, k.toNat = j + 1 := ⟨k.toNat - 1, by omega⟩
      rw [hj, List.take_succ_cons] at hZ
      have hz0 : 0 < Z.length := by rw [hZ]; simp
      have hZ0 : Z[0]? = some s := by rw [hZ]; rfl
      obtain ⟨b, off, rfl, hb1⟩ := hq.at hZ0
      have HT1 := Lib.hid hb1
      obtain ⟨sx, sy, si⟩ := s
      unfold tv at HT
      simp only at HT
      generalize Z.length = zl at *
      have hzz : (0 : Int) < zl := by omega
      clear hZ hl hlen hZl h hq hA hZ0 hb1 hj
      go_enter Tryz.func23, Tryz.ntmps23
      go_upto_region 3 with (first
        | (go_at_call 18; (with_reducible refine HL1.out.mono ?_); rintro e w5 ⟨⟨r, t, rfl, hr, -, -⟩, hb⟩; obtain ⟨q1, c1, rfl, hts⟩ := HPL.out _ _ hr.1; have HQ1 := Lib.hid hts; have HB5 := Lib.hid hb; clear hr hb hts)
        | (go_at_call 17; (with_reducible refine (HT.out _ HB5.out).mono ?_); rintro e w6 ⟨⟨t2, rfl, -⟩, hb⟩; have HQ6 := Lib.hid (HQ1.out.keep hb); have HB6 := Lib.hid (HB5.out.trans (hb.mono HB5.out.size)); clear hb))
      obtain ⟨W, hW⟩ : ∃ W, W = w6.alloc (.cells (tvs (sx, sy, si)).toArray 34) := ⟨_, rfl⟩
      have hN := T1.new w6 (sx, sy, si) 34
      rw [← hW] at hN
      have HBW := Lib.hid (show Below X.heap.size X W by rw [hW]; exact HB6.out.alloc HB6.out.size _)
      have HQW := Lib.hid (show TsS W q1 Z by rw [hW]; exact HQ6.out.keep ((Below.refl _ w6).alloc (Nat.le_refl _) _))
      have HLW := Lib.hid hN.lt
      rw [show w6.alloc (.cells #[.int .i64 sx, .int .i64 sy, .int .u32 si] 34) = W from hW.symm]
      have m0 := hN.c0
      have m1 := hN.c1
      have m2 := hN.c2
      simp only [Nat.zero_add] at m0 m1 m2
      clear hW hN HQ6 HB6 HB5 HQ1
      have hT := HT1.out.keep HBW.out HT1.out.lt
      have n0 := hT.c0
      have n1 := hT.c1
      have n2 := hT.c2
      simp only [Nat.zero_mul, Nat.add_zero] at n0 n1 n2
      have hdd : (!decide ((sx, sy, si) = (sx, sy, si))) = false := by simp
      clear hT
      go_quiet (fail)
      go_wp2_with (go_at_call 19; (with_reducible refine (HS.out _ q1 c1 (drewB HBW.out) (HQW.out.keep (drewB (Below.refl _ _)))).mono ?_); rintro e w7 ⟨rfl, hb⟩; have HB7 := Lib.hid ((drewB HBW.out).trans (hb.mono (drewB HBW.out).size)); clear hb)
      go_ret
      exact ⟨rfl, HB7.out⟩
  · have hZn : Z = [] := by rw [hZ, show k.toNat = 0 by omega]; rfl
    obtain ⟨sx, sy, si, fb, hf⟩ : ∃ (sx sy si : Int) (fb : Bool), fstL (lwL x1 x2 A) = (.agg #[.int .i64 sx, .int .i64 sy, .int .u32 si], fb) := by
      cases lwL x1 x2 A with
      | nil => exact ⟨0, 0, 0, false, rfl⟩
      | cons s l => exact ⟨s.1, s.2.1, s.2.2, true, rfl⟩
    rw [hf] at HT
    simp only at HT
    have hz0 : Z.length = 0 := by rw [hZn]; rfl
    have hkd : decide (0 < k) = false := decide_eq_false hk
    generalize Z.length = zl at *
    subst hz0
    clear hZ hZn hf hlen hZl h hq hA
    go_enter Tryz.func23, Tryz.ntmps23
    go_upto_region 3 with (first
      | (go_at_call 18; (with_reducible refine HL1.out.mono ?_); rintro e w5 ⟨⟨r, t, rfl, hr, -, -⟩, hb⟩; obtain ⟨q1, c1, rfl, hts⟩ := HPL.out _ _ hr.1; have HQ1 := Lib.hid hts; have HB5 := Lib.hid hb; clear hr hb hts)
      | (go_at_call 17; (with_reducible refine (HT.out _ HB5.out).mono ?_); rintro e w6 ⟨⟨t2, rfl, -⟩, hb⟩; have HQ6 := Lib.hid (HQ1.out.keep hb); have HB6 := Lib.hid (HB5.out.trans (hb.mono HB5.out.size)); clear hb))
    obtain ⟨W, hW⟩ : ∃ W, W = w6.alloc (.cells (tvs (sx, sy, si)).toArray 34) := ⟨_, rfl⟩
    have hN := T1.new w6 (sx, sy, si) 34
    rw [← hW] at hN
    have HBW := Lib.hid (show Below X.heap.size X W by rw [hW]; exact HB6.out.alloc HB6.out.size _)
    have HQW := Lib.hid (show TsS W q1 Z by rw [hW]; exact HQ6.out.keep ((Below.refl _ w6).alloc (Nat.le_refl _) _))
    have HLW := Lib.hid hN.lt
    rw [show w6.alloc (.cells #[.int .i64 sx, .int .i64 sy, .int .u32 si] 34) = W from hW.symm]
    have m0 := hN.c0
    have m1 := hN.c1
    have m2 := hN.c2
    simp only [Nat.zero_add] at m0 m1 m2
    clear hW hN HQ6 HB6 HB5 HQ1
    go_quiet (fail)
    go_wp2_with (go_at_call 19; (with_reducible refine (HS.out _ q1 c1 (drewB HBW.out) (HQW.out.keep (drewB (Below.refl _ _)))).mono ?_); rintro e w7 ⟨rfl, hb⟩; have HB7 := Lib.hid ((drewB HBW.out).trans (hb.mono (drewB HBW.out).size)); clear hb)
    go_ret
    exact ⟨rfl, HB7.out⟩
set_option maxRecDepth 100000 in
set_option maxHeartbeats 6400000 in
theorem asked_any {TS : World → Value → Nat → List Nat → List S3 → Prop} {X : World} {v : Value} {n : Nat} {S : List Nat} {A : List S3} (C : LowC TS) (h : TS X v n S A) (p q : Option Addr) (c d : Nat) (L : List S3) (xs : List S3) (hL : TsS X p L) (hx : UsS X q xs) (hw : ∀ x ∈ xs, WfU x) (hl : L.length ≤ 8192) (hxl : xs.length ≤ 8192) (hp : A.Perm L) :
    Calls Tryz.prog 13 #[v, .slice p L.length c, .slice q xs.length d] X fun e X' => e = .returned (.bool true) ∧ Below X.heap.size X X' := by
  have HN := Lib.hid (fun Y (hb : Below X.heap.size X Y) => by have := C.len (C.bel h hb); rw [hp.length_eq] at this; exact this)
  have HRT := Lib.hid (fun Y x1 x2 y (hb : Below X.heap.size X Y) => RLows Y p c L x1 x2 y (hL.keep hb) hl)
  have HTH := Lib.hid (fun Y (s : S3) (hb : Below X.heap.size X Y) (hs : WfU s) q1 c1 => by have := lows_any C (C.bel h hb) s.1 s.2.1 s.2.2 hs.1 hs.2.1 hs.2.2 q1 c1; rw [lwL_perm hp (C.few h).2.2.1] at this; exact this)
  have HX := Lib.hid hx
  have HW := Lib.hid hw
  obtain ⟨m, hm⟩ : ∃ m, m = xs.length := ⟨_, rfl⟩
  have HM := Lib.hid hm
  rw [← hm] at hxl ⊢
  clear h hL hx hw hm hp
  generalize hll : L.length = l at *
  clear hll
  go_enter Tryz.func13, Tryz.ntmps13
  go_wp2
  go_loopw [11] (fun i wr => ∃ k : Nat, k ≤ m ∧ i = .int .i64 k ∧ Hid (Below X.heap.size X wr)) (fun i _ => m - (intOf i).toNat)
  case atStart => exact ⟨0, Nat.zero_le _, rfl, Lib.hid (Below.refl _ _)⟩
  case round =>
    obtain ⟨k, hk, rfl, HB⟩ := hrel
    by_cases hlt : k < m
    · have hltz : (k : Int) < m := by omega
      obtain ⟨s, hse⟩ : ∃ s, xs[k]? = some s := ⟨_, List.getElem?_eq_getElem (by have := HM.out; omega)⟩
      obtain ⟨bb, off, rfl, h1⟩ := (HX.out.keep HB.out).at hse
      have HWB := Lib.hid (HW.out s (List.mem_of_getElem? hse))
      have n0 := h1.c0
      have n1 := h1.c1
      have n2 := h1.c2
      obtain ⟨W, hW⟩ : ∃ W, W = wr.alloc (.cells (uvs s).toArray 42) := ⟨_, rfl⟩
      have hN1 : U1 W wr.heap.size 0 s := by rw [hW]; exact U1.new wr s _
      have HBW := Lib.hid (show Below X.heap.size X W by rw [hW]; exact HB.out.alloc HB.out.size _)
      have HR1 := Lib.hid (fun Y (hb : Below W.heap.size W Y) => HRT.out Y s.1 s.2.1 s.2.2 (HBW.out.trans (hb.mono HBW.out.size)))
      have HT1 := Lib.hid (fun Y (hb : Below W.heap.size W Y) q1 c1 => HTH.out Y s (HBW.out.trans (hb.mono HBW.out.size)) HWB.out q1 c1)
      have m0 := hN1.c0
      have m1 := hN1.c1
      have m2 := hN1.c2
      simp only [Nat.zero_add] at m0 m1 m2
      obtain ⟨sx, sy, sz⟩ := s
      unfold uvs at hW
      simp only at n0 n1 n2 m0 m1 m2 hW HR1 HT1
      have hW1 := Lib.hid hW
      generalize (lwL sx sy L).take sz.toNat = Z at *
      clear hN1 hW hse h1
      go_upto_region 4 with fail
      rw [← hW1.out]
      clear hW1 n0 n1 n2
      refine wp_region_qk Bw (fun w => Below.refl _ w) [15] (by kernel_rfl) (by kernel_rfl) ?_
      have HD := Lib.hid ((Below.refl W.heap.size W).drew)
      have d0 := HD.out.cell (World.block_lt_of_cell? _ _ m0)
      have d1 := HD.out.cell (World.block_lt_of_cell? _ _ m1)
      have d2 := HD.out.cell (World.block_lt_of_cell? _ _ m2)
      rw [m0] at d0
      rw [m1] at d1
      rw [m2] at d2
      generalize W.drew = W3 at *
      refine callsH_cons ?_
      simp only [Nat.reduceSub, Nat.reduceAdd, List.take_succ_cons, List.take_zero, List.drop_succ_cons, List.drop_zero]
      have inst : Nonempty (Wd (Bw W3)) := ⟨⟨W3, Below.refl _ _⟩⟩
      have b0 : ∀ z : Wd (Bw W3), z.w.cell? ⟨wr.heap.size, 0, none⟩ = _ := fun z => Bw.cell z d0
      have b1 : ∀ z : Wd (Bw W3), z.w.cell? ⟨wr.heap.size, 1, none⟩ = _ := fun z => Bw.cell z d1
      have b2 : ∀ z : Wd (Bw W3), z.w.cell? ⟨wr.heap.size, 2, none⟩ = _ := fun z => Bw.cell z d2
      repeat (first | go_big_quiet_step (fail) | quiet_step (fail))
      refine wpQuiet_nil ?_
      rintro _ ⟨z, rfl⟩
      have HZ := Lib.hid (HD.out.trans (Below.mono z.h HD.out.size))
      refine gOp_call rfl rfl (f := 27) (args := #[.slice p l c, .int .i64 sx, .int .i64 sy, .int .i64 sz]) ?_ ?_
      · simp [execOp, resolve, invoke, Act.eval, Deferred.ofValue, go_sem]
      refine (HR1.out z.w HZ.out).mono ?_
      rintro e w5 ⟨r, rfl, hr, hb⟩
      obtain ⟨q4, c4, rfl, hq, -⟩ := hr
      have HQ4 := Lib.hid hq
      have hbz := Below.trans z.h (hb.mono (Below.size z.h))
      refine ⟨_, rfl, ⟨⟨w5, hbz⟩, rfl⟩, ?_⟩
      have HB5 := Lib.hid (HZ.out.trans (hb.mono HZ.out.size))
      clear hq hb hbz b0 b1 b2 inst
      refine gOp_call rfl rfl (f := 23) (args := #[v, .int .i64 sx, .int .i64 sy, .int .i64 sz, .slice q4 Z.length c4]) ?_ ?_
      · simp [execOp, resolve, invoke, Act.eval, Deferred.ofValue, go_sem]
      refine (HT1.out w5 HB5.out q4 c4 HQ4.out).mono ?_
      rintro e w6 ⟨rfl, hb⟩
      refine ⟨_, rfl, ?_⟩
      have HB6 := Lib.hid (HBW.out.trans ((HB5.out.trans (hb.mono HB5.out.size)).mono HBW.out.size))
      clear hb HB5 HQ4 d0 d1 d2 HD m0 m1 m2
      refine callsH_nil ?_
      have inst : Nonempty (Wd (Bw w6)) := ⟨⟨w6, Below.refl _ _⟩⟩
      repeat (first | go_big_quiet_step (fail) | quiet_step (fail))
      refine wpQuiet_nil ?_
      go_wp2
      go_roundw
      case rel => exact ⟨k + 1, by omega, by go_num, HB6⟩
      case measure => simp [intOf]; omega
    · have hltz : ¬ (k : Int) < m := by omega
      go_wp2_with (go_at_call 12; (with_reducible refine (HN.out _ HB.out).mono ?_); rintro e w1 ⟨rfl, hb⟩; have HB1 := Lib.hid (HB.out.trans (hb.mono HB.out.size)); clear hb)
      go_ret
      exact ⟨rfl, HB1.out⟩
end Go.Proofs.YtldmajifkmcdcaaGreat.Lw
