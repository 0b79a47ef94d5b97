/-
  Layer 14's examples hold of any tree that tells the lowest. No condition but those typed at each theorem.
-/
import Derived.Test.YtldmajifkmcdcaaGreatLif
import Derived.Test.YtldmajifkmcdcaaGreatMQ
namespace Go.Proofs.YtldmajifkmcdcaaGreat.Lw
open Go.RowKit
def L0 : List S3 := [(0, 0, 1), (2, 5, 2), (2, 1, 3), (7, 3, 4)]
def L1 : List S3 := [(0, 0, 1), (2, 5, 2), (7, 3, 4)]
theorem rg0 : Rg L0 := by decide
theorem wf0 : ∀ s ∈ L0, Wf3 s := by
  intro s hs
  simp only [L0, List.mem_cons, List.not_mem_nil, or_false] at hs
  rcases hs with rfl | rfl | rfl | rfl <;> exact ⟨rfl, rfl, rfl⟩
section
variable {TS : World → Value → Nat → List Nat → List S3 → Prop} {w1 : World} {v : Value} {n : Nat} {S : List Nat} {A : List S3}
theorem lows_new (C : LowC TS) (h : TS w1 v n S A) (x1 x2 k : Int) (h1 : (Lit.int .i64 x1).wf = true) (h2 : (Lit.int .i64 x2).wf = true) (h3 : (Lit.int .i64 k).wf = true) (Z : List S3) (hZ : (lwL x1 x2 A).take k.toNat = Z) (Y : World) (hb : Below w1.heap.size w1 Y) :
    Calls Tryz.prog 23 #[v, .int .i64 x1, .int .i64 x2, .int .i64 k, .slice (some ⟨Y.heap.size, 0, none⟩) Z.length Z.length] (Y.alloc (.cells (flatT Z).toArray 34)) fun e Y' => e = .returned (.bool true) ∧ Below w1.heap.size w1 Y' := by
  subst hZ
  have hY := hb.alloc hb.size (.cells (flatT ((lwL x1 x2 A).take k.toNat)).toArray 34)
  refine (lows_any C (C.bel h hY) x1 x2 k h1 h2 h3 _ _ (.inr ⟨_, 0, rfl, Ts.new Y _ _⟩)).mono ?_
  rintro e w' ⟨rfl, hb2⟩
  exact ⟨rfl, hY.trans (hb2.mono hY.size)⟩
theorem lows_nil (C : LowC TS) (h : TS w1 v n S A) (x1 x2 k : Int) (h1 : (Lit.int .i64 x1).wf = true) (h2 : (Lit.int .i64 x2).wf = true) (h3 : (Lit.int .i64 k).wf = true) (hZ : (lwL x1 x2 A).take k.toNat = []) (Y : World) (hb : Below w1.heap.size w1 Y) :
    Calls Tryz.prog 23 #[v, .int .i64 x1, .int .i64 x2, .int .i64 k, .slice none 0 0] Y fun e Y' => e = .returned (.bool true) ∧ Below w1.heap.size w1 Y' := by
  have := lows_any C (C.bel h hb) x1 x2 k h1 h2 h3 none 0 (by rw [hZ]; exact .inl rfl)
  rw [hZ] at this
  refine this.mono ?_
  rintro e w' ⟨rfl, hb2⟩
  exact ⟨rfl, hb.trans (hb2.mono hb.size)⟩
end
set_option maxRecDepth 100000 in
set_option maxHeartbeats 6400000 in
theorem awake_any {TS : World → Value → Nat → List Nat → List S3 → Prop} (C : LowC TS) (w : World) : Calls Tryz.prog 9 #[] w fun e w' => e = .returned (.bool true) ∧ Below w.heap.size w w' := by
  have hnT := neT
  obtain ⟨W, hW⟩ : ∃ W, W = w.alloc (.cells (flatT L0).toArray 34) := ⟨_, rfl⟩
  have HTS : Hid (Ts W w.heap.size 0 L0) := Lib.hid (by rw [hW]; exact Ts.new w L0 _)
  have HBW : Hid (Below w.heap.size w W) := Lib.hid (by rw [hW]; exact (Below.refl _ w).alloc (Nat.le_refl _) _)
  have HLW := Lib.hid (show w.heap.size < W.heap.size by rw [hW]; simp)
  have HBU : Hid (Calls Tryz.prog 10 #[.slice (some ⟨w.heap.size, 0, none⟩) 4 4] W (Built TS W L0)) := Lib.hid (C.build _ (some ⟨w.heap.size, 0, none⟩) 4 L0 (.inr ⟨_, 0, rfl, HTS.out⟩) (by decide) (by decide) (fun h => by cases h) wf0)
  have HW : Hid (w.alloc (.cells #[.int .i64 0, .int .i64 0, .int .u32 1, .int .i64 2, .int .i64 5, .int .u32 2, .int .i64 2, .int .i64 1, .int .u32 3, .int .i64 7, .int .i64 3, .int .u32 4] 34) = W) := Lib.hid hW.symm
  clear hW
  go_enter Tryz.func9, Tryz.ntmps9
  go_upto_region 3 with (first
    | (go_at_call 10; rw [HW.out]; (with_reducible refine HBU.out.mono ?_); rintro e w1 ⟨hb, hor⟩; rcases hor with ⟨-, v, S, rfl, hT, hS⟩ | ⟨hn, -⟩; rotate_left; (exact absurd rg0 hn); have HT := Lib.hid hT; have HSS := Lib.hid hS; have HB := Lib.hid (HBW.out.trans (hb.mono HBW.out.size)); have HTL := Lib.hid (show Ts w1 w.heap.size 0 L0 from fun j m e => (HTS.out j m e).keep hb HLW.out); have HLX := Lib.hid (show w.heap.size < w1.heap.size from Nat.lt_of_lt_of_le HLW.out hb.size); clear hb hT hS))
  clear HW HBU HTS
  have HLO1 := Lib.hid (fun Y (hb : Below w1.heap.size w1 Y) => show Calls Tryz.prog 17 #[v, .int .i64 1, .int .i64 9] Y (fun e X' => (∃ t : Nat, e = .returned (.tuple #[.agg #[.int .i64 2, .int .i64 1, .int .u32 3], .bool true, .int .i64 t]) ∧ t ≤ mostL 4) ∧ Below Y.heap.size Y X') from C.lowest 1 9 (C.bel HT.out hb) rfl rfl)
  have HLO2 := Lib.hid (fun Y (hb : Below w1.heap.size w1 Y) => show Calls Tryz.prog 17 #[v, .int .i64 3, .int .i64 6] Y (fun e X' => (∃ t : Nat, e = .returned (.tuple #[.agg #[.int .i64 0, .int .i64 0, .int .u32 0], .bool false, .int .i64 t]) ∧ t ≤ mostL 4) ∧ Below Y.heap.size Y X') from C.lowest 3 6 (C.bel HT.out hb) rfl rfl)
  go_upto_region 5 with (first
    | (go_at_call 17; (with_reducible refine (HLO1.out _ (Below.refl _ _)).mono ?_); rintro e w3 ⟨⟨t3, rfl, -⟩, hb⟩; have HC3 := Lib.hid hb; clear hb)
    | (go_at_call 17; (with_reducible refine (HLO2.out _ (HC3.out.alloc HC3.out.size (.cells #[.int .i64 2, .int .i64 1, .int .u32 3] 34))).mono ?_); rintro e w4 ⟨⟨t4, rfl, -⟩, hb⟩; have HC4 := Lib.hid ((HC3.out.alloc HC3.out.size (.cells #[.int .i64 2, .int .i64 1, .int .u32 3] 34)).trans (hb.mono (HC3.out.alloc HC3.out.size (.cells #[.int .i64 2, .int .i64 1, .int .u32 3] 34)).size)); have HP4 := Lib.hid ((T1.new w3 (2, 1, 3) 34).keep hb (by simp)); clear hb))
  obtain ⟨X5, hX5⟩ : ∃ X, X = w4.alloc (.cells #[.int .i64 0, .int .i64 0, .int .u32 0] 34) := ⟨_, rfl⟩
  rw [← hX5]
  have hb5 : Below w4.heap.size w4 X5 := by rw [hX5]; exact (Below.refl _ w4).alloc (Nat.le_refl _) _
  have HC6 := Lib.hid (show Below w1.heap.size w1 X5.drew from (HC4.out.trans (hb5.mono HC4.out.size)).drew)
  have HP6 := Lib.hid (show T1 X5.drew w3.heap.size 0 (2, 1, 3) from HP4.out.keep hb5.drew HP4.out.lt)
  have HL6 := Lib.hid (show Ts X5.drew w.heap.size 0 L0 from fun j m e => (HTL.out j m e).keep HC6.out HLX.out)
  clear hb5 hX5 HC4 HP4
  have H1 := Lib.hid (lows_new C HT.out 0 9 3 rfl rfl rfl [(0, 0, 1), (2, 1, 3), (7, 3, 4)] rfl)
  have H2 := Lib.hid (lows_new C HT.out 2 2 5 rfl rfl rfl [(2, 1, 3), (2, 5, 2)] rfl)
  have H3 := Lib.hid (lows_nil C HT.out 0 9 0 rfl rfl rfl rfl)
  have hdd : (!decide (((2 : Int), (1 : Int), (3 : Int)) = (2, 1, 3))) = false := by decide
  refine G2.wp_region_qk Bw (fun w => Below.refl _ w) [28, 40, 45] (by kernel_rfl) (by kernel_rfl) ?_
  generalize X5.drew = X6 at *
  refine G2.callsH_cons ?_
  simp only [Nat.reduceSub, Nat.reduceAdd, List.take_succ_cons, List.take_zero, List.drop_succ_cons, List.drop_zero]
  have inst : Nonempty (Wd (Bw X6)) := ⟨⟨X6, Below.refl _ _⟩⟩
  have p0 : ∀ z : Wd (Bw X6), z.w.cell? ⟨w3.heap.size, 0, none⟩ = _ := fun z => Bw.cell z HP6.out.c0
  have p1 : ∀ z : Wd (Bw X6), z.w.cell? ⟨w3.heap.size, 1, none⟩ = _ := fun z => Bw.cell z HP6.out.c1
  have p2 : ∀ z : Wd (Bw X6), z.w.cell? ⟨w3.heap.size, 2, none⟩ = _ := fun z => Bw.cell z HP6.out.c2
  have q0 : ∀ z : Wd (Bw X6), z.w.cell? ⟨w.heap.size, 0, none⟩ = _ := fun z => Bw.cell z (HL6.out 0 (0, 0, 1) rfl).c0
  have q1 : ∀ z : Wd (Bw X6), z.w.cell? ⟨w.heap.size, 1, none⟩ = _ := fun z => Bw.cell z (HL6.out 0 (0, 0, 1) rfl).c1
  have q2 : ∀ z : Wd (Bw X6), z.w.cell? ⟨w.heap.size, 2, none⟩ = _ := fun z => Bw.cell z (HL6.out 0 (0, 0, 1) rfl).c2
  have q3 : ∀ z : Wd (Bw X6), z.w.cell? ⟨w.heap.size, 3, none⟩ = _ := fun z => Bw.cell z (HL6.out 1 (2, 5, 2) rfl).c0
  have q4 : ∀ z : Wd (Bw X6), z.w.cell? ⟨w.heap.size, 4, none⟩ = _ := fun z => Bw.cell z (HL6.out 1 (2, 5, 2) rfl).c1
  have q5 : ∀ z : Wd (Bw X6), z.w.cell? ⟨w.heap.size, 5, none⟩ = _ := fun z => Bw.cell z (HL6.out 1 (2, 5, 2) rfl).c2
  have q6 : ∀ z : Wd (Bw X6), z.w.cell? ⟨w.heap.size, 6, none⟩ = _ := fun z => Bw.cell z (HL6.out 2 (2, 1, 3) rfl).c0
  have q7 : ∀ z : Wd (Bw X6), z.w.cell? ⟨w.heap.size, 7, none⟩ = _ := fun z => Bw.cell z (HL6.out 2 (2, 1, 3) rfl).c1
  have q8 : ∀ z : Wd (Bw X6), z.w.cell? ⟨w.heap.size, 8, none⟩ = _ := fun z => Bw.cell z (HL6.out 2 (2, 1, 3) rfl).c2
  have q9 : ∀ z : Wd (Bw X6), z.w.cell? ⟨w.heap.size, 9, none⟩ = _ := fun z => Bw.cell z (HL6.out 3 (7, 3, 4) rfl).c0
  have q10 : ∀ z : Wd (Bw X6), z.w.cell? ⟨w.heap.size, 10, none⟩ = _ := fun z => Bw.cell z (HL6.out 3 (7, 3, 4) rfl).c1
  have q11 : ∀ z : Wd (Bw X6), z.w.cell? ⟨w.heap.size, 11, none⟩ = _ := fun z => Bw.cell z (HL6.out 3 (7, 3, 4) rfl).c2
  simp only at p0 p1 p2 q0 q1 q2 q3 q4 q5 q6 q7 q8 q9 q10 q11
  repeat (first | go_big_quiet_step (fail) | quiet_step (fail))
  refine wpQuiet_nil ?_
  rintro _ ⟨z, rfl⟩
  have HZ := Lib.hid (HC6.out.trans (Below.mono z.h HC6.out.size))
  have hbw := Below.alloc z.h (Below.size z.h) (.cells (flatT [(0, 0, 1), (2, 1, 3), (7, 3, 4)]).toArray 34)
  refine G2.gOp_val rfl rfl (v := .slice (some ⟨z.w.heap.size, 0, none⟩) 3 3) (w' := z.w.alloc (.cells (flatT [(0, 0, 1), (2, 1, 3), (7, 3, 4)]).toArray 34)) ?_ ?_
  · simp [execOp, Act.eval, go_sem, flatT, tvs]
  refine ⟨⟨⟨_, hbw⟩, rfl⟩, ?_⟩
  refine G2.gOp_call rfl rfl (f := 23) (args := #[v, .int .i64 0, .int .i64 9, .int .i64 3, .slice (some ⟨z.w.heap.size, 0, none⟩) 3 3]) ?_ ?_
  · simp [execOp, resolve, invoke, Act.eval, Deferred.ofValue, go_sem]
  refine (H1.out z.w HZ.out).mono ?_
  rintro e w7 ⟨rfl, hb⟩
  refine ⟨_, rfl, ?_⟩
  have HC7 := Lib.hid hb
  clear hb hbw inst q0 q1 q2 q3 q4 q5 q6 q7 q8 q9 q10 q11 p0 p1 p2 HZ
  have HL7 := Lib.hid (show Ts w7 w.heap.size 0 L0 from fun j m e => (HTL.out j m e).keep HC7.out HLX.out)
  refine G2.callsH_cons ?_
  simp only [Nat.reduceSub, Nat.reduceAdd, List.take_succ_cons, List.take_zero, List.drop_succ_cons, List.drop_zero]
  have inst : Nonempty (Wd (Bw w7)) := ⟨⟨w7, Below.refl _ _⟩⟩
  have q0 : ∀ z : Wd (Bw w7), z.w.cell? ⟨w.heap.size, 0, none⟩ = _ := fun z => Bw.cell z (HL7.out 0 (0, 0, 1) rfl).c0
  have q1 : ∀ z : Wd (Bw w7), z.w.cell? ⟨w.heap.size, 1, none⟩ = _ := fun z => Bw.cell z (HL7.out 0 (0, 0, 1) rfl).c1
  have q2 : ∀ z : Wd (Bw w7), z.w.cell? ⟨w.heap.size, 2, none⟩ = _ := fun z => Bw.cell z (HL7.out 0 (0, 0, 1) rfl).c2
  have q3 : ∀ z : Wd (Bw w7), z.w.cell? ⟨w.heap.size, 3, none⟩ = _ := fun z => Bw.cell z (HL7.out 1 (2, 5, 2) rfl).c0
  have q4 : ∀ z : Wd (Bw w7), z.w.cell? ⟨w.heap.size, 4, none⟩ = _ := fun z => Bw.cell z (HL7.out 1 (2, 5, 2) rfl).c1
  have q5 : ∀ z : Wd (Bw w7), z.w.cell? ⟨w.heap.size, 5, none⟩ = _ := fun z => Bw.cell z (HL7.out 1 (2, 5, 2) rfl).c2
  have q6 : ∀ z : Wd (Bw w7), z.w.cell? ⟨w.heap.size, 6, none⟩ = _ := fun z => Bw.cell z (HL7.out 2 (2, 1, 3) rfl).c0
  have q7 : ∀ z : Wd (Bw w7), z.w.cell? ⟨w.heap.size, 7, none⟩ = _ := fun z => Bw.cell z (HL7.out 2 (2, 1, 3) rfl).c1
  have q8 : ∀ z : Wd (Bw w7), z.w.cell? ⟨w.heap.size, 8, none⟩ = _ := fun z => Bw.cell z (HL7.out 2 (2, 1, 3) rfl).c2
  have q9 : ∀ z : Wd (Bw w7), z.w.cell? ⟨w.heap.size, 9, none⟩ = _ := fun z => Bw.cell z (HL7.out 3 (7, 3, 4) rfl).c0
  have q10 : ∀ z : Wd (Bw w7), z.w.cell? ⟨w.heap.size, 10, none⟩ = _ := fun z => Bw.cell z (HL7.out 3 (7, 3, 4) rfl).c1
  have q11 : ∀ z : Wd (Bw w7), z.w.cell? ⟨w.heap.size, 11, none⟩ = _ := fun z => Bw.cell z (HL7.out 3 (7, 3, 4) rfl).c2
  simp only at q0 q1 q2 q3 q4 q5 q6 q7 q8 q9 q10 q11
  repeat (first | go_big_quiet_step (fail) | quiet_step (fail))
  refine wpQuiet_nil ?_
  rintro _ ⟨z, rfl⟩
  have HZ := Lib.hid (HC7.out.trans (Below.mono z.h HC7.out.size))
  have hbw := Below.alloc z.h (Below.size z.h) (.cells (flatT [(2, 1, 3), (2, 5, 2)]).toArray 34)
  refine G2.gOp_val rfl rfl (v := .slice (some ⟨z.w.heap.size, 0, none⟩) 2 2) (w' := z.w.alloc (.cells (flatT [(2, 1, 3), (2, 5, 2)]).toArray 34)) ?_ ?_
  · simp [execOp, Act.eval, go_sem, flatT, tvs]
  refine ⟨⟨⟨_, hbw⟩, rfl⟩, ?_⟩
  refine G2.gOp_call rfl rfl (f := 23) (args := #[v, .int .i64 2, .int .i64 2, .int .i64 5, .slice (some ⟨z.w.heap.size, 0, none⟩) 2 2]) ?_ ?_
  · simp [execOp, resolve, invoke, Act.eval, Deferred.ofValue, go_sem]
  refine (H2.out z.w HZ.out).mono ?_
  rintro e w8 ⟨rfl, hb⟩
  refine ⟨_, rfl, ?_⟩
  have HC8 := Lib.hid hb
  clear hb hbw inst q0 q1 q2 q3 q4 q5 q6 q7 q8 q9 q10 q11 HZ
  refine G2.callsH_cons ?_
  simp only [Nat.reduceSub, Nat.reduceAdd, List.take_succ_cons, List.take_zero, List.drop_succ_cons, List.drop_zero]
  have inst : Nonempty (Wd (Bw w8)) := ⟨⟨w8, Below.refl _ _⟩⟩
  repeat (first | go_big_quiet_step (fail) | quiet_step (fail))
  refine wpQuiet_nil ?_
  rintro _ ⟨z, rfl⟩
  have HZ := Lib.hid (HC8.out.trans (Below.mono z.h HC8.out.size))
  refine G2.gOp_val rfl rfl (v := v) (w' := z.w) ?_ ?_
  · simp [execOp, Act.eval, go_sem]
  refine ⟨⟨z, rfl⟩, ?_⟩
  refine G2.gOp_call rfl rfl (f := 23) (args := #[v, .int .i64 0, .int .i64 9, .int .i64 0, .slice none 0 0]) ?_ ?_
  · simp [execOp, resolve, invoke, Act.eval, Deferred.ofValue, go_sem]
  refine (H3.out z.w HZ.out).mono ?_
  rintro e w9 ⟨rfl, hb⟩
  refine ⟨_, rfl, ?_⟩
  have HC9 := Lib.hid hb
  clear hb inst HZ z
  refine G2.callsH_nil ?_
  have inst : Nonempty (Wd (Bw w9)) := ⟨⟨w9, Below.refl _ _⟩⟩
  repeat (first | go_big_quiet_step (fail) | quiet_step (fail))
  refine wpQuiet_nil ?_
  have HW9 := Lib.hid (HB.out.trans (HC9.out.mono HB.out.size))
  have HL9 := Lib.hid (show Ts w9 w.heap.size 0 L0 from fun j m e => (HTL.out j m e).keep HC9.out HLX.out)
  have HD := Lib.hid (fun Y (hb : Below w1.heap.size w1 Y) => show Calls Tryz.prog 15 #[v, .agg #[.int .i64 2, .int .i64 1, .int .u32 3]] Y (fun e X' => e = .returned (.bool true) ∧ ∃ S', TS X' v 4 S' L1 ∧ Off S Y X' ∧ ∀ k ∈ S', k ∈ S ∨ Y.heap.size ≤ k) from C.drop (2, 1, 3) (C.bel HT.out hb) ⟨rfl, rfl, rfl⟩)
  have HSW := Lib.hid (show ∀ k ∈ S, w.heap.size < k from fun k hk => Nat.lt_of_lt_of_le HLW.out (HSS.out k hk))
  clear H1 H2 H3 hdd
  have q6 : w9.cell? ⟨w.heap.size, 6, none⟩ = _ := (HL9.out 2 (2, 1, 3) rfl).c0
  have q7 : w9.cell? ⟨w.heap.size, 7, none⟩ = _ := (HL9.out 2 (2, 1, 3) rfl).c1
  have q8 : w9.cell? ⟨w.heap.size, 8, none⟩ = _ := (HL9.out 2 (2, 1, 3) rfl).c2
  have q9 : w9.cell? ⟨w.heap.size, 9, none⟩ = _ := (HL9.out 3 (7, 3, 4) rfl).c0
  have q10 : w9.cell? ⟨w.heap.size, 10, none⟩ = _ := (HL9.out 3 (7, 3, 4) rfl).c1
  have q11 : w9.cell? ⟨w.heap.size, 11, none⟩ = _ := (HL9.out 3 (7, 3, 4) rfl).c2
  simp only at q6 q7 q8 q9 q10 q11
  go_wp2_with (first
    | (go_at_call 15; (with_reducible refine (HD.out _ HC9.out).mono ?_); rintro e w10 ⟨rfl, S', hT, ho, -⟩; have HT5 := Lib.hid hT; have HB5 := Lib.hid (HW9.out.trans (ho.below HW9.out.size (fun k hk => Nat.le_of_lt (HSW.out k hk)))); have r9 : w10.cell? ⟨w.heap.size, 9, none⟩ = _ := ((HL9.out 3 (7, 3, 4) rfl).off ho (fun hk => Nat.lt_irrefl _ (HSW.out _ hk))).c0; have r10 : w10.cell? ⟨w.heap.size, 10, none⟩ = _ := ((HL9.out 3 (7, 3, 4) rfl).off ho (fun hk => Nat.lt_irrefl _ (HSW.out _ hk))).c1; have r11 : w10.cell? ⟨w.heap.size, 11, none⟩ = _ := ((HL9.out 3 (7, 3, 4) rfl).off ho (fun hk => Nat.lt_irrefl _ (HSW.out _ hk))).c2; have H6 := Lib.hid (lows_new C HT5.out 1 9 1 rfl rfl rfl [(7, 3, 4)] rfl); simp only [flatT, tvs, List.flatMap_cons, List.flatMap_nil, List.append_nil, List.length_cons, List.length_nil, Nat.zero_add] at H6; clear hT ho)
    | (go_at_call 23; (with_reducible refine (H6.out _ (Below.refl _ _)).mono ?_); rintro e w11 ⟨rfl, hb⟩; have HC5 := Lib.hid hb; clear hb))
  go_ret
  exact ⟨rfl, HB5.out.trans (HC5.out.mono HB5.out.size)⟩
end Go.Proofs.YtldmajifkmcdcaaGreat.Lw
