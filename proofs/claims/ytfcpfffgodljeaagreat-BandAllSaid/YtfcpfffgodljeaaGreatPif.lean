/-
  The law's has and asked over any tree of points. No condition but those typed at each theorem.
-/
import Derived.Test.YtfcpfffgodljeaaGreatPr
import Derived.Test.YtfcpfffgodljeaaGreatQk
namespace Go.Proofs.YtfcpfffgodljeaaGreat
open Go.RowKit

section
variable {TS : World → Value → Nat → List Nat → List S3 → Prop} {X X' : World} {v : Value} {n : Nat} {S : List Nat} {A : List S3}

set_option maxRecDepth 100000 in
set_option maxHeartbeats 3200000 in
theorem has_any (C : BandC TS) (h : TS X v n S A) (b : B5) (hwf : Wf5 b) (p : Option Addr) (c : Nat) (hw : NS X p .u32 (hsS A b.1)) :
    Calls Tryz.prog 37 #[v, bv b, .slice p (hsS A b.1).length c] X fun e X' => e = .returned (.bool true) ∧ Below X.heap.size X X' := by
  have hf := C.few h
  have HR := Lib.hid (fun X' (hb : Below X.heap.size X X') => C.report b (C.bel h hb) hwf)
  have HC := Lib.hid (fun X' (hb : Below X.heap.size X X') => C.count b (C.bel h hb) hwf)
  have hl := hsS_len A b.1
  have HW := Lib.hid hw
  have HI : Hid (∀ Y q cq, NS Y q .u32 (hsS A b.1) → NS Y p .u32 (hsS A b.1) → Calls Tryz.prog 27 #[.slice q (hsS A b.1).length cq, .slice p (hsS A b.1).length c] Y fun e w' => e = .returned (.bool true) ∧ Below Y.heap.size Y w') := Lib.hid (fun Y q cq h1 h2 => by
    refine (SameIDs_any Y q p cq c _ _ h1 h2 (by omega)).mono ?_
    rintro e w' ⟨rfl, hb⟩
    exact ⟨by simp, hb⟩)
  clear h hw
  generalize hsS A b.1 = L at *
  have HRL := Lib.hid (show ∀ (Y : World) r, RL Y r L → ∃ q c, r = .slice q L.length c ∧ NS Y q .u32 L from fun Y r h => by obtain ⟨q, c, h1, h2, -⟩ := h; exact ⟨q, c, h1, h2⟩)
  generalize hm : L.length = m at *
  clear hm
  obtain ⟨W, hW⟩ : ∃ W, W = X.alloc (.cells (bvs b).toArray 42) := ⟨_, rfl⟩
  have hWN := X1.new X b 42
  rw [← hW] at hWN
  have hWB : Below X.heap.size X W := by rw [hW]; exact (Below.refl _ X).alloc (Nat.le_refl _) _
  have HWN := Lib.hid hWN
  have HWB := Lib.hid hWB
  have HW1 := Lib.hid hW
  have HLT := Lib.hid hWN.lt
  clear hWN hWB hW
  obtain ⟨⟨x1, x2, y1, y2⟩, bi⟩ := b
  unfold bv at *
  simp only at *
  have m0 := HWN.out.c0
  have m1 := HWN.out.c1
  have m2 := HWN.out.c2
  have m3 := HWN.out.c3
  have m4 := HWN.out.c4
  simp only [Nat.zero_add] at m0 m1 m2 m3 m4
  go_enter Tryz.func37, Tryz.ntmps37
  go_upto_block 0 with fail
  rw [show X.alloc (.cells #[.int .i64 x1, .int .i64 x2, .int .i64 y1, .int .i64 y2, .int .u32 bi] 42) = W from HW1.out.symm]
  go_wp2_with (first
    | (go_at_call 24; (with_reducible refine (HR.out _ HWB.out).mono ?_); rintro e w1 ⟨⟨r, t, rfl, hr, -, -⟩, hb⟩; obtain ⟨q, cq, rfl, hq⟩ := HRL.out _ _ hr; have HQ := Lib.hid hq; have hn1 := HWN.out.keep hb HLT.out; have k0 := hn1.c0; have k1 := hn1.c1; have k2 := hn1.c2; have k3 := hn1.c3; have k4 := hn1.c4; simp only [Nat.zero_add] at k0 k1 k2 k3 k4; have HB := Lib.hid (HWB.out.trans (hb.mono HWB.out.size)); clear hr hb hq hn1)
    | (go_at_call 25; (with_reducible refine (HC.out _ HB.out).mono ?_); rintro e w2 ⟨⟨t2, rfl, -⟩, hb⟩; have HQ := Lib.hid (HQ.out.keep hb); have HB := Lib.hid (HB.out.trans (hb.mono HB.out.size)); clear hb)
    | (go_at_call 27; (with_reducible refine (HI.out _ _ _ HQ.out (HW.out.keep HB.out)).mono ?_); rintro e w3 ⟨rfl, hb⟩; have HB := Lib.hid (HB.out.trans (hb.mono HB.out.size)); clear hb))
  go_ret
  exact ⟨rfl, HB.out⟩

set_option maxRecDepth 100000 in
set_option maxHeartbeats 3200000 in
theorem asked_any (C : BandC TS) (h : TS X v n S A) (p q : Option Addr) (c d : Nat) (L : List S3) (xs : List B5) (hL : TsS X p L) (hx : BsS X q xs) (hw : ∀ x ∈ xs, Wf5 x) (hl : L.length ≤ 8192) (hxl : xs.length ≤ 8192) (hp : A.Perm L) :
    Calls Tryz.prog 20 #[v, .slice p L.length c, .slice q xs.length d] X fun e X' => e = .returned (.bool true) ∧ Below X.heap.size X X' := by
  have HN := Lib.hid (fun Y (hb : Below X.heap.size X Y) => by have := C.len (C.bel h hb); rw [hp.length_eq] at this; exact this)
  have HST := Lib.hid (fun Y b (hb : Below X.heap.size X Y) => RHas Y p c L b (hL.keep hb) hl)
  have HSB : Hid (∀ Y (b : B5) p' c', Below X.heap.size X Y → Wf5 b → NS Y p' .u32 (hsS L b.1) → Calls Tryz.prog 37 #[v, bv b, .slice p' (hsS L b.1).length c'] Y fun e X' => e = .returned (.bool true) ∧ Below Y.heap.size Y X') := Lib.hid (fun Y b p' c' hb hx hn => by
    have := has_any C (C.bel h hb) b hx p' c' (by rw [hsS_perm hp]; exact hn)
    rw [hsS_perm hp] at this
    exact this)
  have HX := Lib.hid hx
  have HW := Lib.hid hw
  obtain ⟨m, hm⟩ : ∃ m, m = xs.length := ⟨_, rfl⟩
  have HM := Lib.hid hm
  rw [← hm] at hxl ⊢
  clear h hL hx hw hm hp
  generalize hll : L.length = l at *
  clear hll
  go_enter Tryz.func20, Tryz.ntmps20
  go_wp2
  go_loopw [11] (fun i wr => ∃ k : Nat, k ≤ m ∧ i = .int .i64 k ∧ Hid (Below X.heap.size X wr)) (fun i _ => m - (intOf i).toNat)
  case atStart => exact ⟨0, Nat.zero_le _, rfl, Lib.hid (Below.refl _ _)⟩
  case round =>
    obtain ⟨k, hk, rfl, HB⟩ := hrel
    by_cases hlt : k < m
    · have hltz : (k : Int) < m := by omega
      obtain ⟨b, hbe⟩ : ∃ b, xs[k]? = some b := ⟨_, List.getElem?_eq_getElem (by have := HM.out; omega)⟩
      obtain ⟨bb, off, rfl, h1⟩ := (HX.out.keep HB.out).at hbe
      have HWB := Lib.hid (HW.out b (List.mem_of_getElem? hbe))
      have n0 := h1.c0
      have n1 := h1.c1
      have n2 := h1.c2
      have n3 := h1.c3
      have n4 := h1.c4
      obtain ⟨W, hW⟩ : ∃ W, W = wr.alloc (.cells (bvs b).toArray 42) := ⟨_, rfl⟩
      have hWN := X1.new wr b 42
      rw [← hW] at hWN
      have hBW : Below X.heap.size X W := by rw [hW]; exact HB.out.alloc HB.out.size _
      have HWN := Lib.hid hWN
      have HBW := Lib.hid hBW
      have HLT := Lib.hid hWN.lt
      have HST1 := Lib.hid (fun Y (hb : Below X.heap.size X Y) => HST.out Y b hb)
      have HSB1 := Lib.hid (fun Y p' c' (hb : Below X.heap.size X Y) => HSB.out Y b p' c' hb HWB.out)
      clear hbe h1 hWN hBW
      obtain ⟨⟨x1, x2, y1, y2⟩, bi⟩ := b
      unfold bvs at hW
      unfold bv at HST1 HSB1
      simp only at n0 n1 n2 n3 n4 HST1 HSB1
      have HW1 := Lib.hid hW
      clear hW
      go_upto_region 4 with fail
      rw [← HW1.out]
      clear HW1 n0 n1 n2 n3 n4
      refine wp_region_qk Bw (fun w => Below.refl _ w) [5] (by kernel_rfl) (by kernel_rfl) ?_
      have HB3 := Lib.hid (show Below X.heap.size X W.drew from HBW.out.drew)
      have HWN3 := Lib.hid (show X1 W.drew wr.heap.size 0 ((x1, x2, y1, y2), bi) from HWN.out.keep ((Below.refl _ W).drew) HLT.out)
      have HLT3 := Lib.hid HWN3.out.lt
      clear HBW HWN HLT
      generalize W.drew = w3 at *
      refine callsH_cons ?_
      simp only [Nat.reduceSub, Nat.reduceAdd, List.take_succ_cons, List.take_zero, List.drop_succ_cons, List.drop_zero]
      have inst : Nonempty (Wd (Bw w3)) := ⟨⟨w3, Below.refl _ _⟩⟩
      have a0 : ∀ z : Wd (Bw w3), z.w.cell? ⟨wr.heap.size, 0, none⟩ = some (.int .i64 x1) := fun z => (HWN3.out.keep z.h HLT3.out).c0
      have a1 : ∀ z : Wd (Bw w3), z.w.cell? ⟨wr.heap.size, 1, none⟩ = some (.int .i64 x2) := fun z => by have := (HWN3.out.keep z.h HLT3.out).c1; simpa using this
      have a2 : ∀ z : Wd (Bw w3), z.w.cell? ⟨wr.heap.size, 2, none⟩ = some (.int .i64 y1) := fun z => by have := (HWN3.out.keep z.h HLT3.out).c2; simpa using this
      have a3 : ∀ z : Wd (Bw w3), z.w.cell? ⟨wr.heap.size, 3, none⟩ = some (.int .i64 y2) := fun z => by have := (HWN3.out.keep z.h HLT3.out).c3; simpa using this
      have a4 : ∀ z : Wd (Bw w3), z.w.cell? ⟨wr.heap.size, 4, none⟩ = some (.int .u32 bi) := fun z => by have := (HWN3.out.keep z.h HLT3.out).c4; simpa using this
      repeat (first | go_big_quiet_step (fail) | quiet_step (fail))
      refine wpQuiet_nil ?_
      rintro _ ⟨z, rfl⟩
      clear a0 a1 a2 a3 a4
      refine gOp_call rfl rfl (f := 41) (args := #[.slice p l c, .agg #[.int .i64 x1, .int .i64 x2, .int .i64 y1, .int .i64 y2, .int .u32 bi]]) ?_ ?_
      · simp [execOp, resolve, invoke, Act.eval, Deferred.ofValue, go_sem]
      refine (HST1.out _ (HB3.out.trans (z.h.mono HB3.out.size))).mono ?_
      rintro e w4 ⟨r, rfl, hr, hb⟩
      obtain ⟨-, q2, cq, rfl, hq, -⟩ := row_u hr
      have HQ2 := Lib.hid hq
      have hbz := z.h.trans (hb.mono z.h.size)
      refine ⟨_, rfl, ⟨⟨w4, hbz⟩, rfl⟩, ?_⟩
      have HB4 := Lib.hid (HB3.out.trans (hbz.mono HB3.out.size))
      clear hr hq hb hbz
      refine gOp_call rfl rfl (f := 37) (args := #[v, .agg #[.int .i64 x1, .int .i64 x2, .int .i64 y1, .int .i64 y2, .int .u32 bi], .slice q2 (hsS L (x1, x2, y1, y2)).length cq]) ?_ ?_
      · simp [execOp, resolve, invoke, Act.eval, Deferred.ofValue, go_sem]
      refine (HSB1.out _ _ _ HB4.out HQ2.out).mono ?_
      rintro e w5 ⟨rfl, hb⟩
      refine ⟨_, rfl, ?_⟩
      have HB5 := Lib.hid (HB4.out.trans (hb.mono HB4.out.size))
      clear hb HQ2 HB4 HB3 inst
      refine callsH_nil ?_
      repeat (first | go_big_quiet_step (fail) | quiet_step (fail))
      refine wpQuiet_nil ?_
      go_wp2
      go_roundw
      case rel => exact ⟨k + 1, by omega, by go_num, HB5⟩
      case measure => simp [intOf]; omega
    · have hltz : ¬ (k : Int) < m := by omega
      go_wp2_with (go_at_call 18; (with_reducible refine (HN.out _ HB.out).mono ?_); rintro e w1 ⟨rfl, hb⟩; have HB1 := Lib.hid (HB.out.trans (hb.mono HB.out.size)); clear hb)
      go_ret
      exact ⟨rfl, HB1.out⟩
end
end Go.Proofs.YtfcpfffgodljeaaGreat
