/-
  The law's asked, over any tree of spans by their middles. No condition but those typed at each theorem.
-/
import Derived.Test.YtgcimicbbadapaaGreatJm
import Derived.Test.YtgcimicbbadapaaGreatQk
namespace Go.Proofs.YtgcimicbbadapaaGreat.Iv
open Go.RowKit

set_option maxRecDepth 100000 in
set_option maxHeartbeats 6400000 in
theorem asked_any {TS : World → Value → Nat → List Nat → List S3 → Prop} {X : World} {v : Value} {n : Nat} {S : List Nat} {A : List S3} (C : IvlC TS) (h : TS X v n S A) (p q : Option Addr) (c d : Nat) (L : List S3) (xs : List Int) (hL : TsS X p L) (hx : NS X q .i64 xs) (hl : L.length ≤ 8192) (hxl : xs.length ≤ 8192) (hp : A.Perm L) :
    Calls Tryz.prog 12 #[v, .slice p L.length c, .slice q xs.length d] X fun e X' => e = .returned (.bool true) ∧ Below X.heap.size X X' := by
  have HN := Lib.hid (fun Y (hb : Below X.heap.size X Y) => by have := C.len (C.bel h hb); rw [hp.length_eq] at this; exact this)
  have HTS := Lib.hid (fun Y (hb : Below X.heap.size X Y) x => C.stab x (C.bel h hb))
  have HST := Lib.hid (fun Y (hb : Below X.heap.size X Y) x => RStab Y p c L x (hL.keep hb) hl)
  have HRM := Lib.hid (fun Y (hb : Below X.heap.size X Y) x y => RMeet Y p c L x y (hL.keep hb) hl)
  have HSA : Hid (∀ Y x q1 c1 q2 c2, NS Y q1 .u32 (stb A x) → NS Y q2 .u32 (stb L x) → Calls Tryz.prog 20 #[.slice q1 (stb A x).length c1, .slice q2 (stb L x).length c2] Y fun e w' => e = .returned (.bool true) ∧ Below Y.heap.size Y w') := Lib.hid (fun Y x q1 c1 q2 c2 h1 h2 => by
    have e := stb_perm hp x
    refine (sameIDs_any Y q1 q2 c1 c2 _ _ h1 h2 (by have := stb_len L x; rw [e]; omega)).mono ?_
    rintro e' w' ⟨rfl, hb⟩
    exact ⟨by simp [e], hb⟩)
  have HME : Hid (∀ Y x y p' c', Below X.heap.size X Y → NS Y p' .u32 (mtS L x y) → Calls Tryz.prog 22 #[v, .int .i64 x, .int .i64 y, .slice p' (mtS L x y).length c'] Y fun e X' => e = .returned (.bool true) ∧ Below Y.heap.size Y X') := Lib.hid (fun Y x y p' c' hb hn => by
    have e : mtS A x y = mtS L x y := by unfold mtS mtL; split; exact nsort_eq ((hp.filter _).map _); rfl
    have := imeets_any C (C.bel h hb) x y p' c' (by rw [e]; exact hn)
    rw [e] at this
    exact this)
  have HX := Lib.hid hx
  obtain ⟨m, hm⟩ : ∃ m, m = xs.length := ⟨_, rfl⟩
  have HM := Lib.hid hm
  rw [← hm] at hxl ⊢
  clear h hL hx hm hp
  generalize hll : L.length = l at *
  clear hll
  go_enter Tryz.func12, Tryz.ntmps12
  go_wp2
  go_loopw [13] (fun i wr => ∃ k : Nat, k ≤ m ∧ i = .int .i64 k ∧ Hid (Below X.heap.size X wr)) (fun i _ => m - (intOf i).toNat)
  case atStart => exact ⟨0, Nat.zero_le _, rfl, Lib.hid (Below.refl _ _)⟩
  case round =>
    obtain ⟨k, hk, rfl, HB⟩ := hrel
    by_cases hlt : k < m
    · have hltz : (k : Int) < m := by omega
      have h0m : (0 : Int) < m := by omega
      obtain ⟨j, hj⟩ : ∃ j, j = k / 2 := ⟨_, rfl⟩
      have hjm : (j : Int) < m := by omega
      have hquo : Int.tdiv (k : Int) 2 = (j : Int) := by rw [Int.tdiv_eq_ediv_of_nonneg (by omega), hj]; rfl
      obtain ⟨x, hxe⟩ : ∃ x, xs[k]? = some x := ⟨_, List.getElem?_eq_getElem (by have := HM.out; omega)⟩
      obtain ⟨y, hye⟩ : ∃ y, xs[0]? = some y := ⟨_, List.getElem?_eq_getElem (by have := HM.out; omega)⟩
      obtain ⟨z8, hze⟩ : ∃ z, xs[j]? = some z := ⟨_, List.getElem?_eq_getElem (by have := HM.out; omega)⟩
      rcases HX.out with h0 | ⟨b, off, rfl, h1⟩
      · rw [h0] at hxe; simp at hxe
      · have HCX := Lib.hid (fun Y (hb : Below X.heap.size X Y) => ((hb.cell (World.block_lt_of_cell? _ _ (h1 k x hxe))).trans (h1 k x hxe) : Y.cell? ⟨b, off + k, none⟩ = some (.int .i64 x)))
        have HCY := Lib.hid (fun Y (hb : Below X.heap.size X Y) => ((hb.cell (World.block_lt_of_cell? _ _ (h1 0 y hye))).trans (h1 0 y hye) : Y.cell? ⟨b, off, none⟩ = some (.int .i64 y)))
        have HCZ := Lib.hid (fun Y (hb : Below X.heap.size X Y) => ((hb.cell (World.block_lt_of_cell? _ _ (h1 j z8 hze))).trans (h1 j z8 hze) : Y.cell? ⟨b, off + j, none⟩ = some (.int .i64 z8)))
        have cx := HCX.out _ HB.out
        have HS1 := Lib.hid (fun Y (hb : Below X.heap.size X Y) => HTS.out Y hb x)
        clear h1 hxe hye hze hj
        go_upto_region 5 with (go_at_call 16; (with_reducible refine (HS1.out _ HB.out).mono ?_); rintro e w2 ⟨⟨r, t, rfl, hr, -, -⟩, hb⟩; obtain ⟨-, q1, c1, rfl, hq, -⟩ := hr.u; have HQ := Lib.hid hq; have HB2 := Lib.hid (HB.out.trans (hb.mono HB.out.size)); clear hr hb hq)
        clear cx
        refine wp_region_qk Bw (fun w => Below.refl _ w) [4, 18, 37] (by kernel_rfl) (by kernel_rfl) ?_
        have HB3 := Lib.hid (show Below X.heap.size X w2.drew from HB2.out.drew)
        have HQ3 := Lib.hid (show NS w2.drew q1 .u32 (stb A x) from HQ.out.keep ((Below.refl _ w2).drew))
        clear HB2 HQ
        generalize w2.drew = w3 at *
        refine callsH_cons ?_
        simp only [Nat.reduceSub, Nat.reduceAdd, List.take_succ_cons, List.take_zero, List.drop_succ_cons, List.drop_zero]
        have inst : Nonempty (Wd (Bw w3)) := ⟨⟨w3, Below.refl _ _⟩⟩
        repeat (first | go_big_quiet_step (fail) | quiet_step (fail))
        refine wpQuiet_nil ?_
        rintro _ ⟨z, rfl⟩
        refine gOp_call rfl rfl (f := 26) (args := #[.slice p l c, .int .i64 x]) ?_ ?_
        · simp [execOp, resolve, invoke, Act.eval, Deferred.ofValue, go_sem]
        refine (HST.out _ (HB3.out.trans (z.h.mono HB3.out.size)) x).mono ?_
        rintro e w4 ⟨r, rfl, hr, hb⟩
        obtain ⟨-, q2, cq, rfl, hq, -⟩ := row_u hr
        have HQ2 := Lib.hid hq
        have hbz := z.h.trans (hb.mono z.h.size)
        refine ⟨_, rfl, ⟨⟨w4, hbz⟩, rfl⟩, ?_⟩
        have HQ4 := Lib.hid (HQ3.out.keep hbz)
        have HB4 := Lib.hid (HB3.out.trans (hbz.mono HB3.out.size))
        clear hr hq hb hbz HQ3
        refine gOp_call rfl rfl (f := 20) (args := #[.slice q1 (stb A x).length c1, .slice q2 (stb L x).length cq]) ?_ ?_
        · simp [execOp, resolve, invoke, Act.eval, Deferred.ofValue, go_sem]
        refine (HSA.out _ x _ _ _ _ HQ4.out HQ2.out).mono ?_
        rintro e w5 ⟨rfl, hb⟩
        refine ⟨_, rfl, ?_⟩
        have HB5 := Lib.hid (HB4.out.trans (hb.mono HB4.out.size))
        clear hb HQ4 HQ2 HB4 HB3 inst
        refine callsH_cons ?_
        simp only [Nat.reduceSub, Nat.reduceAdd, List.take_succ_cons, List.take_zero, List.drop_succ_cons, List.drop_zero]
        have inst : Nonempty (Wd (Bw w5)) := ⟨⟨w5, Below.refl _ _⟩⟩
        have ay : ∀ z : Wd (Bw w5), z.w.cell? ⟨b, off, none⟩ = some (.int .i64 y) := fun z => HCY.out _ (HB5.out.trans (z.h.mono HB5.out.size))
        repeat (first | go_big_quiet_step (fail) | quiet_step (fail))
        refine wpQuiet_nil ?_
        rintro _ ⟨z2, rfl⟩
        clear ay
        refine gOp_call rfl rfl (f := 27) (args := #[.slice p l c, .int .i64 y, .int .i64 x]) ?_ ?_
        · simp [execOp, resolve, invoke, Act.eval, Deferred.ofValue, go_sem]
        refine (HRM.out _ (HB5.out.trans (z2.h.mono HB5.out.size)) y x).mono ?_
        rintro e w6 ⟨r, rfl, hr, hb⟩
        obtain ⟨-, q5, cq5, rfl, hq, -⟩ := row_u hr
        have HQ5 := Lib.hid hq
        have hbz := z2.h.trans (hb.mono z2.h.size)
        refine ⟨_, rfl, ⟨⟨w6, hbz⟩, rfl⟩, ?_⟩
        have HB6 := Lib.hid (HB5.out.trans (hbz.mono HB5.out.size))
        clear hr hq hb hbz
        refine gOp_call rfl rfl (f := 22) (args := #[v, .int .i64 y, .int .i64 x, .slice q5 (mtS L y x).length cq5]) ?_ ?_
        · simp [execOp, resolve, invoke, Act.eval, Deferred.ofValue, go_sem]
        refine (HME.out _ y x _ _ HB6.out HQ5.out).mono ?_
        rintro e w7 ⟨rfl, hb⟩
        refine ⟨_, rfl, ?_⟩
        have HB7 := Lib.hid (HB6.out.trans (hb.mono HB6.out.size))
        clear hb HQ5 HB6 HB5 inst
        refine callsH_cons ?_
        simp only [Nat.reduceSub, Nat.reduceAdd, List.take_succ_cons, List.take_zero, List.drop_succ_cons, List.drop_zero]
        have inst : Nonempty (Wd (Bw w7)) := ⟨⟨w7, Below.refl _ _⟩⟩
        have az : ∀ z : Wd (Bw w7), z.w.cell? ⟨b, off + j, none⟩ = some (.int .i64 z8) := fun z => HCZ.out _ (HB7.out.trans (z.h.mono HB7.out.size))
        repeat (first | go_big_quiet_step (fail) | quiet_step (fail))
        refine wpQuiet_nil ?_
        rintro _ ⟨z3, rfl⟩
        clear az
        refine gOp_call rfl rfl (f := 27) (args := #[.slice p l c, .int .i64 x, .int .i64 z8]) ?_ ?_
        · simp [execOp, resolve, invoke, Act.eval, Deferred.ofValue, go_sem]
        refine (HRM.out _ (HB7.out.trans (z3.h.mono HB7.out.size)) x z8).mono ?_
        rintro e w8 ⟨r, rfl, hr, hb⟩
        obtain ⟨-, q7, cq7, rfl, hq, -⟩ := row_u hr
        have HQ7 := Lib.hid hq
        have hbz := z3.h.trans (hb.mono z3.h.size)
        refine ⟨_, rfl, ⟨⟨w8, hbz⟩, rfl⟩, ?_⟩
        have HB8 := Lib.hid (HB7.out.trans (hbz.mono HB7.out.size))
        clear hr hq hb hbz
        refine gOp_call rfl rfl (f := 22) (args := #[v, .int .i64 x, .int .i64 z8, .slice q7 (mtS L x z8).length cq7]) ?_ ?_
        · simp [execOp, resolve, invoke, Act.eval, Deferred.ofValue, go_sem]
        refine (HME.out _ x z8 _ _ HB8.out HQ7.out).mono ?_
        rintro e w9 ⟨rfl, hb⟩
        refine ⟨_, rfl, ?_⟩
        have HB9 := Lib.hid (HB8.out.trans (hb.mono HB8.out.size))
        clear hb HQ7 HB8 HB7 inst
        refine callsH_nil ?_
        repeat (first | go_big_quiet_step (fail) | quiet_step (fail))
        refine wpQuiet_nil ?_
        go_wp2
        go_roundw
        case rel => exact ⟨k + 1, by omega, by go_num, HB9⟩
        case measure => simp [intOf]; omega
    · have hltz : ¬ (k : Int) < m := by omega
      go_wp2_with (go_at_call 11; (with_reducible refine (HN.out _ HB.out).mono ?_); rintro e w1 ⟨rfl, hb⟩; have HB1 := Lib.hid (HB.out.trans (hb.mono HB.out.size)); clear hb)
      go_ret
      exact ⟨rfl, HB1.out⟩
end Go.Proofs.YtgcimicbbadapaaGreat.Iv
