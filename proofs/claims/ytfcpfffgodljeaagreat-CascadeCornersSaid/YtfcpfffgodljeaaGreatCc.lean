/-
  CascadeCorners: how many a box has is how many are up to its greatest corner, less those that are left of it, and those below it, and once more those that are both; over any tree.
-/
import Derived.Test.YtfcpfffgodljeaaGreatCd
namespace Go.Proofs.YtfcpfffgodljeaaGreat.Ca
open Go.ChangeShapes Go.WideShapes Go.ChangeAt Go.RowKit Go.Joins

def least : Int := -9223372036854775808
set_option maxRecDepth 100000 in
set_option maxHeartbeats 12800000 in
theorem corners_main {TS : World → Value → Nat → List Nat → List S3 → Prop} (C : CascC TS) (w : World) (p qd : Option Addr) (c cd : Nat) (L : List S3) (x1 x2 y1 y2 bi : Int) (D : List Int) (hx : TsS w p L) (hc : L.length ≤ c) (hp : p = none → c = 0) (hw : ∀ s ∈ L, Wf3 s) (hb : Wf5 ((x1, x2, y1, y2), bi)) (hD : NS w qd .u8 D) (hcd : D.length ≤ cd) (hwd : ∀ x ∈ D, (Lit.int .u8 x).wf = true) (hbig : L.length ≤ 100)
    (h1 : -9223372036854775808 < x1) (h2 : -9223372036854775808 < y1) (h3 : x1 ≤ x2) (h4 : y1 ≤ y2) :
    Calls Tryz.prog 12 #[.slice p L.length c, bv ((x1, x2, y1, y2), bi), .slice qd D.length cd] w fun e w' => e = .returned (.bool true) ∧ Below w.heap.size w w' := by
  have HAW := Lib.hid (awake_any C)
  have hbz : ¬ (100 : Int) < L.length := by omega
  have h1e : (x1 == -9223372036854775808) = false := beq_false_of_ne (by omega)
  have h2e : (y1 == -9223372036854775808) = false := beq_false_of_ne (by omega)
  have h3e : ¬ x2 < x1 := by omega
  have h4e : ¬ y2 < y1 := by omega
  have HDR := Lib.hid (fun X (hX : Below w.heap.size w X) => dropped_any C X p qd c cd L D (hx.keep hX) hc hp hw (by omega) (hD.keep hX) hcd hwd)
  obtain ⟨W, hW⟩ : ∃ W, W = w.alloc (.cells (bvs ((x1, x2, y1, y2), bi)).toArray 42) := ⟨_, rfl⟩
  have HNb := Lib.hid (show X1 W w.heap.size 0 ((x1, x2, y1, y2), bi) by rw [hW]; exact X1.new w _ _)
  have HB0 := Lib.hid (show Below w.heap.size w W by rw [hW]; exact (Below.refl _ w).alloc (Nat.le_refl _) _)
  have HW1 := Lib.hid (show w.alloc (.cells #[.int .i64 x1, .int .i64 x2, .int .i64 y1, .int .i64 y2, .int .u32 bi] 42) = W from hW.symm)
  have HLb := Lib.hid HNb.out.lt
  have a0 := HNb.out.c0
  have a1 := HNb.out.c1
  have a2 := HNb.out.c2
  have a3 := HNb.out.c3
  have a4 := HNb.out.c4
  simp only [Nat.zero_add] at a0 a1 a2 a3 a4
  clear hW
  have r1 := i64_range hb.1.1
  have r2 := i64_range hb.1.2.1
  have r3 := i64_range hb.1.2.2.1
  have r4 := i64_range hb.1.2.2.2
  simp only at r1 r2 r3 r4
  have hal := dk_len L D (min D.length 100)
  have hdw : ∀ s ∈ dk L D (min D.length 100), -9223372036854775808 ≤ s.1 ∧ -9223372036854775808 ≤ s.2.1 := fun s hs => by
    have := hw s ((dk_sub L D _).subset hs)
    exact ⟨(i64_range this.1).1, (i64_range this.2.1).1⟩
  generalize hA : dk L D (min D.length 100) = A at *
  have wl : (Lit.int .i64 (-9223372036854775808)).wf = true := rfl
  have wx : (Lit.int .i64 (x1 - 1)).wf = true := WalkArith.wf_i64 (by omega)
  have wy : (Lit.int .i64 (y1 - 1)).wf = true := WalkArith.wf_i64 (by omega)
  have HC0 := Lib.hid (fun X v n S (h : TS X v n S A) => C.count ((x1, x2, y1, y2), bi) h hb)
  have HC1 := Lib.hid (fun X v n S (h : TS X v n S A) => C.count ((-9223372036854775808, x2, -9223372036854775808, y2), 0) h ⟨⟨wl, hb.1.2.1, wl, hb.1.2.2.2⟩, rfl⟩)
  have HC2 := Lib.hid (fun X v n S (h : TS X v n S A) => C.count ((-9223372036854775808, x1 - 1, -9223372036854775808, y2), 0) h ⟨⟨wl, wx, wl, hb.1.2.2.2⟩, rfl⟩)
  have HC3 := Lib.hid (fun X v n S (h : TS X v n S A) => C.count ((-9223372036854775808, x2, -9223372036854775808, y1 - 1), 0) h ⟨⟨wl, hb.1.2.1, wl, wy⟩, rfl⟩)
  have HC4 := Lib.hid (fun X v n S (h : TS X v n S A) => C.count ((-9223372036854775808, x1 - 1, -9223372036854775808, y1 - 1), 0) h ⟨⟨wl, wx, wl, wy⟩, rfl⟩)
  have hsum := hs_corners A (m := -9223372036854775808) hdw h3 h4
  have q0 := hsS_len A (x1, x2, y1, y2)
  have q1 := hsS_len A (-9223372036854775808, x2, -9223372036854775808, y2)
  have q2 := hsS_len A (-9223372036854775808, x1 - 1, -9223372036854775808, y2)
  have q3 := hsS_len A (-9223372036854775808, x2, -9223372036854775808, y1 - 1)
  have q4 := hsS_len A (-9223372036854775808, x1 - 1, -9223372036854775808, y1 - 1)
  unfold bv at HC0 HC1 HC2 HC3 HC4 ⊢
  simp only at HC0 HC1 HC2 HC3 HC4
  generalize (hsS A (x1, x2, y1, y2)).length = c0 at *
  generalize (hsS A (-9223372036854775808, x2, -9223372036854775808, y2)).length = c1 at *
  generalize (hsS A (-9223372036854775808, x1 - 1, -9223372036854775808, y2)).length = c2 at *
  generalize (hsS A (-9223372036854775808, x2, -9223372036854775808, y1 - 1)).length = c3 at *
  generalize (hsS A (-9223372036854775808, x1 - 1, -9223372036854775808, y1 - 1)).length = c4 at *
  obtain ⟨r1, r1'⟩ := r1
  obtain ⟨r2, r2'⟩ := r2
  obtain ⟨r3, r3'⟩ := r3
  obtain ⟨r4, r4'⟩ := r4
  obtain ⟨m, hmm⟩ : ∃ m, m = L.length := ⟨_, rfl⟩
  rw [← hmm] at HDR hbz hbig hal ⊢
  generalize D.length = dl at *
  clear hx hc hp hw hb hD hcd hwd hmm hdw hA wl wx wy
  by_cases hrg : Rg L
  · have HRG := Lib.hid hrg
    clear hrg
    go_enter Tryz.func12, Tryz.ntmps12
    go_upto_block 0 with fail
    rw [HW1.out]
    go_wp2_with (first
      | (go_at_call 33; (with_reducible refine (HDR.out _ HB0.out).mono ?_); rintro e w1 ⟨hb, hor⟩; rcases hor with ⟨-, v, S, rfl, hT⟩ | ⟨hn', -⟩; rotate_left; (exact absurd HRG.out hn'); have HT := Lib.hid hT; have HB := Lib.hid (HB0.out.trans (hb.mono HB0.out.size)); have HNb := Lib.hid (HNb.out.keep hb HLb.out); have HLb := Lib.hid HNb.out.lt; have k0 := HNb.out.c0; have k1 := HNb.out.c1; have k2 := HNb.out.c2; have k3 := HNb.out.c3; have k4 := HNb.out.c4; simp only [Nat.zero_add] at k0 k1 k2 k3 k4; clear hb hT)
      | (go_at_call 35; (with_reducible refine (HC0.out _ _ _ _ HT.out).mono ?_); rintro e w2 ⟨⟨t0, rfl, -⟩, hb⟩; have HNb := Lib.hid (HNb.out.keep hb HLb.out); have HLb := Lib.hid HNb.out.lt; have k0 := HNb.out.c0; have k1 := HNb.out.c1; have k2 := HNb.out.c2; have k3 := HNb.out.c3; have k4 := HNb.out.c4; simp only [Nat.zero_add] at k0 k1 k2 k3 k4; have HT := Lib.hid (C.bel HT.out hb); have HB := Lib.hid (HB.out.trans (hb.mono HB.out.size)); clear hb)
      | (go_at_call 35; (with_reducible refine (HC1.out _ _ _ _ HT.out).mono ?_); rintro e w3 ⟨⟨t1, rfl, -⟩, hb⟩; have HNb := Lib.hid (HNb.out.keep hb HLb.out); have HLb := Lib.hid HNb.out.lt; have k0 := HNb.out.c0; have k1 := HNb.out.c1; have k2 := HNb.out.c2; have k3 := HNb.out.c3; have k4 := HNb.out.c4; simp only [Nat.zero_add] at k0 k1 k2 k3 k4; have HT := Lib.hid (C.bel HT.out hb); have HB := Lib.hid (HB.out.trans (hb.mono HB.out.size)); clear hb)
      | (go_at_call 35; (with_reducible refine (HC2.out _ _ _ _ HT.out).mono ?_); rintro e w4 ⟨⟨t2, rfl, -⟩, hb⟩; have HNb := Lib.hid (HNb.out.keep hb HLb.out); have HLb := Lib.hid HNb.out.lt; have k0 := HNb.out.c0; have k1 := HNb.out.c1; have k2 := HNb.out.c2; have k3 := HNb.out.c3; have k4 := HNb.out.c4; simp only [Nat.zero_add] at k0 k1 k2 k3 k4; have HT := Lib.hid (C.bel HT.out hb); have HB := Lib.hid (HB.out.trans (hb.mono HB.out.size)); clear hb)
      | (go_at_call 35; (with_reducible refine (HC3.out _ _ _ _ HT.out).mono ?_); rintro e w5 ⟨⟨t3, rfl, -⟩, hb⟩; have HNb := Lib.hid (HNb.out.keep hb HLb.out); have HLb := Lib.hid HNb.out.lt; have k0 := HNb.out.c0; have k1 := HNb.out.c1; have k2 := HNb.out.c2; have k3 := HNb.out.c3; have k4 := HNb.out.c4; simp only [Nat.zero_add] at k0 k1 k2 k3 k4; have HT := Lib.hid (C.bel HT.out hb); have HB := Lib.hid (HB.out.trans (hb.mono HB.out.size)); clear hb)
      | (go_at_call 35; (with_reducible refine (HC4.out _ _ _ _ HT.out).mono ?_); rintro e w6 ⟨⟨t4, rfl, -⟩, hb⟩; have HNb := Lib.hid (HNb.out.keep hb HLb.out); have HLb := Lib.hid HNb.out.lt; have k0 := HNb.out.c0; have k1 := HNb.out.c1; have k2 := HNb.out.c2; have k3 := HNb.out.c3; have k4 := HNb.out.c4; simp only [Nat.zero_add] at k0 k1 k2 k3 k4; have HT := Lib.hid (C.bel HT.out hb); have HB := Lib.hid (HB.out.trans (hb.mono HB.out.size)); clear hb)
      | (go_at_call 28; (with_reducible refine (HAW.out _).mono ?_); rintro e w90 ⟨rfl, hb⟩; have HB := Lib.hid (HB.out.trans (hb.mono HB.out.size)); clear hb))
    go_ret
    exact ⟨rfl, HB.out⟩
  · have HRG := Lib.hid hrg
    clear hrg
    go_enter Tryz.func12, Tryz.ntmps12
    go_upto_block 0 with fail
    rw [HW1.out]
    go_wp2_with (first
      | (go_at_call 33; (with_reducible refine (HDR.out _ HB0.out).mono ?_); rintro e w1 ⟨hb, hor⟩; rcases hor with ⟨hn, -⟩ | ⟨-, rfl⟩; (exact absurd hn HRG.out); have HB := Lib.hid (HB0.out.trans (hb.mono HB0.out.size)); clear hb)
      | (go_at_call 28; (with_reducible refine (HAW.out _).mono ?_); rintro e w90 ⟨rfl, hb⟩; have HB := Lib.hid (HB.out.trans (hb.mono HB.out.size)); clear hb))
    go_ret
    exact ⟨rfl, HB.out⟩

set_option maxRecDepth 100000 in
set_option maxHeartbeats 12800000 in
theorem corners_walk {TS : World → Value → Nat → List Nat → List S3 → Prop} (C : CascC TS) (w : World) (p qd : Option Addr) (c cd : Nat) (L : List S3) (b : B5) (D : List Int) (hx : TsS w p L) (hc : L.length ≤ c) (hp : p = none → c = 0) (hw : ∀ s ∈ L, Wf3 s) (hb : Wf5 b) (hD : NS w qd .u8 D) (hcd : D.length ≤ cd) (hwd : ∀ x ∈ D, (Lit.int .u8 x).wf = true) :
    Calls Tryz.prog 12 #[.slice p L.length c, bv b, .slice qd D.length cd] w fun e w' => e = .returned (.bool true) ∧ Below w.heap.size w w' := by
  have HAW := Lib.hid (awake_any C)
  obtain ⟨⟨x1, x2, y1, y2⟩, bi⟩ := b
  obtain ⟨W, hW⟩ : ∃ W, W = w.alloc (.cells (bvs ((x1, x2, y1, y2), bi)).toArray 42) := ⟨_, rfl⟩
  have HNb := Lib.hid (show X1 W w.heap.size 0 ((x1, x2, y1, y2), bi) by rw [hW]; exact X1.new w _ _)
  have HB0 := Lib.hid (show Below w.heap.size w W by rw [hW]; exact (Below.refl _ w).alloc (Nat.le_refl _) _)
  have HW1 := Lib.hid (show w.alloc (.cells #[.int .i64 x1, .int .i64 x2, .int .i64 y1, .int .i64 y2, .int .u32 bi] 42) = W from hW.symm)
  clear hW
  have a0 := HNb.out.c0
  have a1 := HNb.out.c1
  have a2 := HNb.out.c2
  have a3 := HNb.out.c3
  have a4 := HNb.out.c4
  simp only [Nat.zero_add] at a0 a1 a2 a3 a4
  have r1 := (i64_range hb.1.1).1
  have r3 := (i64_range hb.1.2.2.1).1
  simp only at r1 r3
  by_cases hbig : L.length ≤ 100
  · have hbz : ¬ (100 : Int) < L.length := by omega
    by_cases h1 : x1 = -9223372036854775808
    · subst h1
      unfold bv
      simp only
      clear hx hc hp hw hb hD hcd hwd hbig
      generalize L.length = m at *
      generalize D.length = dl at *
      go_enter Tryz.func12, Tryz.ntmps12
      go_upto_block 0 with fail
      rw [HW1.out]
      go_wp2_with (go_at_call 28; (with_reducible refine (HAW.out _).mono ?_); rintro e w90 ⟨rfl, hb⟩; have HB := Lib.hid (HB0.out.trans (hb.mono HB0.out.size)); clear hb)
      go_ret
      exact ⟨rfl, HB.out⟩
    · have h1e : (x1 == -9223372036854775808) = false := beq_false_of_ne h1
      by_cases h2 : y1 = -9223372036854775808
      · subst h2
        unfold bv
        simp only
        clear hx hc hp hw hb hD hcd hwd hbig
        generalize L.length = m at *
        generalize D.length = dl at *
        go_enter Tryz.func12, Tryz.ntmps12
        go_upto_block 0 with fail
        rw [HW1.out]
        go_wp2_with (go_at_call 28; (with_reducible refine (HAW.out _).mono ?_); rintro e w90 ⟨rfl, hb⟩; have HB := Lib.hid (HB0.out.trans (hb.mono HB0.out.size)); clear hb)
        go_ret
        exact ⟨rfl, HB.out⟩
      · have h2e : (y1 == -9223372036854775808) = false := beq_false_of_ne h2
        by_cases h3 : x1 ≤ x2
        · have h3e : ¬ x2 < x1 := by omega
          by_cases h4 : y1 ≤ y2
          · exact corners_main C w p qd c cd L x1 x2 y1 y2 bi D hx hc hp hw hb hD hcd hwd hbig (by omega) (by omega) h3 h4
          · have h4e : y2 < y1 := by omega
            unfold bv
            simp only
            clear hx hc hp hw hb hD hcd hwd hbig h3 h4
            generalize L.length = m at *
            generalize D.length = dl at *
            go_enter Tryz.func12, Tryz.ntmps12
            go_upto_block 0 with fail
            rw [HW1.out]
            go_wp2_with (go_at_call 28; (with_reducible refine (HAW.out _).mono ?_); rintro e w90 ⟨rfl, hb⟩; have HB := Lib.hid (HB0.out.trans (hb.mono HB0.out.size)); clear hb)
            go_ret
            exact ⟨rfl, HB.out⟩
        · have h3e : x2 < x1 := by omega
          unfold bv
          simp only
          clear hx hc hp hw hb hD hcd hwd hbig h3
          generalize L.length = m at *
          generalize D.length = dl at *
          go_enter Tryz.func12, Tryz.ntmps12
          go_upto_block 0 with fail
          rw [HW1.out]
          go_wp2_with (go_at_call 28; (with_reducible refine (HAW.out _).mono ?_); rintro e w90 ⟨rfl, hb⟩; have HB := Lib.hid (HB0.out.trans (hb.mono HB0.out.size)); clear hb)
          go_ret
          exact ⟨rfl, HB.out⟩
  · have hbz : (100 : Int) < L.length := by omega
    unfold bv
    simp only
    clear hx hc hp hw hb hD hcd hwd hbig
    generalize L.length = m at *
    generalize D.length = dl at *
    go_enter Tryz.func12, Tryz.ntmps12
    go_upto_block 0 with fail
    rw [HW1.out]
    go_wp2_with (go_at_call 28; (with_reducible refine (HAW.out _).mono ?_); rintro e w90 ⟨rfl, hb⟩; have HB := Lib.hid (HB0.out.trans (hb.mono HB0.out.size)); clear hb)
    go_ret
    exact ⟨rfl, HB.out⟩
end Go.Proofs.YtfcpfffgodljeaaGreat.Ca
