/-
  CascadeBound: what a tree touches is at least what it tells, and beside that no more than a few times the tree's height, whatever was dropped; over any tree.
-/
import Derived.Test.YtfcpfffgodljeaaGreatCd
namespace Go.Proofs.YtfcpfffgodljeaaGreat.Ca
open Go.ChangeShapes Go.WideShapes Go.ChangeAt Go.RowKit Go.Joins

set_option maxRecDepth 100000 in
set_option maxHeartbeats 12800000 in
theorem bound_walk {TS : World → Value → Nat → List Nat → List S3 → Prop} (C : CascC TS) (w : World) (p q qd : Option Addr) (c d cd : Nat) (L : List S3) (xs : List B5) (D : List Int) (hx : TsS w p L) (hc : L.length ≤ c) (hp : p = none → c = 0) (hw : ∀ s ∈ L, Wf3 s) (hxs : BsS w q xs) (hd : xs.length ≤ d) (hwx : ∀ x ∈ xs, Wf5 x) (hD : NS w qd .u8 D) (hcd : D.length ≤ cd) (hwd : ∀ x ∈ D, (Lit.int .u8 x).wf = true) :
    Calls Tryz.prog 10 #[.slice p L.length c, .slice q xs.length d, .slice qd D.length cd] w fun e w' => e = .returned (.bool true) ∧ Below w.heap.size w w' := by
  have HAW := Lib.hid (awake_any C)
  by_cases hbig : L.length ≤ 250
  · have hbz : ¬ (250 : Int) < L.length := by omega
    have HXS := Lib.hid hxs
    have HWX := Lib.hid hwx
    have HDR := Lib.hid (dropped_any C w p qd c cd L D hx hc hp hw (by omega) hD hcd hwd)
    obtain ⟨h20, hh20⟩ : ∃ h, h = min xs.length 20 := ⟨_, rfl⟩
    have hmin := fun X ty => min20 X ty xs.length (h20 : Int) (by rw [hh20])
    have hsl := fun X => slX_to X q xs.length d h20 (by omega)
    have h20b : h20 ≤ 20 := by omega
    have HH20 := Lib.hid (show h20 ≤ xs.length by omega)
    have hal := dk_len L D (min D.length 100)
    obtain ⟨m, hmm⟩ : ∃ m, m = L.length := ⟨_, rfl⟩
    have HM := Lib.hid hmm
    rw [← hmm] at HDR hbz hbig hal ⊢
    obtain ⟨xl, hxl⟩ : ∃ l, l = xs.length := ⟨_, rfl⟩
    have HXL := Lib.hid hxl
    rw [← hxl] at hmin hsl HH20 ⊢
    generalize D.length = dl at *
    clear hx hc hp hw hxs hd hwx hD hcd hwd hh20 hmm hxl
    generalize dk L D (min dl 100) = A at *
    by_cases hrg : Rg L
    · have HRG := Lib.hid hrg
      obtain ⟨G, hG⟩ : ∃ G, G = lgN (m + 1) := ⟨_, rfl⟩
      have hG63 : G ≤ 63 := by
        by_cases h : m = 0
        · rw [hG, h, lg_small (by omega)]; omega
        · rw [hG]; exact (lg_spec (n := m + 1) (by omega) (by omega)).2.1
      have hmost : most m = 8 * G + 8 := by unfold most; rw [← hG]
      have HLG : Hid (∀ X, Calls Tryz.prog 23 #[.int .i64 ((m : Int) + 1)] X fun e w' => e = .returned (.int .i64 (G : Int)) ∧ w' = X) := Lib.hid (fun X => by
        have h := Log_any ((m : Int) + 1) X (by omega)
        have h2 : lgI ((m : Int) + 1) = G := by rw [hG]; unfold lgI; congr 1
        rw [h2] at h
        exact h)
      have hre := fun X v S b (h : TS X v m S A) (hb : Wf5 b) => C.report b h hb
      have hco := fun X v S b (h : TS X v m S A) (hb : Wf5 b) => C.count b h hb
      rw [hmost] at hre hco
      have HRE := Lib.hid hre
      have HCO := Lib.hid hco
      have HF := Lib.hid (show ∀ z, (hsS A z).length ≤ 250 from fun z => Nat.le_trans (hsS_len A z) (by omega))
      clear hG hmost hre hco hrg
      go_enter Tryz.func10, Tryz.ntmps10
      go_wp2_with (first
        | (go_at_call 33; (with_reducible refine HDR.out.mono ?_); rintro e w1 ⟨hb, hor⟩; rcases hor with ⟨-, v, S, rfl, hT⟩ | ⟨hn', -⟩; rotate_left; (exact absurd HRG.out hn'); have HT := Lib.hid hT; have HB := Lib.hid hb; clear hb hT)
        | (go_at_call 23; (with_reducible refine (HLG.out _).mono ?_); rintro e w2 ⟨rfl, hw2⟩; subst hw2))
      have HTx := HT
      have HBx := HB
      clear hmin hsl HDR HLG HRG HT HB
      go_loopw [41] (fun v41 wr => ∃ k : Nat, k ≤ h20 ∧ v41 = .int .i64 k ∧ Hid (TS wr v m S A) ∧ Hid (Below w.heap.size w wr)) (fun i _ => h20 - (intOf i).toNat)
      case atStart => exact ⟨0, Nat.zero_le _, rfl, HTx, HBx⟩
      case round =>
        clear HTx HBx
        obtain ⟨k, hk, rfl, HT, HB⟩ := hrel
        by_cases hlt : k < h20
        · have hltz : (k : Int) < h20 := by omega
          obtain ⟨b, hbe⟩ : ∃ b, xs[k]? = some b := ⟨_, List.getElem?_eq_getElem (by have := HH20.out; have := HXL.out; omega)⟩
          obtain ⟨bb, off, rfl, h1⟩ := (HXS.out.keep HB.out).at hbe
          have HWB := Lib.hid (HWX.out b (List.mem_of_getElem? hbe))
          have n0 := h1.c0
          have n1 := h1.c1
          have n2 := h1.c2
          have n3 := h1.c3
          have n4 := h1.c4
          obtain ⟨W, hW⟩ : ∃ W, W = wr.alloc (.cells (bvs b).toArray 42) := ⟨_, rfl⟩
          have HN := Lib.hid (show X1 W wr.heap.size 0 b by rw [hW]; exact X1.new wr b _)
          have HB := Lib.hid (show Below w.heap.size w W by rw [hW]; exact HB.out.alloc HB.out.size _)
          have HT := Lib.hid (show TS W v m S A by rw [hW]; exact C.bel HT.out ((Below.refl _ wr).alloc (Nat.le_refl _) _))
          have HLT := Lib.hid HN.out.lt
          have HS1 := Lib.hid (fun X (h : TS X v m S A) => HRE.out X v S b h HWB.out)
          have HS2 := Lib.hid (fun X (h : TS X v m S A) => HCO.out X v S b h HWB.out)
          have hsl := HF.out b.1
          clear hbe h1
          obtain ⟨⟨x1, x2, y1, y2⟩, bi⟩ := b
          unfold bvs at hW
          unfold bv at HS1 HS2
          simp only at n0 n1 n2 n3 n4 HS1 HS2 hsl
          have HW1 := Lib.hid hW
          clear hW
          generalize hsS A (x1, x2, y1, y2) = Z at *
          have HRL := Lib.hid (show ∀ (Y : World) r, RL Y r Z → ∃ q c, r = .slice q Z.length c from fun Y r h => by obtain ⟨q, c, h1, -⟩ := h; exact ⟨q, c, h1⟩)
          generalize hzl : Z.length = zl at *
          clear hzl
          have m0 := HN.out.c0
          have m1 := HN.out.c1
          have m2 := HN.out.c2
          have m3 := HN.out.c3
          have m4 := HN.out.c4
          simp only [Nat.zero_add] at m0 m1 m2 m3 m4
          go_upto_region 10 with fail
          rw [← HW1.out]
          clear HW1 n0 n1 n2 n3 n4
          go_wp2_with (first
            | (go_at_call 34; (with_reducible refine (HS1.out _ HT.out).mono ?_); rintro e w5 ⟨⟨r, t, rfl, hr, ht1, ht2⟩, hb⟩; obtain ⟨q1, c1, rfl⟩ := HRL.out _ _ hr; have HN := Lib.hid (HN.out.keep hb HLT.out); have HLT := Lib.hid HN.out.lt; have k0 := HN.out.c0; have k1 := HN.out.c1; have k2 := HN.out.c2; have k3 := HN.out.c3; have k4 := HN.out.c4; simp only [Nat.zero_add] at k0 k1 k2 k3 k4; have HT := Lib.hid (C.bel HT.out hb); have HB := Lib.hid (HB.out.trans (hb.mono HB.out.size)); have htz1 : ¬ (t : Int) < zl := (by omega); have htz2 : ¬ (zl : Int) + (8 * (G : Int) + 8) < t := (by omega); clear hr hb ht1 ht2)
            | (go_at_call 35; (with_reducible refine (HS2.out _ HT.out).mono ?_); rintro e w6 ⟨⟨t2, rfl, hc2⟩, hb⟩; have HT := Lib.hid (C.bel HT.out hb); have HB := Lib.hid (HB.out.trans (hb.mono HB.out.size)); have hcz1 : ¬ (t2 : Int) < 0 := (by omega); have hcz2 : ¬ 8 * (G : Int) + 8 < t2 := (by omega); clear hb hc2))
          go_roundw
          case rel => exact ⟨k + 1, by omega, by go_num, HT, HB⟩
          case measure => simp [intOf]; omega
        · have hltz : ¬ (k : Int) < h20 := by omega
          go_wp2_with (go_at_call 28; (with_reducible refine (HAW.out _).mono ?_); rintro e w90 ⟨rfl, hb⟩; have HB := Lib.hid (HB.out.trans (hb.mono HB.out.size)); clear hb)
          go_ret
          exact ⟨rfl, HB.out⟩
    · have HRG := Lib.hid hrg
      clear hrg
      go_enter Tryz.func10, Tryz.ntmps10
      go_wp2_with (first
        | (go_at_call 33; (with_reducible refine HDR.out.mono ?_); rintro e w1 ⟨hb, hor⟩; rcases hor with ⟨hn, -⟩ | ⟨-, rfl⟩; (exact absurd hn HRG.out); have HB := Lib.hid hb; clear hb)
        | (go_at_call 28; (with_reducible refine (HAW.out _).mono ?_); rintro e w90 ⟨rfl, hb⟩; have HB := Lib.hid (HB.out.trans (hb.mono HB.out.size)); clear hb))
      go_ret
      exact ⟨rfl, HB.out⟩
  · have hbz : (250 : Int) < L.length := by omega
    clear hx hxs hc hw hD hp hbig hcd hwd
    generalize L.length = m at *
    go_enter Tryz.func10, Tryz.ntmps10
    go_wp2_with (go_at_call 28; (with_reducible refine (HAW.out _).mono ?_); rintro e w90 ⟨rfl, hb⟩; have HB := Lib.hid hb; clear hb)
    go_ret
    exact ⟨rfl, HB.out⟩
end Go.Proofs.YtfcpfffgodljeaaGreat.Ca
