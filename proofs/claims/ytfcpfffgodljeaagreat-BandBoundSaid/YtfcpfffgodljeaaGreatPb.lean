/-
  BandBound: what a tree touches is at least what it tells, and beside that at most as much as the page says, whatever was dropped; points stand in few lists; over any tree of points.
-/
import Derived.Test.YtfcpfffgodljeaaGreatPl
import Derived.Test.YtfcpfffgodljeaaGreatPaw
namespace Go.Proofs.YtfcpfffgodljeaaGreat
open Go.ChangeShapes Go.WideShapes Go.ChangeAt Go.RowKit Go.Joins

set_option maxRecDepth 100000 in
set_option maxHeartbeats 12800000 in
theorem bound_walk {TS : World → Value → Nat → List Nat → List S3 → Prop} (C : BandC TS) (w : World) (p q qd : Option Addr) (c d cd : Nat) (L : List S3) (xs : List B5) (D : List Int) (hx : TsS w p L) (hc : L.length ≤ c) (hp : p = none → c = 0) (hw : ∀ s ∈ L, Wf3 s) (hxs : BsS w q xs) (hd : xs.length ≤ d) (hwx : ∀ x ∈ xs, Wf5 x) (hD : NS w qd .u8 D) (hcd : D.length ≤ cd) (hwd : ∀ x ∈ D, (Lit.int .u8 x).wf = true) :
    Calls Tryz.prog 4 #[.slice p L.length c, .slice q xs.length d, .slice qd D.length cd] w fun e w' => e = .returned (.bool true) ∧ Below w.heap.size w w' := by
  have HAW := Lib.hid (awake_any C)
  by_cases hbig : L.length ≤ 200
  · have hbz : ¬ (200 : Int) < L.length := by omega
    have HX := Lib.hid hx
    have HDD := Lib.hid hD
    have HWD := Lib.hid hwd
    have HXS := Lib.hid hxs
    have HWX := Lib.hid hwx
    have HWF := Lib.hid hw
    have HBU := Lib.hid (C.build w p c L hx (by omega) hc hp hw)
    obtain ⟨h20, hh20⟩ : ∃ h, h = min xs.length 20 := ⟨_, rfl⟩
    obtain ⟨h100, hh100⟩ : ∃ h, h = min D.length 100 := ⟨_, rfl⟩
    have HMIN1 := Lib.hid (fun X ty => min20 X ty xs.length (h20 : Int) (by rw [hh20]))
    have HMIN2 := Lib.hid (fun X ty => min100 X ty D.length (h100 : Int) (by rw [hh100]))
    have HSL1 := Lib.hid (fun X => slX_to X q xs.length d h20 (by omega))
    have HSL2 := Lib.hid (fun X => slB_to X qd D.length cd h100 (by omega))
    have h20b : h20 ≤ 20 := by omega
    have h100b : h100 ≤ 100 := by omega
    have HH20 := Lib.hid (show h20 ≤ xs.length by omega)
    have HH100 := Lib.hid (show h100 ≤ D.length by omega)
    obtain ⟨m, hmm⟩ : ∃ m, m = L.length := ⟨_, rfl⟩
    have HM := Lib.hid hmm
    rw [← hmm] at HBU hbz hbig ⊢
    obtain ⟨xl, hxl⟩ : ∃ l, l = xs.length := ⟨_, rfl⟩
    have HXL := Lib.hid hxl
    rw [← hxl] at HMIN1 HSL1 HH20 ⊢
    obtain ⟨dl, hdl⟩ : ∃ l, l = D.length := ⟨_, rfl⟩
    have HDL := Lib.hid hdl
    rw [← hdl] at HMIN2 HSL2 HH100 ⊢
    clear hx hc hp hw hxs hd hwx hD hcd hwd hh20 hh100 hmm hxl hdl
    by_cases hrg : Rg L
    · obtain ⟨G, hG⟩ : ∃ G, G = lgN (m + 1) := ⟨_, rfl⟩
      have hG63 : G ≤ 63 := by
        by_cases h : m = 0
        · rw [hG, h, lg_small (by omega)]; omega
        · rw [hG]; exact (lg_spec (n := m + 1) (by omega) (by omega)).2.1
      have HG := Lib.hid hG
      have HLG : Hid (∀ X, Calls Tryz.prog 23 #[.int .i64 ((m : Int) + 1)] X fun e w' => e = .returned (.int .i64 (G : Int)) ∧ w' = X) := Lib.hid (fun X => by
        have h := Log_any ((m : Int) + 1) X (by omega)
        have h2 : lgI ((m : Int) + 1) = G := by rw [hG]; unfold lgI; congr 1
        rw [h2] at h
        exact h)
      obtain ⟨P1, hP1⟩ : ∃ P, P = m * (G + 1) := ⟨_, rfl⟩
      have hP1b : P1 ≤ 12800 := by rw [hP1]; exact Nat.le_trans (Nat.mul_le_mul hbig (Nat.succ_le_succ hG63)) (by decide)
      have hP1z : (m : Int) * ((G : Int) + 1) = (P1 : Int) := by rw [hP1]; push_cast; rfl
      have hP1w : IntKind.i64.wrap ((m : Int) * ((G : Int) + 1)) = (P1 : Int) := by rw [hP1z, IntWalk.i64_in _ (by omega)]
      have HP1 := Lib.hid hP1
      have HWE := Lib.hid (fun X v S (h : TS X v L.length S L) => C.weight h)
      rw [← HM.out, ← hG, ← hP1] at HWE
      clear hG hP1 hP1z
      go_enter Tryz.func4, Tryz.ntmps4
      go_upto_region 9 with (first
        | (go_at_call 16; (with_reducible refine HBU.out.mono ?_); rintro e w1 ⟨hb, hor⟩; rcases hor with ⟨-, v, S, rfl, hT, hS⟩ | ⟨hn', -⟩; rotate_left; (exact absurd hrg hn'); rw [← HM.out] at hT; have HT := Lib.hid hT; have HB := Lib.hid hb; have HSS := Lib.hid hS; clear hb hT hS)
        | (go_at_call 23; (with_reducible refine (HLG.out _).mono ?_); rintro e w2 ⟨rfl, hw2⟩; subst hw2)
        | (go_at_call 19; (with_reducible refine (HWE.out _ _ _ HT.out).mono ?_); rintro e w3 ⟨⟨mw, rfl, hm1, hm2⟩, hb⟩; have HT := Lib.hid (C.bel HT.out hb); have HB := Lib.hid (HB.out.trans (hb.mono HB.out.size)); have hmz1 : ¬ mw < m := (by omega); have hmz2 : ¬ P1 < mw := (by omega); clear hb hm1 hm2))
      have hmin := HMIN2.out
      have hsl := HSL2.out
      clear hmz1 hmz2 hP1w HWE HLG HBU HP1 HMIN2 HSL2
      go_wp2
      clear hmin hsl
      go_loopw [55] (fun v55 wr => ∃ (k : Nat) (S : List Nat) (A : List S3), k ≤ h100 ∧ v55 = .int .i64 k ∧ Hid (TS wr v m S A) ∧ Hid (∀ b ∈ S, w.heap.size ≤ b) ∧ Hid (Below w.heap.size w wr)) (fun i _ => h100 - (intOf i).toNat)
      case atStart => exact ⟨0, S, L, Nat.zero_le _, rfl, HT, HSS, HB⟩
      case round =>
        clear HT HSS HB
        obtain ⟨k, S, A, hk, rfl, HT, HSS, HB⟩ := hrel
        by_cases hlt : k < h100
        · have hltz : (k : Int) < h100 := by omega
          obtain ⟨y, hye⟩ : ∃ y, D[k]? = some y := ⟨_, List.getElem?_eq_getElem (by have := HH100.out; have := HDL.out; omega)⟩
          rcases HDD.out.keep HB.out with h0 | ⟨b, off, rfl, h1⟩
          · rw [h0] at hye; simp at hye
          · have cy := h1 k y hye
            have hwy := HWD.out y (List.mem_of_getElem? hye)
            have hyr : 0 ≤ y ∧ y ≤ 255 := by simpa [Lit.wf, show IntKind.u8.min = 0 from rfl, show IntKind.u8.max = 255 from rfl] using hwy
            clear h1 hye hwy
            by_cases hm0 : m = 0
            · have hmz : ¬ (0 : Int) < m := by omega
              have HM0 := Lib.hid hm0
              clear hm0
              go_wp2
              go_roundw
              case rel => exact ⟨k + 1, S, A, by omega, by go_num, HT, HSS, HB⟩
              case measure => simp [intOf]; omega
            · have hmz : (0 : Int) < m := by omega
              obtain ⟨j, hj⟩ : ∃ j, j = y.toNat % m := ⟨_, rfl⟩
              have hjm : j < m := by rw [hj]; exact Nat.mod_lt _ (by omega)
              have hrem : Int.tmod y (m : Int) = (j : Int) := by
                rw [Int.tmod_eq_emod_of_nonneg hyr.1, hj, Int.natCast_emod, Int.toNat_of_nonneg hyr.1]
              have hjz : (j : Int) < m := by omega
              obtain ⟨s, hse⟩ : ∃ s, L[j]? = some s := ⟨_, List.getElem?_eq_getElem (by have := HM.out; omega)⟩
              obtain ⟨b2, off2, rfl, h2⟩ := (HX.out.keep HB.out).at hse
              have n0 := h2.c0
              have n1 := h2.c1
              have n2 := h2.c2
              have HCD := Lib.hid (C.drop s HT.out (HWF.out s (List.mem_of_getElem? hse)))
              have hm0' : ¬ (m : Int) = 0 := by omega
              obtain ⟨lo, hh, id⟩ := s
              unfold tv at HCD
              simp only at n0 n1 n2
              obtain ⟨hy0, hy1⟩ := hyr
              clear hse h2 hj hm0
              go_wp2_with (go_at_call 22; (with_reducible refine HCD.out.mono ?_); rintro e w4 ⟨rfl, S4, hT, hO, hS4⟩; have HT3 := Lib.hid hT; have HB3 := Lib.hid (HB.out.trans (hO.below (N := w.heap.size) HB.out.size HSS.out)); have HSS3 := Lib.hid (show ∀ b ∈ S4, w.heap.size ≤ b from fun b hb => (hS4 b hb).elim (HSS.out b) (Nat.le_trans HB.out.size)); clear hT hO hS4)
              go_roundw
              case rel => exact ⟨k + 1, S4, _, by omega, by go_num, HT3, HSS3, HB3⟩
              case measure => simp [intOf]; omega
        · obtain rfl : k = h100 := by omega
          have hltz : ¬ (k : Int) < k := by omega
          obtain ⟨hAn, hn4, hAr⟩ := C.few HT.out
          have HWE := Lib.hid (fun X (h : TS X v m S A) => C.weight h)
          have HLE := Lib.hid (fun X (h : TS X v m S A) => C.len h)
          have HRE := Lib.hid (fun X b (h : TS X v m S A) (hb : Wf5 b) => C.report b h hb)
          have HCO := Lib.hid (fun X b (h : TS X v m S A) (hb : Wf5 b) => C.count b h hb)
          obtain ⟨a, ha⟩ : ∃ a, a = A.length := ⟨_, rfl⟩
          have HF := Lib.hid (show ∀ z, (hsS A z).length ≤ 400 from fun z => Nat.le_trans (hsS_len A z) (by omega))
          obtain ⟨P2, hP2⟩ : ∃ P, P = a * (G + 1) := ⟨_, rfl⟩
          have ha2 : a ≤ 200 := by omega
          have hP2b : P2 ≤ 12800 := by rw [hP2]; exact Nat.le_trans (Nat.mul_le_mul ha2 (Nat.succ_le_succ hG63)) (by decide)
          have hP2z : (a : Int) * ((G : Int) + 1) = (P2 : Int) := by rw [hP2]; push_cast; rfl
          have hP2w : IntKind.i64.wrap ((a : Int) * ((G : Int) + 1)) = (P2 : Int) := by rw [hP2z, IntWalk.i64_in _ (by omega)]
          obtain ⟨P4, hP4⟩ : ∃ P, P = 4 * G * G := ⟨_, rfl⟩
          have hP4b : P4 ≤ 20000 := by rw [hP4]; exact Nat.le_trans (Nat.mul_le_mul (Nat.mul_le_mul_left 4 hG63) hG63) (by decide)
          have hP4z : 4 * (G : Int) * (G : Int) = (P4 : Int) := by rw [hP4]; push_cast; rfl
          have hP4w : IntKind.i64.wrap (4 * (G : Int) * (G : Int)) = (P4 : Int) := by rw [hP4z, IntWalk.i64_in _ (by omega)]
          obtain ⟨P8, hP8⟩ : ∃ P, P = 8 * G * G := ⟨_, rfl⟩
          have hP8b : P8 ≤ 40000 := by rw [hP8]; exact Nat.le_trans (Nat.mul_le_mul (Nat.mul_le_mul_left 8 hG63) hG63) (by decide)
          have hP8z : 8 * (G : Int) * (G : Int) = (P8 : Int) := by rw [hP8]; push_cast; rfl
          have hP8w : IntKind.i64.wrap (8 * (G : Int) * (G : Int)) = (P8 : Int) := by rw [hP8z, IntWalk.i64_in _ (by omega)]
          have hrn : repN m = P4 + 12 * G + 12 := by unfold repN; rw [← HG.out, hP4]
          have hcn : cntN m = P8 + 12 * G + 12 := by unfold cntN; rw [← HG.out, hP8]
          rw [← HG.out, ← ha, ← hP2] at HWE
          rw [← ha] at HLE
          rw [hrn] at HRE
          rw [hcn] at HCO
          have HP4w := Lib.hid hP4w
          have HP8w := Lib.hid hP8w
          have hmin := HMIN1.out
          have hsl := HSL1.out
          clear hAn hn4 hAr HSS HX HWF HDD HWD ha hP2 hP2z hP4 hP4z hP4w hP8 hP8z hP8w hrn hcn
          go_upto_region 17 with (first
            | (go_at_call 19; (with_reducible refine (HWE.out _ HT.out).mono ?_); rintro e w3 ⟨⟨mw, rfl, hm1, hm2⟩, hb⟩; have HT := Lib.hid (C.bel HT.out hb); have HB := Lib.hid (HB.out.trans (hb.mono HB.out.size)); have hmz1 : ¬ mw < a := (by omega); have hmz2 : ¬ P2 < mw := (by omega); clear hb hm1 hm2)
            | (go_at_call 18; (with_reducible refine (HLE.out _ HT.out).mono ?_); rintro e w3 ⟨rfl, hb⟩; have HT := Lib.hid (C.bel HT.out hb); have HB := Lib.hid (HB.out.trans (hb.mono HB.out.size)); clear hb))
          have HTx := HT
          have HBx := HB
          clear HWE HLE hP2w HMIN1 HSL1
          go_wp2
          clear hmin hsl
          go_loopw [94] (fun v94 wr => ∃ k : Nat, k ≤ h20 ∧ v94 = .int .i64 k ∧ Hid (TS wr v m S A) ∧ Hid (Below w.heap.size w wr)) (fun i _ => h20 - (intOf i).toNat)
          case atStart => exact ⟨0, Nat.zero_le _, rfl, HTx, HBx⟩
          case round =>
            clear HT HB HTx HBx
            obtain ⟨k2, hk2, rfl, HT, HB⟩ := hrel
            by_cases hlt2 : k2 < h20
            · have hltz2 : (k2 : Int) < h20 := by omega
              obtain ⟨b, hbe⟩ : ∃ b, xs[k2]? = some b := ⟨_, List.getElem?_eq_getElem (by have := HH20.out; have := HXL.out; omega)⟩
              obtain ⟨bb, off, rfl, h1⟩ := (HXS.out.keep HB.out).at hbe
              have HWB := Lib.hid (HWX.out b (List.mem_of_getElem? hbe))
              have n0 := h1.c0
              have n1 := h1.c1
              have n2 := h1.c2
              have n3 := h1.c3
              have n4 := h1.c4
              obtain ⟨W, hW⟩ : ∃ W, W = wr.alloc (.cells (bvs b).toArray 42) := ⟨_, rfl⟩
              have HN := Lib.hid (show X1 W wr.heap.size 0 b by rw [hW]; exact X1.new wr b _)
              have HBW := Lib.hid (show Below w.heap.size w W by rw [hW]; exact HB.out.alloc HB.out.size _)
              have HTW := Lib.hid (show TS W v m S A by rw [hW]; exact C.bel HT.out ((Below.refl _ wr).alloc (Nat.le_refl _) _))
              have HLT := Lib.hid HN.out.lt
              have HS1 := Lib.hid (fun X (h : TS X v m S A) => HRE.out X b h HWB.out)
              have HS2 := Lib.hid (fun X (h : TS X v m S A) => HCO.out X b h HWB.out)
              have hsl := HF.out b.1
              clear hbe h1 HT HB
              obtain ⟨⟨x1, x2, y1, y2⟩, bi⟩ := b
              unfold bvs at hW
              unfold bv at HS1 HS2
              simp only at n0 n1 n2 n3 n4 HS1 HS2 hsl
              have HW1 := Lib.hid hW
              clear hW
              generalize hsS A (x1, x2, y1, y2) = Z at *
              have HRL := Lib.hid (show ∀ (Y : World) r, RL Y r Z → ∃ q c, r = .slice q Z.length c from fun Y r h => by obtain ⟨q, c, h1, -⟩ := h; exact ⟨q, c, h1⟩)
              generalize hzl : Z.length = zl at *
              clear hzl
              have m0 := HN.out.c0
              have m1 := HN.out.c1
              have m2 := HN.out.c2
              have m3 := HN.out.c3
              have m4 := HN.out.c4
              simp only [Nat.zero_add] at m0 m1 m2 m3 m4
              go_upto_region 20 with fail
              rw [← HW1.out]
              clear HW1 n0 n1 n2 n3 n4
              have hP4w := HP4w.out
              have hP8w := HP8w.out
              go_wp2_with (first
                | (go_at_call 24; (with_reducible refine (HS1.out _ HTW.out).mono ?_); rintro e w5 ⟨⟨r, t, rfl, hr, ht1, ht2⟩, hb⟩; obtain ⟨q1, c1, rfl⟩ := HRL.out _ _ hr; have HT5 := Lib.hid (C.bel HTW.out hb); have HN5 := Lib.hid (HN.out.keep hb HLT.out); have k0 := HN5.out.c0; have k1 := HN5.out.c1; have k2' := HN5.out.c2; have k3 := HN5.out.c3; have k4 := HN5.out.c4; simp only [Nat.zero_add] at k0 k1 k2' k3 k4; have HB5 := Lib.hid (HBW.out.trans (hb.mono HBW.out.size)); have htz1 : ¬ (t : Int) < zl := (by omega); have htz2 : ¬ (zl : Int) + (P4 : Int) + 12 * (G : Int) + 12 < t := (by omega); clear hr hb ht1 ht2)
                | (go_at_call 25; (with_reducible refine (HS2.out _ HT5.out).mono ?_); rintro e w6 ⟨⟨t2, rfl, hc2⟩, hb⟩; have HT6 := Lib.hid (C.bel HT5.out hb); have HB6 := Lib.hid (HB5.out.trans (hb.mono HB5.out.size)); have hcz1 : ¬ (t2 : Int) < 0 := (by omega); have hcz2 : ¬ (P8 : Int) + 12 * (G : Int) + 12 < t2 := (by omega); clear hb hc2))
              go_roundw
              case rel => exact ⟨k2 + 1, by omega, by go_num, HT6, HB6⟩
              case measure => simp [intOf]; omega
            · have hltz2 : ¬ (k2 : Int) < h20 := by omega
              go_wp2_with (go_at_call 15; (with_reducible refine (HAW.out _).mono ?_); rintro e w9 ⟨rfl, hb⟩; have HB := Lib.hid (HB.out.trans (hb.mono HB.out.size)); clear hb)
              go_ret
              exact ⟨rfl, HB.out⟩
    · go_enter Tryz.func4, Tryz.ntmps4
      go_wp2_with (first
        | (go_at_call 16; (with_reducible refine HBU.out.mono ?_); rintro e w1 ⟨hb, hor⟩; rcases hor with ⟨hn, -⟩ | ⟨-, v, S, rfl, -, -⟩; (exact absurd hn hrg); have HB := Lib.hid hb; clear hb)
        | (go_at_call 15; (with_reducible refine (HAW.out _).mono ?_); rintro e w9 ⟨rfl, hb⟩; have HB := Lib.hid (HB.out.trans (hb.mono HB.out.size)); clear hb))
      go_ret
      exact ⟨rfl, HB.out⟩
  · have hbz : (200 : Int) < L.length := by omega
    clear hx hxs hc hw hD hp
    generalize L.length = m at *
    go_enter Tryz.func4, Tryz.ntmps4
    go_wp2_with (go_at_call 15; (with_reducible refine (HAW.out _).mono ?_); rintro e w9 ⟨rfl, hb⟩; have HB := Lib.hid hb; clear hb)
    go_ret
    exact ⟨rfl, HB.out⟩
end Go.Proofs.YtfcpfffgodljeaaGreat
