/-
  IvlBound: what a tree touches is at least what it tells, and beside that at most as much as the page says, whatever was dropped; over any tree of spans by their middles.
-/
import Derived.Test.YtgcimicbbadapaaGreatIx
namespace Go.Proofs.YtgcimicbbadapaaGreat.Iv
open Go.ChangeShapes Go.WideShapes Go.ChangeAt Go.RowKit Go.Joins

set_option maxRecDepth 100000 in
set_option maxHeartbeats 12800000 in
theorem bound_walk {TS : World → Value → Nat → List Nat → List S3 → Prop} (C : IvlC TS) (w : World) (p q qd : Option Addr) (c d cd : Nat) (L : List S3) (xs D : List Int) (hx : TsS w p L) (hc : L.length ≤ c) (hw : ∀ s ∈ L, Wf3 s) (hxs : NS w q .i64 xs) (hd : xs.length ≤ d) (hwx : ∀ x ∈ xs, (Lit.int .i64 x).wf = true) (hD : NS w qd .u8 D) (hcd : D.length ≤ cd) (hwd : ∀ x ∈ D, (Lit.int .u8 x).wf = true) :
    Calls Tryz.prog 4 #[.slice p L.length c, .slice q xs.length d, .slice qd D.length cd] w fun e w' => e = .returned (.bool true) ∧ Below w.heap.size w w' := by
  have HAW := Lib.hid (awake_any C)
  by_cases hbig : L.length ≤ 200
  · have hbz : ¬ (200 : Int) < L.length := by omega
    have HX := Lib.hid hx
    have HDD := Lib.hid hD
    have HWD := Lib.hid hwd
    have HXS := Lib.hid hxs
    have HWX := Lib.hid hwx
    have HWF := Lib.hid hw
    have HBU := Lib.hid (C.build w p c L hx (by omega) hc hw)
    obtain ⟨h20, hh20⟩ : ∃ h, h = min xs.length 20 := ⟨_, rfl⟩
    obtain ⟨h100, hh100⟩ : ∃ h, h = min D.length 100 := ⟨_, rfl⟩
    have HMIN1 := Lib.hid (fun X ty => min20 X ty xs.length (h20 : Int) (by rw [hh20]))
    have HMIN2 := Lib.hid (fun X ty => min100 X ty D.length (h100 : Int) (by rw [hh100]))
    have HSL1 := Lib.hid (fun X => slL_to X q xs.length d h20 (by omega))
    have HSL2 := Lib.hid (fun X => slB_to X qd D.length cd h100 (by omega))
    have h20b : h20 ≤ 20 := by omega
    have h100b : h100 ≤ 100 := by omega
    have HH20 := Lib.hid (show h20 ≤ xs.length by omega)
    have HH100 := Lib.hid (show h100 ≤ D.length by omega)
    obtain ⟨m, hmm⟩ : ∃ m, m = L.length := ⟨_, rfl⟩
    have HM := Lib.hid hmm
    rw [← hmm] at HBU hbz hbig ⊢
    obtain ⟨xl, hxl⟩ : ∃ l, l = xs.length := ⟨_, rfl⟩
    have HXL := Lib.hid hxl
    rw [← hxl] at HMIN1 HSL1 HH20 ⊢
    obtain ⟨dl, hdl⟩ : ∃ l, l = D.length := ⟨_, rfl⟩
    have HDL := Lib.hid hdl
    rw [← hdl] at HMIN2 HSL2 HH100 ⊢
    clear hx hc hw hxs hd hwx hD hcd hwd hh20 hh100 hmm hxl hdl
    by_cases hrg : Rg L
    · have hmin := HMIN2.out
      have hsl := HSL2.out
      go_enter Tryz.func4, Tryz.ntmps4
      go_upto_region 7 with (go_at_call 9; (with_reducible refine HBU.out.mono ?_); rintro e w1 ⟨hb, hor⟩; rcases hor with ⟨-, v, S, rfl, hT, hS⟩ | ⟨hn', -⟩; rotate_left; (exact absurd hrg hn'); have HT := Lib.hid hT; have HB := Lib.hid hb; have HSS := Lib.hid hS; clear hb hT hS)
      obtain ⟨n8, hn8⟩ : ∃ n, n = L.length := ⟨_, rfl⟩
      rw [← hn8] at HT
      have HNM := Lib.hid (show n8 = m by rw [hn8, HM.out])
      clear hmin hsl HMIN2 HSL2 HBU hrg hn8
      go_loopw [35] (fun v36 wr => ∃ (k : Nat) (S : List Nat) (A : List S3), k ≤ h100 ∧ v36 = .int .i64 k ∧ Hid (TS wr v n8 S A) ∧ Hid (∀ b ∈ S, w.heap.size ≤ b) ∧ Hid (Below w.heap.size w wr)) (fun i _ => h100 - (intOf i).toNat)
      case atStart => exact ⟨0, S, L, Nat.zero_le _, rfl, HT, HSS, HB⟩
      case round =>
        clear HT HSS HB
        obtain ⟨k, S, A, hk, rfl, HT, HSS, HB⟩ := hrel
        by_cases hlt : k < h100
        · have hltz : (k : Int) < h100 := by omega
          obtain ⟨y, hye⟩ : ∃ y, D[k]? = some y := ⟨_, List.getElem?_eq_getElem (by have := HH100.out; have := HDL.out; omega)⟩
          rcases HDD.out.keep HB.out with h0 | ⟨b, off, rfl, h1⟩
          · rw [h0] at hye; simp at hye
          · have cy := h1 k y hye
            have hwy := HWD.out y (List.mem_of_getElem? hye)
            have hyr : 0 ≤ y ∧ y ≤ 255 := by simpa [Lit.wf, show IntKind.u8.min = 0 from rfl, show IntKind.u8.max = 255 from rfl] using hwy
            clear h1 hye hwy
            by_cases hm0 : m = 0
            · have hmz : ¬ (0 : Int) < m := by omega
              have HM0 := Lib.hid hm0
              clear hm0
              go_wp2
              go_roundw
              case rel => exact ⟨k + 1, S, A, by omega, by go_num, HT, HSS, HB⟩
              case measure => simp [intOf]; omega
            · have hmz : (0 : Int) < m := by omega
              obtain ⟨j, hj⟩ : ∃ j, j = y.toNat % m := ⟨_, rfl⟩
              have hjm : j < m := by rw [hj]; exact Nat.mod_lt _ (by omega)
              have hrem : Int.tmod y (m : Int) = (j : Int) := by
                rw [Int.tmod_eq_emod_of_nonneg hyr.1, hj, Int.natCast_emod, Int.toNat_of_nonneg hyr.1]
              have hjz : (j : Int) < m := by omega
              obtain ⟨s, hse⟩ : ∃ s, L[j]? = some s := ⟨_, List.getElem?_eq_getElem (by have := HM.out; omega)⟩
              obtain ⟨b2, off2, rfl, h2⟩ := (HX.out.keep HB.out).at hse
              have n0 := h2.c0
              have n1 := h2.c1
              have n2 := h2.c2
              have HCD := Lib.hid (C.drop s HT.out)
              have hm0' : ¬ (m : Int) = 0 := by omega
              obtain ⟨lo, hh, id⟩ := s
              unfold tv at HCD
              simp only at n0 n1 n2
              obtain ⟨hy0, hy1⟩ := hyr
              clear hse h2 hj hm0
              go_wp2_with (go_at_call 14; (with_reducible refine HCD.out.mono ?_); rintro e w3 ⟨rfl, hT, hO⟩; have HT3 := Lib.hid hT; have HB3 := Lib.hid (HB.out.trans (hO.below (N := w.heap.size) HB.out.size HSS.out)); clear hT hO)
              go_roundw
              case rel => exact ⟨k + 1, S, _, by omega, by go_num, HT3, HSS, HB3⟩
              case measure => simp [intOf]; omega
        · obtain rfl : k = h100 := by omega
          have hltz : ¬ (k : Int) < k := by omega
          obtain ⟨hAn, hn4, hAr⟩ := C.few HT.out
          obtain ⟨G, hG⟩ : ∃ G, G = lgN (2 * n8 + 1) := ⟨_, rfl⟩
          have hm0 : n8 = 0 → G = 0 := fun h => by rw [hG, h]; exact lg_small (by omega)
          have hG63 : G ≤ 63 := by
            by_cases h : n8 = 0
            · rw [hm0 h]; omega
            · rw [hG]; exact (lg_spec (n := 2 * n8 + 1) (by omega) (by omega)).2.1
          have HLG : Hid (∀ X, Calls Tryz.prog 15 #[.int .i64 (2 * (m : Int) + 1)] X fun e w' => e = .returned (.int .i64 (G : Int)) ∧ w' = X) := Lib.hid (fun X => by
            have h := Log_any (2 * (m : Int) + 1) X (by omega)
            have h2 : lgI (2 * (m : Int) + 1) = G := by rw [hG, HNM.out]; unfold lgI; congr 1
            rw [h2] at h
            exact h)
          have HSB := Lib.hid (fun X x h => C.stab (X := X) (v := v) (n := n8) (S := S) (A := A) x h)
          have HME := Lib.hid (fun X x y h => C.meet (X := X) (v := v) (n := n8) (S := S) (A := A) x y h)
          rw [← hG] at HSB HME
          have HF := Lib.hid (show ∀ z, (stb A z).length ≤ 400 from fun z => Nat.le_trans (stb_len A z) (by omega))
          have HF2 := Lib.hid (show ∀ y z, (mtS A y z).length ≤ 400 from fun y z => Nat.le_trans (mtS_len A y z) (by omega))
          have hmin := HMIN1.out
          have hsl := HSL1.out
          clear hAn hn4 hAr hG hm0 HSS HX HWF HDD HWD
          go_upto_region 15 with (go_at_call 15; (with_reducible refine (HLG.out _).mono ?_); rintro e w2 ⟨rfl, hw2⟩; subst hw2)
          have HXS2 := Lib.hid (HXS.out.keep HB.out)
          clear hmin hsl HXS HLG HMIN1 HSL1
          go_loopw [65] (fun v65 wy => ∃ k : Nat, k ≤ h20 ∧ v65 = .int .i64 k ∧ Hid (TS wy v n8 S A) ∧ Hid (NS wy q .i64 xs) ∧ Hid (Below w.heap.size w wy)) (fun i _ => h20 - (intOf i).toNat)
          case atStart => exact ⟨0, Nat.zero_le _, rfl, HT, HXS2, HB⟩
          case round =>
            clear HT HXS2 HB
            obtain ⟨k2, hk2, rfl, HT, HXS, HB⟩ := hrel
            by_cases hlt2 : k2 < h20
            · have hltz2 : (k2 : Int) < h20 := by omega
              obtain ⟨y, hye⟩ : ∃ y, xs[k2]? = some y := ⟨_, List.getElem?_eq_getElem (by have := HH20.out; have := HXL.out; omega)⟩
              obtain ⟨j, hj⟩ : ∃ j, j = (k2 + 1) % h20 := ⟨_, rfl⟩
              have hjh : j < h20 := by rw [hj]; exact Nat.mod_lt _ (by omega)
              have hrem : Int.tmod ((k2 : Int) + 1) (h20 : Int) = (j : Int) := by
                rw [Int.tmod_eq_emod_of_nonneg (by omega), hj, Int.natCast_emod]; rfl
              have hjz : (j : Int) < h20 := by omega
              have h0' : ¬ (h20 : Int) = 0 := by omega
              obtain ⟨y2, hye2⟩ : ∃ y, xs[j]? = some y := ⟨_, List.getElem?_eq_getElem (by have := HH20.out; have := HXL.out; omega)⟩
              rcases HXS.out with h0 | ⟨b, off, rfl, h1⟩
              · rw [h0] at hye; simp at hye
              · have cy := h1 k2 y hye
                have HCY2 := Lib.hid (h1 j y2 hye2)
                have hsl := HF.out y
                have hsl2 := HF2.out (min y y2) (max y y2)
                have HS1 := Lib.hid (HSB.out _ y HT.out)
                have HS2 := Lib.hid (fun X h => HME.out X (min y y2) (max y y2) h)
                have hmn := fun X ty => minII X ty y y2
                have hmx := fun X ty => maxII X ty y y2
                clear h1 hye hye2 hj
                generalize min y y2 = a1 at *
                generalize max y y2 = a2 at *
                generalize stb A y = Y at *
                generalize hyl : Y.length = yl at *
                have HYL := Lib.hid hyl
                clear hyl
                generalize mtS A a1 a2 = Z at *
                generalize hzl : Z.length = zl at *
                have HZL := Lib.hid hzl
                clear hzl
                have HRU := Lib.hid (show ∀ (X : World) r l (Y : List Int), TL X r l Y → ∃ q c, r = .slice q l c from fun X r l Y h => by
                  obtain ⟨-, q, c, e, -⟩ := h.u
                  exact ⟨q, c, e⟩)
                go_wp2_with (first
                  | (go_at_call 16; (with_reducible refine HS1.out.mono ?_); rintro e w5 ⟨⟨r, t, rfl, hr, ht1, ht2⟩, hb⟩; obtain ⟨q1, c1, rfl⟩ := HRU.out _ _ _ _ hr; have HT := Lib.hid (C.bel HT.out hb); have HXS := Lib.hid (HXS.out.keep hb); have HB := Lib.hid (HB.out.trans (hb.mono HB.out.size)); have htz1 : ¬ (t : Int) < yl := (by omega); have htz2 : ¬ 2 * (G : Int) + 2 + (yl : Int) < t := (by omega); have cy2 := (hb.cell (World.block_lt_of_cell? _ _ HCY2.out)).trans HCY2.out; clear hr hb)
                  | (go_at_call 17; (with_reducible refine (HS2.out _ HT.out).mono ?_); rintro e w6 ⟨⟨r2, t2, rfl, hr, hm1, hm2⟩, hb⟩; obtain ⟨q2, c2, rfl⟩ := HRU.out _ _ _ _ hr; have HT := Lib.hid (C.bel HT.out hb); have HXS := Lib.hid (HXS.out.keep hb); have HB := Lib.hid (HB.out.trans (hb.mono HB.out.size)); have hcz1 : ¬ (t2 : Int) < zl := (by omega); have hcz2 : ¬ 4 * (G : Int) + 8 + (zl : Int) < t2 := (by omega); clear hr hb))
                go_roundw
                case rel =>
                  exact ⟨k2 + 1, by omega, by go_num, HT, HXS, HB⟩
                case measure => simp [intOf]; omega
            · have hltz2 : ¬ (k2 : Int) < h20 := by omega
              go_wp2_with (go_at_call 8; (with_reducible refine (HAW.out _).mono ?_); rintro e w9 ⟨rfl, hb⟩; have HB := Lib.hid (HB.out.trans (hb.mono HB.out.size)); clear hb)
              go_ret
              exact ⟨rfl, HB.out⟩
    · go_enter Tryz.func4, Tryz.ntmps4
      go_wp2_with (first
        | (go_at_call 9; (with_reducible refine HBU.out.mono ?_); rintro e w1 ⟨hb, hor⟩; rcases hor with ⟨hn, -⟩ | ⟨-, rfl⟩; (exact absurd hn hrg); have HB := Lib.hid hb; clear hb)
        | (go_at_call 8; (with_reducible refine (HAW.out _).mono ?_); rintro e w9 ⟨rfl, hb⟩; have HB := Lib.hid (HB.out.trans (hb.mono HB.out.size)); clear hb))
      go_ret
      exact ⟨rfl, HB.out⟩
  · have hbz : (200 : Int) < L.length := by omega
    clear hx hxs hc hw hD
    generalize L.length = m at *
    go_enter Tryz.func4, Tryz.ntmps4
    go_wp2_with (go_at_call 8; (with_reducible refine (HAW.out _).mono ?_); rintro e w9 ⟨rfl, hb⟩; have HB := Lib.hid hb; clear hb)
    go_ret
    exact ⟨rfl, HB.out⟩
end Go.Proofs.YtgcimicbbadapaaGreat.Iv
