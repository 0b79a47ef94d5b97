/-
  SegBound: what a tree touches is at least what it tells, and beside that at most as much as the page says, whatever was dropped; each span stands at few nodes; over any tree of spans.
-/
import Derived.Test.YtgcimicbbadapaaLawT8
import Derived.Test.YtgcimicbbadapaaMLook
namespace Go.Proofs.Ytgcimicbbadapaa
open Go.ChangeShapes Go.WideShapes Go.ChangeAt Go.RowKit Go.Joins

theorem Try.info5 : (Try.prog.info? 5).map (fun i => (i.zero, i.size, i.bytes)) = some (some (.int .u8 0), 1, 1) := by kernel_rfl
theorem min100 (X : World) (ty : TypeId) (n : Nat) (k : Int) (hk : k = ((min n 100 : Nat) : Int)) : (Builtin.min_ #[3, 3] ty #[.int .i64 n, .int .i64 100]).run Try.prog X = .ok (.int .i64 k) X := by
  subst hk
  by_cases h : n ≤ 100
  · have h2 : ¬ (100 : Int) < n := by omega
    simp [Builtin.min_, Builtin.min2, go_sem, Nat.min_eq_left h, h2]
  · have h2 : (100 : Int) < n := by omega
    simp [Builtin.min_, Builtin.min2, go_sem, Nat.min_eq_right (by omega : 100 ≤ n), h2]
theorem slB_to (X : World) (p : Option Addr) (n c h : Nat) (hm : h ≤ c) : (Instr.slice 39 (.slice p n c) none (some (.int .i64 h)) none).run Try.prog X = .ok (.slice p h c) X := by
  obtain ⟨i0, hi, hz0, hz1, hz2⟩ := info_parts Try.info5
  simp [Instr.slice, run_underlying Try.underlying39, Instr.sliceBounds, Instr.sliceBound, asIntOf, sizeOf, typeInfo, hi, hm]
  cases p <;> simp [Addr.add_zero']

set_option maxRecDepth 100000 in
set_option maxHeartbeats 12800000 in
theorem bound_walk {TS : World → Value → Nat → List Nat → List S3 → Prop} (C : SegC TS) (w : World) (p q qd : Option Addr) (c d cd : Nat) (L : List S3) (xs D : List Int) (hx : TsS w p L) (hc : L.length ≤ c) (hw : ∀ s ∈ L, Wf3 s) (hxs : NS w q .i64 xs) (hd : xs.length ≤ d) (hwx : ∀ x ∈ xs, (Lit.int .i64 x).wf = true) (hD : NS w qd .u8 D) (hcd : D.length ≤ cd) (hwd : ∀ x ∈ D, (Lit.int .u8 x).wf = true) :
    Calls Try.prog 4 #[.slice p L.length c, .slice q xs.length d, .slice qd D.length cd] w fun e w' => e = .returned (.bool true) ∧ Below w.heap.size w w' := by
  have HAW := Lib.hid (awake_any C)
  by_cases hbig : L.length ≤ 200
  · have hbz : ¬ (200 : Int) < L.length := by omega
    have HX := Lib.hid hx
    have HDD := Lib.hid hD
    have HWD := Lib.hid hwd
    have HXS := Lib.hid hxs
    have HWX := Lib.hid hwx
    have HWF := Lib.hid hw
    have HBU := Lib.hid (C.build w p c L hx (by omega) hc hw)
    obtain ⟨h20, hh20⟩ : ∃ h, h = min xs.length 20 := ⟨_, rfl⟩
    obtain ⟨h100, hh100⟩ : ∃ h, h = min D.length 100 := ⟨_, rfl⟩
    have HMIN1 := Lib.hid (fun X ty => min20 X ty xs.length (h20 : Int) (by rw [hh20]))
    have HMIN2 := Lib.hid (fun X ty => min100 X ty D.length (h100 : Int) (by rw [hh100]))
    have HSL1 := Lib.hid (fun X => slL_to X q xs.length d h20 (by omega))
    have HSL2 := Lib.hid (fun X => slB_to X qd D.length cd h100 (by omega))
    have h20b : h20 ≤ 20 := by omega
    have h100b : h100 ≤ 100 := by omega
    have HH20 := Lib.hid (show h20 ≤ xs.length by omega)
    have HH100 := Lib.hid (show h100 ≤ D.length by omega)
    obtain ⟨m, hmm⟩ : ∃ m, m = L.length := ⟨_, rfl⟩
    have HM := Lib.hid hmm
    rw [← hmm] at HBU hbz hbig ⊢
    obtain ⟨xl, hxl⟩ : ∃ l, l = xs.length := ⟨_, rfl⟩
    have HXL := Lib.hid hxl
    rw [← hxl] at HMIN1 HSL1 HH20 ⊢
    obtain ⟨dl, hdl⟩ : ∃ l, l = D.length := ⟨_, rfl⟩
    have HDL := Lib.hid hdl
    rw [← hdl] at HMIN2 HSL2 HH100 ⊢
    clear hx hc hw hxs hd hwx hD hcd hwd hh20 hh100 hmm hxl hdl
    by_cases hrg : Rg L
    · have hmin := HMIN2.out
      have hsl := HSL2.out
      go_enter Try.func4, Try.ntmps4
      go_upto_region 7 with (go_at_call 11; (with_reducible refine HBU.out.mono ?_); rintro e w1 ⟨hb, hor⟩; rcases hor with ⟨-, v, S, rfl, hT, hS⟩ | ⟨hn', -⟩; rotate_left; (exact absurd hrg hn'); have HT := Lib.hid hT; have HB := Lib.hid hb; have HSS := Lib.hid hS; clear hb hT hS)
      obtain ⟨n8, hn8⟩ : ∃ n, n = L.length := ⟨_, rfl⟩
      rw [← hn8] at HT
      have HNM := Lib.hid (show n8 = m by rw [hn8, HM.out])
      clear hmin hsl HMIN2 HSL2 HBU hrg hn8
      go_loopw [36] (fun v36 wr => ∃ (k : Nat) (S : List Nat) (A : List S3), k ≤ h100 ∧ v36 = .int .i64 k ∧ Hid (TS wr v n8 S A) ∧ Hid (∀ b ∈ S, w.heap.size ≤ b) ∧ Hid (Below w.heap.size w wr)) (fun i _ => h100 - (intOf i).toNat)
      case atStart => exact ⟨0, S, L, Nat.zero_le _, rfl, HT, HSS, HB⟩
      case round =>
        clear HT HSS HB
        obtain ⟨k, S, A, hk, rfl, HT, HSS, HB⟩ := hrel
        by_cases hlt : k < h100
        · have hltz : (k : Int) < h100 := by omega
          obtain ⟨y, hye⟩ : ∃ y, D[k]? = some y := ⟨_, List.getElem?_eq_getElem (by have := HH100.out; have := HDL.out; omega)⟩
          rcases HDD.out.keep HB.out with h0 | ⟨b, off, rfl, h1⟩
          · rw [h0] at hye; simp at hye
          · have cy := h1 k y hye
            have hwy := HWD.out y (List.mem_of_getElem? hye)
            have hyr : 0 ≤ y ∧ y ≤ 255 := by simpa [Lit.wf, show IntKind.u8.min = 0 from rfl, show IntKind.u8.max = 255 from rfl] using hwy
            clear h1 hye hwy
            by_cases hm0 : m = 0
            · have hmz : ¬ (0 : Int) < m := by omega
              have HM0 := Lib.hid hm0
              clear hm0
              go_wp2
              go_roundw
              case rel => exact ⟨k + 1, S, A, by omega, by go_num, HT, HSS, HB⟩
              case measure => simp [intOf]; omega
            · have hmz : (0 : Int) < m := by omega
              obtain ⟨j, hj⟩ : ∃ j, j = y.toNat % m := ⟨_, rfl⟩
              have hjm : j < m := by rw [hj]; exact Nat.mod_lt _ (by omega)
              have hrem : Int.tmod y (m : Int) = (j : Int) := by
                rw [Int.tmod_eq_emod_of_nonneg hyr.1, hj, Int.natCast_emod, Int.toNat_of_nonneg hyr.1]
              have hjz : (j : Int) < m := by omega
              obtain ⟨s, hse⟩ : ∃ s, L[j]? = some s := ⟨_, List.getElem?_eq_getElem (by have := HM.out; omega)⟩
              obtain ⟨b2, off2, rfl, h2⟩ := (HX.out.keep HB.out).at hse
              have n0 := h2.c0
              have n1 := h2.c1
              have n2 := h2.c2
              have HCD := Lib.hid (C.drop s HT.out (HWF.out s (List.mem_of_getElem? hse)))
              have hm0' : ¬ (m : Int) = 0 := by omega
              obtain ⟨lo, hh, id⟩ := s
              unfold tv at HCD
              simp only at n0 n1 n2
              obtain ⟨hy0, hy1⟩ := hyr
              clear hse h2 hj hm0
              go_wp2_with (go_at_call 17; (with_reducible refine HCD.out.mono ?_); rintro e w3 ⟨rfl, S2, hT, hO, hS2⟩; have HT3 := Lib.hid hT; have HB3 := Lib.hid (HB.out.trans (hO.below (N := w.heap.size) HB.out.size HSS.out)); have HSS3 := Lib.hid (show ∀ b ∈ S2, w.heap.size ≤ b from fun b hb => (hS2 b hb).elim (HSS.out b) (Nat.le_trans HB.out.size)); clear hT hO hS2)
              go_roundw
              case rel => exact ⟨k + 1, S2, _, by omega, by go_num, HT3, HSS3, HB3⟩
              case measure => simp [intOf]; omega
        · obtain rfl : k = h100 := by omega
          have hltz : ¬ (k : Int) < k := by omega
          obtain ⟨hAn, hn4, hAr⟩ := C.few HT.out
          obtain ⟨G, hG⟩ : ∃ G, G = lgN (4 * n8 + 4) := ⟨_, rfl⟩
          have hG63 : G ≤ 63 := by rw [hG]; exact (lg_spec (n := 4 * n8 + 4) (by omega) (by omega)).2.1
          have HLG : Hid (∀ X, Calls Try.prog 18 #[.int .i64 (4 * (m : Int) + 4)] X fun e w' => e = .returned (.int .i64 (G : Int)) ∧ w' = X) := Lib.hid (fun X => by
            have h := Log_any (4 * (m : Int) + 4) X (by omega)
            have h2 : lgI (4 * (m : Int) + 4) = G := by rw [hG, HNM.out]; unfold lgI; congr 1
            rw [h2] at h
            exact h)
          have HWE := Lib.hid (fun X h => C.weight (X := X) (v := v) (n := n8) (S := S) (A := A) h)
          have HLE := Lib.hid (fun X h => C.len (X := X) (v := v) (n := n8) (S := S) (A := A) h)
          have HSB := Lib.hid (fun X x h hx => C.stab (X := X) (v := v) (n := n8) (S := S) (A := A) x h hx)
          have HCO := Lib.hid (fun X x h hx => C.count (X := X) (v := v) (n := n8) (S := S) (A := A) x h hx)
          rw [← hG] at HWE HSB HCO
          have HF := Lib.hid (show ∀ z, (stb A z).length ≤ 400 from fun z => Nat.le_trans (stb_len A z) (by omega))
          obtain ⟨la, hla⟩ : ∃ la, la = A.length := ⟨_, rfl⟩
          have hla4 : la ≤ 400 := by omega
          obtain ⟨P, hP⟩ : ∃ P, P = la * (2 * G) := ⟨_, rfl⟩
          have hPb : P ≤ 50400 := by rw [hP]; exact Nat.le_trans (Nat.mul_le_mul hla4 (Nat.mul_le_mul_left 2 hG63)) (by decide)
          have hPz : (la : Int) * 2 * (G : Int) = (P : Int) := by rw [hP]; push_cast; rw [Int.mul_assoc]
          have hPw : IntKind.i64.wrap ((la : Int) * 2 * (G : Int)) = (P : Int) := by rw [hPz, IntWalk.i64_in _ (by omega)]
          rw [← hla, ← hP] at HWE
          rw [← hla] at HLE
          have hmin := HMIN1.out
          have hsl := HSL1.out
          clear hAn hn4 hAr hG hP hla HSS HX HWF HDD HWD hPz
          go_upto_region 16 with (first
            | (go_at_call 18; (with_reducible refine (HLG.out _).mono ?_); rintro e w2 ⟨rfl, hw2⟩; subst hw2)
            | (go_at_call 14; have hmark := HMARK.out; clear hmark; (with_reducible refine (HWE.out _ HT.out).mono ?_); rintro e w3 ⟨⟨mwB, rfl, hmw1, hmw2⟩, hb⟩; have hB1 : ¬ (mwB : Int) < la := (by omega); have hB2 : ¬ (P : Int) < mwB := (by omega); have HT := Lib.hid (C.bel HT.out hb); have HB := Lib.hid (HB.out.trans (hb.mono HB.out.size)); clear hmw1 hmw2 hb)
            | (go_at_call 14; (with_reducible refine (HWE.out _ HT.out).mono ?_); rintro e w3 ⟨⟨mwA, rfl, hmw1, hmw2⟩, hb⟩; have hA1 : ¬ (mwA : Int) < la := (by omega); have hA2 : ¬ (P : Int) < mwA := (by omega); have HT := Lib.hid (C.bel HT.out hb); have HB := Lib.hid (HB.out.trans (hb.mono HB.out.size)); have HMARK := Lib.hid trivial; clear hmw1 hmw2 hb)
            | (go_at_call 13; (with_reducible refine (HLE.out _ HT.out).mono ?_); rintro e w4 ⟨rfl, hb⟩; have HT := Lib.hid (C.bel HT.out hb); have HB := Lib.hid (HB.out.trans (hb.mono HB.out.size)); clear hb))
          have HXS2 := Lib.hid (HXS.out.keep HB.out)
          simp only [show decide (mwA < la) = false from decide_eq_false (by omega), show decide (P < mwB) = false from decide_eq_false (by omega), Bool.or_self]
          clear hmin hsl HXS hPw HLG HWE HLE HMIN1 HSL1 hA1 hA2 hB1 hB2 HMARK
          go_loopw [86] (fun v86 wy => ∃ k : Nat, k ≤ h20 ∧ v86 = .int .i64 k ∧ Hid (TS wy v n8 S A) ∧ Hid (NS wy q .i64 xs) ∧ Hid (Below w.heap.size w wy)) (fun i _ => h20 - (intOf i).toNat)
          case atStart => exact ⟨0, Nat.zero_le _, rfl, HT, HXS2, HB⟩
          case round =>
            clear HT HXS2 HB
            obtain ⟨k2, hk2, rfl, HT, HXS, HB⟩ := hrel
            by_cases hlt2 : k2 < h20
            · have hltz2 : (k2 : Int) < h20 := by omega
              obtain ⟨y, hye⟩ : ∃ y, xs[k2]? = some y := ⟨_, List.getElem?_eq_getElem (by have := HH20.out; have := HXL.out; omega)⟩
              rcases HXS.out with h0 | ⟨b, off, rfl, h1⟩
              · rw [h0] at hye; simp at hye
              · have cy := h1 k2 y hye
                have hwy := HWX.out y (List.mem_of_getElem? hye)
                have HS1 := Lib.hid (HSB.out _ y HT.out hwy)
                have HS2 := Lib.hid (fun X h => HCO.out X y h hwy)
                have hsl := HF.out y
                clear h1 hye hwy
                generalize stb A y = Y at *
                generalize hyl : Y.length = yl at *
                have HYL := Lib.hid hyl
                clear hyl
                have HRU := Lib.hid (show ∀ (X : World) r, TL X r yl Y → ∃ q c, r = .slice q yl c from fun X r h => by
                  obtain ⟨-, q, c, e, -⟩ := h.u
                  exact ⟨q, c, e⟩)
                go_wp2_with (first
                  | (go_at_call 19; (with_reducible refine HS1.out.mono ?_); rintro e w5 ⟨⟨r, t, rfl, hr, ht1, ht2⟩, hb⟩; obtain ⟨q1, c1, rfl⟩ := HRU.out _ _ hr; have HT := Lib.hid (C.bel HT.out hb); have HXS := Lib.hid (HXS.out.keep hb); have HB := Lib.hid (HB.out.trans (hb.mono HB.out.size)); have htz1 : ¬ (t : Int) < yl := (by omega); have htz2 : ¬ 2 * (G : Int) + 2 + (yl : Int) < t := (by omega); clear hr hb)
                  | (go_at_call 20; (with_reducible refine (HS2.out _ HT.out).mono ?_); rintro e w6 ⟨⟨t2, rfl, hc2⟩, hb⟩; have HT := Lib.hid (C.bel HT.out hb); have HXS := Lib.hid (HXS.out.keep hb); have HB := Lib.hid (HB.out.trans (hb.mono HB.out.size)); have hcz1 : ¬ (t2 : Int) < 0 := (by omega); have hcz2 : ¬ 2 * (G : Int) + 2 < t2 := (by omega); clear hb))
                go_roundw
                case rel =>
                  exact ⟨k2 + 1, by omega, by go_num, HT, HXS, HB⟩
                case measure => simp [intOf]; omega
            · have hltz2 : ¬ (k2 : Int) < h20 := by omega
              go_wp2_with (go_at_call 10; (with_reducible refine (HAW.out _).mono ?_); rintro e w9 ⟨rfl, hb⟩; have HB := Lib.hid (HB.out.trans (hb.mono HB.out.size)); clear hb)
              go_ret
              exact ⟨rfl, HB.out⟩
    · go_enter Try.func4, Try.ntmps4
      go_wp2_with (first
        | (go_at_call 11; (with_reducible refine HBU.out.mono ?_); rintro e w1 ⟨hb, hor⟩; rcases hor with ⟨hn, -⟩ | ⟨-, v, S, rfl, -, -⟩; (exact absurd hn hrg); have HB := Lib.hid hb; clear hb)
        | (go_at_call 10; (with_reducible refine (HAW.out _).mono ?_); rintro e w9 ⟨rfl, hb⟩; have HB := Lib.hid (HB.out.trans (hb.mono HB.out.size)); clear hb))
      go_ret
      exact ⟨rfl, HB.out⟩
  · have hbz : (200 : Int) < L.length := by omega
    clear hx hxs hc hw hD
    generalize L.length = m at *
    go_enter Try.func4, Try.ntmps4
    go_wp2_with (go_at_call 10; (with_reducible refine (HAW.out _).mono ?_); rintro e w9 ⟨rfl, hb⟩; have HB := Lib.hid hb; clear hb)
    go_ret
    exact ⟨rfl, HB.out⟩
end Go.Proofs.Ytgcimicbbadapaa
