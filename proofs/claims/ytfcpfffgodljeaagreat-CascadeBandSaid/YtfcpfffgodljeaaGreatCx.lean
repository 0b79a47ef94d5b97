/-
  CascadeBand: whatever was dropped, the tree with bridges tells what the one without them tells; over any two trees.
-/
import Derived.Test.YtfcpfffgodljeaaGreatCd
namespace Go.Proofs.YtfcpfffgodljeaaGreat.Ca
open Go.ChangeShapes Go.WideShapes Go.ChangeAt Go.RowKit Go.Joins

theorem min14 (X : World) (ty : TypeId) (n : Nat) (k : Int) (hk : k = ((min n 14 : Nat) : Int)) : (Builtin.min_ #[3, 3] ty #[.int .i64 n, .int .i64 14]).run Tryz.prog X = .ok (.int .i64 k) X := by
  subst hk
  by_cases h : n ≤ 14
  · have h2 : ¬ (14 : Int) < n := by omega
    simp [Builtin.min_, Builtin.min2, go_sem, Nat.min_eq_left h, h2]
  · have h2 : (14 : Int) < n := by omega
    simp [Builtin.min_, Builtin.min2, go_sem, Nat.min_eq_right (by omega : 14 ≤ n), h2]
set_option maxRecDepth 100000 in
set_option maxHeartbeats 12800000 in
theorem band_walk {TS TU : World → Value → Nat → List Nat → List S3 → Prop} (C : CascC TS) (B : BandC TU) (w : World) (p q qd : Option Addr) (c d cd : Nat) (L : List S3) (xs : List B5) (D : List Int) (hx : TsS w p L) (hc : L.length ≤ c) (hp : p = none → c = 0) (hw : ∀ s ∈ L, Wf3 s) (hxs : BsS w q xs) (hd : xs.length ≤ d) (hwx : ∀ x ∈ xs, Wf5 x) (hD : NS w qd .u8 D) (hcd : D.length ≤ cd) (hwd : ∀ x ∈ D, (Lit.int .u8 x).wf = true) :
    Calls Tryz.prog 11 #[.slice p L.length c, .slice q xs.length d, .slice qd D.length cd] w fun e w' => e = .returned (.bool true) ∧ Below w.heap.size w w' := by
  have HAW := Lib.hid (awake_any C)
  by_cases hbig : L.length ≤ 100
  · have hbz : ¬ (100 : Int) < L.length := by omega
    have HX := Lib.hid hx
    have HDD := Lib.hid hD
    have HWD := Lib.hid hwd
    have HWF := Lib.hid hw
    have HXS := Lib.hid hxs
    have HWX := Lib.hid hwx
    have HDR := Lib.hid (dropped_any C w p qd c cd L D hx hc hp hw (by omega) hD hcd hwd)
    have HBU := Lib.hid (fun X (hX : Below w.heap.size w X) => B.build X p c L (hx.keep hX) (by omega) hc hp hw)
    obtain ⟨h14, hh14⟩ : ∃ h, h = min xs.length 14 := ⟨_, rfl⟩
    obtain ⟨h100, hh100⟩ : ∃ h, h = min D.length 100 := ⟨_, rfl⟩
    have HMIN1 := Lib.hid (fun X ty => min14 X ty xs.length (h14 : Int) (by rw [hh14]))
    have HMIN2 := Lib.hid (fun X ty => min100 X ty D.length (h100 : Int) (by rw [hh100]))
    have HSL1 := Lib.hid (fun X => slX_to X q xs.length d h14 (by omega))
    have HSL2 := Lib.hid (fun X => slB_to X qd D.length cd h100 (by omega))
    have h14b : h14 ≤ 14 := by omega
    have h100b : h100 ≤ 100 := by omega
    have HH14 := Lib.hid (show h14 ≤ xs.length by omega)
    have HH100 := Lib.hid (show h100 ≤ D.length by omega)
    have hal := dk_len L D h100
    rw [← hh100] at HDR
    obtain ⟨m, hmm⟩ : ∃ m, m = L.length := ⟨_, rfl⟩
    have HM := Lib.hid hmm
    rw [← hmm] at HDR HBU hbz hbig hal ⊢
    obtain ⟨xl, hxl⟩ : ∃ l, l = xs.length := ⟨_, rfl⟩
    have HXL := Lib.hid hxl
    rw [← hxl] at HMIN1 HSL1 HH14 ⊢
    obtain ⟨dl, hdl⟩ : ∃ l, l = D.length := ⟨_, rfl⟩
    have HDL := Lib.hid hdl
    rw [← hdl] at HMIN2 HSL2 HH100 HDR ⊢
    clear hx hc hp hw hxs hd hwx hD hcd hwd hh14 hh100 hmm hxl hdl
    by_cases hrg : Rg L
    · have HRG := Lib.hid hrg
      clear hrg
      have hmin := HMIN2.out
      have hsl := HSL2.out
      go_enter Tryz.func11, Tryz.ntmps11
      go_wp2_with (first
        | (go_at_call 33; (with_reducible refine HDR.out.mono ?_); rintro e w1 ⟨hb, hor⟩; rcases hor with ⟨-, v, S, rfl, hT⟩ | ⟨hn', -⟩; rotate_left; (exact absurd HRG.out hn'); have HT := Lib.hid hT; have HB1 := Lib.hid hb; have HSA := Lib.hid (C.lies hT); clear hb hT)
        | (go_at_call 16; (with_reducible refine (HBU.out _ HB1.out).mono ?_); rintro e w2 ⟨hb, hor⟩; rcases hor with ⟨-, v2, S2, rfl, hU, hS2⟩ | ⟨hn', -⟩; rotate_left; (exact absurd HRG.out hn'); rw [← HM.out] at hU; have HU := Lib.hid hU; have HT := Lib.hid (C.bel HT.out hb); have HDJ := Lib.hid (show ∀ b ∈ S2, w1.heap.size ≤ b from hS2); have HBy := Lib.hid hb; clear hb hU hS2))
      have HTx := HT
      have HLS := Lib.hid (show ∀ b ∈ S, b < w1.heap.size from HSA.out)
      clear hmin hsl HMIN2 HSL2 HDR HBU HT HRG HSA
      go_loopw [51] (fun v51 wr => ∃ (k : Nat) (S2 : List Nat), k ≤ h100 ∧ v51 = .int .i64 k ∧ Hid (TU wr v2 m S2 (dk L D k)) ∧ Hid (TS wr v m S (dk L D h100)) ∧ Hid (∀ b ∈ S2, w1.heap.size ≤ b) ∧ Hid (Below w1.heap.size w1 wr)) (fun i _ => h100 - (intOf i).toNat)
      case atStart => exact ⟨0, S2, Nat.zero_le _, rfl, HU, HTx, HDJ, HBy⟩
      case round =>
        clear HTx HU HDJ HBy
        obtain ⟨k, S2, hk, rfl, HU, HT, HSS, HB⟩ := hrel
        by_cases hlt : k < h100
        · have hltz : (k : Int) < h100 := by omega
          obtain ⟨y, hye⟩ : ∃ y, D[k]? = some y := ⟨_, List.getElem?_eq_getElem (by have := HH100.out; have := HDL.out; omega)⟩
          have HYE := Lib.hid hye
          rcases (HDD.out.keep HB1.out).keep HB.out with h0 | ⟨b, off, rfl, h1⟩
          · rw [h0] at hye; simp at hye
          · have cy := h1 k y hye
            have hwy := HWD.out y (List.mem_of_getElem? hye)
            have hyr : 0 ≤ y ∧ y ≤ 255 := by simpa [Lit.wf, show IntKind.u8.min = 0 from rfl, show IntKind.u8.max = 255 from rfl] using hwy
            clear h1 hye hwy
            by_cases hm0 : m = 0
            · have hmz : ¬ (0 : Int) < m := by omega
              have HDN := Lib.hid (dk_none (D := D) (k := k) (show L.length = 0 by rw [← HM.out, hm0]))
              have HM0 := Lib.hid hm0
              clear hm0
              go_wp2
              go_roundw
              case rel => exact ⟨k + 1, S2, by omega, by go_num, Lib.hid (by rw [HDN.out]; exact HU.out), HT, HSS, HB⟩
              case measure => simp [intOf]; omega
            · have hmz : (0 : Int) < m := by omega
              obtain ⟨j, hj⟩ : ∃ j, j = y.toNat % m := ⟨_, rfl⟩
              have hjm : j < m := by rw [hj]; exact Nat.mod_lt _ (by omega)
              have hrem : Int.tmod y (m : Int) = (j : Int) := by
                rw [Int.tmod_eq_emod_of_nonneg hyr.1, hj, Int.natCast_emod, Int.toNat_of_nonneg hyr.1]
              have hjz : (j : Int) < m := by omega
              obtain ⟨s, hse⟩ : ∃ s, L[j]? = some s := ⟨_, List.getElem?_eq_getElem (by have := HM.out; omega)⟩
              have HDS := Lib.hid (dk_step HYE.out (show L[y.toNat % L.length]? = some s by rw [← HM.out, ← hj]; exact hse))
              obtain ⟨b2, off2, rfl, h2⟩ := ((HX.out.keep HB1.out).keep HB.out).at hse
              have n0 := h2.c0
              have n1 := h2.c1
              have n2 := h2.c2
              have hcd := B.drop s HU.out (HWF.out s (List.mem_of_getElem? hse))
              rw [← HDS.out] at hcd
              have HCD := Lib.hid hcd
              have hm0' : ¬ (m : Int) = 0 := by omega
              obtain ⟨lo, hh, id⟩ := s
              unfold tv at HCD
              simp only at n0 n1 n2
              obtain ⟨hy0, hy1⟩ := hyr
              clear hse h2 hj hm0 hcd
              go_wp2_with (go_at_call 22; (with_reducible refine HCD.out.mono ?_); rintro e w4 ⟨rfl, S4, hU, hO, hS4⟩; have HU3 := Lib.hid hU; have HB3 := Lib.hid (HB.out.trans (hO.below (N := w1.heap.size) HB.out.size HSS.out)); have HT3 := Lib.hid (C.keep HT.out hO (fun b hb hb2 => by have := HLS.out b hb; have := HSS.out b hb2; omega)); have HSS3 := Lib.hid (show ∀ b ∈ S4, w1.heap.size ≤ b from fun b hb => (hS4 b hb).elim (HSS.out b) (Nat.le_trans HB.out.size)); clear hU hO hS4)
              go_roundw
              case rel => exact ⟨k + 1, S4, by omega, by go_num, HU3, HT3, HSS3, HB3⟩
              case measure => simp [intOf]; omega
        · obtain rfl : k = h100 := by omega
          have hltz : ¬ (k : Int) < k := by omega
          have HB := Lib.hid (HB1.out.trans (HB.out.mono HB1.out.size))
          generalize dk L D k = A at *
          have HRE := Lib.hid (fun X b (h : TS X v m S A) (hb : Wf5 b) => C.report b h hb)
          have HCO := Lib.hid (fun X b (h : TS X v m S A) (hb : Wf5 b) => C.count b h hb)
          have HLE := Lib.hid (fun X (h : TS X v m S A) => C.len h)
          have HRU := Lib.hid (fun X b (h : TU X v2 m S2 A) (hb : Wf5 b) => B.report b h hb)
          have HCU := Lib.hid (fun X b (h : TU X v2 m S2 A) (hb : Wf5 b) => B.count b h hb)
          have HLU := Lib.hid (fun X (h : TU X v2 m S2 A) => B.len h)
          have HF := Lib.hid (show ∀ z, (hsS A z).length ≤ 250 from fun z => Nat.le_trans (hsS_len A z) (by omega))
          generalize A.length = al at *
          have hmin := HMIN1.out
          have hsl := HSL1.out
          clear HMIN1 HSL1 HX HDD HWD HWF
          go_wp2
          have HTx := HT
          have HBx := HB
          clear hmin hsl HT HB
          go_loopw [75] (fun v75 wr => ∃ k : Nat, k ≤ h14 ∧ v75 = .int .i64 k ∧ Hid (TS wr v m S A) ∧ Hid (TU wr v2 m S2 A) ∧ Hid (Below w.heap.size w wr)) (fun i _ => h14 - (intOf i).toNat)
          case atStart => exact ⟨0, Nat.zero_le _, rfl, HTx, HU, HBx⟩
          case round =>
            clear HTx HBx HU
            obtain ⟨kk, hk2, rfl, HT, HU, HB⟩ := hrel
            by_cases hlt2 : kk < h14
            · have hltz2 : (kk : Int) < h14 := by omega
              obtain ⟨b, hbe⟩ : ∃ b, xs[kk]? = some b := ⟨_, List.getElem?_eq_getElem (by have := HH14.out; have := HXL.out; omega)⟩
              obtain ⟨bb, off, rfl, h1⟩ := (HXS.out.keep HB.out).at hbe
              have HWB := Lib.hid (HWX.out b (List.mem_of_getElem? hbe))
              have n0 := h1.c0
              have n1 := h1.c1
              have n2 := h1.c2
              have n3 := h1.c3
              have n4 := h1.c4
              obtain ⟨W, hW⟩ : ∃ W, W = wr.alloc (.cells (bvs b).toArray 42) := ⟨_, rfl⟩
              have HN := Lib.hid (show X1 W wr.heap.size 0 b by rw [hW]; exact X1.new wr b _)
              have HB := Lib.hid (show Below w.heap.size w W by rw [hW]; exact HB.out.alloc HB.out.size _)
              have HT := Lib.hid (show TS W v m S A by rw [hW]; exact C.bel HT.out ((Below.refl _ wr).alloc (Nat.le_refl _) _))
              have HU := Lib.hid (show TU W v2 m S2 A by rw [hW]; exact B.bel HU.out ((Below.refl _ wr).alloc (Nat.le_refl _) _))
              have HLT := Lib.hid HN.out.lt
              have HS1 := Lib.hid (fun X (h : TS X v m S A) => HRE.out X b h HWB.out)
              have HS2 := Lib.hid (fun X (h : TS X v m S A) => HCO.out X b h HWB.out)
              have HS3 := Lib.hid (fun X (h : TU X v2 m S2 A) => HRU.out X b h HWB.out)
              have HS4 := Lib.hid (fun X (h : TU X v2 m S2 A) => HCU.out X b h HWB.out)
              have HI : Hid (∀ X q1 c1 q2 c2, NS X q1 .u32 (hsS A b.1) → NS X q2 .u32 (hsS A b.1) → Calls Tryz.prog 36 #[.slice q1 (hsS A b.1).length c1, .slice q2 (hsS A b.1).length c2] X fun e w' => e = .returned (.bool true) ∧ Below X.heap.size X w') := Lib.hid (fun X q1 c1 q2 c2 h1 h2 => by
                refine (sameIDs_any X q1 q2 c1 c2 _ _ h1 h2 (Nat.le_trans (HF.out _) (by decide))).mono ?_
                rintro e w' ⟨rfl, hb⟩
                exact ⟨by simp, hb⟩)
              clear hbe h1
              obtain ⟨⟨x1, x2, y1, y2⟩, bi⟩ := b
              unfold bvs at hW
              unfold bv at HS1 HS2 HS3 HS4
              simp only at n0 n1 n2 n3 n4 HS1 HS2 HS3 HS4 HI
              have HW1 := Lib.hid hW
              clear hW
              generalize hsS A (x1, x2, y1, y2) = Z at *
              have HRL := Lib.hid (show ∀ (Y : World) r, RL Y r Z → ∃ q c, r = .slice q Z.length c ∧ NS Y q .u32 Z from fun Y r h => by obtain ⟨q, c, h1, h2, -⟩ := h; exact ⟨q, c, h1, h2⟩)
              generalize hzl : Z.length = zl at *
              clear hzl
              have m0 := HN.out.c0
              have m1 := HN.out.c1
              have m2 := HN.out.c2
              have m3 := HN.out.c3
              have m4 := HN.out.c4
              simp only [Nat.zero_add] at m0 m1 m2 m3 m4
              go_upto_region 18 with fail
              rw [← HW1.out]
              clear HW1 n0 n1 n2 n3 n4
              go_wp2_with (first
                | (go_at_call 34; (with_reducible refine (HS1.out _ HT.out).mono ?_); rintro e w5 ⟨⟨r, t, rfl, hr, -, -⟩, hb⟩; obtain ⟨q1, c1, rfl, hq⟩ := HRL.out _ _ hr; have HQ1 := Lib.hid hq; have HN := Lib.hid (HN.out.keep hb HLT.out); have HLT := Lib.hid HN.out.lt; have k0 := HN.out.c0; have k1 := HN.out.c1; have k2 := HN.out.c2; have k3 := HN.out.c3; have k4 := HN.out.c4; simp only [Nat.zero_add] at k0 k1 k2 k3 k4; have HT := Lib.hid (C.bel HT.out hb); have HU := Lib.hid (B.bel HU.out hb); have HB := Lib.hid (HB.out.trans (hb.mono HB.out.size)); clear hr hb hq)
                | (go_at_call 24; (with_reducible refine (HS3.out _ HU.out).mono ?_); rintro e w6 ⟨⟨r, t2, rfl, hr, -, -⟩, hb⟩; obtain ⟨q2, c2, rfl, hq⟩ := HRL.out _ _ hr; have HQ2 := Lib.hid hq; have HQ1 := Lib.hid (HQ1.out.keep hb); have HN := Lib.hid (HN.out.keep hb HLT.out); have HLT := Lib.hid HN.out.lt; have k0 := HN.out.c0; have k1 := HN.out.c1; have k2 := HN.out.c2; have k3 := HN.out.c3; have k4 := HN.out.c4; simp only [Nat.zero_add] at k0 k1 k2 k3 k4; have HT := Lib.hid (C.bel HT.out hb); have HU := Lib.hid (B.bel HU.out hb); have HB := Lib.hid (HB.out.trans (hb.mono HB.out.size)); clear hr hb hq)
                | (go_at_call 35; (with_reducible refine (HS2.out _ HT.out).mono ?_); rintro e w7 ⟨⟨t3, rfl, -⟩, hb⟩; have HQ1 := Lib.hid (HQ1.out.keep hb); have HQ2 := Lib.hid (HQ2.out.keep hb); have HN := Lib.hid (HN.out.keep hb HLT.out); have HLT := Lib.hid HN.out.lt; have k0 := HN.out.c0; have k1 := HN.out.c1; have k2 := HN.out.c2; have k3 := HN.out.c3; have k4 := HN.out.c4; simp only [Nat.zero_add] at k0 k1 k2 k3 k4; have HT := Lib.hid (C.bel HT.out hb); have HU := Lib.hid (B.bel HU.out hb); have HB := Lib.hid (HB.out.trans (hb.mono HB.out.size)); clear hb)
                | (go_at_call 25; (with_reducible refine (HS4.out _ HU.out).mono ?_); rintro e w8 ⟨⟨t4, rfl, -⟩, hb⟩; have HQ1 := Lib.hid (HQ1.out.keep hb); have HQ2 := Lib.hid (HQ2.out.keep hb); have HN := Lib.hid (HN.out.keep hb HLT.out); have HLT := Lib.hid HN.out.lt; have k0 := HN.out.c0; have k1 := HN.out.c1; have k2 := HN.out.c2; have k3 := HN.out.c3; have k4 := HN.out.c4; simp only [Nat.zero_add] at k0 k1 k2 k3 k4; have HT := Lib.hid (C.bel HT.out hb); have HU := Lib.hid (B.bel HU.out hb); have HB := Lib.hid (HB.out.trans (hb.mono HB.out.size)); clear hb)
                | (go_at_call 36; (with_reducible refine (HI.out _ _ _ _ _ HQ1.out HQ2.out).mono ?_); rintro e w9 ⟨rfl, hb⟩; have HT := Lib.hid (C.bel HT.out hb); have HU := Lib.hid (B.bel HU.out hb); have HB := Lib.hid (HB.out.trans (hb.mono HB.out.size)); clear hb))
              go_roundw
              case rel => exact ⟨kk + 1, by omega, by go_num, HT, HU, HB⟩
              case measure => simp [intOf]; omega
            · have hltz2 : ¬ (kk : Int) < h14 := by omega
              go_wp2_with (first
                | (go_at_call 30; (with_reducible refine (HLE.out _ HT.out).mono ?_); rintro e w10 ⟨rfl, hb⟩; have HU := Lib.hid (B.bel HU.out hb); have HB := Lib.hid (HB.out.trans (hb.mono HB.out.size)); clear hb)
                | (go_at_call 18; (with_reducible refine (HLU.out _ HU.out).mono ?_); rintro e w11 ⟨rfl, hb⟩; have HB := Lib.hid (HB.out.trans (hb.mono HB.out.size)); clear hb)
                | (go_at_call 28; (with_reducible refine (HAW.out _).mono ?_); rintro e w90 ⟨rfl, hb⟩; have HB := Lib.hid (HB.out.trans (hb.mono HB.out.size)); clear hb))
              go_ret
              exact ⟨rfl, HB.out⟩
    · have HRG := Lib.hid hrg
      clear hrg
      go_enter Tryz.func11, Tryz.ntmps11
      go_wp2_with (first
        | (go_at_call 33; (with_reducible refine HDR.out.mono ?_); rintro e w1 ⟨hb, hor⟩; rcases hor with ⟨hn, -⟩ | ⟨-, rfl⟩; (exact absurd hn HRG.out); have HB := Lib.hid hb; clear hb)
        | (go_at_call 16; (with_reducible refine (HBU.out _ HB.out).mono ?_); rintro e w2 ⟨hb, hor⟩; rcases hor with ⟨hn, -⟩ | ⟨-, v, S, rfl, -, -⟩; (exact absurd hn HRG.out); have HB := Lib.hid (HB.out.trans (hb.mono HB.out.size)); clear hb)
        | (go_at_call 28; (with_reducible refine (HAW.out _).mono ?_); rintro e w90 ⟨rfl, hb⟩; have HB := Lib.hid (HB.out.trans (hb.mono HB.out.size)); clear hb))
      go_ret
      exact ⟨rfl, HB.out⟩
  · have hbz : (100 : Int) < L.length := by omega
    clear hx hxs hc hw hD hp hbig hcd hwd
    generalize L.length = m at *
    go_enter Tryz.func11, Tryz.ntmps11
    go_wp2_with (go_at_call 28; (with_reducible refine (HAW.out _).mono ?_); rintro e w90 ⟨rfl, hb⟩; have HB := Lib.hid hb; clear hb)
    go_ret
    exact ⟨rfl, HB.out⟩
end Go.Proofs.YtfcpfffgodljeaaGreat.Ca
