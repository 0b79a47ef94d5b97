/-
  LowBound: what a tree touches is a few times its height, and twice that for each point told, whatever was dropped; over any tree that tells the lowest.
-/
import Derived.Test.YtldmajifkmcdcaaGreatMLs
import Derived.Test.YtldmajifkmcdcaaGreatLaw
namespace Go.Proofs.YtldmajifkmcdcaaGreat.Lw
open Go.ChangeShapes Go.WideShapes Go.ChangeAt Go.RowKit Go.Joins
set_option maxRecDepth 100000 in
set_option maxHeartbeats 12800000 in
theorem bound_walk {TS : World → Value → Nat → List Nat → List S3 → Prop} (C : LowC TS) (w : World) (p q qd : Option Addr) (c d cd : Nat) (L : List S3) (xs : List S3) (D : List Int) (hx : TsS w p L) (hc : L.length ≤ c) (hp : p = none → c = 0) (hw : ∀ s ∈ L, Wf3 s) (hxs : UsS w q xs) (hd : xs.length ≤ d) (hwx : ∀ x ∈ xs, WfU x) (hD : NS w qd .u8 D) (hcd : D.length ≤ cd) (hwd : ∀ x ∈ D, (Lit.int .u8 x).wf = true) :
    Calls Tryz.prog 4 #[.slice p L.length c, .slice q xs.length d, .slice qd D.length cd] w fun e w' => e = .returned (.bool true) ∧ Below w.heap.size w w' := by
  have HAW := Lib.hid (awake_any C)
  by_cases hbig : L.length ≤ 200
  · have hbz : ¬ (200 : Int) < L.length := by omega
    have HX := Lib.hid hx
    have HDD := Lib.hid hD
    have HWD := Lib.hid hwd
    have HXS := Lib.hid hxs
    have HWX := Lib.hid hwx
    have HWF := Lib.hid hw
    have HBU := Lib.hid (C.build w p c L hx (by omega) hc hp hw)
    obtain ⟨h20, hh20⟩ : ∃ h, h = min xs.length 20 := ⟨_, rfl⟩
    obtain ⟨h100, hh100⟩ : ∃ h, h = min D.length 200 := ⟨_, rfl⟩
    have HMIN1 := Lib.hid (fun X ty => min20 X ty xs.length (h20 : Int) (by rw [hh20]))
    have HMIN2 := Lib.hid (fun X ty => min200 X ty D.length (h100 : Int) (by rw [hh100]))
    have HSL1 := Lib.hid (fun X => slU_to X q xs.length d h20 (by omega))
    have HSL2 := Lib.hid (fun X => slB_to X qd D.length cd h100 (by omega))
    have h20b : h20 ≤ 20 := by omega
    have h100b : h100 ≤ 200 := by omega
    have HH20 := Lib.hid (show h20 ≤ xs.length by omega)
    have HH100 := Lib.hid (show h100 ≤ D.length by omega)
    obtain ⟨m, hmm⟩ : ∃ m, m = L.length := ⟨_, rfl⟩
    have HM := Lib.hid hmm
    rw [← hmm] at HBU hbz hbig ⊢
    obtain ⟨xl, hxl⟩ : ∃ l, l = xs.length := ⟨_, rfl⟩
    have HXL := Lib.hid hxl
    rw [← hxl] at HMIN1 HSL1 HH20 ⊢
    obtain ⟨dl, hdl⟩ : ∃ l, l = D.length := ⟨_, rfl⟩
    have HDL := Lib.hid hdl
    rw [← hdl] at HMIN2 HSL2 HH100 ⊢
    clear hx hc hp hw hxs hd hwx hD hcd hwd hh20 hh100 hmm hxl hdl
    by_cases hrg : Rg L
    · obtain ⟨G, hG⟩ : ∃ G, G = lgN (m + 1) := ⟨_, rfl⟩
      have hG63 : G ≤ 63 := by
        by_cases h : m = 0
        · rw [hG, h, lg_small (by omega)]; omega
        · rw [hG]; exact (lg_spec (n := m + 1) (by omega) (by omega)).2.1
      have HG := Lib.hid hG
      have HLG : Hid (∀ X, Calls Tryz.prog 16 #[.int .i64 ((m : Int) + 1)] X fun e w' => e = .returned (.int .i64 (G : Int)) ∧ w' = X) := Lib.hid (fun X => by
        have h := Log_any ((m : Int) + 1) X (by omega)
        have h2 : lgI ((m : Int) + 1) = G := by rw [hG]; unfold lgI; congr 1
        rw [h2] at h
        exact h)
      clear hG
      go_enter Tryz.func4, Tryz.ntmps4
      have hmin := HMIN2.out
      have hsl := HSL2.out
      go_wp2_with (go_at_call 10; (with_reducible refine HBU.out.mono ?_); rintro e w1 ⟨hb, hor⟩; rcases hor with ⟨-, v, S, rfl, hT, hS⟩ | ⟨hn', -⟩; rotate_left; (exact absurd hrg hn'); rw [← HM.out] at hT; have HT := Lib.hid hT; have HB := Lib.hid hb; have HSS := Lib.hid hS; clear hb hT hS)
      clear hmin hsl HBU HMIN2 HSL2
      go_loopw [37] (fun v37 wr => ∃ (k : Nat) (S : List Nat) (A : List S3), k ≤ h100 ∧ v37 = .int .i64 k ∧ Hid (TS wr v m S A) ∧ Hid (∀ b ∈ S, w.heap.size ≤ b) ∧ Hid (Below w.heap.size w wr)) (fun i _ => h100 - (intOf i).toNat)
      case atStart => exact ⟨0, S, L, Nat.zero_le _, rfl, HT, HSS, HB⟩
      case round =>
        clear HT HSS HB
        obtain ⟨k, S, A, hk, rfl, HT, HSS, HB⟩ := hrel
        by_cases hlt : k < h100
        · have hltz : (k : Int) < h100 := by omega
          obtain ⟨y, hye⟩ : ∃ y, D[k]? = some y := ⟨_, List.getElem?_eq_getElem (by have := HH100.out; have := HDL.out; omega)⟩
          rcases HDD.out.keep HB.out with h0 | ⟨b, off, rfl, h1⟩
          · rw [h0] at hye; simp at hye
          · have cy := h1 k y hye
            have hwy := HWD.out y (List.mem_of_getElem? hye)
            have hyr : 0 ≤ y ∧ y ≤ 255 := by simpa [Lit.wf, show IntKind.u8.min = 0 from rfl, show IntKind.u8.max = 255 from rfl] using hwy
            clear h1 hye hwy
            by_cases hm0 : m = 0
            · have hmz : ¬ (0 : Int) < m := by omega
              have HM0 := Lib.hid hm0
              clear hm0
              go_wp2
              go_roundw
              case rel => exact ⟨k + 1, S, A, by omega, by go_num, HT, HSS, HB⟩
              case measure => simp [intOf]; omega
            · have hmz : (0 : Int) < m := by omega
              obtain ⟨j, hj⟩ : ∃ j, j = y.toNat % m := ⟨_, rfl⟩
              have hjm : j < m := by rw [hj]; exact Nat.mod_lt _ (by omega)
              have hrem : Int.tmod y (m : Int) = (j : Int) := by
                rw [Int.tmod_eq_emod_of_nonneg hyr.1, hj, Int.natCast_emod, Int.toNat_of_nonneg hyr.1]
              have hjz : (j : Int) < m := by omega
              obtain ⟨s, hse⟩ : ∃ s, L[j]? = some s := ⟨_, List.getElem?_eq_getElem (by have := HM.out; omega)⟩
              obtain ⟨b2, off2, rfl, h2⟩ := (HX.out.keep HB.out).at hse
              have n0 := h2.c0
              have n1 := h2.c1
              have n2 := h2.c2
              have HCD := Lib.hid (C.drop s HT.out (HWF.out s (List.mem_of_getElem? hse)))
              have hm0' : ¬ (m : Int) = 0 := by omega
              obtain ⟨lo, hh, id⟩ := s
              unfold tv at HCD
              simp only at n0 n1 n2
              obtain ⟨hy0, hy1⟩ := hyr
              clear hse h2 hj hm0
              go_wp2_with (go_at_call 15; (with_reducible refine HCD.out.mono ?_); rintro e w4 ⟨rfl, S4, hT, hO, hS4⟩; have HT3 := Lib.hid hT; have HB3 := Lib.hid (HB.out.trans (hO.below (N := w.heap.size) HB.out.size HSS.out)); have HSS3 := Lib.hid (show ∀ b ∈ S4, w.heap.size ≤ b from fun b hb => (hS4 b hb).elim (HSS.out b) (Nat.le_trans HB.out.size)); clear hT hO hS4)
              go_roundw
              case rel => exact ⟨k + 1, S4, _, by omega, by go_num, HT3, HSS3, HB3⟩
              case measure => simp [intOf]; omega
        · obtain rfl : k = h100 := by omega
          have hltz : ¬ (k : Int) < k := by omega
          obtain ⟨hAn, hn4, -, -⟩ := C.few HT.out
          have hmo : mostL m = 8 * G + 8 := by unfold mostL; rw [← HG.out]
          have hea : eachL m = 2 * G + 3 := by unfold eachL; rw [← HG.out]
          have hre := fun X (s : S3) (h : TS X v m S A) (hb : WfU s) => C.lowest s.1 s.2.1 h hb.1 hb.2.1
          have hco := fun X (s : S3) (h : TS X v m S A) (hb : WfU s) => C.lows s.1 s.2.1 s.2.2 h hb.1 hb.2.1 hb.2.2
          rw [hmo] at hre hco
          rw [hea] at hco
          have HRE := Lib.hid hre
          have HCO := Lib.hid hco
          have HF := Lib.hid (show ∀ x1 x2 k, ((lwL x1 x2 A).take k).length ≤ 400 from fun x1 x2 k => by have := lwL_len x1 x2 A; rw [List.length_take]; omega)
          have hmin := HMIN1.out
          have hsl := HSL1.out
          have HTx := HT
          have HBx := HB
          clear hAn hn4 HSS HX HWF HDD HWD hre hco hmo hea HMIN1 HSL1
          go_wp2_with (go_at_call 16; (with_reducible refine (HLG.out _).mono ?_); rintro e w2 ⟨rfl, hw2⟩; subst hw2)
          have HTx := HT
          have HBx := HB
          clear hmin hsl HLG
          go_loopw [65] (fun v65 wr => ∃ k : Nat, k ≤ h20 ∧ v65 = .int .i64 k ∧ Hid (TS wr v m S A) ∧ Hid (Below w.heap.size w wr)) (fun i _ => h20 - (intOf i).toNat)
          case atStart => exact ⟨0, Nat.zero_le _, rfl, HTx, HBx⟩
          case round =>
            clear HT HB HTx HBx
            obtain ⟨k2, hk2, rfl, HT, HB⟩ := hrel
            by_cases hlt2 : k2 < h20
            · have hltz2 : (k2 : Int) < h20 := by omega
              obtain ⟨b, hbe⟩ : ∃ b, xs[k2]? = some b := ⟨_, List.getElem?_eq_getElem (by have := HH20.out; have := HXL.out; omega)⟩
              obtain ⟨bb, off, rfl, h1⟩ := (HXS.out.keep HB.out).at hbe
              have HWB := Lib.hid (HWX.out b (List.mem_of_getElem? hbe))
              have n0 := h1.c0
              have n1 := h1.c1
              have n2 := h1.c2
              obtain ⟨W, hW⟩ : ∃ W, W = wr.alloc (.cells (uvs b).toArray 42) := ⟨_, rfl⟩
              have HN := Lib.hid (show U1 W wr.heap.size 0 b by rw [hW]; exact U1.new wr b _)
              have HBW := Lib.hid (show Below w.heap.size w W by rw [hW]; exact HB.out.alloc HB.out.size _)
              have HTW := Lib.hid (show TS W v m S A by rw [hW]; exact C.bel HT.out ((Below.refl _ wr).alloc (Nat.le_refl _) _))
              have HLT := Lib.hid HN.out.lt
              have HS1 := Lib.hid (fun X (h : TS X v m S A) => HRE.out X b h HWB.out)
              have HS2 := Lib.hid (fun X (h : TS X v m S A) => HCO.out X b h HWB.out)
              have hf1 := HF.out b.1 b.2.1 b.2.2.toNat
              obtain ⟨f0, f1, f2, fb, hfs⟩ : ∃ (f0 f1 f2 : Int) (fb : Bool), fstL (lwL b.1 b.2.1 A) = (.agg #[.int .i64 f0, .int .i64 f1, .int .u32 f2], fb) := by
                cases lwL b.1 b.2.1 A with
                | nil => exact ⟨0, 0, 0, false, rfl⟩
                | cons s l => exact ⟨s.1, s.2.1, s.2.2, true, rfl⟩
              rw [hfs] at HS1
              generalize (lwL b.1 b.2.1 A).take b.2.2.toNat = Z1 at *
              clear hbe h1 HT HB hfs
              obtain ⟨px, py, pi⟩ := b
              unfold uvs at hW
              simp only at n0 n1 n2 HS1 HS2
              have HW1 := Lib.hid hW
              clear hW
              have HR1 : Hid (∀ (Y : World) r, PL Y r Z1 → ∃ q c, r = .slice q Z1.length c) := Lib.hid (fun Y r h => by obtain ⟨q, c, h1, -⟩ := h; exact ⟨q, c, h1⟩)
              generalize hz1 : Z1.length = z1 at *
              clear hz1
              have hG63' : G ≤ 63 := hG63
              obtain ⟨P, hP⟩ : ∃ P, P = z1 * (2 * G + 3) := ⟨_, rfl⟩
              have hPl : P ≤ 400 * 129 := by rw [hP]; exact Nat.mul_le_mul hf1 (by omega)
              have hPz : (z1 : Int) * (2 * (G : Int) + 3) = (P : Int) := by rw [hP, Int.natCast_mul, Int.natCast_add, Int.natCast_mul]; rfl
              have hPw : IntKind.i64.wrap ((z1 : Int) * (2 * (G : Int) + 3)) = (P : Int) := by rw [hPz, IntWalk.i64_in _ (by omega)]
              rw [← hP] at HS2
              clear hP
              have m0 := HN.out.c0
              have m1 := HN.out.c1
              have m2 := HN.out.c2
              simp only [Nat.zero_add] at m0 m1 m2
              go_upto_region 16 with fail
              rw [← HW1.out]
              clear HW1 n0 n1 n2
              have HT := HTW
              have HB := HBW
              go_wp2_with (first
                | (go_at_call 17; (with_reducible refine (HS1.out _ HT.out).mono ?_); rintro e w5 ⟨⟨t1, rfl, hc1⟩, hb⟩; have hb := hb.alloc (Below.size hb) (.cells #[.int .i64 f0, .int .i64 f1, .int .u32 f2] 34); have HN := Lib.hid (HN.out.keep hb HLT.out); have HLT := Lib.hid HN.out.lt; have m0 := HN.out.c0; have m1 := HN.out.c1; have m2 := HN.out.c2; simp only [Nat.zero_add] at m0 m1 m2; have HT := Lib.hid (C.bel HT.out hb); have HB := Lib.hid (HB.out.trans (hb.mono HB.out.size)); clear hb)
                | (go_at_call 18; (with_reducible refine (HS2.out _ HT.out).mono ?_); rintro e w6 ⟨⟨r, t2, rfl, hr, ha2, hc2⟩, hb⟩; obtain ⟨q1, c1, rfl⟩ := HR1.out _ _ hr.1; have hcz0 : ¬ (t1 : Int) < 0 := (by omega); have hcz1 : ¬ 8 * (G : Int) + 8 < t1 := (by omega); have hcz2 : ¬ (t2 : Int) < z1 := (by omega); have hcz3 : ¬ 8 * (G : Int) + 8 + (P : Int) < t2 := (by omega); have HT := Lib.hid (C.bel HT.out hb); have HB := Lib.hid (HB.out.trans (hb.mono HB.out.size)); clear hb hr ha2 hc2 hc1))
              go_roundw
              case rel => exact ⟨k2 + 1, by omega, by go_num, HT, HB⟩
              case measure => simp [intOf]; omega
            · have hltz2 : ¬ (k2 : Int) < h20 := by omega
              go_wp2_with (go_at_call 9; (with_reducible refine (HAW.out _).mono ?_); rintro e w9 ⟨rfl, hb⟩; have HB := Lib.hid (HB.out.trans (hb.mono HB.out.size)); clear hb)
              go_ret
              exact ⟨rfl, HB.out⟩
    · go_enter Tryz.func4, Tryz.ntmps4
      go_wp2_with (first
        | (go_at_call 10; (with_reducible refine HBU.out.mono ?_); rintro e w1 ⟨hb, hor⟩; rcases hor with ⟨hn, -⟩ | ⟨-, v, S, rfl, -, -⟩; (exact absurd hn hrg); have HB := Lib.hid hb; clear hb)
        | (go_at_call 9; (with_reducible refine (HAW.out _).mono ?_); rintro e w9 ⟨rfl, hb⟩; have HB := Lib.hid (HB.out.trans (hb.mono HB.out.size)); clear hb))
      go_ret
      exact ⟨rfl, HB.out⟩
  · have hbz : (200 : Int) < L.length := by omega
    clear hx hxs hc hw hD hp
    generalize L.length = m at *
    go_enter Tryz.func4, Tryz.ntmps4
    go_wp2_with (go_at_call 9; (with_reducible refine (HAW.out _).mono ?_); rintro e w9 ⟨rfl, hb⟩; have HB := Lib.hid hb; clear hb)
    go_ret
    exact ⟨rfl, HB.out⟩
end Go.Proofs.YtldmajifkmcdcaaGreat.Lw
