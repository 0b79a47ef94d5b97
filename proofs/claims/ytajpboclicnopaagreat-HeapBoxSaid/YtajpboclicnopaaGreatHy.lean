/-
  HeapBox: three sides have what the box has whose Y goes up to y from the least number on, whatever was dropped from both; over any two trees.
-/
import Derived.Test.YtajpboclicnopaaGreatMHb
import Derived.Test.YtajpboclicnopaaGreatMP
import Derived.Test.YtajpboclicnopaaGreatMQ
namespace Go.Proofs.YtajpboclicnopaaGreat.Hp
open Go.ChangeShapes Go.WideShapes Go.ChangeAt Go.RowKit Go.Joins
theorem th_box {A : List S3} (hA : ∀ s ∈ A, Wf3 s) (x1 x2 y : Int) : hsS A (x1, x2, -9223372036854775808, y) = nmS (thB x1 x2 y) A := by
  show nmS (hsB (x1, x2, -9223372036854775808, y)) A = _
  refine nmS_congr (fun s hs => ?_)
  have h := (i64_range (hA s hs).2.1).1
  simp only [hsB, thB]
  rw [decide_eq_true h, Bool.and_true]
set_option maxRecDepth 100000 in
set_option maxHeartbeats 12800000 in
theorem box_walk {TS TU : World → Value → Nat → List Nat → List S3 → Prop} (C : HeapC TS) (B : Ca.CascC TU) (w : World) (p q qd : Option Addr) (c d cd : Nat) (L : List S3) (xs : List S3) (D : List Int) (hx : TsS w p L) (hc : L.length ≤ c) (hp : p = none → c = 0) (hw : ∀ s ∈ L, Wf3 s) (hxs : UsS w q xs) (hd : xs.length ≤ d) (hwx : ∀ x ∈ xs, WfU x) (hD : NS w qd .u8 D) (hcd : D.length ≤ cd) (hwd : ∀ x ∈ D, (Lit.int .u8 x).wf = true) :
    Calls Tryz.prog 5 #[.slice p L.length c, .slice q xs.length d, .slice qd D.length cd] w fun e w' => e = .returned (.bool true) ∧ Below w.heap.size w w' := by
  have HAW := Lib.hid (awake_any C)
  by_cases hbig : L.length ≤ 100
  · have hbz : ¬ (100 : Int) < L.length := by omega
    have HX := Lib.hid hx
    have HDD := Lib.hid hD
    have HWD := Lib.hid hwd
    have HWF := Lib.hid hw
    have HXS := Lib.hid hxs
    have HWX := Lib.hid hwx
    have HBT := Lib.hid (C.build w p c L hx (by omega) hc hp hw)
    have HBU := Lib.hid (fun X (hX : Below w.heap.size w X) => B.build X p c L (hx.keep hX) (by omega) hc hp hw)
    obtain ⟨h14, hh14⟩ : ∃ h, h = min xs.length 14 := ⟨_, rfl⟩
    obtain ⟨h100, hh100⟩ : ∃ h, h = min D.length 100 := ⟨_, rfl⟩
    have HMIN1 := Lib.hid (fun X ty => min14 X ty xs.length (h14 : Int) (by rw [hh14]))
    have HMIN2 := Lib.hid (fun X ty => min100 X ty D.length (h100 : Int) (by rw [hh100]))
    have HSL1 := Lib.hid (fun X => slU_to X q xs.length d h14 (by omega))
    have HSL2 := Lib.hid (fun X => slB_to X qd D.length cd h100 (by omega))
    have h14b : h14 ≤ 14 := by omega
    have h100b : h100 ≤ 100 := by omega
    have HH14 := Lib.hid (show h14 ≤ xs.length by omega)
    have HH100 := Lib.hid (show h100 ≤ D.length by omega)
    obtain ⟨m, hmm⟩ : ∃ m, m = L.length := ⟨_, rfl⟩
    have HM := Lib.hid hmm
    rw [← hmm] at HBT HBU hbz hbig ⊢
    obtain ⟨xl, hxl⟩ : ∃ l, l = xs.length := ⟨_, rfl⟩
    have HXL := Lib.hid hxl
    rw [← hxl] at HMIN1 HSL1 HH14 ⊢
    obtain ⟨dl, hdl⟩ : ∃ l, l = D.length := ⟨_, rfl⟩
    have HDL := Lib.hid hdl
    rw [← hdl] at HMIN2 HSL2 HH100 ⊢
    clear hx hc hp hw hxs hd hwx hD hcd hwd hh14 hh100 hmm hxl hdl
    by_cases hrg : Rg L
    · have HRG := Lib.hid hrg
      clear hrg
      have hmin := HMIN2.out
      have hsl := HSL2.out
      go_enter Tryz.func5, Tryz.ntmps5
      go_wp2_with (first
        | (go_at_call 10; (with_reducible refine HBT.out.mono ?_); rintro e w1 ⟨hb, hor⟩; rcases hor with ⟨-, v, S, rfl, hT, hS⟩ | ⟨hn', -⟩; rotate_left; (exact absurd HRG.out hn'); rw [← HM.out] at hT; have HT := Lib.hid hT; have HSS := Lib.hid hS; have HSA := Lib.hid (C.lies hT); have HB1 := Lib.hid hb; clear hb hT hS)
        | (go_at_call 19; (with_reducible refine (HBU.out _ HB1.out).mono ?_); rintro e w2 ⟨hb, hor⟩; rcases hor with ⟨-, v2, S2, rfl, hU, hS2⟩ | ⟨hn', -⟩; rotate_left; (exact absurd HRG.out hn'); rw [← HM.out] at hU; have HU := Lib.hid hU; have HT := Lib.hid (C.bel HT.out hb); have HSU := Lib.hid (show ∀ b ∈ S2, w.heap.size ≤ b from fun b h => Nat.le_trans HB1.out.size (hS2 b h)); have HDJ := Lib.hid (show ∀ b ∈ S, b ∉ S2 from fun b h1 h2 => by have := HSA.out b h1; have := hS2 b h2; omega); have HB := Lib.hid (HB1.out.trans (hb.mono HB1.out.size)); clear hb hU hS2))
      have HAL := Lib.hid (show ∀ a ∈ L, a ∈ L from fun a h => h)
      clear hmin hsl HMIN2 HSL2 HBT HBU HSA
      go_loopw [45] (fun v45 wr => ∃ (k : Nat) (S S2 : List Nat) (A : List S3), k ≤ h100 ∧ v45 = .int .i64 k ∧ Hid (TS wr v m S A) ∧ Hid (TU wr v2 m S2 A) ∧ Hid (∀ b ∈ S, w.heap.size ≤ b) ∧ Hid (∀ b ∈ S2, w.heap.size ≤ b) ∧ Hid (∀ b ∈ S, b ∉ S2) ∧ Hid (∀ a ∈ A, a ∈ L) ∧ Hid (Below w.heap.size w wr)) (fun i _ => h100 - (intOf i).toNat)
      case atStart => exact ⟨0, S, S2, L, Nat.zero_le _, rfl, HT, HU, HSS, HSU, HDJ, HAL, HB⟩
      case round =>
        clear HT HU HSS HSU HDJ HAL HB
        obtain ⟨k, S, S2, A, hk, rfl, HT, HU, HSS, HSU, HDJ, HAL, HB⟩ := hrel
        by_cases hlt : k < h100
        · have hltz : (k : Int) < h100 := by omega
          obtain ⟨y, hye⟩ : ∃ y, D[k]? = some y := ⟨_, List.getElem?_eq_getElem (by have := HH100.out; have := HDL.out; omega)⟩
          rcases HDD.out.keep HB.out with h0 | ⟨b, off, rfl, h1⟩
          · rw [h0] at hye; simp at hye
          · have cy := h1 k y hye
            have hwy := HWD.out y (List.mem_of_getElem? hye)
            have hyr : 0 ≤ y ∧ y ≤ 255 := by simpa [Lit.wf, show IntKind.u8.min = 0 from rfl, show IntKind.u8.max = 255 from rfl] using hwy
            clear h1 hye hwy
            go_upto_region 12 with fail
            clear cy
            have inst : Nonempty (Wd (Bw w)) := ⟨⟨wr, HB.out⟩⟩
            by_cases hm0 : m = 0
            · have hmz : ¬ (0 : Int) < m := by omega
              have HM0 := Lib.hid hm0
              have hmn : ¬ 0 < m := by omega
              clear hm0
              refine wp_region_wd (Bw wr) (by kernel_rfl) (by kernel_rfl) ((Below.refl _ wr).drew) ?_
              have inst2 : Nonempty (Wd (Bw wr)) := ⟨⟨wr, Below.refl _ _⟩⟩
              repeat (first | go_big_quiet_step (fail) | quiet_step (fail))
              refine wpQuiet_nil ?_
              rintro _ ⟨z, rfl⟩
              have HTz := Lib.hid (C.bel HT.out z.h)
              have HUz := Lib.hid (B.bel HU.out z.h)
              have HBz := Lib.hid (HB.out.trans (Below.mono z.h HB.out.size))
              go_wp2
              go_roundw
              case rel => exact ⟨k + 1, S, S2, A, by omega, by go_num, HTz, HUz, HSS, HSU, HDJ, HAL, HBz⟩
              case measure => simp [intOf]; omega
            · have hmz : (0 : Int) < m := by omega
              obtain ⟨j, hj⟩ : ∃ j, j = y.toNat % m := ⟨_, rfl⟩
              have hjm : j < m := by rw [hj]; exact Nat.mod_lt _ (by omega)
              have hrem : Int.tmod y (m : Int) = (j : Int) := by
                rw [Int.tmod_eq_emod_of_nonneg hyr.1, hj, Int.natCast_emod, Int.toNat_of_nonneg hyr.1]
              have hjz : (j : Int) < m := by omega
              obtain ⟨s, hse⟩ : ∃ s, L[j]? = some s := ⟨_, List.getElem?_eq_getElem (by have := HM.out; omega)⟩
              obtain ⟨b2, off2, rfl, h2⟩ := HX.out.at hse
              have n0 := h2.c0
              have n1 := h2.c1
              have n2 := h2.c2
              have c0 : ∀ z : Wd (Bw w), z.w.cell? ⟨b2, off2 + j * 3, none⟩ = _ := fun z => Bw.cell z n0
              have c1 : ∀ z : Wd (Bw w), z.w.cell? ⟨b2, off2 + j * 3 + 1, none⟩ = _ := fun z => Bw.cell z n1
              have c2 : ∀ z : Wd (Bw w), z.w.cell? ⟨b2, off2 + j * 3 + 2, none⟩ = _ := fun z => Bw.cell z n2
              have HWS := Lib.hid (HWF.out s (List.mem_of_getElem? hse))
              have hdr : Below wr.heap.size wr wr.drew := (Below.refl _ wr).drew
              have HCD := Lib.hid (C.drop s (C.bel HT.out hdr) HWS.out)
              have HCU := Lib.hid (fun X (h : TU X v2 m S2 A) => B.drop s h HWS.out)
              have HUD := Lib.hid (B.bel HU.out hdr)
              have HBD := Lib.hid (show Below w.heap.size w wr.drew from HB.out.drew)
              have hm0' : ¬ (m : Int) = 0 := by omega
              obtain ⟨bb, hbb⟩ : ∃ bb, bb = decide (s ∈ A) := ⟨_, rfl⟩
              rw [← hbb] at HCD HCU
              have HAD := Lib.hid (show ∀ a ∈ drp A s, a ∈ L from fun a ha => HAL.out a (List.mem_filter.1 ha).1)
              generalize drp A s = A2 at *
              obtain ⟨lo, hh, id⟩ := s
              unfold tv at HCD HCU
              simp only at n0 n1 n2 c0 c1 c2
              obtain ⟨hy0, hy1⟩ := hyr
              have hmn : 0 < m := by omega
              have hyw : IntKind.i64.wrap y = y := IntWalk.i64_in _ (by omega)
              have hrem2 : y % (m : Int) = (j : Int) := by rw [← Int.tmod_eq_emod_of_nonneg hy0]; exact hrem
              clear hse h2 hj hbb hdr
              refine wp_region_qp (Bw w) [0, 1, 2, 3, 4, 5, 6, 7, 8, 9, 10, 11, 12, 14, 15, 16, 17, 18, 19, 20, 21, 22] 13 23 (by kernel_rfl) (by kernel_rfl) HBD.out ?_
              generalize wr.drew = wd at *
              simp only [List.filterMap_cons, List.filterMap_nil, List.getElem?_toArray, List.getElem?_cons_succ, List.getElem?_cons_zero]
              repeat (first | go_big_quiet_step (fail) | quiet_step (fail))
              refine wpQuiet_nil ?_
              refine gOp_call rfl rfl (f := 15) (args := #[v, .agg #[.int .i64 lo, .int .i64 hh, .int .u32 id]]) ?_ ?_
              · simp [execOp, resolve, invoke, Act.eval, Deferred.ofValue, go_sem]
              refine HCD.out.mono ?_
              rintro e w4 ⟨rfl, S4, hT4, hO4, hS4⟩
              have hb4 := HBD.out.trans (hO4.below (N := w.heap.size) HBD.out.size HSS.out)
              have HU4 := Lib.hid (B.keep HUD.out hO4 (fun b h2 h1 => HDJ.out b h1 h2))
              have HDJ4 := Lib.hid (show ∀ b ∈ S4, b ∉ S2 from fun b h1 h2 => (hS4 b h1).elim (fun h => HDJ.out b h h2) (fun h => by have := B.lies HUD.out b h2; omega))
              have HSS4 := Lib.hid (show ∀ b ∈ S4, w.heap.size ≤ b from fun b hb => (hS4 b hb).elim (HSS.out b) (Nat.le_trans HBD.out.size))
              have HT4 := Lib.hid hT4
              have HB4 := Lib.hid hb4
              refine ⟨_, rfl, ⟨⟨w4, hb4⟩, rfl⟩, ?_⟩
              clear hT4 hO4 hS4 hb4 HCD HDJ HSS HUD HBD
              refine gOp_call rfl rfl (f := 20) (args := #[v2, .agg #[.int .i64 lo, .int .i64 hh, .int .u32 id]]) ?_ ?_
              · simp [execOp, resolve, invoke, Act.eval, Deferred.ofValue, go_sem]
              refine (HCU.out _ HU4.out).mono ?_
              rintro e w5 ⟨rfl, S5, hU5, hO5, hS5⟩
              have HT5 := Lib.hid (C.keep HT4.out hO5 (fun b h1 h2 => HDJ4.out b h1 h2))
              have HDJ5 := Lib.hid (show ∀ b ∈ S4, b ∉ S5 from fun b h1 h2 => (hS5 b h2).elim (fun h => HDJ4.out b h1 h) (fun h => by have := C.lies HT4.out b h1; omega))
              have HSU5 := Lib.hid (show ∀ b ∈ S5, w.heap.size ≤ b from fun b hb => (hS5 b hb).elim (HSU.out b) (Nat.le_trans HB4.out.size))
              have HB5 := Lib.hid (HB4.out.trans (hO5.below (N := w.heap.size) HB4.out.size HSU.out))
              have HU5 := Lib.hid hU5
              refine ⟨_, rfl, ?_⟩
              clear hU5 hO5 hS5 HU4 HCU HDJ4 HT4 HB4 HSU c0 c1 c2 inst n0 n1 n2
              have inst : Nonempty (Wd (Bw w5)) := ⟨⟨w5, Below.refl _ _⟩⟩
              repeat (first | go_big_quiet_step (fail) | quiet_step (fail))
              refine wpQuiet_nil ?_
              go_wp2
              go_roundw
              case rel => exact ⟨k + 1, S4, S5, A2, by omega, by go_num, HT5, HU5, HSS4, HSU5, HDJ5, HAD, HB5⟩
              case measure => simp [intOf]; omega
        · obtain rfl : k = h100 := by omega
          have hltz : ¬ (k : Int) < k := by omega
          have hWA : ∀ s ∈ A, Wf3 s := fun s hs => HWF.out s (HAL.out s hs)
          have HRE := Lib.hid (fun X (s : S3) (h : TS X v m S A) (hb : WfU s) => C.three s.1 s.2.1 s.2.2 h hb.1 hb.2.1 hb.2.2)
          have HRU := Lib.hid (fun X (s : S3) (h : TU X v2 m S2 A) (hb : WfU s) => by
            have hr := B.report ((s.1, s.2.1, -9223372036854775808, s.2.2), 0) h ⟨⟨hb.1, hb.2.1, (show (Lit.int .i64 (-9223372036854775808)).wf = true from by decide), hb.2.2⟩, (show (Lit.int .u32 0).wf = true from by decide)⟩
            rw [show hsS A (((s.1, s.2.1, (-9223372036854775808 : Int), s.2.2), (0 : Int)) : B5).1 = nmS (thB s.1 s.2.1 s.2.2) A from th_box hWA _ _ _] at hr
            exact hr)
          have HLE := Lib.hid (fun X (h : TS X v m S A) => C.len h)
          have HLU := Lib.hid (fun X (h : TU X v2 m S2 A) => B.len h)
          obtain ⟨hAm, -, -⟩ := C.few HT.out
          have HF := Lib.hid (show ∀ f, (nmS f A).length ≤ 400 from fun f => Nat.le_trans (nmS_len f A) (by omega))
          clear hAm hWA
          generalize A.length = al at *
          have hmin := HMIN1.out
          have hsl := HSL1.out
          clear HMIN1 HSL1 HX HDD HWD HWF HSS HSU HDJ HAL
          have HTx := HT
          have HUx := HU
          have HBx := HB
          go_wp2
          clear hmin hsl HT HU HB
          go_loopw [82] (fun v82 wr => ∃ k : Nat, k ≤ h14 ∧ v82 = .int .i64 k ∧ Hid (TS wr v m S A) ∧ Hid (TU wr v2 m S2 A) ∧ Hid (Below w.heap.size w wr)) (fun i _ => h14 - (intOf i).toNat)
          case atStart => exact ⟨0, Nat.zero_le _, rfl, HTx, HUx, HBx⟩
          case round =>
            clear HTx HBx HUx
            obtain ⟨kk, hk2, rfl, HT, HU, HB⟩ := hrel
            by_cases hlt2 : kk < h14
            · have hltz2 : (kk : Int) < h14 := by omega
              obtain ⟨b, hbe⟩ : ∃ b, xs[kk]? = some b := ⟨_, List.getElem?_eq_getElem (by have := HH14.out; have := HXL.out; omega)⟩
              obtain ⟨bb, off, rfl, h1⟩ := (HXS.out.keep HB.out).at hbe
              have HWB := Lib.hid (HWX.out b (List.mem_of_getElem? hbe))
              have n0 := h1.c0
              have n1 := h1.c1
              have n2 := h1.c2
              obtain ⟨W, hW⟩ : ∃ W, W = wr.alloc (.cells (uvs b).toArray 42) := ⟨_, rfl⟩
              have HN := Lib.hid (show U1 W wr.heap.size 0 b by rw [hW]; exact U1.new wr b _)
              have HB := Lib.hid (show Below w.heap.size w W by rw [hW]; exact HB.out.alloc HB.out.size _)
              have HT := Lib.hid (show TS W v m S A by rw [hW]; exact C.bel HT.out ((Below.refl _ wr).alloc (Nat.le_refl _) _))
              have HU := Lib.hid (show TU W v2 m S2 A by rw [hW]; exact B.bel HU.out ((Below.refl _ wr).alloc (Nat.le_refl _) _))
              have HLT := Lib.hid HN.out.lt
              have HS1 := Lib.hid (fun X (h : TS X v m S A) => HRE.out X b h HWB.out)
              have HS3 := Lib.hid (fun X (h : TU X v2 m S2 A) => HRU.out X b h HWB.out)
              have HI : Hid (∀ X q1 c1 q2 c2, NS X q1 .u32 (nmS (thB b.1 b.2.1 b.2.2) A) → NS X q2 .u32 (nmS (thB b.1 b.2.1 b.2.2) A) → Calls Tryz.prog 22 #[.slice q1 (nmS (thB b.1 b.2.1 b.2.2) A).length c1, .slice q2 (nmS (thB b.1 b.2.1 b.2.2) A).length c2] X fun e w' => e = .returned (.bool true) ∧ Below X.heap.size X w') := Lib.hid (fun X q1 c1 q2 c2 h1 h2 => by
                refine (sameIDs_any X q1 q2 c1 c2 _ _ h1 h2 (Nat.le_trans (HF.out _) (by decide))).mono ?_
                rintro e w' ⟨rfl, hb⟩
                exact ⟨by simp, hb⟩)
              clear hbe h1
              obtain ⟨x1, x2, y1⟩ := b
              unfold uvs at hW
              unfold bv at HS3
              simp only at n0 n1 n2 HS1 HS3 HI
              have HW1 := Lib.hid hW
              clear hW
              generalize nmS (thB x1 x2 y1) A = Z at *
              have HRL := Lib.hid (show ∀ (Y : World) r, RL Y r Z → ∃ q c, r = .slice q Z.length c ∧ NS Y q .u32 Z from fun Y r h => by obtain ⟨q, c, h1, h2, -⟩ := h; exact ⟨q, c, h1, h2⟩)
              generalize hzl : Z.length = zl at *
              clear hzl
              have m0 := HN.out.c0
              have m1 := HN.out.c1
              have m2 := HN.out.c2
              simp only [Nat.zero_add] at m0 m1 m2
              go_upto_region 18 with fail
              rw [← HW1.out]
              clear HW1 n0 n1 n2
              go_wp2_with (first
                | (go_at_call 17; (with_reducible refine (HS1.out _ HT.out).mono ?_); rintro e w5 ⟨⟨r, t, rfl, hr, -, -⟩, hb⟩; obtain ⟨q1, c1, rfl, hq⟩ := HRL.out _ _ hr; have HQ1 := Lib.hid hq; have HN := Lib.hid (HN.out.keep hb HLT.out); have HLT := Lib.hid HN.out.lt; have k0 := HN.out.c0; have k1 := HN.out.c1; have k2 := HN.out.c2; simp only [Nat.zero_add] at k0 k1 k2; have HT := Lib.hid (C.bel HT.out hb); have HU := Lib.hid (B.bel HU.out hb); have HB := Lib.hid (HB.out.trans (hb.mono HB.out.size)); clear hr hb hq)
                | (go_at_call 21; (with_reducible refine (HS3.out _ HU.out).mono ?_); rintro e w6 ⟨⟨r, t2, rfl, hr, -, -⟩, hb⟩; obtain ⟨q2, c2, rfl, hq⟩ := HRL.out _ _ hr; have HQ2 := Lib.hid hq; have HQ1 := Lib.hid (HQ1.out.keep hb); have HT := Lib.hid (C.bel HT.out hb); have HU := Lib.hid (B.bel HU.out hb); have HB := Lib.hid (HB.out.trans (hb.mono HB.out.size)); clear hr hb hq)
                | (go_at_call 22; (with_reducible refine (HI.out _ _ _ _ _ HQ1.out HQ2.out).mono ?_); rintro e w9 ⟨rfl, hb⟩; have HT := Lib.hid (C.bel HT.out hb); have HU := Lib.hid (B.bel HU.out hb); have HB := Lib.hid (HB.out.trans (hb.mono HB.out.size)); clear hb))
              go_roundw
              case rel => exact ⟨kk + 1, by omega, by go_num, HT, HU, HB⟩
              case measure => simp [intOf]; omega
            · have hltz2 : ¬ (kk : Int) < h14 := by omega
              go_wp2_with (first
                | (go_at_call 12; (with_reducible refine (HLE.out _ HT.out).mono ?_); rintro e w10 ⟨rfl, hb⟩; have HU := Lib.hid (B.bel HU.out hb); have HB := Lib.hid (HB.out.trans (hb.mono HB.out.size)); clear hb)
                | (go_at_call 23; (with_reducible refine (HLU.out _ HU.out).mono ?_); rintro e w11 ⟨rfl, hb⟩; have HB := Lib.hid (HB.out.trans (hb.mono HB.out.size)); clear hb)
                | (go_at_call 9; (with_reducible refine (HAW.out _).mono ?_); rintro e w90 ⟨rfl, hb⟩; have HB := Lib.hid (HB.out.trans (hb.mono HB.out.size)); clear hb))
              go_ret
              exact ⟨rfl, HB.out⟩
    · have HRG := Lib.hid hrg
      clear hrg
      go_enter Tryz.func5, Tryz.ntmps5
      go_wp2_with (first
        | (go_at_call 10; (with_reducible refine HBT.out.mono ?_); rintro e w1 ⟨hb, hor⟩; rcases hor with ⟨hn, -⟩ | ⟨-, v, S, rfl, -, -⟩; (exact absurd hn HRG.out); have HB := Lib.hid hb; clear hb)
        | (go_at_call 19; (with_reducible refine (HBU.out _ HB.out).mono ?_); rintro e w2 ⟨hb, hor⟩; rcases hor with ⟨hn, -⟩ | ⟨-, v, S, rfl, -, -⟩; (exact absurd hn HRG.out); have HB := Lib.hid (HB.out.trans (hb.mono HB.out.size)); clear hb)
        | (go_at_call 9; (with_reducible refine (HAW.out _).mono ?_); rintro e w90 ⟨rfl, hb⟩; have HB := Lib.hid (HB.out.trans (hb.mono HB.out.size)); clear hb))
      go_ret
      exact ⟨rfl, HB.out⟩
  · have hbz : (100 : Int) < L.length := by omega
    clear hx hxs hc hw hD hp hbig hcd hwd hwx hd
    generalize L.length = m at *
    go_enter Tryz.func5, Tryz.ntmps5
    go_wp2_with (go_at_call 9; (with_reducible refine (HAW.out _).mono ?_); rintro e w90 ⟨rfl, hb⟩; have HB := Lib.hid hb; clear hb)
    go_ret
    exact ⟨rfl, HB.out⟩
end Go.Proofs.YtajpboclicnopaaGreat.Hp
