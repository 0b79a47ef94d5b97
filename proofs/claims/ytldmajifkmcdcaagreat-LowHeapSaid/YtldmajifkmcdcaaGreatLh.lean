/-
  LowHeap: there is a point on three sides just if the lowest one of their part is not above; the points of three sides are the lowest ones of their part, as far as they go; over any two trees.
-/
import Derived.Test.YtldmajifkmcdcaaGreatLe
import Derived.Test.YtldmajifkmcdcaaGreatMH
import Derived.Test.YtldmajifkmcdcaaGreatPm
import Derived.Test.YtldmajifkmcdcaaGreatMQ
namespace Go.Proofs.YtldmajifkmcdcaaGreat.Lw
open Go.ChangeShapes Go.WideShapes Go.ChangeAt Go.RowKit Go.Joins Go.Maps
/-- not above y -/
def notA (y : Int) (s : S3) : Bool := decide (s.2.1 ≤ y)
/-- of points in order those not above come first -/
theorem up_take (y : Int) : ∀ {W : List S3}, W.Pairwise (fun a b => ltL a b = true) → W.filter (notA y) = W.take (W.filter (notA y)).length ∧ ∀ i s, W[i]? = some s → (i < (W.filter (notA y)).length ↔ s.2.1 ≤ y)
  | [], _ => ⟨rfl, fun i s h => by simp at h⟩
  | a :: W, h => by
    obtain ⟨h1, h2⟩ := List.pairwise_cons.1 h
    obtain ⟨q1, q2⟩ := up_take y h2
    by_cases ha : a.2.1 ≤ y
    · have e : (a :: W).filter (notA y) = a :: W.filter (notA y) := by rw [List.filter_cons, if_pos (by simp [notA, ha])]
      rw [e]
      refine ⟨by rw [List.length_cons, List.take_succ_cons, ← q1], fun i s hs => ?_⟩
      cases i with
      | zero =>
        simp at hs
        subst hs
        simp [ha]
      | succ i =>
        have := q2 i s (by simpa using hs)
        simp only [List.length_cons]
        omega
    · have hno : ∀ x ∈ W, ¬ x.2.1 ≤ y := fun x hx => by
        have := ltL_iff.1 (h1 x hx)
        omega
      have e : (a :: W).filter (notA y) = [] := List.filter_eq_nil_iff.2 (fun x hx => by
        rcases List.mem_cons.1 hx with rfl | hx
        · simp [notA, ha]
        · simp [notA, hno x hx])
      rw [e]
      refine ⟨rfl, fun i s hs => ?_⟩
      simp only [List.length_nil, Nat.not_lt_zero, false_iff]
      rcases List.mem_cons.1 (List.mem_of_getElem? hs) with rfl | hx
      · exact ha
      · exact hno s hx
/-- the names of three sides are those of the lowest ones -/
theorem th_low {A : List S3} (hr : Rg A) (x1 x2 y : Int) : ∃ k, k ≤ (lwL x1 x2 A).length ∧ (Hp.nmS (Hp.thB x1 x2 y) A).length = k ∧ (Hp.nmS (Hp.thB x1 x2 y) A).Perm (((lwL x1 x2 A).take k).map (·.2.2)) ∧ ∀ i s, (lwL x1 x2 A)[i]? = some s → (i < k ↔ s.2.1 ≤ y) := by
  obtain ⟨q1, q2⟩ := up_take y (lwL_strict (x1 := x1) (x2 := x2) hr)
  have hp : ((lwL x1 x2 A).filter (notA y)).Perm (A.filter (Hp.thB x1 x2 y)) := by
    refine ((psort_perm _).filter _).trans ?_
    rw [List.filter_filter]
    refine List.Perm.of_eq (List.filter_congr (fun s _ => ?_))
    simp [notA, inX, Hp.thB, Bool.and_comm, Bool.and_assoc]
  have hperm : (Hp.nmS (Hp.thB x1 x2 y) A).Perm (((lwL x1 x2 A).filter (notA y)).map (·.2.2)) := (nsort_perm _).trans (hp.symm.map _)
  refine ⟨((lwL x1 x2 A).filter (notA y)).length, List.length_filter_le _ _, by rw [hperm.length_eq, List.length_map], ?_, q2⟩
  rw [← q1]
  exact hperm
set_option maxRecDepth 100000 in
set_option maxHeartbeats 12800000 in
theorem lheap_walk {TS TU : World → Value → Nat → List Nat → List S3 → Prop} (C : LowC TS) (B : Hp.HeapC TU) (w : World) (p qd : Option Addr) (c cd : Nat) (L : List S3) (x1 x2 yy : Int) (D : List Int) (hx : TsS w p L) (hc : L.length ≤ c) (hp : p = none → c = 0) (hw : ∀ s ∈ L, Wf3 s) (hw1 : (Lit.int .i64 x1).wf = true) (hw2 : (Lit.int .i64 x2).wf = true) (hw3 : (Lit.int .i64 yy).wf = true) (hD : NS w qd .u8 D) (hcd : D.length ≤ cd) (hwd : ∀ x ∈ D, (Lit.int .u8 x).wf = true) :
    Calls Tryz.prog 7 #[.slice p L.length c, .int .i64 x1, .int .i64 x2, .int .i64 yy, .slice qd D.length cd] w fun e w' => e = .returned (.bool true) ∧ Below w.heap.size w w' := by
  have HAW := Lib.hid (awake_any C)
  by_cases hbig : L.length ≤ 80
  · have hbz : ¬ (80 : Int) < L.length := by omega
    have HX := Lib.hid hx
    have HDD := Lib.hid hD
    have HWD := Lib.hid hwd
    have HWF := Lib.hid hw
    have HBT := Lib.hid (C.build w p c L hx (by omega) hc hp hw)
    have HBU := Lib.hid (fun X (hX : Below w.heap.size w X) => B.build X p c L (hx.keep hX) (by omega) hc hp hw)
    obtain ⟨h100, hh100⟩ : ∃ h, h = min D.length 100 := ⟨_, rfl⟩
    have HMIN2 := Lib.hid (fun X ty => min100 X ty D.length (h100 : Int) (by rw [hh100]))
    have HSL2 := Lib.hid (fun X => slB_to X qd D.length cd h100 (by omega))
    have h100b : h100 ≤ 100 := by omega
    have HH100 := Lib.hid (show h100 ≤ D.length by omega)
    obtain ⟨m, hmm⟩ : ∃ m, m = L.length := ⟨_, rfl⟩
    have HM := Lib.hid hmm
    rw [← hmm] at HBT HBU hbz hbig ⊢
    obtain ⟨dl, hdl⟩ : ∃ l, l = D.length := ⟨_, rfl⟩
    have HDL := Lib.hid hdl
    rw [← hdl] at HMIN2 HSL2 HH100 ⊢
    have HWS3 := Lib.hid (show (Lit.int .i64 x1).wf = true ∧ (Lit.int .i64 x2).wf = true ∧ (Lit.int .i64 yy).wf = true from ⟨hw1, hw2, hw3⟩)
    clear hx hc hp hw hD hcd hwd hh100 hmm hdl hw1 hw2 hw3
    by_cases hrg : Rg L
    · have HRG := Lib.hid hrg
      clear hrg
      have hmin := HMIN2.out
      have hsl := HSL2.out
      go_enter Tryz.func7, Tryz.ntmps7
      go_wp2_with (first
        | (go_at_call 10; (with_reducible refine HBT.out.mono ?_); rintro e w1 ⟨hb, hor⟩; rcases hor with ⟨-, v, S, rfl, hT, hS⟩ | ⟨hn', -⟩; rotate_left; (exact absurd HRG.out hn'); rw [← HM.out] at hT; have HT := Lib.hid hT; have HSS := Lib.hid hS; have HSA := Lib.hid (C.lies hT); have HB1 := Lib.hid hb; clear hb hT hS)
        | (go_at_call 20; (with_reducible refine (HBU.out _ HB1.out).mono ?_); rintro e w2 ⟨hb, hor⟩; rcases hor with ⟨-, v2, S2, rfl, hU, hS2⟩ | ⟨hn', -⟩; rotate_left; (exact absurd HRG.out hn'); rw [← HM.out] at hU; have HU := Lib.hid hU; have HT := Lib.hid (C.bel HT.out hb); have HSU := Lib.hid (show ∀ b ∈ S2, w.heap.size ≤ b from fun b h => Nat.le_trans HB1.out.size (hS2 b h)); have HDJ := Lib.hid (show ∀ b ∈ S, b ∉ S2 from fun b h1 h2 => by have := HSA.out b h1; have := hS2 b h2; omega); have HB := Lib.hid (HB1.out.trans (hb.mono HB1.out.size)); clear hb hU hS2))
      have HAL := Lib.hid (show ∀ a ∈ L, a ∈ L from fun a h => h)
      clear hmin hsl HMIN2 HSL2 HBT HBU HSA
      go_loopw [55] (fun v55 wr => ∃ (k : Nat) (S S2 : List Nat) (A : List S3), k ≤ h100 ∧ v55 = .int .i64 k ∧ Hid (TS wr v m S A) ∧ Hid (TU wr v2 m S2 A) ∧ Hid (∀ b ∈ S, w.heap.size ≤ b) ∧ Hid (∀ b ∈ S2, w.heap.size ≤ b) ∧ Hid (∀ b ∈ S, b ∉ S2) ∧ Hid (∀ a ∈ A, a ∈ L) ∧ Hid (Below w.heap.size w wr)) (fun i _ => h100 - (intOf i).toNat)
      case atStart => exact ⟨0, S, S2, L, Nat.zero_le _, rfl, HT, HU, HSS, HSU, HDJ, HAL, HB⟩
      case round =>
        clear HT HU HSS HSU HDJ HAL HB
        obtain ⟨k, S, S2, A, hk, rfl, HT, HU, HSS, HSU, HDJ, HAL, HB⟩ := hrel
        by_cases hlt : k < h100
        · have hltz : (k : Int) < h100 := by omega
          obtain ⟨y, hye⟩ : ∃ y, D[k]? = some y := ⟨_, List.getElem?_eq_getElem (by have := HH100.out; have := HDL.out; omega)⟩
          rcases HDD.out.keep HB.out with h0 | ⟨b, off, rfl, h1⟩
          · rw [h0] at hye; simp at hye
          · have cy := h1 k y hye
            have hwy := HWD.out y (List.mem_of_getElem? hye)
            have hyr : 0 ≤ y ∧ y ≤ 255 := by simpa [Lit.wf, show IntKind.u8.min = 0 from rfl, show IntKind.u8.max = 255 from rfl] using hwy
            clear h1 hye hwy
            go_upto_region 12 with fail
            clear cy
            have inst : Nonempty (Wd (Bw w)) := ⟨⟨wr, HB.out⟩⟩
            by_cases hm0 : m = 0
            · have hmz : ¬ (0 : Int) < m := by omega
              have HM0 := Lib.hid hm0
              have hmn : ¬ 0 < m := by omega
              clear hm0
              refine wp_region_wd (Bw wr) (by kernel_rfl) (by kernel_rfl) ((Below.refl _ wr).drew) ?_
              have inst2 : Nonempty (Wd (Bw wr)) := ⟨⟨wr, Below.refl _ _⟩⟩
              repeat (first | go_big_quiet_step (fail) | quiet_step (fail))
              refine wpQuiet_nil ?_
              rintro _ ⟨z, rfl⟩
              have HTz := Lib.hid (C.bel HT.out z.h)
              have HUz := Lib.hid (B.bel HU.out z.h)
              have HBz := Lib.hid (HB.out.trans (Below.mono z.h HB.out.size))
              go_wp2
              go_roundw
              case rel => exact ⟨k + 1, S, S2, A, by omega, by go_num, HTz, HUz, HSS, HSU, HDJ, HAL, HBz⟩
              case measure => simp [intOf]; omega
            · have hmz : (0 : Int) < m := by omega
              obtain ⟨j, hj⟩ : ∃ j, j = y.toNat % m := ⟨_, rfl⟩
              have hjm : j < m := by rw [hj]; exact Nat.mod_lt _ (by omega)
              have hrem : Int.tmod y (m : Int) = (j : Int) := by
                rw [Int.tmod_eq_emod_of_nonneg hyr.1, hj, Int.natCast_emod, Int.toNat_of_nonneg hyr.1]
              have hjz : (j : Int) < m := by omega
              obtain ⟨s, hse⟩ : ∃ s, L[j]? = some s := ⟨_, List.getElem?_eq_getElem (by have := HM.out; omega)⟩
              obtain ⟨b2, off2, rfl, h2⟩ := HX.out.at hse
              have n0 := h2.c0
              have n1 := h2.c1
              have n2 := h2.c2
              have c0 : ∀ z : Wd (Bw w), z.w.cell? ⟨b2, off2 + j * 3, none⟩ = _ := fun z => Bw.cell z n0
              have c1 : ∀ z : Wd (Bw w), z.w.cell? ⟨b2, off2 + j * 3 + 1, none⟩ = _ := fun z => Bw.cell z n1
              have c2 : ∀ z : Wd (Bw w), z.w.cell? ⟨b2, off2 + j * 3 + 2, none⟩ = _ := fun z => Bw.cell z n2
              have HWS := Lib.hid (HWF.out s (List.mem_of_getElem? hse))
              have hdr : Below wr.heap.size wr wr.drew := (Below.refl _ wr).drew
              have HCD := Lib.hid (C.drop s (C.bel HT.out hdr) HWS.out)
              have HCU := Lib.hid (fun X (h : TU X v2 m S2 A) => B.drop s h HWS.out)
              have HUD := Lib.hid (B.bel HU.out hdr)
              have HBD := Lib.hid (show Below w.heap.size w wr.drew from HB.out.drew)
              have hm0' : ¬ (m : Int) = 0 := by omega
              obtain ⟨bb, hbb⟩ : ∃ bb, bb = decide (s ∈ A) := ⟨_, rfl⟩
              rw [← hbb] at HCD HCU
              have HAD := Lib.hid (show ∀ a ∈ drp A s, a ∈ L from fun a ha => HAL.out a (List.mem_filter.1 ha).1)
              generalize drp A s = A2 at *
              obtain ⟨lo, hh, id⟩ := s
              unfold tv at HCD HCU
              simp only at n0 n1 n2 c0 c1 c2
              obtain ⟨hy0, hy1⟩ := hyr
              have hmn : 0 < m := by omega
              have hyw : IntKind.i64.wrap y = y := IntWalk.i64_in _ (by omega)
              have hrem2 : y % (m : Int) = (j : Int) := by rw [← Int.tmod_eq_emod_of_nonneg hy0]; exact hrem
              clear hse h2 hj hbb hdr
              refine wp_region_qp (Bw w) [0, 1, 2, 3, 4, 5, 6, 7, 8, 9, 10, 11, 12, 14, 15, 16, 17, 18, 19, 20, 21, 22] 13 23 (by kernel_rfl) (by kernel_rfl) HBD.out ?_
              generalize wr.drew = wd at *
              simp only [List.filterMap_cons, List.filterMap_nil, List.getElem?_toArray, List.getElem?_cons_succ, List.getElem?_cons_zero]
              repeat (first | go_big_quiet_step (fail) | quiet_step (fail))
              refine wpQuiet_nil ?_
              refine gOp_call rfl rfl (f := 15) (args := #[v, .agg #[.int .i64 lo, .int .i64 hh, .int .u32 id]]) ?_ ?_
              · simp [execOp, resolve, invoke, Act.eval, Deferred.ofValue, go_sem]
              refine HCD.out.mono ?_
              rintro e w4 ⟨rfl, S4, hT4, hO4, hS4⟩
              have hb4 := HBD.out.trans (hO4.below (N := w.heap.size) HBD.out.size HSS.out)
              have HU4 := Lib.hid (B.keep HUD.out hO4 (fun b h2 h1 => HDJ.out b h1 h2))
              have HDJ4 := Lib.hid (show ∀ b ∈ S4, b ∉ S2 from fun b h1 h2 => (hS4 b h1).elim (fun h => HDJ.out b h h2) (fun h => by have := B.lies HUD.out b h2; omega))
              have HSS4 := Lib.hid (show ∀ b ∈ S4, w.heap.size ≤ b from fun b hb => (hS4 b hb).elim (HSS.out b) (Nat.le_trans HBD.out.size))
              have HT4 := Lib.hid hT4
              have HB4 := Lib.hid hb4
              refine ⟨_, rfl, ⟨⟨w4, hb4⟩, rfl⟩, ?_⟩
              clear hT4 hO4 hS4 hb4 HCD HDJ HSS HUD HBD
              refine gOp_call rfl rfl (f := 21) (args := #[v2, .agg #[.int .i64 lo, .int .i64 hh, .int .u32 id]]) ?_ ?_
              · simp [execOp, resolve, invoke, Act.eval, Deferred.ofValue, go_sem]
              refine (HCU.out _ HU4.out).mono ?_
              rintro e w5 ⟨rfl, S5, hU5, hO5, hS5⟩
              have HT5 := Lib.hid (C.keep HT4.out hO5 (fun b h1 h2 => HDJ4.out b h1 h2))
              have HDJ5 := Lib.hid (show ∀ b ∈ S4, b ∉ S5 from fun b h1 h2 => (hS5 b h2).elim (fun h => HDJ4.out b h1 h) (fun h => by have := C.lies HT4.out b h1; omega))
              have HSU5 := Lib.hid (show ∀ b ∈ S5, w.heap.size ≤ b from fun b hb => (hS5 b hb).elim (HSU.out b) (Nat.le_trans HB4.out.size))
              have HB5 := Lib.hid (HB4.out.trans (hO5.below (N := w.heap.size) HB4.out.size HSU.out))
              have HU5 := Lib.hid hU5
              refine ⟨_, rfl, ?_⟩
              clear hU5 hO5 hS5 HU4 HCU HDJ4 HT4 HB4 HSU c0 c1 c2 inst n0 n1 n2
              have inst : Nonempty (Wd (Bw w5)) := ⟨⟨w5, Below.refl _ _⟩⟩
              repeat (first | go_big_quiet_step (fail) | quiet_step (fail))
              refine wpQuiet_nil ?_
              go_wp2
              go_roundw
              case rel => exact ⟨k + 1, S4, S5, A2, by omega, by go_num, HT5, HU5, HSS4, HSU5, HDJ5, HAD, HB5⟩
              case measure => simp [intOf]; omega
        · obtain rfl : k = h100 := by omega
          have hltz : ¬ (k : Int) < k := by omega
          obtain ⟨hAm, -, hRA, hWA⟩ := C.few HT.out
          obtain ⟨W, hW⟩ : ∃ W, W = lwL x1 x2 A := ⟨_, rfl⟩
          have hWl : W.length ≤ 400 := by have := lwL_len x1 x2 A; rw [← hW] at this; omega
          have HWW := Lib.hid hW
          obtain ⟨z, hzw, hzl, hzp, hzi⟩ := th_low hRA x1 x2 yy
          rw [← hW] at hzw hzp hzi
          have HZP := Lib.hid hzp
          have HZI := Lib.hid hzi
          have HZL := Lib.hid hzl
          have HND := Lib.hid (show (W.map (·.2.2)).Nodup by rw [hW]; exact lwL_rg hRA)
          have HWFW := Lib.hid (show ∀ s ∈ W, Wf3 s from fun s hs => by rw [hW] at hs; exact hWA s (mem_lwL.1 hs).1)
          have hz1 : (Lit.int .i64 ((z : Int) + 1)).wf = true := by simp [Lit.wf, show IntKind.i64.min = -9223372036854775808 from rfl, show IntKind.i64.max = 9223372036854775807 from rfl]; omega
          have HTH := Lib.hid (fun X (h : TU X v2 m S2 A) => B.three x1 x2 yy h HWS3.out.1 HWS3.out.2.1 HWS3.out.2.2)
          have HLO := Lib.hid (fun X p0 p1 p2 pb (h : TS X v m S A) (hf : fstL (lwL x1 x2 A) = (.agg #[.int .i64 p0, .int .i64 p1, .int .u32 p2], pb)) => lowest_is C h x1 x2 HWS3.out.1 HWS3.out.2.1 hf)
          have HLF := Lib.hid (fun X (h : TS X v m S A) => C.lows x1 x2 ((z : Int) + 1) h HWS3.out.1 HWS3.out.2.1 hz1)
          rw [show ((z : Int) + 1).toNat = z + 1 by omega, ← hW] at HLF
          obtain ⟨wl, hwl⟩ : ∃ wl, wl = W.length := ⟨_, rfl⟩
          have HWL := Lib.hid hwl
          rw [← hwl] at hzw hWl
          obtain ⟨fl, hfl⟩ : ∃ fl, fl = min (z + 1) wl := ⟨_, rfl⟩
          have HFL : Hid ((W.take (z + 1)).length = fl) := Lib.hid (by rw [List.length_take, hfl, hwl])
          have hfz : z ≤ fl ∧ fl ≤ wl := by omega
          obtain ⟨hfz1, hfz2⟩ := hfz
          rw [HFL.out] at HLF
          have hz400 : z ≤ 400 := by omega
          -- what the lowest one says
          obtain ⟨f0, f1, f2, fb, hff⟩ := fst_some W
          have HF := Lib.hid (show fstL (lwL x1 x2 A) = (.agg #[.int .i64 f0, .int .i64 f1, .int .u32 f2], fb) by rw [← hW]; exact hff)
          have hfb : (fb = false ∧ z = 0) ∨ (fb = true ∧ (0 < z ↔ f1 ≤ yy)) := by
            cases hWc : W with
            | nil =>
              rw [hWc] at hff hwl
              refine .inl ⟨(congrArg Prod.snd hff).symm, ?_⟩
              simp at hwl
              omega
            | cons s l =>
              rw [hWc] at hff
              have h1 := hzi 0 s (by rw [hWc]; rfl)
              have h2 : s.2.1 = f1 := by
                have := congrArg Prod.fst hff
                simp [fstL, tv] at this
                exact this.2.1
              refine .inr ⟨(congrArg Prod.snd hff).symm, ?_⟩
              rw [← h2]
              exact h1
          have HRLR : Hid (∀ X r, RL X r (Hp.nmS (Hp.thB x1 x2 yy) A) → ∃ q cq, r = .slice q z cq ∧ NS X q .u32 (Hp.nmS (Hp.thB x1 x2 yy) A)) := Lib.hid (fun X r h => by
            obtain ⟨q, cq, h1, h2, -⟩ := h
            exact ⟨q, cq, by rw [h1, hzl], h2⟩)
          have hmk := @run_makeMap Tryz.prog
          clear hAm hRA hWA hzp hzi hzl hW hwl hfl hff hz1 HSS HSU HDJ HAL HDD HWD HWF HX
          have HTx := HT
          go_upto_region 17 with (first
            | (go_at_call 22; (with_reducible refine (HTH.out _ HU.out).mono ?_); rintro e w3 ⟨⟨r, t1, rfl, hr, -, -⟩, hb⟩; obtain ⟨qz, cz, rfl, hqz⟩ := HRLR.out _ _ hr; have HQZ := Lib.hid hqz; have HT := Lib.hid (C.bel HT.out hb); have HB := Lib.hid (HB.out.trans (hb.mono HB.out.size)); clear hb hr hqz)
            | (go_at_call 17; (with_reducible refine (HLO.out _ _ _ _ _ HT.out HF.out).mono ?_); rintro e w4 ⟨⟨t3, rfl⟩, hb⟩; have HN := Lib.hid (T1.new w4 (f0, f1, f2) 34); have hb := hb.alloc (Below.size hb) (.cells #[.int .i64 f0, .int .i64 f1, .int .u32 f2] 34); have HQZ := Lib.hid (HQZ.out.keep hb); have HT := Lib.hid (C.bel HT.out hb); have HB := Lib.hid (HB.out.trans (hb.mono HB.out.size)); clear hb))
          obtain ⟨X4, hX4⟩ : ∃ X, X = w4.alloc (.cells #[.int .i64 f0, .int .i64 f1, .int .u32 f2] 34) := ⟨_, rfl⟩
          rw [show w4.alloc (.cells (tvs (f0, f1, f2)).toArray 34) = X4 from hX4.symm] at HN
          rw [← hX4] at HQZ HT HB ⊢
          clear hX4
          have i1 := HN.out.c1
          simp only [Nat.zero_add] at i1
          rcases hfb with ⟨rfl, hz0⟩ | ⟨rfl, hzy⟩
          · have hzn : ¬ 0 < z := by omega
            have hznz : ¬ (0 : Int) < (z : Int) := by omega
            clear hz0
            go_upto_region 20 with (go_at_call 18; (with_reducible refine (HLF.out _ HT.out).mono ?_); rintro e w5 ⟨⟨r, t2, rfl, ⟨⟨q2, c2, rfl, hts, -, hcl2, -⟩, -⟩, -, -⟩, hb⟩; rw [HFL.out]; have HTF := Lib.hid hts; have HQZ := Lib.hid (HQZ.out.keep hb); have HB := Lib.hid (HB.out.trans (hb.mono HB.out.size)); clear hb hts)
            clear i1 HN HT HTx HU HTH HLO HLF HF HRLR
            go_upto_region 21 with fail
            obtain ⟨WM, hWM⟩ : ∃ WM, WM = w5.alloc (.map #[] 0) := ⟨_, rfl⟩
            rw [← hWM]
            have hal : Below w5.heap.size w5 WM := hWM ▸ (Below.refl _ w5).alloc (Nat.le_refl _) _
            obtain ⟨mb, hmb⟩ : ∃ mb, mb = w5.heap.size := ⟨_, rfl⟩
            have HM0 := Lib.hid (show MP Tryz.prog 32 WM mb (ones []) by rw [hWM, hmb]; exact MP.made _ _ _)
            have HMB := Lib.hid (show w.heap.size ≤ mb by rw [hmb]; exact HB.out.size)
            rw [← hmb]
            have HQ5 := Lib.hid (show ∀ X, Off [mb] WM X → NS X qz .u32 (Hp.nmS (Hp.thB x1 x2 yy) A) from fun X ho => by
              rcases HQZ.out with h0 | ⟨b, off, rfl, h1⟩
              · exact .inl h0
              · refine .inr ⟨b, off, rfl, fun j u hj => ?_⟩
                have h2 := h1 j u hj
                have h3 := World.block_lt_of_cell? _ _ h2
                exact ho.cell ((hal.cell h3).trans h2) (by have : b < w5.heap.size := h3; simp; omega))
            have HT5 := Lib.hid (show ∀ X, Off [mb] WM X → TsS X q2 (W.take (z + 1)) from fun X ho => (HTF.out.keep hal).off ho (fun b off e h0 => by
              have := TsS.lt (e ▸ HTF.out) h0
              simp
              omega))
            have HBM := Lib.hid (HB.out.trans (hal.mono HB.out.size))
            clear hWM hal hmb HQZ HTF HB
            go_wp2
            go_loopw [126] (fun v126 wr => ∃ i : Nat, i ≤ fl ∧ v126 = .int .i64 i ∧ Hid (MP Tryz.prog 32 wr mb (ones ((W.take (min i z)).map (·.2.2)))) ∧ Hid (Off [mb] WM wr)) (fun v _ => fl - (intOf v).toNat)
            case atStart => exact ⟨0, Nat.zero_le _, rfl, Lib.hid (by rw [Nat.zero_min, List.take_zero]; exact HM0.out), Lib.hid (Off.refl _ _)⟩
            case round =>
              clear HM0
              obtain ⟨i, hi, rfl, HMP, HO⟩ := hrel
              by_cases hil : i < fl
              · have hilz : (i : Int) < fl := by omega
                obtain ⟨u, hue⟩ : ∃ u, (W.take (z + 1))[i]? = some u := ⟨_, List.getElem?_eq_getElem (by rw [HFL.out]; exact hil)⟩
                obtain ⟨bb, off, hq, h1⟩ := (HT5.out wr HO.out).at hue
                cases hq
                have n0 := h1.c0
                have n1 := h1.c1
                have n2 := h1.c2
                have huw : W[i]? = some u := by
                  rw [List.getElem?_take] at hue
                  split at hue
                  · exact hue
                  · cases hue
                have hiz := HZI.out i u huw
                have HUW := Lib.hid huw
                have hwfu := (HWFW.out u (List.mem_of_getElem? huw)).2.2
                have HWFU := Lib.hid hwfu
                clear h1 hue huw hwfu
                obtain ⟨u0, u1, u2⟩ := u
                simp only at n0 n1 n2 hiz
                go_upto_region 24 with fail
                obtain ⟨Y, hY⟩ : ∃ Y, Y = wr.alloc (.cells #[.int .i64 u0, .int .i64 u1, .int .u32 u2] 34) := ⟨_, rfl⟩
                rw [← hY]
                have hal : Below wr.heap.size wr Y := hY ▸ (Below.refl _ wr).alloc (Nat.le_refl _) _
                have HNY := Lib.hid (show T1 Y wr.heap.size 0 (u0, u1, u2) from hY ▸ T1.new wr (u0, u1, u2) 34)
                have HMY := Lib.hid (HMP.out.keep hal)
                have HOY := Lib.hid (HO.out.bel hal)
                obtain ⟨yb, hyb⟩ : ∃ yb, yb = wr.heap.size := ⟨_, rfl⟩
                have HYB : Hid (yb ≠ mb) := Lib.hid (by have := HMP.out.lt; omega)
                rw [← hyb] at HNY ⊢
                clear hY hal n0 n1 n2 hyb HMP HO
                have m1 := HNY.out.c1
                have m2 := HNY.out.c2
                simp only [Nat.zero_add] at m1 m2
                by_cases hiz2 : i < z
                · exact absurd hiz2 (by omega)
                · have hizz : ¬ (i : Int) < z := by omega
                  have huy : ¬ u1 ≤ yy := fun h => hiz2 (hiz.2 h)
                  have HM2 : Hid (MP Tryz.prog 32 Y mb (ones ((W.take (min (i + 1) z)).map (·.2.2)))) := Lib.hid (by
                    have := HMY.out
                    rw [Nat.min_eq_right (by omega)] at this
                    rw [Nat.min_eq_right (by omega)]
                    exact this)
                  clear hiz
                  go_wp2
                  go_roundw
                  case rel => exact ⟨i + 1, by omega, by go_num, HM2, HOY⟩
                  case measure => simp [intOf]; omega
              · have hilz : ¬ (i : Int) < fl := by omega
                have HMZ : Hid (MP Tryz.prog 32 wr mb (ones ((W.take z).map (·.2.2)))) := Lib.hid (by
                  have := HMP.out
                  rw [Nat.min_eq_right (by omega)] at this
                  exact this)
                have HQW := Lib.hid (HQ5.out wr HO.out)
                have HBR := Lib.hid (HBM.out.trans (HO.out.below HBM.out.size (by simp; exact HMB.out)))
                have HZQ : Hid ((Hp.nmS (Hp.thB x1 x2 yy) A).length = z) := HZL
                have HZM : Hid (∀ x ∈ Hp.nmS (Hp.thB x1 x2 yy) A, x ∈ (W.take z).map (·.2.2) ∧ (Lit.int .u32 x).wf = true) := Lib.hid (fun x hx => by
                  have h1 := HZP.out.mem_iff.1 hx
                  refine ⟨h1, ?_⟩
                  obtain ⟨s, hs, rfl⟩ := List.mem_map.1 h1
                  exact (HWFW.out s (List.mem_of_mem_take hs)).2.2)
                generalize Hp.nmS (Hp.thB x1 x2 yy) A = Z at *
                clear HMP HO
                go_wp2
                go_loopw [152] (fun v152 wx => ∃ j : Nat, j ≤ z ∧ v152 = .int .i64 j ∧ Hid (wx = wr)) (fun v _ => z - (intOf v).toNat)
                case atStart => exact ⟨0, Nat.zero_le _, rfl, Lib.hid rfl⟩
                case round =>
                  obtain ⟨j, hj, rfl, HWX⟩ := hrel
                  have HMJ := Lib.hid (HWX.out ▸ HMZ.out)
                  have HQJ := Lib.hid (HWX.out ▸ HQW.out)
                  have HBJ := Lib.hid (HWX.out ▸ HBR.out)
                  by_cases hjl : j < z
                  · have hjlz : (j : Int) < z := by omega
                    obtain ⟨x, hxe⟩ : ∃ x, Z[j]? = some x := ⟨_, List.getElem?_eq_getElem (by rw [HZQ.out]; exact hjl)⟩
                    obtain ⟨hxm, hxw⟩ := HZM.out x (List.mem_of_getElem? hxe)
                    rcases HQJ.out with h0 | ⟨b, off, hq, h1⟩
                    · rw [h0] at hxe; simp at hxe
                    · cases hq
                      have cx := h1 j x hxe
                      have hlook := ones_look HMJ.out hxw hxm
                      clear h1 hxe hxm hxw
                      go_wp2_with (at_lookup; refine wpList_lookR rfl _ _ _ _ rfl _ _ _ rfl rfl hlook ?_)
                      go_roundw
                      case rel => exact ⟨j + 1, by omega, by go_num, HWX⟩
                      case measure => simp [intOf]; omega
                  · have hjlz : ¬ (j : Int) < z := by omega
                    have hlen := fun ty => HMJ.out.len Tryz.underlying57 ty
                    rw [show (ones ((W.take z).map (·.2.2))).length = z by rw [ones_len, List.length_map, List.length_take, ← HWL.out]; omega] at hlen
                    go_wp2_with (go_at_call 9; (with_reducible refine (HAW.out _).mono ?_); rintro e w9 ⟨rfl, hb⟩; have HB := Lib.hid (HBJ.out.trans (hb.mono HBJ.out.size)); clear hb)
                    go_ret
                    exact ⟨rfl, HB.out⟩
          · by_cases hfy : f1 ≤ yy
            · have hzn : 0 < z := hzy.2 hfy
              have hznz : (0 : Int) < (z : Int) := by omega
              clear hzy
              go_upto_region 20 with (go_at_call 18; (with_reducible refine (HLF.out _ HT.out).mono ?_); rintro e w5 ⟨⟨r, t2, rfl, ⟨⟨q2, c2, rfl, hts, -, hcl2, -⟩, -⟩, -, -⟩, hb⟩; rw [HFL.out]; have HTF := Lib.hid hts; have HQZ := Lib.hid (HQZ.out.keep hb); have HB := Lib.hid (HB.out.trans (hb.mono HB.out.size)); clear hb hts)
              clear i1 HN HT HTx HU HTH HLO HLF HF HRLR
              go_upto_region 21 with fail
              obtain ⟨WM, hWM⟩ : ∃ WM, WM = w5.alloc (.map #[] 0) := ⟨_, rfl⟩
              rw [← hWM]
              have hal : Below w5.heap.size w5 WM := hWM ▸ (Below.refl _ w5).alloc (Nat.le_refl _) _
              obtain ⟨mb, hmb⟩ : ∃ mb, mb = w5.heap.size := ⟨_, rfl⟩
              have HM0 := Lib.hid (show MP Tryz.prog 32 WM mb (ones []) by rw [hWM, hmb]; exact MP.made _ _ _)
              have HMB := Lib.hid (show w.heap.size ≤ mb by rw [hmb]; exact HB.out.size)
              rw [← hmb]
              have HQ5 := Lib.hid (show ∀ X, Off [mb] WM X → NS X qz .u32 (Hp.nmS (Hp.thB x1 x2 yy) A) from fun X ho => by
                rcases HQZ.out with h0 | ⟨b, off, rfl, h1⟩
                · exact .inl h0
                · refine .inr ⟨b, off, rfl, fun j u hj => ?_⟩
                  have h2 := h1 j u hj
                  have h3 := World.block_lt_of_cell? _ _ h2
                  exact ho.cell ((hal.cell h3).trans h2) (by have : b < w5.heap.size := h3; simp; omega))
              have HT5 := Lib.hid (show ∀ X, Off [mb] WM X → TsS X q2 (W.take (z + 1)) from fun X ho => (HTF.out.keep hal).off ho (fun b off e h0 => by
                have := TsS.lt (e ▸ HTF.out) h0
                simp
                omega))
              have HBM := Lib.hid (HB.out.trans (hal.mono HB.out.size))
              clear hWM hal hmb HQZ HTF HB
              go_wp2
              go_loopw [126] (fun v126 wr => ∃ i : Nat, i ≤ fl ∧ v126 = .int .i64 i ∧ Hid (MP Tryz.prog 32 wr mb (ones ((W.take (min i z)).map (·.2.2)))) ∧ Hid (Off [mb] WM wr)) (fun v _ => fl - (intOf v).toNat)
              case atStart => exact ⟨0, Nat.zero_le _, rfl, Lib.hid (by rw [Nat.zero_min, List.take_zero]; exact HM0.out), Lib.hid (Off.refl _ _)⟩
              case round =>
                clear HM0
                obtain ⟨i, hi, rfl, HMP, HO⟩ := hrel
                by_cases hil : i < fl
                · have hilz : (i : Int) < fl := by omega
                  obtain ⟨u, hue⟩ : ∃ u, (W.take (z + 1))[i]? = some u := ⟨_, List.getElem?_eq_getElem (by rw [HFL.out]; exact hil)⟩
                  obtain ⟨bb, off, hq, h1⟩ := (HT5.out wr HO.out).at hue
                  cases hq
                  have n0 := h1.c0
                  have n1 := h1.c1
                  have n2 := h1.c2
                  have huw : W[i]? = some u := by
                    rw [List.getElem?_take] at hue
                    split at hue
                    · exact hue
                    · cases hue
                  have hiz := HZI.out i u huw
                  have HUW := Lib.hid huw
                  have hwfu := (HWFW.out u (List.mem_of_getElem? huw)).2.2
                  have HWFU := Lib.hid hwfu
                  clear h1 hue huw hwfu
                  obtain ⟨u0, u1, u2⟩ := u
                  simp only at n0 n1 n2 hiz
                  go_upto_region 24 with fail
                  obtain ⟨Y, hY⟩ : ∃ Y, Y = wr.alloc (.cells #[.int .i64 u0, .int .i64 u1, .int .u32 u2] 34) := ⟨_, rfl⟩
                  rw [← hY]
                  have hal : Below wr.heap.size wr Y := hY ▸ (Below.refl _ wr).alloc (Nat.le_refl _) _
                  have HNY := Lib.hid (show T1 Y wr.heap.size 0 (u0, u1, u2) from hY ▸ T1.new wr (u0, u1, u2) 34)
                  have HMY := Lib.hid (HMP.out.keep hal)
                  have HOY := Lib.hid (HO.out.bel hal)
                  obtain ⟨yb, hyb⟩ : ∃ yb, yb = wr.heap.size := ⟨_, rfl⟩
                  have HYB : Hid (yb ≠ mb) := Lib.hid (by have := HMP.out.lt; omega)
                  rw [← hyb] at HNY ⊢
                  clear hY hal n0 n1 n2 hyb HMP HO
                  have m1 := HNY.out.c1
                  have m2 := HNY.out.c2
                  simp only [Nat.zero_add] at m1 m2
                  by_cases hiz2 : i < z
                  · have hizz : (i : Int) < z := by omega
                    have huy : u1 ≤ yy := hiz.1 hiz2
                    have HST : Hid ((W.take (min i z)).map (·.2.2) ++ [u2] = (W.take (min (i + 1) z)).map (·.2.2)) := Lib.hid (by
                      rw [Nat.min_eq_left (by omega), Nat.min_eq_left (by omega), List.take_add_one, HUW.out, List.map_append]
                      rfl)
                    have hmm := ones_more HMY.out (n := u2) (by
                      rw [HST.out]
                      exact (List.Sublist.map _ (List.take_sublist _ _)).nodup HND.out) HWFU.out (by rw [List.length_map, List.length_take]; omega)
                    obtain ⟨hlook, wM, hput, hM2, hO2⟩ := hmm
                    rw [HST.out] at hM2
                    have HM2 := Lib.hid hM2
                    have HO2 := Lib.hid (HOY.out.trans hO2)
                    clear hM2 hO2 hiz
                    go_wp2_with (first
                      | (at_lookup; refine wpList_lookR rfl _ _ _ _ rfl _ _ _ rfl rfl hlook ?_)
                      | (at_mapUpdate; refine wpList_putR rfl _ _ _ _ rfl _ _ _ rfl rfl rfl hput ?_))
                    go_roundw
                    case rel => exact ⟨i + 1, by omega, by go_num, HM2, HO2⟩
                    case measure => simp [intOf]; omega
                  · have hizz : ¬ (i : Int) < z := by omega
                    have huy : ¬ u1 ≤ yy := fun h => hiz2 (hiz.2 h)
                    have HM2 : Hid (MP Tryz.prog 32 Y mb (ones ((W.take (min (i + 1) z)).map (·.2.2)))) := Lib.hid (by
                      have := HMY.out
                      rw [Nat.min_eq_right (by omega)] at this
                      rw [Nat.min_eq_right (by omega)]
                      exact this)
                    clear hiz
                    go_wp2
                    go_roundw
                    case rel => exact ⟨i + 1, by omega, by go_num, HM2, HOY⟩
                    case measure => simp [intOf]; omega
                · have hilz : ¬ (i : Int) < fl := by omega
                  have HMZ : Hid (MP Tryz.prog 32 wr mb (ones ((W.take z).map (·.2.2)))) := Lib.hid (by
                    have := HMP.out
                    rw [Nat.min_eq_right (by omega)] at this
                    exact this)
                  have HQW := Lib.hid (HQ5.out wr HO.out)
                  have HBR := Lib.hid (HBM.out.trans (HO.out.below HBM.out.size (by simp; exact HMB.out)))
                  have HZQ : Hid ((Hp.nmS (Hp.thB x1 x2 yy) A).length = z) := HZL
                  have HZM : Hid (∀ x ∈ Hp.nmS (Hp.thB x1 x2 yy) A, x ∈ (W.take z).map (·.2.2) ∧ (Lit.int .u32 x).wf = true) := Lib.hid (fun x hx => by
                    have h1 := HZP.out.mem_iff.1 hx
                    refine ⟨h1, ?_⟩
                    obtain ⟨s, hs, rfl⟩ := List.mem_map.1 h1
                    exact (HWFW.out s (List.mem_of_mem_take hs)).2.2)
                  generalize Hp.nmS (Hp.thB x1 x2 yy) A = Z at *
                  clear HMP HO
                  go_wp2
                  go_loopw [152] (fun v152 wx => ∃ j : Nat, j ≤ z ∧ v152 = .int .i64 j ∧ Hid (wx = wr)) (fun v _ => z - (intOf v).toNat)
                  case atStart => exact ⟨0, Nat.zero_le _, rfl, Lib.hid rfl⟩
                  case round =>
                    obtain ⟨j, hj, rfl, HWX⟩ := hrel
                    have HMJ := Lib.hid (HWX.out ▸ HMZ.out)
                    have HQJ := Lib.hid (HWX.out ▸ HQW.out)
                    have HBJ := Lib.hid (HWX.out ▸ HBR.out)
                    by_cases hjl : j < z
                    · have hjlz : (j : Int) < z := by omega
                      obtain ⟨x, hxe⟩ : ∃ x, Z[j]? = some x := ⟨_, List.getElem?_eq_getElem (by rw [HZQ.out]; exact hjl)⟩
                      obtain ⟨hxm, hxw⟩ := HZM.out x (List.mem_of_getElem? hxe)
                      rcases HQJ.out with h0 | ⟨b, off, hq, h1⟩
                      · rw [h0] at hxe; simp at hxe
                      · cases hq
                        have cx := h1 j x hxe
                        have hlook := ones_look HMJ.out hxw hxm
                        clear h1 hxe hxm hxw
                        go_wp2_with (at_lookup; refine wpList_lookR rfl _ _ _ _ rfl _ _ _ rfl rfl hlook ?_)
                        go_roundw
                        case rel => exact ⟨j + 1, by omega, by go_num, HWX⟩
                        case measure => simp [intOf]; omega
                    · have hjlz : ¬ (j : Int) < z := by omega
                      have hlen := fun ty => HMJ.out.len Tryz.underlying57 ty
                      rw [show (ones ((W.take z).map (·.2.2))).length = z by rw [ones_len, List.length_map, List.length_take, ← HWL.out]; omega] at hlen
                      go_wp2_with (go_at_call 9; (with_reducible refine (HAW.out _).mono ?_); rintro e w9 ⟨rfl, hb⟩; have HB := Lib.hid (HBJ.out.trans (hb.mono HBJ.out.size)); clear hb)
                      go_ret
                      exact ⟨rfl, HB.out⟩
            · have hzn : ¬ 0 < z := fun h => hfy (hzy.1 h)
              have hznz : ¬ (0 : Int) < (z : Int) := by omega
              clear hzy
              go_upto_region 20 with (go_at_call 18; (with_reducible refine (HLF.out _ HT.out).mono ?_); rintro e w5 ⟨⟨r, t2, rfl, ⟨⟨q2, c2, rfl, hts, -, hcl2, -⟩, -⟩, -, -⟩, hb⟩; rw [HFL.out]; have HTF := Lib.hid hts; have HQZ := Lib.hid (HQZ.out.keep hb); have HB := Lib.hid (HB.out.trans (hb.mono HB.out.size)); clear hb hts)
              clear i1 HN HT HTx HU HTH HLO HLF HF HRLR
              go_upto_region 21 with fail
              obtain ⟨WM, hWM⟩ : ∃ WM, WM = w5.alloc (.map #[] 0) := ⟨_, rfl⟩
              rw [← hWM]
              have hal : Below w5.heap.size w5 WM := hWM ▸ (Below.refl _ w5).alloc (Nat.le_refl _) _
              obtain ⟨mb, hmb⟩ : ∃ mb, mb = w5.heap.size := ⟨_, rfl⟩
              have HM0 := Lib.hid (show MP Tryz.prog 32 WM mb (ones []) by rw [hWM, hmb]; exact MP.made _ _ _)
              have HMB := Lib.hid (show w.heap.size ≤ mb by rw [hmb]; exact HB.out.size)
              rw [← hmb]
              have HQ5 := Lib.hid (show ∀ X, Off [mb] WM X → NS X qz .u32 (Hp.nmS (Hp.thB x1 x2 yy) A) from fun X ho => by
                rcases HQZ.out with h0 | ⟨b, off, rfl, h1⟩
                · exact .inl h0
                · refine .inr ⟨b, off, rfl, fun j u hj => ?_⟩
                  have h2 := h1 j u hj
                  have h3 := World.block_lt_of_cell? _ _ h2
                  exact ho.cell ((hal.cell h3).trans h2) (by have : b < w5.heap.size := h3; simp; omega))
              have HT5 := Lib.hid (show ∀ X, Off [mb] WM X → TsS X q2 (W.take (z + 1)) from fun X ho => (HTF.out.keep hal).off ho (fun b off e h0 => by
                have := TsS.lt (e ▸ HTF.out) h0
                simp
                omega))
              have HBM := Lib.hid (HB.out.trans (hal.mono HB.out.size))
              clear hWM hal hmb HQZ HTF HB
              go_wp2
              go_loopw [126] (fun v126 wr => ∃ i : Nat, i ≤ fl ∧ v126 = .int .i64 i ∧ Hid (MP Tryz.prog 32 wr mb (ones ((W.take (min i z)).map (·.2.2)))) ∧ Hid (Off [mb] WM wr)) (fun v _ => fl - (intOf v).toNat)
              case atStart => exact ⟨0, Nat.zero_le _, rfl, Lib.hid (by rw [Nat.zero_min, List.take_zero]; exact HM0.out), Lib.hid (Off.refl _ _)⟩
              case round =>
                clear HM0
                obtain ⟨i, hi, rfl, HMP, HO⟩ := hrel
                by_cases hil : i < fl
                · have hilz : (i : Int) < fl := by omega
                  obtain ⟨u, hue⟩ : ∃ u, (W.take (z + 1))[i]? = some u := ⟨_, List.getElem?_eq_getElem (by rw [HFL.out]; exact hil)⟩
                  obtain ⟨bb, off, hq, h1⟩ := (HT5.out wr HO.out).at hue
                  cases hq
                  have n0 := h1.c0
                  have n1 := h1.c1
                  have n2 := h1.c2
                  have huw : W[i]? = some u := by
                    rw [List.getElem?_take] at hue
                    split at hue
                    · exact hue
                    · cases hue
                  have hiz := HZI.out i u huw
                  have HUW := Lib.hid huw
                  have hwfu := (HWFW.out u (List.mem_of_getElem? huw)).2.2
                  have HWFU := Lib.hid hwfu
                  clear h1 hue huw hwfu
                  obtain ⟨u0, u1, u2⟩ := u
                  simp only at n0 n1 n2 hiz
                  go_upto_region 24 with fail
                  obtain ⟨Y, hY⟩ : ∃ Y, Y = wr.alloc (.cells #[.int .i64 u0, .int .i64 u1, .int .u32 u2] 34) := ⟨_, rfl⟩
                  rw [← hY]
                  have hal : Below wr.heap.size wr Y := hY ▸ (Below.refl _ wr).alloc (Nat.le_refl _) _
                  have HNY := Lib.hid (show T1 Y wr.heap.size 0 (u0, u1, u2) from hY ▸ T1.new wr (u0, u1, u2) 34)
                  have HMY := Lib.hid (HMP.out.keep hal)
                  have HOY := Lib.hid (HO.out.bel hal)
                  obtain ⟨yb, hyb⟩ : ∃ yb, yb = wr.heap.size := ⟨_, rfl⟩
                  have HYB : Hid (yb ≠ mb) := Lib.hid (by have := HMP.out.lt; omega)
                  rw [← hyb] at HNY ⊢
                  clear hY hal n0 n1 n2 hyb HMP HO
                  have m1 := HNY.out.c1
                  have m2 := HNY.out.c2
                  simp only [Nat.zero_add] at m1 m2
                  by_cases hiz2 : i < z
                  · exact absurd hiz2 (by omega)
                  · have hizz : ¬ (i : Int) < z := by omega
                    have huy : ¬ u1 ≤ yy := fun h => hiz2 (hiz.2 h)
                    have HM2 : Hid (MP Tryz.prog 32 Y mb (ones ((W.take (min (i + 1) z)).map (·.2.2)))) := Lib.hid (by
                      have := HMY.out
                      rw [Nat.min_eq_right (by omega)] at this
                      rw [Nat.min_eq_right (by omega)]
                      exact this)
                    clear hiz
                    go_wp2
                    go_roundw
                    case rel => exact ⟨i + 1, by omega, by go_num, HM2, HOY⟩
                    case measure => simp [intOf]; omega
                · have hilz : ¬ (i : Int) < fl := by omega
                  have HMZ : Hid (MP Tryz.prog 32 wr mb (ones ((W.take z).map (·.2.2)))) := Lib.hid (by
                    have := HMP.out
                    rw [Nat.min_eq_right (by omega)] at this
                    exact this)
                  have HQW := Lib.hid (HQ5.out wr HO.out)
                  have HBR := Lib.hid (HBM.out.trans (HO.out.below HBM.out.size (by simp; exact HMB.out)))
                  have HZQ : Hid ((Hp.nmS (Hp.thB x1 x2 yy) A).length = z) := HZL
                  have HZM : Hid (∀ x ∈ Hp.nmS (Hp.thB x1 x2 yy) A, x ∈ (W.take z).map (·.2.2) ∧ (Lit.int .u32 x).wf = true) := Lib.hid (fun x hx => by
                    have h1 := HZP.out.mem_iff.1 hx
                    refine ⟨h1, ?_⟩
                    obtain ⟨s, hs, rfl⟩ := List.mem_map.1 h1
                    exact (HWFW.out s (List.mem_of_mem_take hs)).2.2)
                  generalize Hp.nmS (Hp.thB x1 x2 yy) A = Z at *
                  clear HMP HO
                  go_wp2
                  go_loopw [152] (fun v152 wx => ∃ j : Nat, j ≤ z ∧ v152 = .int .i64 j ∧ Hid (wx = wr)) (fun v _ => z - (intOf v).toNat)
                  case atStart => exact ⟨0, Nat.zero_le _, rfl, Lib.hid rfl⟩
                  case round =>
                    obtain ⟨j, hj, rfl, HWX⟩ := hrel
                    have HMJ := Lib.hid (HWX.out ▸ HMZ.out)
                    have HQJ := Lib.hid (HWX.out ▸ HQW.out)
                    have HBJ := Lib.hid (HWX.out ▸ HBR.out)
                    by_cases hjl : j < z
                    · have hjlz : (j : Int) < z := by omega
                      obtain ⟨x, hxe⟩ : ∃ x, Z[j]? = some x := ⟨_, List.getElem?_eq_getElem (by rw [HZQ.out]; exact hjl)⟩
                      obtain ⟨hxm, hxw⟩ := HZM.out x (List.mem_of_getElem? hxe)
                      rcases HQJ.out with h0 | ⟨b, off, hq, h1⟩
                      · rw [h0] at hxe; simp at hxe
                      · cases hq
                        have cx := h1 j x hxe
                        have hlook := ones_look HMJ.out hxw hxm
                        clear h1 hxe hxm hxw
                        go_wp2_with (at_lookup; refine wpList_lookR rfl _ _ _ _ rfl _ _ _ rfl rfl hlook ?_)
                        go_roundw
                        case rel => exact ⟨j + 1, by omega, by go_num, HWX⟩
                        case measure => simp [intOf]; omega
                    · have hjlz : ¬ (j : Int) < z := by omega
                      have hlen := fun ty => HMJ.out.len Tryz.underlying57 ty
                      rw [show (ones ((W.take z).map (·.2.2))).length = z by rw [ones_len, List.length_map, List.length_take, ← HWL.out]; omega] at hlen
                      go_wp2_with (go_at_call 9; (with_reducible refine (HAW.out _).mono ?_); rintro e w9 ⟨rfl, hb⟩; have HB := Lib.hid (HBJ.out.trans (hb.mono HBJ.out.size)); clear hb)
                      go_ret
                      exact ⟨rfl, HB.out⟩
    · go_enter Tryz.func7, Tryz.ntmps7
      go_wp2_with (first
        | (go_at_call 10; (with_reducible refine HBT.out.mono ?_); rintro e w1 ⟨hb, hor⟩; rcases hor with ⟨hn, -⟩ | ⟨-, v, S, rfl, -, -⟩; (exact absurd hn hrg); have HB := Lib.hid hb; clear hb)
        | (go_at_call 20; (with_reducible refine (HBU.out _ HB.out).mono ?_); rintro e w2 ⟨hb, hor⟩; rcases hor with ⟨hn, -⟩ | ⟨-, v, S, rfl, -, -⟩; (exact absurd hn hrg); have HB := Lib.hid (HB.out.trans (hb.mono HB.out.size)); clear hb)
        | (go_at_call 9; (with_reducible refine (HAW.out _).mono ?_); rintro e w9 ⟨rfl, hb⟩; have HB := Lib.hid (HB.out.trans (hb.mono HB.out.size)); clear hb))
      go_ret
      exact ⟨rfl, HB.out⟩
  · have hbz : (80 : Int) < L.length := by omega
    clear hx hc hw hD hp
    generalize L.length = m at *
    go_enter Tryz.func7, Tryz.ntmps7
    go_wp2_with (go_at_call 9; (with_reducible refine (HAW.out _).mono ?_); rintro e w9 ⟨rfl, hb⟩; have HB := Lib.hid hb; clear hb)
    go_ret
    exact ⟨rfl, HB.out⟩
end Go.Proofs.YtldmajifkmcdcaaGreat.Lw
