/-
  CascadeGrows: a box within another one has no more, and just those of the other's that are within it; over any tree.
-/
import Derived.Test.YtfcpfffgodljeaaGreatCd
namespace Go.Proofs.YtfcpfffgodljeaaGreat.Ca
open Go.ChangeShapes Go.WideShapes Go.ChangeAt Go.RowKit Go.Joins

theorem sub_rise : ∀ (W N : List Int), W.Pairwise (· < ·) → N.Pairwise (· < ·) → (∀ x ∈ N, x ∈ W) → N.Sublist W := by
  intro W
  induction W with
  | nil =>
    intro N _ _ h
    cases N with
    | nil => exact List.Sublist.refl _
    | cons n N => exact absurd (h n List.mem_cons_self) (by simp)
  | cons v W ih =>
    intro N hW hN h
    rw [List.pairwise_cons] at hW
    cases N with
    | nil => exact List.nil_sublist _
    | cons n N =>
      have hN' := List.pairwise_cons.1 hN
      by_cases e : n = v
      · subst e
        exact List.Sublist.cons_cons _ (ih N hW.2 hN'.2 (fun x hx => by
          rcases List.mem_cons.1 (h x (List.mem_cons_of_mem _ hx)) with g | g
          · have := hN'.1 x hx; omega
          · exact g))
      · refine List.Sublist.cons _ (ih (n :: N) hW.2 hN (fun x hx => ?_))
        have hn : n ∈ W := by
          rcases List.mem_cons.1 (h n List.mem_cons_self) with g | g
          · exact absurd g e
          · exact g
        have hvn := hW.1 n hn
        rcases List.mem_cons.1 (h x hx) with g | g
        · rcases List.mem_cons.1 hx with k | k
          · omega
          · have := hN'.1 x k; omega
        · exact g
/-- a box within a box -/
def Inn (b c : B4) : Prop := b.1 ≤ c.1 ∧ c.1 ≤ c.2.1 ∧ c.2.1 ≤ b.2.1 ∧ b.2.2.1 ≤ c.2.2.1 ∧ c.2.2.1 ≤ c.2.2.2 ∧ c.2.2.2 ≤ b.2.2.2
/-- is there one of this name that c has? -/
def inP (L : List S3) (c : B4) (n : Int) : Bool := L.any (fun s => decide (s.2.2 = n) && hsB c s)
theorem inP_snoc (L : List S3) (s : S3) (c : B4) (n : Int) : inP (L ++ [s]) c n = (inP L c n || (decide (s.2.2 = n) && hsB c s)) := by
  unfold inP
  rw [List.any_append]
  simp
theorem narrow_eq {L : List S3} (hr : Rg L) {b c : B4} (h : Inn b c) : hsS L c = (hsS L b).filter (inP L c) := by
  have h1 := hsS_rise hr c
  have h2 : ((hsS L b).filter (inP L c)).Pairwise (· < ·) := (hsS_rise hr b).sublist List.filter_sublist
  have hm : ∀ x, x ∈ hsS L c ↔ x ∈ (hsS L b).filter (inP L c) := fun x => by
    rw [mem_hsS, List.mem_filter, mem_hsS]
    unfold inP
    rw [List.any_eq_true]
    constructor
    · rintro ⟨s, hs, hc, rfl⟩
      refine ⟨⟨s, hs, ?_, rfl⟩, s, hs, by simp [hc]⟩
      unfold hsB at hc ⊢
      unfold Inn at h
      simp only [Bool.and_eq_true, decide_eq_true_eq] at hc ⊢
      omega
    · rintro ⟨-, s, hs, hc⟩
      simp only [Bool.and_eq_true, decide_eq_true_eq] at hc
      exact ⟨s, hs, hc.2, hc.1⟩
  have s1 := sub_rise _ _ h2 h1 (fun x hx => (hm x).1 hx)
  have s2 := sub_rise _ _ h1 h2 (fun x hx => (hm x).2 hx)
  exact s1.eq_of_length (Nat.le_antisymm s1.length_le s2.length_le)
theorem flt_step {Z Y : List Int} {P : Int → Bool} {k i : Nat} {n : Int} (h : Y.drop k = (Z.drop i).filter P) (hz : Z[i]? = some n) : (P n = false → Y.drop k = (Z.drop (i + 1)).filter P) ∧ (P n = true → Y[k]? = some n ∧ Y.drop (k + 1) = (Z.drop (i + 1)).filter P) := by
  obtain ⟨g1, g2⟩ := List.getElem?_eq_some_iff.1 hz
  rw [List.drop_eq_getElem_cons g1, g2] at h
  constructor
  · intro hp
    rw [h, List.filter_cons_of_neg (by simp [hp])]
  · intro hp
    rw [List.filter_cons_of_pos (by simp [hp])] at h
    have e0 : (Y.drop k)[0]? = some n := by rw [h]; rfl
    rw [List.getElem?_drop, Nat.add_zero] at e0
    refine ⟨e0, ?_⟩
    have e1 : (Y.drop k).drop 1 = Y.drop (k + 1) := by rw [List.drop_drop]
    rw [← e1, h]
    rfl
theorem ev_box (w : World) (n : B5) (t : TypeId) : EV t (w.alloc (.cells (bvs n).toArray t)) w.heap.size (bvs n) := heap_alloc_new w _
theorem ev_x1 {t : TypeId} {w : World} {A : Nat} {n : B5} (h : EV t w A (bvs n)) : X1 w A 0 n := ⟨h.cell rfl, h.cell rfl, h.cell rfl, h.cell rfl, h.cell rfl⟩
theorem off1 (w : World) (g i : Nat) (v : Value) : Off [g] w (w.setCell ⟨g, i, none⟩ v) := (Off.refl _ w).set _ _ (.inl (by simp))

set_option maxRecDepth 100000 in
set_option maxHeartbeats 25600000 in
theorem grows_main {TS : World → Value → Nat → List Nat → List S3 → Prop} (C : CascC TS) (w : World) (p : Option Addr) (c : Nat) (L : List S3) (x1 x2 y1 y2 bi : Int) (n0 n1 n2 n3 : Nat) (hx : TsS w p L) (hc : L.length ≤ c) (hp : p = none → c = 0) (hw : ∀ s ∈ L, Wf3 s) (hb : Wf5 ((x1, x2, y1, y2), bi)) (hn0 : n0 ≤ 255) (hn1 : n1 ≤ 255) (hn2 : n2 ≤ 255) (hn3 : n3 ≤ 255) (hbig : L.length ≤ 100) (h1 : x1 ≤ x2) (h2 : y1 ≤ y2) :
    Calls Tryz.prog 14 #[.slice p L.length c, bv ((x1, x2, y1, y2), bi), .agg #[.int .u8 n0, .int .u8 n1, .int .u8 n2, .int .u8 n3]] w fun e w' => e = .returned (.bool true) ∧ Below w.heap.size w w' := by
  have HAW := Lib.hid (awake_any C)
  have hbz : ¬ (100 : Int) < L.length := by omega
  have h1e : ¬ x2 < x1 := by omega
  have h2e : ¬ y2 < y1 := by omega
  have HBU := Lib.hid (fun X (hX : Below w.heap.size w X) => C.build X p c L (hx.keep hX) (by omega) hc hp hw)
  have HX := Lib.hid hx
  have HWF := Lib.hid hw
  obtain ⟨r1, r1'⟩ := i64_range hb.1.1
  obtain ⟨r2, r2'⟩ := i64_range hb.1.2.1
  obtain ⟨r3, r3'⟩ := i64_range hb.1.2.2.1
  obtain ⟨r4, r4'⟩ := i64_range hb.1.2.2.2
  simp only at r1 r1' r2 r2' r3 r3' r4 r4'
  obtain ⟨W, hW⟩ : ∃ W, W = (w.alloc (.cells (bvs ((x1, x2, y1, y2), bi)).toArray 42)).alloc (.cells #[.int .u8 n0, .int .u8 n1, .int .u8 n2, .int .u8 n3] 64) := ⟨_, rfl⟩
  have HNb := Lib.hid (show X1 W w.heap.size 0 ((x1, x2, y1, y2), bi) by rw [hW]; exact (X1.new w _ _).keep ((Below.refl _ _).alloc (Nat.le_refl _) _) (by simp))
  have hdc : ∀ i v, ([.int .u8 n0, .int .u8 n1, .int .u8 n2, .int .u8 n3] : List Value)[i]? = some v → W.cell? ⟨w.heap.size + 1, i, none⟩ = some v := fun i v e => by
    rw [hW]
    have := World.cell?_alloc_new (w.alloc (.cells (bvs ((x1, x2, y1, y2), bi)).toArray 42)) #[.int .u8 n0, .int .u8 n1, .int .u8 n2, .int .u8 n3] 64 i
    rw [show (w.alloc (.cells (bvs ((x1, x2, y1, y2), bi)).toArray 42)).heap.size = w.heap.size + 1 by simp] at this
    rw [this]
    simpa using e
  have HD0 := Lib.hid (hdc 0 _ rfl)
  have HD1 := Lib.hid (hdc 1 _ rfl)
  have HD2 := Lib.hid (hdc 2 _ rfl)
  have HD3 := Lib.hid (hdc 3 _ rfl)
  have HB0 := Lib.hid (show Below w.heap.size w W by rw [hW]; exact ((Below.refl _ w).alloc (Nat.le_refl _) _).alloc (by simp) _)
  have HW1 := Lib.hid (show (w.alloc (.cells #[.int .i64 x1, .int .i64 x2, .int .i64 y1, .int .i64 y2, .int .u32 bi] 42)).alloc (.cells #[.int .u8 n0, .int .u8 n1, .int .u8 n2, .int .u8 n3] 64) = W from hW.symm)
  have HLb := Lib.hid HNb.out.lt
  have HL1 := Lib.hid (show w.heap.size + 1 < W.heap.size by rw [hW]; simp)
  have a0 := HNb.out.c0
  have a1 := HNb.out.c1
  have a2 := HNb.out.c2
  have a3 := HNb.out.c3
  have a4 := HNb.out.c4
  simp only [Nat.zero_add] at a0 a1 a2 a3 a4
  clear hW hdc
  by_cases hrg : Rg L
  · have HRG := Lib.hid hrg
    have HRE := Lib.hid (fun X v S b (h : TS X v L.length S L) (hb : Wf5 b) => C.report b h hb)
    have HF := Lib.hid (show ∀ z, (hsS L z).length ≤ 100 from fun z => Nat.le_trans (hsS_len L z) hbig)
    have HWB := Lib.hid hb
    unfold bv
    simp only
    obtain ⟨m, hm⟩ : ∃ m, m = L.length := ⟨_, rfl⟩
    have HM := Lib.hid hm
    rw [← hm] at HBU HRE hbz hbig ⊢
    clear hx hc hp hw hb hrg hm
    go_enter Tryz.func14, Tryz.ntmps14
    go_upto_region 1 with fail
    rw [HW1.out]
    clear HW1
    go_upto_region 6 with (go_at_call 29; (with_reducible refine (HBU.out _ HB0.out).mono ?_); rintro e w1 ⟨hb, hor⟩; rcases hor with ⟨-, v, S, rfl, hT, -⟩ | ⟨hn', -⟩; rotate_left; (exact absurd HRG.out hn'); rw [← HM.out] at hT; have HT := Lib.hid hT; have HB := Lib.hid (HB0.out.trans (hb.mono HB0.out.size)); have HNb := Lib.hid (HNb.out.keep hb HLb.out); have HSZ := Lib.hid hb.size; have HD0 := Lib.hid ((hb.cell HL1.out).trans HD0.out); have HD1 := Lib.hid ((hb.cell HL1.out).trans HD1.out); have HD2 := Lib.hid ((hb.cell HL1.out).trans HD2.out); have HD3 := Lib.hid ((hb.cell HL1.out).trans HD3.out); have k0 := HNb.out.c0; have k1 := HNb.out.c1; have k2 := HNb.out.c2; have k3 := HNb.out.c3; have k4 := HNb.out.c4; simp only [Nat.zero_add] at k0 k1 k2 k3 k4; clear hb hT)
    have HSL := Lib.hid (C.lies HT.out)
    have hne1 : w.heap.size + 1 < w1.heap.size := Nat.lt_of_lt_of_le HL1.out HSZ.out
    obtain ⟨w2, hw2⟩ : ∃ w2, w2 = w1.alloc (.cells (bvs ((x1, x2, y1, y2), bi)).toArray 42) := ⟨_, rfl⟩
    have hb2 : Below w1.heap.size w1 w2 := by rw [hw2]; exact (Below.refl _ w1).alloc (Nat.le_refl _) _
    have HE := Lib.hid (show EV 42 w2 w1.heap.size (bvs ((x1, x2, y1, y2), bi)) by rw [hw2]; exact ev_box w1 _ _)
    have HO := Lib.hid (Off.refl [w1.heap.size] w2)
    have HI := Lib.hid (show Inn (x1, x2, y1, y2) (x1, x2, y1, y2) from ⟨Int.le_refl _, h1, Int.le_refl _, Int.le_refl _, h2, Int.le_refl _⟩)
    have HT := Lib.hid (C.bel HT.out hb2)
    have HB := Lib.hid (HB.out.trans (hb2.mono HB.out.size))
    have HNb := Lib.hid (HNb.out.keep hb2 (by omega))
    have HD0 := Lib.hid ((hb2.cell hne1).trans HD0.out)
    have HD1 := Lib.hid ((hb2.cell hne1).trans HD1.out)
    have HD2 := Lib.hid ((hb2.cell hne1).trans HD2.out)
    have HD3 := Lib.hid ((hb2.cell hne1).trans HD3.out)
    have HW2 := Lib.hid (show w1.alloc (.cells #[.int .i64 x1, .int .i64 x2, .int .i64 y1, .int .i64 y2, .int .u32 bi] 42) = w2 from hw2.symm)
    clear hw2 hb2
    go_upto_region 7 with fail
    rw [HW2.out]
    clear HW2 k0 k1 k2 k3 k4 a0 a1 a2 a3 a4
    have d0 := HD0.out
    go_wp2
    clear d0
    go_loopw [49] (fun v wr => ∃ (k : Nat) (c1 c2 c3 c4 : Int), k ≤ n0 ∧ v = .int .u8 k ∧ Hid (Inn (x1, x2, y1, y2) (c1, c2, c3, c4)) ∧ Hid (EV 42 wr w1.heap.size (bvs ((c1, c2, c3, c4), bi))) ∧ Hid (Off [w1.heap.size] w2 wr)) (fun v _ => n0 - (intOf v).toNat)
    case atStart => exact ⟨0, _, _, _, _, Nat.zero_le _, rfl, HI, HE, HO⟩
    case round =>
      clear HI HE HO
      obtain ⟨k, c1, c2, c3, c4, hk, rfl, HI, HE, HO⟩ := hrel
      have hin := HI.out
      unfold Inn at hin
      simp only at hin
      obtain ⟨i1, i2, i3, i4, i5, i6⟩ := hin
      have hx1 := ev_x1 HE.out
      have m0 := hx1.c0
      have m1 := hx1.c1
      have m2 := hx1.c2
      have m3 := hx1.c3
      have m4 := hx1.c4
      simp only [Nat.zero_add] at m0 m1 m2 m3 m4
      have fz0 := HE.out.free 0
      have fz1 := HE.out.free 1
      have fz2 := HE.out.free 2
      have fz3 := HE.out.free 3
      clear hx1
      by_cases hlt : k < n0
      · have hltz : (k : Int) < n0 := by omega
        by_cases hc : c1 < c2
        · have HE2 := Lib.hid (show EV 42 (wr.setCell ⟨w1.heap.size, 0, none⟩ (.int .i64 (c1 + 1))) w1.heap.size (bvs ((c1 + 1, c2, c3, c4), bi)) from HE.out.set 0 _)
          have HO2 := Lib.hid (HO.out.trans (off1 wr w1.heap.size 0 (.int .i64 (c1 + 1))))
          have HI2 := Lib.hid (show Inn (x1, x2, y1, y2) (c1 + 1, c2, c3, c4) from ⟨by simp only; omega, by simp only; omega, by simp only; omega, by simp only; omega, by simp only; omega, by simp only; omega⟩)
          clear HE HO HI
          go_wp2
          go_roundw
          case rel => exact ⟨k + 1, _, _, _, _, by omega, by go_num, HI2, HE2, HO2⟩
          case measure => simp [intOf]; omega
        · go_wp2
          go_roundw
          case rel => exact ⟨k + 1, _, _, _, _, by omega, by go_num, HI, HE, HO⟩
          case measure => simp [intOf]; omega
      · have hltz : ¬ (k : Int) < n0 := by omega
        obtain rfl : k = n0 := by omega
        clear hltz
        have hltz : ¬ (k : Int) < k := by omega
        have d1 := HO.out.cell HD1.out (by simp; omega)
        clear m0 m1 m2 m3 m4 fz0 fz1 fz2 fz3
        go_wp2
        clear d1 hltz hlt
        go_loopw [63] (fun v wr => ∃ (k : Nat) (c1 c2 c3 c4 : Int), k ≤ n1 ∧ v = .int .u8 k ∧ Hid (Inn (x1, x2, y1, y2) (c1, c2, c3, c4)) ∧ Hid (EV 42 wr w1.heap.size (bvs ((c1, c2, c3, c4), bi))) ∧ Hid (Off [w1.heap.size] w2 wr)) (fun v _ => n1 - (intOf v).toNat)
        case atStart => exact ⟨0, _, _, _, _, Nat.zero_le _, rfl, HI, HE, HO⟩
        case round =>
          clear HI HE HO
          obtain ⟨k, c1, c2, c3, c4, hk, rfl, HI, HE, HO⟩ := hrel
          have hin := HI.out
          unfold Inn at hin
          simp only at hin
          obtain ⟨i1, i2, i3, i4, i5, i6⟩ := hin
          have hx1 := ev_x1 HE.out
          have m0 := hx1.c0
          have m1 := hx1.c1
          have m2 := hx1.c2
          have m3 := hx1.c3
          have m4 := hx1.c4
          simp only [Nat.zero_add] at m0 m1 m2 m3 m4
          have fz0 := HE.out.free 0
          have fz1 := HE.out.free 1
          have fz2 := HE.out.free 2
          have fz3 := HE.out.free 3
          clear hx1
          by_cases hlt : k < n1
          · have hltz : (k : Int) < n1 := by omega
            by_cases hc : c1 < c2
            · have HE2 := Lib.hid (show EV 42 (wr.setCell ⟨w1.heap.size, 1, none⟩ (.int .i64 (c2 - 1))) w1.heap.size (bvs ((c1, c2 - 1, c3, c4), bi)) from HE.out.set 1 _)
              have HO2 := Lib.hid (HO.out.trans (off1 wr w1.heap.size 1 (.int .i64 (c2 - 1))))
              have HI2 := Lib.hid (show Inn (x1, x2, y1, y2) (c1, c2 - 1, c3, c4) from ⟨by simp only; omega, by simp only; omega, by simp only; omega, by simp only; omega, by simp only; omega, by simp only; omega⟩)
              clear HE HO HI
              go_wp2
              go_roundw
              case rel => exact ⟨k + 1, _, _, _, _, by omega, by go_num, HI2, HE2, HO2⟩
              case measure => simp [intOf]; omega
            · go_wp2
              go_roundw
              case rel => exact ⟨k + 1, _, _, _, _, by omega, by go_num, HI, HE, HO⟩
              case measure => simp [intOf]; omega
          · have hltz : ¬ (k : Int) < n1 := by omega
            obtain rfl : k = n1 := by omega
            clear hltz
            have hltz : ¬ (k : Int) < k := by omega
            have d2 := HO.out.cell HD2.out (by simp; omega)
            clear m0 m1 m2 m3 m4 fz0 fz1 fz2 fz3
            go_wp2
            clear d2 hltz hlt
            go_loopw [77] (fun v wr => ∃ (k : Nat) (c1 c2 c3 c4 : Int), k ≤ n2 ∧ v = .int .u8 k ∧ Hid (Inn (x1, x2, y1, y2) (c1, c2, c3, c4)) ∧ Hid (EV 42 wr w1.heap.size (bvs ((c1, c2, c3, c4), bi))) ∧ Hid (Off [w1.heap.size] w2 wr)) (fun v _ => n2 - (intOf v).toNat)
            case atStart => exact ⟨0, _, _, _, _, Nat.zero_le _, rfl, HI, HE, HO⟩
            case round =>
              clear HI HE HO
              obtain ⟨k, c1, c2, c3, c4, hk, rfl, HI, HE, HO⟩ := hrel
              have hin := HI.out
              unfold Inn at hin
              simp only at hin
              obtain ⟨i1, i2, i3, i4, i5, i6⟩ := hin
              have hx1 := ev_x1 HE.out
              have m0 := hx1.c0
              have m1 := hx1.c1
              have m2 := hx1.c2
              have m3 := hx1.c3
              have m4 := hx1.c4
              simp only [Nat.zero_add] at m0 m1 m2 m3 m4
              have fz0 := HE.out.free 0
              have fz1 := HE.out.free 1
              have fz2 := HE.out.free 2
              have fz3 := HE.out.free 3
              clear hx1
              by_cases hlt : k < n2
              · have hltz : (k : Int) < n2 := by omega
                by_cases hc : c3 < c4
                · have HE2 := Lib.hid (show EV 42 (wr.setCell ⟨w1.heap.size, 2, none⟩ (.int .i64 (c3 + 1))) w1.heap.size (bvs ((c1, c2, c3 + 1, c4), bi)) from HE.out.set 2 _)
                  have HO2 := Lib.hid (HO.out.trans (off1 wr w1.heap.size 2 (.int .i64 (c3 + 1))))
                  have HI2 := Lib.hid (show Inn (x1, x2, y1, y2) (c1, c2, c3 + 1, c4) from ⟨by simp only; omega, by simp only; omega, by simp only; omega, by simp only; omega, by simp only; omega, by simp only; omega⟩)
                  clear HE HO HI
                  go_wp2
                  go_roundw
                  case rel => exact ⟨k + 1, _, _, _, _, by omega, by go_num, HI2, HE2, HO2⟩
                  case measure => simp [intOf]; omega
                · go_wp2
                  go_roundw
                  case rel => exact ⟨k + 1, _, _, _, _, by omega, by go_num, HI, HE, HO⟩
                  case measure => simp [intOf]; omega
              · have hltz : ¬ (k : Int) < n2 := by omega
                obtain rfl : k = n2 := by omega
                clear hltz
                have hltz : ¬ (k : Int) < k := by omega
                have d3 := HO.out.cell HD3.out (by simp; omega)
                clear m0 m1 m2 m3 m4 fz0 fz1 fz2 fz3
                go_wp2
                clear d3 hltz hlt
                go_loopw [91] (fun v wr => ∃ (k : Nat) (c1 c2 c3 c4 : Int), k ≤ n3 ∧ v = .int .u8 k ∧ Hid (Inn (x1, x2, y1, y2) (c1, c2, c3, c4)) ∧ Hid (EV 42 wr w1.heap.size (bvs ((c1, c2, c3, c4), bi))) ∧ Hid (Off [w1.heap.size] w2 wr)) (fun v _ => n3 - (intOf v).toNat)
                case atStart => exact ⟨0, _, _, _, _, Nat.zero_le _, rfl, HI, HE, HO⟩
                case round =>
                  clear HI HE HO
                  obtain ⟨k, c1, c2, c3, c4, hk, rfl, HI, HE, HO⟩ := hrel
                  have hin := HI.out
                  unfold Inn at hin
                  simp only at hin
                  obtain ⟨i1, i2, i3, i4, i5, i6⟩ := hin
                  have hx1 := ev_x1 HE.out
                  have m0 := hx1.c0
                  have m1 := hx1.c1
                  have m2 := hx1.c2
                  have m3 := hx1.c3
                  have m4 := hx1.c4
                  simp only [Nat.zero_add] at m0 m1 m2 m3 m4
                  have fz0 := HE.out.free 0
                  have fz1 := HE.out.free 1
                  have fz2 := HE.out.free 2
                  have fz3 := HE.out.free 3
                  clear hx1
                  by_cases hlt : k < n3
                  · have hltz : (k : Int) < n3 := by omega
                    by_cases hc : c3 < c4
                    · have HE2 := Lib.hid (show EV 42 (wr.setCell ⟨w1.heap.size, 3, none⟩ (.int .i64 (c4 - 1))) w1.heap.size (bvs ((c1, c2, c3, c4 - 1), bi)) from HE.out.set 3 _)
                      have HO2 := Lib.hid (HO.out.trans (off1 wr w1.heap.size 3 (.int .i64 (c4 - 1))))
                      have HI2 := Lib.hid (show Inn (x1, x2, y1, y2) (c1, c2, c3, c4 - 1) from ⟨by simp only; omega, by simp only; omega, by simp only; omega, by simp only; omega, by simp only; omega, by simp only; omega⟩)
                      clear HE HO HI
                      go_wp2
                      go_roundw
                      case rel => exact ⟨k + 1, _, _, _, _, by omega, by go_num, HI2, HE2, HO2⟩
                      case measure => simp [intOf]; omega
                    · go_wp2
                      go_roundw
                      case rel => exact ⟨k + 1, _, _, _, _, by omega, by go_num, HI, HE, HO⟩
                      case measure => simp [intOf]; omega
                  · have hltz : ¬ (k : Int) < n3 := by omega
                    obtain rfl : k = n3 := by omega
                    clear hltz
                    have hltz : ¬ (k : Int) < k := by omega
                    have HT := Lib.hid (C.keep HT.out HO.out (fun b hb hb2 => by have := HSL.out b hb; simp at hb2; omega))
                    have HNb := Lib.hid (HNb.out.off HO.out (by simp; omega))
                    have HNc := Lib.hid (ev_x1 HE.out)
                    have HB := Lib.hid (HB.out.trans (HO.out.below (N := w.heap.size) HB.out.size (by simp; omega)))
                    have HWc := Lib.hid (show Wf5 ((c1, c2, c3, c4), bi) from ⟨⟨(show (Lit.int .i64 c1).wf = true from WalkArith.wf_i64 (by omega)), (show (Lit.int .i64 c2).wf = true from WalkArith.wf_i64 (by omega)), (show (Lit.int .i64 c3).wf = true from WalkArith.wf_i64 (by omega)), (show (Lit.int .i64 c4).wf = true from WalkArith.wf_i64 (by omega))⟩, HWB.out.2⟩)
                    have HNE := Lib.hid (narrow_eq HRG.out HI.out)
                    clear HE HO HI HSL HD0 HD1 HD2 HD3 m0 m1 m2 m3 m4 fz0 fz1 fz2 fz3 i1 i2 i3 i4 i5 i6
                    generalize wr = w3 at *
                    have HLb := Lib.hid HNb.out.lt
                    have HLc := Lib.hid HNc.out.lt
                    have f0 := HNb.out.c0
                    have f1 := HNb.out.c1
                    have f2 := HNb.out.c2
                    have f3 := HNb.out.c3
                    have f4 := HNb.out.c4
                    have g0 := HNc.out.c0
                    have g1 := HNc.out.c1
                    have g2 := HNc.out.c2
                    have g3 := HNc.out.c3
                    have g4 := HNc.out.c4
                    simp only [Nat.zero_add] at f0 f1 f2 f3 f4 g0 g1 g2 g3 g4
                    have HR1 := Lib.hid (fun X (h : TS X v m S L) => HRE.out X v S ((x1, x2, y1, y2), bi) h HWB.out)
                    have HR2 := Lib.hid (fun X (h : TS X v m S L) => HRE.out X v S ((c1, c2, c3, c4), bi) h HWc.out)
                    unfold bv at HR1 HR2
                    simp only at HR1 HR2
                    have hz80 := HF.out (x1, x2, y1, y2)
                    have hy80 := HF.out (c1, c2, c3, c4)
                    clear HWB HWc HRE HF
                    generalize hsS L (x1, x2, y1, y2) = Z at *
                    generalize hsS L (c1, c2, c3, c4) = Y at *
                    have HRZ := Lib.hid (show ∀ (X : World) r, RL X r Z → ∃ q c, r = .slice q Z.length c ∧ NS X q .u32 Z from fun X r h => by obtain ⟨q, c, h1, h2, -⟩ := h; exact ⟨q, c, h1, h2⟩)
                    have HRY := Lib.hid (show ∀ (X : World) r, RL X r Y → ∃ q c, r = .slice q Y.length c ∧ NS X q .u32 Y from fun X r h => by obtain ⟨q, c, h1, h2, -⟩ := h; exact ⟨q, c, h1, h2⟩)
                    generalize hzl : Z.length = zl at *
                    have HZL := Lib.hid hzl
                    clear hzl
                    generalize hyl : Y.length = yl at *
                    have HYL := Lib.hid hyl
                    clear hyl
                    go_wp2_with (first
                      | (go_at_call 34; (with_reducible refine (HR1.out _ HT.out).mono ?_); rintro e w4 ⟨⟨r, t, rfl, hr, -, -⟩, hb⟩; obtain ⟨q1, cq1, rfl, hq⟩ := HRZ.out _ _ hr; have HQ1 := Lib.hid hq; have HT4 := Lib.hid (C.bel HT.out hb); have HNc4 := Lib.hid (HNc.out.keep hb HLc.out); have HLc4 := Lib.hid HNc4.out.lt; have s0 := HNc4.out.c0; have s1 := HNc4.out.c1; have s2 := HNc4.out.c2; have s3 := HNc4.out.c3; have s4 := HNc4.out.c4; simp only [Nat.zero_add] at s0 s1 s2 s3 s4; have HB4 := Lib.hid (HB.out.trans (hb.mono HB.out.size)); clear hr hb hq)
                      | (go_at_call 34; (with_reducible refine (HR2.out _ HT4.out).mono ?_); rintro e w5 ⟨⟨r, t2, rfl, hr, -, -⟩, hb⟩; obtain ⟨q2, cq2, rfl, hq⟩ := HRY.out _ _ hr; have HQ2 := Lib.hid hq; have HQ1 := Lib.hid (HQ1.out.keep hb); have HNc5 := Lib.hid (HNc4.out.keep hb HLc4.out); have HLc5 := Lib.hid HNc5.out.lt; have HB5 := Lib.hid (HB4.out.trans (hb.mono HB4.out.size)); clear hr hb hq))
                    clear f0 f1 f2 f3 f4 g0 g1 g2 g3 g4 s0 s1 s2 s3 s4 HR1 HR2 HRZ HRY HT HT4 HB HB4 HNb HNc HNc4 HLb HLc HLc4
                    go_loopw [14, 117] (fun v14 v117 wr => ∃ (k i : Nat), i ≤ zl ∧ k ≤ yl ∧ v117 = .int .i64 i ∧ v14 = .int .i64 k ∧ Hid (Y.drop k = (Z.drop i).filter (inP L (c1, c2, c3, c4))) ∧ Hid (Below w5.heap.size w5 wr)) (fun _ i _ => zl - (intOf i).toNat)
                    case atStart => exact ⟨0, 0, Nat.zero_le _, Nat.zero_le _, rfl, rfl, Lib.hid (by rw [List.drop_zero, List.drop_zero]; exact HNE.out), Lib.hid (Below.refl _ _)⟩
                    case round =>
                      clear HNE
                      obtain ⟨k, i, hi, hk, rfl, rfl, HDR, HB6⟩ := hrel
                      by_cases hlt5 : i < zl
                      · have hltz5 : (i : Int) < zl := by omega
                        obtain ⟨n, hne⟩ : ∃ n, Z[i]? = some n := ⟨_, List.getElem?_eq_getElem (by have := HZL.out; omega)⟩
                        obtain ⟨st1, st2⟩ := flt_step HDR.out hne
                        have HST1 := Lib.hid st1
                        have HST2 := Lib.hid st2
                        rcases HQ1.out.keep HB6.out with h0 | ⟨bz, oz, rfl, hzc⟩
                        · rw [h0] at hne; simp at hne
                        · have cx := hzc i n hne
                          clear hne hzc st1 st2
                          go_wp2
                          clear cx
                          generalize wr = w6 at *
                          go_loopw [17, 123] (fun v17 v123 wr => ∃ j : Nat, j ≤ m ∧ v123 = .int .i64 j ∧ v17 = .bool (inP (L.take j) (c1, c2, c3, c4) n) ∧ Hid (Below w6.heap.size w6 wr)) (fun _ i _ => m - (intOf i).toNat)
                          case atStart => exact ⟨0, Nat.zero_le _, rfl, rfl, Lib.hid (Below.refl _ _)⟩
                          case round =>
                            obtain ⟨j, hj, rfl, rfl, HB7⟩ := hrel
                            by_cases hlt6 : j < m
                            · have hltz6 : (j : Int) < m := by omega
                              obtain ⟨s, hse⟩ : ∃ s, L[j]? = some s := ⟨_, List.getElem?_eq_getElem (by have := HM.out; omega)⟩
                              obtain ⟨b2, off2, e2, h5⟩ := (((HX.out.keep HB5.out).keep HB6.out).keep HB7.out).at hse
                              cases e2
                              have p0 := h5.c0
                              have p1 := h5.c1
                              have p2 := h5.c2
                              obtain ⟨W7, hW7⟩ : ∃ W7, W7 = wr.alloc (.cells (tvs s).toArray 34) := ⟨_, rfl⟩
                              have HP := Lib.hid (show T1 W7 wr.heap.size 0 s by rw [hW7]; exact T1.new wr s _)
                              have HB8 := Lib.hid (show Below w6.heap.size w6 W7 by rw [hW7]; exact HB7.out.alloc HB7.out.size _)
                              have HNc8 := Lib.hid ((HNc5.out.keep HB6.out HLc5.out).keep HB8.out (Nat.lt_of_lt_of_le HLc5.out HB6.out.size))
                              have HIS := Lib.hid (show inP (L.take (j + 1)) (c1, c2, c3, c4) n = (inP (L.take j) (c1, c2, c3, c4) n || (decide (s.2.2 = n) && hsB (c1, c2, c3, c4) s)) by rw [List.take_add_one, hse]; exact inP_snoc _ _ _ _)
                              have t0 := HP.out.c0
                              have t1 := HP.out.c1
                              have t2' := HP.out.c2
                              have s0 := HNc8.out.c0
                              have s1 := HNc8.out.c1
                              have s2 := HNc8.out.c2
                              have s3 := HNc8.out.c3
                              simp only [Nat.zero_add] at t0 t1 t2' s0 s1 s2 s3
                              clear hse h5
                              obtain ⟨px, py, id⟩ := s
                              unfold tvs at hW7
                              have HW7 := Lib.hid hW7
                              clear hW7
                              simp only at p0 p1 p2 t0 t1 t2' HIS
                              go_upto_region 37 with fail
                              rw [← HW7.out]
                              clear HW7 p0 p1 p2
                              cases hin : inP (L.take j) (c1, c2, c3, c4) n with
                              | true =>
                                have HR := Lib.hid (show inP (L.take (j + 1)) (c1, c2, c3, c4) n = true by rw [HIS.out, hin]; rfl)
                                clear hin
                                go_wp2
                                go_roundw
                                case rel => exact ⟨j + 1, by omega, by go_num, by rw [HR.out], HB8⟩
                                case measure => simp [intOf]; omega
                              | false =>
                                by_cases q1 : id = n
                                · by_cases q2 : c1 ≤ px
                                  · by_cases q3 : px ≤ c2
                                    · by_cases q4 : c3 ≤ py
                                      · by_cases q5 : py ≤ c4
                                        · have HR := Lib.hid (show inP (L.take (j + 1)) (c1, c2, c3, c4) n = true by rw [HIS.out, hin]; simp [hsB, q1, q2, q3, q4, q5])
                                          clear hin
                                          go_wp2
                                          go_roundw
                                          case rel => exact ⟨j + 1, by omega, by go_num, by rw [HR.out], HB8⟩
                                          case measure => simp [intOf]; omega
                                        · have HR := Lib.hid (show inP (L.take (j + 1)) (c1, c2, c3, c4) n = false by rw [HIS.out, hin]; simp [hsB, q5])
                                          clear hin
                                          go_wp2
                                          go_roundw
                                          case rel => exact ⟨j + 1, by omega, by go_num, by rw [HR.out], HB8⟩
                                          case measure => simp [intOf]; omega
                                      · have HR := Lib.hid (show inP (L.take (j + 1)) (c1, c2, c3, c4) n = false by rw [HIS.out, hin]; simp [hsB, q4])
                                        clear hin
                                        go_wp2
                                        go_roundw
                                        case rel => exact ⟨j + 1, by omega, by go_num, by rw [HR.out], HB8⟩
                                        case measure => simp [intOf]; omega
                                    · have HR := Lib.hid (show inP (L.take (j + 1)) (c1, c2, c3, c4) n = false by rw [HIS.out, hin]; simp [hsB, q3])
                                      clear hin
                                      go_wp2
                                      go_roundw
                                      case rel => exact ⟨j + 1, by omega, by go_num, by rw [HR.out], HB8⟩
                                      case measure => simp [intOf]; omega
                                  · have HR := Lib.hid (show inP (L.take (j + 1)) (c1, c2, c3, c4) n = false by rw [HIS.out, hin]; simp [hsB, q2])
                                    clear hin
                                    go_wp2
                                    go_roundw
                                    case rel => exact ⟨j + 1, by omega, by go_num, by rw [HR.out], HB8⟩
                                    case measure => simp [intOf]; omega
                                · have HR := Lib.hid (show inP (L.take (j + 1)) (c1, c2, c3, c4) n = false by rw [HIS.out, hin]; simp [hsB, q1])
                                  clear hin
                                  go_wp2
                                  go_roundw
                                  case rel => exact ⟨j + 1, by omega, by go_num, by rw [HR.out], HB8⟩
                                  case measure => simp [intOf]; omega
                            · obtain rfl : j = m := by omega
                              have hltz6 : ¬ (j : Int) < j := by omega
                              have HIA := Lib.hid (show inP (L.take j) (c1, c2, c3, c4) n = inP L (c1, c2, c3, c4) n by rw [List.take_of_length_le (by have := HM.out; omega)])
                              rw [HIA.out]
                              have HB9 := Lib.hid (HB6.out.trans (HB7.out.mono HB6.out.size))
                              cases hP : inP L (c1, c2, c3, c4) n with
                              | false =>
                                have HD2 := Lib.hid (HST1.out hP)
                                clear hP
                                go_wp2
                                go_roundw
                                case rel => exact ⟨k, i + 1, by omega, by omega, by go_num, by go_num, HD2, HB9⟩
                                case measure => simp [intOf]; omega
                              | true =>
                                obtain ⟨e5, e6⟩ := HST2.out hP
                                have HD2 := Lib.hid e6
                                have hky : k < yl := by have := (List.getElem?_eq_some_iff.1 e5).1; have := HYL.out; omega
                                have hkyz : (k : Int) < yl := by omega
                                have hkne : ¬ (k : Int) = yl := by omega
                                rcases (HQ2.out.keep HB9.out) with h0 | ⟨by2, oy2, rfl, hyc⟩
                                · rw [h0] at e5; simp at e5
                                · have cy := hyc k n e5
                                  clear hP e5 e6 hyc
                                  go_wp2
                                  go_roundw
                                  case rel => exact ⟨k + 1, i + 1, by omega, by omega, by go_num, by go_num, HD2, HB9⟩
                                  case measure => simp [intOf]; omega
                      · obtain rfl : i = zl := by omega
                        have hltz5 : ¬ (i : Int) < i := by omega
                        have hky : k = yl := by
                          have h := HDR.out
                          rw [List.drop_of_length_le (l := Z) (by have := HZL.out; omega), List.filter_nil] at h
                          have h2 := List.drop_eq_nil_iff.1 h
                          have := HYL.out
                          omega
                        subst hky
                        go_wp2_with (go_at_call 28; (with_reducible refine (HAW.out _).mono ?_); rintro e w90 ⟨rfl, hb⟩; have HB9 := Lib.hid (HB5.out.trans (HB6.out.mono HB5.out.size)); have HBz := Lib.hid (HB9.out.trans (hb.mono HB9.out.size)); clear hb)
                        go_ret
                        exact ⟨rfl, HBz.out⟩
  · have HRG := Lib.hid hrg
    clear hrg
    unfold bv
    simp only
    clear hx hc hw hp hb
    generalize L.length = m at *
    go_enter Tryz.func14, Tryz.ntmps14
    go_upto_region 1 with fail
    rw [HW1.out]
    go_wp2_with (first
      | (go_at_call 29; (with_reducible refine (HBU.out _ HB0.out).mono ?_); rintro e w1 ⟨hb, hor⟩; rcases hor with ⟨hn, -⟩ | ⟨-, v, S, rfl, -, -⟩; (exact absurd hn HRG.out); have HB := Lib.hid (HB0.out.trans (hb.mono HB0.out.size)); clear hb)
      | (go_at_call 28; (with_reducible refine (HAW.out _).mono ?_); rintro e w90 ⟨rfl, hb⟩; have HB := Lib.hid (HB.out.trans (hb.mono HB.out.size)); clear hb))
    go_ret
    exact ⟨rfl, HB.out⟩

set_option maxRecDepth 100000 in
set_option maxHeartbeats 12800000 in
theorem grows_walk {TS : World → Value → Nat → List Nat → List S3 → Prop} (C : CascC TS) (w : World) (p : Option Addr) (c : Nat) (L : List S3) (b : B5) (n0 n1 n2 n3 : Nat) (hx : TsS w p L) (hc : L.length ≤ c) (hp : p = none → c = 0) (hw : ∀ s ∈ L, Wf3 s) (hb : Wf5 b) (hn0 : n0 ≤ 255) (hn1 : n1 ≤ 255) (hn2 : n2 ≤ 255) (hn3 : n3 ≤ 255) :
    Calls Tryz.prog 14 #[.slice p L.length c, bv b, .agg #[.int .u8 n0, .int .u8 n1, .int .u8 n2, .int .u8 n3]] w fun e w' => e = .returned (.bool true) ∧ Below w.heap.size w w' := by
  have HAW := Lib.hid (awake_any C)
  obtain ⟨⟨x1, x2, y1, y2⟩, bi⟩ := b
  obtain ⟨W, hW⟩ : ∃ W, W = (w.alloc (.cells (bvs ((x1, x2, y1, y2), bi)).toArray 42)).alloc (.cells #[.int .u8 n0, .int .u8 n1, .int .u8 n2, .int .u8 n3] 64) := ⟨_, rfl⟩
  have HNb := Lib.hid (show X1 W w.heap.size 0 ((x1, x2, y1, y2), bi) by rw [hW]; exact (X1.new w _ _).keep ((Below.refl _ _).alloc (Nat.le_refl _) _) (by simp))
  have HB0 := Lib.hid (show Below w.heap.size w W by rw [hW]; exact ((Below.refl _ w).alloc (Nat.le_refl _) _).alloc (by simp) _)
  have HW1 := Lib.hid (show (w.alloc (.cells #[.int .i64 x1, .int .i64 x2, .int .i64 y1, .int .i64 y2, .int .u32 bi] 42)).alloc (.cells #[.int .u8 n0, .int .u8 n1, .int .u8 n2, .int .u8 n3] 64) = W from hW.symm)
  have a0 := HNb.out.c0
  have a1 := HNb.out.c1
  have a2 := HNb.out.c2
  have a3 := HNb.out.c3
  simp only [Nat.zero_add] at a0 a1 a2 a3
  clear hW
  by_cases hbig : L.length ≤ 100
  · have hbz : ¬ (100 : Int) < L.length := by omega
    by_cases h1 : x1 ≤ x2
    · have h1e : ¬ x2 < x1 := by omega
      by_cases h2 : y1 ≤ y2
      · exact grows_main C w p c L x1 x2 y1 y2 bi n0 n1 n2 n3 hx hc hp hw hb hn0 hn1 hn2 hn3 hbig h1 h2
      · have h2e : y2 < y1 := by omega
        unfold bv
        simp only
        clear hx hc hp hw hb hbig h1 h2
        generalize L.length = m at *
        go_enter Tryz.func14, Tryz.ntmps14
        go_upto_region 1 with fail
        rw [HW1.out]
        go_wp2_with (go_at_call 28; (with_reducible refine (HAW.out _).mono ?_); rintro e w90 ⟨rfl, hb⟩; have HB := Lib.hid (HB0.out.trans (hb.mono HB0.out.size)); clear hb)
        go_ret
        exact ⟨rfl, HB.out⟩
    · have h1e : x2 < x1 := by omega
      unfold bv
      simp only
      clear hx hc hp hw hb hbig h1
      generalize L.length = m at *
      go_enter Tryz.func14, Tryz.ntmps14
      go_upto_region 1 with fail
      rw [HW1.out]
      go_wp2_with (go_at_call 28; (with_reducible refine (HAW.out _).mono ?_); rintro e w90 ⟨rfl, hb⟩; have HB := Lib.hid (HB0.out.trans (hb.mono HB0.out.size)); clear hb)
      go_ret
      exact ⟨rfl, HB.out⟩
  · have hbz : (100 : Int) < L.length := by omega
    unfold bv
    simp only
    clear hx hc hp hw hb hbig
    generalize L.length = m at *
    go_enter Tryz.func14, Tryz.ntmps14
    go_upto_region 1 with fail
    rw [HW1.out]
    go_wp2_with (go_at_call 28; (with_reducible refine (HAW.out _).mono ?_); rintro e w90 ⟨rfl, hb⟩; have HB := Lib.hid (HB0.out.trans (hb.mono HB0.out.size)); clear hb)
    go_ret
    exact ⟨rfl, HB.out⟩
end Go.Proofs.YtfcpfffgodljeaaGreat.Ca
