/-
  IvlWide: what meets a part of a wider part is told of the wider one too, in the same order; over any tree of spans by their middles.
-/
import Derived.Test.YtgcimicbbadapaaIx
namespace Go.Proofs.Ytgcimicbbadapaa.Iv
open Go.ChangeShapes Go.WideShapes Go.ChangeAt Go.RowKit Go.Joins

theorem mtS_rise {A : List S3} (hA : Rg A) (lo hi : Int) : (mtS A lo hi).Pairwise (· < ·) := by
  have h1 := nsort_sorted (mtL A lo hi)
  have h2 : (nsort (mtL A lo hi)).Nodup := by
    rw [(nsort_perm _).nodup_iff]
    unfold mtL
    split
    · exact hA.2.sublist (List.filter_sublist.map _)
    · exact List.nodup_nil
  unfold mtS
  exact (h1.and h2).imp (fun {a b} h => by have := h.1; have := h.2; omega)
theorem sub_rise : ∀ (W N : List Int), W.Pairwise (· < ·) → N.Pairwise (· < ·) → (∀ x ∈ N, x ∈ W) → N.Sublist W := by
  intro W
  induction W with
  | nil =>
    intro N _ _ h
    cases N with
    | nil => exact List.Sublist.refl _
    | cons n N => exact absurd (h n List.mem_cons_self) (by simp)
  | cons v W ih =>
    intro N hW hN h
    rw [List.pairwise_cons] at hW
    cases N with
    | nil => exact List.nil_sublist _
    | cons n N =>
      have hN' := List.pairwise_cons.1 hN
      by_cases e : n = v
      · subst e
        exact List.Sublist.cons_cons _ (ih N hW.2 hN'.2 (fun x hx => by
          rcases List.mem_cons.1 (h x (List.mem_cons_of_mem _ hx)) with g | g
          · have := hN'.1 x hx; omega
          · exact g))
      · refine List.Sublist.cons _ (ih (n :: N) hW.2 hN (fun x hx => ?_))
        have hn : n ∈ W := by
          rcases List.mem_cons.1 (h n List.mem_cons_self) with g | g
          · exact absurd g e
          · exact g
        have hvn := hW.1 n hn
        rcases List.mem_cons.1 (h x hx) with g | g
        · rcases List.mem_cons.1 hx with k | k
          · omega
          · have := hN'.1 x k; omega
        · exact g
theorem mem_mtS {A : List S3} {lo hi x : Int} : x ∈ mtS A lo hi ↔ lo ≤ hi ∧ ∃ s ∈ A, mtB lo hi s = true ∧ s.2.2 = x := by
  unfold mtS
  rw [(nsort_perm _).mem_iff]
  unfold mtL
  split
  · rename_i h
    rw [List.mem_map]
    constructor
    · rintro ⟨s, hs, e⟩
      exact ⟨h, s, (List.mem_filter.1 hs).1, (List.mem_filter.1 hs).2, e⟩
    · rintro ⟨-, s, h1, h2, e⟩
      exact ⟨s, List.mem_filter.2 ⟨h1, h2⟩, e⟩
  · rename_i h
    exact ⟨fun g => by simp at g, fun g => absurd g.1 h⟩
theorem mtS_sub {A : List S3} (hA : Rg A) {a b lo hi : Int} (h1 : lo ≤ a) (h2 : b ≤ hi) : (mtS A a b).Sublist (mtS A lo hi) := by
  refine sub_rise _ _ (mtS_rise hA lo hi) (mtS_rise hA a b) (fun x hx => ?_)
  obtain ⟨h, s, hs, hm, e⟩ := mem_mtS.1 hx
  refine mem_mtS.2 ⟨by omega, s, hs, ?_, e⟩
  unfold mtB at hm ⊢
  simp only [Bool.and_eq_true, decide_eq_true_eq] at hm ⊢
  omega
theorem mtS_all {A : List S3} (hw : ∀ s ∈ A, -9223372036854775808 ≤ s.2.1 ∧ s.1 ≤ 9223372036854775807) : (mtS A (-9223372036854775808) 9223372036854775807).length = A.length := by
  unfold mtS mtL
  rw [nsort_len, if_pos (by decide), List.length_map, List.filter_eq_self.2]
  intro s hs
  have := hw s hs
  unfold mtB
  simp only [Bool.and_eq_true, decide_eq_true_eq]
  omega
/-- the next of N is the next of W, or it is not -/
theorem drop_step {N W : List Int} {k i : Nat} {x : Int} (h : (N.drop k).Sublist (W.drop i)) (hx : W[i]? = some x) : (∀ y, N[k]? = some y → y = x → (N.drop (k + 1)).Sublist (W.drop (i + 1))) ∧ ((∀ y, N[k]? = some y → y ≠ x) → (N.drop k).Sublist (W.drop (i + 1))) := by
  obtain ⟨hi, e⟩ := List.getElem?_eq_some_iff.1 hx
  rw [List.drop_eq_getElem_cons hi, e] at h
  constructor
  · rintro y hy rfl
    obtain ⟨hk, e2⟩ := List.getElem?_eq_some_iff.1 hy
    rw [List.drop_eq_getElem_cons hk, e2] at h
    exact List.cons_sublist_cons.1 h
  · intro hne
    cases hN : N.drop k with
    | nil => exact List.nil_sublist _
    | cons y N' =>
      rw [hN] at h
      have hy : N[k]? = some y := by
        have : (N.drop k)[0]? = some y := by rw [hN]; rfl
        rw [List.getElem?_drop] at this
        simpa using this
      cases h with
      | cons _ h => exact h
      | cons_cons _ h => exact absurd rfl (hne _ hy)
theorem min4 (a b c d : Int) : ∃ lo, lo ≤ min a b ∧ ∀ (X : World) ty, (Builtin.min_ #[2, 2, 2, 2] ty #[.int .i64 a, .int .i64 b, .int .i64 c, .int .i64 d]).run Try.prog X = .ok (.int .i64 lo) X := by
  refine ⟨if d < (if c < (if b < a then b else a) then c else (if b < a then b else a)) then d else (if c < (if b < a then b else a) then c else (if b < a then b else a)), ?_, fun X ty => ?_⟩
  · split <;> split <;> split <;> omega
  · simp [Builtin.min_, Builtin.min2, go_sem]
theorem max4 (a b c d : Int) : ∃ hi, max a b ≤ hi ∧ ∀ (X : World) ty, (Builtin.max_ #[2, 2, 2, 2] ty #[.int .i64 a, .int .i64 b, .int .i64 c, .int .i64 d]).run Try.prog X = .ok (.int .i64 hi) X := by
  refine ⟨if d > (if c > (if b > a then b else a) then c else (if b > a then b else a)) then d else (if c > (if b > a then b else a) then c else (if b > a then b else a)), ?_, fun X ty => ?_⟩
  · split <;> split <;> split <;> omega
  · simp [Builtin.max_, Builtin.max2, go_sem]

set_option maxRecDepth 100000 in
set_option maxHeartbeats 6400000 in
theorem wide_walk {TS : World → Value → Nat → List Nat → List S3 → Prop} (C : IvlC TS) (w : World) (p : Option Addr) (c : Nat) (L : List S3) (x1 x2 x3 x4 : Int) (hx : TsS w p L) (hc : L.length ≤ c) (hw : ∀ s ∈ L, Wf3 s) :
    Calls Try.prog 9 #[.slice p L.length c, .int .i64 x1, .int .i64 x2, .int .i64 x3, .int .i64 x4] w fun e w' => e = .returned (.bool true) ∧ Below w.heap.size w w' := by
  have HAW := Lib.hid (awake_any C)
  by_cases hbig : L.length ≤ 80
  · have hbz : ¬ (80 : Int) < L.length := by omega
    have HBU := Lib.hid (C.build w p c L hx (by omega) hc hw)
    by_cases hrg : Rg L
    · obtain ⟨lo, hlo, hmin4⟩ := min4 x1 x2 x3 x4
      obtain ⟨hi, hhi, hmax4⟩ := max4 x1 x2 x3 x4
      have hmn := fun X ty => minII X ty x1 x2
      have hmx := fun X ty => maxII X ty x1 x2
      have HSUB := Lib.hid (mtS_sub hrg (a := min x1 x2) (b := max x1 x2) (lo := lo) (hi := hi) hlo hhi)
      have hall : (mtS L (-9223372036854775808) 9223372036854775807).length = L.length := mtS_all (fun s hs => by
        have h1 := (hw s hs).1
        have h2 := (hw s hs).2.1
        have r1 : -9223372036854775808 ≤ s.1 ∧ s.1 ≤ 9223372036854775807 := by simpa [Lit.wf, show IntKind.i64.min = -9223372036854775808 from rfl, show IntKind.i64.max = 9223372036854775807 from rfl] using h1
        have r2 : -9223372036854775808 ≤ s.2.1 ∧ s.2.1 ≤ 9223372036854775807 := by simpa [Lit.wf, show IntKind.i64.min = -9223372036854775808 from rfl, show IntKind.i64.max = 9223372036854775807 from rfl] using h2
        omega)
      have hwl := mtS_len L lo hi
      generalize min x1 x2 = a1 at *
      generalize max x1 x2 = a2 at *
      have HM1 := Lib.hid (fun X v n S h => C.meet (X := X) (v := v) (n := n) (S := S) (A := L) lo hi h)
      have HM2 := Lib.hid (fun X v n S h => C.meet (X := X) (v := v) (n := n) (S := S) (A := L) a1 a2 h)
      have HM3 := Lib.hid (fun X v n S h => C.meet (X := X) (v := v) (n := n) (S := S) (A := L) (-9223372036854775808) 9223372036854775807 h)
      have HRG := Lib.hid hrg
      generalize mtS L lo hi = W at *
      generalize mtS L a1 a2 = N at *
      generalize mtS L (-9223372036854775808) 9223372036854775807 = Q at *
      rw [hall] at HM3
      obtain ⟨m, hm⟩ : ∃ m, m = L.length := ⟨_, rfl⟩
      rw [← hm] at HBU HM3 hbz hwl hbig ⊢
      obtain ⟨wl, hwle⟩ : ∃ wl, wl = W.length := ⟨_, rfl⟩
      obtain ⟨nl, hnle⟩ : ∃ nl, nl = N.length := ⟨_, rfl⟩
      have HWL := Lib.hid hwle
      have HNL := Lib.hid hnle
      rw [← hwle] at HM1 hwl
      rw [← hnle] at HM2
      have hnw : nl ≤ wl := by rw [hnle, hwle]; exact HSUB.out.length_le
      clear hx hc hw hrg hall hm hwle hnle hlo hhi
      have HRU := Lib.hid (show ∀ (X : World) r l (Y : List Int), TL X r l Y → ∃ q c, r = .slice q l c ∧ NS X q .u32 Y from fun X r l Y h => by
        obtain ⟨-, q, c, e, h2, -⟩ := h.u
        exact ⟨q, c, e, h2⟩)
      go_enter Try.func9, Try.ntmps9
      go_upto_region 12 with (first
        | (go_at_call 23; (with_reducible refine HBU.out.mono ?_); rintro e w1 ⟨hb, hor⟩; rcases hor with ⟨-, v1, S1, rfl, hT, -⟩ | ⟨hn, -⟩; rotate_left; (exact absurd HRG.out hn); have HT := Lib.hid hT; have HB := Lib.hid hb; clear hb hT)
        | (go_at_call 24; (with_reducible refine (HM1.out _ _ _ _ HT.out).mono ?_); rintro e w5 ⟨⟨r, t, rfl, hr, -, -⟩, hb⟩; obtain ⟨q1, c1, rfl, hq⟩ := HRU.out _ _ _ _ hr; have HQ1 := Lib.hid hq; have HT := Lib.hid (C.bel HT.out hb); have HB := Lib.hid (HB.out.trans (hb.mono HB.out.size)); clear hr hb hq)
        | (go_at_call 24; (with_reducible refine (HM2.out _ _ _ _ HT.out).mono ?_); rintro e w6 ⟨⟨r, t2, rfl, hr, -, -⟩, hb⟩; obtain ⟨q2, c2, rfl, hq⟩ := HRU.out _ _ _ _ hr; have HQ2 := Lib.hid hq; have HQ1 := Lib.hid (HQ1.out.keep hb); have HT := Lib.hid (C.bel HT.out hb); have HB := Lib.hid (HB.out.trans (hb.mono HB.out.size)); clear hr hb hq)
        | (go_at_call 24; (with_reducible refine (HM3.out _ _ _ _ HT.out).mono ?_); rintro e w7 ⟨⟨r, t3, rfl, hr, -, -⟩, hb⟩; obtain ⟨q3, c3, rfl, hq⟩ := HRU.out _ _ _ _ hr; have HQ1 := Lib.hid (HQ1.out.keep hb); have HQ2 := Lib.hid (HQ2.out.keep hb); have HB := Lib.hid (HB.out.trans (hb.mono HB.out.size)); clear hr hb hq))
      clear hmin4 hmax4 hmn hmx HM1 HM2 HM3 HT HBU
      go_loopw [21, 71] (fun v21 v71 wr => ∃ (k i : Nat), i ≤ wl ∧ k ≤ nl ∧ v71 = .int .i64 i ∧ v21 = .int .i64 k ∧ Hid ((N.drop k).Sublist (W.drop i)) ∧ Hid (Below w7.heap.size w7 wr)) (fun _ v71 _ => wl - (intOf v71).toNat)
      case atStart => exact ⟨0, 0, Nat.zero_le _, Nat.zero_le _, rfl, rfl, HSUB, Lib.hid (Below.refl _ _)⟩
      case round =>
        obtain ⟨k, i, hi1, hk1, rfl, rfl, HD, HB2⟩ := hrel
        by_cases hlt : i < wl
        · have hltz : (i : Int) < wl := by omega
          obtain ⟨x, hxe⟩ : ∃ x, W[i]? = some x := ⟨_, List.getElem?_eq_getElem (by have := HWL.out; omega)⟩
          obtain ⟨d1, d2⟩ := drop_step HD.out hxe
          have HD1 := Lib.hid d1
          have HD2 := Lib.hid d2
          rcases HQ1.out.keep HB2.out with h0 | ⟨bw, ow, rfl, hwc⟩
          · rw [h0] at hxe; simp at hxe
          · have cx := hwc i x hxe
            by_cases hkn : k < nl
            · have hknz : (k : Int) < nl := by omega
              obtain ⟨y, hye⟩ : ∃ y, N[k]? = some y := ⟨_, List.getElem?_eq_getElem (by have := HNL.out; omega)⟩
              rcases HQ2.out.keep HB2.out with h0 | ⟨bn, on, rfl, hnc⟩
              · rw [h0] at hye; simp at hye
              · have cy := hnc k y hye
                have HYE := Lib.hid hye
                clear hxe hwc hye hnc d1 d2
                by_cases hxy : y = x
                · have HS := Lib.hid (HD1.out y HYE.out hxy)
                  go_wp2
                  go_roundw
                  case rel => exact ⟨k + 1, i + 1, by omega, by omega, by go_num, by go_num, HS, HB2⟩
                  case measure => simp [intOf]; omega
                · have HS := Lib.hid (HD2.out (fun z hz => by rw [HYE.out] at hz; cases hz; exact hxy))
                  go_wp2
                  go_roundw
                  case rel => exact ⟨k, i + 1, by omega, by omega, by go_num, by go_num, HS, HB2⟩
                  case measure => simp [intOf]; omega
            · have hknz : ¬ (k : Int) < nl := by omega
              have HS := Lib.hid (HD2.out (fun z hz => by have := (List.getElem?_eq_some_iff.1 hz).1; have := HNL.out; omega))
              clear hxe hwc d1 d2
              go_wp2
              go_roundw
              case rel => exact ⟨k, i + 1, by omega, by omega, by go_num, by go_num, HS, HB2⟩
              case measure => simp [intOf]; omega
        · obtain rfl : i = wl := by omega
          have hltz : ¬ (i : Int) < i := by omega
          have hkN : k = nl := by
            have h := HD.out
            rw [List.drop_of_length_le (l := W) (by have := HWL.out; omega)] at h
            have h2 := List.drop_eq_nil_iff.1 (List.sublist_nil.1 h)
            have := HNL.out
            omega
          subst hkN
          have hle : (i : Int) ≤ (m : Int) := by omega
          go_wp2_with (go_at_call 22; (with_reducible refine (HAW.out _).mono ?_); rintro e w9 ⟨rfl, hb⟩; have HB3 := Lib.hid ((HB.out.trans (HB2.out.mono HB.out.size)).trans (hb.mono (HB.out.trans (HB2.out.mono HB.out.size)).size)); clear hb)
          go_ret
          exact ⟨rfl, HB3.out⟩
    · have HRG := Lib.hid hrg
      generalize L.length = m at *
      clear hx hc hw hrg
      go_enter Try.func9, Try.ntmps9
      go_wp2_with (first
        | (go_at_call 23; (with_reducible refine HBU.out.mono ?_); rintro e w1 ⟨hb, hor⟩; rcases hor with ⟨hn, -⟩ | ⟨-, rfl⟩; (exact absurd hn HRG.out); have HB := Lib.hid hb; clear hb)
        | (go_at_call 22; (with_reducible refine (HAW.out _).mono ?_); rintro e w9 ⟨rfl, hb⟩; have HB := Lib.hid (HB.out.trans (hb.mono HB.out.size)); clear hb))
      go_ret
      exact ⟨rfl, HB.out⟩
  · have hbz : (80 : Int) < L.length := by omega
    clear hx hc hw hbig
    generalize L.length = m at *
    go_enter Try.func9, Try.ntmps9
    go_wp2_with (go_at_call 22; (with_reducible refine (HAW.out _).mono ?_); rintro e w9 ⟨rfl, hb⟩; have HB := Lib.hid hb; clear hb)
    go_ret
    exact ⟨rfl, HB.out⟩
end Go.Proofs.Ytgcimicbbadapaa.Iv
