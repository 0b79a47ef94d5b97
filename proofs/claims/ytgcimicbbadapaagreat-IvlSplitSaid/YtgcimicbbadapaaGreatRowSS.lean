/-
  IvlSplit, out of its walk.
-/
import Derived.Test.YtgcimicbbadapaaGreatIx
import Derived.Test.YtgcimicbbadapaaGreatSq
import Derived.Test.YtgcimicbbadapaaGreatIr
namespace Go.Proofs.YtgcimicbbadapaaGreat.Iv
open Go.RowKit

theorem mtS_up {A : List S3} (hA : Rg A) (lo hi : Int) : (mtS A lo hi).Pairwise (· < ·) := by
  have h1 := nsort_sorted (mtL A lo hi)
  have h2 : (nsort (mtL A lo hi)).Nodup := by
    rw [(nsort_perm _).nodup_iff]
    unfold mtL
    split
    · exact hA.2.sublist (List.filter_sublist.map _)
    · exact List.nodup_nil
  unfold mtS
  exact (h1.and h2).imp (fun {a b} h => by have := h.1; have := h.2; omega)
/-- begins behind lo, up to hi -/
def bgB (lo hi : Int) (s : S3) : Bool := decide (lo < s.1) && decide (s.1 ≤ hi)
def bgL (L : List S3) (lo hi : Int) : List Int := (L.filter (bgB lo hi)).map (·.2.2)
theorem bgL_snoc (L : List S3) (s : S3) (lo hi : Int) : bgL (L ++ [s]) lo hi = bgL L lo hi ++ (if bgB lo hi s then [s.2.2] else []) := by
  unfold bgL
  rw [List.filter_append]
  by_cases h : bgB lo hi s = true <;> simp [h]
theorem filter_or {α : Type} (p q r : α → Bool) : ∀ (L : List α), (∀ s ∈ L, p s = (q s || r s) ∧ ¬ (q s = true ∧ r s = true)) → (L.filter q ++ L.filter r).Perm (L.filter p) := by
  intro L
  induction L with
  | nil => intro _; exact List.Perm.refl _
  | cons a L ih =>
    intro h
    have ih := ih (fun s hs => h s (List.mem_cons_of_mem _ hs))
    obtain ⟨h1, h2⟩ := h a List.mem_cons_self
    cases hq : q a with
    | false =>
      cases hr : r a with
      | false =>
        rw [hq, hr] at h1
        simp only [List.filter_cons, hq, hr, h1, Bool.or_self, Bool.false_eq_true, if_false]
        exact ih
      | true =>
        rw [hq, hr] at h1
        simp only [List.filter_cons, hq, hr, h1, Bool.false_or, Bool.false_eq_true, if_false, if_true]
        exact List.perm_middle.trans (ih.cons a)
    | true =>
      cases hr : r a with
      | false =>
        rw [hq, hr] at h1
        simp only [List.filter_cons, hq, hr, h1, Bool.or_false, Bool.false_eq_true, if_false, if_true, List.cons_append]
        exact ih.cons a
      | true => exact absurd ⟨hq, hr⟩ h2
theorem split_perm {L : List S3} (hr : Rg L) {lo hi : Int} (h : lo ≤ hi) : (stb L lo ++ bgL L lo hi).Perm (mtS L lo hi) := by
  have h1 : (L.filter (stbB lo) ++ L.filter (bgB lo hi)).Perm (L.filter (mtB lo hi)) := filter_or _ _ _ L (fun s hs => by
    have h2 := hr.1 s hs
    unfold mtB stbB bgB
    refine ⟨?_, fun ⟨a, b⟩ => ?_⟩
    · rw [Bool.eq_iff_iff]
      simp only [Bool.and_eq_true, Bool.or_eq_true, decide_eq_true_eq]
      omega
    · simp only [Bool.and_eq_true, decide_eq_true_eq] at a b
      omega)
  have h2 := h1.map (fun s : S3 => s.2.2)
  rw [List.map_append] at h2
  unfold mtS stb mtL
  rw [if_pos h]
  refine List.Perm.trans ?_ (nsort_perm _).symm
  exact ((nsort_perm _).append (List.Perm.refl _)).trans h2
theorem mtS_one (L : List S3) (lo : Int) : mtS L lo lo = stb L lo := by
  unfold mtS stb mtL
  rw [if_pos (Int.le_refl _)]
  congr 1
theorem mtS_not {L : List S3} {lo hi : Int} (h : ¬ lo ≤ hi) : mtS L lo hi = [] := by
  unfold mtS mtL
  rw [if_neg h]
  rfl
/-- each name once -/
theorem split_once {L : List S3} (hr : Rg L) {lo hi : Int} (h : lo ≤ hi) : (stb L lo ++ bgL L lo hi).Nodup := by
  rw [(split_perm hr h).nodup_iff]
  exact (mtS_up hr lo hi).imp (fun {a b} h e => by omega)
end Go.Proofs.YtgcimicbbadapaaGreat.Iv

namespace Go.Proofs.YtgcimicbbadapaaGreat.Iv
open Go.ChangeShapes Go.WideShapes Go.ChangeAt Go.RowKit Go.Joins

/-- each of these names, with a one -/
def ones (l : List Int) : List (Int × Value) := l.map (fun n => (n, .int .i64 1))
theorem ones_len (l : List Int) : (ones l).length = l.length := by simp [ones]
theorem ones_more {w : World} {b : Nat} {l : List Int} {n : Int} (h : MP Tryz.prog 32 w b (ones l)) (hn : (l ++ [n]).Nodup) (hw : (Lit.int .u32 n).wf = true) (hl : l.length ≤ 8192) :
    (Instr.lookup 50 (.map (some b)) (.int .u32 n) false).run Tryz.prog w = .ok (.int .i64 0) w ∧
    ∃ w', (Instr.mapUpdate 50 (.map (some b)) (.int .u32 n) (.int .i64 1)).run Tryz.prog w = .ok () w' ∧ MP Tryz.prog 32 w' b (ones (l ++ [n])) ∧ Off [b] w w' := by
  have hne : ∀ p ∈ ones l, p.1 ≠ n := by
    intro p hp e
    obtain ⟨m, hm, rfl⟩ := List.mem_map.1 hp
    exact (List.nodup_append.1 hn).2.2 m hm n (by simp) e
  refine ⟨h.miss Tryz.underlying50 Tryz.underlying32 hw hne (zeroI3 w) false, ?_⟩
  obtain ⟨w', h1, h2, h3⟩ := h.store Tryz.underlying50 Tryz.underlying32 (by rw [ones_len]; simp [maxLen]; omega) (.int .i64 1) hw
  refine ⟨w', h1, ?_, h3⟩
  rw [List.filter_eq_self.2 (fun q hq => by simpa using hne q hq)] at h2
  have e : ones (l ++ [n]) = ones l ++ [(n, .int .i64 1)] := by simp [ones]
  rw [e]
  exact h2
theorem ones_look {w : World} {b : Nat} {l : List Int} {n : Int} (h : MP Tryz.prog 32 w b (ones l)) (hw : (Lit.int .u32 n).wf = true) (hm : n ∈ l) :
    (Instr.lookup 50 (.map (some b)) (.int .u32 n) false).run Tryz.prog w = .ok (.int .i64 1) w :=
  h.look Tryz.underlying50 Tryz.underlying32 hw (List.mem_map.2 ⟨n, hm, rfl⟩) (zeroI3 w) false
theorem stb_wf {L : List S3} (hw : ∀ s ∈ L, Wf3 s) {x n : Int} (h : n ∈ stb L x) : (Lit.int .u32 n).wf = true := by
  obtain ⟨s, hs, rfl⟩ := List.mem_map.1 ((nsort_perm _).mem_iff.1 h)
  exact (hw s (List.mem_filter.1 hs).1).2.2
theorem mtS_wf {L : List S3} (hw : ∀ s ∈ L, Wf3 s) {lo hi n : Int} (h : n ∈ mtS L lo hi) : (Lit.int .u32 n).wf = true := by
  have h := (nsort_perm _).mem_iff.1 h
  unfold mtL at h
  split at h
  · obtain ⟨s, hs, rfl⟩ := List.mem_map.1 h
    exact (hw s (List.mem_filter.1 hs).1).2.2
  · simp at h
theorem bgL_len (L : List S3) (lo hi : Int) : (bgL L lo hi).length ≤ L.length := by
  unfold bgL
  rw [List.length_map]
  exact List.length_filter_le _ _
theorem bgL_sub (L : List S3) (lo hi : Int) (k : Nat) : (bgL (L.take k) lo hi).Sublist (bgL L lo hi) := ((List.take_sublist k L).filter _).map _

set_option maxRecDepth 100000 in
set_option maxHeartbeats 6400000 in
theorem split_walk {TS : World → Value → Nat → List Nat → List S3 → Prop} (C : IvlC TS) (w : World) (p : Option Addr) (c : Nat) (L : List S3) (lo hi : Int) (hx : TsS w p L) (hc : L.length ≤ c) (hw : ∀ s ∈ L, Wf3 s) :
    Calls Tryz.prog 5 #[.slice p L.length c, .int .i64 lo, .int .i64 hi] w fun e w' => e = .returned (.bool true) ∧ Below w.heap.size w w' := by
  have HAW := Lib.hid (awake_any C)
  by_cases hbig : L.length ≤ 80
  · have hbz : ¬ (80 : Int) < L.length := by omega
    have HBU := Lib.hid (C.build w p c L hx (by omega) hc hw)
    have HSB := Lib.hid (fun X (hb : Below w.heap.size w X) => sbuild_any X p c L (hx.keep hb) (by omega) hw)
    have HX := Lib.hid hx
    have HWF := Lib.hid hw
    by_cases hrg : Rg L
    · have HRG := Lib.hid hrg
      have HM1 := Lib.hid (fun X v n S h => C.meet (X := X) (v := v) (n := n) (S := S) (A := L) lo hi h)
      have hM2 := fun X v n S h => C.meet (X := X) (v := v) (n := n) (S := S) (A := L) lo lo h
      rw [mtS_one] at hM2
      have HM2 := Lib.hid hM2
      have HS1 := Lib.hid (fun X v n S h => C.stab (X := X) (v := v) (n := n) (S := S) (A := L) lo h)
      have HS2 := Lib.hid (fun X v (h : TSg X v L.length L) => sstab_any h (Nat.le_refl _) lo)
      have hyl8 : (stb L lo).length ≤ 80 := Nat.le_trans (stb_len L lo) hbig
      have hzl8 : (mtS L lo hi).length ≤ 80 := Nat.le_trans (mtS_len L lo hi) hbig
      have HI : Hid (∀ X q1 c1 q2 c2, NS X q1 .u32 (stb L lo) → NS X q2 .u32 (stb L lo) → Calls Tryz.prog 20 #[.slice q1 (stb L lo).length c1, .slice q2 (stb L lo).length c2] X fun e w' => e = .returned (.bool true) ∧ Below X.heap.size X w') := Lib.hid (fun X q1 c1 q2 c2 h1 h2 => by
        refine (sameIDs_any X q1 q2 c1 c2 _ _ h1 h2 (by omega)).mono ?_
        rintro e w' ⟨rfl, hb⟩
        exact ⟨by simp, hb⟩)
      have HUP := Lib.hid (mtS_up hrg lo hi)
      have HNO := Lib.hid (fun h => mtS_not (L := L) (lo := lo) (hi := hi) h)
      have HPM := Lib.hid (fun h => split_perm (L := L) hrg (lo := lo) (hi := hi) h)
      have HON := Lib.hid (fun h => split_once (L := L) hrg (lo := lo) (hi := hi) h)
      have HYW := Lib.hid (fun n (h : n ∈ stb L lo) => stb_wf hw h)
      have HZW := Lib.hid (fun n (h : n ∈ mtS L lo hi) => mtS_wf hw h)
      obtain ⟨m, hm⟩ : ∃ m, m = L.length := ⟨_, rfl⟩
      have HML := Lib.hid hm
      rw [← hm] at HBU HSB HS2 hbz hbig ⊢
      clear hM2 hrg hx hc hw hm
      generalize stb L lo = Y at *
      generalize hyl : Y.length = yl at *
      have HYL := Lib.hid hyl
      clear hyl
      generalize mtS L lo hi = Z at *
      generalize hzl : Z.length = zl at *
      have HZL := Lib.hid hzl
      clear hzl
      have HRU := Lib.hid (show ∀ (X : World) r l (Y : List Int), TL X r l Y → ∃ q c, r = .slice q l c ∧ NS X q .u32 Y from fun X r l Y h => by
        obtain ⟨-, q, c, e, h2, -⟩ := h.u
        exact ⟨q, c, e, h2⟩)
      have hmm := @run_makeMap Tryz.prog
      go_enter Tryz.func5, Tryz.ntmps5
      go_upto_region 15 with (first
        | (go_at_call 9; (with_reducible refine HBU.out.mono ?_); rintro e w1 ⟨hb, hor⟩; rcases hor with ⟨-, v1, S1, rfl, hT, -⟩ | ⟨hn, -⟩; rotate_left; (exact absurd HRG.out hn); have HT := Lib.hid hT; have HB := Lib.hid hb; clear hb hT)
        | (go_at_call 18; (with_reducible refine (HSB.out _ HB.out).mono ?_); rintro e w2 ⟨hb, hor⟩; rcases hor with ⟨-, v2, rfl, hG⟩ | ⟨hn, -⟩; rotate_left; (exact absurd HRG.out hn); have HG := Lib.hid hG; have HT := Lib.hid (C.bel HT.out hb); have HB := Lib.hid (HB.out.trans (hb.mono HB.out.size)); clear hb hG)
        | (go_at_call 17; (with_reducible refine (HM1.out _ _ _ _ HT.out).mono ?_); rintro e w5 ⟨⟨r, t, rfl, hr, -, -⟩, hb⟩; obtain ⟨q1, c1, rfl, hq⟩ := HRU.out _ _ _ _ hr; have HQ1 := Lib.hid hq; have HT := Lib.hid (C.bel HT.out hb); have HG := Lib.hid (HG.out.bel hb); have HB := Lib.hid (HB.out.trans (hb.mono HB.out.size)); clear hr hb hq)
        | (go_at_call 17; (with_reducible refine (HM2.out _ _ _ _ HT.out).mono ?_); rintro e w7 ⟨⟨r, t2, rfl, hr, -, -⟩, hb⟩; obtain ⟨q3, c3, rfl, hq⟩ := HRU.out _ _ _ _ hr; have HQ3 := Lib.hid hq; have HQ1 := Lib.hid (HQ1.out.keep hb); have HQ2 := Lib.hid (HQ2.out.keep hb); have HG := Lib.hid (HG.out.bel hb); have HB := Lib.hid (HB.out.trans (hb.mono HB.out.size)); clear hr hb hq)
        | (go_at_call 16; (with_reducible refine (HS1.out _ _ _ _ HT.out).mono ?_); rintro e w6 ⟨⟨r, t3, rfl, hr, -, -⟩, hb⟩; obtain ⟨q2, c2, rfl, hq⟩ := HRU.out _ _ _ _ hr; have HQ2 := Lib.hid hq; have HQ1 := Lib.hid (HQ1.out.keep hb); have HT := Lib.hid (C.bel HT.out hb); have HG := Lib.hid (HG.out.bel hb); have HB := Lib.hid (HB.out.trans (hb.mono HB.out.size)); clear hr hb hq)
        | (go_at_call 19; (with_reducible refine (HS2.out _ _ HG.out).mono ?_); rintro e w8 ⟨⟨r, t4, rfl, hr⟩, hb⟩; obtain ⟨q4, c4, rfl, hq⟩ := HRU.out _ _ _ _ hr; have HQ4 := Lib.hid hq; have HQ1 := Lib.hid (HQ1.out.keep hb); have HQ2 := Lib.hid (HQ2.out.keep hb); have HQ3 := Lib.hid (HQ3.out.keep hb); have HB := Lib.hid (HB.out.trans (hb.mono HB.out.size)); clear hr hb hq)
        | (go_at_call 20; (with_reducible refine (HI.out _ _ _ _ _ HQ3.out HQ2.out).mono ?_); rintro e w9 ⟨rfl, hb⟩; have HQ1 := Lib.hid (HQ1.out.keep hb); have HQ2 := Lib.hid (HQ2.out.keep hb); have HQ4 := Lib.hid (HQ4.out.keep hb); have HB := Lib.hid (HB.out.trans (hb.mono HB.out.size)); clear hb HQ3)
        | (go_at_call 20; (with_reducible refine (HI.out _ _ _ _ _ HQ4.out HQ2.out).mono ?_); rintro e w10 ⟨rfl, hb⟩; have HQ1 := Lib.hid (HQ1.out.keep hb); have HQ2 := Lib.hid (HQ2.out.keep hb); have HB := Lib.hid (HB.out.trans (hb.mono HB.out.size)); clear hb))
      have HX10 := Lib.hid (HX.out.keep HB.out)
      clear HM1 HM2 HS1 HS2 HI HBU HSB HT HG HX HQ4 HRG
      by_cases hlh : lo ≤ hi
      · have HPM := Lib.hid (HPM.out hlh)
        have HON := Lib.hid (HON.out hlh)
        clear HNO
        go_wp2
        go_loopw [88] (fun v wr => ∃ k : Nat, k ≤ yl ∧ v = .int .i64 k ∧ Hid (MP Tryz.prog 32 wr w10.heap.size (ones (Y.take k))) ∧ Hid (Below w10.heap.size w10 wr)) (fun v _ => yl - (intOf v).toNat)
        case atStart => exact ⟨0, Nat.zero_le _, rfl, Lib.hid (MP.made _ _ _), Lib.hid ((Below.refl _ w10).alloc (Nat.le_refl _) _)⟩
        case round =>
          clear hmm
          obtain ⟨k, hk, rfl, HM, HB2⟩ := hrel
          by_cases hlt : k < yl
          · have hltz : (k : Int) < yl := by omega
            obtain ⟨n, hne⟩ : ∃ n, Y[k]? = some n := ⟨_, List.getElem?_eq_getElem (by have := HYL.out; omega)⟩
            rcases HQ2.out.keep HB2.out with h0 | ⟨b, off, rfl, h1⟩
            · rw [h0] at hne; simp at hne
            · have cx := h1 k n hne
              have hwf := HYW.out n (List.mem_of_getElem? hne)
              have htk : Y.take (k + 1) = Y.take k ++ [n] := by rw [List.take_add_one, hne]; rfl
              have hnd : (Y.take k ++ [n]).Nodup := htk ▸ ((List.nodup_append.1 HON.out).1.sublist (List.take_sublist _ _))
              obtain ⟨hlook, w12, hput, hM2, hO2⟩ := ones_more HM.out hnd hwf (by rw [List.length_take]; omega)
              rw [← htk] at hM2
              have HM2 := Lib.hid hM2
              have HB3 := Lib.hid (HB2.out.trans (hO2.below HB2.out.size (by simp)))
              clear h1 hne hwf htk hnd hM2 hO2
              go_wp2_with (first
                | (at_lookup; refine wpList_lookR rfl _ _ _ _ rfl _ _ _ rfl rfl hlook ?_)
                | (at_mapUpdate; refine wpList_putR rfl _ _ _ _ rfl _ _ _ rfl rfl rfl hput ?_))
              go_roundw
              case rel => exact ⟨k + 1, by omega, by go_num, HM2, HB3⟩
              case measure => simp [intOf]; omega
          · obtain rfl : k = yl := by omega
            have hltz : ¬ (k : Int) < k := by omega
            have HM2 := Lib.hid (show MP Tryz.prog 32 wr w10.heap.size (ones (Y ++ bgL (L.take 0) lo hi)) by
              have h := HM.out
              rw [List.take_of_length_le (by have := HYL.out; omega)] at h
              simpa [bgL] using h)
            clear HM
            go_wp2
            go_loopw [99] (fun v wy => ∃ i : Nat, i ≤ m ∧ v = .int .i64 i ∧ Hid (MP Tryz.prog 32 wy w10.heap.size (ones (Y ++ bgL (L.take i) lo hi))) ∧ Hid (Below w10.heap.size w10 wy)) (fun v _ => m - (intOf v).toNat)
            case atStart => exact ⟨0, Nat.zero_le _, rfl, HM2, HB2⟩
            case round =>
              clear HM2 HB2
              obtain ⟨i, hi1, rfl, HM, HB2⟩ := hrel
              by_cases hlt2 : i < m
              · have hltz2 : (i : Int) < m := by omega
                obtain ⟨s, hse⟩ : ∃ s, L[i]? = some s := ⟨_, List.getElem?_eq_getElem (by have := HML.out; omega)⟩
                obtain ⟨b, off, rfl, h1⟩ := (HX10.out.keep HB2.out).at hse
                have n0 := h1.c0
                have n1 := h1.c1
                have n2 := h1.c2
                have hwf := (HWF.out s (List.mem_of_getElem? hse)).2.2
                have HTK := Lib.hid (show bgL (L.take (i + 1)) lo hi = bgL (L.take i) lo hi ++ (if bgB lo hi s then [s.2.2] else []) by rw [List.take_add_one, hse]; exact bgL_snoc _ _ _ _)
                clear h1 hse
                go_upto_region 25 with fail
                obtain ⟨W, hWd⟩ : ∃ W, W = wr.alloc (.cells (tvs s).toArray 34) := ⟨_, rfl⟩
                change Code.wp _ _ _ _ (wr.alloc (.cells (tvs s).toArray 34))
                rw [← hWd]
                have hT : T1 W wr.heap.size 0 s := hWd ▸ T1.new wr s _
                have HBW := Lib.hid (show Below w10.heap.size w10 W from hWd ▸ HB2.out.alloc HB2.out.size _)
                have HMW := Lib.hid (show MP Tryz.prog 32 W w10.heap.size (ones (Y ++ bgL (L.take i) lo hi)) from HM.out.keep (hWd ▸ (Below.refl _ wr).alloc (Nat.le_refl _) _))
                have m0 := hT.c0
                have m2 := hT.c2
                have hne : w10.heap.size ≠ wr.heap.size := by have := HM.out.lt; omega
                clear hWd n0 n1 n2
                by_cases hbg : bgB lo hi s = true
                · have hb1 : lo < s.1 ∧ s.1 ≤ hi := by simpa [bgB] using hbg
                  have htk : bgL (L.take (i + 1)) lo hi = bgL (L.take i) lo hi ++ [s.2.2] := by rw [HTK.out, if_pos hbg]
                  have hnd : ((Y ++ bgL (L.take i) lo hi) ++ [s.2.2]).Nodup := by
                    rw [List.append_assoc, ← htk]
                    exact HON.out.sublist (List.Sublist.append_left (bgL_sub L lo hi (i + 1)) _)
                  obtain ⟨hlook, w12, hput, hM2, hO2⟩ := ones_more HMW.out hnd hwf (by rw [List.length_append]; have := bgL_len (L.take i) lo hi; rw [List.length_take] at this; have := HYL.out; omega)
                  rw [List.append_assoc, ← htk] at hM2
                  have HM2 := Lib.hid hM2
                  have HB3 := Lib.hid (HBW.out.trans (hO2.below HBW.out.size (by simp)))
                  obtain ⟨hb2, hb3⟩ := hb1
                  clear hwf htk hnd hM2 hO2 hT hbg HTK
                  obtain ⟨slo, shi, sid⟩ := s
                  simp only [Nat.zero_add] at m0 m2 hlook hput hb2 hb3
                  go_wp2_with (first
                    | (at_lookup; refine wpList_lookR rfl _ _ _ _ rfl _ _ _ rfl rfl hlook ?_)
                    | (at_mapUpdate; refine wpList_putR rfl _ _ _ _ rfl _ _ _ rfl rfl rfl hput ?_))
                  go_roundw
                  case rel => exact ⟨i + 1, by omega, by go_num, HM2, HB3⟩
                  case measure => simp [intOf]; omega
                · have HM2 := Lib.hid (show MP Tryz.prog 32 W w10.heap.size (ones (Y ++ bgL (L.take (i + 1)) lo hi)) by rw [HTK.out, if_neg hbg, List.append_nil]; exact HMW.out)
                  have hb1 : lo < s.1 → ¬ s.1 ≤ hi := fun h1 h2 => hbg (by simp [bgB, h1, h2])
                  clear hwf hT hbg HTK
                  obtain ⟨slo, shi, sid⟩ := s
                  simp only [Nat.zero_add] at m0 m2 hb1
                  by_cases hb2 : lo < slo
                  · have hb3 := hb1 hb2
                    go_wp2
                    go_roundw
                    case rel => exact ⟨i + 1, by omega, by go_num, HM2, HBW⟩
                    case measure => simp [intOf]; omega
                  · clear hb1
                    go_wp2
                    go_roundw
                    case rel => exact ⟨i + 1, by omega, by go_num, HM2, HBW⟩
                    case measure => simp [intOf]; omega
              · obtain rfl : i = m := by omega
                have hltz2 : ¬ (i : Int) < i := by omega
                have HM3 := Lib.hid (show MP Tryz.prog 32 wr w10.heap.size (ones (Y ++ bgL L lo hi)) by
                  have h := HM.out
                  rw [List.take_of_length_le (by have := HML.out; omega)] at h
                  exact h)
                have HLN := Lib.hid (show (ones (Y ++ bgL L lo hi)).length = zl by rw [ones_len, HPM.out.length_eq, HZL.out])
                clear HM
                go_wp2
                generalize wr = wy at *
                go_loopw [121] (fun v wz => ∃ j : Nat, j ≤ zl ∧ v = .int .i64 j ∧ Hid (Below wy.heap.size wy wz)) (fun v _ => zl - (intOf v).toNat)
                case atStart => exact ⟨0, Nat.zero_le _, rfl, Lib.hid (Below.refl _ _)⟩
                case round =>
                  obtain ⟨j, hj1, rfl, HB4⟩ := hrel
                  by_cases hlt3 : j < zl
                  · have hltz3 : (j : Int) < zl := by omega
                    obtain ⟨n, hne⟩ : ∃ n, Z[j]? = some n := ⟨_, List.getElem?_eq_getElem (by have := HZL.out; omega)⟩
                    have hmz := List.mem_of_getElem? hne
                    have hlook := ones_look (HM3.out.keep HB4.out) (HZW.out n hmz) (HPM.out.mem_iff.2 hmz)
                    rcases (HQ1.out.keep HB2.out).keep HB4.out with h0 | ⟨b, off, rfl, h1⟩
                    · rw [h0] at hne; simp at hne
                    · have cx := h1 j n hne
                      by_cases hj0 : j = 0
                      · subst hj0
                        clear h1 hne hmz
                        simp only [Nat.add_zero] at cx
                        go_wp2_with (at_lookup; refine wpList_lookR rfl _ _ _ _ rfl _ _ _ rfl rfl hlook ?_)
                        go_roundw
                        case rel => exact ⟨1, by omega, by go_num, HB4⟩
                        case measure => simp [intOf]; omega
                      · obtain ⟨j', hj'⟩ : ∃ j', j = j' + 1 := ⟨j - 1, by omega⟩
                        obtain ⟨y, hye⟩ : ∃ y, Z[j']? = some y := ⟨_, List.getElem?_eq_getElem (by have := HZL.out; omega)⟩
                        have cy := h1 j' y hye
                        have hyn : y < n := by
                          obtain ⟨g1, e1⟩ := List.getElem?_eq_some_iff.1 hye
                          obtain ⟨g2, e2⟩ := List.getElem?_eq_some_iff.1 hne
                          have := List.pairwise_iff_getElem.1 HUP.out j' j g1 g2 (by omega)
                          rw [e1, e2] at this
                          exact this
                        have hjz : (0 : Int) < (j : Int) := by omega
                        have hjs : (j : Int) - 1 = (j' : Int) := by omega
                        have hjl : (j' : Int) < zl := by omega
                        have hny : ¬ n ≤ y := by omega
                        clear h1 hne hmz hye hj' hj0
                        go_wp2_with (at_lookup; refine wpList_lookR rfl _ _ _ _ rfl _ _ _ rfl rfl hlook ?_)
                        go_roundw
                        case rel => exact ⟨j + 1, by omega, by go_num, HB4⟩
                        case measure => simp [intOf]; omega
                  · obtain rfl : j = zl := by omega
                    have hltz3 : ¬ (j : Int) < j := by omega
                    have hlen := fun ty => (HM3.out.keep HB4.out).len Tryz.underlying50 ty
                    rw [HLN.out] at hlen
                    go_wp2_with (go_at_call 8; (with_reducible refine (HAW.out _).mono ?_); rintro e w20 ⟨rfl, hb⟩; have HB5 := Lib.hid (((HB.out.trans (HB2.out.mono HB.out.size)).trans (HB4.out.mono (HB.out.trans (HB2.out.mono HB.out.size)).size))); have HB6 := Lib.hid (HB5.out.trans (hb.mono HB5.out.size)); clear hb)
                    go_ret
                    exact ⟨rfl, HB6.out⟩
      · have hz0 : zl = 0 := by rw [← HZL.out, HNO.out (by omega)]; rfl
        subst hz0
        clear HPM HON
        go_wp2
        go_loopw [121] (fun v wz => v = .int .i64 0 ∧ Hid (MP Tryz.prog 32 wz w10.heap.size []) ∧ Hid (Below w10.heap.size w10 wz)) (fun _ _ => 0)
        case atStart => exact ⟨rfl, Lib.hid (MP.made _ _ _), Lib.hid ((Below.refl _ w10).alloc (Nat.le_refl _) _)⟩
        case round =>
          clear hmm
          obtain ⟨rfl, HM, HB2⟩ := hrel
          have hlen := fun ty => HM.out.len Tryz.underlying50 ty
          go_wp2_with (go_at_call 8; (with_reducible refine (HAW.out _).mono ?_); rintro e w20 ⟨rfl, hb⟩; have HB5 := Lib.hid (HB.out.trans (HB2.out.mono HB.out.size)); have HB6 := Lib.hid (HB5.out.trans (hb.mono HB5.out.size)); clear hb)
          go_ret
          exact ⟨rfl, HB6.out⟩
    · have HRG := Lib.hid hrg
      clear HX HWF
      generalize L.length = m at *
      clear hx hc hw hrg
      go_enter Tryz.func5, Tryz.ntmps5
      go_wp2_with (first
        | (go_at_call 9; (with_reducible refine HBU.out.mono ?_); rintro e w1 ⟨hb, hor⟩; rcases hor with ⟨hn, -⟩ | ⟨-, rfl⟩; (exact absurd hn HRG.out); have HB := Lib.hid hb; clear hb)
        | (go_at_call 18; (with_reducible refine (HSB.out _ HB.out).mono ?_); rintro e w2 ⟨hb, hor⟩; rcases hor with ⟨hn, -⟩ | ⟨-, rfl⟩; (exact absurd hn HRG.out); have HB := Lib.hid (HB.out.trans (hb.mono HB.out.size)); clear hb)
        | (go_at_call 8; (with_reducible refine (HAW.out _).mono ?_); rintro e w9 ⟨rfl, hb⟩; have HB := Lib.hid (HB.out.trans (hb.mono HB.out.size)); clear hb))
      go_ret
      exact ⟨rfl, HB.out⟩
  · have hbz : (80 : Int) < L.length := by omega
    clear hx hc hw hbig
    generalize L.length = m at *
    go_enter Tryz.func5, Tryz.ntmps5
    go_wp2_with (go_at_call 8; (with_reducible refine (HAW.out _).mono ?_); rintro e w9 ⟨rfl, hb⟩; have HB := Lib.hid hb; clear hb)
    go_ret
    exact ⟨rfl, HB.out⟩
end Go.Proofs.YtgcimicbbadapaaGreat.Iv

namespace Go.Proofs.YtgcimicbbadapaaGreat
open Go.ChangeShapes Go.WideShapes Go.ChangeAt Go.RowKit Go.Joins Go.Maps
set_option maxRecDepth 100000 in
theorem isplit_lifted (os : Os) (started : os.Started) (H : Type) (enc : TypeId × Value → H) :
    ReturnsInHanded {} Tryz.checked os 5 .any (Rows.ivlSplitSpec.pre6 enc Tryz.prog Tryz.f5 Rows.ivlSplitRow.domain false) (Rows.ivlSplitSpec.post enc Tryz.prog Tryz.f5 false true false false) := by
  refine returnsInHanded_of_change (C := Tryz.checked) Tryz.own started (by kernel_rfl) Tryz.func5
    (ChangeSpec.witness6 (enc := enc) (C := Tryz.checked) false ⟨#[], #[.slice none 0 0, .int .i64 0, .int .i64 0], []⟩ 8 (by kernel_rfl) (by kernel_rfl) (by kernel_rfl) (by kernel_rfl)) ?_
  intro W base args ds gs before hval0 hW hcnd _
  have hval : ∀ (j : Nat) t v, Tryz.f5.params[j]? = some t → args[j]? = some v → Value.okWide Tryz.prog W .any base t v := hval0
  have hW' := hW
  obtain ⟨p, q, hA0, hV, rfl, hfz, hnd⟩ := hW
  have hA : DataW.TrodAll enc Tryz.prog W 0 (fun _ => true) true Tryz.f5.params.toList args.toList ds p := hA0
  rw [Tryz.params5] at hA hval
  obtain ⟨v0, vs0, d0, ds0, p0, q0, hargs, rfl, rfl, h0, r0⟩ := trodAll_cons hA
  obtain ⟨v1, vs1, d1, ds1, p1, q1, rfl, rfl, rfl, h1, r1⟩ := trodAll_cons r0
  obtain ⟨v2, vs2, d2, ds2, p2, q2, rfl, rfl, rfl, h2, r2⟩ := trodAll_cons r1
  obtain ⟨rfl, rfl, rfl⟩ := trodAll_nil r2
  obtain rfl : args = #[v0, v1, v2] := by cases args; simp_all
  obtain ⟨rfl, rfl⟩ := trodVars_none hV
  obtain ⟨a0, len0, cap0, rfl⟩ := okWide_slice Tryz.underlying22 (hval 0 22 v0 rfl rfl)
  obtain ⟨xs0, rfl, hx0, hp0, hl0, hm0, hw0⟩ := open_spans h0
  obtain ⟨a1, rfl, rfl, rfl, w1⟩ := open_int Tryz.underlying2 (hval 1 2 v1 rfl rfl) h1
  obtain ⟨a2, rfl, rfl, rfl, w2⟩ := open_int Tryz.underlying2 (hval 2 2 v2 rfl rfl) h2
  clear hA0 hval0
  simp only [List.append_nil] at hW'
  have hlt : ∀ x ∈ p0, x.block < W.heap.size := fun x hx => by simpa using hW'.lt x (by simpa using hx)
  refine (Iv.split_walk Iv.ivlC W _ _ _ _ _ hx0 hl0 hw0).mono fun e W' ⟨he, hb⟩ => ?_
  subst he
  have hR : DataW.TrodAll enc Tryz.prog W' 0 (fun b => decide (b < W.heap.size)) true _ _ _ _ := (trodAll_cons_mk (Below.trod Tryz.laidOut (by kernel_rfl) (of_decide_eq_true (by kernel_rfl)) h0 hb (fun x hx => hlt x (by simp [hx]))) (trodAll_cons_mk (shut_int Tryz.underlying2 w1) (trodAll_cons_mk (shut_int Tryz.underlying2 w2) trodAll_mk0)))
  simp only [List.append_nil] at hR
  exact ⟨_, rfl, law_post hW' (trodAll_cons_mk (shut_bool Tryz.underlying4 _) trodAll_mk0) hR rfl hb⟩

theorem isplit_holds : Rows.IvlSplitSaid :=
  OpenClaim.holds_of_wide 5 Tryz.f5 rfl rfl rfl rfl rfl rfl rfl ⟨rfl, rfl, rfl, rfl, rfl⟩ rfl rfl rfl rfl rfl (by kernel_rfl) Tryz.func5 (by kernel_rfl)
    (of_decide_eq_true (by kernel_rfl)) (by unfold Func.isWrapper; first | (rw [if_pos (by decide +kernel)]; kernel_rfl) | (rw [if_neg (by decide +kernel)]; exact ⟨rfl, rfl⟩))
    (fun os started H enc _ => isplit_lifted os started H enc)
end Go.Proofs.YtgcimicbbadapaaGreat

