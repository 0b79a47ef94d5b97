/-
  BandAll: the box of all numbers has all points; a box of one place has those that are there; over any tree of points.
-/
import Derived.Test.YtfcpfffgodljeaaGreatPl
import Derived.Test.YtfcpfffgodljeaaGreatPaw
namespace Go.Proofs.YtfcpfffgodljeaaGreat
open Go.ChangeShapes Go.WideShapes Go.ChangeAt Go.RowKit Go.Joins

def allB : B4 := (-9223372036854775808, 9223372036854775807, -9223372036854775808, 9223372036854775807)
theorem hsS_all {L : List S3} (hw : ∀ s ∈ L, Wf3 s) : (hsS L allB).length = L.length := by
  unfold hsS hsL
  rw [nsort_len, List.length_map, List.filter_eq_self.2]
  intro s hs
  have h1 := i64_range (hw s hs).1
  have h2 := i64_range (hw s hs).2.1
  unfold hsB allB
  simp only [Bool.and_eq_true, decide_eq_true_eq]
  omega
/-- the box of a point's place -/
def plB (s : S3) : B4 := (s.1, s.1, s.2.1, s.2.1)
/-- how many are at its place -/
def cntP (s : S3) (l : List S3) : Nat := (l.filter (hsB (plB s))).length
theorem cntP_snoc (s : S3) (l : List S3) (y : S3) : cntP s (l ++ [y]) = cntP s l + (if hsB (plB s) y then 1 else 0) := by
  unfold cntP
  rw [List.filter_append, List.length_append]
  by_cases h : hsB (plB s) y = true <;> simp [h]
theorem cntP_len (s : S3) (l : List S3) : cntP s l ≤ l.length := List.length_filter_le _ _
theorem plB_iff (s y : S3) : hsB (plB s) y = true ↔ y.1 = s.1 ∧ y.2.1 = s.2.1 := by
  unfold hsB plB
  simp only [Bool.and_eq_true, decide_eq_true_eq]
  omega
theorem cntP_all (s : S3) (L : List S3) : cntP s L = (hsS L (plB s)).length := by
  unfold cntP hsS hsL
  rw [nsort_len, List.length_map]
/-- how often a name is told -/
def ownP (n : Int) (l : List Int) : Nat := (l.filter (fun x => decide (x = n))).length
theorem ownP_snoc (n : Int) (l : List Int) (y : Int) : ownP n (l ++ [y]) = ownP n l + (if y = n then 1 else 0) := by
  unfold ownP
  rw [List.filter_append, List.length_append]
  by_cases h : y = n <;> simp [h]
theorem ownP_len (n : Int) (l : List Int) : ownP n l ≤ l.length := List.length_filter_le _ _
theorem ownP_one {n : Int} : ∀ {l : List Int}, l.Pairwise (· < ·) → n ∈ l → ownP n l = 1 := by
  intro l
  induction l with
  | nil => intro _ h; cases h
  | cons a l ih =>
    intro hp hm
    obtain ⟨h1, h2⟩ := List.pairwise_cons.1 hp
    unfold ownP at ih ⊢
    by_cases e : a = n
    · subst e
      rw [List.filter_cons_of_pos (by simp), List.length_cons]
      have : l.filter (fun x => decide (x = a)) = [] := by
        rw [List.filter_eq_nil_iff]
        intro x hx
        have := h1 x hx
        simp
        omega
      rw [this]
      rfl
    · rw [List.filter_cons_of_neg (by simpa using e)]
      rcases List.mem_cons.1 hm with h | h
      · exact absurd h.symm e
      · exact ih h2 h
theorem ownP_pl {L : List S3} (hr : Rg L) {s : S3} (hs : s ∈ L) : ownP s.2.2 (hsS L (plB s)) = 1 :=
  ownP_one (hsS_rise hr _) (mem_hsS.2 ⟨s, hs, (plB_iff s s).2 ⟨rfl, rfl⟩, rfl⟩)

set_option maxRecDepth 100000 in
set_option maxHeartbeats 12800000 in
theorem all_walk {TS : World → Value → Nat → List Nat → List S3 → Prop} (C : BandC TS) (w : World) (p : Option Addr) (c : Nat) (L : List S3) (hx : TsS w p L) (hc : L.length ≤ c) (hp : p = none → c = 0) (hw : ∀ s ∈ L, Wf3 s) :
    Calls Tryz.prog 8 #[.slice p L.length c] w fun e w' => e = .returned (.bool true) ∧ Below w.heap.size w w' := by
  have HAW := Lib.hid (awake_any C)
  by_cases hbig : L.length ≤ 80
  · have hbz : ¬ (80 : Int) < L.length := by omega
    have HX := Lib.hid hx
    have HWF := Lib.hid hw
    have HBU := Lib.hid (C.build w p c L hx (by omega) hc hp hw)
    by_cases hrg : Rg L
    · have HRG := Lib.hid hrg
      have hre := fun X v S (h : TS X v L.length S L) => C.report (allB, 0) h ⟨⟨rfl, rfl, rfl, rfl⟩, rfl⟩
      have hall := hsS_all hw
      have HRL := Lib.hid (show ∀ (X : World) r, RL X r (hsS L allB) → ∃ q c, r = .slice q L.length c from fun X r h => by obtain ⟨q, c, h1, -⟩ := h; rw [hall] at h1; exact ⟨q, c, h1⟩)
      unfold bv at hre
      have HRE := Lib.hid hre
      have HPL := Lib.hid (fun X v S s (h : TS X v L.length S L) (hs : Wf3 s) => C.report (plB s, 0) h ⟨⟨hs.1, hs.1, hs.2.1, hs.2.1⟩, rfl⟩)
      have HF := Lib.hid (show ∀ z, (hsS L z).length ≤ 80 from fun z => Nat.le_trans (hsS_len L z) hbig)
      obtain ⟨m, hm⟩ : ∃ m, m = L.length := ⟨_, rfl⟩
      have HM := Lib.hid hm
      rw [← hm] at HBU HRL HRE HPL hbz hbig ⊢
      clear hx hc hp hw hrg hre hall hm
      go_enter Tryz.func8, Tryz.ntmps8
      unfold allB at HRE
      go_wp2_with (first
        | (go_at_call 16; (with_reducible refine HBU.out.mono ?_); rintro e w1 ⟨hb, hor⟩; rcases hor with ⟨-, v, S, rfl, hT, -⟩ | ⟨hn', -⟩; rotate_left; (exact absurd HRG.out hn'); rw [← HM.out] at hT; have HT := Lib.hid hT; have HB := Lib.hid hb; clear hb hT)
        | (go_at_call 24; (with_reducible refine (HRE.out _ _ _ HT.out).mono ?_); rintro e w2 ⟨⟨r, t, rfl, hr, -, -⟩, hb⟩; obtain ⟨q0, c0, rfl⟩ := HRL.out _ _ hr; have HT2 := Lib.hid (C.bel HT.out hb); have HB2 := Lib.hid (HB.out.trans (hb.mono HB.out.size)); clear hr hb))
      clear HBU HRE HRL HT HB
      go_loopw [42] (fun v42 wr => ∃ k : Nat, k ≤ m ∧ v42 = .int .i64 k ∧ Hid (TS wr v m S L) ∧ Hid (Below w.heap.size w wr)) (fun i _ => m - (intOf i).toNat)
      case atStart => exact ⟨0, Nat.zero_le _, rfl, HT2, HB2⟩
      case round =>
        clear HT2 HB2
        obtain ⟨k, hk, rfl, HT, HB⟩ := hrel
        by_cases hlt : k < m
        · have hltz : (k : Int) < m := by omega
          obtain ⟨s, hse⟩ : ∃ s, L[k]? = some s := ⟨_, List.getElem?_eq_getElem (by have := HM.out; omega)⟩
          obtain ⟨b, off, rfl, h1⟩ := (HX.out.keep HB.out).at hse
          have n0 := h1.c0
          have n1 := h1.c1
          have n2 := h1.c2
          have hsm := List.mem_of_getElem? hse
          have hws := HWF.out s hsm
          obtain ⟨W, hW⟩ : ∃ W, W = wr.alloc (.cells (tvs s).toArray 34) := ⟨_, rfl⟩
          have HN := Lib.hid (show T1 W wr.heap.size 0 s by rw [hW]; exact T1.new wr s _)
          have HBW := Lib.hid (show Below w.heap.size w W by rw [hW]; exact HB.out.alloc HB.out.size _)
          have HTW := Lib.hid (show TS W v m S L by rw [hW]; exact C.bel HT.out ((Below.refl _ wr).alloc (Nat.le_refl _) _))
          have HLT := Lib.hid HN.out.lt
          have HS1 := Lib.hid (fun X (h : TS X v m S L) => HPL.out X v S s h hws)
          have hzl := HF.out (plB s)
          have HCA := Lib.hid (cntP_all s L)
          have HOW := Lib.hid (ownP_pl HRG.out hsm)
          have m0 := HN.out.c0
          have m1 := HN.out.c1
          have m2 := HN.out.c2
          simp only [Nat.zero_add] at m0 m1 m2
          clear hse h1 HT HB hsm hws
          obtain ⟨sx, sy, id⟩ := s
          unfold tvs at hW
          unfold bv at HS1
          simp only at n0 n1 n2 m0 m1 m2 HS1 HOW
          have HPB := Lib.hid (show plB (sx, sy, id) = (sx, sx, sy, sy) from rfl)
          rw [HPB.out] at HS1 hzl HCA HOW
          have HW1 := Lib.hid hW
          clear hW
          generalize hsS L (sx, sx, sy, sy) = Z at *
          have HRU := Lib.hid (show ∀ (Y : World) r, RL Y r Z → ∃ q c, r = .slice q Z.length c ∧ NS Y q .u32 Z from fun Y r h => by obtain ⟨q, c, h1, h2, -⟩ := h; exact ⟨q, c, h1, h2⟩)
          generalize hzle : Z.length = zl at *
          have HZL := Lib.hid hzle
          clear hzle
          go_upto_region 12 with fail
          rw [← HW1.out]
          clear HW1 n0 n1 n2
          go_wp2_with (go_at_call 24; (with_reducible refine (HS1.out _ HTW.out).mono ?_); rintro e w5 ⟨⟨r, t, rfl, hr, -, -⟩, hb⟩; obtain ⟨q1, c1, rfl, hq⟩ := HRU.out _ _ hr; have HQ1 := Lib.hid hq; have HT5 := Lib.hid (C.bel HTW.out hb); have HN5 := Lib.hid (HN.out.keep hb HLT.out); have HLT5 := Lib.hid HN5.out.lt; have HB5 := Lib.hid (HBW.out.trans (hb.mono HBW.out.size)); clear hr hb hq)
          clear m0 m1 m2
          go_loopw [11, 62] (fun v11 v62 wx => ∃ j : Nat, j ≤ m ∧ v62 = .int .i64 j ∧ v11 = .int .i64 (cntP (sx, sy, id) (L.take j) : Nat) ∧ Hid (Below w5.heap.size w5 wx)) (fun _ i _ => m - (intOf i).toNat)
          case atStart => exact ⟨0, Nat.zero_le _, rfl, rfl, Lib.hid (Below.refl _ _)⟩
          case round =>
            obtain ⟨j, hj, rfl, rfl, HB6⟩ := hrel
            by_cases hlt2 : j < m
            · have hltz2 : (j : Int) < m := by omega
              obtain ⟨y, hye⟩ : ∃ y, L[j]? = some y := ⟨_, List.getElem?_eq_getElem (by have := HM.out; omega)⟩
              obtain ⟨b2, off2, e2, h2⟩ := ((HX.out.keep HB5.out).keep HB6.out).at hye
              have n0 := h2.c0
              have n1 := h2.c1
              have n2 := h2.c2
              obtain ⟨rfl, rfl⟩ : b2 = b ∧ off2 = off := by
                injection e2 with e2
                injection e2 with e3 e4
                exact ⟨e3.symm, e4.symm⟩
              obtain ⟨W3, hW3⟩ : ∃ W3, W3 = wr.alloc (.cells (tvs y).toArray 34) := ⟨_, rfl⟩
              have HY := Lib.hid (show T1 W3 wr.heap.size 0 y by rw [hW3]; exact T1.new wr y _)
              have HB7 := Lib.hid (show Below w5.heap.size w5 W3 by rw [hW3]; exact HB6.out.alloc HB6.out.size _)
              have HN7 := Lib.hid (HN5.out.keep HB7.out HLT5.out)
              have HCN := Lib.hid (show cntP (sx, sy, id) (L.take (j + 1)) = cntP (sx, sy, id) (L.take j) + (if hsB (plB (sx, sy, id)) y then 1 else 0) by rw [List.take_add_one, hye]; exact cntP_snoc _ _ _)
              have hcl := cntP_len (sx, sy, id) (L.take j)
              rw [List.length_take] at hcl
              have HIF := Lib.hid (plB_iff (sx, sy, id) y)
              have m0 := HY.out.c0
              have m1 := HY.out.c1
              have k0 := HN7.out.c0
              have k1 := HN7.out.c1
              simp only [Nat.zero_add] at m0 m1 k0 k1
              clear hye h2 e2
              obtain ⟨yx, yy, yi⟩ := y
              unfold tvs at hW3
              have HW3 := Lib.hid hW3
              clear hW3
              simp only at n0 n1 n2 m0 m1 HIF
              generalize cntP (sx, sy, id) (L.take j) = cn at *
              go_upto_region 17 with fail
              rw [← HW3.out]
              clear HW3 n0 n1 n2
              by_cases h3 : yx = sx
              · by_cases h4 : yy = sy
                · have HE := Lib.hid (HCN.out.trans (by rw [if_pos (HIF.out.2 ⟨h3, h4⟩)]))
                  go_wp2
                  go_roundw
                  case rel => exact ⟨j + 1, by omega, by go_num, by rw [HE.out]; go_num, HB7⟩
                  case measure => simp [intOf]; omega
                · have HE := Lib.hid (HCN.out.trans (by rw [if_neg (fun h => h4 (HIF.out.1 h).2), Nat.add_zero]))
                  go_wp2
                  go_roundw
                  case rel => exact ⟨j + 1, by omega, by go_num, by rw [HE.out], HB7⟩
                  case measure => simp [intOf]; omega
              · have HE := Lib.hid (HCN.out.trans (by rw [if_neg (fun h => h3 (HIF.out.1 h).1), Nat.add_zero]))
                go_wp2
                go_roundw
                case rel => exact ⟨j + 1, by omega, by go_num, by rw [HE.out], HB7⟩
                case measure => simp [intOf]; omega
            · obtain rfl : j = m := by omega
              have hltz2 : ¬ (j : Int) < j := by omega
              have hcm : cntP (sx, sy, id) (L.take j) = zl := by rw [List.take_of_length_le (by have := HM.out; omega)]; exact HCA.out
              rw [hcm]
              clear hcm
              generalize wr = wy at *
              have HT8 := Lib.hid (C.bel HT5.out HB6.out)
              have HB8 := Lib.hid (HB5.out.trans (HB6.out.mono HB5.out.size))
              have HN8 := Lib.hid (HN5.out.keep HB6.out HLT5.out)
              have HLT8 := Lib.hid HN8.out.lt
              have HQ8 := Lib.hid (HQ1.out.keep HB6.out)
              go_wp2
              go_loopw [14, 83] (fun v14 v83 wz => ∃ i : Nat, i ≤ zl ∧ v83 = .int .i64 i ∧ v14 = .int .i64 (ownP id (Z.take i) : Nat) ∧ Hid (Below wy.heap.size wy wz)) (fun _ i _ => zl - (intOf i).toNat)
              case atStart => exact ⟨0, Nat.zero_le _, rfl, rfl, Lib.hid (Below.refl _ _)⟩
              case round =>
                obtain ⟨i, hi, rfl, rfl, HB9⟩ := hrel
                have k2 := (HN8.out.keep HB9.out HLT8.out).c2
                simp only [Nat.zero_add] at k2
                by_cases hlt3 : i < zl
                · have hltz3 : (i : Int) < zl := by omega
                  obtain ⟨n, hne⟩ : ∃ n, Z[i]? = some n := ⟨_, List.getElem?_eq_getElem (by have := HZL.out; omega)⟩
                  have HON := Lib.hid (show ownP id (Z.take (i + 1)) = ownP id (Z.take i) + (if n = id then 1 else 0) by rw [List.take_add_one, hne]; exact ownP_snoc _ _ _)
                  have hol := ownP_len id (Z.take i)
                  rw [List.length_take] at hol
                  rcases HQ8.out.keep HB9.out with h0 | ⟨b3, off3, rfl, h3⟩
                  · rw [h0] at hne; simp at hne
                  · have cx := h3 i n hne
                    clear hne h3
                    generalize ownP id (Z.take i) = on at *
                    by_cases hni : n = id
                    · have HE := Lib.hid (HON.out.trans (by rw [if_pos hni]))
                      go_wp2
                      go_roundw
                      case rel => exact ⟨i + 1, by omega, by go_num, by rw [HE.out]; go_num, HB9⟩
                      case measure => simp [intOf]; omega
                    · have HE := Lib.hid (HON.out.trans (by rw [if_neg hni, Nat.add_zero]))
                      go_wp2
                      go_roundw
                      case rel => exact ⟨i + 1, by omega, by go_num, by rw [HE.out], HB9⟩
                      case measure => simp [intOf]; omega
                · obtain rfl : i = zl := by omega
                  have hltz3 : ¬ (i : Int) < i := by omega
                  have hon : ownP id (Z.take i) = 1 := by rw [List.take_of_length_le (by have := HZL.out; omega)]; exact HOW.out
                  rw [hon]
                  clear hon
                  go_wp2
                  go_roundw
                  case rel => exact ⟨k + 1, by omega, by go_num, Lib.hid (C.bel HT8.out HB9.out), Lib.hid (HB8.out.trans (HB9.out.mono HB8.out.size))⟩
                  case measure => simp [intOf]; omega
        · obtain rfl : k = m := by omega
          have hltz : ¬ (k : Int) < k := by omega
          go_wp2_with (go_at_call 15; (with_reducible refine (HAW.out _).mono ?_); rintro e w9 ⟨rfl, hb⟩; have HB := Lib.hid (HB.out.trans (hb.mono HB.out.size)); clear hb)
          go_ret
          exact ⟨rfl, HB.out⟩
    · have HRG := Lib.hid hrg
      clear HX HWF
      generalize L.length = m at *
      clear hx hc hw hp hrg
      go_enter Tryz.func8, Tryz.ntmps8
      go_wp2_with (first
        | (go_at_call 16; (with_reducible refine HBU.out.mono ?_); rintro e w1 ⟨hb, hor⟩; rcases hor with ⟨hn, -⟩ | ⟨-, v, S, rfl, -, -⟩; (exact absurd hn HRG.out); have HB := Lib.hid hb; clear hb)
        | (go_at_call 15; (with_reducible refine (HAW.out _).mono ?_); rintro e w9 ⟨rfl, hb⟩; have HB := Lib.hid (HB.out.trans (hb.mono HB.out.size)); clear hb))
      go_ret
      exact ⟨rfl, HB.out⟩
  · have hbz : (80 : Int) < L.length := by omega
    clear hx hc hw hp
    generalize L.length = m at *
    go_enter Tryz.func8, Tryz.ntmps8
    go_wp2_with (go_at_call 15; (with_reducible refine (HAW.out _).mono ?_); rintro e w9 ⟨rfl, hb⟩; have HB := Lib.hid hb; clear hb)
    go_ret
    exact ⟨rfl, HB.out⟩
end Go.Proofs.YtfcpfffgodljeaaGreat
