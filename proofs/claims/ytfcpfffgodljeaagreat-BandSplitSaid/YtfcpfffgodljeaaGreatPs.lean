/-
  BandSplit: a box that is cut in two, along either coordinate, has just what both parts have; over any tree of points.
-/
import Derived.Test.YtfcpfffgodljeaaGreatPv
namespace Go.Proofs.YtfcpfffgodljeaaGreat
open Go.ChangeShapes Go.WideShapes Go.ChangeAt Go.RowKit Go.Joins

theorem hs_wf {L : List S3} (hw : ∀ s ∈ L, Wf3 s) {b : B4} {n : Int} (h : n ∈ hsS L b) : (Lit.int .u32 n).wf = true := by
  obtain ⟨s, hs, -, rfl⟩ := mem_hsS.1 h
  exact (hw s hs).2.2

set_option maxRecDepth 100000 in
set_option maxHeartbeats 12800000 in
theorem bsplit_wide {TS : World → Value → Nat → List Nat → List S3 → Prop} (C : BandC TS) (w : World) (p : Option Addr) (c : Nat) (L : List S3) (x1 x2 y1 y2 bi ax : Int) (hx : TsS w p L) (hc : L.length ≤ c) (hp : p = none → c = 0) (hw : ∀ s ∈ L, Wf3 s) (hb : Wf5 ((x1, x2, y1, y2), bi)) (hat : (Lit.int .i64 ax).wf = true) (hbig : L.length ≤ 80)
    (h1 : x1 ≤ ax) (h2 : ax < x2) :
    Calls Tryz.prog 5 #[.slice p L.length c, bv ((x1, x2, y1, y2), bi), .int .i64 ax, .bool true] w fun e w' => e = .returned (.bool true) ∧ Below w.heap.size w w' := by
  have HAW := Lib.hid (awake_any C)
  have hbz : ¬ (80 : Int) < L.length := by omega
  have hlt1 : ¬ ax < x1 := by omega
  have hlt2 : ¬ x2 ≤ ax := by omega
  have HBU := Lib.hid (fun X (hX : Below w.heap.size w X) => C.build X p c L (hx.keep hX) (by omega) hc hp hw)
  obtain ⟨W, hW⟩ : ∃ W, W = w.alloc (.cells (bvs ((x1, x2, y1, y2), bi)).toArray 42) := ⟨_, rfl⟩
  have HNb := Lib.hid (show X1 W w.heap.size 0 ((x1, x2, y1, y2), bi) by rw [hW]; exact X1.new w _ _)
  have HB0 := Lib.hid (show Below w.heap.size w W by rw [hW]; exact (Below.refl _ w).alloc (Nat.le_refl _) _)
  have HW1 := Lib.hid (show w.alloc (.cells #[.int .i64 x1, .int .i64 x2, .int .i64 y1, .int .i64 y2, .int .u32 bi] 42) = W from hW.symm)
  have HLb := Lib.hid HNb.out.lt
  have a0 := HNb.out.c0
  have a1 := HNb.out.c1
  have a2 := HNb.out.c2
  have a3 := HNb.out.c3
  have a4 := HNb.out.c4
  simp only [Nat.zero_add] at a0 a1 a2 a3 a4
  clear hW
  by_cases hrg : Rg L
  · have HRG := Lib.hid hrg
    have hatr := i64_range hat
    have hxe : (Lit.int .i64 x2).wf = true := hb.1.2.1
    have hxr := i64_range hxe
    have hcw := low_wf (x := ax) (wide := true) hb hat
    have hdw := top_wf (x := ax) (wide := true) hb (WalkArith.wf_i64 (by omega))
    have hpm := low_has (L := L) (b := ((x1, x2, y1, y2), bi)) (x := ax) (wide := true) ⟨h1, h2⟩
    have hsp := fun X => split_wide X ((x1, x2, y1, y2), bi) ax (by omega)
    unfold lowB at hcw hpm hsp
    unfold topB at hdw hpm hsp
    simp only [if_true] at hcw hdw hpm hsp
    have hrb := fun X v S (h : TS X v L.length S L) => C.report ((x1, x2, y1, y2), bi) h hb
    have hrc := fun X v S (h : TS X v L.length S L) => C.report ((x1, ax, y1, y2), bi) h hcw
    have hrd := fun X v S (h : TS X v L.length S L) => C.report ((ax + 1, x2, y1, y2), bi) h hdw
    have hcc := fun X v S (h : TS X v L.length S L) => C.count ((x1, ax, y1, y2), bi) h hcw
    have hcd := fun X v S (h : TS X v L.length S L) => C.count ((ax + 1, x2, y1, y2), bi) h hdw
    unfold bv at hrb hrc hrd hcc hcd hsp ⊢
    simp only at hrb hrc hrd hcc hcd hpm
    have HUP := Lib.hid (hsS_rise hrg (x1, x2, y1, y2))
    have HZW := Lib.hid (fun n (h : n ∈ hsS L (x1, x2, y1, y2)) => hs_wf hw h)
    have hz80 := Nat.le_trans (hsS_len L (x1, x2, y1, y2)) hbig
    have hple := hpm.length_eq
    rw [List.length_append] at hple
    have HON := Lib.hid (show (hsS L (x1, ax, y1, y2) ++ hsS L (ax + 1, x2, y1, y2)).Nodup by rw [hpm.nodup_iff]; exact HUP.out.imp (fun {a b} h e => by omega))
    have HPM := Lib.hid hpm
    have HRB := Lib.hid hrb
    have HRC := Lib.hid hrc
    have HRD := Lib.hid hrd
    have HCC := Lib.hid hcc
    have HCD := Lib.hid hcd
    have HSP := Lib.hid hsp
    have HCW := Lib.hid (show ∀ n, n ∈ hsS L (x1, ax, y1, y2) ++ hsS L (ax + 1, x2, y1, y2) → (Lit.int .u32 n).wf = true from fun n h => HZW.out n (hpm.mem_iff.1 h))
    obtain ⟨m, hm⟩ : ∃ m, m = L.length := ⟨_, rfl⟩
    have HM := Lib.hid hm
    rw [← hm] at HBU HRB HRC HRD HCC HCD hbz ⊢
    clear hx hc hp hw hb hat hrg hatr hxe hxr hcw hdw hpm hsp hrb hrc hrd hcc hcd hm hbig
    generalize hsS L (x1, x2, y1, y2) = Z at *
    generalize hsS L (x1, ax, y1, y2) = Zc at *
    generalize hsS L (ax + 1, x2, y1, y2) = Zd at *
    have HRZ := Lib.hid (show ∀ (Y : World) r, RL Y r Z → ∃ q c, r = .slice q Z.length c ∧ NS Y q .u32 Z from fun Y r h => by obtain ⟨q, c, h1, h2, -⟩ := h; exact ⟨q, c, h1, h2⟩)
    have HRc := Lib.hid (show ∀ (Y : World) r, RL Y r Zc → ∃ q c, r = .slice q Zc.length c ∧ NS Y q .u32 Zc ∧ (q = none → c = 0) from fun Y r h => by obtain ⟨q, c, h1, h2, h3, -⟩ := h; exact ⟨q, c, h1, h2, h3⟩)
    have HRd := Lib.hid (show ∀ (Y : World) r, RL Y r Zd → ∃ q c, r = .slice q Zd.length c ∧ NS Y q .u32 Zd ∧ (q = none → c = 0) from fun Y r h => by obtain ⟨q, c, h1, h2, h3, -⟩ := h; exact ⟨q, c, h1, h2, h3⟩)
    generalize hzle : Z.length = zl at *
    have HZL := Lib.hid hzle
    clear hzle
    generalize hcle : Zc.length = zc at *
    have HZC := Lib.hid hcle
    clear hcle
    generalize hdle : Zd.length = zd at *
    have HZD := Lib.hid hdle
    clear hdle
    have hmm := @run_makeMap Tryz.prog
    go_enter Tryz.func5, Tryz.ntmps5
    go_upto_block 0 with fail
    rw [HW1.out]
    go_upto_region 6 with (go_at_call 16; (with_reducible refine (HBU.out _ HB0.out).mono ?_); rintro e w1 ⟨hb, hor⟩; rcases hor with ⟨-, v, S, rfl, hT, -⟩ | ⟨hn', -⟩; rotate_left; (exact absurd HRG.out hn'); rw [← HM.out] at hT; have HT := Lib.hid hT; have HB := Lib.hid (HB0.out.trans (hb.mono HB0.out.size)); have HNb := Lib.hid (HNb.out.keep hb HLb.out); have HLb := Lib.hid HNb.out.lt; have b0 := HNb.out.c0; have b1 := HNb.out.c1; have b2 := HNb.out.c2; have b3 := HNb.out.c3; have b4 := HNb.out.c4; simp only [Nat.zero_add] at b0 b1 b2 b3 b4; clear hb hT)
    go_upto_region 7 with (go_at_call 26; (with_reducible refine (HSP.out _).mono ?_); rintro e w2 ⟨rfl, hb⟩; have HT := Lib.hid (C.bel HT.out hb); have HB := Lib.hid (HB.out.trans (hb.mono HB.out.size)); have HNb := Lib.hid (HNb.out.keep hb HLb.out); have HLb := Lib.hid HNb.out.lt; clear hb)
    obtain ⟨W3, hW3⟩ : ∃ W3, W3 = (w2.alloc (.cells (bvs ((x1, ax, y1, y2), bi)).toArray 42)).alloc (.cells (bvs ((ax + 1, x2, y1, y2), bi)).toArray 42) := ⟨_, rfl⟩
    have hb3 : Below w2.heap.size w2 W3 := by rw [hW3]; exact ((Below.refl _ w2).alloc (Nat.le_refl _) _).alloc (by simp) _
    have HNc := Lib.hid (show X1 W3 w2.heap.size 0 ((x1, ax, y1, y2), bi) by rw [hW3]; exact (X1.new w2 _ _).keep ((Below.refl _ _).alloc (Nat.le_refl _) _) (by simp))
    have HNd := Lib.hid (show X1 W3 (w2.heap.size + 1) 0 ((ax + 1, x2, y1, y2), bi) by rw [hW3]; have := X1.new (w2.alloc (.cells (bvs ((x1, ax, y1, y2), bi)).toArray 42)) ((ax + 1, x2, y1, y2), bi) 42; simpa using this)
    have HNb := Lib.hid (HNb.out.keep hb3 HLb.out)
    have HLb := Lib.hid HNb.out.lt
    have HLc := Lib.hid HNc.out.lt
    have HLd := Lib.hid HNd.out.lt
    have HT := Lib.hid (C.bel HT.out hb3)
    have HB := Lib.hid (HB.out.trans (hb3.mono HB.out.size))
    have HW3 := Lib.hid (show (w2.alloc (.cells #[.int .i64 x1, .int .i64 ax, .int .i64 y1, .int .i64 y2, .int .u32 bi] 42)).alloc (.cells #[.int .i64 (ax + 1), .int .i64 x2, .int .i64 y1, .int .i64 y2, .int .u32 bi] 42) = W3 from hW3.symm)
    clear hb3 hW3
    rw [HW3.out]
    clear HW3
    have f0 := HNb.out.c0
    have f1 := HNb.out.c1
    have f2 := HNb.out.c2
    have f3 := HNb.out.c3
    have f4 := HNb.out.c4
    simp only [Nat.zero_add] at f0 f1 f2 f3 f4
    have g0 := HNc.out.c0
    have g1 := HNc.out.c1
    have g2 := HNc.out.c2
    have g3 := HNc.out.c3
    have g4 := HNc.out.c4
    simp only [Nat.zero_add] at g0 g1 g2 g3 g4
    have h0 := HNd.out.c0
    have h1 := HNd.out.c1
    have h2 := HNd.out.c2
    have h3 := HNd.out.c3
    have h4 := HNd.out.c4
    simp only [Nat.zero_add] at h0 h1 h2 h3 h4
    go_upto_region 12 with (first
      | (go_at_call 24; (with_reducible refine (HRB.out _ _ _ HT.out).mono ?_); rintro e w4 ⟨⟨r, t, rfl, hr, -, -⟩, hb⟩; obtain ⟨qb, cb, rfl, hq⟩ := HRZ.out _ _ hr; have HQB := Lib.hid hq; have HNb := Lib.hid (HNb.out.keep hb HLb.out); have HLb := Lib.hid HNb.out.lt; have HNc := Lib.hid (HNc.out.keep hb HLc.out); have HLc := Lib.hid HNc.out.lt; have HNd := Lib.hid (HNd.out.keep hb HLd.out); have HLd := Lib.hid HNd.out.lt; have f0 := HNb.out.c0; have f1 := HNb.out.c1; have f2 := HNb.out.c2; have f3 := HNb.out.c3; have f4 := HNb.out.c4; simp only [Nat.zero_add] at f0 f1 f2 f3 f4; have g0 := HNc.out.c0; have g1 := HNc.out.c1; have g2 := HNc.out.c2; have g3 := HNc.out.c3; have g4 := HNc.out.c4; simp only [Nat.zero_add] at g0 g1 g2 g3 g4; have h0 := HNd.out.c0; have h1 := HNd.out.c1; have h2 := HNd.out.c2; have h3 := HNd.out.c3; have h4 := HNd.out.c4; simp only [Nat.zero_add] at h0 h1 h2 h3 h4; have HT := Lib.hid (C.bel HT.out hb); have HB := Lib.hid (HB.out.trans (hb.mono HB.out.size)); clear hb hr hq)
      | (go_at_call 24; (with_reducible refine (HRC.out _ _ _ HT.out).mono ?_); rintro e w5 ⟨⟨r, t2, rfl, hr, -, -⟩, hb⟩; obtain ⟨qc, cc, rfl, hq, hqc⟩ := HRc.out _ _ hr; have HQC := Lib.hid hq; have HQCN := Lib.hid hqc; have HQB := Lib.hid (HQB.out.keep hb); have HNb := Lib.hid (HNb.out.keep hb HLb.out); have HLb := Lib.hid HNb.out.lt; have HNc := Lib.hid (HNc.out.keep hb HLc.out); have HLc := Lib.hid HNc.out.lt; have HNd := Lib.hid (HNd.out.keep hb HLd.out); have HLd := Lib.hid HNd.out.lt; have f0 := HNb.out.c0; have f1 := HNb.out.c1; have f2 := HNb.out.c2; have f3 := HNb.out.c3; have f4 := HNb.out.c4; simp only [Nat.zero_add] at f0 f1 f2 f3 f4; have g0 := HNc.out.c0; have g1 := HNc.out.c1; have g2 := HNc.out.c2; have g3 := HNc.out.c3; have g4 := HNc.out.c4; simp only [Nat.zero_add] at g0 g1 g2 g3 g4; have h0 := HNd.out.c0; have h1 := HNd.out.c1; have h2 := HNd.out.c2; have h3 := HNd.out.c3; have h4 := HNd.out.c4; simp only [Nat.zero_add] at h0 h1 h2 h3 h4; have HT := Lib.hid (C.bel HT.out hb); have HB := Lib.hid (HB.out.trans (hb.mono HB.out.size)); clear hb hr hq hqc)
      | (go_at_call 24; (with_reducible refine (HRD.out _ _ _ HT.out).mono ?_); rintro e w6 ⟨⟨r, t3, rfl, hr, -, -⟩, hb⟩; obtain ⟨qd, cd, rfl, hq, hqd⟩ := HRd.out _ _ hr; have HQD := Lib.hid hq; have HQDN := Lib.hid hqd; have HQB := Lib.hid (HQB.out.keep hb); have HQC := Lib.hid (HQC.out.keep hb); have HNb := Lib.hid (HNb.out.keep hb HLb.out); have HLb := Lib.hid HNb.out.lt; have HNc := Lib.hid (HNc.out.keep hb HLc.out); have HLc := Lib.hid HNc.out.lt; have HNd := Lib.hid (HNd.out.keep hb HLd.out); have HLd := Lib.hid HNd.out.lt; have f0 := HNb.out.c0; have f1 := HNb.out.c1; have f2 := HNb.out.c2; have f3 := HNb.out.c3; have f4 := HNb.out.c4; simp only [Nat.zero_add] at f0 f1 f2 f3 f4; have g0 := HNc.out.c0; have g1 := HNc.out.c1; have g2 := HNc.out.c2; have g3 := HNc.out.c3; have g4 := HNc.out.c4; simp only [Nat.zero_add] at g0 g1 g2 g3 g4; have h0 := HNd.out.c0; have h1 := HNd.out.c1; have h2 := HNd.out.c2; have h3 := HNd.out.c3; have h4 := HNd.out.c4; simp only [Nat.zero_add] at h0 h1 h2 h3 h4; have HT := Lib.hid (C.bel HT.out hb); have HB := Lib.hid (HB.out.trans (hb.mono HB.out.size)); clear hb hr hq hqd)
      | (go_at_call 25; (with_reducible refine (HCC.out _ _ _ HT.out).mono ?_); rintro e w7 ⟨⟨t4, rfl, -⟩, hb⟩; have HQB := Lib.hid (HQB.out.keep hb); have HQC := Lib.hid (HQC.out.keep hb); have HQD := Lib.hid (HQD.out.keep hb); have HNb := Lib.hid (HNb.out.keep hb HLb.out); have HLb := Lib.hid HNb.out.lt; have HNc := Lib.hid (HNc.out.keep hb HLc.out); have HLc := Lib.hid HNc.out.lt; have HNd := Lib.hid (HNd.out.keep hb HLd.out); have HLd := Lib.hid HNd.out.lt; have f0 := HNb.out.c0; have f1 := HNb.out.c1; have f2 := HNb.out.c2; have f3 := HNb.out.c3; have f4 := HNb.out.c4; simp only [Nat.zero_add] at f0 f1 f2 f3 f4; have g0 := HNc.out.c0; have g1 := HNc.out.c1; have g2 := HNc.out.c2; have g3 := HNc.out.c3; have g4 := HNc.out.c4; simp only [Nat.zero_add] at g0 g1 g2 g3 g4; have h0 := HNd.out.c0; have h1 := HNd.out.c1; have h2 := HNd.out.c2; have h3 := HNd.out.c3; have h4 := HNd.out.c4; simp only [Nat.zero_add] at h0 h1 h2 h3 h4; have HT := Lib.hid (C.bel HT.out hb); have HB := Lib.hid (HB.out.trans (hb.mono HB.out.size)); clear hb)
      | (go_at_call 25; (with_reducible refine (HCD.out _ _ _ HT.out).mono ?_); rintro e w8 ⟨⟨t5, rfl, -⟩, hb⟩; have HQB := Lib.hid (HQB.out.keep hb); have HQC := Lib.hid (HQC.out.keep hb); have HQD := Lib.hid (HQD.out.keep hb); have HNb := Lib.hid (HNb.out.keep hb HLb.out); have HLb := Lib.hid HNb.out.lt; have HNc := Lib.hid (HNc.out.keep hb HLc.out); have HLc := Lib.hid HNc.out.lt; have HNd := Lib.hid (HNd.out.keep hb HLd.out); have HLd := Lib.hid HNd.out.lt; have f0 := HNb.out.c0; have f1 := HNb.out.c1; have f2 := HNb.out.c2; have f3 := HNb.out.c3; have f4 := HNb.out.c4; simp only [Nat.zero_add] at f0 f1 f2 f3 f4; have g0 := HNc.out.c0; have g1 := HNc.out.c1; have g2 := HNc.out.c2; have g3 := HNc.out.c3; have g4 := HNc.out.c4; simp only [Nat.zero_add] at g0 g1 g2 g3 g4; have h0 := HNd.out.c0; have h1 := HNd.out.c1; have h2 := HNd.out.c2; have h3 := HNd.out.c3; have h4 := HNd.out.c4; simp only [Nat.zero_add] at h0 h1 h2 h3 h4; have HT := Lib.hid (C.bel HT.out hb); have HB := Lib.hid (HB.out.trans (hb.mono HB.out.size)); clear hb))
    go_upto_region 13 with fail
    obtain ⟨WM, hWM⟩ : ∃ WM, WM = w8.alloc (.map #[] 0) := ⟨_, rfl⟩
    have HM0 := Lib.hid (show MP Tryz.prog 32 WM w8.heap.size (ones []) by rw [hWM]; exact MP.made _ _ _)
    have hbm : Below w8.heap.size w8 WM := by rw [hWM]; exact (Below.refl _ w8).alloc (Nat.le_refl _) _
    have HSZ := Lib.hid (show WM.heap.size = w8.heap.size + 1 by rw [hWM]; simp)
    have HQC1 := Lib.hid (HQC.out.keep hbm)
    have HQD1 := Lib.hid (HQD.out.keep hbm)
    have HBM := Lib.hid hbm
    rw [← hWM]
    clear hWM hbm hmm HQC HQD HT HNb HNc HNd HLb HLc HLd HRB HRC HRD HCC HCD HSP HBU HB0 HRZ HRc HRd
    have HO := Lib.hid (World.ownsRow_made (base := WM.heap.size) (e := 32) (size := 1) WM #[] 0 (Nat.le_refl _) (by simp [maxLen]) rfl)
    have HK1 := Lib.hid (((HQC1.out).src HQCN.out).keep ((Below.refl _ WM).alloc (Nat.le_refl _) (.cells #[] 32)))
    rw [HZC.out] at HK1
    obtain ⟨nl, hnl⟩ : ∃ nl, nl = zc + zd := ⟨_, rfl⟩
    have hnl80 : nl ≤ 80 := by omega
    have hnlz : nl = zl := by omega
    have HNL := Lib.hid (show (Zc ++ Zd).length = nl by rw [List.length_append, HZC.out, HZD.out, hnl])
    have hsum : (zc : Int) + (zd : Int) = (zl : Int) := by omega
    have HNLE := Lib.hid hnl
    have HLZ := Lib.hid hnlz
    have hzc80 : zc ≤ 80 := by omega
    have hzd80 : zd ≤ 80 := by omega
    clear hnl hnlz hple
    go_upto_region 14 with (first
      | (at_builtin; refine wpList_list Tryz.info32 rfl (by decide) (by decide) Tryz.underlying43 _ rfl (.tmp 109) (.tmp 110) rfl WM.heap.size (.slice (some ⟨WM.heap.size, 0, none⟩) 0 0) 0 [] rfl HO.out qc zc cc (Zc.map (Value.int .u32)) rfl (by rw [List.length_map, HZC.out, Nat.mul_one]) HK1.out (ints_one _ _) (by omega) (by simp) ?_; intro v4 w10 h1 h2 _; have HR4 := Lib.hid h1; have HB10 := Lib.hid (((Below.refl _ WM).alloc (Nat.le_refl _) (.cells #[] 32)).grown h2 (by simp) (fun k e => by simp [Value.ownBlock] at e; omega)); have HK2 := Lib.hid ((HQD1.out.keep HB10.out).src HQDN.out); rw [HZD.out] at HK2; clear h1 h2)
      | (at_builtin; refine wpList_list Tryz.info32 rfl (by decide) (by decide) Tryz.underlying43 _ rfl (.tmp 111) (.tmp 112) rfl WM.heap.size v4 (0 + zc) ([] ++ Zc.map (Value.int .u32)) rfl HR4.out qd zd cd (Zd.map (Value.int .u32)) rfl (by rw [List.length_map, HZD.out, Nat.mul_one]) HK2.out (ints_one _ _) (by omega) HB10.out.size ?_; intro v5 w11 h1 h2 _; have HB11 := Lib.hid (HB10.out.grown h2 HB10.out.size (fun k e => (HR4.out.lt k e).1)); rw [show [] ++ Zc.map (Value.int .u32) ++ Zd.map (Value.int .u32) = (Zc ++ Zd).map (Value.int .u32) by simp, show 0 + zc + zd = nl by rw [HNLE.out]; omega] at h1; obtain ⟨-, p5, c5, hv5, hn5, -⟩ := row_u h1; have HG5 := Lib.hid (show ∀ b off, p5 = some ⟨b, off, none⟩ → WM.heap.size ≤ b from fun b off e => (h1.lt b (by rw [hv5, e]; rfl)).1); subst hv5; have HN5 := Lib.hid hn5; clear h1 h2 hn5))
    have HB12 := Lib.hid (HBM.out.trans (HB11.out.mono HBM.out.size))
    have HM1 := Lib.hid (show MP Tryz.prog 32 w11 w8.heap.size (ones []) from HM0.out.keep HB11.out)
    clear HM0 HO HK1 HQC1 HQD1 HBM HR4 HB10 HK2 HB11 HQCN HQDN HZC HZD HNLE
    generalize Zc ++ Zd = N at *
    go_loopw [115] (fun v wr => ∃ k : Nat, k ≤ nl ∧ v = .int .i64 k ∧ Hid (MP Tryz.prog 32 wr w8.heap.size (ones (N.take k))) ∧ Hid (NS wr p5 .u32 N) ∧ Hid (Below w8.heap.size w8 wr)) (fun v _ => nl - (intOf v).toNat)
    case atStart => exact ⟨0, Nat.zero_le _, rfl, HM1, HN5, HB12⟩
    case round =>
      clear HM1 HN5 HB12
      obtain ⟨k, hk, rfl, HM, HN, HB2⟩ := hrel
      by_cases hlt : k < nl
      · have hltz : (k : Int) < nl := by omega
        obtain ⟨n, hne⟩ : ∃ n, N[k]? = some n := ⟨_, List.getElem?_eq_getElem (by have := HNL.out; omega)⟩
        have hwf := HCW.out n (List.mem_of_getElem? hne)
        have htk : N.take (k + 1) = N.take k ++ [n] := by rw [List.take_add_one, hne]; rfl
        have hnd : (N.take k ++ [n]).Nodup := htk ▸ (HON.out.sublist (List.take_sublist _ _))
        obtain ⟨hlook, w12, hput, hM2, hO2⟩ := ones_more HM.out hnd hwf (by rw [List.length_take]; omega)
        rw [← htk] at hM2
        have HM2 := Lib.hid hM2
        have HN2 := Lib.hid (HN.out.offF hO2 (fun b off e _ => by have := HG5.out b off e; have := HSZ.out; simp; omega))
        have HB3 := Lib.hid (HB2.out.trans (hO2.below HB2.out.size (by simp)))
        rcases HN.out with h0 | ⟨b, off, rfl, h1⟩
        · rw [h0] at hne; simp at hne
        · have cx := h1 k n hne
          clear h1 hne hwf htk hnd hM2 hO2
          go_wp2_with (first
            | (at_lookup; refine wpList_lookR rfl _ _ _ _ rfl _ _ _ rfl rfl hlook ?_)
            | (at_mapUpdate; refine wpList_putR rfl _ _ _ _ rfl _ _ _ rfl rfl rfl hput ?_))
          go_roundw
          case rel => exact ⟨k + 1, by omega, by go_num, HM2, HN2, HB3⟩
          case measure => simp [intOf]; omega
      · obtain rfl : k = nl := by omega
        have hltz : ¬ (k : Int) < k := by omega
        have HM3 := Lib.hid (show MP Tryz.prog 32 wr w8.heap.size (ones N) by
          have h := HM.out
          rw [List.take_of_length_le (by have := HNL.out; omega)] at h
          exact h)
        have HLN := Lib.hid (show (ones N).length = zl by rw [ones_len, HNL.out, HLZ.out])
        clear HM HN
        go_wp2
        generalize wr = wy at *
        go_loopw [126] (fun v wz => ∃ j : Nat, j ≤ zl ∧ v = .int .i64 j ∧ Hid (Below wy.heap.size wy wz)) (fun v _ => zl - (intOf v).toNat)
        case atStart => exact ⟨0, Nat.zero_le _, rfl, Lib.hid (Below.refl _ _)⟩
        case round =>
          obtain ⟨j, hj1, rfl, HB4⟩ := hrel
          by_cases hlt3 : j < zl
          · have hltz3 : (j : Int) < zl := by omega
            obtain ⟨n, hne⟩ : ∃ n, Z[j]? = some n := ⟨_, List.getElem?_eq_getElem (by have := HZL.out; omega)⟩
            have hmz := List.mem_of_getElem? hne
            have hlook := ones_look (HM3.out.keep HB4.out) (HZW.out n hmz) (HPM.out.mem_iff.2 hmz)
            rcases (HQB.out.keep HB2.out).keep HB4.out with h0 | ⟨b, off, rfl, h1⟩
            · rw [h0] at hne; simp at hne
            · have cx := h1 j n hne
              by_cases hj0 : j = 0
              · subst hj0
                clear h1 hne hmz
                simp only [Nat.add_zero] at cx
                go_wp2_with (at_lookup; refine wpList_lookR rfl _ _ _ _ rfl _ _ _ rfl rfl hlook ?_)
                go_roundw
                case rel => exact ⟨1, by omega, by go_num, HB4⟩
                case measure => simp [intOf]; omega
              · obtain ⟨j', hj'⟩ : ∃ j', j = j' + 1 := ⟨j - 1, by omega⟩
                obtain ⟨y, hye⟩ : ∃ y, Z[j']? = some y := ⟨_, List.getElem?_eq_getElem (by have := HZL.out; omega)⟩
                have cy := h1 j' y hye
                have hyn : y < n := by
                  obtain ⟨g1, e1⟩ := List.getElem?_eq_some_iff.1 hye
                  obtain ⟨g2, e2⟩ := List.getElem?_eq_some_iff.1 hne
                  have := List.pairwise_iff_getElem.1 HUP.out j' j g1 g2 (by omega)
                  rw [e1, e2] at this
                  exact this
                have hjz : (0 : Int) < (j : Int) := by omega
                have hjs : (j : Int) - 1 = (j' : Int) := by omega
                have hjl : (j' : Int) < zl := by omega
                have hny : ¬ n ≤ y := by omega
                clear h1 hne hmz hye hj' hj0
                go_wp2_with (at_lookup; refine wpList_lookR rfl _ _ _ _ rfl _ _ _ rfl rfl hlook ?_)
                go_roundw
                case rel => exact ⟨j + 1, by omega, by go_num, HB4⟩
                case measure => simp [intOf]; omega
          · obtain rfl : j = zl := by omega
            have hltz3 : ¬ (j : Int) < j := by omega
            have hlen := fun ty => (HM3.out.keep HB4.out).len Tryz.underlying51 ty
            rw [HLN.out] at hlen
            go_wp2_with (go_at_call 15; (with_reducible refine (HAW.out _).mono ?_); rintro e w20 ⟨rfl, hb⟩; have HB5 := Lib.hid (((HB.out.trans (HB2.out.mono HB.out.size)).trans (HB4.out.mono (HB.out.trans (HB2.out.mono HB.out.size)).size))); have HB6 := Lib.hid (HB5.out.trans (hb.mono HB5.out.size)); clear hb)
            go_ret
            exact ⟨rfl, HB6.out⟩
  · have HRG := Lib.hid hrg
    unfold bv
    simp only
    clear hx hc hw hp hrg hb
    generalize L.length = m at *
    go_enter Tryz.func5, Tryz.ntmps5
    go_upto_block 0 with fail
    rw [HW1.out]
    go_wp2_with (first
      | (go_at_call 16; (with_reducible refine (HBU.out _ HB0.out).mono ?_); rintro e w1 ⟨hb, hor⟩; rcases hor with ⟨hn, -⟩ | ⟨-, v, S, rfl, -, -⟩; (exact absurd hn HRG.out); have HB := Lib.hid (HB0.out.trans (hb.mono HB0.out.size)); clear hb)
      | (go_at_call 15; (with_reducible refine (HAW.out _).mono ?_); rintro e w9 ⟨rfl, hb⟩; have HB := Lib.hid (HB.out.trans (hb.mono HB.out.size)); clear hb))
    go_ret
    exact ⟨rfl, HB.out⟩

set_option maxRecDepth 100000 in
set_option maxHeartbeats 12800000 in
theorem bsplit_tall {TS : World → Value → Nat → List Nat → List S3 → Prop} (C : BandC TS) (w : World) (p : Option Addr) (c : Nat) (L : List S3) (x1 x2 y1 y2 bi ax : Int) (hx : TsS w p L) (hc : L.length ≤ c) (hp : p = none → c = 0) (hw : ∀ s ∈ L, Wf3 s) (hb : Wf5 ((x1, x2, y1, y2), bi)) (hat : (Lit.int .i64 ax).wf = true) (hbig : L.length ≤ 80)
    (h1 : y1 ≤ ax) (h2 : ax < y2) :
    Calls Tryz.prog 5 #[.slice p L.length c, bv ((x1, x2, y1, y2), bi), .int .i64 ax, .bool false] w fun e w' => e = .returned (.bool true) ∧ Below w.heap.size w w' := by
  have HAW := Lib.hid (awake_any C)
  have hbz : ¬ (80 : Int) < L.length := by omega
  have hlt1 : ¬ ax < y1 := by omega
  have hlt2 : ¬ y2 ≤ ax := by omega
  have HBU := Lib.hid (fun X (hX : Below w.heap.size w X) => C.build X p c L (hx.keep hX) (by omega) hc hp hw)
  obtain ⟨W, hW⟩ : ∃ W, W = w.alloc (.cells (bvs ((x1, x2, y1, y2), bi)).toArray 42) := ⟨_, rfl⟩
  have HNb := Lib.hid (show X1 W w.heap.size 0 ((x1, x2, y1, y2), bi) by rw [hW]; exact X1.new w _ _)
  have HB0 := Lib.hid (show Below w.heap.size w W by rw [hW]; exact (Below.refl _ w).alloc (Nat.le_refl _) _)
  have HW1 := Lib.hid (show w.alloc (.cells #[.int .i64 x1, .int .i64 x2, .int .i64 y1, .int .i64 y2, .int .u32 bi] 42) = W from hW.symm)
  have HLb := Lib.hid HNb.out.lt
  have a0 := HNb.out.c0
  have a1 := HNb.out.c1
  have a2 := HNb.out.c2
  have a3 := HNb.out.c3
  have a4 := HNb.out.c4
  simp only [Nat.zero_add] at a0 a1 a2 a3 a4
  clear hW
  by_cases hrg : Rg L
  · have HRG := Lib.hid hrg
    have hatr := i64_range hat
    have hxe : (Lit.int .i64 y2).wf = true := hb.1.2.2.2
    have hxr := i64_range hxe
    have hcw := low_wf (x := ax) (wide := false) hb hat
    have hdw := top_wf (x := ax) (wide := false) hb (WalkArith.wf_i64 (by omega))
    have hpm := low_has (L := L) (b := ((x1, x2, y1, y2), bi)) (x := ax) (wide := false) ⟨h1, h2⟩
    have hsp := fun X => split_tall X ((x1, x2, y1, y2), bi) ax (by omega)
    unfold lowB at hcw hpm hsp
    unfold topB at hdw hpm hsp
    simp only [Bool.false_eq_true, if_false] at hcw hdw hpm hsp
    have hrb := fun X v S (h : TS X v L.length S L) => C.report ((x1, x2, y1, y2), bi) h hb
    have hrc := fun X v S (h : TS X v L.length S L) => C.report ((x1, x2, y1, ax), bi) h hcw
    have hrd := fun X v S (h : TS X v L.length S L) => C.report ((x1, x2, ax + 1, y2), bi) h hdw
    have hcc := fun X v S (h : TS X v L.length S L) => C.count ((x1, x2, y1, ax), bi) h hcw
    have hcd := fun X v S (h : TS X v L.length S L) => C.count ((x1, x2, ax + 1, y2), bi) h hdw
    unfold bv at hrb hrc hrd hcc hcd hsp ⊢
    simp only at hrb hrc hrd hcc hcd hpm
    have HUP := Lib.hid (hsS_rise hrg (x1, x2, y1, y2))
    have HZW := Lib.hid (fun n (h : n ∈ hsS L (x1, x2, y1, y2)) => hs_wf hw h)
    have hz80 := Nat.le_trans (hsS_len L (x1, x2, y1, y2)) hbig
    have hple := hpm.length_eq
    rw [List.length_append] at hple
    have HON := Lib.hid (show (hsS L (x1, x2, y1, ax) ++ hsS L (x1, x2, ax + 1, y2)).Nodup by rw [hpm.nodup_iff]; exact HUP.out.imp (fun {a b} h e => by omega))
    have HPM := Lib.hid hpm
    have HRB := Lib.hid hrb
    have HRC := Lib.hid hrc
    have HRD := Lib.hid hrd
    have HCC := Lib.hid hcc
    have HCD := Lib.hid hcd
    have HSP := Lib.hid hsp
    have HCW := Lib.hid (show ∀ n, n ∈ hsS L (x1, x2, y1, ax) ++ hsS L (x1, x2, ax + 1, y2) → (Lit.int .u32 n).wf = true from fun n h => HZW.out n (hpm.mem_iff.1 h))
    obtain ⟨m, hm⟩ : ∃ m, m = L.length := ⟨_, rfl⟩
    have HM := Lib.hid hm
    rw [← hm] at HBU HRB HRC HRD HCC HCD hbz ⊢
    clear hx hc hp hw hb hat hrg hatr hxe hxr hcw hdw hpm hsp hrb hrc hrd hcc hcd hm hbig
    generalize hsS L (x1, x2, y1, y2) = Z at *
    generalize hsS L (x1, x2, y1, ax) = Zc at *
    generalize hsS L (x1, x2, ax + 1, y2) = Zd at *
    have HRZ := Lib.hid (show ∀ (Y : World) r, RL Y r Z → ∃ q c, r = .slice q Z.length c ∧ NS Y q .u32 Z from fun Y r h => by obtain ⟨q, c, h1, h2, -⟩ := h; exact ⟨q, c, h1, h2⟩)
    have HRc := Lib.hid (show ∀ (Y : World) r, RL Y r Zc → ∃ q c, r = .slice q Zc.length c ∧ NS Y q .u32 Zc ∧ (q = none → c = 0) from fun Y r h => by obtain ⟨q, c, h1, h2, h3, -⟩ := h; exact ⟨q, c, h1, h2, h3⟩)
    have HRd := Lib.hid (show ∀ (Y : World) r, RL Y r Zd → ∃ q c, r = .slice q Zd.length c ∧ NS Y q .u32 Zd ∧ (q = none → c = 0) from fun Y r h => by obtain ⟨q, c, h1, h2, h3, -⟩ := h; exact ⟨q, c, h1, h2, h3⟩)
    generalize hzle : Z.length = zl at *
    have HZL := Lib.hid hzle
    clear hzle
    generalize hcle : Zc.length = zc at *
    have HZC := Lib.hid hcle
    clear hcle
    generalize hdle : Zd.length = zd at *
    have HZD := Lib.hid hdle
    clear hdle
    have hmm := @run_makeMap Tryz.prog
    go_enter Tryz.func5, Tryz.ntmps5
    go_upto_block 0 with fail
    rw [HW1.out]
    go_upto_region 6 with (go_at_call 16; (with_reducible refine (HBU.out _ HB0.out).mono ?_); rintro e w1 ⟨hb, hor⟩; rcases hor with ⟨-, v, S, rfl, hT, -⟩ | ⟨hn', -⟩; rotate_left; (exact absurd HRG.out hn'); rw [← HM.out] at hT; have HT := Lib.hid hT; have HB := Lib.hid (HB0.out.trans (hb.mono HB0.out.size)); have HNb := Lib.hid (HNb.out.keep hb HLb.out); have HLb := Lib.hid HNb.out.lt; have b0 := HNb.out.c0; have b1 := HNb.out.c1; have b2 := HNb.out.c2; have b3 := HNb.out.c3; have b4 := HNb.out.c4; simp only [Nat.zero_add] at b0 b1 b2 b3 b4; clear hb hT)
    go_upto_region 7 with (go_at_call 26; (with_reducible refine (HSP.out _).mono ?_); rintro e w2 ⟨rfl, hb⟩; have HT := Lib.hid (C.bel HT.out hb); have HB := Lib.hid (HB.out.trans (hb.mono HB.out.size)); have HNb := Lib.hid (HNb.out.keep hb HLb.out); have HLb := Lib.hid HNb.out.lt; clear hb)
    obtain ⟨W3, hW3⟩ : ∃ W3, W3 = (w2.alloc (.cells (bvs ((x1, x2, y1, ax), bi)).toArray 42)).alloc (.cells (bvs ((x1, x2, ax + 1, y2), bi)).toArray 42) := ⟨_, rfl⟩
    have hb3 : Below w2.heap.size w2 W3 := by rw [hW3]; exact ((Below.refl _ w2).alloc (Nat.le_refl _) _).alloc (by simp) _
    have HNc := Lib.hid (show X1 W3 w2.heap.size 0 ((x1, x2, y1, ax), bi) by rw [hW3]; exact (X1.new w2 _ _).keep ((Below.refl _ _).alloc (Nat.le_refl _) _) (by simp))
    have HNd := Lib.hid (show X1 W3 (w2.heap.size + 1) 0 ((x1, x2, ax + 1, y2), bi) by rw [hW3]; have := X1.new (w2.alloc (.cells (bvs ((x1, x2, y1, ax), bi)).toArray 42)) ((x1, x2, ax + 1, y2), bi) 42; simpa using this)
    have HNb := Lib.hid (HNb.out.keep hb3 HLb.out)
    have HLb := Lib.hid HNb.out.lt
    have HLc := Lib.hid HNc.out.lt
    have HLd := Lib.hid HNd.out.lt
    have HT := Lib.hid (C.bel HT.out hb3)
    have HB := Lib.hid (HB.out.trans (hb3.mono HB.out.size))
    have HW3 := Lib.hid (show (w2.alloc (.cells #[.int .i64 x1, .int .i64 x2, .int .i64 y1, .int .i64 ax, .int .u32 bi] 42)).alloc (.cells #[.int .i64 x1, .int .i64 x2, .int .i64 (ax + 1), .int .i64 y2, .int .u32 bi] 42) = W3 from hW3.symm)
    clear hb3 hW3
    rw [HW3.out]
    clear HW3
    have f0 := HNb.out.c0
    have f1 := HNb.out.c1
    have f2 := HNb.out.c2
    have f3 := HNb.out.c3
    have f4 := HNb.out.c4
    simp only [Nat.zero_add] at f0 f1 f2 f3 f4
    have g0 := HNc.out.c0
    have g1 := HNc.out.c1
    have g2 := HNc.out.c2
    have g3 := HNc.out.c3
    have g4 := HNc.out.c4
    simp only [Nat.zero_add] at g0 g1 g2 g3 g4
    have h0 := HNd.out.c0
    have h1 := HNd.out.c1
    have h2 := HNd.out.c2
    have h3 := HNd.out.c3
    have h4 := HNd.out.c4
    simp only [Nat.zero_add] at h0 h1 h2 h3 h4
    go_upto_region 12 with (first
      | (go_at_call 24; (with_reducible refine (HRB.out _ _ _ HT.out).mono ?_); rintro e w4 ⟨⟨r, t, rfl, hr, -, -⟩, hb⟩; obtain ⟨qb, cb, rfl, hq⟩ := HRZ.out _ _ hr; have HQB := Lib.hid hq; have HNb := Lib.hid (HNb.out.keep hb HLb.out); have HLb := Lib.hid HNb.out.lt; have HNc := Lib.hid (HNc.out.keep hb HLc.out); have HLc := Lib.hid HNc.out.lt; have HNd := Lib.hid (HNd.out.keep hb HLd.out); have HLd := Lib.hid HNd.out.lt; have f0 := HNb.out.c0; have f1 := HNb.out.c1; have f2 := HNb.out.c2; have f3 := HNb.out.c3; have f4 := HNb.out.c4; simp only [Nat.zero_add] at f0 f1 f2 f3 f4; have g0 := HNc.out.c0; have g1 := HNc.out.c1; have g2 := HNc.out.c2; have g3 := HNc.out.c3; have g4 := HNc.out.c4; simp only [Nat.zero_add] at g0 g1 g2 g3 g4; have h0 := HNd.out.c0; have h1 := HNd.out.c1; have h2 := HNd.out.c2; have h3 := HNd.out.c3; have h4 := HNd.out.c4; simp only [Nat.zero_add] at h0 h1 h2 h3 h4; have HT := Lib.hid (C.bel HT.out hb); have HB := Lib.hid (HB.out.trans (hb.mono HB.out.size)); clear hb hr hq)
      | (go_at_call 24; (with_reducible refine (HRC.out _ _ _ HT.out).mono ?_); rintro e w5 ⟨⟨r, t2, rfl, hr, -, -⟩, hb⟩; obtain ⟨qc, cc, rfl, hq, hqc⟩ := HRc.out _ _ hr; have HQC := Lib.hid hq; have HQCN := Lib.hid hqc; have HQB := Lib.hid (HQB.out.keep hb); have HNb := Lib.hid (HNb.out.keep hb HLb.out); have HLb := Lib.hid HNb.out.lt; have HNc := Lib.hid (HNc.out.keep hb HLc.out); have HLc := Lib.hid HNc.out.lt; have HNd := Lib.hid (HNd.out.keep hb HLd.out); have HLd := Lib.hid HNd.out.lt; have f0 := HNb.out.c0; have f1 := HNb.out.c1; have f2 := HNb.out.c2; have f3 := HNb.out.c3; have f4 := HNb.out.c4; simp only [Nat.zero_add] at f0 f1 f2 f3 f4; have g0 := HNc.out.c0; have g1 := HNc.out.c1; have g2 := HNc.out.c2; have g3 := HNc.out.c3; have g4 := HNc.out.c4; simp only [Nat.zero_add] at g0 g1 g2 g3 g4; have h0 := HNd.out.c0; have h1 := HNd.out.c1; have h2 := HNd.out.c2; have h3 := HNd.out.c3; have h4 := HNd.out.c4; simp only [Nat.zero_add] at h0 h1 h2 h3 h4; have HT := Lib.hid (C.bel HT.out hb); have HB := Lib.hid (HB.out.trans (hb.mono HB.out.size)); clear hb hr hq hqc)
      | (go_at_call 24; (with_reducible refine (HRD.out _ _ _ HT.out).mono ?_); rintro e w6 ⟨⟨r, t3, rfl, hr, -, -⟩, hb⟩; obtain ⟨qd, cd, rfl, hq, hqd⟩ := HRd.out _ _ hr; have HQD := Lib.hid hq; have HQDN := Lib.hid hqd; have HQB := Lib.hid (HQB.out.keep hb); have HQC := Lib.hid (HQC.out.keep hb); have HNb := Lib.hid (HNb.out.keep hb HLb.out); have HLb := Lib.hid HNb.out.lt; have HNc := Lib.hid (HNc.out.keep hb HLc.out); have HLc := Lib.hid HNc.out.lt; have HNd := Lib.hid (HNd.out.keep hb HLd.out); have HLd := Lib.hid HNd.out.lt; have f0 := HNb.out.c0; have f1 := HNb.out.c1; have f2 := HNb.out.c2; have f3 := HNb.out.c3; have f4 := HNb.out.c4; simp only [Nat.zero_add] at f0 f1 f2 f3 f4; have g0 := HNc.out.c0; have g1 := HNc.out.c1; have g2 := HNc.out.c2; have g3 := HNc.out.c3; have g4 := HNc.out.c4; simp only [Nat.zero_add] at g0 g1 g2 g3 g4; have h0 := HNd.out.c0; have h1 := HNd.out.c1; have h2 := HNd.out.c2; have h3 := HNd.out.c3; have h4 := HNd.out.c4; simp only [Nat.zero_add] at h0 h1 h2 h3 h4; have HT := Lib.hid (C.bel HT.out hb); have HB := Lib.hid (HB.out.trans (hb.mono HB.out.size)); clear hb hr hq hqd)
      | (go_at_call 25; (with_reducible refine (HCC.out _ _ _ HT.out).mono ?_); rintro e w7 ⟨⟨t4, rfl, -⟩, hb⟩; have HQB := Lib.hid (HQB.out.keep hb); have HQC := Lib.hid (HQC.out.keep hb); have HQD := Lib.hid (HQD.out.keep hb); have HNb := Lib.hid (HNb.out.keep hb HLb.out); have HLb := Lib.hid HNb.out.lt; have HNc := Lib.hid (HNc.out.keep hb HLc.out); have HLc := Lib.hid HNc.out.lt; have HNd := Lib.hid (HNd.out.keep hb HLd.out); have HLd := Lib.hid HNd.out.lt; have f0 := HNb.out.c0; have f1 := HNb.out.c1; have f2 := HNb.out.c2; have f3 := HNb.out.c3; have f4 := HNb.out.c4; simp only [Nat.zero_add] at f0 f1 f2 f3 f4; have g0 := HNc.out.c0; have g1 := HNc.out.c1; have g2 := HNc.out.c2; have g3 := HNc.out.c3; have g4 := HNc.out.c4; simp only [Nat.zero_add] at g0 g1 g2 g3 g4; have h0 := HNd.out.c0; have h1 := HNd.out.c1; have h2 := HNd.out.c2; have h3 := HNd.out.c3; have h4 := HNd.out.c4; simp only [Nat.zero_add] at h0 h1 h2 h3 h4; have HT := Lib.hid (C.bel HT.out hb); have HB := Lib.hid (HB.out.trans (hb.mono HB.out.size)); clear hb)
      | (go_at_call 25; (with_reducible refine (HCD.out _ _ _ HT.out).mono ?_); rintro e w8 ⟨⟨t5, rfl, -⟩, hb⟩; have HQB := Lib.hid (HQB.out.keep hb); have HQC := Lib.hid (HQC.out.keep hb); have HQD := Lib.hid (HQD.out.keep hb); have HNb := Lib.hid (HNb.out.keep hb HLb.out); have HLb := Lib.hid HNb.out.lt; have HNc := Lib.hid (HNc.out.keep hb HLc.out); have HLc := Lib.hid HNc.out.lt; have HNd := Lib.hid (HNd.out.keep hb HLd.out); have HLd := Lib.hid HNd.out.lt; have f0 := HNb.out.c0; have f1 := HNb.out.c1; have f2 := HNb.out.c2; have f3 := HNb.out.c3; have f4 := HNb.out.c4; simp only [Nat.zero_add] at f0 f1 f2 f3 f4; have g0 := HNc.out.c0; have g1 := HNc.out.c1; have g2 := HNc.out.c2; have g3 := HNc.out.c3; have g4 := HNc.out.c4; simp only [Nat.zero_add] at g0 g1 g2 g3 g4; have h0 := HNd.out.c0; have h1 := HNd.out.c1; have h2 := HNd.out.c2; have h3 := HNd.out.c3; have h4 := HNd.out.c4; simp only [Nat.zero_add] at h0 h1 h2 h3 h4; have HT := Lib.hid (C.bel HT.out hb); have HB := Lib.hid (HB.out.trans (hb.mono HB.out.size)); clear hb))
    go_upto_region 13 with fail
    obtain ⟨WM, hWM⟩ : ∃ WM, WM = w8.alloc (.map #[] 0) := ⟨_, rfl⟩
    have HM0 := Lib.hid (show MP Tryz.prog 32 WM w8.heap.size (ones []) by rw [hWM]; exact MP.made _ _ _)
    have hbm : Below w8.heap.size w8 WM := by rw [hWM]; exact (Below.refl _ w8).alloc (Nat.le_refl _) _
    have HSZ := Lib.hid (show WM.heap.size = w8.heap.size + 1 by rw [hWM]; simp)
    have HQC1 := Lib.hid (HQC.out.keep hbm)
    have HQD1 := Lib.hid (HQD.out.keep hbm)
    have HBM := Lib.hid hbm
    rw [← hWM]
    clear hWM hbm hmm HQC HQD HT HNb HNc HNd HLb HLc HLd HRB HRC HRD HCC HCD HSP HBU HB0 HRZ HRc HRd
    have HO := Lib.hid (World.ownsRow_made (base := WM.heap.size) (e := 32) (size := 1) WM #[] 0 (Nat.le_refl _) (by simp [maxLen]) rfl)
    have HK1 := Lib.hid (((HQC1.out).src HQCN.out).keep ((Below.refl _ WM).alloc (Nat.le_refl _) (.cells #[] 32)))
    rw [HZC.out] at HK1
    obtain ⟨nl, hnl⟩ : ∃ nl, nl = zc + zd := ⟨_, rfl⟩
    have hnl80 : nl ≤ 80 := by omega
    have hnlz : nl = zl := by omega
    have HNL := Lib.hid (show (Zc ++ Zd).length = nl by rw [List.length_append, HZC.out, HZD.out, hnl])
    have hsum : (zc : Int) + (zd : Int) = (zl : Int) := by omega
    have HNLE := Lib.hid hnl
    have HLZ := Lib.hid hnlz
    have hzc80 : zc ≤ 80 := by omega
    have hzd80 : zd ≤ 80 := by omega
    clear hnl hnlz hple
    go_upto_region 14 with (first
      | (at_builtin; refine wpList_list Tryz.info32 rfl (by decide) (by decide) Tryz.underlying43 _ rfl (.tmp 109) (.tmp 110) rfl WM.heap.size (.slice (some ⟨WM.heap.size, 0, none⟩) 0 0) 0 [] rfl HO.out qc zc cc (Zc.map (Value.int .u32)) rfl (by rw [List.length_map, HZC.out, Nat.mul_one]) HK1.out (ints_one _ _) (by omega) (by simp) ?_; intro v4 w10 h1 h2 _; have HR4 := Lib.hid h1; have HB10 := Lib.hid (((Below.refl _ WM).alloc (Nat.le_refl _) (.cells #[] 32)).grown h2 (by simp) (fun k e => by simp [Value.ownBlock] at e; omega)); have HK2 := Lib.hid ((HQD1.out.keep HB10.out).src HQDN.out); rw [HZD.out] at HK2; clear h1 h2)
      | (at_builtin; refine wpList_list Tryz.info32 rfl (by decide) (by decide) Tryz.underlying43 _ rfl (.tmp 111) (.tmp 112) rfl WM.heap.size v4 (0 + zc) ([] ++ Zc.map (Value.int .u32)) rfl HR4.out qd zd cd (Zd.map (Value.int .u32)) rfl (by rw [List.length_map, HZD.out, Nat.mul_one]) HK2.out (ints_one _ _) (by omega) HB10.out.size ?_; intro v5 w11 h1 h2 _; have HB11 := Lib.hid (HB10.out.grown h2 HB10.out.size (fun k e => (HR4.out.lt k e).1)); rw [show [] ++ Zc.map (Value.int .u32) ++ Zd.map (Value.int .u32) = (Zc ++ Zd).map (Value.int .u32) by simp, show 0 + zc + zd = nl by rw [HNLE.out]; omega] at h1; obtain ⟨-, p5, c5, hv5, hn5, -⟩ := row_u h1; have HG5 := Lib.hid (show ∀ b off, p5 = some ⟨b, off, none⟩ → WM.heap.size ≤ b from fun b off e => (h1.lt b (by rw [hv5, e]; rfl)).1); subst hv5; have HN5 := Lib.hid hn5; clear h1 h2 hn5))
    have HB12 := Lib.hid (HBM.out.trans (HB11.out.mono HBM.out.size))
    have HM1 := Lib.hid (show MP Tryz.prog 32 w11 w8.heap.size (ones []) from HM0.out.keep HB11.out)
    clear HM0 HO HK1 HQC1 HQD1 HBM HR4 HB10 HK2 HB11 HQCN HQDN HZC HZD HNLE
    generalize Zc ++ Zd = N at *
    go_loopw [115] (fun v wr => ∃ k : Nat, k ≤ nl ∧ v = .int .i64 k ∧ Hid (MP Tryz.prog 32 wr w8.heap.size (ones (N.take k))) ∧ Hid (NS wr p5 .u32 N) ∧ Hid (Below w8.heap.size w8 wr)) (fun v _ => nl - (intOf v).toNat)
    case atStart => exact ⟨0, Nat.zero_le _, rfl, HM1, HN5, HB12⟩
    case round =>
      clear HM1 HN5 HB12
      obtain ⟨k, hk, rfl, HM, HN, HB2⟩ := hrel
      by_cases hlt : k < nl
      · have hltz : (k : Int) < nl := by omega
        obtain ⟨n, hne⟩ : ∃ n, N[k]? = some n := ⟨_, List.getElem?_eq_getElem (by have := HNL.out; omega)⟩
        have hwf := HCW.out n (List.mem_of_getElem? hne)
        have htk : N.take (k + 1) = N.take k ++ [n] := by rw [List.take_add_one, hne]; rfl
        have hnd : (N.take k ++ [n]).Nodup := htk ▸ (HON.out.sublist (List.take_sublist _ _))
        obtain ⟨hlook, w12, hput, hM2, hO2⟩ := ones_more HM.out hnd hwf (by rw [List.length_take]; omega)
        rw [← htk] at hM2
        have HM2 := Lib.hid hM2
        have HN2 := Lib.hid (HN.out.offF hO2 (fun b off e _ => by have := HG5.out b off e; have := HSZ.out; simp; omega))
        have HB3 := Lib.hid (HB2.out.trans (hO2.below HB2.out.size (by simp)))
        rcases HN.out with h0 | ⟨b, off, rfl, h1⟩
        · rw [h0] at hne; simp at hne
        · have cx := h1 k n hne
          clear h1 hne hwf htk hnd hM2 hO2
          go_wp2_with (first
            | (at_lookup; refine wpList_lookR rfl _ _ _ _ rfl _ _ _ rfl rfl hlook ?_)
            | (at_mapUpdate; refine wpList_putR rfl _ _ _ _ rfl _ _ _ rfl rfl rfl hput ?_))
          go_roundw
          case rel => exact ⟨k + 1, by omega, by go_num, HM2, HN2, HB3⟩
          case measure => simp [intOf]; omega
      · obtain rfl : k = nl := by omega
        have hltz : ¬ (k : Int) < k := by omega
        have HM3 := Lib.hid (show MP Tryz.prog 32 wr w8.heap.size (ones N) by
          have h := HM.out
          rw [List.take_of_length_le (by have := HNL.out; omega)] at h
          exact h)
        have HLN := Lib.hid (show (ones N).length = zl by rw [ones_len, HNL.out, HLZ.out])
        clear HM HN
        go_wp2
        generalize wr = wy at *
        go_loopw [126] (fun v wz => ∃ j : Nat, j ≤ zl ∧ v = .int .i64 j ∧ Hid (Below wy.heap.size wy wz)) (fun v _ => zl - (intOf v).toNat)
        case atStart => exact ⟨0, Nat.zero_le _, rfl, Lib.hid (Below.refl _ _)⟩
        case round =>
          obtain ⟨j, hj1, rfl, HB4⟩ := hrel
          by_cases hlt3 : j < zl
          · have hltz3 : (j : Int) < zl := by omega
            obtain ⟨n, hne⟩ : ∃ n, Z[j]? = some n := ⟨_, List.getElem?_eq_getElem (by have := HZL.out; omega)⟩
            have hmz := List.mem_of_getElem? hne
            have hlook := ones_look (HM3.out.keep HB4.out) (HZW.out n hmz) (HPM.out.mem_iff.2 hmz)
            rcases (HQB.out.keep HB2.out).keep HB4.out with h0 | ⟨b, off, rfl, h1⟩
            · rw [h0] at hne; simp at hne
            · have cx := h1 j n hne
              by_cases hj0 : j = 0
              · subst hj0
                clear h1 hne hmz
                simp only [Nat.add_zero] at cx
                go_wp2_with (at_lookup; refine wpList_lookR rfl _ _ _ _ rfl _ _ _ rfl rfl hlook ?_)
                go_roundw
                case rel => exact ⟨1, by omega, by go_num, HB4⟩
                case measure => simp [intOf]; omega
              · obtain ⟨j', hj'⟩ : ∃ j', j = j' + 1 := ⟨j - 1, by omega⟩
                obtain ⟨y, hye⟩ : ∃ y, Z[j']? = some y := ⟨_, List.getElem?_eq_getElem (by have := HZL.out; omega)⟩
                have cy := h1 j' y hye
                have hyn : y < n := by
                  obtain ⟨g1, e1⟩ := List.getElem?_eq_some_iff.1 hye
                  obtain ⟨g2, e2⟩ := List.getElem?_eq_some_iff.1 hne
                  have := List.pairwise_iff_getElem.1 HUP.out j' j g1 g2 (by omega)
                  rw [e1, e2] at this
                  exact this
                have hjz : (0 : Int) < (j : Int) := by omega
                have hjs : (j : Int) - 1 = (j' : Int) := by omega
                have hjl : (j' : Int) < zl := by omega
                have hny : ¬ n ≤ y := by omega
                clear h1 hne hmz hye hj' hj0
                go_wp2_with (at_lookup; refine wpList_lookR rfl _ _ _ _ rfl _ _ _ rfl rfl hlook ?_)
                go_roundw
                case rel => exact ⟨j + 1, by omega, by go_num, HB4⟩
                case measure => simp [intOf]; omega
          · obtain rfl : j = zl := by omega
            have hltz3 : ¬ (j : Int) < j := by omega
            have hlen := fun ty => (HM3.out.keep HB4.out).len Tryz.underlying51 ty
            rw [HLN.out] at hlen
            go_wp2_with (go_at_call 15; (with_reducible refine (HAW.out _).mono ?_); rintro e w20 ⟨rfl, hb⟩; have HB5 := Lib.hid (((HB.out.trans (HB2.out.mono HB.out.size)).trans (HB4.out.mono (HB.out.trans (HB2.out.mono HB.out.size)).size))); have HB6 := Lib.hid (HB5.out.trans (hb.mono HB5.out.size)); clear hb)
            go_ret
            exact ⟨rfl, HB6.out⟩
  · have HRG := Lib.hid hrg
    unfold bv
    simp only
    clear hx hc hw hp hrg hb
    generalize L.length = m at *
    go_enter Tryz.func5, Tryz.ntmps5
    go_upto_block 0 with fail
    rw [HW1.out]
    go_wp2_with (first
      | (go_at_call 16; (with_reducible refine (HBU.out _ HB0.out).mono ?_); rintro e w1 ⟨hb, hor⟩; rcases hor with ⟨hn, -⟩ | ⟨-, v, S, rfl, -, -⟩; (exact absurd hn HRG.out); have HB := Lib.hid (HB0.out.trans (hb.mono HB0.out.size)); clear hb)
      | (go_at_call 15; (with_reducible refine (HAW.out _).mono ?_); rintro e w9 ⟨rfl, hb⟩; have HB := Lib.hid (HB.out.trans (hb.mono HB.out.size)); clear hb))
    go_ret
    exact ⟨rfl, HB.out⟩

set_option maxRecDepth 100000 in
set_option maxHeartbeats 6400000 in
theorem split_walk {TS : World → Value → Nat → List Nat → List S3 → Prop} (C : BandC TS) (w : World) (p : Option Addr) (c : Nat) (L : List S3) (b : B5) (ax : Int) (wide : Bool) (hx : TsS w p L) (hc : L.length ≤ c) (hp : p = none → c = 0) (hw : ∀ s ∈ L, Wf3 s) (hb : Wf5 b) (hat : (Lit.int .i64 ax).wf = true) :
    Calls Tryz.prog 5 #[.slice p L.length c, bv b, .int .i64 ax, .bool wide] w fun e w' => e = .returned (.bool true) ∧ Below w.heap.size w w' := by
  have HAW := Lib.hid (awake_any C)
  obtain ⟨⟨x1, x2, y1, y2⟩, bi⟩ := b
  obtain ⟨W, hW⟩ : ∃ W, W = w.alloc (.cells (bvs ((x1, x2, y1, y2), bi)).toArray 42) := ⟨_, rfl⟩
  have HNb := Lib.hid (show X1 W w.heap.size 0 ((x1, x2, y1, y2), bi) by rw [hW]; exact X1.new w _ _)
  have HB0 := Lib.hid (show Below w.heap.size w W by rw [hW]; exact (Below.refl _ w).alloc (Nat.le_refl _) _)
  have HW1 := Lib.hid (show w.alloc (.cells #[.int .i64 x1, .int .i64 x2, .int .i64 y1, .int .i64 y2, .int .u32 bi] 42) = W from hW.symm)
  clear hW
  have a0 := HNb.out.c0
  have a1 := HNb.out.c1
  have a2 := HNb.out.c2
  have a3 := HNb.out.c3
  have a4 := HNb.out.c4
  simp only [Nat.zero_add] at a0 a1 a2 a3 a4
  by_cases hbig : L.length ≤ 80
  · have hbz : ¬ (80 : Int) < L.length := by omega
    cases wide with
    | true =>
      by_cases h1 : x1 ≤ ax
      · by_cases h2 : ax < x2
        · exact bsplit_wide C w p c L x1 x2 y1 y2 bi ax hx hc hp hw hb hat hbig h1 h2
        · have h3 : ¬ ax < x1 := by omega
          have h4 : x2 ≤ ax := by omega
          unfold bv
          simp only
          clear hx hc hp hw hb hat hbig h1 h2
          generalize L.length = m at *
          go_enter Tryz.func5, Tryz.ntmps5
          go_upto_block 0 with fail
          rw [HW1.out]
          go_wp2_with (go_at_call 15; (with_reducible refine (HAW.out _).mono ?_); rintro e w9 ⟨rfl, hb⟩; have HB := Lib.hid (HB0.out.trans (hb.mono HB0.out.size)); clear hb)
          go_ret
          exact ⟨rfl, HB.out⟩
      · have h3 : ax < x1 := by omega
        unfold bv
        simp only
        clear hx hc hp hw hb hat hbig h1
        generalize L.length = m at *
        go_enter Tryz.func5, Tryz.ntmps5
        go_upto_block 0 with fail
        rw [HW1.out]
        go_wp2_with (go_at_call 15; (with_reducible refine (HAW.out _).mono ?_); rintro e w9 ⟨rfl, hb⟩; have HB := Lib.hid (HB0.out.trans (hb.mono HB0.out.size)); clear hb)
        go_ret
        exact ⟨rfl, HB.out⟩
    | false =>
      by_cases h1 : y1 ≤ ax
      · by_cases h2 : ax < y2
        · exact bsplit_tall C w p c L x1 x2 y1 y2 bi ax hx hc hp hw hb hat hbig h1 h2
        · have h3 : ¬ ax < y1 := by omega
          have h4 : y2 ≤ ax := by omega
          unfold bv
          simp only
          clear hx hc hp hw hb hat hbig h1 h2
          generalize L.length = m at *
          go_enter Tryz.func5, Tryz.ntmps5
          go_upto_block 0 with fail
          rw [HW1.out]
          go_wp2_with (go_at_call 15; (with_reducible refine (HAW.out _).mono ?_); rintro e w9 ⟨rfl, hb⟩; have HB := Lib.hid (HB0.out.trans (hb.mono HB0.out.size)); clear hb)
          go_ret
          exact ⟨rfl, HB.out⟩
      · have h3 : ax < y1 := by omega
        unfold bv
        simp only
        clear hx hc hp hw hb hat hbig h1
        generalize L.length = m at *
        go_enter Tryz.func5, Tryz.ntmps5
        go_upto_block 0 with fail
        rw [HW1.out]
        go_wp2_with (go_at_call 15; (with_reducible refine (HAW.out _).mono ?_); rintro e w9 ⟨rfl, hb⟩; have HB := Lib.hid (HB0.out.trans (hb.mono HB0.out.size)); clear hb)
        go_ret
        exact ⟨rfl, HB.out⟩
  · have hbz : (80 : Int) < L.length := by omega
    unfold bv
    simp only
    clear hx hc hp hw hb hat hbig
    generalize L.length = m at *
    go_enter Tryz.func5, Tryz.ntmps5
    go_upto_block 0 with fail
    rw [HW1.out]
    go_wp2_with (go_at_call 15; (with_reducible refine (HAW.out _).mono ?_); rintro e w9 ⟨rfl, hb⟩; have HB := Lib.hid (HB0.out.trans (hb.mono HB0.out.size)); clear hb)
    go_ret
    exact ⟨rfl, HB.out⟩
end Go.Proofs.YtfcpfffgodljeaaGreat
