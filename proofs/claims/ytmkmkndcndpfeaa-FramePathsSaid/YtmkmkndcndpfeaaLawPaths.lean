/-
  FramePaths: a path goes from the root to its leaf, from each node to one of its kids; it is short; of each leaf of a range just one node of its path is canonical, of others none. For all numbers; no condition.
-/
import Derived.Test.YtmkmkndcndpfeaaFp
import Derived.Test.YtmkmkndcndpfeaaFaw
import Derived.Test.YtmkmkndcndpfeaaLift
namespace Go.Proofs.Ytmkmkndcndpfeaa
open Go.ChangeShapes Go.WideShapes Go.ChangeAt Go.RowKit Go.Joins

theorem HW1 {w w1 X : World} (h : Below w.heap.size w w1) (g : Below w1.heap.size w1 X) : Below w.heap.size w X := h.trans (g.mono h.size)
theorem ints_get {C : List Nat} {j k : Nat} (e : C[j]? = some k) : (ints C)[j]? = some (k : Int) := by
  unfold ints
  rw [List.getElem?_map, e]
  rfl

set_option maxRecDepth 100000 in
set_option maxHeartbeats 6400000 in
theorem paths_walk (a p1 p2 p3 : Int) (w : World) (ha : 0 ≤ a ∧ a ≤ 65535) :
    Calls Try.prog 6 #[.int .u16 a, .int .i64 p1, .int .i64 p2, .int .i64 p3] w fun e w' => e = .returned (.bool true) ∧ Below w.heap.size w w' := by
  obtain ⟨a', rfl⟩ : ∃ a' : Nat, a = a' := ⟨a.toNat, by omega⟩
  obtain ⟨m, hz, hm, hm1⟩ : ∃ m : Nat, (a' : Int) % 1500 + 1 = m ∧ m ≤ 1500 ∧ 1 ≤ m := ⟨a' % 1500 + 1, by omega, by omega, by omega⟩
  have ha2 : a' ≤ 65535 := by omega
  clear ha
  have hM := made_any w m hm
  have hlen := ndN_len m
  obtain ⟨L, hL⟩ : ∃ L, L = ndN m := ⟨_, rfl⟩
  have HL := Lib.hid hL
  rw [← hL] at hM hlen
  obtain ⟨z, hzl⟩ : ∃ z, z = L.length := ⟨_, rfl⟩
  have HZ := Lib.hid hzl
  rw [← hzl] at hM hlen
  have HM := Lib.hid hM
  have HRG := Lib.hid (fun X => ranged_any X m p1 p2 hm)
  have HPK := Lib.hid (fun X => Pick_any X p3 m hm1 (by omega))
  have HCA : Hid (∀ X B d pp x y, FR X B m d pp → x ≤ y → y ≤ m → Calls Try.prog 12 #[.pointer (some ⟨B, 0, none⟩), .int .i64 x, .int .i64 y] X fun e w' => ∃ p c, e = .returned (.tuple #[.slice p (cnF m x y).1.length c, .int .i64 ((cnF m x y).2 : Nat), .int .i64 0]) ∧ NS w' p .i64 (ints (cnF m x y).1) ∧ Below X.heap.size X w') := Lib.hid (fun X B d pp x y h hxy hy => by
    refine (FCanon_any X B m d pp h x y hxy hy hm).mono ?_
    rintro e w' ⟨v, rfl, hr, hb⟩
    obtain ⟨p, c, rfl, hp⟩ := row_ints hr
    exact ⟨p, c, rfl, hp, hb⟩)
  obtain ⟨r, hr⟩ : ∃ r, r = 2 * m - 2 := ⟨_, rfl⟩
  have HRO : Hid (∀ X B d pp, FR X B m d pp → Calls Try.prog 18 #[.pointer (some ⟨B, 0, none⟩)] X fun e w' => e = .returned (.int .i64 r) ∧ Below X.heap.size X w') := Lib.hid (fun X B d pp h => Root_any X B m r d pp h hm1 (by omega) (by omega))
  have hL2 : lgI m ≤ 1500 := by have := ht_le (tr m); rw [ht_tr (by omega) (by omega), lv_tr (by omega)] at this; simp only [lgI, Int.toNat_natCast]; omega
  have HLG : Hid (∀ X, Calls Try.prog 24 #[.int .i64 m] X fun e w' => e = .returned (.int .i64 (lgI m)) ∧ w' = X) := Lib.hid (fun X => Log_any m X (by omega))
  have hzb : (z : Int) ≤ 3000 := by omega
  have HZZ := Lib.hid hlen
  have HR := Lib.hid hr
  clear hM hL hzl hlen hr
  go_enter Try.func6, Try.ntmps6
  go_upto_region 6 with (first
    | (go_at_call 21; (with_reducible refine HM.out.mono ?_); rintro e w1 ⟨v, bl, rfl, hFS, hbl, hB, hrow, hnot⟩; obtain ⟨hll, p, c, rfl, hN, -⟩ := row_nds hrow; obtain ⟨d, pp, hfr⟩ := hFS.fr; have HFR := Lib.hid hfr; have HB := Lib.hid hB; have HN := Lib.hid hN; clear hFS hbl hB hrow hnot hfr hN hll)
    | (go_at_call 26; (with_reducible refine (HPK.out _).mono ?_); rintro e w2 ⟨lf, rfl, hlf, rfl⟩))
  have hplen := ptF_len (leaf := lf) hm1 hm
  obtain ⟨tl, hP, hPW⟩ := ptF_walk hlf
  have hmet := fun x y => cnF_met (x := x) (y := y) hlf
  obtain ⟨ini, last, hp1, hp2⟩ := cnF_one hlf
  have HPA : Hid (∀ X, FR X w.heap.size m d pp → Calls Try.prog 15 #[.pointer (some ⟨w.heap.size, 0, none⟩), .int .i64 lf] X fun e w' => ∃ g c, e = .returned (.tuple #[.slice (some ⟨g, 0, none⟩) (ptF m lf).length c, .int .i64 0]) ∧ RB .i64 3 w' g c (ints (ptF m lf)) ∧ X.heap.size ≤ g ∧ Below X.heap.size X w') := Lib.hid (fun X h => by
    refine (FPath_any X _ m d pp h lf hlf hm).mono ?_
    rintro e w' ⟨v, rfl, hr, hb⟩
    obtain ⟨g, c, rfl, hg, hRB⟩ := rb_of hr (by have := (pt_len lf (tr m) 0 0).1; omega)
    exact ⟨g, c, rfl, hRB, hg, hb⟩)
  obtain ⟨P, hPe⟩ : ∃ P, P = ptF m lf := ⟨_, rfl⟩
  rw [← hPe] at hplen hP hp1 hp2 HPA
  simp only [← hPe] at hmet
  rw [← HL.out, ← HR.out] at hPW
  rw [← HR.out] at hP
  obtain ⟨np, hnp⟩ : ∃ np, np = P.length := ⟨_, rfl⟩
  rw [← hnp] at hplen hp2 HPA
  have HNP := Lib.hid hnp
  have HP := Lib.hid hP
  have HPW := Lib.hid hPW
  have HMET := Lib.hid hmet
  have HP1 := Lib.hid hp1
  have HP2 := Lib.hid hp2
  have hnp1 : 1 ≤ np := by rw [hnp, hP]; simp
  clear hP hPW hmet hp1 hp2 hnp hPe HPK HL
  go_upto_region 7 with (go_at_call 15; (with_reducible refine (HPA.out _ HFR.out).mono ?_); rintro e w3 ⟨gp, cp, rfl, hRB, hgp, hb⟩; have HFR := Lib.hid (HFR.out.keep hb); have HN := Lib.hid (HN.out.keep hb); have HB := Lib.hid (HW1 HB.out hb); have HRB := Lib.hid hRB; clear hb hRB hgp)
  have hz1 : ((np : Int) == 0) = false := by simp; omega
  have hz2 : ¬ ((lgI m : Int) + 1 < (np : Int)) := by omega
  obtain ⟨h, hh⟩ : ∃ h, h = lgI m := ⟨_, rfl⟩
  rw [← hh] at HLG hL2 hz2
  have c0 : ∀ s : Wd (Bw w3), s.w.cell? ⟨gp, 0, none⟩ = some (.int .i64 r) := fun s => Bw.cell s (HRB.out.cell (ints_get (by rw [HP.out]; rfl)))
  have k1 : Hid (∀ s : Wd (Bw w3), Calls Try.prog 24 #[.int .i64 m] s.w fun e w' => e = .returned (.int .i64 h) ∧ Below s.w.heap.size s.w w') := Lib.hid (fun s => (HLG.out s.w).mono (fun e w' hh => ⟨hh.1, hh.2 ▸ Below.refl _ _⟩))
  have k2 : Hid (∀ s : Wd (Bw w3), Calls Try.prog 18 #[.pointer (some ⟨w.heap.size, 0, none⟩)] s.w fun e w' => e = .returned (.int .i64 r) ∧ Below s.w.heap.size s.w w') := Lib.hid (fun s => HRO.out s.w _ d pp (HFR.out.keep s.h))
  have hkp : Hid (∀ X w', Bw w3 X → Below X.heap.size X w' → Bw w3 w') := Lib.hid (fun X w' hX hb => Bw.keep hX hb)
  have inst : Nonempty (Wd (Bw w3)) := ⟨⟨w3, Below.refl _ _⟩⟩
  clear hh HM HPA
  refine wp_region_wd (Bw w3) (by kernel_rfl) (by kernel_rfl) ((Below.refl _ w3).drew) ?_
  repeat (first | go_big_quiet_step (first | (go_at_call 24; with_reducible exact calls_wd hkp.out _ (k1.out _)) | (go_at_call 18; with_reducible exact calls_wd hkp.out _ (k2.out _))) | quiet_step (first | (go_at_call 24; with_reducible exact calls_wd hkp.out _ (k1.out _)) | (go_at_call 18; with_reducible exact calls_wd hkp.out _ (k2.out _))))
  refine wpQuiet_nil ?_
  rintro _ ⟨s, rfl⟩
  have HB4 := Lib.hid (show Below w3.heap.size w3 s.w from s.h)
  have HFR := Lib.hid (HFR.out.keep HB4.out)
  have HN := Lib.hid (HN.out.keep HB4.out)
  have HRB := Lib.hid (HRB.out.keep HB4.out HRB.out.lt)
  have HB := Lib.hid (HW1 HB.out HB4.out)
  obtain ⟨w4, hw4⟩ : ∃ w4, w4 = s.w := ⟨_, rfl⟩
  rw [← hw4] at HFR HN HRB HB
  rw [← hw4]
  clear hw4 c0 k1 k2 hkp inst HB4 HLG HRO
  go_upto_region 10 with fail
  obtain ⟨bn, off, rfl, hN⟩ : ∃ bn off, p = some ⟨bn, off, none⟩ ∧ Nds w4 bn off L := by
    rcases HN.out with h | h
    · have h1 := HZ.out
      have h2 := HZZ.out
      rw [h] at h1
      simp at h1
      omega
    · exact h
  have HN := Lib.hid hN
  have hnpb : np ≤ 1501 := by omega
  clear hN
  go_loopw [78] (fun i wr => ∃ k : Nat, k ≤ np ∧ i = .int .i64 k ∧ wr = w4) (fun i _ => np - (intOf i).toNat)
  case atStart => exact ⟨0, Nat.zero_le _, rfl, rfl⟩
  case round =>
    obtain ⟨i, hi, rfl, rfl⟩ := hrel
    by_cases hlt : i < np
    · have hltz : (i : Int) < np := by omega
      obtain ⟨k, hk⟩ : ∃ k, P[i]? = some k := ⟨_, List.getElem?_eq_getElem (by have := HNP.out; omega)⟩
      have hck := HRB.out.cell (ints_get hk)
      have hk2 := hk
      rw [HP.out] at hk2
      obtain ⟨n, hn, hf, ht, hpar, -⟩ := HPW.out.at hk2
      have hkz : (k : Int) < z := by have := (List.getElem?_eq_some_iff.1 hn).1; have := HZ.out; omega
      have hkz2 : ¬ (z : Int) ≤ k := by omega
      have hn1 := HN.out k n hn
      have n3 := hn1.c3
      have n4 := hn1.c4
      have e1 : ¬ (lf : Int) < n.2.2.2.1 := by simp only [nf] at hf; omega
      have e2 : ¬ n.2.2.2.2.1 ≤ (lf : Int) := by simp only [nt] at ht; omega
      by_cases hi0 : i = 0
      · have hi1 : ¬ (0 : Int) < (i : Int) := by omega
        clear hpar hn1 hn hk hk2 hf ht hi0
        go_wp2
        go_roundw
        case rel => exact ⟨i + 1, by omega, by go_num, by trivial⟩
        case measure => simp [intOf]; omega
      · obtain ⟨i0, hi1⟩ : ∃ i0, i = i0 + 1 := ⟨i - 1, by omega⟩
        have hi2 : (0 : Int) < (i : Int) := by omega
        have hi3 : (i : Int) - 1 = i0 := by omega
        have hi4 : (i0 : Int) < np := by omega
        obtain ⟨p, mm, hp, hm2, hkid⟩ := hpar i0 hi1
        rw [← HP.out] at hp
        have hcp := HRB.out.cell (ints_get hp)
        have hpz : (p : Int) < z := by have := (List.getElem?_eq_some_iff.1 hm2).1; have := HZ.out; omega
        have hm3 := HN.out p mm hm2
        have q1 := hm3.c1
        have q2 := hm3.c2
        clear hpar hn1 hn hk hk2 hf ht hp hm2 hm3 hi0
        have HI1 := Lib.hid hi1
        clear hi1
        obtain ⟨mk, ml, mr, mf, mt2, ma, mi⟩ := mm
        simp only [nl, nr] at hkid q1 q2
        by_cases hlk : ml = k
        · subst hlk
          clear hkid
          go_wp2
          go_roundw
          case rel => exact ⟨i + 1, by omega, by go_num, by trivial⟩
          case measure => simp [intOf]; omega
        · obtain rfl : mr = k := by omega
          clear hkid
          go_wp2
          go_roundw
          case rel => exact ⟨i + 1, by omega, by go_num, by trivial⟩
          case measure => simp [intOf]; omega
    · have hltz : ¬ (i : Int) < np := by omega
      obtain rfl : i = np := by omega
      obtain ⟨i0, hi1⟩ : ∃ i0, i = i0 + 1 := ⟨i - 1, by omega⟩
      have hi3 : (i : Int) - 1 = i0 := by omega
      have hi4 : (i0 : Int) < i := by omega
      have hi5 : i0 = tl.length := by have h1 := HNP.out; rw [HP.out] at h1; simp at h1; omega
      have hi6 : i0 = ini.length := by have h1 := HNP.out; rw [HP1.out] at h1; simp at h1; omega
      have hk : P[i0]? = some last := by rw [HP1.out, hi6]; simp
      have hcl := HRB.out.cell (ints_get hk)
      have hk2 := hk
      rw [HP.out] at hk2
      obtain ⟨n, hn, -, -, -, hlast⟩ := HPW.out.at hk2
      have hkz : (last : Int) < z := by have := (List.getElem?_eq_some_iff.1 hn).1; have := HZ.out; omega
      have hn1 := HN.out last n hn
      rw [hlast hi5] at hn1
      have n0 := hn1.c0
      have n1 := hn1.c1
      have n2 := hn1.c2
      have n3 := hn1.c3
      have n4 := hn1.c4
      have n5 := hn1.c5
      have n6 := hn1.c6
      simp only at n0 n1 n2 n3 n4 n5 n6
      have HI5 := Lib.hid hi5
      have HI6 := Lib.hid hi6
      have HI1 := Lib.hid hi1
      clear hk hk2 hn hlast hn1 hi5 hi6 hi1
      go_upto_region 18 with fail
      obtain ⟨w5, hw5⟩ : ∃ w5, w5 = wr.alloc (.cells #[.int .u8 1, .int .i64 (-1), .int .i64 (-1), .int .i64 lf, .int .i64 ((lf : Int) + 1), .int .i64 0, .int .i64 lf] 50) := ⟨_, rfl⟩
      rw [← hw5]
      have hb5 : Below wr.heap.size wr w5 := by rw [hw5]; exact (Below.refl _ wr).alloc (Nat.le_refl _) _
      have HFR := Lib.hid (HFR.out.keep hb5)
      have HRB := Lib.hid (HRB.out.keep hb5 HRB.out.lt)
      have HB := Lib.hid (HW1 HB.out hb5)
      clear hw5 hb5 n0 n1 n2 n3 n4 n5 n6 hcl HN HPW HP hkz
      go_upto_region 22 with (first
        | (go_at_call 25; (with_reducible refine (HRG.out _).mono ?_); rintro e w6 ⟨x, y, rfl, hxy, hym, rfl⟩)
        | (go_at_call 12; (with_reducible refine (HCA.out _ _ _ _ _ _ HFR.out hxy hym).mono ?_); rintro e w7 ⟨pc, cc, rfl, hn, hb⟩; have HNC := Lib.hid hn; have HFR := Lib.hid (HFR.out.keep hb); have HRB := Lib.hid (HRB.out.keep hb HRB.out.lt); have HB := Lib.hid (HW1 HB.out hb); clear hb hn))
      have hmet := HMET.out x y
      obtain ⟨C, hC⟩ : ∃ C, C = (cnF m x y).1 := ⟨_, rfl⟩
      rw [← hC] at hmet HNC ⊢
      obtain ⟨q, hq⟩ : ∃ q, q = C.length := ⟨_, rfl⟩
      rw [← hq]
      have HQ := Lib.hid hq
      have HMT := Lib.hid hmet
      have hmle : ∀ j, mt (C.take j) P ≤ 1 := fun j => by
        have h1 := mt_append (C.take j) (C.drop j) P
        rw [List.take_append_drop, hmet] at h1
        split at h1 <;> omega
      have HMLE := Lib.hid hmle
      have hq3 : q ≤ 1500 := by
        rw [hq, hC]
        unfold cnF
        split
        · simp
        · have := (cn_len x y (tr m) 0 0).1
          rw [lv_tr (by omega)] at this
          omega
      clear hmet hmle hC hq HMET HRG
      go_loopw [24, 175] (fun v o wr2 => ∃ j u : Nat, j ≤ q ∧ o = .int .i64 j ∧ v = .int .i64 u ∧ u ≤ 1 ∧ Hid (u = mt (C.take j) P) ∧ wr2 = w7) (fun _ o _ => q - (intOf o).toNat)
      case atStart => exact ⟨0, 0, Nat.zero_le _, rfl, rfl, by omega, Lib.hid rfl, rfl⟩
      case round =>
        obtain ⟨j, u, hj, rfl, rfl, hu, HU, rfl⟩ := hrel
        by_cases hlt2 : j < q
        · have hltz2 : (j : Int) < q := by omega
          obtain ⟨k, hk⟩ : ∃ k, C[j]? = some k := ⟨_, List.getElem?_eq_getElem (by have := HQ.out; omega)⟩
          obtain ⟨bc, oc, rfl, hc0⟩ : ∃ bc oc, pc = some ⟨bc, oc, none⟩ ∧ Ns wr bc oc .i64 (ints C) := by
            rcases HNC.out with h | h
            · have := ints_get hk
              rw [h] at this
              simp at this
            · exact h
          have hck := hc0 j _ (ints_get hk)
          have hst : mt (C.take (j + 1)) P = mt (C.take j) P + P.count k := by rw [List.take_add_one, hk]; exact mt_snoc _ _ _
          have HST := Lib.hid hst
          clear hc0 hst hk
          go_upto_region 25 with fail
          go_loopw [24, 181] (fun v o wr3 => ∃ g u2 : Nat, g ≤ i ∧ o = .int .i64 g ∧ v = .int .i64 u2 ∧ u2 ≤ 1 ∧ Hid (u2 = mt (C.take j) P + (P.take g).count k) ∧ wr3 = wr) (fun _ o _ => i - (intOf o).toNat)
          case atStart => exact ⟨0, u, Nat.zero_le _, rfl, rfl, hu, Lib.hid (by rw [HU.out]; simp), rfl⟩
          case round =>
            obtain ⟨g, u2, hg, rfl, rfl, hu2, HU2, rfl⟩ := hrel
            by_cases hlt3 : g < i
            · have hltz3 : (g : Int) < i := by omega
              obtain ⟨k2, hk2⟩ : ∃ k2, P[g]? = some k2 := ⟨_, List.getElem?_eq_getElem (by have := HNP.out; omega)⟩
              have hcp := HRB.out.cell (ints_get hk2)
              have hst : (P.take (g + 1)).count k = (P.take g).count k + if k2 = k then 1 else 0 := by
                rw [List.take_add_one, hk2, List.count_append]
                simp [List.count_cons]
              have hle : (P.take (g + 1)).count k ≤ P.count k := by
                have := List.take_append_drop (g + 1) P
                have h2 : (P.take (g + 1) ++ P.drop (g + 1)).count k = P.count k := by rw [this]
                rw [List.count_append] at h2
                omega
              have hle2 := HMLE.out (j + 1)
              rw [HST.out] at hle2
              by_cases hkk : k2 = k
              · subst hkk
                rw [if_pos rfl] at hst
                have hu3 : u2 < 1 := by have := HU2.out; omega
                have HU3 : Hid (u2 + 1 = mt (C.take j) P + (P.take (g + 1)).count k2) := Lib.hid (by have := HU2.out; omega)
                clear hst hle hle2 hk2
                go_wp2
                go_roundw
                case rel => exact ⟨g + 1, u2 + 1, by omega, by go_num, by go_num, by omega, HU3, by trivial⟩
                case measure => simp [intOf]; omega
              · rw [if_neg hkk] at hst
                have hkz : ((k2 : Int) == k) = false := by simp; omega
                have HU3 : Hid (u2 = mt (C.take j) P + (P.take (g + 1)).count k) := Lib.hid (by have := HU2.out; omega)
                clear hst hle hle2 hk2
                go_wp2
                go_roundw
                case rel => exact ⟨g + 1, u2, by omega, by go_num, rfl, by omega, HU3, by trivial⟩
                case measure => simp [intOf]; omega
            · have hltz3 : ¬ (g : Int) < i := by omega
              obtain rfl : g = i := by omega
              have HU3 : Hid (u2 = mt (C.take (j + 1)) P) := Lib.hid (by rw [HU2.out, HST.out, show P.take g = P from List.take_of_length_le (by have := HNP.out; omega)])
              go_wp2
              go_roundw
              case rel => exact ⟨j + 1, u2, by omega, by go_num, rfl, by omega, HU3, by trivial⟩
              case measure => simp [intOf]; omega
        · have hltz2 : ¬ (j : Int) < q := by omega
          obtain rfl : j = q := by omega
          have hu2 := HU.out
          rw [List.take_of_length_le (by have := HQ.out; omega), HMT.out] at hu2
          have hcase : (u = 1 ∧ (x : Int) ≤ lf ∧ (lf : Int) < y) ∨ (u = 0 ∧ ((¬ (x : Int) ≤ lf) ∨ (x : Int) ≤ lf ∧ ¬ (lf : Int) < y)) := by
            split at hu2 <;> omega
          have hcap : i ≤ cp := by
            obtain ⟨cur, h1, h2, h3, h4, h5⟩ := HRB.out
            have := HNP.out
            rw [ints_len] at h2
            omega
          obtain ⟨ps, hps, hsl⟩ := sl_from gp 0 i cp i0 (by omega) hcap
          have hone : i - i0 = 1 := by have := HI1.out; omega
          rw [hone] at hsl
          have hps2 := hps (by omega)
          subst hps2
          rw [Nat.zero_add] at hsl
          have HNL : Hid (NS wr (some ⟨gp, i0, none⟩) .i64 [(last : Int)]) := Lib.hid (.inr ⟨gp, i0, rfl, fun j x e => by
            cases j with
            | zero =>
              simp at e
              subst e
              have := HRB.out.cell (ints_get (show P[i0]? = some last by rw [HP1.out, HI6.out]; simp))
              simpa using this
            | succ j => simp at e⟩)
          have HONE : Hid (Calls Try.prog 12 #[.pointer (some ⟨w.heap.size, 0, none⟩), .int .i64 lf, .int .i64 ((lf : Int) + 1)] wr fun e w' => ∃ p c, e = .returned (.tuple #[.slice p 1 c, .int .i64 (2 * (i : Int) - 1), .int .i64 0]) ∧ NS w' p .i64 [(last : Int)] ∧ Below wr.heap.size wr w') := Lib.hid (by
            have := HCA.out wr w.heap.size d pp lf (lf + 1) HFR.out (by omega) (by omega)
            rw [HP2.out] at this
            refine this.mono ?_
            rintro e w' ⟨p, c, rfl, h1, h2⟩
            refine ⟨p, c, ?_, h1, h2⟩
            have he : ((2 * i - 1 : Nat) : Int) = 2 * (i : Int) - 1 := by omega
            simp only [List.length_singleton, he])
          clear HMT HMLE HQ HNC HU hu2 hps hone HP1 HP2 HI1 HI5 HI6 HNP HRB HFR HCA
          have HIN : Hid (∀ X p c q2 c2, NS X p .i64 [(last : Int)] → NS X q2 .i64 [(last : Int)] → Calls Try.prog 14 #[.slice p 1 c, .slice q2 1 c2] X fun e w' => e = .returned (.bool true) ∧ Below X.heap.size X w') := Lib.hid (fun X p c q2 c2 h1 h2 => by
            have := ints_any X p q2 c c2 [(last : Int)] [(last : Int)] h1 h2 (by simp)
            rw [decide_eq_true rfl] at this
            exact this)
          rcases hcase with ⟨rfl, hi1, hi2⟩ | ⟨rfl, hi1 | ⟨hi1, hi2⟩⟩
          all_goals go_wp2_with (first
            | (go_at_call 12; (with_reducible refine HONE.out.mono ?_); rintro e w8 ⟨p1', c1', rfl, hn, hb⟩; have HNL := Lib.hid (HNL.out.keep hb); have HNO := Lib.hid hn; have HB := Lib.hid (HW1 HB.out hb); clear hb hn)
            | (go_at_call 14; (with_reducible refine (HIN.out _ _ _ _ _ HNO.out HNL.out).mono ?_); rintro e w9 ⟨rfl, hb⟩; have HB := Lib.hid (HW1 HB.out hb); clear hb)
            | (go_at_call 9; (with_reducible refine (awake_any _).mono ?_); rintro e w10 ⟨rfl, hb⟩; have HB := Lib.hid (HW1 HB.out hb); clear hb))
          all_goals go_ret
          all_goals first | exact ⟨rfl, HB.out⟩ | (refine ⟨retb ?_, HB.out⟩; simp; omega)

/- the row -/
set_option maxRecDepth 100000 in
theorem pathslaw_lifted (os : Os) (started : os.Started) (H : Type) (enc : TypeId × Value → H) :
    ReturnsInHanded {} Try.checked os 6 .any (Rows.framePathsSpec.pre6 enc Try.prog Try.f6 Rows.framePathsRow.domain false) (Rows.framePathsSpec.post enc Try.prog Try.f6 false true false false) := by
  refine returnsInHanded_of_change (C := Try.checked) Try.own started (by kernel_rfl) Try.func6
    (ChangeSpec.witness6 (enc := enc) (C := Try.checked) false ⟨#[], #[.int .u16 0, .int .i64 0, .int .i64 0, .int .i64 0], []⟩ 8 (by kernel_rfl) (by kernel_rfl) (by kernel_rfl) (by kernel_rfl)) ?_
  intro W base args ds gs before hval0 hW hcnd _
  have hval : ∀ (j : Nat) t v, Try.f6.params[j]? = some t → args[j]? = some v → Value.okWide Try.prog W .any base t v := hval0
  have hW' := hW
  obtain ⟨p, q, hA0, hV, rfl, hfz, hnd⟩ := hW
  have hA : DataW.TrodAll enc Try.prog W 0 (fun _ => true) true Try.f6.params.toList args.toList ds p := hA0
  rw [Try.params6] at hA hval
  obtain ⟨v0, vs0, d0, ds0, p0, q0, hargs, rfl, rfl, h0, r0⟩ := trodAll_cons hA
  obtain ⟨v1, vs1, d1, ds1, p1, q1, rfl, rfl, rfl, h1, r1⟩ := trodAll_cons r0
  obtain ⟨v2, vs2, d2, ds2, p2, q2, rfl, rfl, rfl, h2, r2⟩ := trodAll_cons r1
  obtain ⟨v3, vs3, d3, ds3, p3, q3, rfl, rfl, rfl, h3, r3⟩ := trodAll_cons r2
  obtain ⟨rfl, rfl, rfl⟩ := trodAll_nil r3
  obtain rfl : args = #[v0, v1, v2, v3] := by cases args; simp_all
  obtain ⟨rfl, rfl⟩ := trodVars_none hV
  obtain ⟨a0, rfl, rfl, rfl, w0⟩ := open_int Try.underlying42 (hval 0 42 v0 rfl rfl) h0
  obtain ⟨a1, rfl, rfl, rfl, w1⟩ := open_int Try.underlying3 (hval 1 3 v1 rfl rfl) h1
  obtain ⟨a2, rfl, rfl, rfl, w2⟩ := open_int Try.underlying3 (hval 2 3 v2 rfl rfl) h2
  obtain ⟨a3, rfl, rfl, rfl, w3⟩ := open_int Try.underlying3 (hval 3 3 v3 rfl rfl) h3
  clear hA0 hval0
  simp only [List.append_nil] at hW'
  refine (paths_walk _ _ _ _ W (by simpa [Lit.wf, show IntKind.u16.min = 0 from rfl, show IntKind.u16.max = 65535 from rfl] using w0)).mono fun e W' ⟨he, hb⟩ => ?_
  subst he
  have hR : DataW.TrodAll enc Try.prog W' 0 (fun b => decide (b < W.heap.size)) true _ _ _ _ := (trodAll_cons_mk (shut_int Try.underlying42 w0) (trodAll_cons_mk (shut_int Try.underlying3 w1) (trodAll_cons_mk (shut_int Try.underlying3 w2) (trodAll_cons_mk (shut_int Try.underlying3 w3) trodAll_mk0))))
  simp only [List.append_nil] at hR
  exact ⟨_, rfl, law_post hW' (trodAll_cons_mk (shut_bool Try.underlying4 _) trodAll_mk0) hR rfl hb⟩

theorem pathslaw_holds : Rows.FramePathsSaid :=
  OpenClaim.holds_of_wide 6 Try.f6 rfl rfl rfl rfl rfl rfl rfl ⟨rfl, rfl, rfl, rfl, rfl⟩ rfl rfl rfl rfl rfl (by kernel_rfl) Try.func6 (by kernel_rfl)
    (of_decide_eq_true (by kernel_rfl)) (by unfold Func.isWrapper; first | (rw [if_pos (by decide +kernel)]; kernel_rfl) | (rw [if_neg (by decide +kernel)]; exact ⟨rfl, rfl⟩))
    (fun os started H enc _ => pathslaw_lifted os started H enc)
end Go.Proofs.Ytmkmkndcndpfeaa
