/-
  PoolForest: of a pool's nodes each is below just one root, by one way alone; there are as many roots as nodes, less all kids; a kid stands ahead of whose it is. For every list of nodes; no condition.
-/
import Derived.Test.YtaandlehildcdaaFor0
namespace Go.Proofs.Ytaandlehildcdaa
open Go.ChangeShapes Go.WideShapes Go.ChangeAt Go.RowKit Go.Joins

set_option maxRecDepth 100000 in
set_option maxHeartbeats 12800000 in
theorem forest_walk (p : Option Addr) (cap : Nat) (ns : List Nd) (w : World) (hx : NdS w p ns) :
    Calls Try.prog 4 #[.slice p ns.length cap] w fun e w' => e = .returned (.bool true) ∧ Below w.heap.size w w' := by
  have HX := Lib.hid hx
  have HNEW := Lib.hid (New_pk w w 500 (Below.refl _ _) (by decide))
  obtain ⟨m, hm⟩ : ∃ m, m = ns.length := ⟨_, rfl⟩
  have HM := Lib.hid hm
  rw [← hm]
  clear hx hm
  go_enter Try.func4, Try.ntmps4
  go_wp2_with (go_at_call 16; (with_reducible refine HNEW.out.mono ?_); rintro e w1 ⟨rfl, hP⟩; have HS := Lib.hid (show O5 w w1 w.heap.size 0 from ⟨[], hP, Nat.le_refl _⟩); clear hP)
  go_loopw [5] (fun i wr => ∃ k : Nat, k ≤ m ∧ k ≤ 500 ∧ i = .int .i64 k ∧ Hid (O5 w wr w.heap.size k)) (fun i _ => m - (intOf i).toNat)
  case atStart => exact ⟨0, Nat.zero_le _, Nat.zero_le _, rfl, HS⟩
  case round =>
    clear HS HNEW
    obtain ⟨k, hk, hk2, rfl, HS⟩ := hrel
    by_cases hgo : k < m ∧ k < 500
    · obtain ⟨hlt, hlt2⟩ := hgo
      have hltz : (k : Int) < m := by omega
      have hltz2 : (k : Int) < 500 := by omega
      obtain ⟨n, hne⟩ : ∃ n, ns[k]? = some n := ⟨_, List.getElem?_eq_getElem (by have := HM.out; omega)⟩
      obtain ⟨b, off, rfl, h1⟩ := HX.out.at hne
      obtain ⟨N, hP, hN⟩ := HS.out
      have h2 := h1.keep hP.below h1.lt
      have n0 := h2.c0
      have n1 := h2.c1
      have n2 := h2.c2
      have n3 := h2.c3
      have n4 := h2.c4
      have n5 := h2.c5
      have n6 := h2.c6
      have hC := hP.put n (by omega)
      have hlen := put_len N 500 n
      have HC := Lib.hid hC
      have HLEN := Lib.hid (show (putN N 500 n).1.length ≤ k + 1 by omega)
      obtain ⟨pn, hpn⟩ : ∃ pn, pn = putN N 500 n := ⟨_, rfl⟩
      rw [← hpn] at HC HLEN
      clear h1 h2 hne hP hN hC hlen HS hpn
      obtain ⟨N', at', e'⟩ := pn
      obtain ⟨kk, L, R, g, t, a, q⟩ := n
      simp only at n0 n1 n2 n3 n4 n5 n6
      unfold nv told at HC
      dsimp only at HC HLEN
      go_wp2_with (go_at_call 17; (with_reducible refine HC.out.mono ?_); rintro e w3 ⟨rfl, hP⟩; have HS := Lib.hid (show O5 w w3 w.heap.size (k + 1) from ⟨N', hP, HLEN.out⟩); clear hP)
      go_roundw
      case rel => exact ⟨k + 1, by omega, by omega, by go_num, HS⟩
      case measure => simp [intOf]; omega
    · obtain ⟨N, hP, hN⟩ := HS.out
      have htests : ¬ (k : Int) < m ∨ ((k : Int) < m ∧ ¬ (k : Int) < 500) := by omega
      have hn5 : N.length ≤ 500 := by omega
      obtain ⟨wr0, hwr0⟩ : ∃ x, x = wr := ⟨_, rfl⟩
      rw [← hwr0] at hP
      rw [← hwr0]
      clear hwr0 HS hgo HX HM hN
      have HRT := Lib.hid hP.rt
      have HB := Lib.hid hP.below
      have HNO := Lib.hid (fun Y (hY : Below wr0.heap.size wr0 Y) => (hP.keep hY).Nodes (by omega))
      have HRO := Lib.hid (fun Y (hY : Below wr0.heap.size wr0 Y) => (hP.keep hY).Roots (by omega))
      have HLN := Lib.hid (fun Y (hY : Below wr0.heap.size wr0 Y) => (hP.keep hY).Len)
      have HRI := Lib.hid (fun Y q c (hY : NdS Y q N) => Right_any Y q c N hY (by omega))
      rw [(rtB_iff N).2 HRT.out] at HRI
      have HBW := Lib.hid (Below.refl wr0.heap.size wr0)
      have hroots := roots_len HRT.out
      obtain ⟨n, hn⟩ : ∃ n, n = N.length := ⟨_, rfl⟩
      obtain ⟨r, hr⟩ : ∃ r, r = (rootsI N).length := ⟨_, rfl⟩
      have hr2 : r = (rootsL N).length := by rw [hr]; unfold rootsI; rw [List.length_map]
      rw [← hn] at HNO HLN HRI hn5 hroots
      rw [← hr] at HRO
      rw [← hr2] at hroots
      have HN := Lib.hid hn
      have HR2 := Lib.hid hr2
      have HROOTS := Lib.hid hroots
      have hr5 : r ≤ 500 := by omega
      have hmk : ∀ w : World, (Instr.makeSlice 43 (.int .i64 n) (.int .i64 n)).run Try.prog w = .ok (.slice (some ⟨w.heap.size, 0, none⟩) n n) (w.alloc (.cells (madeCells #[.int .i64 0] n) 3)) := fun w => mkI w n n (Nat.le_refl _) (by omega)
      clear hP hn hr hr2 hroots
      rcases htests with ht | ⟨ht, ht2⟩
      all_goals go_wp2_with (first
        | (go_at_call 21; (with_reducible refine (HNO.out _ HBW.out).mono ?_); rintro e w2 ⟨qa, ca, rfl, hNd, -, -, hb⟩; have HNA := Lib.hid hNd; have HBW := Lib.hid (HBW.out.trans (hb.mono HBW.out.size)); clear hNd hb)
        | (go_at_call 13; (with_reducible refine (HRI.out _ _ _ HNA.out).mono ?_); rintro e w3 ⟨rfl, hb⟩; have HNA := Lib.hid (HNA.out.keep hb); have HBW := Lib.hid (HBW.out.trans (hb.mono HBW.out.size)); clear hb)
        | (go_at_call 20; (with_reducible refine (HLN.out _ HBW.out).mono ?_); rintro e w4 ⟨rfl, rfl⟩))
      all_goals (
        clear HNO HLN HRI hmk
        have hsz := HBW.out.size
        have HEB := Lib.hid (show EB .i64 3 (w4.alloc (.cells (madeCells #[.int .i64 0] n) 3)) w4.heap.size (cnt n []) from (EB.made .i64 3 w4 n).eq (cnt_nil n).symm)
        have HSW := Lib.hid (show SW w4 (w4.alloc (.cells (madeCells #[.int .i64 0] n) 3)) w4.heap.size (cnt n []) from ⟨HEB.out, (Off.refl _ w4).all _⟩)
        have HQL : Hid (∀ b off, qa = some ⟨b, off, none⟩ → N ≠ [] → b < w4.heap.size) := Lib.hid (fun b off e h0 => by have h := HNA.out; rw [e] at h; exact h.lt h0)
        clear HEB
        go_loopw [8, 63] (fun v i wq => ∃ z : Nat, z ≤ n ∧ i = .int .i64 z ∧ v = .int .i64 (kidsN (N.take z)) ∧ Hid (SW w4 wq w4.heap.size (cnt n []))) (fun _ i _ => n - (intOf i).toNat)
        case atStart => exact ⟨0, Nat.zero_le _, rfl, rfl, HSW⟩
        case round =>
          rename_i v i
          clear HSW
          obtain ⟨z, hz, rfl, rfl, HS⟩ := hrel
          by_cases hzl : z < n
          · have hzz : (z : Int) < n := by omega
            obtain ⟨nd, hne⟩ : ∃ nd, N[z]? = some nd := ⟨_, List.getElem?_eq_getElem (by have := HN.out; omega)⟩
            have hNz := HNA.out.off HS.out.2 (fun b off e h0 => by have := HQL.out b off e h0; simp; omega)
            obtain ⟨b, off, rfl, h1⟩ := hNz.at hne
            have n0 := h1.c0
            have n1 := h1.c1
            have n2 := h1.c2
            have n3 := h1.c3
            have n4 := h1.c4
            have n5 := h1.c5
            have n6 := h1.c6
            have HLK := Lib.hid (fun X => lkids_any X nd)
            have hks := kids_succ hne
            have hkl := kids_le HRT.out (z + 1)
            have hnl := HN.out
            have HSB := Lib.hid (fun o => HS.out.all o)
            obtain ⟨d, hd⟩ : ∃ d, d = (ksL nd).length := ⟨_, rfl⟩
            obtain ⟨s, hs⟩ : ∃ s, s = kidsN (N.take z) := ⟨_, rfl⟩
            rw [← hs, ← hd] at hks
            have hsd : s + d ≤ 500 := by omega
            have HKS := Lib.hid hks
            rw [← hd] at HLK
            rw [← hs]
            have hsw : IntKind.i64.wrap ((s : Int) + (d : Int)) = ((s + d : Nat) : Int) := by rw [IntWalk.i64_in _ (by omega)]; omega
            clear h1 hNz hne hks hkl hnl hd hs
            obtain ⟨kk, L, R, g, t, a, q⟩ := nd
            simp only at n0 n1 n2 n3 n4 n5 n6
            unfold nv at HLK
            dsimp only at HLK
            go_wp2_with fail
            with_reducible refine (HLK.out _).mono ?_
            rintro e w5 ⟨v, rfl, hR, hb⟩
            obtain ⟨p5, c5, rfl, hNS⟩ := row_ints hR
            have HS5 := Lib.hid ((HSB.out _).keep hb)
            clear hR hb hNS HSB HLK HS
            go_wp2_with fail
            go_roundw
            case rel => exact ⟨z + 1, by omega, by go_num, by rw [HKS.out, Int.natCast_add], HS5⟩
            case measure => simp [intOf]; omega
          · obtain rfl : z = n := by omega
            have hzz : ¬ (z : Int) < z := by omega
            have hkn : kidsN (N.take z) = kidsN N := by rw [HN.out, List.take_length]
            rw [hkn]
            obtain ⟨s, hs⟩ : ∃ s, s = kidsN N := ⟨_, rfl⟩
            have hrs : r + s = z := by have := HROOTS.out; omega
            rw [← hs]
            have HBW5 := Lib.hid (HBW.out.trans (HS.out.2.below (N := wr0.heap.size) hsz (by simp; omega)))
            clear HROOTS HBW hkn hs
            go_wp2_with (go_at_call 23; (with_reducible refine (HRO.out _ HBW5.out).mono ?_); rintro e w6 ⟨p6, c6, rfl, hNS, hRow, hb⟩
                         have HN6 := Lib.hid hNS
                         have HG6 := Lib.hid (own_geB hRow)
                         have HS6 := Lib.hid (HS.out.keep hb)
                         have HNA6 := Lib.hid ((HNA.out.off HS.out.2 (fun b off e h0 => by have := HQL.out b off e h0; simp; omega)).keep hb)
                         have HZ6 := Lib.hid (And.intro HS.out.2.size hb.size)
                         have HBW6 := Lib.hid (HBW5.out.trans (hb.mono HBW5.out.size))
                         clear hRow hNS hb)
            have hz1 := HZ6.out.1
            have hz2 := HZ6.out.2
            have hgl := HS6.out.1.lt
            have HGL := Lib.hid hgl
            have hgr := HS.out.1.lt
            have HSW := Lib.hid (show SW w6 w6 w4.heap.size (cnt z (vis N 0)) from ⟨HS6.out.1, Off.refl _ _⟩)
            have HPL : Hid (∀ b off, p6 = some ⟨b, off, none⟩ → rootsI N ≠ [] → b ∉ [w4.heap.size]) := Lib.hid (fun b off e _ => by have := HG6.out b (by rw [e]; rfl); simp; omega)
            have HQ6 : Hid (∀ b off, qa = some ⟨b, off, none⟩ → N ≠ [] → b ∉ [w4.heap.size]) := Lib.hid (fun b off e h0 => by have := HQL.out b off e h0; simp; omega)
            clear HS HS6 HZ6 HNA HBW5 HQL HG6 HRO
            go_loopw [77] (fun i wx => ∃ j : Nat, j ≤ r ∧ i = .int .i64 j ∧ Hid (SW w6 wx w4.heap.size (cnt z (vis N j)))) (fun i _ => r - (intOf i).toNat)
            case atStart => exact ⟨0, Nat.zero_le _, rfl, HSW⟩
            case round =>
              clear HSW
              obtain ⟨j, hj, rfl, HS⟩ := hrel
              by_cases hjr : j < r
              · have hjj : (j : Int) < r := by omega
                obtain ⟨ro, hro⟩ : ∃ ro, (rootsL N)[j]? = some ro := ⟨_, List.getElem?_eq_getElem (by have := HR2.out; omega)⟩
                have hNS' := HN6.out.offF HS.out.2 HPL.out
                rcases hNS' with h0 | ⟨b6, off6, rfl, hc6⟩
                · rw [rootsI_zs] at h0
                  have := zs_get hro
                  rw [h0] at this
                  simp at this
                have cx := hc6 j _ (by rw [rootsI_zs]; exact zs_get hro)
                have HFS := Lib.hid (FS.start hro)
                have HO1 := Lib.hid (OR.one wr (ro : Int))
                have HS1 := Lib.hid (fun o => HS.out.all o)
                have hws := HS.out.2.size
                have htest : j = 0 ∨ ∃ j' ro', j = j' + 1 ∧ (ro' : Nat) < ro ∧ wr.cell? ⟨b6, off6 + j', none⟩ = some (.int .i64 ro') := by
                  cases j with
                  | zero => exact .inl rfl
                  | succ j' =>
                    obtain ⟨ro', hro'⟩ : ∃ ro', (rootsL N)[j']? = some ro' := ⟨_, List.getElem?_eq_getElem (by have := HR2.out; omega)⟩
                    exact .inr ⟨j', ro', rfl, rise_get (rootsL_rise N) hro' hro, hc6 j' _ (by rw [rootsI_zs]; exact zs_get hro')⟩
                clear hc6 HS hro
                rcases htest with rfl | ⟨j', ro', rfl, hlt', cx'⟩
                case' inl =>
                  simp only [Nat.add_zero] at cx
                  obtain ⟨J, hJ⟩ : ∃ J : Nat, J = 0 := ⟨_, rfl⟩
                  rw [← hJ] at HFS HS1
                  have HJ := Lib.hid hJ
                  have hJr : J < r := by omega
                  clear hJ
                case' inr =>
                  obtain ⟨J, hJ⟩ : ∃ J : Nat, J = j' + 1 := ⟨_, rfl⟩
                  rw [← hJ] at HFS HS1
                  have HJ := Lib.hid hJ
                  have hJr : J < r := by omega
                  clear hJ
                  have hge : ¬ (ro : Int) ≤ ro' := by omega
                  have hwj : IntKind.i64.wrap ((((j' + 1 : Nat)) : Int) - 1) = (j' : Int) := by rw [IntWalk.i64_in _ (by omega)]; omega
                  have hj0 : (0 : Int) < ((j' + 1 : Nat) : Int) := by omega
                all_goals (
                  go_wp2_with fail
                  go_loopg [14] (z + 1 - (vis N J).length) (fun gk v wy => ∃ V O, Hid (OR wy v (zs O)) ∧ Hid (FS N J V O) ∧ Hid (SW w6 wy w4.heap.size (cnt z V)) ∧ Hid (∀ q, v.ownBlock = some q → w6.heap.size ≤ q) ∧ Hid (gk = z + 1 - V.length))
                  case atStart => exact ⟨vis N J, [ro], HO1, HFS, HS1.out _, Lib.hid (fun q e => by simp [Value.ownBlock] at e; omega), Lib.hid rfl⟩
                  case round =>
                    clear HO1 HFS HS1
                    obtain ⟨V, O, HO, HF, HS, HW, HGK⟩ := hrel
                    rcases List.eq_nil_or_concat O with rfl | ⟨O, q, rfl⟩
                    · obtain ⟨p9, c9, hv⟩ := HO.out.shape
                      simp only [zs, List.map_nil, List.length_nil] at hv
                      subst hv
                      have HS' := Lib.hid (HS.out.eq (cnt_perm z HF.out.done))
                      clear HO HF HS HW HGK
                      go_wp2_with fail
                      go_roundw
                      case rel => exact ⟨J + 1, by omega, by rw [HJ.out]; go_num, HS'⟩
                      case measure => simp [intOf]; omega
                    · rw [List.concat_eq_append] at HO HF
                      have hHO := HO.out
                      rw [zs_snoc] at hHO
                      obtain ⟨g9, c9, rfl, ck, hc9⟩ := hHO.last
                      have hqn := HF.out.inn q (by simp)
                      obtain ⟨nd, hne⟩ : ∃ nd, N[q]? = some nd := ⟨_, List.getElem?_eq_getElem hqn⟩
                      obtain ⟨hV0, hF'⟩ := HF.out.pop HRT.out hne
                      have hol := HF.out.olen HRT.out
                      have hol' := hF'.olen HRT.out
                      rw [← HN.out] at hqn hol hol'
                      have HOP := Lib.hid hHO.pop
                      have HG9 := HW.out g9 rfl
                      have HC0 := HS.out.1.cell (cnt_get (n := z) V hqn)
                      rw [hV0] at HC0
                      have HC0f := HS.out.1.free q
                      have HSQ := Lib.hid ((HS.out.set q 1).eq (cnt_set V hqn hV0))
                      have hgne : ¬ g9 = w4.heap.size := by omega
                      have HOQ := Lib.hid (HOP.out.keep (w' := wr.setCell ⟨w4.heap.size, q, none⟩ (.int .i64 1)) (fun k2 e => by
                        simp [Value.ownBlock] at e
                        subst e
                        exact Below.heap_setCell _ _ _ _ hgne))
                      obtain ⟨b, off, rfl, h1⟩ := (HNA6.out.off HS.out.2 HQ6.out).at hne
                      have hbn := HQ6.out b off rfl (fun e => by rw [e] at hne; simp at hne)
                      have hne1 : ¬ b = w4.heap.size := by simpa using hbn
                      have hne2 : ¬ w4.heap.size = b := fun e => hne1 e.symm
                      have n0 := h1.c0
                      have n1 := h1.c1
                      have n2 := h1.c2
                      have n3 := h1.c3
                      have n4 := h1.c4
                      have n5 := h1.c5
                      have n6 := h1.c6
                      have HLK := Lib.hid (fun X => lkids_any X nd)
                      have HKD := Lib.hid (fun x (h : x ∈ ksL nd) => HRT.out.kid hne h)
                      obtain ⟨ks, hks⟩ : ∃ ks, ks = ksL nd := ⟨_, rfl⟩
                      have hd2 : ks.length ≤ 2 := by rw [hks]; exact ksL_len _
                      rw [← hks] at HLK HKD hF' hol'
                      have HF' := Lib.hid hF'
                      obtain ⟨o, ho⟩ : ∃ o, o = (zs O).length := ⟨_, rfl⟩
                      have hoO : o = O.length := by rw [ho, zs_len]
                      rw [← ho] at HOP HOQ ck hc9
                      rw [← ho]
                      have HOL := Lib.hid ho
                      obtain ⟨d, hd⟩ : ∃ d, d = ks.length := ⟨_, rfl⟩
                      have HD := Lib.hid hd
                      rw [← hd] at HLK hd2
                      have hcut : ∀ X : World, (Instr.slice 43 (.slice (some ⟨g9, 0, none⟩) (o + 1) c9) none (some (.int .i64 o)) none).run Try.prog X = .ok (.slice (some ⟨g9, 0, none⟩) o c9) X := fun X => sl_to X _ (o + 1) c9 o (by omega)
                      have ho5 : o + 1 ≤ 500 := by simp at hol; omega
                      have HOD := Lib.hid (show o + d ≤ 500 by simp at hol'; omega)
                      have HVL := Lib.hid (show V.length + 1 ≤ z by simp at hol'; omega)
                      have hs1 : IntKind.i64.wrap ((((o + 1 : Nat)) : Int) - 1) = (o : Int) := by rw [IntWalk.i64_in _ (by omega)]; omega
                      have hk0 : ¬ (q : Int) < 0 := by omega
                      have hkz : ¬ (z : Int) ≤ (q : Int) := by omega
                      have hkz2 : (q : Int) < (z : Int) := by omega
                      have HWG := Lib.hid HG9
                      clear h1 hne hbn hks hd hF' hol hol' ho hoO hHO HO HF HS HW HOP hV0 HG9
                      obtain ⟨kk, L, R, g, t, a, qq⟩ := nd
                      simp only at n0 n1 n2 n3 n4 n5 n6
                      unfold nv at HLK
                      dsimp only at HLK
                      go_wp2_with fail
                      with_reducible refine (HLK.out _).mono ?_
                      rintro e w7 ⟨v, rfl, hR, hb⟩
                      obtain ⟨p8, c8, rfl, hNS⟩ := row_ints hR
                      have HN8 := Lib.hid hNS
                      have HG8 := Lib.hid (own_geB hR)
                      have HO8 := Lib.hid (HOQ.out.bel hb)
                      have HS8 := Lib.hid (HSQ.out.keep hb)
                      have hg9l := HOQ.out.lt g9 rfl
                      have HAP : Hid (∀ b o, p8 = some ⟨b, o, none⟩ → b ≠ g9) := Lib.hid (fun b o e => by have := HG8.out b (by rw [e]; rfl); omega)
                      clear hR hb hNS HLK HOQ HSQ HG8 n0 n1 n2 n3 n4 n5 n6 HC0 HC0f ck hcut hg9l
                      go_wp2_with fail
                      go_loopw [14, 136] (fun v i wz => ∃ t : Nat, t ≤ d ∧ i = .int .i64 t ∧ Hid (OR wz v (zs O ++ ks.take t)) ∧ Hid (SW w6 wz w4.heap.size (cnt z (V ++ [q]))) ∧ Hid (∀ kb, v.ownBlock = some kb → w6.heap.size ≤ kb ∧ ∀ b o, p8 = some ⟨b, o, none⟩ → b ≠ kb) ∧ Hid (NS wz p8 .i64 ks)) (fun _ i _ => d - (intOf i).toNat)
                      case atStart => exact ⟨0, Nat.zero_le _, rfl, Lib.hid (by rw [List.take_zero, List.append_nil]; exact HO8.out), HS8, Lib.hid (fun kb e => by simp [Value.ownBlock] at e; subst e; exact ⟨HWG.out, HAP.out⟩), HN8⟩
                      case round =>
                        clear HO8 HS8 HAP HN8
                        obtain ⟨t, ht, rfl, HO, HS, HW, HN8⟩ := hrel
                        by_cases htd : t < d
                        · have htt : (t : Int) < d := by omega
                          obtain ⟨x, hxe⟩ : ∃ x, ks[t]? = some x := ⟨_, List.getElem?_eq_getElem (by have := HD.out; omega)⟩
                          obtain ⟨hx0, hxk⟩ := HKD.out x (List.mem_of_getElem? hxe)
                          obtain ⟨y, rfl⟩ : ∃ y : Nat, x = y := ⟨x.toNat, by omega⟩
                          have hks0 : ks ≠ [] := fun e => by rw [e] at hxe; simp at hxe
                          have hN8' := HN8.out
                          rcases hN8' with h0 | ⟨b8, off8, rfl, hc8⟩
                          · rw [h0] at hxe; simp at hxe
                          have cx8 := hc8 t _ hxe
                          have hxk2 : ¬ (q : Int) ≤ (y : Int) := by omega
                          have hlen : (zs O ++ ks.take t).length = o + t := by rw [List.length_append, List.length_take, HOL.out, ← HD.out]; omega
                          have HTK := Lib.hid (show zs O ++ ks.take (t + 1) = (zs O ++ ks.take t) ++ [(y : Int)] by rw [List.take_add_one, hxe, List.append_assoc]; rfl)
                          have hb8 : b8 < wr.heap.size := HN8.out.ltF hks0
                          have hod := HOD.out
                          have hws6 := HS.out.2.size
                          have HA : Hid ((wr.alloc (.cells #[.int .i64 (y : Int)] 3)).ownsRow 0 3 1 u14 (o + t) ((zs O ++ ks.take t).map (Value.int .i64))) := Lib.hid (by
                            have h : wr.ownsRow 0 3 1 u14 (zs O ++ ks.take t).length ((zs O ++ ks.take t).map (Value.int .i64)) := HO.out
                            rw [hlen] at h
                            exact h.alloc _)
                          have HSA := Lib.hid (HS.out.all (.cells #[.int .i64 (y : Int)] 3))
                          have HNA8 := Lib.hid (HN8.out.offF ((Off.refl [] wr).all (.cells #[.int .i64 (y : Int)] 3)) (by simp))
                          have HLEN := Lib.hid hlen
                          have HB8 := Lib.hid hb8
                          clear hc8 hxe hx0 hlen hb8 hod hks0
                          go_wp2_with (at_builtin; refine wpList_more Try.info3 rfl (by decide) (by decide) Try.underlying43 _ rfl (.tmp 143) (.tmp 145) rfl u14 (o + t) _ rfl HA.out ⟨wr.heap.size, 0, none⟩ 1 1 [.int .i64 (y : Int)] rfl rfl (one_at _ _ _) (by simp [Value.oneCell']) (by have := HOD.out; omega) (by decide) ?_; intro g' cap' w' h1 h2 h3; have H1 := Lib.hid h1; have H2 := Lib.hid h2; have H3 := Lib.hid h3; clear h1 h2 h3)
                          go_roundw
                          case rel =>
                            refine ⟨t + 1, by omega, by go_num, Lib.hid ?_, Lib.hid ?_, Lib.hid ?_, Lib.hid ?_⟩
                            · rw [HTK.out]
                              refine OR.snoc ?_
                              rw [HLEN.out]
                              exact H1.out
                            · exact HSA.out.grown HGL.out H2.out (fun kb e => (HW.out kb e).1)
                            · intro kb e
                              simp [Value.ownBlock] at e
                              subst e
                              rcases H3.out with h | h
                              · exact HW.out _ h
                              · refine ⟨by rw [h]; simp; omega, fun b o e => ?_⟩
                                cases e
                                rw [h]
                                have := HB8.out
                                simp
                                omega
                            · exact HNA8.out.grown H2.out (fun b o e _ he => (HW.out b he.symm).2 b o e rfl)
                          case measure => simp [intOf]; omega
                        · obtain rfl : t = d := by omega
                          have htt : ¬ (t : Int) < t := by omega
                          go_wp2_with fail
                          go_roundg (z + 1 - (V ++ [q]).length)
                          case measure =>
                            have h1 := HGK.out
                            have h2 := HVL.out
                            rw [h1, List.length_append, List.length_singleton]
                            omega
                          case rel =>
                            refine ⟨V ++ [q], O ++ ks.map Int.toNat, Lib.hid ?_, HF', HS, Lib.hid (fun kb e => (HW.out kb e).1), Lib.hid rfl⟩
                            rw [zs_app, zs_nat ks (fun x hx => (HKD.out x hx).1)]
                            have h1 := HO.out
                            rw [List.take_of_length_le (by rw [← HD.out]; exact Nat.le_refl _)] at h1
                            exact h1
                  skip)
              · obtain rfl : j = r := by omega
                have hjj : ¬ (j : Int) < j := by omega
                have hvp := vis_all HRT.out HR2.out
                rw [← HN.out] at hvp
                have HSV := Lib.hid (HS.out.eq (cnt_perm z hvp))
                have HBWr := Lib.hid (HBW6.out.trans (HS.out.2.below (N := wr0.heap.size) (by omega) (by simp; omega)))
                have hrs2 : IntKind.i64.wrap ((z : Int) - (s : Int)) = (j : Int) := by rw [IntWalk.i64_in _ (by omega)]; omega
                have hrs3 : (z : Int) - (s : Int) = (j : Int) := by omega
                clear HS hvp
                go_wp2_with fail
                go_loopw [151] (fun i wx => ∃ t : Nat, t ≤ z ∧ i = .int .i64 t ∧ wx = wr) (fun i _ => z - (intOf i).toNat)
                case atStart => exact ⟨0, Nat.zero_le _, rfl, rfl⟩
                case round =>
                  obtain ⟨t, ht, rfl, rfl⟩ := hrel
                  by_cases htz : t < z
                  · have htt : (t : Int) < z := by omega
                    have ct := HSV.out.1.cell (cnt_range z htz)
                    go_wp2_with fail
                    go_roundw
                    case rel => exact ⟨t + 1, by omega, by go_num, trivial⟩
                    case measure => simp [intOf]; omega
                  · obtain rfl : t = z := by omega
                    have htt : ¬ (t : Int) < t := by omega
                    go_wp2_with (go_at_call 9; (with_reducible refine (awake_any _).mono ?_); rintro e w9 ⟨rfl, hb⟩; have HBWr := Lib.hid (HBWr.out.trans (hb.mono HBWr.out.size)); clear hb)
                    go_ret
                    exact ⟨rfl, HB.out.trans (HBWr.out.mono HB.out.size)⟩)
set_option maxRecDepth 100000 in
theorem forestlaw_lifted (os : Os) (started : os.Started) (H : Type) (enc : TypeId × Value → H) :
    ReturnsInHanded {} Try.checked os 4 .any (Rows.poolForestSpec.pre6 enc Try.prog Try.f4 Rows.poolForestRow.domain false) (Rows.poolForestSpec.post enc Try.prog Try.f4 false true false false) := by
  refine returnsInHanded_of_change (C := Try.checked) Try.own started (by kernel_rfl) Try.func4
    (ChangeSpec.witness6 (enc := enc) (C := Try.checked) false ⟨#[], #[.slice none 0 0], []⟩ 8 (by kernel_rfl) (by kernel_rfl) (by kernel_rfl) (by kernel_rfl)) ?_
  intro W base args ds gs before hval0 hW hcnd _
  have hval : ∀ (j : Nat) t v, Try.f4.params[j]? = some t → args[j]? = some v → Value.okWide Try.prog W .any base t v := hval0
  have hW' := hW
  obtain ⟨p, q, hA0, hV, rfl, hfz, hnd⟩ := hW
  have hA : DataW.TrodAll enc Try.prog W 0 (fun _ => true) true Try.f4.params.toList args.toList ds p := hA0
  rw [Try.params4] at hA hval
  obtain ⟨v0, vs0, d0, ds0, p0, q0, hargs, rfl, rfl, h0, r0⟩ := trodAll_cons hA
  obtain ⟨rfl, rfl, rfl⟩ := trodAll_nil r0
  obtain rfl : args = #[v0] := by cases args; simp_all
  obtain ⟨rfl, rfl⟩ := trodVars_none hV
  obtain ⟨a0, len0, cap0, rfl⟩ := okWide_slice Try.underlying22 (hval 0 22 v0 rfl rfl)
  obtain ⟨xs0, rfl, hx0, hp0⟩ := open_nodes h0
  clear hA0 hval0
  simp only [List.append_nil] at hW'
  have hlt : ∀ x ∈ p0, x.block < W.heap.size := fun x hx => by simpa using hW'.lt x (by simpa using hx)
  refine (forest_walk _ _ _ W hx0).mono fun e W' ⟨he, hb⟩ => ?_
  subst he
  have hR : DataW.TrodAll enc Try.prog W' 0 (fun b => decide (b < W.heap.size)) true _ _ _ _ := (trodAll_cons_mk (Below.trod Try.laidOut (by kernel_rfl) (of_decide_eq_true (by kernel_rfl)) h0 hb (fun x hx => hlt x (by simp [hx]))) trodAll_mk0)
  simp only [List.append_nil] at hR
  exact ⟨_, rfl, law_post hW' (trodAll_cons_mk (shut_bool Try.underlying4 _) trodAll_mk0) hR rfl hb⟩

theorem forestlaw_holds : Rows.PoolForestSaid :=
  OpenClaim.holds_of_wide 4 Try.f4 rfl rfl rfl rfl rfl rfl rfl ⟨rfl, rfl, rfl, rfl, rfl⟩ rfl rfl rfl rfl rfl (by kernel_rfl) Try.func4 (by kernel_rfl)
    (of_decide_eq_true (by kernel_rfl)) (by unfold Func.isWrapper; first | (rw [if_pos (by decide +kernel)]; kernel_rfl) | (rw [if_neg (by decide +kernel)]; exact ⟨rfl, rfl⟩))
    (fun os started H enc _ => forestlaw_lifted os started H enc)
end Go.Proofs.Ytaandlehildcdaa
