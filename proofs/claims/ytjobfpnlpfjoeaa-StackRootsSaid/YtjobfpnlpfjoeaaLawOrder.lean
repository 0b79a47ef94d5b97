/-
  StackOrder: a walk enters its first node, then all of a walk from its L, then all of one from its R, for any nodes. No condition.
-/
import Derived.Test.YtjobfpnlpfjoeaaSref
import Derived.Test.YtjobfpnlpfjoeaaSaw
import Derived.Test.YtjobfpnlpfjoeaaLift
namespace Go.Proofs.Ytjobfpnlpfjoeaa
open Go.ChangeShapes Go.WideShapes Go.ChangeAt Go.RowKit Go.Joins

theorem sl_fromS (A o n c l : Nat) (hl : l ≤ n) (hn : n ≤ c) : ∃ o', (l < n → o' = o + l) ∧ ∀ X, (Instr.slice 25 (.slice (some ⟨A, o, none⟩) n c) (some (.int .i64 l)) none none).run Try.prog X = .ok (.slice (some ⟨A, o', none⟩) (n - l) (c - l)) X := by
  obtain ⟨i0, hi, hz0, hz1, hz2⟩ := info_parts Try.info3
  by_cases h3 : c = l
  · subst h3
    refine ⟨o, fun h => by omega, fun X => ?_⟩
    simp [Instr.slice, run_underlying Try.underlying25, Instr.sliceBounds, Instr.sliceBound, asIntOf, sizeOf, typeInfo, hi, hl, hn]
  · refine ⟨o + l, fun _ => rfl, fun X => ?_⟩
    simp [Instr.slice, run_underlying Try.underlying25, Instr.sliceBounds, Instr.sliceBound, asIntOf, sizeOf, typeInfo, hi, hz1, hl, h3, Addr.add_lit]
theorem sl_from1 (A o n c : Nat) (hn : n + 1 ≤ c) : ∃ o', (0 < n → o' = o + 1) ∧ ∀ X, (Instr.slice 25 (.slice (some ⟨A, o, none⟩) (n + 1) c) (some (.int .i64 1)) none none).run Try.prog X = .ok (.slice (some ⟨A, o', none⟩) n (c - 1)) X := by
  obtain ⟨o', h1, h2⟩ := sl_fromS A o (n + 1) c 1 (by omega) hn
  exact ⟨o', fun h => h1 (by omega), fun X => h2 X⟩
theorem NS.fst {w : World} {A o : Nat} {k : IntKind} {xs ys : List Int} (h : NS w (some ⟨A, o, none⟩) k (xs ++ ys)) : NS w (some ⟨A, o, none⟩) k xs := by
  rcases h with h | ⟨b, off, e, h⟩
  · exact .inl (List.append_eq_nil_iff.1 h).1
  · exact .inr ⟨b, off, e, fun j x hx => h j x (by rw [List.getElem?_append_left (List.getElem?_eq_some_iff.1 hx).1]; exact hx)⟩
theorem NS.snd {w : World} {A o o' : Nat} {k : IntKind} {xs ys : List Int} (h : NS w (some ⟨A, o, none⟩) k (xs ++ ys)) (ho : ys ≠ [] → o' = o + xs.length) : NS w (some ⟨A, o', none⟩) k ys := by
  by_cases h0 : ys = []
  · exact .inl h0
  rcases h with h | ⟨b, off, e, h⟩
  · exact .inl (List.append_eq_nil_iff.1 h).2
  · cases e
    rw [ho h0]
    refine .inr ⟨A, _, rfl, fun j x hx => ?_⟩
    have := h (xs.length + j) x (by rw [List.getElem?_append_right (by omega)]; simpa using hx)
    rwa [← Nat.add_assoc] at this
/-- a slice that lies in a list of one's own: the rest of what was told -/
def Rst (w : World) (v : Value) (L : List Int) : Prop := ∃ A o c, v = .slice (some ⟨A, o, none⟩) L.length c ∧ NS w (some ⟨A, o, none⟩) .i64 L ∧ L.length ≤ c
theorem Rst.keep {w w' : World} {v : Value} {L : List Int} (h : Rst w v L) (hb : Below w.heap.size w w') : Rst w' v L := by
  obtain ⟨A, o, c, h1, h2, h3⟩ := h
  exact ⟨A, o, c, h1, h2.keep hb, h3⟩
theorem row_rst {w : World} {base : Nat} {v : Value} {x : Int} {L : List Int} (h : w.ownsRow base 3 1 v (x :: L).length ((x :: L).map (Value.int .i64))) : ∃ g c, v = .slice (some ⟨g, 0, none⟩) (L.length + 1) c ∧ NS w (some ⟨g, 0, none⟩) .i64 ([x] ++ L) ∧ L.length + 1 ≤ c ∧ w.cell? ⟨g, 0, none⟩ = some (.int .i64 x) := by
  obtain ⟨g, c, rfl, -, hr⟩ := rb_of h (by simp)
  refine ⟨g, c, rfl, .inr ⟨g, 0, rfl, fun j y e => ?_⟩, ?_, hr.cell rfl⟩
  · rw [Nat.zero_add]
    exact hr.cell e
  · have := hr.roomF.1
    simpa using this
theorem chk_yes {N : List Nd} (hR : Rt N) {r : Int} (h0 : 0 ≤ r) (h1 : r < N.length) : chk N r = 0 := by
  unfold chk
  rw [(rtB_iff N).2 hR, if_pos rfl, if_neg (by omega)]
theorem allR_yes {N : List Nd} (hR : Rt N) {r : Int} (h0 : 0 ≤ r) (h1 : r < N.length) : allR N r = bl N (fun _ => true) r := by
  rw [allR, if_pos (chk_yes hR h0 h1), bl_yes h0]
  rfl
/-- what is left to be told behind the first t kids -/
def rl (xl yl : List Int) : Nat → List Int
  | 0 => xl ++ yl
  | 1 => yl
  | _ => []
theorem ixz (X : World) (a b : Int) : (Instr.index 37 (.agg #[.int .i64 a, .int .i64 b]) (.int .i64 0)).run Try.prog X = .ok (.int .i64 a) X := by
  obtain ⟨i0, hi, hz0, hz1, hz2⟩ := info_parts Try.info3
  simp [Instr.index, asIntOf, run_underlying Try.underlying37, part, sizeOf, typeInfo, hi, hz1]
theorem ixo (X : World) (a b : Int) : (Instr.index 37 (.agg #[.int .i64 a, .int .i64 b]) (.int .i64 1)).run Try.prog X = .ok (.int .i64 b) X := by
  obtain ⟨i0, hi, hz0, hz1, hz2⟩ := info_parts Try.info3
  simp [Instr.index, asIntOf, run_underlying Try.underlying37, part, sizeOf, typeInfo, hi, hz1]
theorem ints_eqO (X : World) (q q' : Option Addr) (cq cq' : Nat) (L : List Int) (h : NS X q .i64 L) (h' : NS X q' .i64 L) (hl : L.length ≤ 8192) :
    Calls Try.prog 12 #[.slice q L.length cq, .slice q' L.length cq'] X fun e w' => e = .returned (.bool true) ∧ Below X.heap.size X w' := by
  refine (ints_any X q q' cq cq' L L h h' ⟨hl, hl⟩).mono ?_
  rintro e w' ⟨rfl, hb⟩
  exact ⟨by simp, hb⟩

set_option maxRecDepth 100000 in
set_option maxHeartbeats 6400000 in
theorem order_walk (w : World) (p : Option Addr) (c : Nat) (N : List Nd) (hx : NdS w p N) :
    Calls Try.prog 4 #[.slice p N.length c] w fun e w' => e = .returned (.bool true) ∧ Below w.heap.size w w' := by
  have HAW := Lib.hid awake_any
  by_cases hbig : N.length ≤ 200
  · have hbz : ¬ (200 : Int) < N.length := by omega
    have hl : N.length ≤ 8192 := by omega
    have HR := Lib.hid (Right_any w p c N hx hl)
    by_cases hR : Rt N
    · rw [(rtB_iff N).2 hR] at HR
      have HRT := Lib.hid hR
      have HX := Lib.hid hx
      have HAL : Hid (∀ X (r : Int), Below w.heap.size w X → 0 ≤ r → r < N.length → Calls Try.prog 10 #[.slice p N.length c, .int .i64 r] X (TA X (bl N (fun _ => true) r) 0)) := Lib.hid (fun X r hX h0 h1 => by
        have := All_any X p c N r (hx.keep hX) hl
        rw [chk_yes hR h0 h1, allR_yes hR h0 h1] at this
        exact this)
      obtain ⟨d, hd⟩ : ∃ d, d = N.length := ⟨_, rfl⟩
      have HD := Lib.hid hd
      rw [← hd] at HR HAL hl hbz hbig ⊢
      clear hd hx hR
      go_enter Try.func4, Try.ntmps4
      go_wp2_with (go_at_call 16; (with_reducible refine HR.out.mono ?_); rintro e w1 ⟨rfl, hb⟩; have HB := Lib.hid hb; clear hb)
      go_loopw [23] (fun v wr => ∃ k : Nat, k ≤ d ∧ v = .int .i64 k ∧ Hid (Below w.heap.size w wr)) (fun v _ => d - (intOf v).toNat)
      case atStart => exact ⟨0, Nat.zero_le _, rfl, HB⟩
      case round =>
        clear HR
        obtain ⟨k, hk, rfl, HB⟩ := hrel
        by_cases hlt : k < d
        · have hltz : (k : Int) < d := by omega
          obtain ⟨n, hne⟩ : ∃ n, N[k]? = some n := ⟨_, List.getElem?_eq_getElem (by have := HD.out; omega)⟩
          obtain ⟨b, off, rfl, h1⟩ := (HX.out.keep HB.out).at hne
          have n0 := h1.c0
          have n1 := h1.c1
          have n2 := h1.c2
          have n3 := h1.c3
          have n4 := h1.c4
          have n5 := h1.c5
          have n6 := h1.c6
          have HN1 := Lib.hid (N1.new wr n 36)
          have HB1 := Lib.hid (HB.out.alloc HB.out.size (.cells (nvs n).toArray 36))
          have hat := bl_at HRT.out (fun _ => true) hne rfl
          have HK := Lib.hid (kid_lt HRT.out hne)
          have HA0 := Lib.hid (HAL.out _ (k : Int) HB1.out (by omega) hltz)
          have hll := Nat.le_trans (bl_len HRT.out (fun _ => true) (i := nl n) (by have := HK.out; have := HD.out; omega)) (Nat.le_of_eq HD.out.symm)
          have hlr := Nat.le_trans (bl_len HRT.out (fun _ => true) (i := nr n) (by have := HK.out; have := HD.out; omega)) (Nat.le_of_eq HD.out.symm)
          rw [hat] at HA0
          obtain ⟨kk, L, R, f, t, a, q⟩ := n
          unfold nvs at HN1 HB1 HA0
          simp only [nl, nr] at *
          obtain ⟨xl, hxl⟩ : ∃ xl, xl = bl N (fun _ => true) L := ⟨_, rfl⟩
          obtain ⟨yl, hyl⟩ : ∃ yl, yl = bl N (fun _ => true) R := ⟨_, rfl⟩
          rw [← hxl, ← hyl] at HA0
          rw [← hxl] at hll
          rw [← hyl] at hlr
          have HXL := Lib.hid hxl
          have HYL := Lib.hid hyl
          clear hat hne h1 hxl hyl
          obtain ⟨m0, hm0⟩ : ∃ m0, m0 = (xl ++ yl).length := ⟨_, rfl⟩
          have HM0 := Lib.hid hm0
          have hm4 : m0 ≤ 400 := by rw [hm0, List.length_append]; omega
          clear hm0
          go_wp2_with (go_at_call 10; (with_reducible refine HA0.out.mono ?_); rintro e w2 ⟨v, rfl, hr, hb⟩; obtain ⟨g, cg, rfl, hn, hc, hcell⟩ := row_rst hr; rw [← HM0.out] at hc; rw [← HM0.out]; have HNS := Lib.hid hn; have HB2 := Lib.hid (HB1.out.trans (hb.mono HB1.out.size)); have m1 := (HN1.out.keep hb HN1.out.lt).c1; have m2 := (HN1.out.keep hb HN1.out.lt).c2; simp only [Nat.zero_add] at m1 m2; obtain ⟨o1, ho1, hs1⟩ := sl_from1 g 0 m0 cg hc; have HO1 := Lib.hid ho1; clear hr hb hn ho1)
          go_loopw [7, 55] (fun v7 v55 wy => ∃ (tt : Nat) (A o ca : Nat), tt ≤ 2 ∧ v55 = .int .i64 tt ∧ v7 = .slice (some ⟨A, o, none⟩) (rl xl yl tt).length ca ∧ (rl xl yl tt).length ≤ ca ∧ Hid (NS wy (some ⟨A, o, none⟩) .i64 (rl xl yl tt)) ∧ Hid (Below w.heap.size w wy)) (fun _ v55 _ => 2 - (intOf v55).toNat)
          case atStart => exact ⟨0, g, o1, cg - 1, by omega, rfl, by rw [HM0.out]; rfl, by show (xl ++ yl).length ≤ _; rw [← HM0.out]; omega, Lib.hid (HNS.out.snd (fun h => by simp; have := HO1.out (by rw [HM0.out]; exact List.length_pos_iff.2 h); omega)), HB2⟩
          case round =>
            clear HNS HB2 HA0 hcell hs1 hc HO1
            obtain ⟨tt, A, o, ca, ht2, rfl, rfl, hca, HNS, HB2⟩ := hrel
            by_cases h2 : tt = 2
            · subst h2
              have hr2 : (rl xl yl 2).length = 0 := rfl
              rw [hr2]
              clear HNS hca hr2
              go_wp2
              go_roundw
              case rel => exact ⟨k + 1, by omega, by go_num, HB2⟩
              case measure => simp [intOf]; omega
            · obtain ⟨x, vl, rv, hrl, hrn, hvl, hxk, hix, hvd, hrd⟩ : ∃ (x : Int) (vl rv : List Int), rl xl yl tt = vl ++ rv ∧ rl xl yl (tt + 1) = rv ∧ vl = bl N (fun _ => true) x ∧ x < k ∧ (∀ X : World, (Instr.index 37 (.agg #[.int .i64 L, .int .i64 R]) (.int .i64 tt)).run Try.prog X = .ok (.int .i64 x) X) ∧ vl.length ≤ d ∧ rv.length ≤ d := by
                have h3 : tt = 0 ∨ tt = 1 := by omega
                rcases h3 with rfl | rfl
                · exact ⟨L, xl, yl, rfl, rfl, HXL.out, HK.out.1, fun X => ixz X L R, hll, hlr⟩
                · exact ⟨R, yl, [], by simp [rl], rfl, HYL.out, HK.out.2, fun X => ixo X L R, hlr, by simp⟩
              have hlt2 : (tt : Int) < 2 := by omega
              obtain ⟨b1, hb1⟩ : ∃ b1, b1 = (rl xl yl tt).length := ⟨_, rfl⟩
              obtain ⟨a1, ha1⟩ : ∃ a1, a1 = vl.length := ⟨_, rfl⟩
              obtain ⟨c1, hc1⟩ : ∃ c1, c1 = rv.length := ⟨_, rfl⟩
              have hb2 : b1 = a1 + c1 := by rw [hb1, hrl, List.length_append, ha1, hc1]
              rw [hrl] at HNS
              rw [← hb1] at hca ⊢
              rw [← ha1] at hvd
              rw [← hc1] at hrd
              have HRN := Lib.hid hrn
              have HRL := Lib.hid hrl
              have HVL := Lib.hid hvl
              have HA1 := Lib.hid ha1
              have HC1 := Lib.hid hc1
              have HB1' := Lib.hid hb1
              clear hrl hrn hvl ha1 hb1 hc1
              by_cases hx0 : x < 0
              · have hv0 : vl = [] := by rw [HVL.out, bl_no hx0]
                have HV0 := Lib.hid hv0
                clear hv0
                subst hb2
                go_wp2
                go_roundw
                case rel =>
                  have h5 : rl xl yl (tt + 1) = rl xl yl tt := by rw [HRN.out, HRL.out, HV0.out]; rfl
                  refine ⟨tt + 1, A, o, ca, by omega, by go_num, by rw [h5, HB1'.out], by rw [h5, ← HB1'.out]; exact hca, ?_, HB2⟩
                  rw [HRN.out]
                  have h6 := HNS.out
                  rw [HV0.out] at h6
                  exact Lib.hid h6
                case measure => simp [intOf]; omega
              · have HC := Lib.hid (HAL.out wr x HB2.out (by omega) (by omega))
                rw [← HVL.out] at HC
                have hst := fun X => sl_to X (some ⟨A, o, none⟩) b1 ca a1 (by omega)
                obtain ⟨o2, ho2, hsf⟩ := sl_fromS A o b1 ca a1 (by omega) hca
                rw [show b1 - a1 = c1 by omega] at hsf
                have HO2 := Lib.hid ho2
                have HIE : Hid (∀ X q cq, NS X q .i64 vl → NS X (some ⟨A, o, none⟩) .i64 vl → Calls Try.prog 12 #[.slice q a1 cq, .slice (some ⟨A, o, none⟩) a1 ca] X fun e w' => e = .returned (.bool true) ∧ Below X.heap.size X w') := Lib.hid (fun X q cq h h' => by
                  have := ints_eqO X q (some ⟨A, o, none⟩) cq ca vl h h' (by have := HA1.out; omega)
                  rw [← HA1.out] at this
                  exact this)
                have HTA : Hid (∀ (X : World) v, X.ownsRow wr.heap.size 3 1 v vl.length (vl.map (Value.int .i64)) → ∃ q cq, v = .slice q a1 cq ∧ NS X q .i64 vl) := Lib.hid (fun X v h => by
                  obtain ⟨q, cq, e, h2⟩ := row_ints h
                  rw [← HA1.out] at e
                  exact ⟨q, cq, e, h2⟩)
                have hle : ¬ (b1 : Int) < a1 := by omega
                have HB2' := Lib.hid hb2
                have hc4 : c1 ≤ 8192 := by omega
                clear hb2 ho2
                go_wp2_with (first
                  | (go_at_call 10; (with_reducible refine HC.out.mono ?_); rintro e w3 ⟨v, rfl, hr, hb⟩; obtain ⟨q, cq, rfl, hq⟩ := HTA.out w3 v hr; have HQ := Lib.hid hq; have HNS3 := Lib.hid (HNS.out.keep hb); have HB3 := Lib.hid (HB2.out.trans (hb.mono HB2.out.size)); clear hr hb hq)
                  | (go_at_call 12; (with_reducible refine (HIE.out _ _ _ HQ.out HNS3.out.fst).mono ?_); rintro e w4 ⟨rfl, hb⟩; have HNS4 := Lib.hid (HNS3.out.keep hb); have HB4 := Lib.hid (HB3.out.trans (hb.mono HB3.out.size)); clear hb))
                go_roundw
                case rel =>
                  (repeat apply Exists.intro)
                  refine ⟨⟨tt + 1, A, o2, ca - a1, by omega, ?_, ?_, ?_, ?_, HB4⟩, rfl⟩
                  · go_num
                  · rw [HRN.out, ← HC1.out]
                  · rw [HRN.out, ← HC1.out]
                    have := HB2'.out
                    omega
                  · rw [HRN.out]
                    exact Lib.hid (HNS4.out.snd (fun h => by rw [← HA1.out]; exact HO2.out (by have := HB2'.out; have := HC1.out; have := List.length_pos_iff.2 h; omega)))
                case measure => simp [intOf]; omega
        · have hltz : ¬ (k : Int) < d := by omega
          go_wp2_with (go_at_call 8; (with_reducible refine (HAW.out _).mono ?_); rintro e w9 ⟨rfl, hb⟩; have HB9 := Lib.hid (HB.out.trans (hb.mono HB.out.size)); clear hb)
          go_ret
          exact ⟨rfl, HB9.out⟩
    · have hrf : rtB N = false := by
        cases h : rtB N with
        | true => exact absurd ((rtB_iff N).1 h) hR
        | false => rfl
      rw [hrf] at HR
      clear hx hR hrf
      generalize N.length = d at *
      go_enter Try.func4, Try.ntmps4
      go_wp2_with (first
        | (go_at_call 16; (with_reducible refine HR.out.mono ?_); rintro e w1 ⟨rfl, hb⟩; have HB := Lib.hid hb; clear hb)
        | (go_at_call 8; (with_reducible refine (HAW.out _).mono ?_); rintro e w9 ⟨rfl, hb⟩; have HB9 := Lib.hid (HB.out.trans (hb.mono HB.out.size)); clear hb))
      go_ret
      exact ⟨rfl, HB9.out⟩
  · have hbz : (200 : Int) < N.length := by omega
    clear hx
    generalize N.length = d at *
    go_enter Try.func4, Try.ntmps4
    go_wp2_with (go_at_call 8; (with_reducible refine (HAW.out _).mono ?_); rintro e w9 ⟨rfl, hb⟩; have HB := Lib.hid hb; clear hb)
    go_ret
    exact ⟨rfl, HB.out⟩

/- the row -/
set_option maxRecDepth 100000 in
theorem orderlaw_lifted (os : Os) (started : os.Started) (H : Type) (enc : TypeId × Value → H) :
    ReturnsInHanded {} Try.checked os 4 .any (Rows.stackOrderSpec.pre6 enc Try.prog Try.f4 Rows.stackOrderRow.domain false) (Rows.stackOrderSpec.post enc Try.prog Try.f4 false true false false) := by
  refine returnsInHanded_of_change (C := Try.checked) Try.own started (by kernel_rfl) Try.func4
    (ChangeSpec.witness6 (enc := enc) (C := Try.checked) false ⟨#[], #[.slice none 0 0], []⟩ 8 (by kernel_rfl) (by kernel_rfl) (by kernel_rfl) (by kernel_rfl)) ?_
  intro W base args ds gs before hval0 hW hcnd _
  have hval : ∀ (j : Nat) t v, Try.f4.params[j]? = some t → args[j]? = some v → Value.okWide Try.prog W .any base t v := hval0
  have hW' := hW
  obtain ⟨p, q, hA0, hV, rfl, hfz, hnd⟩ := hW
  have hA : DataW.TrodAll enc Try.prog W 0 (fun _ => true) true Try.f4.params.toList args.toList ds p := hA0
  rw [Try.params4] at hA hval
  obtain ⟨v0, vs0, d0, ds0, p0, q0, hargs, rfl, rfl, h0, r0⟩ := trodAll_cons hA
  obtain ⟨rfl, rfl, rfl⟩ := trodAll_nil r0
  obtain rfl : args = #[v0] := by cases args; simp_all
  obtain ⟨rfl, rfl⟩ := trodVars_none hV
  obtain ⟨a0, len0, cap0, rfl⟩ := okWide_slice Try.underlying22 (hval 0 22 v0 rfl rfl)
  obtain ⟨xs0, rfl, hx0, hp0⟩ := open_nodes h0
  clear hA0 hval0
  simp only [List.append_nil] at hW'
  have hlt : ∀ x ∈ p0, x.block < W.heap.size := fun x hx => by simpa using hW'.lt x (by simpa using hx)
  refine (order_walk W _ _ _ hx0).mono fun e W' ⟨he, hb⟩ => ?_
  subst he
  have hR : DataW.TrodAll enc Try.prog W' 0 (fun b => decide (b < W.heap.size)) true _ _ _ _ := (trodAll_cons_mk (Below.trod Try.laidOut (by kernel_rfl) (of_decide_eq_true (by kernel_rfl)) h0 hb (fun x hx => hlt x (by simp [hx]))) trodAll_mk0)
  simp only [List.append_nil] at hR
  exact ⟨_, rfl, law_post hW' (trodAll_cons_mk (shut_bool Try.underlying4 _) trodAll_mk0) hR rfl hb⟩

theorem orderlaw_holds : Rows.StackOrderSaid :=
  OpenClaim.holds_of_wide 4 Try.f4 rfl rfl rfl rfl rfl rfl rfl ⟨rfl, rfl, rfl, rfl, rfl⟩ rfl rfl rfl rfl rfl (by kernel_rfl) Try.func4 (by kernel_rfl)
    (of_decide_eq_true (by kernel_rfl)) (by unfold Func.isWrapper; first | (rw [if_pos (by decide +kernel)]; kernel_rfl) | (rw [if_neg (by decide +kernel)]; exact ⟨rfl, rfl⟩))
    (fun os started H enc _ => orderlaw_lifted os started H enc)
end Go.Proofs.Ytjobfpnlpfjoeaa
