/-
  StackWhole: for a range that has all, a walk tells the leaves that all nodes below have, in the order in which they are entered, and enters these nodes, for any nodes. No condition.
-/
import Derived.Test.YtjobfpnlpfjoeaaLawOrder
import Derived.BigQuiet
namespace Go.Proofs.Ytjobfpnlpfjoeaa
open Go.ChangeShapes Go.WideShapes Go.ChangeAt Go.RowKit Go.Joins

theorem enG_congr {N : List Nd} {P Q : Nd → Bool} (h : ∀ n ∈ N, P n = Q n) : ∀ f i, enG N P f i = enG N Q f i := by
  intro f
  induction f with
  | zero => intro i; rfl
  | succ f ih =>
    intro i
    cases e : N[i.toNat]? with
    | none => simp [enG, e]
    | some n =>
      simp only [enG, e]
      rw [h n (List.mem_of_getElem? e), flatMap_congr' (fun x _ => ih x)]
theorem en_congr {N : List Nd} {P Q : Nd → Bool} (h : ∀ n ∈ N, P n = Q n) (i : Int) : en N P i = en N Q i := enG_congr h _ _
/-- From and To are from -1000 to 1000, From below To -/
def Fit (n : Nd) : Prop := -1000 ≤ n.2.2.2.1 ∧ n.2.2.2.2.1 ≤ 1000 ∧ n.2.2.2.1 < n.2.2.2.2.1
theorem fit_in {n : Nd} (h : Fit n) : inR (-1001) 1001 n = true := by
  obtain ⟨h1, h2, h3⟩ := h
  unfold inR
  rw [decide_eq_false (by omega), decide_eq_false (by omega)]
  rfl
theorem tln_leaf {n : Nd} (h : Fit n) (h1 : nk n = 1) : tln (-1001) 1001 n = [n.2.2.2.1] := by
  unfold tln
  rw [fit_in h, decide_eq_true h1]
  rfl
theorem tln_not {a b : Int} {n : Nd} (h1 : ¬ nk n = 1) : tln a b n = [] := by
  unfold tln
  rw [decide_eq_false h1]
  simp
theorem tls_drop {N : List Nd} {a b : Int} {M : List Int} {t i : Nat} {n : Nd} (hM : M[t]? = some (i : Int)) (e : N[i]? = some n) : tls N a b (M.drop t) = tln a b n ++ tls N a b (M.drop (t + 1)) := by
  obtain ⟨h1, h2⟩ := List.getElem?_eq_some_iff.1 hM
  rw [List.drop_eq_getElem_cons h1, h2]
  show tl1 N a b i ++ _ = _
  rw [tl1_at e]
  rfl

set_option maxRecDepth 100000 in
set_option maxHeartbeats 6400000 in
theorem whole_walk (w : World) (p : Option Addr) (c : Nat) (N : List Nd) (hx : NdS w p N) :
    Calls Try.prog 6 #[.slice p N.length c] w fun e w' => e = .returned (.bool true) ∧ Below w.heap.size w w' := by
  have HAW := Lib.hid awake_any
  by_cases hbig : N.length ≤ 200
  · have hbz : ¬ (200 : Int) < N.length := by omega
    have hl : N.length ≤ 8192 := by omega
    have HR := Lib.hid (Right_any w p c N hx hl)
    by_cases hR : Rt N
    · rw [(rtB_iff N).2 hR] at HR
      have HRT := Lib.hid hR
      have HX := Lib.hid hx
      have HAL : Hid (∀ X (r : Int), Below w.heap.size w X → 0 ≤ r → r < N.length → Calls Try.prog 10 #[.slice p N.length c, .int .i64 r] X (TA X (en N (fun _ => true) r) 0)) := Lib.hid (fun X r hX h0 h1 => by
        have := All_any X p c N r (hx.keep hX) hl
        rw [chk_yes hR h0 h1, allR_yes hR h0 h1, bl_yes h0] at this
        exact this)
      have HLE : Hid (∀ X (r : Int), (∀ n ∈ N, Fit n) → Below w.heap.size w X → 0 ≤ r → r < N.length → Calls Try.prog 13 #[.slice p N.length c, .int .i64 r, .int .i64 (-1001), .int .i64 1001] X (TL X (tls N (-1001) 1001 (en N (fun _ => true) r)) (en N (fun _ => true) r).length 0)) := Lib.hid (fun X r hf hX h0 h1 => by
        have := Leaves_any X p c N r (-1001) 1001 (hx.keep hX) hl
        have h2 : ranR N (-1001) 1001 r = en N (fun _ => true) r := by
          rw [ranR, if_pos (chk_yes hR h0 h1)]
          exact en_congr (fun n hn => fit_in (hf n hn)) r
        rw [chk_yes hR h0 h1, h2] at this
        exact this)
      obtain ⟨d, hd⟩ : ∃ d, d = N.length := ⟨_, rfl⟩
      have HD := Lib.hid hd
      rw [← hd] at HR HAL HLE hl hbz hbig ⊢
      clear hd hx hR
      go_enter Try.func6, Try.ntmps6
      go_wp2_with (go_at_call 16; (with_reducible refine HR.out.mono ?_); rintro e w1 ⟨rfl, hb⟩; have HB := Lib.hid hb; clear hb)
      go_loopw [24] (fun v wr => ∃ k : Nat, k ≤ d ∧ v = .int .i64 k ∧ Hid (∀ n ∈ N.take k, Fit n) ∧ Hid (Below w.heap.size w wr)) (fun v _ => d - (intOf v).toNat)
      case atStart => exact ⟨0, Nat.zero_le _, rfl, Lib.hid (by simp), HB⟩
      case round =>
        clear HR
        obtain ⟨k, hk, rfl, HF, HB⟩ := hrel
        by_cases hlt : k < d
        · have hltz : (k : Int) < d := by omega
          obtain ⟨n, hne⟩ : ∃ n, N[k]? = some n := ⟨_, List.getElem?_eq_getElem (by have := HD.out; omega)⟩
          obtain ⟨b, off, rfl, h1⟩ := (HX.out.keep HB.out).at hne
          have n0 := h1.c0
          have n1 := h1.c1
          have n2 := h1.c2
          have n3 := h1.c3
          have n4 := h1.c4
          have n5 := h1.c5
          have n6 := h1.c6
          have HB1 := Lib.hid (HB.out.alloc HB.out.size (.cells (nvs n).toArray 36))
          have HTK := Lib.hid (show N.take (k + 1) = N.take k ++ [n] by rw [List.take_add_one, hne]; rfl)
          clear h1 hne
          obtain ⟨kk, L, R, f, t, a, q⟩ := n
          unfold nvs at HB1
          simp only at n0 n1 n2 n3 n4 n5 n6
          by_cases h1 : f < -1000
          · go_wp2_with (go_at_call 8; (with_reducible refine (HAW.out _).mono ?_); rintro e w9 ⟨rfl, hb⟩; have HB9 := Lib.hid (HB1.out.trans (hb.mono HB1.out.size)); clear hb)
            go_ret
            exact ⟨rfl, HB9.out⟩
          · by_cases h2 : 1000 < t
            · go_wp2_with (go_at_call 8; (with_reducible refine (HAW.out _).mono ?_); rintro e w9 ⟨rfl, hb⟩; have HB9 := Lib.hid (HB1.out.trans (hb.mono HB1.out.size)); clear hb)
              go_ret
              exact ⟨rfl, HB9.out⟩
            · by_cases h3 : t ≤ f
              · go_wp2_with (go_at_call 8; (with_reducible refine (HAW.out _).mono ?_); rintro e w9 ⟨rfl, hb⟩; have HB9 := Lib.hid (HB1.out.trans (hb.mono HB1.out.size)); clear hb)
                go_ret
                exact ⟨rfl, HB9.out⟩
              · go_wp2
                go_roundw
                case rel =>
                  refine ⟨k + 1, by omega, by go_num, Lib.hid ?_, HB1⟩
                  intro m hm
                  rw [HTK.out, List.mem_append] at hm
                  rcases hm with hm | hm
                  · exact HF.out m hm
                  · simp at hm
                    subst hm
                    exact ⟨by show -1000 ≤ f; omega, by show t ≤ 1000; omega, by show f < t; omega⟩
                case measure => simp [intOf]; omega
        · have hltz : ¬ (k : Int) < d := by omega
          obtain rfl : k = d := by omega
          have HFT : Hid (∀ n ∈ N, Fit n) := Lib.hid (fun n hn => HF.out n (by rw [HD.out, List.take_length]; exact hn))
          clear HF
          go_wp2
          go_loopw [47] (fun v wy => ∃ j : Nat, j ≤ k ∧ v = .int .i64 j ∧ Hid (Below w.heap.size w wy)) (fun v _ => k - (intOf v).toNat)
          case atStart => exact ⟨0, Nat.zero_le _, rfl, HB⟩
          case round =>
            clear HB
            obtain ⟨j, hj, rfl, HB⟩ := hrel
            by_cases hjl : j < k
            · have hjz : (j : Int) < k := by omega
              have HA0 := Lib.hid (HAL.out wr (j : Int) HB.out (by omega) hjz)
              have HL0 := Lib.hid (fun X hX => HLE.out X (j : Int) HFT.out hX (by omega) hjz)
              have hml := (en_once HRT.out (fun _ => true) (i := (j : Int)) (by omega) (by have := HD.out; omega))
              obtain ⟨M, hM⟩ : ∃ M, M = en N (fun _ => true) (j : Int) := ⟨_, rfl⟩
              rw [← hM] at HA0 HL0 hml
              have HIN := Lib.hid hml.2.1
              have hm8 : M.length ≤ k := by have := hml.2.2; have := HD.out; omega
              obtain ⟨m, hm⟩ : ∃ m, m = M.length := ⟨_, rfl⟩
              have HMM := Lib.hid hm
              have HL4 := Lib.hid (tls_len N (-1001) 1001 M)
              rw [← hm] at HL0 hm8
              have HTA : Hid (∀ (X : World) b0 v, X.ownsRow b0 3 1 v M.length (M.map (Value.int .i64)) → ∃ q cq, v = .slice q m cq ∧ NS X q .i64 M) := Lib.hid (fun X b0 v h => by
                obtain ⟨q, cq, e, h2⟩ := row_ints h
                rw [← hm] at e
                exact ⟨q, cq, e, h2⟩)
              have HTB : Hid (∀ (X : World) b0 v, X.ownsRow b0 3 1 v (tls N (-1001) 1001 M).length ((tls N (-1001) 1001 M).map (Value.int .i64)) → ∃ q cq, v = .slice q (tls N (-1001) 1001 M).length cq ∧ NS X q .i64 (tls N (-1001) 1001 M) ∧ (tls N (-1001) 1001 M).length ≤ cq) := Lib.hid (fun X b0 v h => by
                obtain ⟨q, cq, e, h2⟩ := row_ints h
                refine ⟨q, cq, e, h2, ?_⟩
                rcases h.2 with ⟨e2, h3⟩ | ⟨g, cap, cur, e2, _, _, h3, _⟩
                · rw [e2] at e
                  injection e with e3 e4 e5
                  omega
                · rw [e2] at e
                  injection e with e3 e4 e5
                  omega)
              clear hml hM hm
              go_wp2_with (first
                | (go_at_call 10; (with_reducible refine HA0.out.mono ?_); rintro e w2 ⟨v, rfl, hr, hb⟩; obtain ⟨q1, c1, rfl, hq⟩ := HTA.out w2 _ v hr; have HQ := Lib.hid hq; have HB2 := Lib.hid (HB.out.trans (hb.mono HB.out.size)); clear hr hb hq)
                | (go_at_call 13; (with_reducible refine (HL0.out _ HB2.out).mono ?_); rintro e w3 ⟨v, rfl, hr, hb⟩; obtain ⟨q3, c3, rfl, hq, hc3⟩ := HTB.out w3 _ v hr; have HQ3 := Lib.hid hq; have HQ := Lib.hid (HQ.out.keep hb); have HB3 := Lib.hid (HB2.out.trans (hb.mono HB2.out.size)); clear hr hb hq))
              have HT0 := Lib.hid (show tls N (-1001) 1001 (M.drop 0) = tls N (-1001) 1001 M by rw [List.drop_zero])
              clear HA0 HL0 HTA HTB
              go_loopw [8, 77] (fun v8 v77 wz => ∃ (tt : Nat) (q : Option Addr) (ca : Nat), tt ≤ m ∧ v77 = .int .i64 tt ∧ v8 = .slice q (tls N (-1001) 1001 (M.drop tt)).length ca ∧ (tls N (-1001) 1001 (M.drop tt)).length ≤ ca ∧ Hid (NS wz q .i64 (tls N (-1001) 1001 (M.drop tt))) ∧ Hid (NS wz q1 .i64 M) ∧ Hid (Below w.heap.size w wz)) (fun _ v77 _ => m - (intOf v77).toNat)
              case atStart => exact ⟨0, q3, c3, Nat.zero_le _, rfl, by rw [HT0.out], by rw [HT0.out]; exact hc3, by rw [HT0.out]; exact HQ3, HQ, HB3⟩
              case round =>
                clear HT0 HQ HQ3 HB3 hc3
                obtain ⟨tt, q, ca, htm, rfl, rfl, hca, HQ3, HQ, HB3⟩ := hrel
                by_cases htl : tt < m
                · have htz : (tt : Int) < m := by omega
                  obtain ⟨x, hxe⟩ : ∃ x, M[tt]? = some x := ⟨_, List.getElem?_eq_getElem (by have := HMM.out; omega)⟩
                  obtain ⟨hx0, hxj⟩ := HIN.out x (List.mem_of_getElem? hxe)
                  obtain ⟨i, rfl⟩ : ∃ i : Nat, x = i := ⟨x.toNat, by omega⟩
                  obtain ⟨nd, hne⟩ : ∃ nd, N[i]? = some nd := ⟨_, List.getElem?_eq_getElem (by have := HD.out; omega)⟩
                  have hHQ := HQ.out
                  rcases hHQ with h0 | ⟨b1, o1, rfl, hc1⟩
                  · rw [h0] at hxe; simp at hxe
                  · have hcx := hc1 tt _ hxe
                    have hik : ¬ (k : Int) ≤ i := by omega
                    have hik2 : (i : Int) < k := by omega
                    obtain ⟨b, off, rfl, h1⟩ := (HX.out.keep HB3.out).at hne
                    have n0 := h1.c0
                    have n3 := h1.c3
                    have HTD := Lib.hid (tls_drop (a := -1001) (b := 1001) hxe hne)
                    have hfit := HFT.out nd (List.mem_of_getElem? hne)
                    have HFI := Lib.hid hfit
                    clear h1 hne hxe hc1 hfit hx0
                    by_cases hkd : nk nd = 1
                    · have HT1 := Lib.hid (show tls N (-1001) 1001 (M.drop tt) = [nd.2.2.2.1] ++ tls N (-1001) 1001 (M.drop (tt + 1)) by rw [HTD.out, tln_leaf HFI.out hkd])
                      obtain ⟨n1, hn1⟩ : ∃ n1, n1 = (tls N (-1001) 1001 (M.drop (tt + 1))).length := ⟨_, rfl⟩
                      obtain ⟨l1, hl1⟩ : ∃ l1, l1 = (tls N (-1001) 1001 (M.drop tt)).length := ⟨_, rfl⟩
                      have hln : l1 = n1 + 1 := by rw [hl1, HT1.out, List.length_append, hn1]; simp; omega
                      have hHQ3 := HQ3.out
                      rw [HT1.out] at hHQ3
                      rcases hHQ3 with h0 | ⟨A, o, rfl, hc3⟩
                      · simp at h0
                      · have hcf := hc3 0 nd.2.2.2.1 rfl
                        rw [← hl1] at hca ⊢
                        obtain ⟨o2, ho2, hs1⟩ := sl_from1 A o n1 ca (by omega)
                        rw [← hln] at hs1
                        have HO2 := Lib.hid ho2
                        have HN1 := Lib.hid hn1
                        have hl0 : ((l1 : Int) == 0) = false := by simp; omega
                        have hl0' : (0 : Int) < l1 := by omega
                        have HLN := Lib.hid hln
                        have HCA := Lib.hid hca
                        have hk1 : nd.1 = 1 := hkd
                        obtain ⟨kk, L, R, f, t, a, qq⟩ := nd
                        simp only at n0 n3 hcf hk1
                        subst hk1
                        simp only [Nat.add_zero] at hcf
                        clear hn1 hl1 hln ho2 hc3 hkd hca
                        go_upto_region 22 with fail
                        go_quiet (fail)
                        go_wp2
                        go_roundw
                        case rel =>
                          refine ⟨tt + 1, some ⟨A, o2, none⟩, ca - 1, by omega, by go_num, by rw [← HN1.out], by rw [← HN1.out]; have := HCA.out; have := HLN.out; omega, ?_, Lib.hid HQ.out, Lib.hid ⟨HB3.out.os, HB3.out.tape, HB3.out.output, HB3.out.size, HB3.out.block⟩⟩
                          have h7 := HQ3.out
                          rw [HT1.out] at h7
                          exact Lib.hid (h7.snd (fun h => by simp; exact HO2.out (by rw [HN1.out]; exact List.length_pos_iff.2 h)))
                        case measure => simp [intOf]; omega
                    · have HT1 := Lib.hid (show tls N (-1001) 1001 (M.drop tt) = tls N (-1001) 1001 (M.drop (tt + 1)) by rw [HTD.out, tln_not hkd]; rfl)
                      obtain ⟨l1, hl1⟩ : ∃ l1, l1 = (tls N (-1001) 1001 (M.drop tt)).length := ⟨_, rfl⟩
                      have HL1 := Lib.hid hl1
                      have hk1 : ¬ nd.1 = 1 := hkd
                      obtain ⟨kk, L, R, f, t, a, qq⟩ := nd
                      simp only at n0 n3 hk1
                      rw [← hl1] at hca ⊢
                      clear hl1 hkd
                      go_wp2
                      go_roundw
                      case rel => exact ⟨tt + 1, q, ca, by omega, by go_num, by rw [← HT1.out, ← HL1.out], by rw [← HT1.out, ← HL1.out]; exact hca, by rw [← HT1.out]; exact HQ3, HQ, HB3⟩
                      case measure => simp [intOf]; omega
                · obtain rfl : tt = m := by omega
                  have htz : ¬ (tt : Int) < tt := by omega
                  have ht0 : (tls N (-1001) 1001 (M.drop tt)).length = 0 := by rw [HMM.out, List.drop_length]; rfl
                  rw [ht0]
                  clear ht0 HQ3 hca
                  go_wp2
                  go_roundw
                  case rel => exact ⟨j + 1, by omega, by go_num, HB3⟩
                  case measure => simp [intOf]; omega
            · have hjz : ¬ (j : Int) < k := by omega
              go_wp2_with (go_at_call 8; (with_reducible refine (HAW.out _).mono ?_); rintro e w9 ⟨rfl, hb⟩; have HB9 := Lib.hid (HB.out.trans (hb.mono HB.out.size)); clear hb)
              go_ret
              exact ⟨rfl, HB9.out⟩
    · have hrf : rtB N = false := by
        cases h : rtB N with
        | true => exact absurd ((rtB_iff N).1 h) hR
        | false => rfl
      rw [hrf] at HR
      clear hx hR hrf
      generalize N.length = d at *
      go_enter Try.func6, Try.ntmps6
      go_wp2_with (first
        | (go_at_call 16; (with_reducible refine HR.out.mono ?_); rintro e w1 ⟨rfl, hb⟩; have HB := Lib.hid hb; clear hb)
        | (go_at_call 8; (with_reducible refine (HAW.out _).mono ?_); rintro e w9 ⟨rfl, hb⟩; have HB9 := Lib.hid (HB.out.trans (hb.mono HB.out.size)); clear hb))
      go_ret
      exact ⟨rfl, HB9.out⟩
  · have hbz : (200 : Int) < N.length := by omega
    clear hx
    generalize N.length = d at *
    go_enter Try.func6, Try.ntmps6
    go_wp2_with (go_at_call 8; (with_reducible refine (HAW.out _).mono ?_); rintro e w9 ⟨rfl, hb⟩; have HB := Lib.hid hb; clear hb)
    go_ret
    exact ⟨rfl, HB.out⟩

/- the row -/
set_option maxRecDepth 100000 in
theorem wholelaw_lifted (os : Os) (started : os.Started) (H : Type) (enc : TypeId × Value → H) :
    ReturnsInHanded {} Try.checked os 6 .any (Rows.stackWholeSpec.pre6 enc Try.prog Try.f6 Rows.stackWholeRow.domain false) (Rows.stackWholeSpec.post enc Try.prog Try.f6 false true false false) := by
  refine returnsInHanded_of_change (C := Try.checked) Try.own started (by kernel_rfl) Try.func6
    (ChangeSpec.witness6 (enc := enc) (C := Try.checked) false ⟨#[], #[.slice none 0 0], []⟩ 8 (by kernel_rfl) (by kernel_rfl) (by kernel_rfl) (by kernel_rfl)) ?_
  intro W base args ds gs before hval0 hW hcnd _
  have hval : ∀ (j : Nat) t v, Try.f6.params[j]? = some t → args[j]? = some v → Value.okWide Try.prog W .any base t v := hval0
  have hW' := hW
  obtain ⟨p, q, hA0, hV, rfl, hfz, hnd⟩ := hW
  have hA : DataW.TrodAll enc Try.prog W 0 (fun _ => true) true Try.f6.params.toList args.toList ds p := hA0
  rw [Try.params6] at hA hval
  obtain ⟨v0, vs0, d0, ds0, p0, q0, hargs, rfl, rfl, h0, r0⟩ := trodAll_cons hA
  obtain ⟨rfl, rfl, rfl⟩ := trodAll_nil r0
  obtain rfl : args = #[v0] := by cases args; simp_all
  obtain ⟨rfl, rfl⟩ := trodVars_none hV
  obtain ⟨a0, len0, cap0, rfl⟩ := okWide_slice Try.underlying22 (hval 0 22 v0 rfl rfl)
  obtain ⟨xs0, rfl, hx0, hp0⟩ := open_nodes h0
  clear hA0 hval0
  simp only [List.append_nil] at hW'
  have hlt : ∀ x ∈ p0, x.block < W.heap.size := fun x hx => by simpa using hW'.lt x (by simpa using hx)
  refine (whole_walk W _ _ _ hx0).mono fun e W' ⟨he, hb⟩ => ?_
  subst he
  have hR : DataW.TrodAll enc Try.prog W' 0 (fun b => decide (b < W.heap.size)) true _ _ _ _ := (trodAll_cons_mk (Below.trod Try.laidOut (by kernel_rfl) (of_decide_eq_true (by kernel_rfl)) h0 hb (fun x hx => hlt x (by simp [hx]))) trodAll_mk0)
  simp only [List.append_nil] at hR
  exact ⟨_, rfl, law_post hW' (trodAll_cons_mk (shut_bool Try.underlying4 _) trodAll_mk0) hR rfl hb⟩

theorem wholelaw_holds : Rows.StackWholeSaid :=
  OpenClaim.holds_of_wide 6 Try.f6 rfl rfl rfl rfl rfl rfl rfl ⟨rfl, rfl, rfl, rfl, rfl⟩ rfl rfl rfl rfl rfl (by kernel_rfl) Try.func6 (by kernel_rfl)
    (of_decide_eq_true (by kernel_rfl)) (by unfold Func.isWrapper; first | (rw [if_pos (by decide +kernel)]; kernel_rfl) | (rw [if_neg (by decide +kernel)]; exact ⟨rfl, rfl⟩))
    (fun os started H enc _ => wholelaw_lifted os started H enc)
end Go.Proofs.Ytjobfpnlpfjoeaa
