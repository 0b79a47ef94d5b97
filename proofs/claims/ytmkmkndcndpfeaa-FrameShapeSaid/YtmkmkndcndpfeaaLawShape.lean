/-
  FrameShape: a frame's nodes are right, twice as many as leaves, less one, the last one the root, as high as leaves can be halved; each inner node is over what its two kids are over, and the leaves stand in a row. For every number; no condition.
-/
import Derived.Test.YtmkmkndcndpfeaaFs
import Derived.Test.YtmkmkndcndpfeaaFaw
import Derived.Test.YtmkmkndcndpfeaaHeight
import Derived.Test.YtmkmkndcndpfeaaLift
namespace Go.Proofs.Ytmkmkndcndpfeaa
open Go.ChangeShapes Go.WideShapes Go.ChangeAt Go.RowKit Go.Joins

/-- what has been made, in a world further on -/
theorem Nds.keep {w w' : World} {b off : Nat} {ns : List Nd} (h : Nds w b off ns) (hb : Below w.heap.size w w') : Nds w' b off ns := fun j n e => (h j n e).keep hb (h j n e).lt
theorem HW1 {w w1 X : World} (h : Below w.heap.size w w1) (g : Below w1.heap.size w1 X) : Below w.heap.size w X := h.trans (g.mono h.size)

theorem two_new (W : World) (o o' : Obj) : Below W.heap.size W ((W.alloc o).alloc o').drew := (((Below.refl _ W).alloc (Nat.le_refl _) _).alloc (by simp) _).drew
set_option maxRecDepth 100000 in
set_option maxHeartbeats 6400000 in
theorem shape_walk (a : Int) (w : World) (ha : 0 ≤ a ∧ a ≤ 65535) :
    Calls Try.prog 4 #[.int .u16 a] w fun e w' => e = .returned (.bool true) ∧ Below w.heap.size w w' := by
  obtain ⟨a', rfl⟩ : ∃ a' : Nat, a = a' := ⟨a.toNat, by omega⟩
  obtain ⟨m, hz, hm⟩ : ∃ m : Nat, (a' : Int) % 1501 = m ∧ m ≤ 1500 := ⟨a' % 1501, by omega, by omega⟩
  have ha2 : a' ≤ 65535 := by omega
  clear ha
  have hM := made_any w m hm
  have hlen := ndN_len m
  have hrt : rtB (ndN m) = true := (rtB_iff _).2 (ndN_rt m)
  obtain ⟨L, hL⟩ : ∃ L, L = ndN m := ⟨_, rfl⟩
  have HL := Lib.hid hL
  rw [← hL] at hM hlen hrt
  obtain ⟨z, hzl⟩ : ∃ z, z = L.length := ⟨_, rfl⟩
  have HZ := Lib.hid hzl
  rw [← hzl] at hM hlen
  have HM := Lib.hid hM
  clear hM hL
  by_cases h0 : m = 0
  · obtain rfl : z = 0 := by omega
    obtain rfl : L = [] := List.length_eq_zero_iff.1 hzl.symm
    have HRI : Hid (∀ X p c, Calls Try.prog 22 #[.slice p 0 c] X fun e w' => e = .returned (.bool true) ∧ Below X.heap.size X w') := Lib.hid (fun X p c => by
      have := Right_any X p c [] (.inl rfl) (by simp)
      rw [hrt] at this
      exact this)
    have HRO : Hid (∀ X B d pp, FR X B m d pp → Calls Try.prog 18 #[.pointer (some ⟨B, 0, none⟩)] X fun e w' => e = .returned (.int .i64 (-1)) ∧ w' = X) := Lib.hid (fun X B d pp h => Root_none X B d pp (h0 ▸ h))
    have hz0 : ((m : Int) == 0) = true := by simp; omega
    clear hzl hrt hlen h0
    go_enter Try.func4, Try.ntmps4
    go_wp2_with (first
      | (go_at_call 21; (with_reducible refine HM.out.mono ?_); rintro e w1 ⟨v, bl, rfl, hFS, hbl, hB, hrow, hnot⟩; obtain ⟨p, c, rfl⟩ := row_shape hrow; obtain ⟨d, pp, hfr⟩ := hFS.fr; have HFR := Lib.hid hfr; have HB := Lib.hid hB; clear hFS hbl hB hrow hnot hfr)
      | (go_at_call 22; (with_reducible refine (HRI.out _ _ _).mono ?_); rintro e w2 ⟨rfl, hb⟩; have HFR := Lib.hid (HFR.out.keep hb); have HB := Lib.hid (HW1 HB.out hb); clear hb)
      | (go_at_call 18; (with_reducible refine (HRO.out _ _ _ _ HFR.out).mono ?_); rintro e w3 ⟨rfl, rfl⟩)
      | (go_at_call 9; (with_reducible refine (awake_any _).mono ?_); rintro e w4 ⟨rfl, hb⟩; have HB := Lib.hid (HW1 HB.out hb); clear hb))
    go_ret
    exact ⟨rfl, HB.out⟩
  · have h1 : 1 ≤ m := by omega
    obtain ⟨r, hr⟩ : ∃ r, r = 2 * m - 2 := ⟨_, rfl⟩
    have hall := ndN_all m
    have hlv := ndN_lvc m
    have hht := ndN_height h1 hm
    have hbd := fun i x => ndN_bound (n := m) (i := i) (x := x)
    obtain ⟨xt, hxt, hxf, hxe⟩ := ndN_top h1
    rw [← HL.out] at hall hlv hht hbd hxt
    rw [← hr] at hht hxt
    have hzr : (z : Int) - 1 = r := by omega
    have hrz : (r : Int) < z := by omega
    have hzb : (z : Int) ≤ 3000 := by omega
    have HRI : Hid (∀ X q off c, Nds X q off L → Calls Try.prog 22 #[.slice (some ⟨q, off, none⟩) z c] X fun e w' => e = .returned (.bool true) ∧ Below X.heap.size X w') := Lib.hid (fun X q off c h => by
      have := Right_any X (some ⟨q, off, none⟩) c L (.inr ⟨q, off, rfl, h⟩) (by omega)
      rw [hrt, ← hzl] at this
      exact this)
    have HHT : Hid (∀ X q off c, Nds X q off L → Calls Try.prog 23 #[.slice (some ⟨q, off, none⟩) z c, .int .i64 r] X fun e w' => e = .returned (.tuple #[.int .i64 (lgI m), .int .i64 0]) ∧ Below X.heap.size X w') := Lib.hid (fun X q off c h => by
      have := Height_any X (some ⟨q, off, none⟩) c L r (.inr ⟨q, off, rfl, h⟩) (by omega) ((rtB_iff _).1 hrt) (by omega)
      rw [← hzl] at this
      refine this.mono ?_
      rintro e w' ⟨h, rfl, h2, h3⟩
      rw [hht] at h2
      cases h2
      exact ⟨rfl, h3⟩)
    have HLG : Hid (∀ X, Calls Try.prog 24 #[.int .i64 m] X fun e w' => e = .returned (.int .i64 (lgI m)) ∧ w' = X) := Lib.hid (fun X => Log_any m X (by omega))
    have HRO : Hid (∀ X B d pp, FR X B m d pp → Calls Try.prog 18 #[.pointer (some ⟨B, 0, none⟩)] X fun e w' => e = .returned (.int .i64 r) ∧ Below X.heap.size X w') := Lib.hid (fun X B d pp h => Root_any X B m r d pp h h1 (by omega) (by omega))
    have hz0 : ((m : Int) == 0) = false := by simp; omega
    have HALL := Lib.hid hall
    have HLV := Lib.hid hlv
    have HBD := Lib.hid hbd
    have HXT := Lib.hid hxt
    have HZZ := Lib.hid hlen
    have HN0 : Hid (∀ X p, NdS X p L → ∃ q off, p = some ⟨q, off, none⟩ ∧ Nds X q off L) := Lib.hid (fun X p h => by
      rcases h with h | h
      · rw [h] at hzl
        simp at hzl
        omega
      · exact h)
    clear hzl hrt hlen hall hlv hht hbd hxt hr h0
    go_enter Try.func4, Try.ntmps4
    go_wp2_with (first
      | (go_at_call 21; (with_reducible refine HM.out.mono ?_); rintro e w1 ⟨v, bl, rfl, hFS, hbl, hB, hrow, hnot⟩; obtain ⟨-, p, c, rfl, hN, -⟩ := row_nds hrow; obtain ⟨q, off, rfl, hN2⟩ := HN0.out _ _ hN; obtain ⟨d, pp, hfr⟩ := hFS.fr; have HFR := Lib.hid hfr; have HB := Lib.hid hB; have HN := Lib.hid hN2; clear hFS hbl hB hrow hnot hfr hN hN2)
      | (go_at_call 22; (with_reducible refine (HRI.out _ _ _ _ HN.out).mono ?_); rintro e w2 ⟨rfl, hb⟩; have HFR := Lib.hid (HFR.out.keep hb); have HN := Lib.hid (HN.out.keep hb); have HB := Lib.hid (HW1 HB.out hb); clear hb)
      | (go_at_call 23; (with_reducible refine (HHT.out _ _ _ _ HN.out).mono ?_); rintro e w2 ⟨rfl, hb⟩; have HFR := Lib.hid (HFR.out.keep hb); have HN := Lib.hid (HN.out.keep hb); have HB := Lib.hid (HW1 HB.out hb); clear hb)
      | (go_at_call 24; (with_reducible refine (HLG.out _).mono ?_); rintro e w3 ⟨rfl, rfl⟩)
      | (go_at_call 18; (with_reducible refine (HRO.out _ _ _ _ HFR.out).mono ?_); rintro e w3 ⟨rfl, hb⟩; have HN := Lib.hid (HN.out.keep hb); have HB := Lib.hid (HW1 HB.out hb); have t3 := (HN.out r xt HXT.out).c3; have t4 := (HN.out r xt HXT.out).c4; rw [show xt.2.2.2.1 = 0 from hxf] at t3; rw [show xt.2.2.2.2.1 = m from hxe] at t4; clear hb))
    clear t3 t4 HXT hxf hxe HRI HHT HLG HRO HM HN0 HFR HL
    go_loopw [9, 10, 87] (fun kd lf i wr => ∃ k u y : Nat, k ≤ z ∧ i = .int .i64 k ∧ kd = .int .i64 y ∧ lf = .int .i64 u ∧ y ≤ 2 * k ∧ u ≤ 3000 ∧ Hid (u = lvc (L.take k) ∧ y + 2 * u = 2 * k) ∧ Hid (Nds wr q off L) ∧ Hid (Below w.heap.size w wr)) (fun _ _ i _ => z - (intOf i).toNat)
    case atStart => exact ⟨0, 0, 0, Nat.zero_le _, rfl, rfl, rfl, by omega, by omega, Lib.hid ⟨rfl, rfl⟩, HN, HB⟩
    case round =>
      clear HN HB
      obtain ⟨k, u, y, hk, rfl, rfl, rfl, hy, hu, HU, HN, HB⟩ := hrel
      by_cases hlt : k < z
      · have hltz : (k : Int) < z := by omega
        obtain ⟨x, hxe⟩ : ∃ x, L[k]? = some x := ⟨_, List.getElem?_eq_getElem (by have := HZ.out; omega)⟩
        have hn := HN.out k x hxe
        have n0 := hn.c0
        have n1 := hn.c1
        have n2 := hn.c2
        have n3 := hn.c3
        have n4 := hn.c4
        have n5 := hn.c5
        have n6 := hn.c6
        have hP := HALL.out k x hxe
        have hlv2 : lvc (L.take (k + 1)) = lvc (L.take k) + (if nk x = 1 then 1 else 0) := by rw [List.take_add_one, hxe]; exact lvc_snoc _ _
        have hbx := HBD.out k x hxe
        clear hn
        rcases hP with hP | ⟨l, r2, na, nb, hl2, hr2, hP, hab, hb1, hb2⟩
        · rw [← HU.out.1] at hP
          subst hP
          simp only at n0 n1 n2 n3 n4 n5 n6
          have HU2 : Hid (u + 1 = lvc (L.take (k + 1)) ∧ y + 2 * (u + 1) = 2 * (k + 1)) := Lib.hid ⟨by rw [hlv2, ← HU.out.1]; rfl, by have := HU.out.2; omega⟩
          have hu2 : u < 3000 := by have := hbx.2.2; simp only [nt] at this; omega
          clear hlv2 hbx HU hxe
          go_wp2
          go_roundw
          case rel => exact ⟨k + 1, u + 1, y, by omega, by go_num, rfl, by go_num, by omega, by omega, HU2, Lib.hid (HN.out.keep ((Below.refl _ wr).alloc (Nat.le_refl _) _)), Lib.hid (HB.out.alloc HB.out.size _)⟩
          case measure => simp [intOf]; omega
        · subst hP
          have hl3 : L[l]? = some na ∧ l < k := by
            rw [List.getElem?_take] at hl2
            split at hl2
            · exact ⟨hl2, by assumption⟩
            · cases hl2
          have hr3 : L[r2]? = some nb ∧ r2 < k := by
            rw [List.getElem?_take] at hr2
            split at hr2
            · exact ⟨hr2, by assumption⟩
            · cases hr2
          have hba := HBD.out l na hl3.1
          have hbb := HBD.out r2 nb hr3.1
          have hna := HN.out l na hl3.1
          have hnb := HN.out r2 nb hr3.1
          have hlz : (l : Int) < z := by omega
          have hrz2 : (r2 : Int) < z := by omega
          obtain ⟨ka, la, ra, fa, ta, aa, ia⟩ := na
          obtain ⟨kb, lb, rb, fb, tb, ab, ib⟩ := nb
          simp only [nf, nt] at hab hb1 hb2 hba hbb hbx n0 n1 n2 n3 n4 n5 n6
          have HU2 : Hid (u = lvc (L.take (k + 1)) ∧ y + 2 + 2 * u = 2 * (k + 1)) := Lib.hid ⟨by rw [hlv2, ← HU.out.1]; rfl, by have := HU.out.2; omega⟩
          clear hlv2 hl2 hr2 hl3 hr3 hxe
          go_upto_region 23 with fail
          obtain ⟨W, hW⟩ : ∃ W, W = wr.alloc (.cells #[.int .u8 2, .int .i64 l, .int .i64 r2, .int .i64 fa, .int .i64 tb, .int .i64 0, .int .i64 0] 50) := ⟨_, rfl⟩
          rw [← hW]
          have HR : Row W wr.heap.size [.int .u8 2, .int .i64 l, .int .i64 r2, .int .i64 fa, .int .i64 tb, .int .i64 0, .int .i64 0] := by rw [hW]; exact Row.new wr _ 50 rfl
          have hWs : wr.heap.size < W.heap.size := by rw [hW]; simp
          have hbw : Below wr.heap.size wr W := by rw [hW]; exact (Below.refl _ wr).alloc (Nat.le_refl _) _
          have hqw : q < wr.heap.size := hna.lt
          have hqs : q < W.heap.size := by omega
          have hqs1 : q < W.heap.size + 1 := by omega
          have hWs1 : wr.heap.size < W.heap.size + 1 := by omega
          have ma := hna.keep hbw hna.lt
          have mb := hnb.keep hbw hnb.lt
          have a0 := ma.c0
          have a1 := ma.c1
          have a2 := ma.c2
          have a3 := ma.c3
          have a4 := ma.c4
          have a5 := ma.c5
          have a6 := ma.c6
          have b0 := mb.c0
          have b1 := mb.c1
          have b2 := mb.c2
          have b3 := mb.c3
          have b4 := mb.c4
          have b5 := mb.c5
          have b6 := mb.c6
          simp only at a0 a1 a2 a3 a4 a5 a6 b0 b1 b2 b3 b4 b5 b6
          have r1 := HR 1 _ rfl
          have rr2 := HR 2 _ rfl
          have r3 := HR 3 _ rfl
          have r4 := HR 4 _ rfl
          have HNW := Lib.hid (HN.out.keep hbw)
          have HBW := Lib.hid (HW1 HB.out hbw)
          clear hW hna hnb ma mb HR HN HB n0 n1 n2 n3 n4 n5 n6 hbw
          subst hab
          obtain ⟨D, hD⟩ : ∃ D, D = ta - fa - (tb - ta) := ⟨_, rfl⟩
          have hD0 : ¬ D < 0 := by omega
          have hD1 : ¬ 1 < D := by omega
          have hD2 : ta - fa - (tb - ta) = D := hD.symm
          clear hD
          go_region
          all_goals go_wp2
          all_goals go_roundw
          case rel => exact ⟨k + 1, u, y + 2, by omega, by go_num, by go_num, rfl, by omega, by omega, HU2, Lib.hid (HNW.out.keep (two_new W _ _)), Lib.hid (HW1 HBW.out (two_new W _ _))⟩
          case measure => simp [intOf]; omega
          case rel => exact ⟨k + 1, u, y + 2, by omega, by go_num, by go_num, rfl, by omega, by omega, HU2, Lib.hid (HNW.out.keep (two_new W _ _)), Lib.hid (HW1 HBW.out (two_new W _ _))⟩
          case measure => simp [intOf]; omega
      · have hltz : ¬ (k : Int) < z := by omega
        obtain rfl : k = z := by omega
        have e1 : u = m := by rw [HU.out.1, List.take_of_length_le (by have := HZ.out; omega), HLV.out]
        have e2 : y = r := by have := HU.out.2; have := HZZ.out; omega
        subst e1 e2
        have HB2 := HB
        clear HN HU HALL HLV HBD HZZ
        go_wp2_with (go_at_call 9; (with_reducible refine (awake_any _).mono ?_); rintro e w4 ⟨rfl, hb⟩; have HB := Lib.hid (HW1 HB.out hb); clear hb)
        go_ret
        exact ⟨rfl, HB.out⟩

/- the row -/
set_option maxRecDepth 100000 in
theorem shapelaw_lifted (os : Os) (started : os.Started) (H : Type) (enc : TypeId × Value → H) :
    ReturnsInHanded {} Try.checked os 4 .any (Rows.frameShapeSpec.pre6 enc Try.prog Try.f4 Rows.frameShapeRow.domain false) (Rows.frameShapeSpec.post enc Try.prog Try.f4 false true false false) := by
  refine returnsInHanded_of_change (C := Try.checked) Try.own started (by kernel_rfl) Try.func4
    (ChangeSpec.witness6 (enc := enc) (C := Try.checked) false ⟨#[], #[.int .u16 0], []⟩ 8 (by kernel_rfl) (by kernel_rfl) (by kernel_rfl) (by kernel_rfl)) ?_
  intro W base args ds gs before hval0 hW hcnd _
  have hval : ∀ (j : Nat) t v, Try.f4.params[j]? = some t → args[j]? = some v → Value.okWide Try.prog W .any base t v := hval0
  have hW' := hW
  obtain ⟨p, q, hA0, hV, rfl, hfz, hnd⟩ := hW
  have hA : DataW.TrodAll enc Try.prog W 0 (fun _ => true) true Try.f4.params.toList args.toList ds p := hA0
  rw [Try.params4] at hA hval
  obtain ⟨v0, vs0, d0, ds0, p0, q0, hargs, rfl, rfl, h0, r0⟩ := trodAll_cons hA
  obtain ⟨rfl, rfl, rfl⟩ := trodAll_nil r0
  obtain rfl : args = #[v0] := by cases args; simp_all
  obtain ⟨rfl, rfl⟩ := trodVars_none hV
  obtain ⟨a0, rfl, rfl, rfl, w0⟩ := open_int Try.underlying42 (hval 0 42 v0 rfl rfl) h0
  clear hA0 hval0
  simp only [List.append_nil] at hW'
  refine (shape_walk _ W (by simpa [Lit.wf, show IntKind.u16.min = 0 from rfl, show IntKind.u16.max = 65535 from rfl] using w0)).mono fun e W' ⟨he, hb⟩ => ?_
  subst he
  have hR : DataW.TrodAll enc Try.prog W' 0 (fun b => decide (b < W.heap.size)) true _ _ _ _ := (trodAll_cons_mk (shut_int Try.underlying42 w0) trodAll_mk0)
  simp only [List.append_nil] at hR
  exact ⟨_, rfl, law_post hW' (trodAll_cons_mk (shut_bool Try.underlying4 _) trodAll_mk0) hR rfl hb⟩

theorem shapelaw_holds : Rows.FrameShapeSaid :=
  OpenClaim.holds_of_wide 4 Try.f4 rfl rfl rfl rfl rfl rfl rfl ⟨rfl, rfl, rfl, rfl, rfl⟩ rfl rfl rfl rfl rfl (by kernel_rfl) Try.func4 (by kernel_rfl)
    (of_decide_eq_true (by kernel_rfl)) (by unfold Func.isWrapper; first | (rw [if_pos (by decide +kernel)]; kernel_rfl) | (rw [if_neg (by decide +kernel)]; exact ⟨rfl, rfl⟩))
    (fun os started H enc _ => shapelaw_lifted os started H enc)
end Go.Proofs.Ytmkmkndcndpfeaa
