/-
  ItemIn is proved: for every point and box the law answers true and changes nothing that was there; no condition.
-/
import Derived.Test.YtpbghgmaikmneaaWd
namespace Go.Proofs.Ytpbghgmaikmneaa
open Go.ChangeShapes Go.WideShapes Go.ChangeAt Go.RowKit Go.Joins
theorem in_split (x y a b c d : Int) : inD x y a b c d = (stabD a b x && stabD c d y) := by simp [inD, stabD, Bool.and_assoc]
theorem in_right {x y a b c d : Int} (h : inD x y a b c d = true) : rbD a b c d = true := by simp [inD, rbD] at *; omega
theorem in_lo (a b c d j : Int) (w : World) :
    Calls Try.prog 21 #[.agg #[.int .i64 a, .int .i64 c, .int .u32 0], .agg #[.int .i64 a, .int .i64 b, .int .i64 c, .int .i64 d, .int .u32 j]] w fun e w' => e = .returned (.bool (rbD a b c d)) ∧ Below w.heap.size w w' :=
  in_is (by rw [Bool.eq_iff_iff]; simp [inD, rbD]) 0 j w
theorem in_hi (a b c d j : Int) (w : World) :
    Calls Try.prog 21 #[.agg #[.int .i64 b, .int .i64 d, .int .u32 0], .agg #[.int .i64 a, .int .i64 b, .int .i64 c, .int .i64 d, .int .u32 j]] w fun e w' => e = .returned (.bool (rbD a b c d)) ∧ Below w.heap.size w w' :=
  in_is (by rw [Bool.eq_iff_iff]; simp [inD, rbD]) 0 j w

set_option maxRecDepth 100000 in
set_option maxHeartbeats 4000000 in
theorem in_walk (x y i a b c d j : Int) (w : World) :
    Calls Try.prog 7 #[.agg #[.int .i64 x, .int .i64 y, .int .u32 i], .agg #[.int .i64 a, .int .i64 b, .int .i64 c, .int .i64 d, .int .u32 j]] w fun e w' => e = .returned (.bool true) ∧ Below w.heap.size w w' := by
  go_enter Try.func7, Try.ntmps7
  go_upto_region 1 with fail
  have R0 := (Row.new w [.int .i64 x, .int .i64 y, .int .u32 i] 24 rfl).all (.cells #[.int .i64 a, .int .i64 b, .int .i64 c, .int .i64 d, .int .u32 j] 28)
  have R1 := Row.new (w.alloc (.cells #[.int .i64 x, .int .i64 y, .int .u32 i] 24)) (n := w.heap.size + 1) [.int .i64 a, .int .i64 b, .int .i64 c, .int .i64 d, .int .u32 j] 28 (by simp)
  have HB := BlA (BlA (Lib.hid (Below.refl w.heap.size w)) (.cells #[.int .i64 x, .int .i64 y, .int .u32 i] 24)) (.cells #[.int .i64 a, .int .i64 b, .int .i64 c, .int .i64 d, .int .u32 j] 28)
  have hz : w.heap.size + 1 < ((w.alloc (.cells #[.int .i64 x, .int .i64 y, .int .u32 i] 24)).alloc (.cells #[.int .i64 a, .int .i64 b, .int .i64 c, .int .i64 d, .int .u32 j] 28)).heap.size := by simp
  generalize (w.alloc (.cells #[.int .i64 x, .int .i64 y, .int .u32 i] 24)).alloc (.cells #[.int .i64 a, .int .i64 b, .int .i64 c, .int .i64 d, .int .u32 j] 28) = W at *
  go_cut [5, 6] (fun s5 s6 wx => ∃ gx gy : Nat, s5 = .pointer (some ⟨gx, 0, none⟩) ∧ s6 = .pointer (some ⟨gy, 0, none⟩) ∧ Row wx gx [.int .i64 a, .int .i64 b, .int .u32 0] ∧ Row wx gy [.int .i64 c, .int .i64 d, .int .u32 0] ∧ Row wx w.heap.size [.int .i64 x, .int .i64 y, .int .u32 i] ∧ Row wx (w.heap.size + 1) [.int .i64 a, .int .i64 b, .int .i64 c, .int .i64 d, .int .u32 j] ∧ Hid (Below w.heap.size w wx))
  case first =>
    have c0 := R1 0 _ rfl
    have c1 := R1 1 _ rfl
    have c2 := R1 2 _ rfl
    have c3 := R1 3 _ rfl
    have hz' : w.heap.size < W.heap.size := by omega
    go_region
    all_goals go_wp2_with fail
    all_goals go_meet
    · exact ⟨W.heap.size, W.heap.size + 1, rfl, rfl, ((Row.new W [.int .i64 a, .int .i64 b, .int .u32 0] 26 rfl).all _).drew, (Row.new _ [.int .i64 c, .int .i64 d, .int .u32 0] 26 (by simp)).drew, ((R0.all _).all _).drew, ((R1.all _).all _).drew, Lib.hid (BlA (BlA HB _) _).out.drew⟩
    · exact ⟨W.heap.size + 1, W.heap.size, rfl, rfl, (Row.new _ [.int .i64 a, .int .i64 b, .int .u32 0] 26 (by simp)).drew, ((Row.new W [.int .i64 c, .int .i64 d, .int .u32 0] 26 rfl).all _).drew, ((R0.all _).all _).drew, ((R1.all _).all _).drew, Lib.hid (BlA (BlA HB _) _).out.drew⟩
  case rest =>
    clear R0 R1 HB hz
    obtain ⟨gx, gy, rfl, rfl, RX, RY, R0, R1, HB⟩ := hcut
    go_upto_region 2 with fail
    obtain ⟨p, hpp⟩ : ∃ p : World → Prop, p = Cl w [(gx, [.int .i64 a, .int .i64 b, .int .u32 0]), (gy, [.int .i64 c, .int .i64 d, .int .u32 0]), (w.heap.size, [.int .i64 x, .int .i64 y, .int .u32 i]), (w.heap.size + 1, [.int .i64 a, .int .i64 b, .int .i64 c, .int .i64 d, .int .u32 j])] := ⟨_, rfl⟩
    have h0p : p (wc) := hpp ▸ (Cl.cons RX (Cl.cons RY (Cl.cons R0 (Cl.cons R1 (Cl.nil HB.out)))))
    have hkp : Hid (∀ X w', p X → Below X.heap.size X w' → p w') := Lib.hid (by subst hpp; exact fun X w' h hb => h.keep hb)
    have hdp : Hid (∀ X, p X → p X.drew) := Lib.hid (by subst hpp; exact fun X h => h.drew)
    have hBp : Hid (∀ X, p X → Below w.heap.size w X) := Lib.hid (by subst hpp; exact fun X h => h.2)
    have qp0_0 : ∀ s : Wd p, s.w.cell? ⟨gx, 0, none⟩ = some (.int .i64 a) := by subst hpp; exact fun s => s.h.cell 0 rfl 0 rfl
    have qp0_1 : ∀ s : Wd p, s.w.cell? ⟨gx, 1, none⟩ = some (.int .i64 b) := by subst hpp; exact fun s => s.h.cell 0 rfl 1 rfl
    have qp0_2 : ∀ s : Wd p, s.w.cell? ⟨gx, 2, none⟩ = some (.int .u32 0) := by subst hpp; exact fun s => s.h.cell 0 rfl 2 rfl
    have qp1_0 : ∀ s : Wd p, s.w.cell? ⟨gy, 0, none⟩ = some (.int .i64 c) := by subst hpp; exact fun s => s.h.cell 1 rfl 0 rfl
    have qp1_1 : ∀ s : Wd p, s.w.cell? ⟨gy, 1, none⟩ = some (.int .i64 d) := by subst hpp; exact fun s => s.h.cell 1 rfl 1 rfl
    have qp1_2 : ∀ s : Wd p, s.w.cell? ⟨gy, 2, none⟩ = some (.int .u32 0) := by subst hpp; exact fun s => s.h.cell 1 rfl 2 rfl
    have qp2_0 : ∀ s : Wd p, s.w.cell? ⟨w.heap.size, 0, none⟩ = some (.int .i64 x) := by subst hpp; exact fun s => s.h.cell 2 rfl 0 rfl
    have qp2_1 : ∀ s : Wd p, s.w.cell? ⟨w.heap.size, 1, none⟩ = some (.int .i64 y) := by subst hpp; exact fun s => s.h.cell 2 rfl 1 rfl
    have qp2_2 : ∀ s : Wd p, s.w.cell? ⟨w.heap.size, 2, none⟩ = some (.int .u32 i) := by subst hpp; exact fun s => s.h.cell 2 rfl 2 rfl
    have qp3_0 : ∀ s : Wd p, s.w.cell? ⟨w.heap.size + 1, 0, none⟩ = some (.int .i64 a) := by subst hpp; exact fun s => s.h.cell 3 rfl 0 rfl
    have qp3_1 : ∀ s : Wd p, s.w.cell? ⟨w.heap.size + 1, 1, none⟩ = some (.int .i64 b) := by subst hpp; exact fun s => s.h.cell 3 rfl 1 rfl
    have qp3_2 : ∀ s : Wd p, s.w.cell? ⟨w.heap.size + 1, 2, none⟩ = some (.int .i64 c) := by subst hpp; exact fun s => s.h.cell 3 rfl 2 rfl
    have qp3_3 : ∀ s : Wd p, s.w.cell? ⟨w.heap.size + 1, 3, none⟩ = some (.int .i64 d) := by subst hpp; exact fun s => s.h.cell 3 rfl 3 rfl
    have qp3_4 : ∀ s : Wd p, s.w.cell? ⟨w.heap.size + 1, 4, none⟩ = some (.int .u32 j) := by subst hpp; exact fun s => s.h.cell 3 rfl 4 rfl
    have HPp := Lib.hid hpp
    clear hpp
    have instp : Nonempty (Wd p) := ⟨⟨_, h0p⟩⟩
    obtain ⟨s, hs⟩ : ∃ s : Wd p, (wc) = s.w := ⟨⟨_, h0p⟩, rfl⟩
    rw [hs]
    clear hs h0p
    clear RX RY R0 R1 HB
    go_cut [40] (fun s40 wx => s40 = .bool false ∧ ∃ s : Wd p, wx = s.w)
    case first =>
      cases h1 : stabD a b x with
      | false =>
        have HI := Lib.hid (show inD x y a b c d = false by rw [in_split, h1]; rfl)
        have H1 := Lib.hid h1
        clear h1
        refine wp_region_wd p (by kernel_rfl) (by kernel_rfl) (hdp.out _ s.h) ?_
        repeat (first
          | go_big_quiet_step (first | (go_at_call 21; with_reducible exact calls_wd hkp.out _ (in_is HI.out i j _)) | (go_at_call 17; with_reducible exact calls_wd hkp.out _ (stab_is H1.out 0 _)))
          | quiet_step (first | (go_at_call 21; with_reducible exact calls_wd hkp.out _ (in_is HI.out i j _)) | (go_at_call 17; with_reducible exact calls_wd hkp.out _ (stab_is H1.out 0 _))))
        refine wpQuiet_nil ?_
        clear s
        rintro _ ⟨s, rfl⟩
        go_wp2_with fail
        go_meet
        exact ⟨rfl, s, rfl⟩
      | true =>
        cases h2 : stabD c d y with
        | false =>
          have HI := Lib.hid (show inD x y a b c d = false by rw [in_split, h1, h2]; rfl)
          have H1 := Lib.hid h1
          have H2 := Lib.hid h2
          clear h1 h2
          refine wp_region_wd p (by kernel_rfl) (by kernel_rfl) (hdp.out _ s.h) ?_
          repeat (first
            | go_big_quiet_step (first | (go_at_call 21; with_reducible exact calls_wd hkp.out _ (in_is HI.out i j _)) | (go_at_call 17; with_reducible exact calls_wd hkp.out _ (stab_is H1.out 0 _)) | (go_at_call 17; with_reducible exact calls_wd hkp.out _ (stab_is H2.out 0 _)))
            | quiet_step (first | (go_at_call 21; with_reducible exact calls_wd hkp.out _ (in_is HI.out i j _)) | (go_at_call 17; with_reducible exact calls_wd hkp.out _ (stab_is H1.out 0 _)) | (go_at_call 17; with_reducible exact calls_wd hkp.out _ (stab_is H2.out 0 _))))
          refine wpQuiet_nil ?_
          clear s
          rintro _ ⟨s, rfl⟩
          go_wp2_with fail
          go_meet
          exact ⟨rfl, s, rfl⟩
        | true =>
          have HI := Lib.hid (show inD x y a b c d = true by rw [in_split, h1, h2]; rfl)
          have H1 := Lib.hid h1
          have H2 := Lib.hid h2
          have HR := Lib.hid (in_right HI.out)
          clear h1 h2
          refine wp_region_wd p (by kernel_rfl) (by kernel_rfl) (hdp.out _ s.h) ?_
          repeat (first
            | go_big_quiet_step (first | (go_at_call 21; with_reducible exact calls_wd hkp.out _ (in_is HI.out i j _)) | (go_at_call 17; with_reducible exact calls_wd hkp.out _ (stab_is H1.out 0 _)) | (go_at_call 17; with_reducible exact calls_wd hkp.out _ (stab_is H2.out 0 _)) | (go_at_call 25; with_reducible exact calls_wd hkp.out _ (rb_is HR.out j _)))
            | quiet_step (first | (go_at_call 21; with_reducible exact calls_wd hkp.out _ (in_is HI.out i j _)) | (go_at_call 17; with_reducible exact calls_wd hkp.out _ (stab_is H1.out 0 _)) | (go_at_call 17; with_reducible exact calls_wd hkp.out _ (stab_is H2.out 0 _)) | (go_at_call 25; with_reducible exact calls_wd hkp.out _ (rb_is HR.out j _))))
          refine wpQuiet_nil ?_
          clear s
          rintro _ ⟨s, rfl⟩
          go_wp2_with fail
          go_meet
          exact ⟨rfl, s, rfl⟩
    case rest =>
      clear s
      obtain ⟨rfl, s, rfl⟩ := hcut
      go_wp2_with fail
      refine wp_region_wd p (by kernel_rfl) (by kernel_rfl) (hdp.out _ s.h) ?_
      repeat (first
        | go_big_quiet_step (first | (go_at_call 25; with_reducible exact calls_wd hkp.out _ (rb_any a b c d j _)) | (go_at_call 21; with_reducible exact calls_wd hkp.out _ (in_lo a b c d j _)) | (go_at_call 21; with_reducible exact calls_wd hkp.out _ (in_hi a b c d j _)) | (go_at_call 31; with_reducible exact calls_wd hkp.out _ (awake_any _)))
        | quiet_step (first | (go_at_call 25; with_reducible exact calls_wd hkp.out _ (rb_any a b c d j _)) | (go_at_call 21; with_reducible exact calls_wd hkp.out _ (in_lo a b c d j _)) | (go_at_call 21; with_reducible exact calls_wd hkp.out _ (in_hi a b c d j _)) | (go_at_call 31; with_reducible exact calls_wd hkp.out _ (awake_any _))))
      refine wpQuiet_nil ?_
      clear s
      rintro _ ⟨s, rfl⟩
      go_wp2_with fail
      go_ret
      exact ⟨rfl, hBp.out _ s.h⟩

set_option maxRecDepth 100000 in
theorem in_lifted (os : Os) (started : os.Started) (H : Type) (enc : TypeId × Value → H) :
    ReturnsInHanded {} Try.checked os 7 .any (Rows.itemInSpec.pre6 enc Try.prog Try.f7 Rows.itemInRow.domain false) (Rows.itemInSpec.post enc Try.prog Try.f7 false true false false) := by
  refine returnsInHanded_of_change (C := Try.checked) Try.own started (by kernel_rfl) Try.func7
    (ChangeSpec.witness6 (enc := enc) (C := Try.checked) false ⟨#[], #[.agg #[.int .i64 0, .int .i64 0, .int .u32 0], .agg #[.int .i64 0, .int .i64 0, .int .i64 0, .int .i64 0, .int .u32 0]], []⟩ 8 (by kernel_rfl) (by kernel_rfl) (by kernel_rfl) (by kernel_rfl)) ?_
  intro W base args ds gs before hval0 hW hcnd _
  have hval : ∀ (j : Nat) t v, Try.f7.params[j]? = some t → args[j]? = some v → Value.okWide Try.prog W .any base t v := hval0
  have hW' := hW
  obtain ⟨p, q, hA0, hV, rfl, hfz, hnd⟩ := hW
  have hA : DataW.TrodAll enc Try.prog W 0 (fun _ => true) true Try.f7.params.toList args.toList ds p := hA0
  rw [Try.params7] at hA hval
  obtain ⟨v0, vs0, d0, ds0, p0, q0, hargs, rfl, rfl, h0, r0⟩ := trodAll_cons hA
  obtain ⟨v1, vs1, d1, ds1, p1, q1, rfl, rfl, rfl, h1, r1⟩ := trodAll_cons r0
  obtain ⟨rfl, rfl, rfl⟩ := trodAll_nil r1
  obtain rfl : args = #[v0, v1] := by cases args; simp_all
  obtain ⟨rfl, rfl⟩ := trodVars_none hV
  obtain ⟨a0, b0, c0, rfl, rfl, rfl, wa0, wb0, wc0⟩ := open24 (hval 0 24 v0 rfl rfl) h0
  obtain ⟨a1, b1, c1, e1, j1, rfl, rfl, rfl, wa1, wb1, wc1, we1, wj1⟩ := open28 (hval 1 28 v1 rfl rfl) h1
  clear hA0 hval0
  simp only [List.append_nil] at hW'
  refine (in_walk a0 b0 c0 a1 b1 c1 e1 j1 W).mono fun e W' ⟨he, hb⟩ => ?_
  subst he
  exact ⟨_, rfl, law_post hW' (trodAll_cons_mk (shut_bool Try.underlying4 _) trodAll_mk0) (trodAll_cons_mk (read24 wa0 wb0 wc0 W' _) (trodAll_cons_mk (read28 wa1 wb1 wc1 we1 wj1 W' _) trodAll_mk0)) rfl hb⟩

theorem in_holds : Rows.ItemInSaid :=
  OpenClaim.holds_of_wide 7 Try.f7 rfl rfl rfl rfl rfl rfl rfl ⟨rfl, rfl, rfl, rfl, rfl⟩ rfl rfl rfl rfl rfl (by kernel_rfl) Try.func7 (by kernel_rfl)
    (of_decide_eq_true (by kernel_rfl)) (by unfold Func.isWrapper; first | (rw [if_pos (by decide +kernel)]; kernel_rfl) | (rw [if_neg (by decide +kernel)]; exact ⟨rfl, rfl⟩))
    (fun os started H enc _ => in_lifted os started H enc)
end Go.Proofs.Ytpbghgmaikmneaa
