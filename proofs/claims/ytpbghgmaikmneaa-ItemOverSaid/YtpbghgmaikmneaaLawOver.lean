/-
  ItemOver is proved: for every three points the law answers true and changes nothing that was there; no condition.
-/
import Derived.Test.YtpbghgmaikmneaaOwn
namespace Go.Proofs.Ytpbghgmaikmneaa
open Go.ChangeShapes Go.WideShapes Go.ChangeAt Go.RowKit Go.Joins
theorem max_up (x y u : Int) : overD x (max y u) x y = decide (y < u) := by rw [Bool.eq_iff_iff]; simp [overD]; omega
theorem max_right (x y u : Int) : overD (max x u) y x y = decide (x < u) := by rw [Bool.eq_iff_iff]; simp [overD]; omega
theorem over_self (x y : Int) : overD x y x y = false := by simp [overD]
theorem over_back {x y u v : Int} (h : overD x y u v = true) : overD u v x y = false := by simp [overD] at *; omega
theorem over_on {x y u v s t : Int} (h : overD x y u v = true) (g : overD u v s t = true) : overD x y s t = true := by simp [overD] at *; omega

set_option maxRecDepth 100000 in
set_option maxHeartbeats 8000000 in
theorem over_walk (px py pi qx qy qi rx ry ri : Int) (w : World) :
    Calls Try.prog 5 #[.agg #[.int .i64 px, .int .i64 py, .int .u32 pi], .agg #[.int .i64 qx, .int .i64 qy, .int .u32 qi], .agg #[.int .i64 rx, .int .i64 ry, .int .u32 ri]] w fun e w' => e = .returned (.bool true) ∧ Below w.heap.size w w' := by
  go_enter Try.func5, Try.ntmps5
  go_upto_region 1 with fail
  have R0 := (((Row.new w (n := w.heap.size) [.int .i64 px, .int .i64 py, .int .u32 pi] 24 (by simp)).all (.cells #[.int .i64 qx, .int .i64 qy, .int .u32 qi] 24)).all (.cells #[.int .i64 rx, .int .i64 ry, .int .u32 ri] 24))
  have R1 := ((Row.new (w.alloc (.cells #[.int .i64 px, .int .i64 py, .int .u32 pi] 24)) (n := w.heap.size + 1) [.int .i64 qx, .int .i64 qy, .int .u32 qi] 24 (by simp)).all (.cells #[.int .i64 rx, .int .i64 ry, .int .u32 ri] 24))
  have R2 := (Row.new ((w.alloc (.cells #[.int .i64 px, .int .i64 py, .int .u32 pi] 24)).alloc (.cells #[.int .i64 qx, .int .i64 qy, .int .u32 qi] 24)) (n := w.heap.size + 1 + 1) [.int .i64 rx, .int .i64 ry, .int .u32 ri] 24 (by simp))
  have HB := BlA (BlA (BlA (Lib.hid (Below.refl w.heap.size w)) (.cells #[.int .i64 px, .int .i64 py, .int .u32 pi] 24)) (.cells #[.int .i64 qx, .int .i64 qy, .int .u32 qi] 24)) (.cells #[.int .i64 rx, .int .i64 ry, .int .u32 ri] 24)
  generalize ((w.alloc (.cells #[.int .i64 px, .int .i64 py, .int .u32 pi] 24)).alloc (.cells #[.int .i64 qx, .int .i64 qy, .int .u32 qi] 24)).alloc (.cells #[.int .i64 rx, .int .i64 ry, .int .u32 ri] 24) = W at *
  obtain ⟨p, hpp⟩ : ∃ p : World → Prop, p = Cl w [(w.heap.size, [.int .i64 px, .int .i64 py, .int .u32 pi]), (w.heap.size + 1, [.int .i64 qx, .int .i64 qy, .int .u32 qi]), (w.heap.size + 1 + 1, [.int .i64 rx, .int .i64 ry, .int .u32 ri])] := ⟨_, rfl⟩
  have h0p : p (W) := hpp ▸ (Cl.cons R0 (Cl.cons R1 (Cl.cons R2 (Cl.nil HB.out))))
  have hkp : Hid (∀ X w', p X → Below X.heap.size X w' → p w') := Lib.hid (by subst hpp; exact fun X w' h hb => h.keep hb)
  have hdp : Hid (∀ X, p X → p X.drew) := Lib.hid (by subst hpp; exact fun X h => h.drew)
  have hBp : Hid (∀ X, p X → Below w.heap.size w X) := Lib.hid (by subst hpp; exact fun X h => h.2)
  have qp0_0 : ∀ s : Wd p, s.w.cell? ⟨w.heap.size, 0, none⟩ = some (.int .i64 px) := by subst hpp; exact fun s => s.h.cell 0 rfl 0 rfl
  have qp0_1 : ∀ s : Wd p, s.w.cell? ⟨w.heap.size, 1, none⟩ = some (.int .i64 py) := by subst hpp; exact fun s => s.h.cell 0 rfl 1 rfl
  have qp0_2 : ∀ s : Wd p, s.w.cell? ⟨w.heap.size, 2, none⟩ = some (.int .u32 pi) := by subst hpp; exact fun s => s.h.cell 0 rfl 2 rfl
  have qp1_0 : ∀ s : Wd p, s.w.cell? ⟨w.heap.size + 1, 0, none⟩ = some (.int .i64 qx) := by subst hpp; exact fun s => s.h.cell 1 rfl 0 rfl
  have qp1_1 : ∀ s : Wd p, s.w.cell? ⟨w.heap.size + 1, 1, none⟩ = some (.int .i64 qy) := by subst hpp; exact fun s => s.h.cell 1 rfl 1 rfl
  have qp1_2 : ∀ s : Wd p, s.w.cell? ⟨w.heap.size + 1, 2, none⟩ = some (.int .u32 qi) := by subst hpp; exact fun s => s.h.cell 1 rfl 2 rfl
  have qp2_0 : ∀ s : Wd p, s.w.cell? ⟨w.heap.size + 1 + 1, 0, none⟩ = some (.int .i64 rx) := by subst hpp; exact fun s => s.h.cell 2 rfl 0 rfl
  have qp2_1 : ∀ s : Wd p, s.w.cell? ⟨w.heap.size + 1 + 1, 1, none⟩ = some (.int .i64 ry) := by subst hpp; exact fun s => s.h.cell 2 rfl 1 rfl
  have qp2_2 : ∀ s : Wd p, s.w.cell? ⟨w.heap.size + 1 + 1, 2, none⟩ = some (.int .u32 ri) := by subst hpp; exact fun s => s.h.cell 2 rfl 2 rfl
  have HPp := Lib.hid hpp
  clear hpp
  have instp : Nonempty (Wd p) := ⟨⟨_, h0p⟩⟩
  obtain ⟨s, hs⟩ : ∃ s : Wd p, (W) = s.w := ⟨⟨_, h0p⟩, rfl⟩
  rw [hs]
  clear hs h0p
  clear R0 R1 R2 HB
  have Hpp := Lib.hid (over_self px py)
  go_cut [37] (fun sb wx => sb = .bool false ∧ ∃ s : Wd p, wx = s.w)
  case first =>
    cases h1 : overD px py qx qy with
    | false =>
      have H1 := Lib.hid h1
      clear h1
      go_wp2_with fail
      refine (over_is Hpp.out pi pi _).mono ?_
      rintro e wz ⟨rfl, hb⟩
      obtain ⟨s1, hs⟩ : ∃ s1 : Wd p, wz = s1.w := ⟨⟨wz, hkp.out _ _ s.h hb⟩, rfl⟩
      subst hs
      clear hb s
      rename Wd p => s
      go_wp2_with fail
      refine (over_is H1.out pi qi _).mono ?_
      rintro e wz ⟨rfl, hb⟩
      obtain ⟨s1, hs⟩ : ∃ s1 : Wd p, wz = s1.w := ⟨⟨wz, hkp.out _ _ s.h hb⟩, rfl⟩
      subst hs
      clear hb s
      rename Wd p => s
      go_wp2_with fail
      refine (over_is H1.out pi qi _).mono ?_
      rintro e wz ⟨rfl, hb⟩
      obtain ⟨s1, hs⟩ : ∃ s1 : Wd p, wz = s1.w := ⟨⟨wz, hkp.out _ _ s.h hb⟩, rfl⟩
      subst hs
      clear hb s
      rename Wd p => s
      go_wp2_with fail
      go_meet
      exact ⟨rfl, s, rfl⟩
    | true =>
      have H1 := Lib.hid h1
      have H2 := Lib.hid (over_back h1)
      cases h3 : overD qx qy rx ry with
      | false =>
        have H3 := Lib.hid h3
        clear h1 h3
        go_wp2_with fail
        refine (over_is Hpp.out pi pi _).mono ?_
        rintro e wz ⟨rfl, hb⟩
        obtain ⟨s1, hs⟩ : ∃ s1 : Wd p, wz = s1.w := ⟨⟨wz, hkp.out _ _ s.h hb⟩, rfl⟩
        subst hs
        clear hb s
        rename Wd p => s
        go_wp2_with fail
        refine (over_is H1.out pi qi _).mono ?_
        rintro e wz ⟨rfl, hb⟩
        obtain ⟨s1, hs⟩ : ∃ s1 : Wd p, wz = s1.w := ⟨⟨wz, hkp.out _ _ s.h hb⟩, rfl⟩
        subst hs
        clear hb s
        rename Wd p => s
        go_wp2_with fail
        refine (over_is H2.out qi pi _).mono ?_
        rintro e wz ⟨rfl, hb⟩
        obtain ⟨s1, hs⟩ : ∃ s1 : Wd p, wz = s1.w := ⟨⟨wz, hkp.out _ _ s.h hb⟩, rfl⟩
        subst hs
        clear hb s
        rename Wd p => s
        go_wp2_with fail
        refine (over_is H1.out pi qi _).mono ?_
        rintro e wz ⟨rfl, hb⟩
        obtain ⟨s1, hs⟩ : ∃ s1 : Wd p, wz = s1.w := ⟨⟨wz, hkp.out _ _ s.h hb⟩, rfl⟩
        subst hs
        clear hb s
        rename Wd p => s
        go_wp2_with fail
        refine (over_is H3.out qi ri _).mono ?_
        rintro e wz ⟨rfl, hb⟩
        obtain ⟨s1, hs⟩ : ∃ s1 : Wd p, wz = s1.w := ⟨⟨wz, hkp.out _ _ s.h hb⟩, rfl⟩
        subst hs
        clear hb s
        rename Wd p => s
        go_wp2_with fail
        go_meet
        exact ⟨rfl, s, rfl⟩
      | true =>
        have H3 := Lib.hid h3
        have H4 := Lib.hid (over_on h1 h3)
        clear h1 h3
        go_wp2_with fail
        refine (over_is Hpp.out pi pi _).mono ?_
        rintro e wz ⟨rfl, hb⟩
        obtain ⟨s1, hs⟩ : ∃ s1 : Wd p, wz = s1.w := ⟨⟨wz, hkp.out _ _ s.h hb⟩, rfl⟩
        subst hs
        clear hb s
        rename Wd p => s
        go_wp2_with fail
        refine (over_is H1.out pi qi _).mono ?_
        rintro e wz ⟨rfl, hb⟩
        obtain ⟨s1, hs⟩ : ∃ s1 : Wd p, wz = s1.w := ⟨⟨wz, hkp.out _ _ s.h hb⟩, rfl⟩
        subst hs
        clear hb s
        rename Wd p => s
        go_wp2_with fail
        refine (over_is H2.out qi pi _).mono ?_
        rintro e wz ⟨rfl, hb⟩
        obtain ⟨s1, hs⟩ : ∃ s1 : Wd p, wz = s1.w := ⟨⟨wz, hkp.out _ _ s.h hb⟩, rfl⟩
        subst hs
        clear hb s
        rename Wd p => s
        go_wp2_with fail
        refine (over_is H1.out pi qi _).mono ?_
        rintro e wz ⟨rfl, hb⟩
        obtain ⟨s1, hs⟩ : ∃ s1 : Wd p, wz = s1.w := ⟨⟨wz, hkp.out _ _ s.h hb⟩, rfl⟩
        subst hs
        clear hb s
        rename Wd p => s
        go_wp2_with fail
        refine (over_is H3.out qi ri _).mono ?_
        rintro e wz ⟨rfl, hb⟩
        obtain ⟨s1, hs⟩ : ∃ s1 : Wd p, wz = s1.w := ⟨⟨wz, hkp.out _ _ s.h hb⟩, rfl⟩
        subst hs
        clear hb s
        rename Wd p => s
        go_wp2_with fail
        refine (over_is H4.out pi ri _).mono ?_
        rintro e wz ⟨rfl, hb⟩
        obtain ⟨s1, hs⟩ : ∃ s1 : Wd p, wz = s1.w := ⟨⟨wz, hkp.out _ _ s.h hb⟩, rfl⟩
        subst hs
        clear hb s
        rename Wd p => s
        go_wp2_with fail
        go_meet
        exact ⟨rfl, s, rfl⟩
  case rest =>
    clear s Hpp
    obtain ⟨rfl, s, rfl⟩ := hcut
    go_upto_region 3 with fail
    obtain ⟨W, h⟩ := s
    dsimp only
    rw [HPp.out] at h
    have R0 := h.row 0 rfl
    have R1 := h.row 1 rfl
    have HB := Lib.hid h.2
    have hz := World.block_lt_of_cell? W _ (R1 0 _ rfl)
    dsimp only at hz
    clear h hkp hdp hBp HPp instp qp0_0 qp0_1 qp0_2 qp1_0 qp1_1 qp1_2 qp2_0 qp2_1 qp2_2
    clear p
    go_cut [7, 8] (fun s7 s8 wx => ∃ gu gr : Nat, s7 = .pointer (some ⟨gu, 0, none⟩) ∧ s8 = .pointer (some ⟨gr, 0, none⟩) ∧ gu ≠ gr ∧ w.heap.size + 1 < gu ∧ w.heap.size + 1 < gr ∧ Own wx gu [.int .i64 px, .int .i64 py, .int .u32 pi] ∧ Own wx gr [.int .i64 px, .int .i64 py, .int .u32 pi] ∧ Row wx w.heap.size [.int .i64 px, .int .i64 py, .int .u32 pi] ∧ Row wx (w.heap.size + 1) [.int .i64 qx, .int .i64 qy, .int .u32 qi] ∧ Hid (Below w.heap.size w wx))
    case first =>
      have c0 := R0 0 _ rfl
      have c1 := R0 1 _ rfl
      have c2 := R0 2 _ rfl
      have hz' : w.heap.size < W.heap.size := by omega
      go_region
      all_goals go_wp2_with fail
      all_goals go_meet
      · exact ⟨W.heap.size, W.heap.size + 1, rfl, rfl, by omega, by omega, by omega, ((Own.new W [.int .i64 px, .int .i64 py, .int .u32 pi] 24 rfl).all (by simp) _).drew, (Own.new _ [.int .i64 px, .int .i64 py, .int .u32 pi] 24 (by simp)).drew, ((R0.all _).all _).drew, ((R1.all _).all _).drew, BlW (BlA (BlA HB _) _)⟩
      · exact ⟨W.heap.size + 1, W.heap.size, rfl, rfl, by omega, by omega, by omega, (Own.new _ [.int .i64 px, .int .i64 py, .int .u32 pi] 24 (by simp)).drew, ((Own.new W [.int .i64 px, .int .i64 py, .int .u32 pi] 24 rfl).all (by simp) _).drew, ((R0.all _).all _).drew, ((R1.all _).all _).drew, BlW (BlA (BlA HB _) _)⟩
    case rest =>
      clear R0 R1 HB hz
      clear W
      obtain ⟨gu, gr, rfl, rfl, hne, hgu, hgr, O1, O2, R0, R1, HB⟩ := hcut
      go_upto_region 4 with fail
      go_cut [6] (fun s6 wx => ∃ m1 m2 : Int, Hid (m1 = max py qy) ∧ Hid (m2 = max px qx) ∧ Row wx gu [.int .i64 px, .int .i64 m1, .int .u32 pi] ∧ Row wx gr [.int .i64 m2, .int .i64 py, .int .u32 pi] ∧ Row wx w.heap.size [.int .i64 px, .int .i64 py, .int .u32 pi] ∧ Row wx (w.heap.size + 1) [.int .i64 qx, .int .i64 qy, .int .u32 qi] ∧ Hid (Below w.heap.size w wx))
      case first =>
        have c0 := R0 0 _ rfl
        have c1 := R0 1 _ rfl
        have d0 := R1 0 _ rfl
        have d1 := R1 1 _ rfl
        have u1 := O1.1 1 _ rfl
        have u2 := O2.1 0 _ rfl
        have f1 := O1.2 1
        have f2 := O2.2 0
        have hne1 : gu ≠ w.heap.size := by omega
        have hne2 : gu ≠ w.heap.size + 1 := by omega
        have hne3 : gr ≠ w.heap.size := by omega
        have hne4 : gr ≠ w.heap.size + 1 := by omega
        have hne5 : gr ≠ gu := fun e => hne e.symm
        by_cases hy : py < qy <;> by_cases hx : px < qx
        all_goals go_region
        all_goals go_wp2_with fail
        all_goals go_meet
        · exact ⟨qy, qx, Lib.hid (by omega), Lib.hid (by omega), ((O1.1.set 1 (.int .i64 qy) rfl).far ⟨gr, 0, none⟩ _ hne5).drew, ((O2.1.far ⟨gu, 1, none⟩ _ hne).set 0 (.int .i64 qx) rfl).drew, ((R0.far ⟨gu, 1, none⟩ _ hne1).far ⟨gr, 0, none⟩ _ hne3).drew, ((R1.far ⟨gu, 1, none⟩ _ hne2).far ⟨gr, 0, none⟩ _ hne4).drew, BlW (BlC (BlC HB ⟨gu, 1, none⟩ _ (by dsimp only; omega)) ⟨gr, 0, none⟩ _ (by dsimp only; omega))⟩
        · exact ⟨qy, px, Lib.hid (by omega), Lib.hid (by omega), ((O1.1.set 1 (.int .i64 qy) rfl).far ⟨gr, 0, none⟩ _ hne5).drew, ((O2.1.far ⟨gu, 1, none⟩ _ hne).set 0 (.int .i64 px) rfl).drew, ((R0.far ⟨gu, 1, none⟩ _ hne1).far ⟨gr, 0, none⟩ _ hne3).drew, ((R1.far ⟨gu, 1, none⟩ _ hne2).far ⟨gr, 0, none⟩ _ hne4).drew, BlW (BlC (BlC HB ⟨gu, 1, none⟩ _ (by dsimp only; omega)) ⟨gr, 0, none⟩ _ (by dsimp only; omega))⟩
        · exact ⟨py, qx, Lib.hid (by omega), Lib.hid (by omega), ((O1.1.set 1 (.int .i64 py) rfl).far ⟨gr, 0, none⟩ _ hne5).drew, ((O2.1.far ⟨gu, 1, none⟩ _ hne).set 0 (.int .i64 qx) rfl).drew, ((R0.far ⟨gu, 1, none⟩ _ hne1).far ⟨gr, 0, none⟩ _ hne3).drew, ((R1.far ⟨gu, 1, none⟩ _ hne2).far ⟨gr, 0, none⟩ _ hne4).drew, BlW (BlC (BlC HB ⟨gu, 1, none⟩ _ (by dsimp only; omega)) ⟨gr, 0, none⟩ _ (by dsimp only; omega))⟩
        · exact ⟨py, px, Lib.hid (by omega), Lib.hid (by omega), ((O1.1.set 1 (.int .i64 py) rfl).far ⟨gr, 0, none⟩ _ hne5).drew, ((O2.1.far ⟨gu, 1, none⟩ _ hne).set 0 (.int .i64 px) rfl).drew, ((R0.far ⟨gu, 1, none⟩ _ hne1).far ⟨gr, 0, none⟩ _ hne3).drew, ((R1.far ⟨gu, 1, none⟩ _ hne2).far ⟨gr, 0, none⟩ _ hne4).drew, BlW (BlC (BlC HB ⟨gu, 1, none⟩ _ (by dsimp only; omega)) ⟨gr, 0, none⟩ _ (by dsimp only; omega))⟩
      case rest =>
        clear O1 O2 R0 R1 HB
        obtain ⟨m1, m2, HM1, HM2, RU, RR, R0, R1, HB⟩ := hcut
        have HU := Lib.hid (show overD px m1 px py = decide (py < qy) by rw [HM1.out, max_up])
        have HR := Lib.hid (show overD m2 py px py = decide (px < qx) by rw [HM2.out, max_right])
        clear HM1 HM2
        go_wp2_with fail
        obtain ⟨p, hpp⟩ : ∃ p : World → Prop, p = Cl w [(gu, [.int .i64 px, .int .i64 m1, .int .u32 pi]), (gr, [.int .i64 m2, .int .i64 py, .int .u32 pi]), (w.heap.size, [.int .i64 px, .int .i64 py, .int .u32 pi]), (w.heap.size + 1, [.int .i64 qx, .int .i64 qy, .int .u32 qi])] := ⟨_, rfl⟩
        have h0p : p (wc) := hpp ▸ (Cl.cons RU (Cl.cons RR (Cl.cons R0 (Cl.cons R1 (Cl.nil HB.out)))))
        have hkp : Hid (∀ X w', p X → Below X.heap.size X w' → p w') := Lib.hid (by subst hpp; exact fun X w' h hb => h.keep hb)
        have hdp : Hid (∀ X, p X → p X.drew) := Lib.hid (by subst hpp; exact fun X h => h.drew)
        have hBp : Hid (∀ X, p X → Below w.heap.size w X) := Lib.hid (by subst hpp; exact fun X h => h.2)
        have qp0_0 : ∀ s : Wd p, s.w.cell? ⟨gu, 0, none⟩ = some (.int .i64 px) := by subst hpp; exact fun s => s.h.cell 0 rfl 0 rfl
        have qp0_1 : ∀ s : Wd p, s.w.cell? ⟨gu, 1, none⟩ = some (.int .i64 m1) := by subst hpp; exact fun s => s.h.cell 0 rfl 1 rfl
        have qp0_2 : ∀ s : Wd p, s.w.cell? ⟨gu, 2, none⟩ = some (.int .u32 pi) := by subst hpp; exact fun s => s.h.cell 0 rfl 2 rfl
        have qp1_0 : ∀ s : Wd p, s.w.cell? ⟨gr, 0, none⟩ = some (.int .i64 m2) := by subst hpp; exact fun s => s.h.cell 1 rfl 0 rfl
        have qp1_1 : ∀ s : Wd p, s.w.cell? ⟨gr, 1, none⟩ = some (.int .i64 py) := by subst hpp; exact fun s => s.h.cell 1 rfl 1 rfl
        have qp1_2 : ∀ s : Wd p, s.w.cell? ⟨gr, 2, none⟩ = some (.int .u32 pi) := by subst hpp; exact fun s => s.h.cell 1 rfl 2 rfl
        have qp2_0 : ∀ s : Wd p, s.w.cell? ⟨w.heap.size, 0, none⟩ = some (.int .i64 px) := by subst hpp; exact fun s => s.h.cell 2 rfl 0 rfl
        have qp2_1 : ∀ s : Wd p, s.w.cell? ⟨w.heap.size, 1, none⟩ = some (.int .i64 py) := by subst hpp; exact fun s => s.h.cell 2 rfl 1 rfl
        have qp2_2 : ∀ s : Wd p, s.w.cell? ⟨w.heap.size, 2, none⟩ = some (.int .u32 pi) := by subst hpp; exact fun s => s.h.cell 2 rfl 2 rfl
        have qp3_0 : ∀ s : Wd p, s.w.cell? ⟨w.heap.size + 1, 0, none⟩ = some (.int .i64 qx) := by subst hpp; exact fun s => s.h.cell 3 rfl 0 rfl
        have qp3_1 : ∀ s : Wd p, s.w.cell? ⟨w.heap.size + 1, 1, none⟩ = some (.int .i64 qy) := by subst hpp; exact fun s => s.h.cell 3 rfl 1 rfl
        have qp3_2 : ∀ s : Wd p, s.w.cell? ⟨w.heap.size + 1, 2, none⟩ = some (.int .u32 qi) := by subst hpp; exact fun s => s.h.cell 3 rfl 2 rfl
        have HPp := Lib.hid hpp
        clear hpp
        have instp : Nonempty (Wd p) := ⟨⟨_, h0p⟩⟩
        obtain ⟨s, hs⟩ : ∃ s : Wd p, (wc) = s.w := ⟨⟨_, h0p⟩, rfl⟩
        rw [hs]
        clear hs h0p
        clear RU RR R0 R1 HB
        refine wp_region_wd p (by kernel_rfl) (by kernel_rfl) (hdp.out _ s.h) ?_
        repeat (first
          | go_big_quiet_step (first | (go_at_call 27; with_reducible exact calls_wd hkp.out _ (over_is HU.out pi pi _)) | (go_at_call 27; with_reducible exact calls_wd hkp.out _ (over_is HR.out pi pi _)) | (go_at_call 31; with_reducible exact calls_wd hkp.out _ (awake_any _)))
          | quiet_step (first | (go_at_call 27; with_reducible exact calls_wd hkp.out _ (over_is HU.out pi pi _)) | (go_at_call 27; with_reducible exact calls_wd hkp.out _ (over_is HR.out pi pi _)) | (go_at_call 31; with_reducible exact calls_wd hkp.out _ (awake_any _))))
        refine wpQuiet_nil ?_
        clear s
        rintro _ ⟨s, rfl⟩
        go_wp2_with fail
        go_ret
        exact ⟨rfl, hBp.out _ s.h⟩

set_option maxRecDepth 100000 in
theorem over_lifted (os : Os) (started : os.Started) (H : Type) (enc : TypeId × Value → H) :
    ReturnsInHanded {} Try.checked os 5 .any (Rows.itemOverSpec.pre6 enc Try.prog Try.f5 Rows.itemOverRow.domain false) (Rows.itemOverSpec.post enc Try.prog Try.f5 false true false false) := by
  refine returnsInHanded_of_change (C := Try.checked) Try.own started (by kernel_rfl) Try.func5
    (ChangeSpec.witness6 (enc := enc) (C := Try.checked) false ⟨#[], #[.agg #[.int .i64 0, .int .i64 0, .int .u32 0], .agg #[.int .i64 0, .int .i64 0, .int .u32 0], .agg #[.int .i64 0, .int .i64 0, .int .u32 0]], []⟩ 8 (by kernel_rfl) (by kernel_rfl) (by kernel_rfl) (by kernel_rfl)) ?_
  intro W base args ds gs before hval0 hW hcnd _
  have hval : ∀ (j : Nat) t v, Try.f5.params[j]? = some t → args[j]? = some v → Value.okWide Try.prog W .any base t v := hval0
  have hW' := hW
  obtain ⟨p, q, hA0, hV, rfl, hfz, hnd⟩ := hW
  have hA : DataW.TrodAll enc Try.prog W 0 (fun _ => true) true Try.f5.params.toList args.toList ds p := hA0
  rw [Try.params5] at hA hval
  obtain ⟨v0, vs0, d0, ds0, p0, q0, hargs, rfl, rfl, h0, r0⟩ := trodAll_cons hA
  obtain ⟨v1, vs1, d1, ds1, p1, q1, rfl, rfl, rfl, h1, r1⟩ := trodAll_cons r0
  obtain ⟨v2, vs2, d2, ds2, p2, q2, rfl, rfl, rfl, h2, r2⟩ := trodAll_cons r1
  obtain ⟨rfl, rfl, rfl⟩ := trodAll_nil r2
  obtain rfl : args = #[v0, v1, v2] := by cases args; simp_all
  obtain ⟨rfl, rfl⟩ := trodVars_none hV
  obtain ⟨a0, b0, c0, rfl, rfl, rfl, wa0, wb0, wc0⟩ := open24 (hval 0 24 v0 rfl rfl) h0
  obtain ⟨a1, b1, c1, rfl, rfl, rfl, wa1, wb1, wc1⟩ := open24 (hval 1 24 v1 rfl rfl) h1
  obtain ⟨a2, b2, c2, rfl, rfl, rfl, wa2, wb2, wc2⟩ := open24 (hval 2 24 v2 rfl rfl) h2
  clear hA0 hval0
  simp only [List.append_nil] at hW'
  refine (over_walk a0 b0 c0 a1 b1 c1 a2 b2 c2 W).mono fun e W' ⟨he, hb⟩ => ?_
  subst he
  exact ⟨_, rfl, law_post hW' (trodAll_cons_mk (shut_bool Try.underlying4 _) trodAll_mk0) (trodAll_cons_mk (read24 wa0 wb0 wc0 W' _) (trodAll_cons_mk (read24 wa1 wb1 wc1 W' _) (trodAll_cons_mk (read24 wa2 wb2 wc2 W' _) trodAll_mk0))) rfl hb⟩

theorem over_holds : Rows.ItemOverSaid :=
  OpenClaim.holds_of_wide 5 Try.f5 rfl rfl rfl rfl rfl rfl rfl ⟨rfl, rfl, rfl, rfl, rfl⟩ rfl rfl rfl rfl rfl (by kernel_rfl) Try.func5 (by kernel_rfl)
    (of_decide_eq_true (by kernel_rfl)) (by unfold Func.isWrapper; first | (rw [if_pos (by decide +kernel)]; kernel_rfl) | (rw [if_neg (by decide +kernel)]; exact ⟨rfl, rfl⟩))
    (fun os started H enc _ => over_lifted os started H enc)
end Go.Proofs.Ytpbghgmaikmneaa
