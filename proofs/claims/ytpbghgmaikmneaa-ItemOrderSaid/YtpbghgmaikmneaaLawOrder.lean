/-
  ItemOrder is proved: for every three points and three spans the law answers true and changes nothing that was there; no condition.
-/
import Derived.Test.YtpbghgmaikmneaaWd
namespace Go.Proofs.Ytpbghgmaikmneaa
open Go.ChangeShapes Go.WideShapes Go.ChangeAt Go.RowKit Go.Joins
/-- the three ways in which two places and names can be told apart, as the law asks: the order's answer, whether it is none, whether the places are one, whether the names are -/
theorem ways (x i u j : Int) : ∃ o : Int, ordD x i u j = o ∧ ((o == 0) = true ∧ (x == u) = true ∧ (i == j) = true ∨ (o == 0) = false ∧ (x == u) = true ∧ (i == j) = false ∨ (o == 0) = false ∧ (x == u) = false) := by
  refine ⟨_, rfl, ?_⟩
  rcases ord3 x i u j with ⟨h, g⟩ | ⟨h, g⟩ | ⟨h, g⟩ <;> rw [h] <;> simp <;> omega

set_option maxRecDepth 100000 in
set_option maxHeartbeats 8000000 in
theorem order_walk (px py pi qx qy qi rx ry ri kx ky ki lx ly li mx my mi : Int) (w : World) :
    Calls Try.prog 4 #[.agg #[.int .i64 px, .int .i64 py, .int .u32 pi], .agg #[.int .i64 qx, .int .i64 qy, .int .u32 qi], .agg #[.int .i64 rx, .int .i64 ry, .int .u32 ri], .agg #[.int .i64 kx, .int .i64 ky, .int .u32 ki], .agg #[.int .i64 lx, .int .i64 ly, .int .u32 li], .agg #[.int .i64 mx, .int .i64 my, .int .u32 mi]] w fun e w' => e = .returned (.bool true) ∧ Below w.heap.size w w' := by
  go_enter Try.func4, Try.ntmps4
  go_upto_region 1 with fail
  have R0 := ((((((Row.new w (n := w.heap.size) [.int .i64 px, .int .i64 py, .int .u32 pi] 24 (by simp)).all (.cells #[.int .i64 qx, .int .i64 qy, .int .u32 qi] 24)).all (.cells #[.int .i64 rx, .int .i64 ry, .int .u32 ri] 24)).all (.cells #[.int .i64 kx, .int .i64 ky, .int .u32 ki] 26)).all (.cells #[.int .i64 lx, .int .i64 ly, .int .u32 li] 26)).all (.cells #[.int .i64 mx, .int .i64 my, .int .u32 mi] 26))
  have R1 := (((((Row.new (w.alloc (.cells #[.int .i64 px, .int .i64 py, .int .u32 pi] 24)) (n := w.heap.size + 1) [.int .i64 qx, .int .i64 qy, .int .u32 qi] 24 (by simp)).all (.cells #[.int .i64 rx, .int .i64 ry, .int .u32 ri] 24)).all (.cells #[.int .i64 kx, .int .i64 ky, .int .u32 ki] 26)).all (.cells #[.int .i64 lx, .int .i64 ly, .int .u32 li] 26)).all (.cells #[.int .i64 mx, .int .i64 my, .int .u32 mi] 26))
  have R2 := ((((Row.new ((w.alloc (.cells #[.int .i64 px, .int .i64 py, .int .u32 pi] 24)).alloc (.cells #[.int .i64 qx, .int .i64 qy, .int .u32 qi] 24)) (n := w.heap.size + 1 + 1) [.int .i64 rx, .int .i64 ry, .int .u32 ri] 24 (by simp)).all (.cells #[.int .i64 kx, .int .i64 ky, .int .u32 ki] 26)).all (.cells #[.int .i64 lx, .int .i64 ly, .int .u32 li] 26)).all (.cells #[.int .i64 mx, .int .i64 my, .int .u32 mi] 26))
  have R3 := (((Row.new (((w.alloc (.cells #[.int .i64 px, .int .i64 py, .int .u32 pi] 24)).alloc (.cells #[.int .i64 qx, .int .i64 qy, .int .u32 qi] 24)).alloc (.cells #[.int .i64 rx, .int .i64 ry, .int .u32 ri] 24)) (n := w.heap.size + 1 + 1 + 1) [.int .i64 kx, .int .i64 ky, .int .u32 ki] 26 (by simp)).all (.cells #[.int .i64 lx, .int .i64 ly, .int .u32 li] 26)).all (.cells #[.int .i64 mx, .int .i64 my, .int .u32 mi] 26))
  have R4 := ((Row.new ((((w.alloc (.cells #[.int .i64 px, .int .i64 py, .int .u32 pi] 24)).alloc (.cells #[.int .i64 qx, .int .i64 qy, .int .u32 qi] 24)).alloc (.cells #[.int .i64 rx, .int .i64 ry, .int .u32 ri] 24)).alloc (.cells #[.int .i64 kx, .int .i64 ky, .int .u32 ki] 26)) (n := w.heap.size + 1 + 1 + 1 + 1) [.int .i64 lx, .int .i64 ly, .int .u32 li] 26 (by simp)).all (.cells #[.int .i64 mx, .int .i64 my, .int .u32 mi] 26))
  have R5 := (Row.new (((((w.alloc (.cells #[.int .i64 px, .int .i64 py, .int .u32 pi] 24)).alloc (.cells #[.int .i64 qx, .int .i64 qy, .int .u32 qi] 24)).alloc (.cells #[.int .i64 rx, .int .i64 ry, .int .u32 ri] 24)).alloc (.cells #[.int .i64 kx, .int .i64 ky, .int .u32 ki] 26)).alloc (.cells #[.int .i64 lx, .int .i64 ly, .int .u32 li] 26)) (n := w.heap.size + 1 + 1 + 1 + 1 + 1) [.int .i64 mx, .int .i64 my, .int .u32 mi] 26 (by simp))
  have HB := BlA (BlA (BlA (BlA (BlA (BlA (Lib.hid (Below.refl w.heap.size w)) (.cells #[.int .i64 px, .int .i64 py, .int .u32 pi] 24)) (.cells #[.int .i64 qx, .int .i64 qy, .int .u32 qi] 24)) (.cells #[.int .i64 rx, .int .i64 ry, .int .u32 ri] 24)) (.cells #[.int .i64 kx, .int .i64 ky, .int .u32 ki] 26)) (.cells #[.int .i64 lx, .int .i64 ly, .int .u32 li] 26)) (.cells #[.int .i64 mx, .int .i64 my, .int .u32 mi] 26)
  generalize (((((w.alloc (.cells #[.int .i64 px, .int .i64 py, .int .u32 pi] 24)).alloc (.cells #[.int .i64 qx, .int .i64 qy, .int .u32 qi] 24)).alloc (.cells #[.int .i64 rx, .int .i64 ry, .int .u32 ri] 24)).alloc (.cells #[.int .i64 kx, .int .i64 ky, .int .u32 ki] 26)).alloc (.cells #[.int .i64 lx, .int .i64 ly, .int .u32 li] 26)).alloc (.cells #[.int .i64 mx, .int .i64 my, .int .u32 mi] 26) = W at *
  obtain ⟨p, hpp⟩ : ∃ p : World → Prop, p = Cl w [(w.heap.size, [.int .i64 px, .int .i64 py, .int .u32 pi]), (w.heap.size + 1, [.int .i64 qx, .int .i64 qy, .int .u32 qi]), (w.heap.size + 1 + 1, [.int .i64 rx, .int .i64 ry, .int .u32 ri]), (w.heap.size + 1 + 1 + 1, [.int .i64 kx, .int .i64 ky, .int .u32 ki]), (w.heap.size + 1 + 1 + 1 + 1, [.int .i64 lx, .int .i64 ly, .int .u32 li]), (w.heap.size + 1 + 1 + 1 + 1 + 1, [.int .i64 mx, .int .i64 my, .int .u32 mi])] := ⟨_, rfl⟩
  have h0p : p (W) := hpp ▸ (Cl.cons R0 (Cl.cons R1 (Cl.cons R2 (Cl.cons R3 (Cl.cons R4 (Cl.cons R5 (Cl.nil HB.out)))))))
  have hkp : Hid (∀ X w', p X → Below X.heap.size X w' → p w') := Lib.hid (by subst hpp; exact fun X w' h hb => h.keep hb)
  have hdp : Hid (∀ X, p X → p X.drew) := Lib.hid (by subst hpp; exact fun X h => h.drew)
  have hBp : Hid (∀ X, p X → Below w.heap.size w X) := Lib.hid (by subst hpp; exact fun X h => h.2)
  have qp0_0 : ∀ s : Wd p, s.w.cell? ⟨w.heap.size, 0, none⟩ = some (.int .i64 px) := by subst hpp; exact fun s => s.h.cell 0 rfl 0 rfl
  have qp0_1 : ∀ s : Wd p, s.w.cell? ⟨w.heap.size, 1, none⟩ = some (.int .i64 py) := by subst hpp; exact fun s => s.h.cell 0 rfl 1 rfl
  have qp0_2 : ∀ s : Wd p, s.w.cell? ⟨w.heap.size, 2, none⟩ = some (.int .u32 pi) := by subst hpp; exact fun s => s.h.cell 0 rfl 2 rfl
  have qp1_0 : ∀ s : Wd p, s.w.cell? ⟨w.heap.size + 1, 0, none⟩ = some (.int .i64 qx) := by subst hpp; exact fun s => s.h.cell 1 rfl 0 rfl
  have qp1_1 : ∀ s : Wd p, s.w.cell? ⟨w.heap.size + 1, 1, none⟩ = some (.int .i64 qy) := by subst hpp; exact fun s => s.h.cell 1 rfl 1 rfl
  have qp1_2 : ∀ s : Wd p, s.w.cell? ⟨w.heap.size + 1, 2, none⟩ = some (.int .u32 qi) := by subst hpp; exact fun s => s.h.cell 1 rfl 2 rfl
  have qp2_0 : ∀ s : Wd p, s.w.cell? ⟨w.heap.size + 1 + 1, 0, none⟩ = some (.int .i64 rx) := by subst hpp; exact fun s => s.h.cell 2 rfl 0 rfl
  have qp2_1 : ∀ s : Wd p, s.w.cell? ⟨w.heap.size + 1 + 1, 1, none⟩ = some (.int .i64 ry) := by subst hpp; exact fun s => s.h.cell 2 rfl 1 rfl
  have qp2_2 : ∀ s : Wd p, s.w.cell? ⟨w.heap.size + 1 + 1, 2, none⟩ = some (.int .u32 ri) := by subst hpp; exact fun s => s.h.cell 2 rfl 2 rfl
  have qp3_0 : ∀ s : Wd p, s.w.cell? ⟨w.heap.size + 1 + 1 + 1, 0, none⟩ = some (.int .i64 kx) := by subst hpp; exact fun s => s.h.cell 3 rfl 0 rfl
  have qp3_1 : ∀ s : Wd p, s.w.cell? ⟨w.heap.size + 1 + 1 + 1, 1, none⟩ = some (.int .i64 ky) := by subst hpp; exact fun s => s.h.cell 3 rfl 1 rfl
  have qp3_2 : ∀ s : Wd p, s.w.cell? ⟨w.heap.size + 1 + 1 + 1, 2, none⟩ = some (.int .u32 ki) := by subst hpp; exact fun s => s.h.cell 3 rfl 2 rfl
  have qp4_0 : ∀ s : Wd p, s.w.cell? ⟨w.heap.size + 1 + 1 + 1 + 1, 0, none⟩ = some (.int .i64 lx) := by subst hpp; exact fun s => s.h.cell 4 rfl 0 rfl
  have qp4_1 : ∀ s : Wd p, s.w.cell? ⟨w.heap.size + 1 + 1 + 1 + 1, 1, none⟩ = some (.int .i64 ly) := by subst hpp; exact fun s => s.h.cell 4 rfl 1 rfl
  have qp4_2 : ∀ s : Wd p, s.w.cell? ⟨w.heap.size + 1 + 1 + 1 + 1, 2, none⟩ = some (.int .u32 li) := by subst hpp; exact fun s => s.h.cell 4 rfl 2 rfl
  have qp5_0 : ∀ s : Wd p, s.w.cell? ⟨w.heap.size + 1 + 1 + 1 + 1 + 1, 0, none⟩ = some (.int .i64 mx) := by subst hpp; exact fun s => s.h.cell 5 rfl 0 rfl
  have qp5_1 : ∀ s : Wd p, s.w.cell? ⟨w.heap.size + 1 + 1 + 1 + 1 + 1, 1, none⟩ = some (.int .i64 my) := by subst hpp; exact fun s => s.h.cell 5 rfl 1 rfl
  have qp5_2 : ∀ s : Wd p, s.w.cell? ⟨w.heap.size + 1 + 1 + 1 + 1 + 1, 2, none⟩ = some (.int .u32 mi) := by subst hpp; exact fun s => s.h.cell 5 rfl 2 rfl
  have HPp := Lib.hid hpp
  clear hpp
  have instp : Nonempty (Wd p) := ⟨⟨_, h0p⟩⟩
  obtain ⟨s, hs⟩ : ∃ s : Wd p, (W) = s.w := ⟨⟨_, h0p⟩, rfl⟩
  rw [hs]
  clear hs h0p
  clear R0 R1 R2 R3 R4 R5 HB
  go_cut [48] (fun sb wx => sb = .bool false ∧ ∃ s : Wd p, wx = s.w)
  case first =>
    obtain ⟨o1, hO1, hw1⟩ := ways px pi qx qi
    obtain ⟨o2, hO2, hw2⟩ := ways py pi qy qi
    have H1 := Lib.hid hO1
    have H2 := Lib.hid hO2
    clear hO1 hO2
    rcases hw1 with ⟨e1, e2, e3⟩ | ⟨e1, e2, e3⟩ | ⟨e1, e2⟩ <;> rcases hw2 with ⟨f1, f2, f3⟩ | ⟨f1, f2, f3⟩ | ⟨f1, f2⟩ <;> first
      | (exfalso; rw [e3] at f3; exact Bool.noConfusion f3)
      | (
        refine wp_region_wd p (by kernel_rfl) (by kernel_rfl) (hdp.out _ s.h) ?_
        repeat (first
          | go_big_quiet_step (first | (go_at_call 9; with_reducible exact calls_wd hkp.out _ (byx_is H1.out _)) | (go_at_call 11; with_reducible exact calls_wd hkp.out _ (byy_is H2.out _)))
          | quiet_step (first | (go_at_call 9; with_reducible exact calls_wd hkp.out _ (byx_is H1.out _)) | (go_at_call 11; with_reducible exact calls_wd hkp.out _ (byy_is H2.out _))))
        refine wpQuiet_nil ?_
        clear s
        rintro _ ⟨s, rfl⟩
        go_wp2_with fail
        go_meet
        exact ⟨rfl, s, rfl⟩)
  case rest =>
    clear s
    obtain ⟨rfl, s, rfl⟩ := hcut
    go_upto_region 3 with fail
    go_cut [84] (fun sb wx => sb = .bool false ∧ ∃ s : Wd p, wx = s.w)
    case first =>
      obtain ⟨o1, hO1, hw1⟩ := ways kx ki lx li
      obtain ⟨o2, hO2, hw2⟩ := ways ky ki ly li
      have H1 := Lib.hid hO1
      have H2 := Lib.hid hO2
      clear hO1 hO2
      rcases hw1 with ⟨e1, e2, e3⟩ | ⟨e1, e2, e3⟩ | ⟨e1, e2⟩ <;> rcases hw2 with ⟨f1, f2, f3⟩ | ⟨f1, f2, f3⟩ | ⟨f1, f2⟩ <;> first
        | (exfalso; rw [e3] at f3; exact Bool.noConfusion f3)
        | (
          refine wp_region_wd p (by kernel_rfl) (by kernel_rfl) (hdp.out _ s.h) ?_
          repeat (first
            | go_big_quiet_step (first | (go_at_call 13; with_reducible exact calls_wd hkp.out _ (bylo_is H1.out _)) | (go_at_call 15; with_reducible exact calls_wd hkp.out _ (byhi_is H2.out _)))
            | quiet_step (first | (go_at_call 13; with_reducible exact calls_wd hkp.out _ (bylo_is H1.out _)) | (go_at_call 15; with_reducible exact calls_wd hkp.out _ (byhi_is H2.out _))))
          refine wpQuiet_nil ?_
          clear s
          rintro _ ⟨s, rfl⟩
          go_wp2_with fail
          go_meet
          exact ⟨rfl, s, rfl⟩)
    case rest =>
      clear s
      obtain ⟨rfl, s, rfl⟩ := hcut
      go_upto_region 5 with fail
      go_cut [114] (fun sb wx => sb = .bool false ∧ ∃ s : Wd p, wx = s.w)
      case first =>
        refine wp_region_wd p (by kernel_rfl) (by kernel_rfl) (hdp.out _ s.h) ?_
        repeat (first
          | go_big_quiet_step (first | (go_at_call 9; with_reducible exact calls_wd hkp.out _ (byx_any px py pi qx qy qi _)) | (go_at_call 9; with_reducible exact calls_wd hkp.out _ (byx_any qx qy qi px py pi _)) | (go_at_call 9; with_reducible exact calls_wd hkp.out _ (byx_any qx qy qi rx ry ri _)) | (go_at_call 9; with_reducible exact calls_wd hkp.out _ (byx_any px py pi rx ry ri _)) | (go_at_call 32; with_reducible exact calls_wd hkp.out _ (fits_ord px pi qx qi rx ri _)) | (go_at_call 11; with_reducible exact calls_wd hkp.out _ (byy_any px py pi qx qy qi _)) | (go_at_call 11; with_reducible exact calls_wd hkp.out _ (byy_any qx qy qi px py pi _)) | (go_at_call 11; with_reducible exact calls_wd hkp.out _ (byy_any qx qy qi rx ry ri _)) | (go_at_call 11; with_reducible exact calls_wd hkp.out _ (byy_any px py pi rx ry ri _)) | (go_at_call 32; with_reducible exact calls_wd hkp.out _ (fits_ord py pi qy qi ry ri _)))
          | quiet_step (first | (go_at_call 9; with_reducible exact calls_wd hkp.out _ (byx_any px py pi qx qy qi _)) | (go_at_call 9; with_reducible exact calls_wd hkp.out _ (byx_any qx qy qi px py pi _)) | (go_at_call 9; with_reducible exact calls_wd hkp.out _ (byx_any qx qy qi rx ry ri _)) | (go_at_call 9; with_reducible exact calls_wd hkp.out _ (byx_any px py pi rx ry ri _)) | (go_at_call 32; with_reducible exact calls_wd hkp.out _ (fits_ord px pi qx qi rx ri _)) | (go_at_call 11; with_reducible exact calls_wd hkp.out _ (byy_any px py pi qx qy qi _)) | (go_at_call 11; with_reducible exact calls_wd hkp.out _ (byy_any qx qy qi px py pi _)) | (go_at_call 11; with_reducible exact calls_wd hkp.out _ (byy_any qx qy qi rx ry ri _)) | (go_at_call 11; with_reducible exact calls_wd hkp.out _ (byy_any px py pi rx ry ri _)) | (go_at_call 32; with_reducible exact calls_wd hkp.out _ (fits_ord py pi qy qi ry ri _))))
        refine wpQuiet_nil ?_
        clear s
        rintro _ ⟨s, rfl⟩
        go_wp2_with fail
        go_meet
        exact ⟨rfl, s, rfl⟩
      case rest =>
        clear s
        obtain ⟨rfl, s, rfl⟩ := hcut
        go_wp2_with fail
        refine wp_region_wd p (by kernel_rfl) (by kernel_rfl) (hdp.out _ s.h) ?_
        repeat (first
          | go_big_quiet_step (first | (go_at_call 13; with_reducible exact calls_wd hkp.out _ (bylo_any kx ky ki lx ly li _)) | (go_at_call 13; with_reducible exact calls_wd hkp.out _ (bylo_any lx ly li kx ky ki _)) | (go_at_call 13; with_reducible exact calls_wd hkp.out _ (bylo_any lx ly li mx my mi _)) | (go_at_call 13; with_reducible exact calls_wd hkp.out _ (bylo_any kx ky ki mx my mi _)) | (go_at_call 32; with_reducible exact calls_wd hkp.out _ (fits_ord kx ki lx li mx mi _)) | (go_at_call 15; with_reducible exact calls_wd hkp.out _ (byhi_any kx ky ki lx ly li _)) | (go_at_call 15; with_reducible exact calls_wd hkp.out _ (byhi_any lx ly li kx ky ki _)) | (go_at_call 15; with_reducible exact calls_wd hkp.out _ (byhi_any lx ly li mx my mi _)) | (go_at_call 15; with_reducible exact calls_wd hkp.out _ (byhi_any kx ky ki mx my mi _)) | (go_at_call 32; with_reducible exact calls_wd hkp.out _ (fits_ord ky ki ly li my mi _)) | (go_at_call 31; with_reducible exact calls_wd hkp.out _ (awake_any _)))
          | quiet_step (first | (go_at_call 13; with_reducible exact calls_wd hkp.out _ (bylo_any kx ky ki lx ly li _)) | (go_at_call 13; with_reducible exact calls_wd hkp.out _ (bylo_any lx ly li kx ky ki _)) | (go_at_call 13; with_reducible exact calls_wd hkp.out _ (bylo_any lx ly li mx my mi _)) | (go_at_call 13; with_reducible exact calls_wd hkp.out _ (bylo_any kx ky ki mx my mi _)) | (go_at_call 32; with_reducible exact calls_wd hkp.out _ (fits_ord kx ki lx li mx mi _)) | (go_at_call 15; with_reducible exact calls_wd hkp.out _ (byhi_any kx ky ki lx ly li _)) | (go_at_call 15; with_reducible exact calls_wd hkp.out _ (byhi_any lx ly li kx ky ki _)) | (go_at_call 15; with_reducible exact calls_wd hkp.out _ (byhi_any lx ly li mx my mi _)) | (go_at_call 15; with_reducible exact calls_wd hkp.out _ (byhi_any kx ky ki mx my mi _)) | (go_at_call 32; with_reducible exact calls_wd hkp.out _ (fits_ord ky ki ly li my mi _)) | (go_at_call 31; with_reducible exact calls_wd hkp.out _ (awake_any _))))
        refine wpQuiet_nil ?_
        clear s
        rintro _ ⟨s, rfl⟩
        go_wp2_with fail
        go_ret
        exact ⟨rfl, hBp.out _ s.h⟩

set_option maxRecDepth 100000 in
theorem order_lifted (os : Os) (started : os.Started) (H : Type) (enc : TypeId × Value → H) :
    ReturnsInHanded {} Try.checked os 4 .any (Rows.itemOrderSpec.pre6 enc Try.prog Try.f4 Rows.itemOrderRow.domain false) (Rows.itemOrderSpec.post enc Try.prog Try.f4 false true false false) := by
  refine returnsInHanded_of_change (C := Try.checked) Try.own started (by kernel_rfl) Try.func4
    (ChangeSpec.witness6 (enc := enc) (C := Try.checked) false ⟨#[], #[.agg #[.int .i64 0, .int .i64 0, .int .u32 0], .agg #[.int .i64 0, .int .i64 0, .int .u32 0], .agg #[.int .i64 0, .int .i64 0, .int .u32 0], .agg #[.int .i64 0, .int .i64 0, .int .u32 0], .agg #[.int .i64 0, .int .i64 0, .int .u32 0], .agg #[.int .i64 0, .int .i64 0, .int .u32 0]], []⟩ 8 (by kernel_rfl) (by kernel_rfl) (by kernel_rfl) (by kernel_rfl)) ?_
  intro W base args ds gs before hval0 hW hcnd _
  have hval : ∀ (j : Nat) t v, Try.f4.params[j]? = some t → args[j]? = some v → Value.okWide Try.prog W .any base t v := hval0
  have hW' := hW
  obtain ⟨p, q, hA0, hV, rfl, hfz, hnd⟩ := hW
  have hA : DataW.TrodAll enc Try.prog W 0 (fun _ => true) true Try.f4.params.toList args.toList ds p := hA0
  rw [Try.params4] at hA hval
  obtain ⟨v0, vs0, d0, ds0, p0, q0, hargs, rfl, rfl, h0, r0⟩ := trodAll_cons hA
  obtain ⟨v1, vs1, d1, ds1, p1, q1, rfl, rfl, rfl, h1, r1⟩ := trodAll_cons r0
  obtain ⟨v2, vs2, d2, ds2, p2, q2, rfl, rfl, rfl, h2, r2⟩ := trodAll_cons r1
  obtain ⟨v3, vs3, d3, ds3, p3, q3, rfl, rfl, rfl, h3, r3⟩ := trodAll_cons r2
  obtain ⟨v4, vs4, d4, ds4, p4, q4, rfl, rfl, rfl, h4, r4⟩ := trodAll_cons r3
  obtain ⟨v5, vs5, d5, ds5, p5, q5, rfl, rfl, rfl, h5, r5⟩ := trodAll_cons r4
  obtain ⟨rfl, rfl, rfl⟩ := trodAll_nil r5
  obtain rfl : args = #[v0, v1, v2, v3, v4, v5] := by cases args; simp_all
  obtain ⟨rfl, rfl⟩ := trodVars_none hV
  obtain ⟨a0, b0, c0, rfl, rfl, rfl, wa0, wb0, wc0⟩ := open24 (hval 0 24 v0 rfl rfl) h0
  obtain ⟨a1, b1, c1, rfl, rfl, rfl, wa1, wb1, wc1⟩ := open24 (hval 1 24 v1 rfl rfl) h1
  obtain ⟨a2, b2, c2, rfl, rfl, rfl, wa2, wb2, wc2⟩ := open24 (hval 2 24 v2 rfl rfl) h2
  obtain ⟨a3, b3, c3, rfl, rfl, rfl, wa3, wb3, wc3⟩ := open26 (hval 3 26 v3 rfl rfl) h3
  obtain ⟨a4, b4, c4, rfl, rfl, rfl, wa4, wb4, wc4⟩ := open26 (hval 4 26 v4 rfl rfl) h4
  obtain ⟨a5, b5, c5, rfl, rfl, rfl, wa5, wb5, wc5⟩ := open26 (hval 5 26 v5 rfl rfl) h5
  clear hA0 hval0
  simp only [List.append_nil] at hW'
  refine (order_walk a0 b0 c0 a1 b1 c1 a2 b2 c2 a3 b3 c3 a4 b4 c4 a5 b5 c5 W).mono fun e W' ⟨he, hb⟩ => ?_
  subst he
  exact ⟨_, rfl, law_post hW' (trodAll_cons_mk (shut_bool Try.underlying4 _) trodAll_mk0) (trodAll_cons_mk (read24 wa0 wb0 wc0 W' _) (trodAll_cons_mk (read24 wa1 wb1 wc1 W' _) (trodAll_cons_mk (read24 wa2 wb2 wc2 W' _) (trodAll_cons_mk (read26 wa3 wb3 wc3 W' _) (trodAll_cons_mk (read26 wa4 wb4 wc4 W' _) (trodAll_cons_mk (read26 wa5 wb5 wc5 W' _) trodAll_mk0)))))) rfl hb⟩

theorem order_holds : Rows.ItemOrderSaid :=
  OpenClaim.holds_of_wide 4 Try.f4 rfl rfl rfl rfl rfl rfl rfl ⟨rfl, rfl, rfl, rfl, rfl⟩ rfl rfl rfl rfl rfl (by kernel_rfl) Try.func4 (by kernel_rfl)
    (of_decide_eq_true (by kernel_rfl)) (by unfold Func.isWrapper; first | (rw [if_pos (by decide +kernel)]; kernel_rfl) | (rw [if_neg (by decide +kernel)]; exact ⟨rfl, rfl⟩))
    (fun os started H enc _ => order_lifted os started H enc)
end Go.Proofs.Ytpbghgmaikmneaa
