/-
  ItemCells is proved: for every box, cell and number the law answers true and changes nothing that was there; no condition.
-/
import Derived.Test.YtpbghgmaikmneaaOwn
namespace Go.Proofs.Ytpbghgmaikmneaa
open Go.ChangeShapes Go.WideShapes Go.ChangeAt Go.RowKit Go.Joins
theorem cell_wrong {a b c d x y : Int} (h : rbD a b c d = false) : cellD a b c d x y = false := by
  cases hc : cellD a b c d x y with
  | false => rfl
  | true => simp [cellD, rbD] at *; omega
theorem cell_in {a b c d x y : Int} (h : cellD a b c d x y = true) : inD x y a b c d = true := by simp [cellD, inD] at *; omega
/-- a box cut in two, upright -/
theorem cut_x {a b c d x y m : Int} (h : a ≤ m ∧ m ≤ b) : cellD a b c d x y = false ∧ cellD a m c d x y = false ∧ cellD m b c d x y = false ∨ cellD a b c d x y = true ∧ cellD a m c d x y = true ∧ cellD m b c d x y = false ∨ cellD a b c d x y = true ∧ cellD a m c d x y = false ∧ cellD m b c d x y = true := by
  simp [cellD]; omega
theorem cut_y {a b c d x y m : Int} (h : c ≤ m ∧ m ≤ d) : cellD a b c d x y = false ∧ cellD a b c m x y = false ∧ cellD a b m d x y = false ∨ cellD a b c d x y = true ∧ cellD a b c m x y = true ∧ cellD a b m d x y = false ∨ cellD a b c d x y = true ∧ cellD a b c m x y = false ∧ cellD a b m d x y = true := by
  simp [cellD]; omega

set_option maxRecDepth 100000 in
set_option maxHeartbeats 8000000 in
theorem cells_walk (a b c d j x y t : Int) (w : World) :
    Calls Try.prog 8 #[.agg #[.int .i64 a, .int .i64 b, .int .i64 c, .int .i64 d, .int .u32 j], .int .i64 x, .int .i64 y, .int .i64 t] w fun e w' => e = .returned (.bool true) ∧ Below w.heap.size w w' := by
  go_enter Try.func8, Try.ntmps8
  go_upto_region 1 with fail
  have R0 := Row.new w [.int .i64 a, .int .i64 b, .int .i64 c, .int .i64 d, .int .u32 j] 28 rfl
  have HB := BlA (Lib.hid (Below.refl w.heap.size w)) (.cells #[.int .i64 a, .int .i64 b, .int .i64 c, .int .i64 d, .int .u32 j] 28)
  generalize w.alloc (.cells #[.int .i64 a, .int .i64 b, .int .i64 c, .int .i64 d, .int .u32 j] 28) = W at *
  obtain ⟨p, hpp⟩ : ∃ p : World → Prop, p = Cl w [(w.heap.size, [.int .i64 a, .int .i64 b, .int .i64 c, .int .i64 d, .int .u32 j])] := ⟨_, rfl⟩
  have h0p : p (W) := hpp ▸ (Cl.cons R0 (Cl.nil HB.out))
  have hkp : Hid (∀ X w', p X → Below X.heap.size X w' → p w') := Lib.hid (by subst hpp; exact fun X w' h hb => h.keep hb)
  have hdp : Hid (∀ X, p X → p X.drew) := Lib.hid (by subst hpp; exact fun X h => h.drew)
  have hBp : Hid (∀ X, p X → Below w.heap.size w X) := Lib.hid (by subst hpp; exact fun X h => h.2)
  have qp0_0 : ∀ s : Wd p, s.w.cell? ⟨w.heap.size, 0, none⟩ = some (.int .i64 a) := by subst hpp; exact fun s => s.h.cell 0 rfl 0 rfl
  have qp0_1 : ∀ s : Wd p, s.w.cell? ⟨w.heap.size, 1, none⟩ = some (.int .i64 b) := by subst hpp; exact fun s => s.h.cell 0 rfl 1 rfl
  have qp0_2 : ∀ s : Wd p, s.w.cell? ⟨w.heap.size, 2, none⟩ = some (.int .i64 c) := by subst hpp; exact fun s => s.h.cell 0 rfl 2 rfl
  have qp0_3 : ∀ s : Wd p, s.w.cell? ⟨w.heap.size, 3, none⟩ = some (.int .i64 d) := by subst hpp; exact fun s => s.h.cell 0 rfl 3 rfl
  have qp0_4 : ∀ s : Wd p, s.w.cell? ⟨w.heap.size, 4, none⟩ = some (.int .u32 j) := by subst hpp; exact fun s => s.h.cell 0 rfl 4 rfl
  have HPp := Lib.hid hpp
  clear hpp
  have instp : Nonempty (Wd p) := ⟨⟨_, h0p⟩⟩
  obtain ⟨s, hs⟩ : ∃ s : Wd p, (W) = s.w := ⟨⟨_, h0p⟩, rfl⟩
  rw [hs]
  clear hs h0p
  clear R0 HB
  cases hR : rbD a b c d with
  | false =>
    have HR := Lib.hid hR
    have HC := Lib.hid (cell_wrong (x := x) (y := y) hR)
    clear hR
    go_wp2_with fail
    refine (rb_is HR.out j _).mono ?_
    rintro e wz ⟨rfl, hb⟩
    obtain ⟨s1, hs⟩ : ∃ s1 : Wd p, wz = s1.w := ⟨⟨wz, hkp.out _ _ s.h hb⟩, rfl⟩
    subst hs
    clear hb s
    rename Wd p => s
    go_wp2_with fail
    refine (cell_is HC.out j _).mono ?_
    rintro e wz ⟨rfl, hb⟩
    obtain ⟨s1, hs⟩ : ∃ s1 : Wd p, wz = s1.w := ⟨⟨wz, hkp.out _ _ s.h hb⟩, rfl⟩
    subst hs
    clear hb s
    rename Wd p => s
    go_wp2_with fail
    refine (awake_any _).mono ?_
    rintro e wz ⟨rfl, hb⟩
    obtain ⟨s1, hs⟩ : ∃ s1 : Wd p, wz = s1.w := ⟨⟨wz, hkp.out _ _ s.h hb⟩, rfl⟩
    subst hs
    clear hb s
    rename Wd p => s
    go_wp2
    go_ret
    exact ⟨rfl, hBp.out _ s.h⟩
  | true =>
    have HR := Lib.hid hR
    have hab : a ≤ b ∧ c ≤ d := by simp [rbD] at hR; exact hR
    have HAB := Lib.hid hab
    clear hR hab
    obtain ⟨cv, hcv⟩ : ∃ cv, cellD a b c d x y = cv := ⟨_, rfl⟩
    have HC := Lib.hid hcv
    clear hcv
    go_wp2_with fail
    refine (rb_is HR.out j _).mono ?_
    rintro e wz ⟨rfl, hb⟩
    obtain ⟨s1, hs⟩ : ∃ s1 : Wd p, wz = s1.w := ⟨⟨wz, hkp.out _ _ s.h hb⟩, rfl⟩
    subst hs
    clear hb s
    rename Wd p => s
    go_wp2_with fail
    refine (cell_is HC.out j _).mono ?_
    rintro e wz ⟨rfl, hb⟩
    obtain ⟨s1, hs⟩ : ∃ s1 : Wd p, wz = s1.w := ⟨⟨wz, hkp.out _ _ s.h hb⟩, rfl⟩
    subst hs
    clear hb s
    rename Wd p => s
    go_upto_region 4 with fail
    go_cut [9, 41] (fun s9 s41 wx => s9 = .bool cv ∧ s41 = .bool false ∧ ∃ s : Wd p, wx = s.w)
    case first =>
      cases cv
      · go_wp2_with fail
        go_meet
        exact ⟨rfl, rfl, s, rfl⟩
      · have HI := Lib.hid (cell_in HC.out)
        go_wp2_with fail
        refine (in_is HI.out 0 j _).mono ?_
        rintro e wz ⟨rfl, hb⟩
        obtain ⟨s1, hs⟩ : ∃ s1 : Wd p, wz = s1.w := ⟨⟨wz, hkp.out _ _ s.h hb⟩, rfl⟩
        subst hs
        clear hb s
        rename Wd p => s
        go_wp2_with fail
        go_meet
        exact ⟨rfl, rfl, s, rfl⟩
    case rest =>
      clear s
      obtain ⟨rfl, rfl, s, rfl⟩ := hcut
      go_upto_region 6 with fail
      obtain ⟨W, h⟩ := s
      dsimp only
      rw [HPp.out] at h
      have R0 := h.row 0 rfl
      have HB := Lib.hid h.2
      have hz := World.block_lt_of_cell? W _ (R0 0 _ rfl)
      dsimp only at hz
      clear h hkp hdp hBp HPp instp qp0_0 qp0_1 qp0_2 qp0_3 qp0_4
      clear p
      go_cut [10, 11] (fun s1 s2 wx => ∃ gl gr : Nat, s1 = .pointer (some ⟨gl, 0, none⟩) ∧ s2 = .pointer (some ⟨gr, 0, none⟩) ∧ gl ≠ gr ∧ w.heap.size < gl ∧ w.heap.size < gr ∧ Hid (W.heap.size ≤ gl ∧ W.heap.size ≤ gr) ∧ Own wx gl [.int .i64 a, .int .i64 b, .int .i64 c, .int .i64 d, .int .u32 j] ∧ Own wx gr [.int .i64 a, .int .i64 b, .int .i64 c, .int .i64 d, .int .u32 j] ∧ Row wx w.heap.size [.int .i64 a, .int .i64 b, .int .i64 c, .int .i64 d, .int .u32 j] ∧ Hid (Below w.heap.size w wx))
      case first =>
        have c0 := R0 0 _ rfl
        have c1 := R0 1 _ rfl
        have c2 := R0 2 _ rfl
        have c3 := R0 3 _ rfl
        have c4 := R0 4 _ rfl
        go_region
        all_goals go_wp2_with fail
        all_goals go_meet
        · exact ⟨W.heap.size, W.heap.size + 1, rfl, rfl, by omega, by omega, by omega, Lib.hid (by omega), ((Own.new W [.int .i64 a, .int .i64 b, .int .i64 c, .int .i64 d, .int .u32 j] 28 rfl).all (by simp) _).drew, (Own.new _ [.int .i64 a, .int .i64 b, .int .i64 c, .int .i64 d, .int .u32 j] 28 (by simp)).drew, ((R0.all _).all _).drew, BlW (BlA (BlA HB _) _)⟩
        · exact ⟨W.heap.size + 1, W.heap.size, rfl, rfl, by omega, by omega, by omega, Lib.hid (by omega), (Own.new _ [.int .i64 a, .int .i64 b, .int .i64 c, .int .i64 d, .int .u32 j] 28 (by simp)).drew, ((Own.new W [.int .i64 a, .int .i64 b, .int .i64 c, .int .i64 d, .int .u32 j] 28 rfl).all (by simp) _).drew, ((R0.all _).all _).drew, BlW (BlA (BlA HB _) _)⟩
      case rest =>
        clear R0 HB hz
        obtain ⟨gl, gr, rfl, rfl, hne, hgl, hgr, -, O1, O2, R0, HB⟩ := hcut
        clear W
        go_upto_region 7 with fail
        go_cut [8] (fun s8 wx => ∃ zz : Int, Hid (a ≤ zz ∧ zz ≤ b) ∧ Own wx gl [.int .i64 a, .int .i64 zz, .int .i64 c, .int .i64 d, .int .u32 j] ∧ Own wx gr [.int .i64 a, .int .i64 b, .int .i64 c, .int .i64 d, .int .u32 j] ∧ Row wx w.heap.size [.int .i64 a, .int .i64 b, .int .i64 c, .int .i64 d, .int .u32 j] ∧ Hid (Below w.heap.size w wx))
        case first =>
          have hAB := HAB.out
          have c0 := R0 0 _ rfl
          have c1 := R0 1 _ rfl
          have u1 := O1.1 1 _ rfl
          have f1 := O1.2 1
          go_wp2_with fail
          all_goals go_meet
          all_goals first | exact ⟨t, Lib.hid (by omega), ⟨O1.1.set 1 (.int .i64 t) rfl, fun q => (World.frozen?_setCell _ _ _ _).trans (O1.2 q)⟩, O2.far ⟨gl, 1, none⟩ _ (by dsimp only; omega), R0.far ⟨gl, 1, none⟩ _ (by dsimp only; omega), BlC HB ⟨gl, 1, none⟩ _ (by dsimp only; omega)⟩ | exact ⟨a, Lib.hid (by omega), ⟨O1.1.set 1 (.int .i64 a) rfl, fun q => (World.frozen?_setCell _ _ _ _).trans (O1.2 q)⟩, O2.far ⟨gl, 1, none⟩ _ (by dsimp only; omega), R0.far ⟨gl, 1, none⟩ _ (by dsimp only; omega), BlC HB ⟨gl, 1, none⟩ _ (by dsimp only; omega)⟩ | exact ⟨b, Lib.hid (by omega), ⟨O1.1.set 1 (.int .i64 b) rfl, fun q => (World.frozen?_setCell _ _ _ _).trans (O1.2 q)⟩, O2.far ⟨gl, 1, none⟩ _ (by dsimp only; omega), R0.far ⟨gl, 1, none⟩ _ (by dsimp only; omega), BlC HB ⟨gl, 1, none⟩ _ (by dsimp only; omega)⟩
        case rest =>
          clear O1 O2 R0 HB
          obtain ⟨m, HM, O1, O2, R0, HB⟩ := hcut
          have u1 := O1.1 1 _ rfl
          have u2 := O2.1 0 _ rfl
          have f2 := O2.2 0
          go_upto_region 9 with fail
          have RL := O1.1.far ⟨gr, 0, none⟩ (.int .i64 m) (fun e => hne e.symm)
          have RR : Row (wc.setCell ⟨gr, 0, none⟩ (.int .i64 m)) gr [.int .i64 m, .int .i64 b, .int .i64 c, .int .i64 d, .int .u32 j] := O2.1.set 0 (.int .i64 m) rfl
          replace R0 := R0.far ⟨gr, 0, none⟩ (.int .i64 m) (by dsimp only; omega)
          replace HB := BlC HB ⟨gr, 0, none⟩ (.int .i64 m) (by dsimp only; omega)
          clear u1 u2 f2 O1 O2
          generalize wc.setCell ⟨gr, 0, none⟩ (.int .i64 m) = W at *
          clear wc
          have hz := World.block_lt_of_cell? W _ (R0 0 _ rfl)
          have hzl := World.block_lt_of_cell? W _ (RL 0 _ rfl)
          have hzr := World.block_lt_of_cell? W _ (RR 0 _ rfl)
          dsimp only at hz hzl hzr
          go_cut [12, 13] (fun s1 s2 wx => ∃ gw gh : Nat, s1 = .pointer (some ⟨gw, 0, none⟩) ∧ s2 = .pointer (some ⟨gh, 0, none⟩) ∧ gw ≠ gh ∧ w.heap.size < gw ∧ w.heap.size < gh ∧ Hid (W.heap.size ≤ gw ∧ W.heap.size ≤ gh) ∧ Own wx gw [.int .i64 a, .int .i64 b, .int .i64 c, .int .i64 d, .int .u32 j] ∧ Own wx gh [.int .i64 a, .int .i64 b, .int .i64 c, .int .i64 d, .int .u32 j] ∧ Row wx w.heap.size [.int .i64 a, .int .i64 b, .int .i64 c, .int .i64 d, .int .u32 j] ∧ Row wx gl [.int .i64 a, .int .i64 m, .int .i64 c, .int .i64 d, .int .u32 j] ∧ Row wx gr [.int .i64 m, .int .i64 b, .int .i64 c, .int .i64 d, .int .u32 j] ∧ Hid (Below w.heap.size w wx))
          case first =>
            have c0 := R0 0 _ rfl
            have c1 := R0 1 _ rfl
            have c2 := R0 2 _ rfl
            have c3 := R0 3 _ rfl
            have c4 := R0 4 _ rfl
            go_region
            all_goals go_wp2_with fail
            all_goals go_meet
            · exact ⟨W.heap.size, W.heap.size + 1, rfl, rfl, by omega, by omega, by omega, Lib.hid (by omega), ((Own.new W [.int .i64 a, .int .i64 b, .int .i64 c, .int .i64 d, .int .u32 j] 28 rfl).all (by simp) _).drew, (Own.new _ [.int .i64 a, .int .i64 b, .int .i64 c, .int .i64 d, .int .u32 j] 28 (by simp)).drew, ((R0.all _).all _).drew, ((RL.all _).all _).drew, ((RR.all _).all _).drew, BlW (BlA (BlA HB _) _)⟩
            · exact ⟨W.heap.size + 1, W.heap.size, rfl, rfl, by omega, by omega, by omega, Lib.hid (by omega), (Own.new _ [.int .i64 a, .int .i64 b, .int .i64 c, .int .i64 d, .int .u32 j] 28 (by simp)).drew, ((Own.new W [.int .i64 a, .int .i64 b, .int .i64 c, .int .i64 d, .int .u32 j] 28 rfl).all (by simp) _).drew, ((R0.all _).all _).drew, ((RL.all _).all _).drew, ((RR.all _).all _).drew, BlW (BlA (BlA HB _) _)⟩
          case rest =>
            clear R0 RL RR HB
            obtain ⟨gw, gh, rfl, rfl, hne2, hgw, hgh, hG, O3, O4, R0, RL, RR, HB⟩ := hcut
            have hG1 := hG.out.1
            have hG2 := hG.out.2
            have hlw : gl < gw := by omega
            have hlh : gl < gh := by omega
            have hrw : gr < gw := by omega
            have hrh : gr < gh := by omega
            clear hG hG1 hG2 hz hzl hzr
            clear W
            go_upto_region 10 with fail
            go_cut [8] (fun s8 wx => ∃ zz : Int, Hid (c ≤ zz ∧ zz ≤ d) ∧ Own wx gw [.int .i64 a, .int .i64 b, .int .i64 c, .int .i64 zz, .int .u32 j] ∧ Own wx gh [.int .i64 a, .int .i64 b, .int .i64 c, .int .i64 d, .int .u32 j] ∧ Row wx w.heap.size [.int .i64 a, .int .i64 b, .int .i64 c, .int .i64 d, .int .u32 j] ∧ Row wx gl [.int .i64 a, .int .i64 m, .int .i64 c, .int .i64 d, .int .u32 j] ∧ Row wx gr [.int .i64 m, .int .i64 b, .int .i64 c, .int .i64 d, .int .u32 j] ∧ Hid (Below w.heap.size w wx))
            case first =>
              have hAB := HAB.out
              have c0 := R0 2 _ rfl
              have c1 := R0 3 _ rfl
              have u1 := O3.1 3 _ rfl
              have f1 := O3.2 3
              go_wp2_with fail
              all_goals go_meet
              all_goals first | exact ⟨t, Lib.hid (by omega), ⟨O3.1.set 3 (.int .i64 t) rfl, fun q => (World.frozen?_setCell _ _ _ _).trans (O3.2 q)⟩, O4.far ⟨gw, 3, none⟩ _ (by dsimp only; omega), R0.far ⟨gw, 3, none⟩ _ (by dsimp only; omega), RL.far ⟨gw, 3, none⟩ _ (by dsimp only; omega), RR.far ⟨gw, 3, none⟩ _ (by dsimp only; omega), BlC HB ⟨gw, 3, none⟩ _ (by dsimp only; omega)⟩ | exact ⟨c, Lib.hid (by omega), ⟨O3.1.set 3 (.int .i64 c) rfl, fun q => (World.frozen?_setCell _ _ _ _).trans (O3.2 q)⟩, O4.far ⟨gw, 3, none⟩ _ (by dsimp only; omega), R0.far ⟨gw, 3, none⟩ _ (by dsimp only; omega), RL.far ⟨gw, 3, none⟩ _ (by dsimp only; omega), RR.far ⟨gw, 3, none⟩ _ (by dsimp only; omega), BlC HB ⟨gw, 3, none⟩ _ (by dsimp only; omega)⟩ | exact ⟨d, Lib.hid (by omega), ⟨O3.1.set 3 (.int .i64 d) rfl, fun q => (World.frozen?_setCell _ _ _ _).trans (O3.2 q)⟩, O4.far ⟨gw, 3, none⟩ _ (by dsimp only; omega), R0.far ⟨gw, 3, none⟩ _ (by dsimp only; omega), RL.far ⟨gw, 3, none⟩ _ (by dsimp only; omega), RR.far ⟨gw, 3, none⟩ _ (by dsimp only; omega), BlC HB ⟨gw, 3, none⟩ _ (by dsimp only; omega)⟩
            case rest =>
              clear O3 O4 R0 RL RR HB
              obtain ⟨n, HN, O3, O4, R0, RL, RR, HB⟩ := hcut
              have u1 := O3.1 3 _ rfl
              have u2 := O4.1 2 _ rfl
              have f2 := O4.2 2
              go_upto_region 12 with fail
              have RW := O3.1.far ⟨gh, 2, none⟩ (.int .i64 n) (fun e => hne2 e.symm)
              have RH : Row (wc.setCell ⟨gh, 2, none⟩ (.int .i64 n)) gh [.int .i64 a, .int .i64 b, .int .i64 n, .int .i64 d, .int .u32 j] := O4.1.set 2 (.int .i64 n) rfl
              replace R0 := R0.far ⟨gh, 2, none⟩ (.int .i64 n) (by dsimp only; omega)
              replace RL := RL.far ⟨gh, 2, none⟩ (.int .i64 n) (by dsimp only; omega)
              replace RR := RR.far ⟨gh, 2, none⟩ (.int .i64 n) (by dsimp only; omega)
              replace HB := BlC HB ⟨gh, 2, none⟩ (.int .i64 n) (by dsimp only; omega)
              clear u1 u2 f2 O3 O4
              generalize wc.setCell ⟨gh, 2, none⟩ (.int .i64 n) = W at *
              clear wc
              obtain ⟨p, hpp⟩ : ∃ p : World → Prop, p = Cl w [(gl, [.int .i64 a, .int .i64 m, .int .i64 c, .int .i64 d, .int .u32 j]), (gr, [.int .i64 m, .int .i64 b, .int .i64 c, .int .i64 d, .int .u32 j]), (gw, [.int .i64 a, .int .i64 b, .int .i64 c, .int .i64 n, .int .u32 j]), (gh, [.int .i64 a, .int .i64 b, .int .i64 n, .int .i64 d, .int .u32 j])] := ⟨_, rfl⟩
              have h0p : p (W) := hpp ▸ (Cl.cons RL (Cl.cons RR (Cl.cons RW (Cl.cons RH (Cl.nil HB.out)))))
              have hkp : Hid (∀ X w', p X → Below X.heap.size X w' → p w') := Lib.hid (by subst hpp; exact fun X w' h hb => h.keep hb)
              have hdp : Hid (∀ X, p X → p X.drew) := Lib.hid (by subst hpp; exact fun X h => h.drew)
              have hBp : Hid (∀ X, p X → Below w.heap.size w X) := Lib.hid (by subst hpp; exact fun X h => h.2)
              have qp0_0 : ∀ s : Wd p, s.w.cell? ⟨gl, 0, none⟩ = some (.int .i64 a) := by subst hpp; exact fun s => s.h.cell 0 rfl 0 rfl
              have qp0_1 : ∀ s : Wd p, s.w.cell? ⟨gl, 1, none⟩ = some (.int .i64 m) := by subst hpp; exact fun s => s.h.cell 0 rfl 1 rfl
              have qp0_2 : ∀ s : Wd p, s.w.cell? ⟨gl, 2, none⟩ = some (.int .i64 c) := by subst hpp; exact fun s => s.h.cell 0 rfl 2 rfl
              have qp0_3 : ∀ s : Wd p, s.w.cell? ⟨gl, 3, none⟩ = some (.int .i64 d) := by subst hpp; exact fun s => s.h.cell 0 rfl 3 rfl
              have qp0_4 : ∀ s : Wd p, s.w.cell? ⟨gl, 4, none⟩ = some (.int .u32 j) := by subst hpp; exact fun s => s.h.cell 0 rfl 4 rfl
              have qp1_0 : ∀ s : Wd p, s.w.cell? ⟨gr, 0, none⟩ = some (.int .i64 m) := by subst hpp; exact fun s => s.h.cell 1 rfl 0 rfl
              have qp1_1 : ∀ s : Wd p, s.w.cell? ⟨gr, 1, none⟩ = some (.int .i64 b) := by subst hpp; exact fun s => s.h.cell 1 rfl 1 rfl
              have qp1_2 : ∀ s : Wd p, s.w.cell? ⟨gr, 2, none⟩ = some (.int .i64 c) := by subst hpp; exact fun s => s.h.cell 1 rfl 2 rfl
              have qp1_3 : ∀ s : Wd p, s.w.cell? ⟨gr, 3, none⟩ = some (.int .i64 d) := by subst hpp; exact fun s => s.h.cell 1 rfl 3 rfl
              have qp1_4 : ∀ s : Wd p, s.w.cell? ⟨gr, 4, none⟩ = some (.int .u32 j) := by subst hpp; exact fun s => s.h.cell 1 rfl 4 rfl
              have qp2_0 : ∀ s : Wd p, s.w.cell? ⟨gw, 0, none⟩ = some (.int .i64 a) := by subst hpp; exact fun s => s.h.cell 2 rfl 0 rfl
              have qp2_1 : ∀ s : Wd p, s.w.cell? ⟨gw, 1, none⟩ = some (.int .i64 b) := by subst hpp; exact fun s => s.h.cell 2 rfl 1 rfl
              have qp2_2 : ∀ s : Wd p, s.w.cell? ⟨gw, 2, none⟩ = some (.int .i64 c) := by subst hpp; exact fun s => s.h.cell 2 rfl 2 rfl
              have qp2_3 : ∀ s : Wd p, s.w.cell? ⟨gw, 3, none⟩ = some (.int .i64 n) := by subst hpp; exact fun s => s.h.cell 2 rfl 3 rfl
              have qp2_4 : ∀ s : Wd p, s.w.cell? ⟨gw, 4, none⟩ = some (.int .u32 j) := by subst hpp; exact fun s => s.h.cell 2 rfl 4 rfl
              have qp3_0 : ∀ s : Wd p, s.w.cell? ⟨gh, 0, none⟩ = some (.int .i64 a) := by subst hpp; exact fun s => s.h.cell 3 rfl 0 rfl
              have qp3_1 : ∀ s : Wd p, s.w.cell? ⟨gh, 1, none⟩ = some (.int .i64 b) := by subst hpp; exact fun s => s.h.cell 3 rfl 1 rfl
              have qp3_2 : ∀ s : Wd p, s.w.cell? ⟨gh, 2, none⟩ = some (.int .i64 n) := by subst hpp; exact fun s => s.h.cell 3 rfl 2 rfl
              have qp3_3 : ∀ s : Wd p, s.w.cell? ⟨gh, 3, none⟩ = some (.int .i64 d) := by subst hpp; exact fun s => s.h.cell 3 rfl 3 rfl
              have qp3_4 : ∀ s : Wd p, s.w.cell? ⟨gh, 4, none⟩ = some (.int .u32 j) := by subst hpp; exact fun s => s.h.cell 3 rfl 4 rfl
              have HPp := Lib.hid hpp
              clear hpp
              have instp : Nonempty (Wd p) := ⟨⟨_, h0p⟩⟩
              obtain ⟨s, hs⟩ : ∃ s : Wd p, (W) = s.w := ⟨⟨_, h0p⟩, rfl⟩
              rw [hs]
              clear hs h0p
              clear R0 RL RR RW RH HB
              obtain ⟨o1, ho1⟩ : ∃ o, cellD a m c d x y = o := ⟨_, rfl⟩
              have H1 := Lib.hid ho1
              clear ho1
              obtain ⟨o2, ho2⟩ : ∃ o, cellD m b c d x y = o := ⟨_, rfl⟩
              have H2 := Lib.hid ho2
              clear ho2
              obtain ⟨o3, ho3⟩ : ∃ o, cellD a b c n x y = o := ⟨_, rfl⟩
              have H3 := Lib.hid ho3
              clear ho3
              obtain ⟨o4, ho4⟩ : ∃ o, cellD a b n d x y = o := ⟨_, rfl⟩
              have H4 := Lib.hid ho4
              clear ho4
              refine wp_region_wd p (by kernel_rfl) (by kernel_rfl) (hdp.out _ s.h) ?_
              repeat (first
                | go_big_quiet_step (first | (go_at_call 29; with_reducible exact calls_wd hkp.out _ (cell_is H1.out j _)) | (go_at_call 29; with_reducible exact calls_wd hkp.out _ (cell_is H2.out j _)))
                | quiet_step (first | (go_at_call 29; with_reducible exact calls_wd hkp.out _ (cell_is H1.out j _)) | (go_at_call 29; with_reducible exact calls_wd hkp.out _ (cell_is H2.out j _))))
              refine wpQuiet_nil ?_
              clear s
              rintro _ ⟨s, rfl⟩
              go_upto_region 13 with fail
              refine wp_region_wd p (by kernel_rfl) (by kernel_rfl) (hdp.out _ s.h) ?_
              repeat (first
                | go_big_quiet_step (first | (go_at_call 29; with_reducible exact calls_wd hkp.out _ (cell_is H3.out j _)) | (go_at_call 29; with_reducible exact calls_wd hkp.out _ (cell_is H4.out j _)))
                | quiet_step (first | (go_at_call 29; with_reducible exact calls_wd hkp.out _ (cell_is H3.out j _)) | (go_at_call 29; with_reducible exact calls_wd hkp.out _ (cell_is H4.out j _))))
              refine wpQuiet_nil ?_
              clear s
              rintro _ ⟨s, rfl⟩
              rcases cut_x (c := c) (d := d) (x := x) (y := y) HM.out with ⟨k0, k1, k2⟩ | ⟨k0, k1, k2⟩ | ⟨k0, k1, k2⟩ <;> rcases cut_y (a := a) (b := b) (x := x) (y := y) HN.out with ⟨l0, l1, l2⟩ | ⟨l0, l1, l2⟩ | ⟨l0, l1, l2⟩ <;> first
                | (exfalso; rw [k0] at l0; exact Bool.noConfusion l0)
                | (obtain rfl := HC.out.symm.trans k0
                   obtain rfl := H1.out.symm.trans k1
                   obtain rfl := H2.out.symm.trans k2
                   obtain rfl := H3.out.symm.trans l1
                   obtain rfl := H4.out.symm.trans l2
                   clear HC H1 H2 H3 H4 k0 k1 k2 l0 l1 l2
                   go_wp2_with fail
                   refine (awake_any _).mono ?_
                   rintro e wz ⟨rfl, hb⟩
                   obtain ⟨s1, hs⟩ : ∃ s1 : Wd p, wz = s1.w := ⟨⟨wz, hkp.out _ _ s.h hb⟩, rfl⟩
                   subst hs
                   clear hb s
                   rename Wd p => s
                   go_wp2
                   go_ret
                   exact ⟨rfl, hBp.out _ s.h⟩)

set_option maxRecDepth 100000 in
theorem cells_lifted (os : Os) (started : os.Started) (H : Type) (enc : TypeId × Value → H) :
    ReturnsInHanded {} Try.checked os 8 .any (Rows.itemCellsSpec.pre6 enc Try.prog Try.f8 Rows.itemCellsRow.domain false) (Rows.itemCellsSpec.post enc Try.prog Try.f8 false true false false) := by
  refine returnsInHanded_of_change (C := Try.checked) Try.own started (by kernel_rfl) Try.func8
    (ChangeSpec.witness6 (enc := enc) (C := Try.checked) false ⟨#[], #[.agg #[.int .i64 0, .int .i64 0, .int .i64 0, .int .i64 0, .int .u32 0], .int .i64 0, .int .i64 0, .int .i64 0], []⟩ 8 (by kernel_rfl) (by kernel_rfl) (by kernel_rfl) (by kernel_rfl)) ?_
  intro W base args ds gs before hval0 hW hcnd _
  have hval : ∀ (j : Nat) t v, Try.f8.params[j]? = some t → args[j]? = some v → Value.okWide Try.prog W .any base t v := hval0
  have hW' := hW
  obtain ⟨p, q, hA0, hV, rfl, hfz, hnd⟩ := hW
  have hA : DataW.TrodAll enc Try.prog W 0 (fun _ => true) true Try.f8.params.toList args.toList ds p := hA0
  rw [Try.params8] at hA hval
  obtain ⟨v0, vs0, d0, ds0, p0, q0, hargs, rfl, rfl, h0, r0⟩ := trodAll_cons hA
  obtain ⟨v1, vs1, d1, ds1, p1, q1, rfl, rfl, rfl, h1, r1⟩ := trodAll_cons r0
  obtain ⟨v2, vs2, d2, ds2, p2, q2, rfl, rfl, rfl, h2, r2⟩ := trodAll_cons r1
  obtain ⟨v3, vs3, d3, ds3, p3, q3, rfl, rfl, rfl, h3, r3⟩ := trodAll_cons r2
  obtain ⟨rfl, rfl, rfl⟩ := trodAll_nil r3
  obtain rfl : args = #[v0, v1, v2, v3] := by cases args; simp_all
  obtain ⟨rfl, rfl⟩ := trodVars_none hV
  obtain ⟨a0, b0, c0, e0, j0, rfl, rfl, rfl, wa0, wb0, wc0, we0, wj0⟩ := open28 (hval 0 28 v0 rfl rfl) h0
  obtain ⟨a1, rfl, rfl, rfl, w1⟩ := open_int Try.underlying2 (hval 1 2 v1 rfl rfl) h1
  obtain ⟨a2, rfl, rfl, rfl, w2⟩ := open_int Try.underlying2 (hval 2 2 v2 rfl rfl) h2
  obtain ⟨a3, rfl, rfl, rfl, w3⟩ := open_int Try.underlying2 (hval 3 2 v3 rfl rfl) h3
  clear hA0 hval0
  simp only [List.append_nil] at hW'
  refine (cells_walk a0 b0 c0 e0 j0 a1 a2 a3 W).mono fun e W' ⟨he, hb⟩ => ?_
  subst he
  exact ⟨_, rfl, law_post hW' (trodAll_cons_mk (shut_bool Try.underlying4 _) trodAll_mk0) (trodAll_cons_mk (read28 wa0 wb0 wc0 we0 wj0 W' _) (trodAll_cons_mk (shut_int Try.underlying2 w1) (trodAll_cons_mk (shut_int Try.underlying2 w2) (trodAll_cons_mk (shut_int Try.underlying2 w3) trodAll_mk0)))) rfl hb⟩

theorem cells_holds : Rows.ItemCellsSaid :=
  OpenClaim.holds_of_wide 8 Try.f8 rfl rfl rfl rfl rfl rfl rfl ⟨rfl, rfl, rfl, rfl, rfl⟩ rfl rfl rfl rfl rfl (by kernel_rfl) Try.func8 (by kernel_rfl)
    (of_decide_eq_true (by kernel_rfl)) (by unfold Func.isWrapper; first | (rw [if_pos (by decide +kernel)]; kernel_rfl) | (rw [if_neg (by decide +kernel)]; exact ⟨rfl, rfl⟩))
    (fun os started H enc _ => cells_lifted os started H enc)
end Go.Proofs.Ytpbghgmaikmneaa
