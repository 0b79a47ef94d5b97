/-
  HeapWeak: a tree from which points were dropped tells what one tells that was built without them, in whichever order; what was dropped is not there to be dropped again; over any tree that tells three sides.
-/
import Derived.Test.YtajpboclicnopaaGreatMHb
namespace Go.Proofs.YtajpboclicnopaaGreat.Hp
open Go.ChangeShapes Go.WideShapes Go.ChangeAt Go.RowKit Go.Joins
theorem lit_own (W : World) (s : S3) (t : TypeId) : (W.alloc (.cells (tvs s).toArray t)).ownsRow W.heap.size t 3 (.slice (some ⟨W.heap.size, 0, none⟩) 1 1) 1 (tvs s) :=
  ⟨rfl, .inr ⟨W.heap.size, 1, (tvs s).toArray, rfl, Nat.le_refl _, heap_alloc_new W _, Nat.le_refl _, by decide, rfl, by simp [tvs]⟩⟩
/-- those of the first k that are not dropped -/
def lf (L : List S3) (D : List Bool) : Nat → List S3
  | 0 => []
  | k + 1 => lf L D k ++ (match L[k]? with | some s => if D.getD k false then [] else [s] | none => [])
theorem lf_keep {L : List S3} {D : List Bool} {k : Nat} {s : S3} (e : L[k]? = some s) (h : D.getD k false = false) : lf L D (k + 1) = lf L D k ++ [s] := by simp only [lf, e, h]; rfl
theorem lf_gone {L : List S3} {D : List Bool} {k : Nat} {s : S3} (e : L[k]? = some s) (h : D.getD k false = true) : lf L D (k + 1) = lf L D k := by simp only [lf, e, h, if_true, List.append_nil]
theorem lf_sub (L : List S3) (D : List Bool) : ∀ k, (lf L D k).Sublist (L.take k) := by
  intro k
  induction k with
  | zero => simp [lf]
  | succ k ih =>
    rw [List.take_add_one]
    unfold lf
    refine List.Sublist.append ih ?_
    cases L[k]? with
    | none => exact List.Sublist.refl _
    | some s =>
      simp only [Option.toList]
      split
      · simp
      · exact List.Sublist.refl _
theorem lf_len (L : List S3) (D : List Bool) (k : Nat) : (lf L D k).length ≤ k := Nat.le_trans (lf_sub L D k).length_le (by simp; omega)
/-- those that are there still, as the first k have been gone through -/
def at8 (L : List S3) (D : List Bool) (k : Nat) : List S3 := lf L D k ++ L.drop k
theorem at8_split {L : List S3} {k : Nat} {s : S3} (e : L[k]? = some s) : L.drop k = s :: L.drop (k + 1) := by
  obtain ⟨h1, h2⟩ := List.getElem?_eq_some_iff.1 e
  rw [List.drop_eq_getElem_cons h1, h2]
theorem at8_keep {L : List S3} {D : List Bool} {k : Nat} {s : S3} (e : L[k]? = some s) (h : D.getD k false = false) : at8 L D (k + 1) = at8 L D k := by
  unfold at8
  rw [lf_keep e h, at8_split e]
  simp
theorem at8_gone {L : List S3} {D : List Bool} {k : Nat} {s : S3} (hL : Rg L) (e : L[k]? = some s) (h : D.getD k false = true) : s ∈ at8 L D k ∧ drp (at8 L D k) s = at8 L D (k + 1) := by
  have h1 := at8_split e
  have h2 := hL.once
  have h3 : L = L.take k ++ s :: L.drop (k + 1) := by rw [← h1, List.take_append_drop]
  rw [h3] at h2
  obtain ⟨h4, h5, h6⟩ := List.nodup_append.1 h2
  obtain ⟨h7, h8⟩ := List.nodup_cons.1 h5
  have h9 : s ∉ lf L D k := fun hm => h6 s ((lf_sub L D k).subset hm) s List.mem_cons_self rfl
  unfold at8
  constructor
  · rw [h1]; simp
  · rw [lf_gone e h, h1]
    unfold drp
    rw [List.filter_append, List.filter_cons_of_neg (by simp)]
    have h10 : List.filter (fun y => decide (y ≠ s)) (lf L D k) = lf L D k := drp_not h9
    have h11 : List.filter (fun y => decide (y ≠ s)) (L.drop (k + 1)) = L.drop (k + 1) := drp_not h7
    rw [h10, h11]
theorem lf_rg {L : List S3} {D : List Bool} (hL : Rg L) (k : Nat) : Rg (lf L D k) := Rg.sub ((lf_sub L D k).trans (List.take_sublist _ _)) hL
set_option maxRecDepth 100000 in
set_option maxHeartbeats 12800000 in
theorem weak_walk {TS : World → Value → Nat → List Nat → List S3 → Prop} (C : HeapC TS) (w : World) (p q qd : Option Addr) (c d cd : Nat) (L : List S3) (xs : List S3) (D : List Bool) (hx : TsS w p L) (hc : L.length ≤ c) (hp : p = none → c = 0) (hw : ∀ s ∈ L, Wf3 s) (hxs : UsS w q xs) (hd : xs.length ≤ d) (hwx : ∀ x ∈ xs, WfU x) (hD : YS w qd D) :
    Calls Tryz.prog 8 #[.slice p L.length c, .slice q xs.length d, .slice qd D.length cd] w fun e w' => e = .returned (.bool true) ∧ Below w.heap.size w w' := by
  have HAW := Lib.hid (awake_any C)
  by_cases hbig : L.length ≤ 80
  · have hbz : ¬ (80 : Int) < L.length := by omega
    have HX := Lib.hid hx
    have HBU := Lib.hid (C.build w p c L hx (by omega) hc hp hw)
    have HWF := Lib.hid hw
    have HXS := Lib.hid hxs
    have HDD := Lib.hid hD
    have HWX := Lib.hid hwx
    obtain ⟨m, hm⟩ : ∃ m, m = L.length := ⟨_, rfl⟩
    have HM := Lib.hid hm
    rw [← hm] at HBU hbz hbig ⊢
    obtain ⟨h20, hh20⟩ : ∃ h, h = min xs.length 12 := ⟨_, rfl⟩
    have hmin := fun X ty => min12 X ty xs.length (h20 : Int) (by rw [hh20])
    have hsl := fun X => slU_to X q xs.length d h20 (by omega)
    have HMIN := Lib.hid hmin
    have HSL := Lib.hid hsl
    have HH := Lib.hid (show h20 ≤ xs.length by omega)
    have hh8 : h20 ≤ 12 := by omega
    obtain ⟨nd, hnd⟩ : ∃ nd, nd = D.length := ⟨_, rfl⟩
    have HND := Lib.hid hnd
    rw [← hnd]
    clear hx hc hp hw hm hxs hd hwx hD hh20 hmin hsl hnd
    obtain ⟨xl, hxl⟩ : ∃ l, l = xs.length := ⟨_, rfl⟩
    have HXL := Lib.hid hxl
    rw [← hxl] at HMIN HSL HH ⊢
    clear hxl
    by_cases hrg : Rg L
    · go_enter Tryz.func8, Tryz.ntmps8
      go_wp2_with (go_at_call 10; (with_reducible refine HBU.out.mono ?_); rintro e w1 ⟨hb, hor⟩; rcases hor with ⟨-, v, S, rfl, hT, hS⟩ | ⟨hn, -⟩; rotate_left; (exact absurd hrg hn); have HT := Lib.hid hT; have HB := Lib.hid hb; have HSS := Lib.hid hS; clear hb hT hS)
      have HRG := Lib.hid hrg
      have HT0 : Hid (TS w1 v L.length S (at8 L D 0)) := Lib.hid (by unfold at8; rw [List.drop_zero]; exact HT.out)
      clear HT HBU hrg
      go_loopw [9, 34] (fun v9 v34 wr => ∃ (k : Nat) (S : List Nat), k ≤ m ∧ v34 = .int .i64 k ∧ Hid (wr.ownsRow w.heap.size 34 3 v9 (lf L D k).length (flatT (lf L D k).reverse)) ∧ Hid (TS wr v L.length S (at8 L D k)) ∧ Hid (∀ b ∈ S, w.heap.size ≤ b) ∧ Hid (∀ b, v9.ownBlock = some b → b ∉ S) ∧ Hid (Below w.heap.size w wr)) (fun _ i _ => m - (intOf i).toNat)
      case atStart => exact ⟨0, S, Nat.zero_le _, rfl, Lib.hid (World.ownsRow_nil _ _ _ _), HT0, HSS, Lib.hid (fun b e => by cases e), HB⟩
      case round =>
        clear HT0 HSS HB
        obtain ⟨k, S, hk, rfl, HR, HT, HSS, HOW, HB⟩ := hrel
        by_cases hlt : k < m
        · have hltz : (k : Int) < m := by omega
          obtain ⟨s, hse⟩ : ∃ s, L[k]? = some s := ⟨_, List.getElem?_eq_getElem (by have := HM.out; omega)⟩
          obtain ⟨b, off, rfl, h1⟩ := (HX.out.keep HB.out).at hse
          have n0 := h1.c0
          have n1 := h1.c1
          have n2 := h1.c2
          have HSE := Lib.hid hse
          have HWS := Lib.hid (HWF.out s (List.mem_of_getElem? hse))
          have hlf := lf_len L D k
          obtain ⟨-, pu, cu, hu9, hts9, hpc9, -⟩ := row_ts HR.out
          have HU9 := Lib.hid hu9
          have hsrc9 := TsS.src hts9 (fun e => (hpc9 e).1)
          rw [List.length_reverse] at hsrc9
          obtain ⟨W, hW⟩ : ∃ W, W = wr.alloc (.cells (tvs s).toArray 34) := ⟨_, rfl⟩
          have hWN := T1.new wr s 34
          have hO0 : Off [] wr W := by rw [hW]; exact (Off.refl _ wr).all _
          rw [← hW] at hWN
          have hTW := C.keep HT.out hO0 (by simp)
          have hlies := C.lies HT.out
          have HLI := Lib.hid hlies
          have HRW := Lib.hid (show W.ownsRow w.heap.size 34 3 u9 (lf L D k).length (flatT (lf L D k).reverse) by rw [hW]; exact HR.out.alloc _)
          have HSRC9 := Lib.hid (show Src W pu (lf L D k).length cu (flatT (lf L D k).reverse) by rw [hW]; exact hsrc9.keep ((Below.refl _ wr).alloc (Nat.le_refl _) _))
          have HBW := Lib.hid (show Below w.heap.size w W by rw [hW]; exact HB.out.alloc HB.out.size _)
          have hWs : W.heap.size = wr.heap.size + 1 := by rw [hW]; simp
          have m0 := hWN.c0
          have m1 := hWN.c1
          have m2 := hWN.c2
          simp only [Nat.zero_add] at m0 m1 m2
          have HWN := Lib.hid hWN
          have HTW := Lib.hid hTW
          have HWS2 := Lib.hid hWs
          have HROW := Lib.hid (fun b (e : u9.ownBlock = some b) => (HR.out.lt b e).2)
          have hdk : k < nd ∨ nd ≤ k := by omega
          obtain ⟨lo, hh, id⟩ := s
          unfold tvs at hW
          have HW := Lib.hid hW
          clear hW hWN hO0 hTW hlies hWs hse h1 HR HT hu9 hts9 hpc9 hsrc9
          simp only at n0 n1 n2 m0 m1 m2
          by_cases hgo : k < nd ∧ D.getD k false = true
          · obtain ⟨hkn, hdt⟩ := hgo
            have hknz : ¬ (nd : Int) ≤ k := by omega
            have hknz2 : (k : Int) < nd := by omega
            have hde : D[k]? = some true := by
              have h1 : k < D.length := by have := HND.out; omega
              rw [List.getD_eq_getElem?_getD, List.getElem?_eq_getElem h1] at hdt
              rw [List.getElem?_eq_getElem h1]
              exact congrArg some hdt
            rcases HDD.out with h0 | ⟨b3, o3, rfl, h3⟩
            · rw [h0] at hde; simp at hde
            · have cd0 : W.cell? ⟨b3, o3 + k, none⟩ = some (.bool true) := (HBW.out.cell (World.block_lt_of_cell? w _ (h3 k true hde))).trans (h3 k true hde)
              have hgone := at8_gone HRG.out HSE.out hdt
              have hD1 := C.drop (lo, hh, id) HTW.out HWS.out
              rw [decide_eq_true hgone.1, hgone.2] at hD1
              have HD1 := Lib.hid hD1
              have HD2 := Lib.hid (fun X S (h : TS X v L.length S (at8 L D (k + 1))) => by
                have := C.drop (lo, hh, id) h HWS.out
                have hn : ((lo, hh, id) : S3) ∉ at8 L D (k + 1) := by rw [← hgone.2]; exact fun h => (mem_drp.1 h).2 rfl
                rw [decide_eq_false hn, drp_not hn] at this
                exact this)
              have HLG := Lib.hid (lf_gone HSE.out hdt)
              unfold tv at HD1 HD2
              clear hgone hD1 hde h3
              go_upto_region 10 with fail
              rw [← HW.out]
              clear HW n0 n1 n2
              go_wp2_with (first
                | (go_at_call 15; (with_reducible refine HD1.out.mono ?_); rintro e w3 ⟨rfl, S2, hT, hO, hS2⟩
                   have HT := Lib.hid hT
                   have hbx : wr.heap.size ∉ S := fun h => by have := HLI.out _ h; omega
                   have hn3 := HWN.out.off hO hbx
                   have j0 := hn3.c0
                   have j1 := hn3.c1
                   have j2 := hn3.c2
                   simp only [Nat.zero_add] at j0 j1 j2
                   have HR3 := Lib.hid (row_at (base' := w.heap.size) HRW.out (fun b e => ⟨hO.block b (HRW.out.lt b e).2 (HOW.out b e), (HRW.out.lt b e).1⟩))
                   have HB3 := Lib.hid (HBW.out.trans (hO.below (N := w.heap.size) HBW.out.size HSS.out))
                   have HSS3 := Lib.hid (show ∀ b ∈ S2, w.heap.size ≤ b from fun b hb => (hS2 b hb).elim (HSS.out b) (Nat.le_trans HBW.out.size))
                   have HOW3 := Lib.hid (show ∀ b, u9.ownBlock = some b → b ∉ S2 from fun b e hb => (hS2 b hb).elim (HOW.out b e) (fun h => by have := (HRW.out.lt b e).2; omega))
                   clear hT hO hS2 hn3)
                | (go_at_call 15; (with_reducible refine (HD2.out _ _ HT.out).mono ?_); rintro e w4 ⟨rfl, S4, hT, hO, hS2⟩
                   have HT4 := Lib.hid hT
                   have HR4 := Lib.hid (row_at (base' := w.heap.size) HR3.out (fun b e => ⟨hO.block b (HR3.out.lt b e).2 (HOW3.out b e), (HR3.out.lt b e).1⟩))
                   have HB4 := Lib.hid (HB3.out.trans (hO.below (N := w.heap.size) HB3.out.size HSS3.out))
                   have HSS4 := Lib.hid (show ∀ b ∈ S4, w.heap.size ≤ b from fun b hb => (hS2 b hb).elim (HSS3.out b) (Nat.le_trans HB3.out.size))
                   have HOW4 := Lib.hid (show ∀ b, u9.ownBlock = some b → b ∉ S4 from fun b e hb => (hS2 b hb).elim (HOW3.out b e) (fun h => by have := (HR3.out.lt b e).2; omega))
                   clear hT hO hS2))
              go_roundw
              case rel => exact ⟨k + 1, S4, by omega, by go_num, Lib.hid (by rw [HLG.out]; exact HR4.out), HT4, HSS4, HOW4, HB4⟩
              case measure => simp [intOf]; omega
          · by_cases hkn : k < nd
            · have hknz : ¬ (nd : Int) ≤ k := by omega
              have hknz2 : (k : Int) < nd := by omega
              have HDF : D.getD k false = false := by
                cases h : D.getD k false with
                | false => rfl
                | true => exact absurd ⟨hkn, h⟩ hgo
              have hde : D[k]? = some false := by
                have h1 : k < D.length := by have := HND.out; omega
                have h2 := HDF
                rw [List.getD_eq_getElem?_getD, List.getElem?_eq_getElem h1] at h2
                rw [List.getElem?_eq_getElem h1]
                exact congrArg some h2
              rcases HDD.out with h0 | ⟨b3, o3, rfl, h3⟩
              · rw [h0] at hde; simp at hde
              · have cd0 : W.cell? ⟨b3, o3 + k, none⟩ = some (.bool false) := (HBW.out.cell (World.block_lt_of_cell? w _ (h3 k false hde))).trans (h3 k false hde)
                clear hde h3 hgo
                have hdf : D.getD k false = false := HDF
                have HLK := Lib.hid (lf_keep HSE.out hdf)
                have HAK := Lib.hid (at8_keep HSE.out hdf)
                clear hdf HDF
                go_upto_region 10 with fail
                rw [← HW.out]
                clear HW n0 n1 n2
                go_wp2_with (at_builtin; refine wpList_list Tryz.info34 rfl (by decide) (by decide) Tryz.underlying22 _ rfl (.tmp 51) (.tmp 52) rfl W.heap.size (.slice (some ⟨W.heap.size, 0, none⟩) 1 1) 1 (tvs (lo, hh, id)) rfl (lit_own W (lo, hh, id) 34) pu (lf L D k).length cu (flatT (lf L D k).reverse) (by exact HU9.out) (by rw [flatT_len, List.length_reverse]) (HSRC9.out.keep ((Below.refl _ W).alloc (Nat.le_refl _) _)) (flatT_one _) (by omega) (by simp) ?_; intro v' w1 h1 h2 _; have H1 := Lib.hid h1; have HO1 := Lib.hid (((Off.refl [] W).all (.cells (tvs (lo, hh, id)).toArray 34)).grown h2 (fun k e => by cases e; exact Nat.le_refl _)); have HB1 := Lib.hid ((HBW.out.alloc HBW.out.size (.cells (tvs (lo, hh, id)).toArray 34)).grown h2 (by have := HBW.out.size; simp; omega) (fun k e => by cases e; exact HBW.out.size)); clear h1 h2)
                go_roundw
                case rel =>
                  refine ⟨k + 1, S, by omega, by go_num, Lib.hid ?_, Lib.hid (by rw [HAK.out]; exact C.keep HTW.out HO1.out (by simp)), HSS, Lib.hid (fun b e hb => by have := own_geB H1.out b e; have := C.lies HTW.out b hb; omega), HB1⟩
                  have e1 : flatT (lf L D k ++ [(lo, hh, id)]).reverse = tvs (lo, hh, id) ++ flatT (lf L D k).reverse := by rw [List.reverse_append]; rfl
                  have e2 : (lf L D k ++ [(lo, hh, id)]).length = 1 + (lf L D k).length := by rw [List.length_append]; simp; omega
                  rw [HLK.out, e1, e2]
                  exact row_at (base' := w.heap.size) H1.out (fun b e => ⟨rfl, Nat.le_trans HBW.out.size (own_geB H1.out b e)⟩)
                case measure => simp [intOf]; omega

            · have hknz : (nd : Int) ≤ k := by omega
              have HDF : D.getD k false = false := by
                rw [List.getD_eq_getElem?_getD, List.getElem?_eq_none (by have := HND.out; omega)]
                rfl
              clear hgo
              have hdf : D.getD k false = false := HDF
              have HLK := Lib.hid (lf_keep HSE.out hdf)
              have HAK := Lib.hid (at8_keep HSE.out hdf)
              clear hdf HDF
              go_upto_region 10 with fail
              rw [← HW.out]
              clear HW n0 n1 n2
              go_wp2_with (at_builtin; refine wpList_list Tryz.info34 rfl (by decide) (by decide) Tryz.underlying22 _ rfl (.tmp 51) (.tmp 52) rfl W.heap.size (.slice (some ⟨W.heap.size, 0, none⟩) 1 1) 1 (tvs (lo, hh, id)) rfl (lit_own W (lo, hh, id) 34) pu (lf L D k).length cu (flatT (lf L D k).reverse) (by exact HU9.out) (by rw [flatT_len, List.length_reverse]) (HSRC9.out.keep ((Below.refl _ W).alloc (Nat.le_refl _) _)) (flatT_one _) (by omega) (by simp) ?_; intro v' w1 h1 h2 _; have H1 := Lib.hid h1; have HO1 := Lib.hid (((Off.refl [] W).all (.cells (tvs (lo, hh, id)).toArray 34)).grown h2 (fun k e => by cases e; exact Nat.le_refl _)); have HB1 := Lib.hid ((HBW.out.alloc HBW.out.size (.cells (tvs (lo, hh, id)).toArray 34)).grown h2 (by have := HBW.out.size; simp; omega) (fun k e => by cases e; exact HBW.out.size)); clear h1 h2)
              go_roundw
              case rel =>
                refine ⟨k + 1, S, by omega, by go_num, Lib.hid ?_, Lib.hid (by rw [HAK.out]; exact C.keep HTW.out HO1.out (by simp)), HSS, Lib.hid (fun b e hb => by have := own_geB H1.out b e; have := C.lies HTW.out b hb; omega), HB1⟩
                have e1 : flatT (lf L D k ++ [(lo, hh, id)]).reverse = tvs (lo, hh, id) ++ flatT (lf L D k).reverse := by rw [List.reverse_append]; rfl
                have e2 : (lf L D k ++ [(lo, hh, id)]).length = 1 + (lf L D k).length := by rw [List.length_append]; simp; omega
                rw [HLK.out, e1, e2]
                exact row_at (base' := w.heap.size) H1.out (fun b e => ⟨rfl, Nat.le_trans HBW.out.size (own_geB H1.out b e)⟩)
              case measure => simp [intOf]; omega
        · obtain rfl : k = m := by omega
          have hltz : ¬ (k : Int) < k := by omega
          have hT := HT.out
          have hal : at8 L D k = lf L D k := by unfold at8; rw [List.drop_of_length_le (by have := HM.out; omega), List.append_nil]
          rw [hal] at hT
          obtain ⟨-, p', c', hv, hn, hpc', hc', -⟩ := row_ts HR.out
          subst hv
          have hlf := lf_len L D k
          have hrl := Rg.perm (List.reverse_perm _).symm (lf_rg (D := D) HRG.out k)
          have hwl : ∀ s ∈ (lf L D k).reverse, Wf3 s := fun s hs => HWF.out s (List.mem_of_mem_take ((lf_sub L D k).subset (List.mem_reverse.1 hs)))
          obtain ⟨A, hA⟩ : ∃ A, A = lf L D k := ⟨_, rfl⟩
          rw [← hA] at hT hn hlf hrl hwl hc' ⊢
          have hbv := C.build wr p' c' A.reverse hn (by rw [List.length_reverse]; omega) (by rw [List.length_reverse]; exact hc') (fun e => (hpc' e).1) hwl
          rw [List.length_reverse] at hbv
          have HBV := Lib.hid hbv
          have HT := Lib.hid hT
          have HRL := Lib.hid hrl
          have HLE := Lib.hid (fun X n S v h => C.len (X := X) (v := v) (n := n) (S := S) (A := A) h)
          have hle2 := fun X n S v h => C.len (X := X) (v := v) (n := n) (S := S) (A := A.reverse) h
          rw [List.length_reverse] at hle2
          have HLE2 := Lib.hid hle2
          have HF := Lib.hid (show ∀ f, (nmS f A).length ≤ 8192 from fun f => Nat.le_trans (nmS_len f A) (by omega))
          have hmin := HMIN.out
          have hsl := HSL.out
          obtain ⟨n, hnn⟩ : ∃ n, n = L.length := ⟨_, rfl⟩
          rw [← hnn] at HT
          clear hA hal hT hn hpc' hc' hlf hrl hwl HR HOW HSS HMIN HSL hnn HX HWF HDD HRG hbv hle2
          generalize hla : A.length = la at *
          clear hla
          go_upto_region 18 with (first
            | (go_at_call 10; (with_reducible refine HBV.out.mono ?_); rintro e w3 ⟨hb, hor⟩; rcases hor with ⟨-, v', S', rfl, hT', -⟩ | ⟨hn, -⟩; rotate_left; (exact absurd HRL.out hn); have HT := Lib.hid (C.bel HT.out hb); have HT2 := Lib.hid hT'; have HB := Lib.hid (HB.out.trans (hb.mono HB.out.size)); clear hb hT')
            | (go_at_call 12; (with_reducible refine (HLE.out _ _ _ _ HT.out).mono ?_); rintro e w4 ⟨rfl, hb⟩; have HT := Lib.hid (C.bel HT.out hb); have HT2 := Lib.hid (C.bel HT2.out hb); have HB := Lib.hid (HB.out.trans (hb.mono HB.out.size)); clear hb)
            | (go_at_call 12; (with_reducible refine (HLE2.out _ _ _ _ HT2.out).mono ?_); rintro e w5 ⟨rfl, hb⟩; have HT := Lib.hid (C.bel HT.out hb); have HT2 := Lib.hid (C.bel HT2.out hb); have HB := Lib.hid (HB.out.trans (hb.mono HB.out.size)); clear hb))
          obtain ⟨n', hn'⟩ : ∃ n', n' = A.reverse.length := ⟨_, rfl⟩
          rw [← hn'] at HT2
          have HTx := HT
          have HBx := HB
          clear HBV HLE HLE2 hn'
          go_wp2
          clear hmin hsl
          go_loopw [84] (fun v84 wr => ∃ k : Nat, k ≤ h20 ∧ v84 = .int .i64 k ∧ Hid (TS wr v n S A) ∧ Hid (TS wr v' n' S' A.reverse) ∧ Hid (Below w.heap.size w wr)) (fun i _ => h20 - (intOf i).toNat)
          case atStart => exact ⟨0, Nat.zero_le _, rfl, HTx, HT2, HBx⟩
          case round =>
            clear HT HB HTx HBx HT2
            obtain ⟨k, hk, rfl, HT, HT2, HB⟩ := hrel
            by_cases hlt : k < h20
            · have hltz : (k : Int) < h20 := by omega
              obtain ⟨b, hbe⟩ : ∃ b, xs[k]? = some b := ⟨_, List.getElem?_eq_getElem (by have := HH.out; have := HXL.out; omega)⟩
              obtain ⟨bb, off, rfl, h1⟩ := (HXS.out.keep HB.out).at hbe
              have HWB := Lib.hid (HWX.out b (List.mem_of_getElem? hbe))
              have n0 := h1.c0
              have n1 := h1.c1
              have n2 := h1.c2
              obtain ⟨W, hW⟩ : ∃ W, W = wr.alloc (.cells (uvs b).toArray 42) := ⟨_, rfl⟩
              have HN := Lib.hid (show U1 W wr.heap.size 0 b by rw [hW]; exact U1.new wr b _)
              have HBW := Lib.hid (show Below w.heap.size w W by rw [hW]; exact HB.out.alloc HB.out.size _)
              have HTW := Lib.hid (show TS W v n S A by rw [hW]; exact C.bel HT.out ((Below.refl _ wr).alloc (Nat.le_refl _) _))
              have HTW2 := Lib.hid (show TS W v' n' S' A.reverse by rw [hW]; exact C.bel HT2.out ((Below.refl _ wr).alloc (Nat.le_refl _) _))
              have HLT := Lib.hid HN.out.lt
              have HS1 := Lib.hid (fun X (h : TS X v n S A) => C.three b.1 b.2.1 b.2.2 h HWB.out.1 HWB.out.2.1 HWB.out.2.2)
              have hS2 := fun X (h : TS X v' n' S' A.reverse) => C.three b.1 b.2.1 b.2.2 h HWB.out.1 HWB.out.2.1 HWB.out.2.2
              rw [nmS_perm (List.reverse_perm A)] at hS2
              have HS2 := Lib.hid hS2
              have HI : Hid (∀ X q1 c1 q2 c2, NS X q1 .u32 (nmS (thB b.1 b.2.1 b.2.2) A) → NS X q2 .u32 (nmS (thB b.1 b.2.1 b.2.2) A) → Calls Tryz.prog 22 #[.slice q1 (nmS (thB b.1 b.2.1 b.2.2) A).length c1, .slice q2 (nmS (thB b.1 b.2.1 b.2.2) A).length c2] X fun e w' => e = .returned (.bool true) ∧ Below X.heap.size X w') := Lib.hid (fun X q1 c1 q2 c2 h1 h2 => by
                refine (sameIDs_any X q1 q2 c1 c2 _ _ h1 h2 (HF.out _)).mono ?_
                rintro e w' ⟨rfl, hb⟩
                exact ⟨by simp, hb⟩)
              clear hbe h1 HT HB HT2 hS2
              obtain ⟨x1, x2, y1⟩ := b
              unfold uvs at hW
              simp only at n0 n1 n2 HS1 HS2 HI
              have HW1 := Lib.hid hW
              clear hW
              generalize nmS (thB x1 x2 y1) A = Z at *
              have HRU := Lib.hid (show ∀ (Y : World) r, RL Y r Z → ∃ q c, r = .slice q Z.length c ∧ NS Y q .u32 Z from fun Y r h => by obtain ⟨q, c, h1, h2, -⟩ := h; exact ⟨q, c, h1, h2⟩)
              generalize hzl : Z.length = zl at *
              clear hzl
              have m0 := HN.out.c0
              have m1 := HN.out.c1
              have m2 := HN.out.c2
              simp only [Nat.zero_add] at m0 m1 m2
              go_upto_region 21 with fail
              rw [← HW1.out]
              clear HW1 n0 n1 n2
              go_wp2_with (first
                | (go_at_call 17; (with_reducible refine (HS1.out _ HTW.out).mono ?_); rintro e w5 ⟨⟨r, t, rfl, hr, -, -⟩, hb⟩; obtain ⟨q1, c1, rfl, hq⟩ := HRU.out _ _ hr; have HQ1 := Lib.hid hq; have HT5 := Lib.hid (C.bel HTW.out hb); have HT52 := Lib.hid (C.bel HTW2.out hb); have HN5 := Lib.hid (HN.out.keep hb HLT.out); have k0 := HN5.out.c0; have k1 := HN5.out.c1; have k2' := HN5.out.c2; simp only [Nat.zero_add] at k0 k1 k2'; have HB5 := Lib.hid (HBW.out.trans (hb.mono HBW.out.size)); clear hb hr hq)
                | (go_at_call 17; (with_reducible refine (HS2.out _ HT52.out).mono ?_); rintro e w6 ⟨⟨r, t2, rfl, hr, -, -⟩, hb⟩; obtain ⟨q2, c2, rfl, hq⟩ := HRU.out _ _ hr; have HQ2 := Lib.hid hq; have HQ1 := Lib.hid (HQ1.out.keep hb); have HT6 := Lib.hid (C.bel HT5.out hb); have HT62 := Lib.hid (C.bel HT52.out hb); have HB6 := Lib.hid (HB5.out.trans (hb.mono HB5.out.size)); clear hb hr hq)
                | (go_at_call 22; (with_reducible refine (HI.out _ _ _ _ _ HQ1.out HQ2.out).mono ?_); rintro e w8 ⟨rfl, hb⟩; have HT8 := Lib.hid (C.bel HT6.out hb); have HT82 := Lib.hid (C.bel HT62.out hb); have HB8 := Lib.hid (HB6.out.trans (hb.mono HB6.out.size)); clear hb))
              go_roundw
              case rel => exact ⟨k + 1, by omega, by go_num, HT8, HT82, HB8⟩
              case measure => simp [intOf]; omega
            · have hltz : ¬ (k : Int) < h20 := by omega
              go_wp2_with (go_at_call 9; (with_reducible refine (HAW.out _).mono ?_); rintro e w9 ⟨rfl, hb⟩; have HB := Lib.hid (HB.out.trans (hb.mono HB.out.size)); clear hb)
              go_ret
              exact ⟨rfl, HB.out⟩
    · go_enter Tryz.func8, Tryz.ntmps8
      go_wp2_with (first
        | (go_at_call 10; (with_reducible refine HBU.out.mono ?_); rintro e w1 ⟨hb, hor⟩; rcases hor with ⟨hn, -⟩ | ⟨-, v, S, rfl, -, -⟩; (exact absurd hn hrg); have HB := Lib.hid hb; clear hb)
        | (go_at_call 9; (with_reducible refine (HAW.out _).mono ?_); rintro e w9 ⟨rfl, hb⟩; have HB := Lib.hid (HB.out.trans (hb.mono HB.out.size)); clear hb))
      go_ret
      exact ⟨rfl, HB.out⟩
  · have hbz : (80 : Int) < L.length := by omega
    clear hx hxs hc hw hD
    generalize L.length = m at *
    go_enter Tryz.func8, Tryz.ntmps8
    go_wp2_with (go_at_call 9; (with_reducible refine (HAW.out _).mono ?_); rintro e w9 ⟨rfl, hb⟩; have HB := Lib.hid hb; clear hb)
    go_ret
    exact ⟨rfl, HB.out⟩
end Go.Proofs.YtajpboclicnopaaGreat.Hp
