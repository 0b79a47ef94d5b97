/-
  CascadeWeak: a tree from which points were dropped, in whichever order, tells what one tells that was built without them; over any tree.
-/
import Derived.Test.YtfcpfffgodljeaaGreatCd
namespace Go.Proofs.YtfcpfffgodljeaaGreat.Ca
open Go.ChangeShapes Go.WideShapes Go.ChangeAt Go.RowKit Go.Joins

/-- those of the first k that are not dropped -/
def lf (L : List S3) (D : List Bool) : Nat → List S3
  | 0 => []
  | k + 1 => lf L D k ++ (match L[k]? with | some s => if D.getD k false then [] else [s] | none => [])
theorem lf_keep {L : List S3} {D : List Bool} {k : Nat} {s : S3} (e : L[k]? = some s) (h : D.getD k false = false) : lf L D (k + 1) = lf L D k ++ [s] := by simp only [lf, e, h]; rfl
theorem lf_gone {L : List S3} {D : List Bool} {k : Nat} {s : S3} (e : L[k]? = some s) (h : D.getD k false = true) : lf L D (k + 1) = lf L D k := by simp only [lf, e, h, if_true, List.append_nil]
theorem lf_sub (L : List S3) (D : List Bool) : ∀ k, (lf L D k).Sublist (L.take k) := by
  intro k
  induction k with
  | zero => simp [lf]
  | succ k ih =>
    rw [List.take_add_one]
    unfold lf
    refine List.Sublist.append ih ?_
    cases L[k]? with
    | none => exact List.Sublist.refl _
    | some s =>
      simp only [Option.toList]
      split
      · simp
      · exact List.Sublist.refl _
theorem lf_len (L : List S3) (D : List Bool) (k : Nat) : (lf L D k).length ≤ k := Nat.le_trans (lf_sub L D k).length_le (by simp; omega)
/-- those that are there still, as the first k have been gone through -/
def at8 (L : List S3) (D : List Bool) (k : Nat) : List S3 := lf L D k ++ L.drop k
theorem at8_split {L : List S3} {k : Nat} {s : S3} (e : L[k]? = some s) : L.drop k = s :: L.drop (k + 1) := by
  obtain ⟨h1, h2⟩ := List.getElem?_eq_some_iff.1 e
  rw [List.drop_eq_getElem_cons h1, h2]
theorem at8_keep {L : List S3} {D : List Bool} {k : Nat} {s : S3} (e : L[k]? = some s) (h : D.getD k false = false) : at8 L D (k + 1) = at8 L D k := by
  unfold at8
  rw [lf_keep e h, at8_split e]
  simp
theorem at8_gone {L : List S3} {D : List Bool} {k : Nat} {s : S3} (hL : Rg L) (e : L[k]? = some s) (h : D.getD k false = true) : s ∈ at8 L D k ∧ drp (at8 L D k) s = at8 L D (k + 1) := by
  have h1 := at8_split e
  have h2 := hL.once
  have h3 : L = L.take k ++ s :: L.drop (k + 1) := by rw [← h1, List.take_append_drop]
  rw [h3] at h2
  obtain ⟨h4, h5, h6⟩ := List.nodup_append.1 h2
  obtain ⟨h7, h8⟩ := List.nodup_cons.1 h5
  have h9 : s ∉ lf L D k := fun hm => h6 s ((lf_sub L D k).subset hm) s List.mem_cons_self rfl
  unfold at8
  constructor
  · rw [h1]; simp
  · rw [lf_gone e h, h1]
    unfold drp
    rw [List.filter_append, List.filter_cons_of_neg (by simp)]
    have h10 : List.filter (fun y => decide (y ≠ s)) (lf L D k) = lf L D k := drp_not h9
    have h11 : List.filter (fun y => decide (y ≠ s)) (L.drop (k + 1)) = L.drop (k + 1) := drp_not h7
    rw [h10, h11]
theorem lf_rg {L : List S3} {D : List Bool} (hL : Rg L) (k : Nat) : Rg (lf L D k) := Rg.sub ((lf_sub L D k).trans (List.take_sublist _ _)) hL

theorem ys_at {w : World} {p : Option Addr} {ys : List Bool} (h : YS w p ys) {j : Nat} {y : Bool} (e : ys[j]? = some y) : ∃ b off, p = some ⟨b, off, none⟩ ∧ w.cell? ⟨b, off + j, none⟩ = some (.bool y) := by
  rcases h with rfl | ⟨b, off, hp, h⟩
  · simp at e
  · exact ⟨b, off, hp, h j y e⟩
/-- those of these places that are not dropped -/
def kp (L : List S3) (D : List Bool) (l : List Nat) : List S3 := l.filterMap (fun j => if D.getD j false then none else L[j]?)
theorem kp_cons (L : List S3) (D : List Bool) (j : Nat) (l : List Nat) : kp L D (j :: l) = (if D.getD j false then [] else (L[j]?).toList) ++ kp L D l := by
  unfold kp
  have e : ∀ o : Option S3, (if D.getD j false then none else L[j]?) = o → List.filterMap (fun j => if D.getD j false then none else L[j]?) (j :: l) = o.toList ++ List.filterMap (fun j => if D.getD j false then none else L[j]?) l := fun o h => by
    rw [List.filterMap_cons, h]
    cases o <;> rfl
  rw [e _ rfl]
  congr 1
  by_cases h : D.getD j false = true
  · rw [if_pos h, if_pos h]
    rfl
  · rw [if_neg h, if_neg h]
theorem kp_app (L : List S3) (D : List Bool) (l l' : List Nat) : kp L D (l ++ l') = kp L D l ++ kp L D l' := by simp [kp]
theorem kp_lf (L : List S3) (D : List Bool) : ∀ k, kp L D (List.range k) = lf L D k := by
  intro k
  induction k with
  | zero => rfl
  | succ k ih =>
    rw [List.range_succ, kp_app, ih, kp_cons]
    show _ = lf L D k ++ (match L[k]? with | some s => if D.getD k false then [] else [s] | none => [])
    congr 1
    rw [show kp L D [] = [] from rfl, List.append_nil]
    cases hk : L[k]? with
    | none => split <;> rfl
    | some s => rfl
/-- those that are there still, as the last i have been gone through -/
def ut (L : List S3) (D : List Bool) (i : Nat) : List S3 := L.take (L.length - i) ++ kp L D (List.range' (L.length - i) i)
theorem ut_zero (L : List S3) (D : List Bool) : ut L D 0 = L := by unfold ut; simp [kp]
theorem ut_all (L : List S3) (D : List Bool) : ut L D L.length = lf L D L.length := by
  unfold ut
  rw [Nat.sub_self, List.take_zero, List.nil_append, ← kp_lf, List.range_eq_range']
theorem kp_mem {L : List S3} {D : List Bool} {l : List Nat} {s : S3} (h : s ∈ kp L D l) : ∃ j ∈ l, L[j]? = some s := by
  obtain ⟨j, hj, e⟩ := List.mem_filterMap.1 h
  split at e
  · cases e
  · exact ⟨j, hj, e⟩
theorem ut_split {L : List S3} (D : List Bool) {i j : Nat} {s : S3} (hij : i + j + 1 = L.length) (e : L[j]? = some s) : ut L D i = L.take j ++ s :: kp L D (List.range' (j + 1) i) := by
  unfold ut
  rw [show L.length - i = j + 1 by omega, List.take_add_one, e]
  simp
theorem ut_keep {L : List S3} {D : List Bool} {i j : Nat} {s : S3} (hij : i + j + 1 = L.length) (e : L[j]? = some s) (h : D.getD j false = false) : ut L D (i + 1) = ut L D i := by
  rw [ut_split D hij e]
  unfold ut
  rw [show L.length - (i + 1) = j by omega, List.range'_succ, kp_cons, h, e]
  simp
theorem ut_gone {L : List S3} {D : List Bool} {i j : Nat} {s : S3} (hL : Rg L) (hij : i + j + 1 = L.length) (e : L[j]? = some s) (h : D.getD j false = true) : s ∈ ut L D i ∧ drp (ut L D i) s = ut L D (i + 1) := by
  have h2 := hL.once
  have hne : ∀ k, L[k]? = some s → k = j := fun k hk => (List.getElem?_inj (List.getElem?_eq_some_iff.1 hk).1 h2).1 (hk.trans e.symm)
  have h9 : s ∉ L.take j := fun hm => by
    obtain ⟨k, hk⟩ := List.mem_iff_getElem?.1 hm
    rw [List.getElem?_take] at hk
    split at hk
    · have := hne k hk; omega
    · cases hk
  have h8 : s ∉ kp L D (List.range' (j + 1) i) := fun hm => by
    obtain ⟨k, hk, hk2⟩ := kp_mem hm
    have := hne k hk2
    have := (List.mem_range'_1.1 hk).1
    omega
  rw [ut_split D hij e]
  refine ⟨by simp, ?_⟩
  unfold drp
  rw [List.filter_append, List.filter_cons_of_neg (by simp)]
  have h10 : List.filter (fun y => decide (y ≠ s)) (L.take j) = L.take j := drp_not h9
  have h11 : List.filter (fun y => decide (y ≠ s)) (kp L D (List.range' (j + 1) i)) = kp L D (List.range' (j + 1) i) := drp_not h8
  rw [h10, h11]
  unfold ut
  rw [show L.length - (i + 1) = j by omega, List.range'_succ, kp_cons, h]
  simp

set_option maxRecDepth 100000 in
set_option maxHeartbeats 25600000 in
theorem weak_walk {TS : World → Value → Nat → List Nat → List S3 → Prop} (C : CascC TS) (w : World) (p q qd : Option Addr) (c d cd : Nat) (L : List S3) (xs : List B5) (D : List Bool) (hx : TsS w p L) (hc : L.length ≤ c) (hp : p = none → c = 0) (hw : ∀ s ∈ L, Wf3 s) (hxs : BsS w q xs) (hd : xs.length ≤ d) (hwx : ∀ x ∈ xs, Wf5 x) (hD : YS w qd D) :
    Calls Tryz.prog 13 #[.slice p L.length c, .slice q xs.length d, .slice qd D.length cd] w fun e w' => e = .returned (.bool true) ∧ Below w.heap.size w w' := by
  have HAW := Lib.hid (awake_any C)
  by_cases hbig : L.length ≤ 80
  · have hbz : ¬ (80 : Int) < L.length := by omega
    have HX := Lib.hid hx
    have HBU := Lib.hid (fun X (hX : Below w.heap.size w X) => C.build X p c L (hx.keep hX) (by omega) hc hp hw)
    have HWF := Lib.hid hw
    have HXS := Lib.hid hxs
    have HDD := Lib.hid hD
    have HWX := Lib.hid hwx
    obtain ⟨m, hm⟩ : ∃ m, m = L.length := ⟨_, rfl⟩
    have HM := Lib.hid hm
    rw [← hm] at HBU hbz hbig ⊢
    obtain ⟨h12, hh12⟩ : ∃ h, h = min xs.length 12 := ⟨_, rfl⟩
    have HMIN := Lib.hid (fun X ty => min12 X ty xs.length (h12 : Int) (by rw [hh12]))
    have HSL := Lib.hid (fun X => slX_to X q xs.length d h12 (by omega))
    have HH := Lib.hid (show h12 ≤ xs.length by omega)
    have hh8 : h12 ≤ 12 := by omega
    obtain ⟨nd, hnd⟩ : ∃ nd, nd = D.length := ⟨_, rfl⟩
    have HND := Lib.hid hnd
    rw [← hnd]
    clear hx hc hp hw hm hxs hd hwx hD hh12 hnd
    obtain ⟨xl, hxl⟩ : ∃ l, l = xs.length := ⟨_, rfl⟩
    have HXL := Lib.hid hxl
    rw [← hxl] at HMIN HSL HH ⊢
    clear hxl
    by_cases hrg : Rg L
    · have HRG := Lib.hid hrg
      clear hrg
      go_enter Tryz.func13, Tryz.ntmps13
      go_wp2_with (first
        | (go_at_call 29; (with_reducible refine (HBU.out _ HB1.out).mono ?_); rintro e w2 ⟨hb, hor⟩; rcases hor with ⟨-, u, Su, rfl, hU, hSu⟩ | ⟨hn, -⟩; rotate_left; (exact absurd HRG.out hn); have HU := Lib.hid hU; have HT := Lib.hid (C.bel HT1.out hb); have HDJ := Lib.hid (show ∀ b ∈ S, b ∉ Su from fun b h1 h2 => by have := C.lies HT1.out b h1; have := hSu b h2; omega); have HSU := Lib.hid (show ∀ b ∈ Su, w.heap.size ≤ b from fun b h => Nat.le_trans HB1.out.size (hSu b h)); have HB := Lib.hid (HB1.out.trans (hb.mono HB1.out.size)); clear hb hU hSu)
        | (go_at_call 29; (with_reducible refine (HBU.out _ (Below.refl _ w)).mono ?_); rintro e w1 ⟨hb, hor⟩; rcases hor with ⟨-, v, S, rfl, hT, hS⟩ | ⟨hn, -⟩; rotate_left; (exact absurd HRG.out hn); have HT1 := Lib.hid hT; have HB1 := Lib.hid hb; have HSS := Lib.hid hS; clear hb hT hS))
      have HT0 : Hid (TS w2 v L.length S (at8 L D 0)) := Lib.hid (by unfold at8; rw [List.drop_zero]; exact HT.out)
      have HU0 : Hid (TS w2 u L.length Su (ut L D 0)) := Lib.hid (by rw [ut_zero]; exact HU.out)
      clear HT HU HT1 HB1 HBU
      go_loopw [11, 52] (fun v11 v52 wr => ∃ (k : Nat) (S Su : List Nat), k ≤ m ∧ v52 = .int .i64 k ∧ Hid (wr.ownsRow w.heap.size 34 3 v11 (lf L D k).length (flatT (lf L D k))) ∧ Hid (TS wr v L.length S (at8 L D k)) ∧ Hid (TS wr u L.length Su (ut L D k)) ∧ Hid (∀ b ∈ S, w.heap.size ≤ b) ∧ Hid (∀ b ∈ Su, w.heap.size ≤ b) ∧ Hid (∀ b, v11.ownBlock = some b → b ∉ S) ∧ Hid (∀ b, v11.ownBlock = some b → b ∉ Su) ∧ Hid (∀ b ∈ S, b ∉ Su) ∧ Hid (Below w.heap.size w wr)) (fun _ i _ => m - (intOf i).toNat)
      case atStart => exact ⟨0, S, Su, Nat.zero_le _, rfl, Lib.hid (World.ownsRow_nil _ _ _ _), HT0, HU0, HSS, HSU, Lib.hid (fun b e => by cases e), Lib.hid (fun b e => by cases e), HDJ, HB⟩
      case round =>
        clear HT0 HU0 HSS HSU HDJ HB
        obtain ⟨k, S, Su, hk, rfl, HR, HT, HU, HSS, HSU, HOW, HOU, HDJ, HB⟩ := hrel
        by_cases hlt : k < m
        · have hltz : (k : Int) < m := by omega
          obtain ⟨s, hse⟩ : ∃ s, L[k]? = some s := ⟨_, List.getElem?_eq_getElem (by have := HM.out; omega)⟩
          obtain ⟨b, off, rfl, h1⟩ := (HX.out.keep HB.out).at hse
          have n0 := h1.c0
          have n1 := h1.c1
          have n2 := h1.c2
          have HSE := Lib.hid hse
          have HWS := Lib.hid (HWF.out s (List.mem_of_getElem? hse))
          have hlf := lf_len L D k
          obtain ⟨j, hj⟩ : ∃ j, j = m - 1 - k := ⟨_, rfl⟩
          have hjz : (m : Int) - 1 - (k : Int) = (j : Int) := by omega
          have hjm : (j : Int) < m := by omega
          have HKJ := Lib.hid (show k + j + 1 = L.length by rw [← HM.out]; omega)
          obtain ⟨s', hse'⟩ : ∃ s, L[j]? = some s := ⟨_, List.getElem?_eq_getElem (by have := HKJ.out; omega)⟩
          have HSE' := Lib.hid hse'
          have HWS' := Lib.hid (HWF.out s' (List.mem_of_getElem? hse'))
          obtain ⟨lo, hh, id⟩ := s
          simp only at n0 n1 n2
          clear hse h1 hj hse'
          by_cases hkn : k < nd
          · have hknz : ¬ (nd : Int) ≤ k := by omega
            have hknz2 : (k : Int) < nd := by omega
            cases hdk : D.getD k false with
            | false =>
              have de : D[k]? = some false := by
                have h1 : k < D.length := by have := HND.out; omega
                have h2 := hdk
                rw [List.getD_eq_getElem?_getD, List.getElem?_eq_getElem h1] at h2
                rw [List.getElem?_eq_getElem h1]
                exact congrArg some h2
              obtain ⟨bd, od, ed, cd⟩ := ys_at HDD.out de
              cases ed
              have cdd := (HB.out.cell (World.block_lt_of_cell? w _ cd)).trans cd
              clear de cd
              have HLK := Lib.hid (lf_keep HSE.out hdk)
              have HAK := Lib.hid (at8_keep HSE.out hdk)
              clear hdk
              go_upto_region 15 with (at_builtin; refine wpList_more Tryz.info34 rfl (by decide) (by decide) Tryz.underlying22 _ rfl (.tmp 66) (.tmp 71) rfl u11 (lf L D k).length (flatT (lf L D k)) rfl (row_at (base' := 0) (World.ownsRow.alloc HR.out _) (fun _ _ => ⟨rfl, Nat.zero_le _⟩)) ⟨wr.heap.size, 0, none⟩ 1 1 (tvs (lo, hh, id)) rfl rfl (td_at wr (lo, hh, id) _) (tvs_one _) (by omega) (by decide) ?_; intro g1 c1 w3 h1 h2 h3
                                      have H1 := Lib.hid h1
                                      have HO1 := Lib.hid (((Off.refl u11.ownBlock.toList wr).all (.cells (tvs (lo, hh, id)).toArray 34)).grow h2 (fun k e => .inl (by simp [e])))
                                      have HB1 := Lib.hid ((HB.out.alloc HB.out.size (.cells (tvs (lo, hh, id)).toArray 34)).grown h2 (by have := HB.out.size; simp; omega) (fun k e => (HR.out.lt k e).1))
                                      have HG1 := Lib.hid (show w.heap.size ≤ g1 from h3.elim (fun e => (HR.out.lt _ e).1) (fun e => by have := HB.out.size; simp at e; omega))
                                      have HGS := Lib.hid (show g1 ∉ S from fun hg => h3.elim (fun e => HOW.out _ e hg) (fun e => by have := C.lies HT.out _ hg; simp at e; omega))
                                      have HGU := Lib.hid (show g1 ∉ Su from fun hg => h3.elim (fun e => HOU.out _ e hg) (fun e => by have := C.lies HU.out _ hg; simp at e; omega))
                                      clear h1 h2 h3)
              have HR := Lib.hid (show w3.ownsRow w.heap.size 34 3 (.slice (some ⟨g1, 0, none⟩) ((lf L D k).length + 1) c1) (lf L D (k + 1)).length (flatT (lf L D (k + 1))) by
                rw [HLK.out, flatT_snoc]
                have h := row_at (base' := w.heap.size) H1.out (fun q e => ⟨rfl, by simp [Value.ownBlock] at e; subst e; exact HG1.out⟩)
                simpa using h)
              have HT := Lib.hid (show TS w3 v L.length S (at8 L D (k + 1)) by rw [HAK.out]; exact C.keep HT.out HO1.out (fun b hb hb2 => HOW.out b (by simpa [Option.mem_toList] using hb2) hb))
              have HU := Lib.hid (C.keep HU.out HO1.out (fun b hb hb2 => HOU.out b (by simpa [Option.mem_toList] using hb2) hb))
              have HOW := Lib.hid (show ∀ b, (Value.slice (some ⟨g1, 0, none⟩) ((lf L D k).length + 1) c1).ownBlock = some b → b ∉ S from fun b e => by simp [Value.ownBlock] at e; subst e; exact HGS.out)
              have HOU := Lib.hid (show ∀ b, (Value.slice (some ⟨g1, 0, none⟩) ((lf L D k).length + 1) c1).ownBlock = some b → b ∉ Su from fun b e => by simp [Value.ownBlock] at e; subst e; exact HGU.out)
              have HOU0 := HOU
              have HB := HB1
              have HLI := Lib.hid (C.lies HT.out)
              clear H1 HO1 HB1 HG1 HGS HGU
              by_cases hq : j < nd
              · have hqz : (j : Int) < nd := by omega
                cases hdj : D.getD j false with
                | false =>
                  have HUK := Lib.hid (ut_keep HKJ.out HSE'.out hdj)
                  have HU := Lib.hid (show TS _ u L.length Su (ut L D (k + 1)) by rw [HUK.out]; exact HU.out)
                  have qe : D[j]? = some false := by
                    have h1 : j < D.length := by have := HND.out; omega
                    have h2 := hdj
                    rw [List.getD_eq_getElem?_getD, List.getElem?_eq_getElem h1] at h2
                    rw [List.getElem?_eq_getElem h1]
                    exact congrArg some h2
                  obtain ⟨bq, oq, eq, cq⟩ := ys_at HDD.out qe
                  cases eq
                  have cdq := (HB.out.cell (World.block_lt_of_cell? w _ cq)).trans cq
                  clear qe cq
                  clear hdj
                  go_wp2
                  go_roundw
                  case rel => exact ⟨k + 1, S, Su, by omega, by go_num, HR, HT, HU, HSS, HSU, HOW, HOU, HDJ, HB⟩
                  case measure => simp [intOf]; omega
                | true =>
                  have hgone := ut_gone HRG.out HKJ.out HSE'.out hdj
                  have qe : D[j]? = some true := by
                    have h1 : j < D.length := by have := HND.out; omega
                    have h2 := hdj
                    rw [List.getD_eq_getElem?_getD, List.getElem?_eq_getElem h1] at h2
                    rw [List.getElem?_eq_getElem h1]
                    exact congrArg some h2
                  obtain ⟨bq, oq, eq, cq⟩ := ys_at HDD.out qe
                  cases eq
                  have cdq := (HB.out.cell (World.block_lt_of_cell? w _ cq)).trans cq
                  clear qe cq
                  have hUD := C.drop s' HU.out HWS'.out
                  rw [decide_eq_true hgone.1, hgone.2] at hUD
                  have HUD := Lib.hid hUD
                  obtain ⟨b5, o5, e5, h5⟩ := (HX.out.keep HB.out).at HSE'.out
                  cases e5
                  have p0 := h5.c0
                  have p1 := h5.c1
                  have p2 := h5.c2
                  obtain ⟨lo', hh', id'⟩ := s'
                  unfold tv at HUD
                  simp only at p0 p1 p2
                  clear hgone hUD h5 hdj
                  go_wp2_with (go_at_call 32; (with_reducible refine HUD.out.mono ?_); rintro e w7 ⟨rfl, Su7, hU, hO, hSu⟩
                               have HT := Lib.hid (C.keep HT.out hO HDJ.out)
                               have HDJ := Lib.hid (show ∀ b ∈ S, b ∉ Su7 from fun b h1 h2 => (hSu b h2).elim (HDJ.out b h1) (fun h => by have := HLI.out b h1; omega))
                               have HOU := Lib.hid (show ∀ b, Value.ownBlock _ = some b → b ∉ Su7 from fun b e hb => (hSu b hb).elim (HOU.out b e) (fun h => by have := (HR.out.lt b e).2; omega))
                               have HR := Lib.hid (row_at (base' := w.heap.size) HR.out (fun b e => ⟨hO.block b (HR.out.lt b e).2 (HOU0.out b e), (HR.out.lt b e).1⟩))
                               have HU := Lib.hid hU
                               have HB7 := Lib.hid (HB.out.trans (hO.below (N := w.heap.size) HB.out.size HSU.out))
                               have HSU := Lib.hid (show ∀ b ∈ Su7, w.heap.size ≤ b from fun b hb => (hSu b hb).elim (HSU.out b) (Nat.le_trans HB.out.size))
                               have HB := HB7
                               clear hU hO hSu)
                  go_roundw
                  case rel => exact ⟨k + 1, S, Su7, by omega, by go_num, HR, HT, HU, HSS, HSU, HOW, HOU, HDJ, HB⟩
                  case measure => simp [intOf]; omega
              · have hqz : ¬ (j : Int) < nd := by omega
                have hdj : D.getD j false = false := by
                  rw [List.getD_eq_getElem?_getD, List.getElem?_eq_none (by have := HND.out; omega)]
                  rfl
                have HUK := Lib.hid (ut_keep HKJ.out HSE'.out hdj)
                have HU := Lib.hid (show TS _ u L.length Su (ut L D (k + 1)) by rw [HUK.out]; exact HU.out)
                clear hdj
                go_wp2
                go_roundw
                case rel => exact ⟨k + 1, S, Su, by omega, by go_num, HR, HT, HU, HSS, HSU, HOW, HOU, HDJ, HB⟩
                case measure => simp [intOf]; omega
            | true =>
              have de : D[k]? = some true := by
                have h1 : k < D.length := by have := HND.out; omega
                have h2 := hdk
                rw [List.getD_eq_getElem?_getD, List.getElem?_eq_getElem h1] at h2
                rw [List.getElem?_eq_getElem h1]
                exact congrArg some h2
              obtain ⟨bd, od, ed, cd⟩ := ys_at HDD.out de
              cases ed
              have cdd := (HB.out.cell (World.block_lt_of_cell? w _ cd)).trans cd
              clear de cd
              have hgone := at8_gone HRG.out HSE.out hdk
              have hD1 := C.drop (lo, hh, id) HT.out HWS.out
              rw [decide_eq_true hgone.1, hgone.2] at hD1
              have HD1 := Lib.hid hD1
              have HLG := Lib.hid (lf_gone HSE.out hdk)
              unfold tv at HD1
              clear hgone hD1 hdk
              have HUL := HU
              have HRL := HR
              go_upto_region 15 with (go_at_call 32; (with_reducible refine HD1.out.mono ?_); rintro e w3 ⟨rfl, S3', hT, hO, hS2⟩
                                      have HU := Lib.hid (C.keep HU.out hO (fun b hb hb2 => HDJ.out b hb2 hb))
                                      have HDJ := Lib.hid (show ∀ b ∈ S3', b ∉ Su from fun b h1 h2 => (hS2 b h1).elim (fun h => HDJ.out b h h2) (fun h => by have := C.lies HUL.out b h2; omega))
                                      have HT := Lib.hid hT
                                      have HR := Lib.hid (row_at (base' := w.heap.size) HR.out (fun b e => ⟨hO.block b (HR.out.lt b e).2 (HOW.out b e), (HR.out.lt b e).1⟩))
                                      have HOW := Lib.hid (show ∀ b, u11.ownBlock = some b → b ∉ S3' from fun b e hb => (hS2 b hb).elim (HOW.out b e) (fun h => by have := (HRL.out.lt b e).2; omega))
                                      have HB3 := Lib.hid (HB.out.trans (hO.below (N := w.heap.size) HB.out.size HSS.out))
                                      have HSS := Lib.hid (show ∀ b ∈ S3', w.heap.size ≤ b from fun b hb => (hS2 b hb).elim (HSS.out b) (Nat.le_trans HB.out.size))
                                      have HB := HB3
                                      clear hT hO hS2)
              rw [← HLG.out] at HR
              have HOU0 := HOU
              have HLI := Lib.hid (C.lies HT.out)
              by_cases hq : j < nd
              · have hqz : (j : Int) < nd := by omega
                cases hdj : D.getD j false with
                | false =>
                  have HUK := Lib.hid (ut_keep HKJ.out HSE'.out hdj)
                  have HU := Lib.hid (show TS _ u L.length Su (ut L D (k + 1)) by rw [HUK.out]; exact HU.out)
                  have qe : D[j]? = some false := by
                    have h1 : j < D.length := by have := HND.out; omega
                    have h2 := hdj
                    rw [List.getD_eq_getElem?_getD, List.getElem?_eq_getElem h1] at h2
                    rw [List.getElem?_eq_getElem h1]
                    exact congrArg some h2
                  obtain ⟨bq, oq, eq, cq⟩ := ys_at HDD.out qe
                  cases eq
                  have cdq := (HB.out.cell (World.block_lt_of_cell? w _ cq)).trans cq
                  clear qe cq
                  clear hdj
                  go_wp2
                  go_roundw
                  case rel => exact ⟨k + 1, S3', Su, by omega, by go_num, HR, HT, HU, HSS, HSU, HOW, HOU, HDJ, HB⟩
                  case measure => simp [intOf]; omega
                | true =>
                  have hgone := ut_gone HRG.out HKJ.out HSE'.out hdj
                  have qe : D[j]? = some true := by
                    have h1 : j < D.length := by have := HND.out; omega
                    have h2 := hdj
                    rw [List.getD_eq_getElem?_getD, List.getElem?_eq_getElem h1] at h2
                    rw [List.getElem?_eq_getElem h1]
                    exact congrArg some h2
                  obtain ⟨bq, oq, eq, cq⟩ := ys_at HDD.out qe
                  cases eq
                  have cdq := (HB.out.cell (World.block_lt_of_cell? w _ cq)).trans cq
                  clear qe cq
                  have hUD := C.drop s' HU.out HWS'.out
                  rw [decide_eq_true hgone.1, hgone.2] at hUD
                  have HUD := Lib.hid hUD
                  obtain ⟨b5, o5, e5, h5⟩ := (HX.out.keep HB.out).at HSE'.out
                  cases e5
                  have p0 := h5.c0
                  have p1 := h5.c1
                  have p2 := h5.c2
                  obtain ⟨lo', hh', id'⟩ := s'
                  unfold tv at HUD
                  simp only at p0 p1 p2
                  clear hgone hUD h5 hdj
                  go_wp2_with (go_at_call 32; (with_reducible refine HUD.out.mono ?_); rintro e w7 ⟨rfl, Su7, hU, hO, hSu⟩
                               have HT := Lib.hid (C.keep HT.out hO HDJ.out)
                               have HDJ := Lib.hid (show ∀ b ∈ S3', b ∉ Su7 from fun b h1 h2 => (hSu b h2).elim (HDJ.out b h1) (fun h => by have := HLI.out b h1; omega))
                               have HOU := Lib.hid (show ∀ b, Value.ownBlock _ = some b → b ∉ Su7 from fun b e hb => (hSu b hb).elim (HOU.out b e) (fun h => by have := (HR.out.lt b e).2; omega))
                               have HR := Lib.hid (row_at (base' := w.heap.size) HR.out (fun b e => ⟨hO.block b (HR.out.lt b e).2 (HOU0.out b e), (HR.out.lt b e).1⟩))
                               have HU := Lib.hid hU
                               have HB7 := Lib.hid (HB.out.trans (hO.below (N := w.heap.size) HB.out.size HSU.out))
                               have HSU := Lib.hid (show ∀ b ∈ Su7, w.heap.size ≤ b from fun b hb => (hSu b hb).elim (HSU.out b) (Nat.le_trans HB.out.size))
                               have HB := HB7
                               clear hU hO hSu)
                  go_roundw
                  case rel => exact ⟨k + 1, S3', Su7, by omega, by go_num, HR, HT, HU, HSS, HSU, HOW, HOU, HDJ, HB⟩
                  case measure => simp [intOf]; omega
              · have hqz : ¬ (j : Int) < nd := by omega
                have hdj : D.getD j false = false := by
                  rw [List.getD_eq_getElem?_getD, List.getElem?_eq_none (by have := HND.out; omega)]
                  rfl
                have HUK := Lib.hid (ut_keep HKJ.out HSE'.out hdj)
                have HU := Lib.hid (show TS _ u L.length Su (ut L D (k + 1)) by rw [HUK.out]; exact HU.out)
                clear hdj
                go_wp2
                go_roundw
                case rel => exact ⟨k + 1, S3', Su, by omega, by go_num, HR, HT, HU, HSS, HSU, HOW, HOU, HDJ, HB⟩
                case measure => simp [intOf]; omega
          · have hknz : (nd : Int) ≤ k := by omega
            have hdk : D.getD k false = false := by
              rw [List.getD_eq_getElem?_getD, List.getElem?_eq_none (by have := HND.out; omega)]
              rfl
            have HLK := Lib.hid (lf_keep HSE.out hdk)
            have HAK := Lib.hid (at8_keep HSE.out hdk)
            clear hdk
            go_upto_region 15 with (at_builtin; refine wpList_more Tryz.info34 rfl (by decide) (by decide) Tryz.underlying22 _ rfl (.tmp 66) (.tmp 71) rfl u11 (lf L D k).length (flatT (lf L D k)) rfl (row_at (base' := 0) (World.ownsRow.alloc HR.out _) (fun _ _ => ⟨rfl, Nat.zero_le _⟩)) ⟨wr.heap.size, 0, none⟩ 1 1 (tvs (lo, hh, id)) rfl rfl (td_at wr (lo, hh, id) _) (tvs_one _) (by omega) (by decide) ?_; intro g1 c1 w3 h1 h2 h3
                                    have H1 := Lib.hid h1
                                    have HO1 := Lib.hid (((Off.refl u11.ownBlock.toList wr).all (.cells (tvs (lo, hh, id)).toArray 34)).grow h2 (fun k e => .inl (by simp [e])))
                                    have HB1 := Lib.hid ((HB.out.alloc HB.out.size (.cells (tvs (lo, hh, id)).toArray 34)).grown h2 (by have := HB.out.size; simp; omega) (fun k e => (HR.out.lt k e).1))
                                    have HG1 := Lib.hid (show w.heap.size ≤ g1 from h3.elim (fun e => (HR.out.lt _ e).1) (fun e => by have := HB.out.size; simp at e; omega))
                                    have HGS := Lib.hid (show g1 ∉ S from fun hg => h3.elim (fun e => HOW.out _ e hg) (fun e => by have := C.lies HT.out _ hg; simp at e; omega))
                                    have HGU := Lib.hid (show g1 ∉ Su from fun hg => h3.elim (fun e => HOU.out _ e hg) (fun e => by have := C.lies HU.out _ hg; simp at e; omega))
                                    clear h1 h2 h3)
            have HR := Lib.hid (show w3.ownsRow w.heap.size 34 3 (.slice (some ⟨g1, 0, none⟩) ((lf L D k).length + 1) c1) (lf L D (k + 1)).length (flatT (lf L D (k + 1))) by
              rw [HLK.out, flatT_snoc]
              have h := row_at (base' := w.heap.size) H1.out (fun q e => ⟨rfl, by simp [Value.ownBlock] at e; subst e; exact HG1.out⟩)
              simpa using h)
            have HT := Lib.hid (show TS w3 v L.length S (at8 L D (k + 1)) by rw [HAK.out]; exact C.keep HT.out HO1.out (fun b hb hb2 => HOW.out b (by simpa [Option.mem_toList] using hb2) hb))
            have HU := Lib.hid (C.keep HU.out HO1.out (fun b hb hb2 => HOU.out b (by simpa [Option.mem_toList] using hb2) hb))
            have HOW := Lib.hid (show ∀ b, (Value.slice (some ⟨g1, 0, none⟩) ((lf L D k).length + 1) c1).ownBlock = some b → b ∉ S from fun b e => by simp [Value.ownBlock] at e; subst e; exact HGS.out)
            have HOU := Lib.hid (show ∀ b, (Value.slice (some ⟨g1, 0, none⟩) ((lf L D k).length + 1) c1).ownBlock = some b → b ∉ Su from fun b e => by simp [Value.ownBlock] at e; subst e; exact HGU.out)
            have HOU0 := HOU
            have HB := HB1
            have HLI := Lib.hid (C.lies HT.out)
            clear H1 HO1 HB1 HG1 HGS HGU
            by_cases hq : j < nd
            · have hqz : (j : Int) < nd := by omega
              cases hdj : D.getD j false with
              | false =>
                have HUK := Lib.hid (ut_keep HKJ.out HSE'.out hdj)
                have HU := Lib.hid (show TS _ u L.length Su (ut L D (k + 1)) by rw [HUK.out]; exact HU.out)
                have qe : D[j]? = some false := by
                  have h1 : j < D.length := by have := HND.out; omega
                  have h2 := hdj
                  rw [List.getD_eq_getElem?_getD, List.getElem?_eq_getElem h1] at h2
                  rw [List.getElem?_eq_getElem h1]
                  exact congrArg some h2
                obtain ⟨bq, oq, eq, cq⟩ := ys_at HDD.out qe
                cases eq
                have cdq := (HB.out.cell (World.block_lt_of_cell? w _ cq)).trans cq
                clear qe cq
                clear hdj
                go_wp2
                go_roundw
                case rel => exact ⟨k + 1, S, Su, by omega, by go_num, HR, HT, HU, HSS, HSU, HOW, HOU, HDJ, HB⟩
                case measure => simp [intOf]; omega
              | true =>
                have hgone := ut_gone HRG.out HKJ.out HSE'.out hdj
                have qe : D[j]? = some true := by
                  have h1 : j < D.length := by have := HND.out; omega
                  have h2 := hdj
                  rw [List.getD_eq_getElem?_getD, List.getElem?_eq_getElem h1] at h2
                  rw [List.getElem?_eq_getElem h1]
                  exact congrArg some h2
                obtain ⟨bq, oq, eq, cq⟩ := ys_at HDD.out qe
                cases eq
                have cdq := (HB.out.cell (World.block_lt_of_cell? w _ cq)).trans cq
                clear qe cq
                have hUD := C.drop s' HU.out HWS'.out
                rw [decide_eq_true hgone.1, hgone.2] at hUD
                have HUD := Lib.hid hUD
                obtain ⟨b5, o5, e5, h5⟩ := (HX.out.keep HB.out).at HSE'.out
                cases e5
                have p0 := h5.c0
                have p1 := h5.c1
                have p2 := h5.c2
                obtain ⟨lo', hh', id'⟩ := s'
                unfold tv at HUD
                simp only at p0 p1 p2
                clear hgone hUD h5 hdj
                go_wp2_with (go_at_call 32; (with_reducible refine HUD.out.mono ?_); rintro e w7 ⟨rfl, Su7, hU, hO, hSu⟩
                             have HT := Lib.hid (C.keep HT.out hO HDJ.out)
                             have HDJ := Lib.hid (show ∀ b ∈ S, b ∉ Su7 from fun b h1 h2 => (hSu b h2).elim (HDJ.out b h1) (fun h => by have := HLI.out b h1; omega))
                             have HOU := Lib.hid (show ∀ b, Value.ownBlock _ = some b → b ∉ Su7 from fun b e hb => (hSu b hb).elim (HOU.out b e) (fun h => by have := (HR.out.lt b e).2; omega))
                             have HR := Lib.hid (row_at (base' := w.heap.size) HR.out (fun b e => ⟨hO.block b (HR.out.lt b e).2 (HOU0.out b e), (HR.out.lt b e).1⟩))
                             have HU := Lib.hid hU
                             have HB7 := Lib.hid (HB.out.trans (hO.below (N := w.heap.size) HB.out.size HSU.out))
                             have HSU := Lib.hid (show ∀ b ∈ Su7, w.heap.size ≤ b from fun b hb => (hSu b hb).elim (HSU.out b) (Nat.le_trans HB.out.size))
                             have HB := HB7
                             clear hU hO hSu)
                go_roundw
                case rel => exact ⟨k + 1, S, Su7, by omega, by go_num, HR, HT, HU, HSS, HSU, HOW, HOU, HDJ, HB⟩
                case measure => simp [intOf]; omega
            · have hqz : ¬ (j : Int) < nd := by omega
              have hdj : D.getD j false = false := by
                rw [List.getD_eq_getElem?_getD, List.getElem?_eq_none (by have := HND.out; omega)]
                rfl
              have HUK := Lib.hid (ut_keep HKJ.out HSE'.out hdj)
              have HU := Lib.hid (show TS _ u L.length Su (ut L D (k + 1)) by rw [HUK.out]; exact HU.out)
              clear hdj
              go_wp2
              go_roundw
              case rel => exact ⟨k + 1, S, Su, by omega, by go_num, HR, HT, HU, HSS, HSU, HOW, HOU, HDJ, HB⟩
              case measure => simp [intOf]; omega
        · obtain rfl : k = m := by omega
          have hltz : ¬ (k : Int) < k := by omega
          have hT := HT.out
          have hU := HU.out
          have hal : at8 L D k = lf L D k := by unfold at8; rw [List.drop_of_length_le (by have := HM.out; omega), List.append_nil]
          have hul : ut L D k = lf L D k := by have := ut_all L D; rw [← HM.out] at this; exact this
          rw [hal] at hT
          rw [hul] at hU
          obtain ⟨p', c', hv, hn, hc', hpc'⟩ := row_sp HR.out
          subst hv
          have hlf := lf_len L D k
          have hrl := lf_rg (D := D) HRG.out k
          have hwl : ∀ s ∈ lf L D k, Wf3 s := fun s hs => HWF.out s (List.mem_of_mem_take ((lf_sub L D k).subset hs))
          obtain ⟨A, hA⟩ : ∃ A, A = lf L D k := ⟨_, rfl⟩
          rw [← hA] at hT hU hn hc' hlf hrl hwl ⊢
          have HBV := Lib.hid (C.build wr p' c' A hn (by omega) hc' hpc' hwl)
          have HT := Lib.hid hT
          have HU := Lib.hid hU
          have HRL := Lib.hid hrl
          have HLE := Lib.hid (fun X n S v h => C.len (X := X) (v := v) (n := n) (S := S) (A := A) h)
          have HRE := Lib.hid (fun X n S v b (h : TS X v n S A) (hb : Wf5 b) => C.report b h hb)
          have HF := Lib.hid (show ∀ z, (hsS A z).length ≤ 8192 from fun z => Nat.le_trans (hsS_len A z) (by omega))
          have hmin := HMIN.out
          have hsl := HSL.out
          obtain ⟨n, hnn⟩ : ∃ n, n = L.length := ⟨_, rfl⟩
          rw [← hnn] at HT HU
          clear hA hal hul hT hU hn hc' hpc' hlf hrl hwl HR HOW HOU HDJ HSS HSU HMIN HSL hnn HX HWF HDD HRG
          generalize hla : A.length = la at *
          clear hla
          go_wp2_with (first
            | (go_at_call 29; (with_reducible refine HBV.out.mono ?_); rintro e w3 ⟨hb, hor⟩; rcases hor with ⟨-, v3, S3', rfl, hT', -⟩ | ⟨hn, -⟩; rotate_left; (exact absurd HRL.out hn); have HT := Lib.hid (C.bel HT.out hb); have HU := Lib.hid (C.bel HU.out hb); have HV := Lib.hid hT'; have HB := Lib.hid (HB.out.trans (hb.mono HB.out.size)); clear hb hT')
            | (go_at_call 30; (with_reducible refine (HLE.out _ _ _ _ HT.out).mono ?_); rintro e w4 ⟨rfl, hb⟩; have HT := Lib.hid (C.bel HT.out hb); have HU := Lib.hid (C.bel HU.out hb); have HV := Lib.hid (C.bel HV.out hb); have HB := Lib.hid (HB.out.trans (hb.mono HB.out.size)); clear hb)
            | (go_at_call 30; (with_reducible refine (HLE.out _ _ _ _ HU.out).mono ?_); rintro e w5 ⟨rfl, hb⟩; have HT := Lib.hid (C.bel HT.out hb); have HU := Lib.hid (C.bel HU.out hb); have HV := Lib.hid (C.bel HV.out hb); have HB := Lib.hid (HB.out.trans (hb.mono HB.out.size)); clear hb))
          obtain ⟨n', hn'⟩ : ∃ n', n' = A.length := ⟨_, rfl⟩
          rw [← hn'] at HV
          have HTx := HT
          have HUx := HU
          have HVx := HV
          have HBx := HB
          clear hmin hsl HBV HLE hn' HT HU HV HB
          go_loopw [132] (fun v132 wr => ∃ k : Nat, k ≤ h12 ∧ v132 = .int .i64 k ∧ Hid (TS wr v n S A) ∧ Hid (TS wr u n Su A) ∧ Hid (TS wr v3 n' S3' A) ∧ Hid (Below w.heap.size w wr)) (fun i _ => h12 - (intOf i).toNat)
          case atStart => exact ⟨0, Nat.zero_le _, rfl, HTx, HUx, HVx, HBx⟩
          case round =>
            clear HTx HUx HVx HBx
            obtain ⟨kk, hkk, rfl, HT, HU, HV, HB⟩ := hrel
            by_cases hlt : kk < h12
            · have hltz : (kk : Int) < h12 := by omega
              obtain ⟨b, hbe⟩ : ∃ b, xs[kk]? = some b := ⟨_, List.getElem?_eq_getElem (by have := HH.out; have := HXL.out; omega)⟩
              obtain ⟨bb, off, rfl, h1⟩ := (HXS.out.keep HB.out).at hbe
              have HWB := Lib.hid (HWX.out b (List.mem_of_getElem? hbe))
              have n0 := h1.c0
              have n1 := h1.c1
              have n2 := h1.c2
              have n3 := h1.c3
              have n4 := h1.c4
              obtain ⟨W, hW⟩ : ∃ W, W = wr.alloc (.cells (bvs b).toArray 42) := ⟨_, rfl⟩
              have HN := Lib.hid (show X1 W wr.heap.size 0 b by rw [hW]; exact X1.new wr b _)
              have HB := Lib.hid (show Below w.heap.size w W by rw [hW]; exact HB.out.alloc HB.out.size _)
              have HT := Lib.hid (show TS W v n S A by rw [hW]; exact C.bel HT.out ((Below.refl _ wr).alloc (Nat.le_refl _) _))
              have HU := Lib.hid (show TS W u n Su A by rw [hW]; exact C.bel HU.out ((Below.refl _ wr).alloc (Nat.le_refl _) _))
              have HV := Lib.hid (show TS W v3 n' S3' A by rw [hW]; exact C.bel HV.out ((Below.refl _ wr).alloc (Nat.le_refl _) _))
              have HLT := Lib.hid HN.out.lt
              have HS := Lib.hid (fun X n S v (h : TS X v n S A) => HRE.out X n S v b h HWB.out)
              have HI : Hid (∀ X q1 c1 q2 c2, NS X q1 .u32 (hsS A b.1) → NS X q2 .u32 (hsS A b.1) → Calls Tryz.prog 36 #[.slice q1 (hsS A b.1).length c1, .slice q2 (hsS A b.1).length c2] X fun e w' => e = .returned (.bool true) ∧ Below X.heap.size X w') := Lib.hid (fun X q1 c1 q2 c2 h1 h2 => by
                refine (sameIDs_any X q1 q2 c1 c2 _ _ h1 h2 (HF.out _)).mono ?_
                rintro e w' ⟨rfl, hb⟩
                exact ⟨by simp, hb⟩)
              clear hbe h1
              obtain ⟨⟨x1, x2, y1, y2⟩, bi⟩ := b
              unfold bvs at hW
              unfold bv at HS
              simp only at n0 n1 n2 n3 n4 HS HI
              have HW1 := Lib.hid hW
              clear hW
              generalize hsS A (x1, x2, y1, y2) = Z at *
              have HRU := Lib.hid (show ∀ (Y : World) r, RL Y r Z → ∃ q c, r = .slice q Z.length c ∧ NS Y q .u32 Z from fun Y r h => by obtain ⟨q, c, h1, h2, -⟩ := h; exact ⟨q, c, h1, h2⟩)
              generalize hzl : Z.length = zl at *
              clear hzl
              have m0 := HN.out.c0
              have m1 := HN.out.c1
              have m2 := HN.out.c2
              have m3 := HN.out.c3
              have m4 := HN.out.c4
              simp only [Nat.zero_add] at m0 m1 m2 m3 m4
              go_upto_region 25 with fail
              rw [← HW1.out]
              clear HW1 n0 n1 n2 n3 n4
              go_wp2_with (first
                | (go_at_call 34; (with_reducible refine (HS.out _ _ _ _ HT.out).mono ?_); rintro e w5 ⟨⟨r, t, rfl, hr, -, -⟩, hb⟩; obtain ⟨q1, c1, rfl, hq⟩ := HRU.out _ _ hr; have HQ1 := Lib.hid hq; have HN := Lib.hid (HN.out.keep hb HLT.out); have HLT := Lib.hid HN.out.lt; have k0 := HN.out.c0; have k1 := HN.out.c1; have k2 := HN.out.c2; have k3 := HN.out.c3; have k4 := HN.out.c4; simp only [Nat.zero_add] at k0 k1 k2 k3 k4; have HT := Lib.hid (C.bel HT.out hb); have HU := Lib.hid (C.bel HU.out hb); have HV := Lib.hid (C.bel HV.out hb); have HB := Lib.hid (HB.out.trans (hb.mono HB.out.size)); clear hr hb hq)
                | (go_at_call 34; (with_reducible refine (HS.out _ _ _ _ HU.out).mono ?_); rintro e w6 ⟨⟨r, t2, rfl, hr, -, -⟩, hb⟩; obtain ⟨q2, c2, rfl, hq⟩ := HRU.out _ _ hr; have HQ2 := Lib.hid hq; have HQ1 := Lib.hid (HQ1.out.keep hb); have HN := Lib.hid (HN.out.keep hb HLT.out); have HLT := Lib.hid HN.out.lt; have k0 := HN.out.c0; have k1 := HN.out.c1; have k2 := HN.out.c2; have k3 := HN.out.c3; have k4 := HN.out.c4; simp only [Nat.zero_add] at k0 k1 k2 k3 k4; have HT := Lib.hid (C.bel HT.out hb); have HU := Lib.hid (C.bel HU.out hb); have HV := Lib.hid (C.bel HV.out hb); have HB := Lib.hid (HB.out.trans (hb.mono HB.out.size)); clear hr hb hq)
                | (go_at_call 34; (with_reducible refine (HS.out _ _ _ _ HV.out).mono ?_); rintro e w7 ⟨⟨r, t3, rfl, hr, -, -⟩, hb⟩; obtain ⟨q3, c3, rfl, hq⟩ := HRU.out _ _ hr; have HQ3 := Lib.hid hq; have HQ1 := Lib.hid (HQ1.out.keep hb); have HQ2 := Lib.hid (HQ2.out.keep hb); have HN := Lib.hid (HN.out.keep hb HLT.out); have HLT := Lib.hid HN.out.lt; have k0 := HN.out.c0; have k1 := HN.out.c1; have k2 := HN.out.c2; have k3 := HN.out.c3; have k4 := HN.out.c4; simp only [Nat.zero_add] at k0 k1 k2 k3 k4; have HT := Lib.hid (C.bel HT.out hb); have HU := Lib.hid (C.bel HU.out hb); have HV := Lib.hid (C.bel HV.out hb); have HB := Lib.hid (HB.out.trans (hb.mono HB.out.size)); clear hr hb hq)
                | (go_at_call 36; (with_reducible refine (HI.out _ _ _ _ _ HQ1.out HQ2.out).mono ?_); rintro e w8 ⟨rfl, hb⟩; have HQ1 := Lib.hid (HQ1.out.keep hb); have HQ3 := Lib.hid (HQ3.out.keep hb); have HT := Lib.hid (C.bel HT.out hb); have HU := Lib.hid (C.bel HU.out hb); have HV := Lib.hid (C.bel HV.out hb); have HB := Lib.hid (HB.out.trans (hb.mono HB.out.size)); clear hb)
                | (go_at_call 36; (with_reducible refine (HI.out _ _ _ _ _ HQ1.out HQ3.out).mono ?_); rintro e w9 ⟨rfl, hb⟩; have HT := Lib.hid (C.bel HT.out hb); have HU := Lib.hid (C.bel HU.out hb); have HV := Lib.hid (C.bel HV.out hb); have HB := Lib.hid (HB.out.trans (hb.mono HB.out.size)); clear hb))
              go_roundw
              case rel => exact ⟨kk + 1, by omega, by go_num, HT, HU, HV, HB⟩
              case measure => simp [intOf]; omega
            · have hltz : ¬ (kk : Int) < h12 := by omega
              go_wp2_with (go_at_call 28; (with_reducible refine (HAW.out _).mono ?_); rintro e w90 ⟨rfl, hb⟩; have HB := Lib.hid (HB.out.trans (hb.mono HB.out.size)); clear hb)
              go_ret
              exact ⟨rfl, HB.out⟩
    · have HRG := Lib.hid hrg
      clear hrg
      go_enter Tryz.func13, Tryz.ntmps13
      go_wp2_with (first
        | (go_at_call 29; (with_reducible refine (HBU.out _ HB1.out).mono ?_); rintro e w2 ⟨hb, hor⟩; rcases hor with ⟨hn, -⟩ | ⟨-, u, Su, rfl, -, -⟩; (exact absurd hn HRG.out); have HB := Lib.hid (HB1.out.trans (hb.mono HB1.out.size)); clear hb)
        | (go_at_call 29; (with_reducible refine (HBU.out _ (Below.refl _ w)).mono ?_); rintro e w1 ⟨hb, hor⟩; rcases hor with ⟨hn, -⟩ | ⟨-, v, S, rfl, -, -⟩; (exact absurd hn HRG.out); have HB1 := Lib.hid hb; clear hb)
        | (go_at_call 28; (with_reducible refine (HAW.out _).mono ?_); rintro e w90 ⟨rfl, hb⟩; have HB := Lib.hid (HB.out.trans (hb.mono HB.out.size)); clear hb))
      go_ret
      exact ⟨rfl, HB.out⟩
  · have hbz : (80 : Int) < L.length := by omega
    clear hx hxs hc hw hD hp hbig
    generalize L.length = m at *
    go_enter Tryz.func13, Tryz.ntmps13
    go_wp2_with (go_at_call 28; (with_reducible refine (HAW.out _).mono ?_); rintro e w90 ⟨rfl, hb⟩; have HB := Lib.hid hb; clear hb)
    go_ret
    exact ⟨rfl, HB.out⟩
end Go.Proofs.YtfcpfffgodljeaaGreat.Ca
