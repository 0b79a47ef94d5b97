/-
  Runs of places in memory: how they are made, From, Has, Drop. No condition but those typed at each theorem.
-/
import Derived.Test.YtajpboclicnopaaGreatAu
import Derived.Deep.CutBlock
import Derived.Laws.Rows
namespace Go.Proofs.YtajpboclicnopaaGreat
open Go.RowKit
def zs (O : List Nat) : List Int := O.map (fun x : Nat => (x : Int))
theorem zs_get (O : List Nat) {p r : Nat} (h : O[p]? = some r) : (zs O)[p]? = some (r : Int) := by simp [zs, h]
theorem zs_set (O : List Nat) (p k : Nat) : (zs O).set p (k : Int) = zs (O.set p k) := by simp [zs]
theorem zs_len (O : List Nat) : (zs O).length = O.length := by simp [zs]
/-- runs, cell by cell -/
def flatR (R : List (Nat × Nat)) : List Value := R.flatMap (fun r => [.int .i64 r.1, .int .i64 r.2])
theorem flatR_get (R : List (Nat × Nat)) {k f e : Nat} (h : R[k]? = some (f, e)) : (flatR R)[k * 2]? = some (.int .i64 f) ∧ (flatR R)[k * 2 + 1]? = some (.int .i64 e) := by
  induction R generalizing k with
  | nil => simp at h
  | cons a R ih =>
    cases k with
    | zero => simp at h; subst h; simp [flatR]
    | succ k =>
      have := ih (k := k) (by simpa using h)
      rw [show (k + 1) * 2 = k * 2 + 1 + 1 by omega, show k * 2 + 1 + 1 + 1 = (k * 2 + 1) + 1 + 1 by omega]
      simpa [flatR] using this
theorem flatR_set (R : List (Nat × Nat)) (k f e : Nat) : ((flatR R).set (k * 2) (.int .i64 f)).set (k * 2 + 1) (.int .i64 e) = flatR (R.set k (f, e)) := by
  induction R generalizing k with
  | nil => simp [flatR]
  | cons a R ih =>
    cases k with
    | zero => simp [flatR]
    | succ k =>
      have := ih k
      rw [show (k + 1) * 2 = k * 2 + 1 + 1 by omega, show k * 2 + 1 + 1 + 1 = (k * 2 + 1) + 1 + 1 by omega]
      simp only [flatR, List.flatMap_cons, List.cons_append, List.nil_append, List.set_cons_succ] at this ⊢
      rw [this]
theorem drewP {w X : World} {n : Nat} (h : Below w.heap.size w X) : Below w.heap.size w (X.drewN n) := ⟨h.os, h.tape, h.output, h.size, h.block⟩
theorem offN {S : List Nat} {w X : World} (h : Off S w X) (n : Nat) : Off S w (X.drewN n) := ⟨h.os, h.tape, h.output, h.size, h.block⟩
/-- runs at a place in memory: of each place the run that has it; al tells who is there -/
structure RnM (w : World) (b o m : Nat) (al : Nat → Bool) (br bo : Nat) (R : List (Nat × Nat)) (O : List Nat) : Prop where
  rs : w.cell? ⟨b, o, none⟩ = some (.slice (some ⟨br, 0, none⟩) (m + 1) (m + 1))
  os : w.cell? ⟨b, o + 1, none⟩ = some (.slice (some ⟨bo, 0, none⟩) (m + 1) (m + 1))
  rb : EV 189 w br (flatR R)
  ob : EB .i64 3 w bo (zs O)
  inv : RnI m al R O
  few : m ≤ 8192
  ne : b ≠ br ∧ b ≠ bo ∧ br ≠ bo
section
variable {w w' : World} {b o m : Nat} {al : Nat → Bool} {br bo : Nat} {R : List (Nat × Nat)} {O : List Nat}
theorem RnM.off (h : RnM w b o m al br bo R O) {S : List Nat} (g : Off S w w') (h1 : b ∉ S) (h2 : br ∉ S) (h3 : bo ∉ S) : RnM w' b o m al br bo R O :=
  ⟨g.cell h.rs h1, g.cell h.os h1, h.rb.off g h2, h.ob.off g h3, h.inv, h.few, h.ne⟩
theorem RnM.keep (h : RnM w b o m al br bo R O) (hb : Below w.heap.size w w') : RnM w' b o m al br bo R O :=
  h.off (Off.of (S := []) hb (Nat.le_refl _)) (by simp) (by simp) (by simp)
/-- a run's cells -/
theorem RnM.cr (h : RnM w b o m al br bo R O) {k f e : Nat} (hk : R[k]? = some (f, e)) : w.cell? ⟨br, k * 2, none⟩ = some (.int .i64 f) ∧ w.cell? ⟨br, k * 2 + 1, none⟩ = some (.int .i64 e) :=
  ⟨h.rb.cell (flatR_get R hk).1, h.rb.cell (flatR_get R hk).2⟩
theorem RnM.co (h : RnM w b o m al br bo R O) {q r : Nat} (hq : O[q]? = some r) : w.cell? ⟨bo, q, none⟩ = some (.int .i64 r) := h.ob.cell (zs_get O hq)
set_option maxRecDepth 100000 in
set_option maxHeartbeats 800000 in
theorem from_at (h : RnM w b o m al br bo R O) {q r f e : Nat} (hq : q ≤ m) (h1 : O[q]? = some r) (h2 : R[r]? = some (f, e)) :
    Calls Tryz.prog 72 #[.pointer (some ⟨b, o, none⟩), .int .i64 q] w fun x w' => x = .returned (.int .i64 e) ∧ Below w.heap.size w w' := by
  have c1 := h.rs
  have c2 := h.os
  have c3 := h.co h1
  have c4 := (h.cr h2).2
  have hr : r < m + 1 := by have := (List.getElem?_eq_some_iff.1 h2).1; rw [h.inv.lenR] at this; exact this
  have hn := h.few
  clear h h1 h2
  go_enter Tryz.func72, Tryz.ntmps72
  go_upto_region 1 with fail
  go_quiet (fail)
  go_wp2
  go_ret
  exact ⟨rfl, drewP (Below.refl _ _)⟩
/-- e is the first place from q on that is there -/
def NxP (m : Nat) (al : Nat → Bool) (q e : Nat) : Prop := q ≤ e ∧ e ≤ m ∧ al e = true ∧ ∀ z, q ≤ z → z < e → al z = false
theorem from_any (h : RnM w b o m al br bo R O) {q : Nat} (hq : q ≤ m) :
    Calls Tryz.prog 72 #[.pointer (some ⟨b, o, none⟩), .int .i64 q] w fun x w' => (∃ e : Nat, x = .returned (.int .i64 e) ∧ NxP m al q e) ∧ Below w.heap.size w w' := by
  obtain ⟨r, f, e, h1, h2, h3, h4, h5, h6, h7, -⟩ := h.inv.run q hq
  refine (from_at h hq h1 h2).mono ?_
  rintro x w' ⟨rfl, hb⟩
  exact ⟨⟨e, rfl, h4, h5, h6, fun z z1 z2 => h7 z (by omega) z2⟩, hb⟩
set_option maxRecDepth 100000 in
set_option maxHeartbeats 800000 in
theorem hasP_any (h : RnM w b o m al br bo R O) {q : Nat} (hq : q ≤ m) :
    Calls Tryz.prog 66 #[.pointer (some ⟨b, o, none⟩), .int .i64 q] w fun x w' => x = .returned (.bool (al q)) ∧ Below w.heap.size w w' := by
  obtain ⟨r, f, e, h1, h2, -⟩ := h.inv.run q hq
  have hf := h.inv.last hq h1 h2
  have hn := h.few
  have HF := Lib.hid (from_at h hq h1 h2)
  generalize al q = y at *
  clear h h1 h2
  go_enter Tryz.func66, Tryz.ntmps66
  go_wp2_with (go_at_call 72; (with_reducible refine HF.out.mono ?_); rintro x w1 ⟨rfl, hb⟩)
  go_ret
  refine ⟨retb ?_, hb⟩
  rw [← hf]
  simp
  omega
set_option maxRecDepth 100000 in
set_option maxHeartbeats 3200000 in
theorem pdrop_any (h : RnM w b o m al br bo R O) {q : Nat} (hq : q < m) (ha : al q = true) (al' : Nat → Bool) (hA : ∀ x, al' x = (al x && decide (x ≠ q))) :
    Calls Tryz.prog 104 #[.pointer (some ⟨b, o, none⟩), .int .i64 q] w fun x w' => x = .returned (.tuple #[]) ∧ (∃ R' O', RnM w' b o m al' br bo R' O') ∧ Off [br, bo] w w' := by
  obtain ⟨k, fk, ek, a1, a2, a3, a4, a5, -⟩ := h.inv.run q (by omega)
  obtain ⟨l, fl, el, b1, b2, b3, b4, b5, -⟩ := h.inv.run (q + 1) (by omega)
  obtain ⟨e1, e2, g1, g2, g3, hJ⟩ := h.inv.join hq ha a1 b1 a2 b2
  subst e1
  subst e2
  clear g1 g2 g3
  obtain ⟨J1, J2⟩ := hJ _ hA
  have c1 := h.rs
  have c2 := h.os
  have c3 := h.co a1
  have c4 := h.co b1
  have c5 := (h.cr a2).1
  have c6 := (h.cr b2).2
  have c5' := (h.cr a2).2
  have c6' := (h.cr b2).1
  have hk : k < m + 1 := by have := (List.getElem?_eq_some_iff.1 a2).1; rw [h.inv.lenR] at this; exact this
  have hl : l < m + 1 := by have := (List.getElem?_eq_some_iff.1 b2).1; rw [h.inv.lenR] at this; exact this
  have hn := h.few
  have z1 : b < w.heap.size := World.block_lt_of_cell? w _ c1
  have z2 : br < w.heap.size := h.rb.lt
  have z3 : bo < w.heap.size := h.ob.lt
  have H := Lib.hid h
  have HJ1 := Lib.hid J1
  have HJ2 := Lib.hid J2
  have HA2 := Lib.hid a2
  have HB2 := Lib.hid b2
  clear h a1 b1 a2 b2 J1 J2 hJ ha hA a5
  have e1 : ((ek + 1 : Nat) : Int) = (ek : Int) + 1 := by omega
  rw [e1] at c6'
  go_enter Tryz.func104, Tryz.ntmps104
  go_upto_region 0 with fail
  go_quiet (fail)
  have d1 : ((w.drewN (nq + 1)).alloc (.cells #[.int .i64 0, .int .i64 0] 189)).cell? ⟨b, o, none⟩ = some (.slice (some ⟨br, 0, none⟩) (m + 1) (m + 1)) := cell_al _ c1
  have d2 : ((w.drewN (nq + 1)).alloc (.cells #[.int .i64 0, .int .i64 0] 189)).cell? ⟨br, k * 2, none⟩ = some (.int .i64 fk) := cell_al _ c5
  have d3 : ((w.drewN (nq + 1)).alloc (.cells #[.int .i64 0, .int .i64 0] 189)).cell? ⟨br, l * 2 + 1, none⟩ = some (.int .i64 el) := cell_al _ c6
  have d0 := Own.new (w.drewN (nq + 1)) [.int .i64 0, .int .i64 0] 189 (n := w.heap.size) rfl
  have d4 := d0.1 0 _ rfl
  have d5 := d0.1 1 _ rfl
  have d6 := d0.2 0
  have d7 := d0.2 1
  clear d0
  go_upto_region 1 with fail
  go_region
  obtain ⟨X, hX⟩ : ∃ X, X = ((((w.drewN (nq + 1)).alloc (.cells #[.int .i64 0, .int .i64 0] 189)).setCell ⟨w.heap.size, 0, none⟩ (.int .i64 fk)).setCell ⟨w.heap.size, 1, none⟩ (.int .i64 el)) := ⟨_, rfl⟩
  rw [← hX]
  have HB : Hid (Off [] w X) := by
    refine Lib.hid ?_
    rw [hX]
    exact (((offN (Off.refl _ w) _).all _).set _ _ (.inr (Nat.le_refl _))).set _ _ (.inr (Nat.le_refl _))
  have g1 : X.cell? ⟨w.heap.size, 0, none⟩ = some (.int .i64 fk) := by
    rw [hX, World.cell?_setCell_other _ _ _ _ (by simp)]
    exact World.cell?_setCell_same' _ _ _ (by rw [d4]; rfl)
  have g2 : X.cell? ⟨w.heap.size, 1, none⟩ = some (.int .i64 el) := by
    rw [hX]
    exact World.cell?_setCell_same' _ _ _ (by rw [World.cell?_setCell_other _ _ _ _ (by simp), d5]; rfl)
  clear d1 d2 d3 d4 d5 d6 d7 hX
  have x1 := HB.out.cell c1 (by simp)
  have x2 := HB.out.cell c2 (by simp)
  have x5 := HB.out.cell c5 (by simp)
  have x6 := HB.out.cell c6 (by simp)
  have x5' := HB.out.cell c5' (by simp)
  have x6' := HB.out.cell c6' (by simp)
  have hne := H.out.ne
  have HG : Hid (w.heap.size ≠ br ∧ w.heap.size ≠ bo) := Lib.hid ⟨by omega, by omega⟩
  clear c1 c2 c3 c4 c5 c6 c5' c6'
  have hko := Lib.hid (zs_len O)
  rcases Decidable.em ((el : Int) - ek ≤ ek - fk) with hsw | hsw
  case' inl =>
    have HR := Lib.hid (⟨by have := HB2.out; exact (List.getElem?_eq_some_iff.1 HA2.out).1, a3⟩ : k < R.length ∧ fk ≤ ek)
    obtain ⟨fa, efa⟩ : ∃ fa, fa = ek + 1 := ⟨_, rfl⟩
    obtain ⟨la, ela⟩ : ∃ la, la = el := ⟨_, rfl⟩
    have xa : X.cell? ⟨br, l * 2, none⟩ = some (.int .i64 fa) := by rw [efa, e1]; exact x6'
    have xb : X.cell? ⟨br, l * 2 + 1, none⟩ = some (.int .i64 la) := by rw [ela]; exact x6
    have xc := Lib.hid (⟨⟨_, x5'⟩, ⟨_, x5⟩⟩ : (∃ v : Nat, X.cell? ⟨br, k * 2 + 1, none⟩ = some (.int .i64 v)) ∧ (∃ v : Nat, X.cell? ⟨br, k * 2, none⟩ = some (.int .i64 v)))
    have hfe : fa ≤ la + 1 ∧ la ≤ m := by omega
    have HI : Hid (RnI m al' (R.set k (fk, el)) (own O fa (la + 1) k)) := by rw [efa, ela]; exact HJ2
    clear x5 x6 x5' x6' efa ela
    obtain ⟨ls, els⟩ : ∃ ls, ls = l := ⟨_, rfl⟩
    obtain ⟨kt, ekt⟩ : ∃ kt, kt = k := ⟨_, rfl⟩
    subst els
    subst ekt
  case' inr =>
    have HR := Lib.hid (⟨by have := HA2.out; exact (List.getElem?_eq_some_iff.1 HB2.out).1, a3⟩ : l < R.length ∧ fk ≤ ek)
    obtain ⟨fa, efa⟩ : ∃ fa, fa = fk := ⟨_, rfl⟩
    obtain ⟨la, ela⟩ : ∃ la, la = ek := ⟨_, rfl⟩
    have xa : X.cell? ⟨br, k * 2, none⟩ = some (.int .i64 fa) := by rw [efa]; exact x5
    have xb : X.cell? ⟨br, k * 2 + 1, none⟩ = some (.int .i64 la) := by rw [ela]; exact x5'
    have xc := Lib.hid (⟨⟨_, x6⟩, ⟨_, (by rw [e1]; exact x6' : X.cell? ⟨br, l * 2, none⟩ = some (.int .i64 ((ek + 1 : Nat) : Int)))⟩⟩ : (∃ v : Nat, X.cell? ⟨br, l * 2 + 1, none⟩ = some (.int .i64 v)) ∧ (∃ v : Nat, X.cell? ⟨br, l * 2, none⟩ = some (.int .i64 v)))
    have hfe : fa ≤ la + 1 ∧ la ≤ m := by omega
    have HI : Hid (RnI m al' (R.set l (fk, el)) (own O fa (la + 1) l)) := by rw [efa, ela]; exact HJ1
    clear x5 x6 x5' x6' efa ela
    obtain ⟨ls, els⟩ : ∃ ls, ls = k := ⟨_, rfl⟩
    obtain ⟨kt, ekt⟩ : ∃ kt, kt = l := ⟨_, rfl⟩
    subst els
    subst ekt
  all_goals
    (clear HJ1 HJ2 HA2 HB2 e1
     obtain ⟨hf1, hf2⟩ := hfe
     go_wp2
     go_loopw [7] (fun v wr => ∃ at_ : Nat, fa ≤ at_ ∧ at_ ≤ la + 1 ∧ v = .int .i64 at_ ∧ Hid (EB .i64 3 wr bo (zs (own O fa at_ kt))) ∧ Hid (Off [bo] X wr)) (fun v _ => la + 1 - (intOf v).toNat)
     case atStart => exact ⟨fa, Nat.le_refl _, hf1, rfl, Lib.hid (by rw [own_none]; exact H.out.ob.off HB.out (by simp)), Lib.hid (Off.refl _ _)⟩
     case round =>
       obtain ⟨t, h1, h2, rfl, HE, HO⟩ := hrel
       have y1 := HO.out.cell x1 (by simp; exact H.out.ne.2.1)
       have y2 := HO.out.cell x2 (by simp; exact H.out.ne.2.1)
       have yb := HO.out.cell xb (by simp; exact H.out.ne.2.2)
       by_cases hlt : t ≤ la
       · have hlz : (t : Int) ≤ la := by omega
         have htn : t < m + 1 := by omega
         obtain ⟨v0, hv0⟩ : ∃ v, (zs (own O fa t kt))[t]? = some v := ⟨_, List.getElem?_eq_getElem (by rw [zs_len, own_len, H.out.inv.lenO]; exact htn)⟩
         have y3 := HE.out.cell hv0
         have y4 := HE.out.free t
         clear hv0
         go_wp2
         go_roundw
         case rel =>
           refine ⟨t + 1, by omega, by omega, by go_num, Lib.hid ?_, Lib.hid (HO.out.set _ _ (.inl (by simp)))⟩
           rw [← own_step O fa t kt (by rw [H.out.inv.lenO]; exact htn) h1, ← zs_set]
           exact HE.out.set t kt
         case measure => simp [intOf]; omega
       · have hlz : ¬ (t : Int) ≤ la := by omega
         obtain rfl : t = la + 1 := by omega
         obtain ⟨⟨v1, xc1⟩, ⟨v2, xc2⟩⟩ := xc.out
         have y3 := HO.out.cell xc1 (by simp; exact H.out.ne.2.2)
         have y4 := HO.out.cell xc2 (by simp; exact H.out.ne.2.2)
         have HRB := Lib.hid ((H.out.rb.off HB.out (by simp)).off HO.out (by simp; exact H.out.ne.2.2))
         have y5 := HRB.out.free (kt * 2)
         have y6 := HRB.out.free (kt * 2 + 1)
         have y7 := HO.out.cell g1 (by simp; exact HG.out.2)
         have y8 := HO.out.cell g2 (by simp; exact HG.out.2)
         clear xc1 xc2 x1 x2 xb g1 g2
         go_upto_region 8 with fail
         go_region
         go_wp2
         go_end0
         have hn4 := H.out.ne
         have HF := ((((HB.out.mono (T := [br, bo]) (fun _ _ hk => by cases hk)).via HO.out (fun _ _ hk => by rw [List.mem_singleton.1 hk]; simp)).set ⟨br, kt * 2, none⟩ (.int .i64 fk) (.inl (by simp))).set ⟨br, kt * 2 + 1, none⟩ (.int .i64 el) (.inl (by simp))).drew
         refine ⟨rfl, ⟨R.set kt (fk, el), own O fa (la + 1) kt, HF.cell H.out.rs (by simp; exact ⟨hn4.1, hn4.2.1⟩), HF.cell H.out.os (by simp; exact ⟨hn4.1, hn4.2.1⟩), ?_, ((HE.out.far (by exact hn4.2.2) _).far (by exact hn4.2.2) _).drew, HI.out, H.out.few, hn4⟩, HF⟩
         rw [← flatR_set]
         exact (HRB.out.set _ _).set _ _)
end
def layR (i N : Nat) : List (Nat × Nat) := (List.range N).map (fun p => if p < i then (p, p) else (0, 0))
def layO (i N : Nat) : List Nat := (List.range N).map (fun p => if p < i then p else 0)
theorem layR_step (i N : Nat) (h : i < N) : (layR i N).set i (i, i) = layR (i + 1) N := by
  apply List.ext_getElem?
  intro p
  unfold layR
  by_cases hp : p < N
  · rw [List.getElem?_set, List.getElem?_map, List.getElem?_map, List.getElem?_range hp]
    by_cases e : i = p
    · subst e; simp [h]
    · rw [if_neg e]; simp only [Option.map_some]; congr 1
      by_cases g : p < i
      · rw [if_pos g, if_pos (by omega)]
      · rw [if_neg g, if_neg (by omega)]
  · rw [List.getElem?_eq_none (by simp; omega), List.getElem?_eq_none (by simp; omega)]
theorem layO_step (i N : Nat) (h : i < N) : (layO i N).set i i = layO (i + 1) N := by
  apply List.ext_getElem?
  intro p
  unfold layO
  by_cases hp : p < N
  · rw [List.getElem?_set, List.getElem?_map, List.getElem?_map, List.getElem?_range hp]
    by_cases e : i = p
    · subst e; simp [h]
    · rw [if_neg e]; simp only [Option.map_some]; congr 1
      by_cases g : p < i
      · rw [if_pos g, if_pos (by omega)]
      · rw [if_neg g, if_neg (by omega)]
  · rw [List.getElem?_eq_none (by simp; omega), List.getElem?_eq_none (by simp; omega)]
theorem lay_done (N : Nat) : layR N N = (List.range N).map (fun p => (p, p)) ∧ layO N N = List.range N := by
  constructor
  · unfold layR
    refine List.map_congr_left (fun p hp => ?_)
    rw [if_pos (List.mem_range.1 hp)]
  · unfold layO
    conv => rhs; rw [← List.map_id (List.range N)]
    refine List.map_congr_left (fun p hp => ?_)
    rw [if_pos (List.mem_range.1 hp)]; rfl
theorem layR_zero (N : Nat) : flatR (layR 0 N) = List.replicate (N * 2) (.int .i64 0) := by
  unfold layR
  have : (List.range N).map (fun p => if p < 0 then (p, p) else (0, 0)) = List.replicate N (0, 0) := by
    rw [List.eq_replicate_iff]; exact ⟨by simp, by simp⟩
  rw [this]
  clear this
  induction N with
  | zero => rfl
  | succ N ih => rw [List.replicate_succ, show (N + 1) * 2 = N * 2 + 1 + 1 by omega, List.replicate_succ, List.replicate_succ, ← ih]; rfl
theorem layO_zero (N : Nat) : zs (layO 0 N) = List.replicate N 0 := by
  unfold layO zs
  rw [List.map_map, List.eq_replicate_iff]; exact ⟨by simp, by simp⟩
theorem info_runP : (Tryz.prog.info? 189).map (fun i => (i.zero, i.size, i.bytes)) = some (some (.agg #[.int .i64 0, .int .i64 0]), 2, 16) := by kernel_rfl
theorem info_intP : (Tryz.prog.info? 3).map (fun i => (i.zero, i.size, i.bytes)) = some (some (.int .i64 0), 1, 8) := by kernel_rfl
theorem under_runsP : Tryz.prog.underlying 86 = some (.slice 189) := by kernel_rfl
theorem under_intsP : Tryz.prog.underlying 87 = some (.slice 3) := by kernel_rfl
theorem made_anyP {P : Program} {e : TypeId} {z : Value} {size bytes : Nat} (hi : (P.info? e).map (fun i => (i.zero, i.size, i.bytes)) = some (some z, size, bytes)) (hby : bytes ≤ 64) (hsz : size ≤ 16) {t : TypeId} (ht : P.underlying t = some (.slice e)) (w : World) (l c : Nat) (hlc : l ≤ c) (hc : c ≤ 100000) :
    (Instr.makeSlice t (.int .i64 l) (.int .i64 c)).run P w = .ok (.slice (some ⟨w.heap.size, 0, none⟩) l c) (w.alloc (.cells (madeCells z.cells (c * size)) e)) := by
  obtain ⟨i0, hi0, hz0, hz1, hz2⟩ := info_parts hi
  subst hz1 hz2
  have h1 : c * i0.size ≤ 100000 * 16 := Nat.mul_le_mul hc hsz
  have h2 : i0.bytes * c ≤ 64 * 100000 := Nat.mul_le_mul hby hc
  have := run_makeSlice (P := P) (w := w) t e i0 z ht hi0 hz0 .i64 .i64 (l : Int) (c : Int) (by omega) (by omega) (by simp; omega) (by rw [← Int.natCast_mul]; omega) (by omega)
  simpa using this
/-- runs of places that are all there -/
def RnsL (w : World) (n : Nat) (v : Value) (w' : World) : Prop :=
  ∃ br bo, v = .agg #[.slice (some ⟨br, 0, none⟩) (n + 1) (n + 1), .slice (some ⟨bo, 0, none⟩) (n + 1) (n + 1)] ∧ EV 189 w' br (flatR (layR (n + 1) (n + 1))) ∧ EB .i64 3 w' bo (zs (layO (n + 1) (n + 1))) ∧ w.heap.size ≤ br ∧ w.heap.size ≤ bo ∧ br ≠ bo ∧ Below w.heap.size w w'
theorem made_ints (n : Nat) : madeCells #[.int .i64 0] (n * 1) = ((zs (layO 0 n)).map (Value.int .i64)).toArray := by
  rw [layO_zero, Nat.mul_one]
  apply Array.ext
  · simp [size_madeCells]
  · intro i h1 h2
    simp [madeCells, Nat.mod_one]
theorem made_runs (n : Nat) : madeCells #[.int .i64 0, .int .i64 0] (n * 2) = (flatR (layR 0 n)).toArray := by
  rw [layR_zero]
  apply Array.ext
  · simp [size_madeCells]
  · intro i h1 h2
    rcases Nat.mod_two_eq_zero_or_one i with e | e <;> simp [madeCells, e]
theorem four (w : World) (a b c d : Obj) : ((((w.alloc a).alloc b).alloc c).alloc d).heap[w.heap.size]? = some a ∧ ((((w.alloc a).alloc b).alloc c).alloc d).heap[w.heap.size + 1]? = some b ∧ ((((w.alloc a).alloc b).alloc c).alloc d).heap[w.heap.size + 1 + 1]? = some c ∧ ((((w.alloc a).alloc b).alloc c).alloc d).heap[w.heap.size + 1 + 1 + 1]? = some d ∧ Below w.heap.size w ((((w.alloc a).alloc b).alloc c).alloc d) := by
  refine ⟨?_, ?_, ?_, ?_, ((((Below.refl _ w).alloc (Nat.le_refl _) _).alloc (by simp) _).alloc (by simp; omega) _).alloc (by simp; omega) _⟩
  · exact (Below.heap_alloc _ _ _ (by simp; omega)).trans ((Below.heap_alloc _ _ _ (by simp; omega)).trans ((Below.heap_alloc _ _ _ (by simp)).trans (heap_alloc_new w _)))
  · have := heap_alloc_new (w.alloc a) b
    rw [World.size_alloc] at this
    exact (Below.heap_alloc _ _ _ (by simp)).trans ((Below.heap_alloc _ _ _ (by simp)).trans this)
  · have := heap_alloc_new ((w.alloc a).alloc b) c
    rw [World.size_alloc, World.size_alloc] at this
    exact (Below.heap_alloc _ _ _ (by simp)).trans this
  · have := heap_alloc_new (((w.alloc a).alloc b).alloc c) d
    rw [World.size_alloc, World.size_alloc, World.size_alloc] at this
    exact this
noncomputable def runsD : TypeDesc := (Tryz.prog.underlying 89).get (by kernel_rfl)
structure LayI (i : Nat) (w : World) (n : Nat) (wx : World) (br bo B : Nat) : Prop where
  r : EV 189 wx br (flatR (layR i (n + 1)))
  q : EB .i64 3 wx bo (zs (layO i (n + 1)))
  l : EV 89 wx B [.slice (some ⟨br, 0, none⟩) (n + 1) (n + 1), .slice (some ⟨bo, 0, none⟩) (n + 1) (n + 1)]
  e : EV 89 wx w.heap.size [.slice none 0 0, .slice none 0 0]
  ne : w.heap.size < br ∧ w.heap.size < bo ∧ w.heap.size < B ∧ br ≠ bo ∧ B ≠ br ∧ B ≠ bo
  bel : Below w.heap.size w wx
theorem EV.far {t : TypeId} {w : World} {A : Nat} {L : List Value} (h : EV t w A L) {a : Addr} (ha : a.block ≠ A) (v : Value) : EV t (w.setCell a v) A L := (Below.heap_setCell _ _ _ _ (Ne.symm ha)).trans h
theorem LayI.step {i : Nat} {w : World} {n : Nat} {wx : World} {br bo B : Nat} (h : LayI i w n wx br bo B) (hi : i < n + 1) :
    LayI (i + 1) w n (((wx.setCell ⟨br, i * 2, none⟩ (.int .i64 i)).setCell ⟨br, i * 2 + 1, none⟩ (.int .i64 (i : Int))).setCell ⟨bo, i, none⟩ (.int .i64 i)) br bo B := by
  obtain ⟨n1, n2, n3, n4, n5, n6⟩ := h.ne
  refine ⟨?_, ?_, ?_, ?_, h.ne, ?_⟩
  · have := (h.r.set (i * 2) (.int .i64 i)).set (i * 2 + 1) (.int .i64 (i : Int))
    rw [flatR_set, layR_step i _ hi] at this
    exact EV.far this (Ne.symm n4) _
  · have := ((h.q.far (a := ⟨br, i * 2, none⟩) n4 (.int .i64 i)).far (a := ⟨br, i * 2 + 1, none⟩) n4 (.int .i64 (i : Int))).set i i
    rw [zs_set, layO_step i _ hi] at this
    exact this
  · exact EV.far (EV.far (EV.far h.l (Ne.symm n5) _) (Ne.symm n5) _) (Ne.symm n6) _
  · exact EV.far (EV.far (EV.far h.e (by show br ≠ _; omega) _) (by show br ≠ _; omega) _) (by show bo ≠ _; omega) _
  · exact ((h.bel.setCell (by show _ ≤ br; omega) _).setCell (by show _ ≤ br; omega) _).setCell (by show _ ≤ bo; omega) _
set_option maxRecDepth 100000 in
set_option maxHeartbeats 3200000 in
theorem runsOf_any (w : World) (n : Nat) (hn : n ≤ 8192) :
    Calls Tryz.prog 126 #[.int .i64 n] w fun e w' => ∃ v, e = .returned v ∧ RnsL w n v w' := by
  have hm1 : ∀ w : World, (Instr.makeSlice 86 (.int .i64 ((n : Int) + 1)) (.int .i64 ((n : Int) + 1))).run Tryz.prog w = .ok (.slice (some ⟨w.heap.size, 0, none⟩) (n + 1) (n + 1)) (w.alloc (.cells (flatR (layR 0 (n + 1))).toArray 189)) := fun w => by
    have := made_anyP info_runP (by decide) (by decide) under_runsP w (n + 1) (n + 1) (by omega) (by omega)
    rw [show ((n + 1 : Nat) : Int) = (n : Int) + 1 by omega] at this
    rw [← made_runs]
    exact this
  have hm2 : ∀ w : World, (Instr.makeSlice 87 (.int .i64 ((n : Int) + 1)) (.int .i64 ((n : Int) + 1))).run Tryz.prog w = .ok (.slice (some ⟨w.heap.size, 0, none⟩) (n + 1) (n + 1)) (w.alloc (.cells ((zs (layO 0 (n + 1))).map (Value.int .i64)).toArray 3)) := fun w => by
    have := made_anyP info_intP (by decide) (by decide) under_intsP w (n + 1) (n + 1) (by omega) (by omega)
    rw [show ((n + 1 : Nat) : Int) = (n : Int) + 1 by omega] at this
    rw [← made_ints]
    exact this
  go_enter Tryz.func126, Tryz.ntmps126
  go_upto_region 1 with fail
  go_cut [3] from 5 to 11 (fun v wx => ∃ br bo B : Nat, v = .pointer (some ⟨B, 0, none⟩) ∧ Hid (LayI 0 w n wx br bo B))
  case first =>
    generalize hF : (flatR (layR 0 (n + 1))).toArray = F at hm1
    generalize hG : ((zs (layO 0 (n + 1))).map (Value.int .i64)).toArray = G at hm2
    have HF := Lib.hid hF
    have HG := Lib.hid hG
    clear hF hG
    go_region
    all_goals go_wp2_with fail
    all_goals go_meet
    all_goals
      (obtain ⟨f0, f1, f2, f3, f4⟩ := four w _ _ _ _
       first
         | exact ⟨w.heap.size + 1, w.heap.size + 1 + 1, w.heap.size + 1 + 1 + 1, rfl, Lib.hid ⟨by show _ = some (Obj.cells _ _ _); rw [HF.out]; exact f1, by show _ = some (Obj.cells _ _ _); rw [HG.out]; exact f2, f3, f0, by omega, f4.drew⟩⟩
         | exact ⟨w.heap.size + 1, w.heap.size + 1 + 1 + 1, w.heap.size + 1 + 1, rfl, Lib.hid ⟨by show _ = some (Obj.cells _ _ _); rw [HF.out]; exact f1, by show _ = some (Obj.cells _ _ _); rw [HG.out]; exact f3, f2, f0, by omega, f4.drew⟩⟩
         | exact ⟨w.heap.size + 1 + 1, w.heap.size + 1, w.heap.size + 1 + 1 + 1, rfl, Lib.hid ⟨by show _ = some (Obj.cells _ _ _); rw [HF.out]; exact f2, by show _ = some (Obj.cells _ _ _); rw [HG.out]; exact f1, f3, f0, by omega, f4.drew⟩⟩
         | exact ⟨w.heap.size + 1 + 1, w.heap.size + 1 + 1 + 1, w.heap.size + 1, rfl, Lib.hid ⟨by show _ = some (Obj.cells _ _ _); rw [HF.out]; exact f2, by show _ = some (Obj.cells _ _ _); rw [HG.out]; exact f3, f1, f0, by omega, f4.drew⟩⟩
         | exact ⟨w.heap.size + 1 + 1 + 1, w.heap.size + 1, w.heap.size + 1 + 1, rfl, Lib.hid ⟨by show _ = some (Obj.cells _ _ _); rw [HF.out]; exact f3, by show _ = some (Obj.cells _ _ _); rw [HG.out]; exact f1, f2, f0, by omega, f4.drew⟩⟩
         | exact ⟨w.heap.size + 1 + 1 + 1, w.heap.size + 1 + 1, w.heap.size + 1, rfl, Lib.hid ⟨by show _ = some (Obj.cells _ _ _); rw [HF.out]; exact f3, by show _ = some (Obj.cells _ _ _); rw [HG.out]; exact f2, f1, f0, by omega, f4.drew⟩⟩)
  case rest =>
    clear hm1 hm2
    obtain ⟨br, bo, B, rfl, HL⟩ := hcut
    have d2 := HL.out.l.cell (i := 1) rfl
    go_wp2
    go_loopw [15] (fun v wr => ∃ i : Nat, i ≤ n + 1 ∧ v = .int .i64 i ∧ Hid (LayI i w n wr br bo B)) (fun v _ => n + 1 - (intOf v).toNat)
    case atStart => exact ⟨0, Nat.zero_le _, rfl, HL⟩
    case round =>
      clear HL d2
      obtain ⟨i, hi, rfl, HL⟩ := hrel
      by_cases hlt : i < n + 1
      · have hltz : (i : Int) < n + 1 := by omega
        have d1 := HL.out.l.cell (i := 0) rfl
        have d2 := HL.out.l.cell (i := 1) rfl
        obtain ⟨⟨a, b⟩, hab⟩ : ∃ x, (layR i (n + 1))[i]? = some x := ⟨_, List.getElem?_eq_getElem (by simp [layR]; omega)⟩
        have d3 := HL.out.r.cell (flatR_get _ hab).1
        have d4 := HL.out.r.cell (flatR_get _ hab).2
        have d5 := HL.out.r.free (i * 2)
        have d6 := HL.out.r.free (i * 2 + 1)
        obtain ⟨v, hv⟩ : ∃ v, (zs (layO i (n + 1)))[i]? = some v := ⟨_, List.getElem?_eq_getElem (by simp [layO, zs]; omega)⟩
        have d7 := HL.out.q.cell hv
        have d8 := HL.out.q.free i
        have hne := HL.out.ne
        have hs := HL.out.step hlt
        have HS := Lib.hid hs
        clear hab hv hs
        go_wp2
        go_roundw
        case rel => exact ⟨i + 1, by omega, by go_num, HS⟩
        case measure => simp [intOf]; omega
      · have hltz : ¬ (i : Int) < n + 1 := by omega
        obtain rfl : i = n + 1 := by omega
        have d0 := HL.out.l.cell (i := 0) rfl
        have d1 := HL.out.l.cell (i := 1) rfl
        have e0 := HL.out.e.cell (i := 0) rfl
        have e1 := HL.out.e.cell (i := 1) rfl
        have e3 := HL.out.e.free 0
        have e4 := HL.out.e.free 1
        have hE := (HL.out.e.set 0 (.slice (some ⟨br, 0, none⟩) (n + 1) (n + 1))).set 1 (.slice (some ⟨bo, 0, none⟩) (n + 1) (n + 1))
        have HE := Lib.hid hE
        obtain ⟨n1, n2, n3, n4, n5, n6⟩ := HL.out.ne
        have HR := Lib.hid (EV.far (EV.far HL.out.r (a := ⟨w.heap.size, 0, none⟩) (by show w.heap.size ≠ _; omega) (.slice (some ⟨br, 0, none⟩) (n + 1) (n + 1))) (a := ⟨w.heap.size, 1, none⟩) (by show w.heap.size ≠ _; omega) (.slice (some ⟨bo, 0, none⟩) (n + 1) (n + 1)))
        have HQ := Lib.hid ((HL.out.q.far (a := ⟨w.heap.size, 0, none⟩) (by show w.heap.size ≠ _; omega) (.slice (some ⟨br, 0, none⟩) (n + 1) (n + 1))).far (a := ⟨w.heap.size, 1, none⟩) (by show w.heap.size ≠ _; omega) (.slice (some ⟨bo, 0, none⟩) (n + 1) (n + 1)))
        have HBB := Lib.hid ((HL.out.bel.setCell (p := ⟨w.heap.size, 0, none⟩) (Nat.le_refl _) (.slice (some ⟨br, 0, none⟩) (n + 1) (n + 1))).setCell (p := ⟨w.heap.size, 1, none⟩) (Nat.le_refl _) (.slice (some ⟨bo, 0, none⟩) (n + 1) (n + 1)))
        clear hE n1 n2 n3 n5 n6
        go_wp2
        refine bodyPost_ret (results_cell_row (p := 2) (ty := 89) rfl _ _ w.heap.size _ _ _ runsD rfl HE.out (Option.some_get _).symm (by kernel_rfl) (by kernel_rfl)) rfl ?_
        exact ⟨_, rfl, br, bo, rfl, HR.out, HQ.out, by have := HL.out.ne; omega, by have := HL.out.ne; omega, n4, HBB.out⟩
end Go.Proofs.YtajpboclicnopaaGreat
