/-
  A line in memory: behind, there, end. No condition but those typed at each theorem.
-/
import Derived.Test.YtbpeoaceoefdpaaGreatIm
import Derived.Test.YtbpeoaceoefdpaaGreatIp
import Derived.Test.YtbpeoaceoefdpaaGreatMGen
namespace Go.Proofs.YtbpeoaceoefdpaaGreat.Iv
open Go.RowKit

def zs (O : List Nat) : List Int := O.map (fun x : Nat => (x : Int))
theorem zs_get (O : List Nat) {p r : Nat} (h : O[p]? = some r) : (zs O)[p]? = some (r : Int) := by simp [zs, h]
theorem zs_set (O : List Nat) (p k : Nat) : (zs O).set p (k : Int) = zs (O.set p k) := by simp [zs]
theorem zs_len (O : List Nat) : (zs O).length = O.length := by simp [zs]
/-- runs, cell by cell -/
def flatR (R : List (Nat × Nat)) : List Value := R.flatMap (fun r => [.int .i64 r.1, .int .i64 r.2])
theorem flatR_len (R : List (Nat × Nat)) : (flatR R).length = R.length * 2 := by
  induction R with
  | nil => rfl
  | cons a R ih => simp only [flatR, List.flatMap_cons, List.length_append, List.length_cons, List.length_nil] at ih ⊢; omega
theorem flatR_get (R : List (Nat × Nat)) {k f e : Nat} (h : R[k]? = some (f, e)) : (flatR R)[k * 2]? = some (.int .i64 f) ∧ (flatR R)[k * 2 + 1]? = some (.int .i64 e) := by
  induction R generalizing k with
  | nil => simp at h
  | cons a R ih =>
    cases k with
    | zero => simp at h; subst h; simp [flatR]
    | succ k =>
      have := ih (k := k) (by simpa using h)
      rw [show (k + 1) * 2 = k * 2 + 1 + 1 by omega, show k * 2 + 1 + 1 + 1 = (k * 2 + 1) + 1 + 1 by omega]
      simpa [flatR] using this
theorem flatR_set (R : List (Nat × Nat)) (k f e : Nat) : ((flatR R).set (k * 2) (.int .i64 f)).set (k * 2 + 1) (.int .i64 e) = flatR (R.set k (f, e)) := by
  induction R generalizing k with
  | nil => simp [flatR]
  | cons a R ih =>
    cases k with
    | zero => simp [flatR]
    | succ k =>
      have := ih k
      rw [show (k + 1) * 2 = k * 2 + 1 + 1 by omega, show k * 2 + 1 + 1 + 1 = (k * 2 + 1) + 1 + 1 by omega]
      simp only [flatR, List.flatMap_cons, List.cons_append, List.nil_append, List.set_cons_succ] at this ⊢
      rw [this]
theorem offN {S : List Nat} {w X : World} (h : Off S w X) (n : Nat) : Off S w (X.drewN n) := ⟨h.os, h.tape, h.output, h.size, h.block⟩
/-- a line: its spans, its runs, of each place the run that has it; those of A are there -/
structure LnM (w : World) (b o : Nat) (SP A : List S3) (p : Option Addr) (c br bo : Nat) (R : List (Nat × Nat)) (O : List Nat) : Prop where
  sp : w.cell? ⟨b, o, none⟩ = some (.slice p SP.length c)
  rs : w.cell? ⟨b, o + 1, none⟩ = some (.slice (some ⟨br, 0, none⟩) (SP.length + 1) (SP.length + 1))
  os : w.cell? ⟨b, o + 2, none⟩ = some (.slice (some ⟨bo, 0, none⟩) (SP.length + 1) (SP.length + 1))
  ts : TsS w p SP
  room : SP.length ≤ c
  rb : EV 123 w br (flatR R)
  ob : EB .i64 3 w bo (zs O)
  inv : LnI SP.length (alA SP A) R O
  few : SP.length ≤ 8192
  ne : b ≠ br ∧ b ≠ bo ∧ br ≠ bo ∧ ∀ x off, p = some ⟨x, off, none⟩ → x ≠ br ∧ x ≠ bo
section
variable {w w' : World} {b o : Nat} {SP A : List S3} {p : Option Addr} {c br bo : Nat} {R : List (Nat × Nat)} {O : List Nat}
theorem LnM.off (h : LnM w b o SP A p c br bo R O) {S : List Nat} (g : Off S w w') (h1 : b ∉ S) (h2 : br ∉ S) (h3 : bo ∉ S) (h4 : ∀ x off, p = some ⟨x, off, none⟩ → SP ≠ [] → x ∉ S) : LnM w' b o SP A p c br bo R O :=
  ⟨g.cell h.sp h1, g.cell h.rs h1, g.cell h.os h1, h.ts.off g h4, h.room, h.rb.off g h2, h.ob.off g h3, h.inv, h.few, h.ne⟩
theorem LnM.keep (h : LnM w b o SP A p c br bo R O) (hb : Below w.heap.size w w') : LnM w' b o SP A p c br bo R O :=
  h.off (Off.of (S := []) hb (Nat.le_refl _)) (by simp) (by simp) (by simp) (fun _ _ _ _ => by simp)
/-- a run's cells -/
theorem LnM.cr (h : LnM w b o SP A p c br bo R O) {k f e : Nat} (hk : R[k]? = some (f, e)) : w.cell? ⟨br, k * 2, none⟩ = some (.int .i64 f) ∧ w.cell? ⟨br, k * 2 + 1, none⟩ = some (.int .i64 e) :=
  ⟨h.rb.cell (flatR_get R hk).1, h.rb.cell (flatR_get R hk).2⟩
theorem LnM.co (h : LnM w b o SP A p c br bo R O) {q r : Nat} (hq : O[q]? = some r) : w.cell? ⟨bo, q, none⟩ = some (.int .i64 r) := h.ob.cell (zs_get O hq)

set_option maxRecDepth 100000 in
set_option maxHeartbeats 800000 in
theorem behind_any (h : LnM w b o SP A p c br bo R O) {q r f e : Nat} (hq : q ≤ SP.length) (h1 : O[q]? = some r) (h2 : R[r]? = some (f, e)) :
    Calls Tryz.prog 67 #[.pointer (some ⟨b, o, none⟩), .int .i64 q] w fun x w' => x = .returned (.int .i64 e) ∧ Below w.heap.size w w' := by
  have c1 := h.rs
  have c2 := h.os
  have c3 := h.co h1
  have c4 := (h.cr h2).2
  have hr : r < SP.length + 1 := by have := (List.getElem?_eq_some_iff.1 h2).1; rw [h.inv.lenR] at this; exact this
  have hn := h.few
  generalize SP.length = n at *
  clear h h1 h2
  go_enter Tryz.func67, Tryz.ntmps67
  go_upto_region 1 with fail
  go_quiet (fail)
  go_wp2
  go_ret
  exact ⟨rfl, drewB (Below.refl _ _)⟩

set_option maxRecDepth 100000 in
set_option maxHeartbeats 800000 in
theorem there_any (h : LnM w b o SP A p c br bo R O) {q : Nat} (h0 : 1 ≤ q) (hq : q ≤ SP.length) :
    Calls Tryz.prog 51 #[.pointer (some ⟨b, o, none⟩), .int .i64 q] w fun x w' => x = .returned (.bool (alA SP A q)) ∧ Below w.heap.size w w' := by
  obtain ⟨r, f, e, h1, h2, -⟩ := h.inv.run q hq
  have hf := h.inv.first hq h0 h1 h2
  have c1 := h.rs
  have c2 := h.os
  have c3 := h.co h1
  have c4 := (h.cr h2).1
  have hr : r < SP.length + 1 := by have := (List.getElem?_eq_some_iff.1 h2).1; rw [h.inv.lenR] at this; exact this
  have hn := h.few
  generalize alA SP A q = y at *
  generalize SP.length = n at *
  clear h h1 h2
  go_enter Tryz.func51, Tryz.ntmps51
  go_upto_region 1 with fail
  go_quiet (fail)
  go_wp2
  go_ret
  refine ⟨retb ?_, drewB (Below.refl _ _)⟩
  rw [← hf]
  simp
  omega

set_option maxRecDepth 100000 in
theorem end_any (h : LnM w b o SP A p c br bo R O) :
    Calls Tryz.prog 27 #[.pointer (some ⟨b, o, none⟩)] w fun x w' => x = .returned (.int .i64 SP.length) ∧ w' = w := by
  have c1 := h.sp
  generalize SP.length = n at *
  clear h
  go_enter Tryz.func27, Tryz.ntmps27
  go_wp2
  go_ret
  exact ⟨rfl, rfl⟩

set_option maxRecDepth 100000 in
set_option maxHeartbeats 3200000 in
theorem join_any (h : LnM w b o SP A p c br bo R O) {q : Nat} (h0 : 1 ≤ q) (hq : q ≤ SP.length) (ha : alA SP A q = true) (A' : List S3) (hA : ∀ x, alA SP A' x = (alA SP A x && decide (x ≠ q))) :
    Calls Tryz.prog 52 #[.pointer (some ⟨b, o, none⟩), .int .i64 q] w fun x w' => x = .returned (.tuple #[]) ∧ (∃ R' O', LnM w' b o SP A' p c br bo R' O') ∧ Off [br, bo] w w' := by
  obtain ⟨k, fk, ek, a1, a2, a3, a4, a5, -⟩ := h.inv.run (q - 1) (by omega)
  obtain ⟨l, fl, el, b1, b2, b3, b4, b5, -⟩ := h.inv.run q hq
  obtain ⟨e1, e2, g1, g2, g3, hJ⟩ := h.inv.join h0 hq ha a1 b1 a2 b2
  have e1 := e1.symm
  have e2 := e2.symm
  subst e1
  subst e2
  clear e1 e2 g1 g2 g3
  obtain ⟨J1, J2⟩ := hJ _ hA
  have c1 := h.rs
  have c2 := h.os
  have c3 := h.co a1
  have c4 := h.co b1
  have c5 := (h.cr a2).1
  have c6 := (h.cr b2).2
  have c5' := (h.cr a2).2
  have c6' := (h.cr b2).1
  have hk : k < SP.length + 1 := by have := (List.getElem?_eq_some_iff.1 a2).1; rw [h.inv.lenR] at this; exact this
  have hl : l < SP.length + 1 := by have := (List.getElem?_eq_some_iff.1 b2).1; rw [h.inv.lenR] at this; exact this
  have hn := h.few
  have z1 : b < w.heap.size := World.block_lt_of_cell? w _ c1
  have z2 : br < w.heap.size := h.rb.lt
  have z3 : bo < w.heap.size := h.ob.lt
  have H := Lib.hid h
  have HJ1 := Lib.hid J1
  have HJ2 := Lib.hid J2
  have HA2 := Lib.hid a2
  have HB2 := Lib.hid b2
  obtain ⟨n, en⟩ : ∃ n, n = SP.length := ⟨_, rfl⟩
  have EN := Lib.hid en
  rw [← en] at c1 c2 hk hl hn hq b5
  clear h a1 b1 a2 b2 J1 J2 hJ ha hA en a5
  go_enter Tryz.func52, Tryz.ntmps52
  go_upto_region 0 with fail
  go_quiet (fail)
  have d1 : ((w.drewN (nq + 1)).alloc (.cells #[.int .i64 0, .int .i64 0] 123)).cell? ⟨b, o + 1, none⟩ = some (.slice (some ⟨br, 0, none⟩) (n + 1) (n + 1)) := cell_al _ c1
  have d2 : ((w.drewN (nq + 1)).alloc (.cells #[.int .i64 0, .int .i64 0] 123)).cell? ⟨br, k * 2, none⟩ = some (.int .i64 fk) := cell_al _ c5
  have d3 : ((w.drewN (nq + 1)).alloc (.cells #[.int .i64 0, .int .i64 0] 123)).cell? ⟨br, l * 2 + 1, none⟩ = some (.int .i64 el) := cell_al _ c6
  have d0 := Own.new (w.drewN (nq + 1)) [.int .i64 0, .int .i64 0] 123 (n := w.heap.size) rfl
  have d4 := d0.1 0 _ rfl
  have d5 := d0.1 1 _ rfl
  have d6 := d0.2 0
  have d7 := d0.2 1
  clear d0
  go_upto_region 1 with fail
  go_region
  obtain ⟨X, hX⟩ : ∃ X, X = ((((w.drewN (nq + 1)).alloc (.cells #[.int .i64 0, .int .i64 0] 123)).setCell ⟨w.heap.size, 0, none⟩ (.int .i64 fk)).setCell ⟨w.heap.size, 1, none⟩ (.int .i64 el)) := ⟨_, rfl⟩
  rw [← hX]
  have HB : Hid (Off [] w X) := by
    refine Lib.hid ?_
    rw [hX]
    exact (((offN (Off.refl _ w) _).all _).set _ _ (.inr (Nat.le_refl _))).set _ _ (.inr (Nat.le_refl _))
  have g1 : X.cell? ⟨w.heap.size, 0, none⟩ = some (.int .i64 fk) := by
    rw [hX, World.cell?_setCell_other _ _ _ _ (by simp)]
    exact World.cell?_setCell_same' _ _ _ (by rw [d4]; rfl)
  have g2 : X.cell? ⟨w.heap.size, 1, none⟩ = some (.int .i64 el) := by
    rw [hX]
    exact World.cell?_setCell_same' _ _ _ (by rw [World.cell?_setCell_other _ _ _ _ (by simp), d5]; rfl)
  clear d1 d2 d3 d4 d5 d6 d7 hX
  have x1 := HB.out.cell c1 (by simp)
  have x2 := HB.out.cell c2 (by simp)
  have x5 := HB.out.cell c5 (by simp)
  have x6 := HB.out.cell c6 (by simp)
  have x5' := HB.out.cell c5' (by simp)
  have x6' := HB.out.cell c6' (by simp)
  have hne := H.out.ne
  have HG : Hid (w.heap.size ≠ br ∧ w.heap.size ≠ bo) := Lib.hid ⟨by omega, by omega⟩
  clear c1 c2 c3 c4 c5 c6 c5' c6'
  have hko := Lib.hid (zs_len O)
  rcases Decidable.em ((q : Int) - fk < el - q) with hsw | hsw
  case' inl =>
    have HR := Lib.hid (⟨by have := HA2.out; exact (List.getElem?_eq_some_iff.1 HB2.out).1, a3⟩ : l < R.length ∧ fk ≤ q - 1)
    obtain ⟨fa, efa⟩ : ∃ fa, fa = fk := ⟨_, rfl⟩
    obtain ⟨ea, eea⟩ : ∃ ea, ea = q := ⟨_, rfl⟩
    have xa : X.cell? ⟨br, k * 2, none⟩ = some (.int .i64 fa) := by rw [efa]; exact x5
    have xb : X.cell? ⟨br, k * 2 + 1, none⟩ = some (.int .i64 ea) := by rw [eea]; exact x5'
    have xc := Lib.hid (⟨⟨_, x6⟩, ⟨_, x6'⟩⟩ : (∃ v : Nat, X.cell? ⟨br, l * 2 + 1, none⟩ = some (.int .i64 v)) ∧ (∃ v : Nat, X.cell? ⟨br, l * 2, none⟩ = some (.int .i64 v)))
    have hfe : fa ≤ ea ∧ ea ≤ n + 1 := by omega
    have HI : Hid (LnI SP.length (alA SP A') (R.set l (fk, el)) (own O fa ea l)) := by rw [efa, eea]; exact HJ2
    clear x5 x6 x5' x6' efa eea
    obtain ⟨ls, els⟩ : ∃ ls, ls = k := ⟨_, rfl⟩
    obtain ⟨kt, ekt⟩ : ∃ kt, kt = l := ⟨_, rfl⟩
    subst els
    subst ekt
  case' inr =>
    have HR := Lib.hid (⟨by have := HB2.out; exact (List.getElem?_eq_some_iff.1 HA2.out).1, a3⟩ : k < R.length ∧ fk ≤ q - 1)
    obtain ⟨fa, efa⟩ : ∃ fa, fa = q := ⟨_, rfl⟩
    obtain ⟨ea, eea⟩ : ∃ ea, ea = el := ⟨_, rfl⟩
    have xa : X.cell? ⟨br, l * 2, none⟩ = some (.int .i64 fa) := by rw [efa]; exact x6'
    have xb : X.cell? ⟨br, l * 2 + 1, none⟩ = some (.int .i64 ea) := by rw [eea]; exact x6
    have xc := Lib.hid (⟨⟨_, x5'⟩, ⟨_, x5⟩⟩ : (∃ v : Nat, X.cell? ⟨br, k * 2 + 1, none⟩ = some (.int .i64 v)) ∧ (∃ v : Nat, X.cell? ⟨br, k * 2, none⟩ = some (.int .i64 v)))
    have hfe : fa ≤ ea ∧ ea ≤ n + 1 := by omega
    have HI : Hid (LnI SP.length (alA SP A') (R.set k (fk, el)) (own O fa ea k)) := by rw [efa, eea]; exact HJ1
    clear x5 x6 x5' x6' efa eea
    obtain ⟨ls, els⟩ : ∃ ls, ls = l := ⟨_, rfl⟩
    obtain ⟨kt, ekt⟩ : ∃ kt, kt = k := ⟨_, rfl⟩
    subst els
    subst ekt
  all_goals
    (clear HJ1 HJ2 HA2 HB2
     obtain ⟨hf1, hf2⟩ := hfe
     go_wp2
     go_loopw [7] (fun v wr => ∃ at_ : Nat, fa ≤ at_ ∧ at_ ≤ ea ∧ v = .int .i64 at_ ∧ Hid (EB .i64 3 wr bo (zs (own O fa at_ kt))) ∧ Hid (Off [bo] X wr)) (fun v _ => ea - (intOf v).toNat)
     case atStart => exact ⟨fa, Nat.le_refl _, hf1, rfl, Lib.hid (by rw [own_none]; exact H.out.ob.off HB.out (by simp)), Lib.hid (Off.refl _ _)⟩
     case round =>
       obtain ⟨t, h1, h2, rfl, HE, HO⟩ := hrel
       have y1 := HO.out.cell x1 (by simp; exact H.out.ne.2.1)
       have y2 := HO.out.cell x2 (by simp; exact H.out.ne.2.1)
       have yb := HO.out.cell xb (by simp; exact H.out.ne.2.2.1)
       by_cases hlt : t < ea
       · have hlz : (t : Int) < ea := by omega
         have htn : t < n + 1 := by omega
         obtain ⟨v0, hv0⟩ : ∃ v, (zs (own O fa t kt))[t]? = some v := ⟨_, List.getElem?_eq_getElem (by rw [zs_len, own_len, H.out.inv.lenO, ← EN.out]; exact htn)⟩
         have y3 := HE.out.cell hv0
         have y4 := HE.out.free t
         clear hv0
         go_wp2
         go_roundw
         case rel =>
           refine ⟨t + 1, by omega, by omega, by go_num, Lib.hid ?_, Lib.hid (HO.out.set _ _ (.inl (by simp)))⟩
           rw [← own_step O fa t kt (by rw [H.out.inv.lenO, ← EN.out]; exact htn) h1, ← zs_set]
           exact HE.out.set t kt
         case measure => simp [intOf]; omega
       · have hlz : ¬ (t : Int) < ea := by omega
         obtain rfl : t = ea := by omega
         obtain ⟨⟨v1, xc1⟩, ⟨v2, xc2⟩⟩ := xc.out
         have y3 := HO.out.cell xc1 (by simp; exact H.out.ne.2.2.1)
         have y4 := HO.out.cell xc2 (by simp; exact H.out.ne.2.2.1)
         have HRB := Lib.hid ((H.out.rb.off HB.out (by simp)).off HO.out (by simp; exact H.out.ne.2.2.1))
         have y5 := HRB.out.free (kt * 2)
         have y6 := HRB.out.free (kt * 2 + 1)
         have y7 := HO.out.cell g1 (by simp; exact HG.out.2)
         have y8 := HO.out.cell g2 (by simp; exact HG.out.2)
         clear xc1 xc2 x1 x2 xb g1 g2
         go_upto_region 8 with fail
         go_region
         go_wp2
         go_end0
         have hn4 := H.out.ne
         have HF := ((((HB.out.mono (T := [br, bo]) (fun _ _ hk => by cases hk)).via HO.out (fun _ _ hk => by rw [List.mem_singleton.1 hk]; simp)).set ⟨br, kt * 2, none⟩ (.int .i64 fk) (.inl (by simp))).set ⟨br, kt * 2 + 1, none⟩ (.int .i64 el) (.inl (by simp))).drew
         refine ⟨rfl, ⟨R.set kt (fk, el), own O fa t kt, HF.cell H.out.sp (by simp; exact ⟨hn4.1, hn4.2.1⟩), HF.cell H.out.rs (by simp; exact ⟨hn4.1, hn4.2.1⟩), HF.cell H.out.os (by simp; exact ⟨hn4.1, hn4.2.1⟩), H.out.ts.off HF (fun x off e _ => by have := hn4.2.2.2 x off e; simp; exact this), H.out.room, ?_, ((HE.out.far (by exact hn4.2.2.1) _).far (by exact hn4.2.2.1) _).drew, HI.out, H.out.few, hn4⟩, HF⟩
         rw [← flatR_set]
         exact (HRB.out.set _ _).set _ _)
end
end Go.Proofs.YtbpeoaceoefdpaaGreat.Iv
