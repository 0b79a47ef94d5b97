/-
  A node's list in memory: how a list is made. No condition but those typed at each theorem.
-/
import Derived.Test.YtaaiblhedanogaaGreatBl
import Derived.Deep.RegionHeld3
import Derived.Deep.RegionWith
namespace Go.Proofs.YtaaiblhedanogaaGreat.Bd
open Go.RowKit Go.Sort

/-! ### a list is made -/
/-- a list's value -/
def lsv (va vn : Value) (br bo bs n : Nat) : Value := .agg #[va, vn, .slice (some ⟨br, 0, none⟩) (n + 1) (n + 1), .slice (some ⟨bo, 0, none⟩) (n + 1) (n + 1), .slice (some ⟨bs, 0, none⟩) n n]
/-- what stands while a list is made -/
structure LoW (w X : World) (va vn : Value) : Prop where
  c0 : X.cell? ⟨w.heap.size, 0, none⟩ = some va
  c1 : X.cell? ⟨w.heap.size, 1, none⟩ = some vn
  ev : EV 78 X (w.heap.size + 1) [.slice none 0 0, .slice none 0 0, .slice none 0 0, .slice none 0 0, .slice none 0 0]
  bel : Below w.heap.size w X
  sz : w.heap.size + 2 ≤ X.heap.size
theorem LoW.keep {w X Y : World} {va vn : Value} (h : LoW w X va vn) (hb : Below X.heap.size X Y) : LoW w Y va vn :=
  ⟨(hb.cell (World.block_lt_of_cell? _ _ h.c0)).trans h.c0, (hb.cell (World.block_lt_of_cell? _ _ h.c1)).trans h.c1, h.ev.keep hb h.ev.lt, h.bel.trans (hb.mono h.bel.size), Nat.le_trans h.sz hb.size⟩
/-- a list that is made: its blocks -/
def LofR (w : World) (va vn : Value) (n : Nat) (e : Ending) (w' : World) : Prop :=
  ∃ br bo bs : Nat, e = .returned (lsv va vn br bo bs n) ∧ EV 147 w' br (flatR (layR (n + 1) (n + 1))) ∧ EB .i64 3 w' bo (zs (layO (n + 1) (n + 1))) ∧ EB .i64 3 w' bs (zs (List.replicate n 0)) ∧ (w.heap.size ≤ br ∧ w.heap.size ≤ bo ∧ w.heap.size ≤ bs ∧ br ≠ bo ∧ bo ≠ bs ∧ br ≠ bs) ∧ Below w.heap.size w w'
noncomputable def listD : TypeDesc := (Tryz.prog.underlying 78).get (by kernel_rfl)
/-- the five cells written -/
def five (X : World) (b : Nat) (u0 u1 u2 u3 u4 : Value) : World := ((((X.setCell ⟨b, 0, none⟩ u0).setCell ⟨b, 1, none⟩ u1).setCell ⟨b, 2, none⟩ u2).setCell ⟨b, 3, none⟩ u3).setCell ⟨b, 4, none⟩ u4
theorem five_ev {X : World} {b : Nat} {t : TypeId} {a0 a1 a2 a3 a4 : Value} (h : EV t X b [a0, a1, a2, a3, a4]) (u0 u1 u2 u3 u4 : Value) : EV t (five X b u0 u1 u2 u3 u4) b [u0, u1, u2, u3, u4] :=
  ((((h.set 0 u0).set 1 u1).set 2 u2).set 3 u3).set 4 u4
theorem five_off {X : World} {b : Nat} (u0 u1 u2 u3 u4 : Value) : Off [b] X (five X b u0 u1 u2 u3 u4) :=
  (((((Off.refl [b] X).set _ _ (.inl (by simp))).set _ _ (.inl (by simp))).set _ _ (.inl (by simp))).set _ _ (.inl (by simp))).set _ _ (.inl (by simp))
theorem lof_end {w W w1 w2 : World} {va vn : Value} {br bo bs n : Nat} (L0 : LoW w W va vn) (L2 : LoW w w2 va vn) (R1 : EV 147 w1 br (flatR (layR (n + 1) (n + 1)))) (R2 : EB .i64 3 w1 bo (zs (layO (n + 1) (n + 1))))
    (R3 : W.heap.size ≤ br) (R4 : W.heap.size ≤ bo) (R5 : br ≠ bo) (D1 : EB .i64 3 w2 bs (zs (List.replicate n 0))) (D2 : w1.heap.size ≤ bs) (D3 : Below w1.heap.size w1 w2) {u0 u1 u2 u3 u4 : Value} :
    EV 147 (five w2 (w.heap.size + 1) u0 u1 u2 u3 u4) br (flatR (layR (n + 1) (n + 1))) ∧ EB .i64 3 (five w2 (w.heap.size + 1) u0 u1 u2 u3 u4) bo (zs (layO (n + 1) (n + 1))) ∧ EB .i64 3 (five w2 (w.heap.size + 1) u0 u1 u2 u3 u4) bs (zs (List.replicate n 0)) ∧ (w.heap.size ≤ br ∧ w.heap.size ≤ bo ∧ w.heap.size ≤ bs ∧ br ≠ bo ∧ bo ≠ bs ∧ br ≠ bs) ∧ Below w.heap.size w (five w2 (w.heap.size + 1) u0 u1 u2 u3 u4) := by
  have h0 := L0.sz
  have h1 := R1.lt
  have h2 := R2.lt
  have ho := five_off (X := w2) (b := w.heap.size + 1) u0 u1 u2 u3 u4
  refine ⟨(R1.keep D3 h1).off ho (by simp; omega), (R2.keep D3 h2).off ho (by simp; omega), D1.off ho (by simp; omega), ⟨by omega, by omega, by omega, R5, by omega, by omega⟩, L2.bel.trans (ho.below L2.bel.size (by simp))⟩
set_option maxRecDepth 100000 in
set_option maxHeartbeats 3200000 in
theorem listOf_any (w : World) (pa : Option Addr) (ca n : Nat) (vn : Value) (hv : ∃ p m c, vn = .slice p m c) (hn : n ≤ 8192) :
    Calls Tryz.prog 71 #[.agg #[.slice pa n ca, vn]] w (LofR w (.slice pa n ca) vn n) := by
  obtain ⟨pn, mn, cn, rfl⟩ := hv
  have HR := Lib.hid (fun X => runsOf_any X n hn)
  have HD := Lib.hid (fun X => dropsOf_any X n hn)
  go_enter Tryz.func71, Tryz.ntmps71
  go_wp2_with fail
  obtain ⟨W, hW⟩ : ∃ W, W = (w.alloc (.cells #[.slice pa n ca, .slice pn mn cn] 61)).alloc (.cells #[.slice none 0 0, .slice none 0 0, .slice none 0 0, .slice none 0 0, .slice none 0 0] 78) := ⟨_, rfl⟩
  have L0 : LoW w W (.slice pa n ca) (.slice pn mn cn) := by
    subst hW
    refine ⟨?_, ?_, ?_, ((Below.refl _ w).alloc (Nat.le_refl _) _).alloc (by simp) _, by simp⟩
    · rw [World.cell?_alloc_lt _ _ _ (by simp)]; simp
    · rw [World.cell?_alloc_lt _ _ _ (by simp)]; simp
    · have := heap_alloc_new (w.alloc (.cells #[.slice pa n ca, .slice pn mn cn] 61)) (.cells #[.slice none 0 0, .slice none 0 0, .slice none 0 0, .slice none 0 0, .slice none 0 0] 78)
      rw [World.size_alloc] at this
      exact this
  rw [← hW]
  have HL0 := Lib.hid L0
  have x0 := L0.c0
  have x1 := L0.c1
  clear hW L0
  go_region_with (first
      | (go_at_call 95; refine (HR.out _).mono ?_; rintro e w1 ⟨v, rfl, br, bo, rfl, r1, r2, r3, r4, r5, r6⟩; have L1 := LoW.keep HL0.out (by first | exact r6 | exact undrew r6); have y0 := L1.c0; have y1 := L1.c1; have HL1 := Lib.hid L1; have R1 := Lib.hid r1; have R2 := Lib.hid r2; have R3 := Lib.hid r3; have R4 := Lib.hid r4; have R5 := Lib.hid r5; clear r1 r2 r3 r4 r5 r6 L1)
      | (go_at_call 96; refine (HD.out _).mono ?_; rintro e w2 ⟨v, rfl, bs, rfl, q1, q2, q3⟩; have L2 := LoW.keep HL1.out (by first | exact q3 | exact undrew q3); have z0 := L2.c0; have z1 := L2.c1; have e0 := L2.ev.cell (i := 0) rfl; have f0 := L2.ev.free 0; have e1 := L2.ev.cell (i := 1) rfl; have f1 := L2.ev.free 1; have e2 := L2.ev.cell (i := 2) rfl; have f2 := L2.ev.free 2; have e3 := L2.ev.cell (i := 3) rfl; have f3 := L2.ev.free 3; have e4 := L2.ev.cell (i := 4) rfl; have f4 := L2.ev.free 4; have HL2 := Lib.hid L2; have D1 := Lib.hid q1; have D2 := Lib.hid q2; have D3 := Lib.hid (by first | exact q3 | exact undrew q3); clear q1 q2 q3 L2))
  all_goals
    (go_wp2
     refine bodyPost_ret (results_cell_row (p := 2) (ty := 78) rfl _ _ (w.heap.size + 1) _ _ _ listD rfl (five_ev HL2.out.ev _ _ _ _ _) (Option.some_get _).symm (by kernel_rfl) (by kernel_rfl)) rfl ?_
     exact ⟨br, bo, bs, rfl, lof_end HL0.out HL2.out R1.out R2.out (by simpa using R3.out) (by simpa using R4.out) R5.out D1.out D2.out D3.out⟩)
end Go.Proofs.YtaaiblhedanogaaGreat.Bd
