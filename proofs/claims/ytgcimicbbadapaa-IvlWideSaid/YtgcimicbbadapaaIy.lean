/-
  A line is laid. No condition but those typed at each theorem.
-/
import Derived.Test.YtgcimicbbadapaaIl
import Derived.Test.YtgcimicbbadapaaMS3
import Derived.Test.YtgcimicbbadapaaSr
import Derived.Deep.CutBlock
import Derived.Laws.Rows
namespace Go.Proofs.Ytgcimicbbadapaa.Iv
open Go.RowKit

theorem info_int : (Try.prog.info? 3).map (fun i => (i.zero, i.size, i.bytes)) = some (some (.int .i64 0), 1, 8) := info_intP
theorem under_ints : Try.prog.underlying 75 = some (.slice 3) := under_intsP
/-- a line of spans that are all there -/
def Laid (w : World) (p : Option Addr) (c n : Nat) (v : Value) (w' : World) : Prop :=
  ∃ br bo, v = .agg #[.slice p n c, .slice (some ⟨br, 0, none⟩) (n + 1) (n + 1), .slice (some ⟨bo, 0, none⟩) (n + 1) (n + 1)] ∧ EV 162 w' br (flatR (layR (n + 1) (n + 1))) ∧ EB .i64 3 w' bo (zs (layO (n + 1) (n + 1))) ∧ w.heap.size ≤ br ∧ w.heap.size ≤ bo ∧ br ≠ bo ∧ Below w.heap.size w w'
noncomputable def lineD : TypeDesc := (Try.prog.underlying 86).get (by kernel_rfl)
set_option maxRecDepth 100000 in
set_option maxHeartbeats 3200000 in
theorem lay_any (w : World) (p : Option Addr) (c n : Nat) (hn : n ≤ 8192) :
    Calls Try.prog 63 #[.slice p n c] w fun e w' => ∃ v, e = .returned v ∧ Laid w p c n v w' := by
  have HL := Lib.hid (fun X => runsOf_any X n hn)
  go_enter Try.func63, Try.ntmps63
  have E0 := Lib.hid (show EV 86 (w.alloc (.cells #[.slice none 0 0, .slice none 0 0, .slice none 0 0] 86)) w.heap.size [.slice none 0 0, .slice none 0 0, .slice none 0 0] from heap_alloc_new w _)
  go_wp2_with (go_at_call 100; (with_reducible refine (HL.out _).mono ?_); rintro e w1 ⟨v, rfl, br, bo, rfl, r1, r2, r3, r4, r5, r6⟩; have hE := E0.out.keep r6 (by simp); have y0 := hE.cell (i := 0) rfl; have y1 := hE.cell (i := 1) rfl; have y2 := hE.cell (i := 2) rfl; have z0 := hE.free 0; have z1 := hE.free 1; have z2 := hE.free 2; have HE := Lib.hid hE; have R1 := Lib.hid r1; have R2 := Lib.hid r2; have R3 := Lib.hid (show w.heap.size + 1 ≤ br by simpa using r3); have R4 := Lib.hid (show w.heap.size + 1 ≤ bo by simpa using r4); have R5 := Lib.hid r5; have R6 := Lib.hid r6; clear r1 r2 r3 r4 r5 r6 hE)
  have h1 := ((HE.out.set 0 (.slice p n c)).set 1 (.slice (some ⟨br, 0, none⟩) (n + 1) (n + 1))).set 2 (.slice (some ⟨bo, 0, none⟩) (n + 1) (n + 1))
  have n1 : w.heap.size ≠ br := by have := R3.out; omega
  have n2 : w.heap.size ≠ bo := by have := R4.out; omega
  have h2 := EV.far (EV.far (EV.far R1.out (a := ⟨w.heap.size, 0, none⟩) n1 (.slice p n c)) (a := ⟨w.heap.size, 1, none⟩) n1 (.slice (some ⟨br, 0, none⟩) (n + 1) (n + 1))) (a := ⟨w.heap.size, 2, none⟩) n1 (.slice (some ⟨bo, 0, none⟩) (n + 1) (n + 1))
  have h3 := ((R2.out.far (a := ⟨w.heap.size, 0, none⟩) n2 (.slice p n c)).far (a := ⟨w.heap.size, 1, none⟩) n2 (.slice (some ⟨br, 0, none⟩) (n + 1) (n + 1))).far (a := ⟨w.heap.size, 2, none⟩) n2 (.slice (some ⟨bo, 0, none⟩) (n + 1) (n + 1))
  have h4 : Below w.heap.size w w1 := ((Below.refl _ w).alloc (Nat.le_refl _) _).trans (R6.out.mono (by simp))
  have h5 := ((h4.setCell (p := ⟨w.heap.size, 0, none⟩) (Nat.le_refl _) (.slice p n c)).setCell (p := ⟨w.heap.size, 1, none⟩) (Nat.le_refl _) (.slice (some ⟨br, 0, none⟩) (n + 1) (n + 1))).setCell (p := ⟨w.heap.size, 2, none⟩) (Nat.le_refl _) (.slice (some ⟨bo, 0, none⟩) (n + 1) (n + 1))
  refine bodyPost_ret (results_cell_row (p := 2) (ty := 86) rfl _ _ w.heap.size _ _ _ lineD rfl h1 (Option.some_get _).symm (by kernel_rfl) (by kernel_rfl)) rfl ?_
  exact ⟨_, rfl, br, bo, rfl, h2, h3, by have := R3.out; omega, by have := R4.out; omega, R5.out, h5⟩
end Go.Proofs.Ytgcimicbbadapaa.Iv
