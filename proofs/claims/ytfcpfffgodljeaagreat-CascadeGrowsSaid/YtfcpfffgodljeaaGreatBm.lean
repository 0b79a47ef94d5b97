/-
  A node's list in memory: how a list is made. No condition but those typed at each theorem.
-/
import Derived.Test.YtfcpfffgodljeaaGreatMBa
import Derived.Test.YtfcpfffgodljeaaGreatNo2
namespace Go.Proofs.YtfcpfffgodljeaaGreat.Bd
open Go.RowKit Go.Sort

/-- a list's cells -/
def lcl (n z : Nat) (va : Value) (P : NmP) : List Value := va :: P.vn :: nmc n z P
/-- what stands while a list is made -/
structure LoW (w X : World) (va vn : Value) : Prop where
  c0 : X.cell? ⟨w.heap.size, 0, none⟩ = some va
  c1 : X.cell? ⟨w.heap.size, 1, none⟩ = some vn
  ev : EV 89 X (w.heap.size + 1) [.slice none 0 0, .slice none 0 0, .slice none 0 0, .slice none 0 0, .slice none 0 0, .int .i64 0, .slice none 0 0, .slice none 0 0]
  bel : Below w.heap.size w X
  sz : w.heap.size + 2 ≤ X.heap.size
theorem LoW.keep {w X Y : World} {va vn : Value} (h : LoW w X va vn) (hb : Below X.heap.size X Y) : LoW w Y va vn :=
  ⟨(hb.cell (World.block_lt_of_cell? _ _ h.c0)).trans h.c0, (hb.cell (World.block_lt_of_cell? _ _ h.c1)).trans h.c1, h.ev.keep hb h.ev.lt, h.bel.trans (hb.mono h.bel.size), Nat.le_trans h.sz hb.size⟩
noncomputable def listD : TypeDesc := (Tryz.prog.underlying 89).get (by kernel_rfl)
/-- the eight cells written -/
def eight (X : World) (b : Nat) (u0 u1 u2 u3 u4 u5 u6 u7 : Value) : World := (((((((X.setCell ⟨b, 0, none⟩ u0).setCell ⟨b, 1, none⟩ u1).setCell ⟨b, 2, none⟩ u2).setCell ⟨b, 3, none⟩ u3).setCell ⟨b, 4, none⟩ u4).setCell ⟨b, 5, none⟩ u5).setCell ⟨b, 6, none⟩ u6).setCell ⟨b, 7, none⟩ u7
theorem eight_ev {X : World} {b : Nat} {t : TypeId} {a0 a1 a2 a3 a4 a5 a6 a7 : Value} (h : EV t X b [a0, a1, a2, a3, a4, a5, a6, a7]) (u0 u1 u2 u3 u4 u5 u6 u7 : Value) : EV t (eight X b u0 u1 u2 u3 u4 u5 u6 u7) b [u0, u1, u2, u3, u4, u5, u6, u7] :=
  (((((((h.set 0 u0).set 1 u1).set 2 u2).set 3 u3).set 4 u4).set 5 u5).set 6 u6).set 7 u7
theorem eight_off {X : World} {b : Nat} (u0 u1 u2 u3 u4 u5 u6 u7 : Value) : Off [b] X (eight X b u0 u1 u2 u3 u4 u5 u6 u7) :=
  ((((((((Off.refl [b] X).set _ _ (.inl (by simp))).set _ _ (.inl (by simp))).set _ _ (.inl (by simp))).set _ _ (.inl (by simp))).set _ _ (.inl (by simp))).set _ _ (.inl (by simp))).set _ _ (.inl (by simp))).set _ _ (.inl (by simp))
theorem lof_end {w W w1 : World} {va vn : Value} {P : NmP} {n z : Nat} (L0 : LoW w W va vn) (L1 : LoW w w1 va vn) (hN : NoB W w1 n z P) {u0 u1 u2 u3 u4 u5 u6 u7 : Value} :
    NoB w (eight w1 (w.heap.size + 1) u0 u1 u2 u3 u4 u5 u6 u7) n z P ∧ Below w.heap.size w (eight w1 (w.heap.size + 1) u0 u1 u2 u3 u4 u5 u6 u7) := by
  have h0 := L0.sz
  have ho := eight_off (X := w1) (b := w.heap.size + 1) u0 u1 u2 u3 u4 u5 u6 u7
  have hn : ∀ x ∈ mbl P, x ∉ [w.heap.size + 1] := fun x hx => by have := hN.new x hx; simp; omega
  have h1 := hN.off ho hn
  exact ⟨⟨h1.r, h1.o, h1.a, h1.b, h1.ne, h1.zz, fun x hx => by have := hN.new x hx; omega⟩, L1.bel.trans (ho.below L1.bel.size (by simp))⟩
set_option maxRecDepth 100000 in
set_option maxHeartbeats 3200000 in
theorem listOf_any (w : World) (pa pn : Option Addr) (n ca cn : Nat) (hn : n ≤ 8192) :
    Calls Tryz.prog 97 #[.agg #[.slice pa n ca, .slice pn n cn]] w fun e w' => ∃ (P : NmP) (z : Nat), P.vn = .slice pn n cn ∧ e = .returned (.agg (lcl n z (.slice pa n ca) P).toArray) ∧ NoB w w' n z P ∧ Below w.heap.size w w' := by
  have HN := Lib.hid (fun X => namesOf_any X pn n cn hn)
  go_enter Tryz.func97, Tryz.ntmps97
  go_wp2_with fail
  obtain ⟨W, hW⟩ : ∃ W, W = (w.alloc (.cells #[.slice pa n ca, .slice pn n cn] 70)).alloc (.cells #[.slice none 0 0, .slice none 0 0, .slice none 0 0, .slice none 0 0, .slice none 0 0, .int .i64 0, .slice none 0 0, .slice none 0 0] 89) := ⟨_, rfl⟩
  have L0 : LoW w W (.slice pa n ca) (.slice pn n cn) := by
    subst hW
    refine ⟨?_, ?_, ?_, ((Below.refl _ w).alloc (Nat.le_refl _) _).alloc (by simp) _, by simp⟩
    · rw [World.cell?_alloc_lt _ _ _ (by simp)]; simp
    · rw [World.cell?_alloc_lt _ _ _ (by simp)]; simp
    · have := heap_alloc_new (w.alloc (.cells #[.slice pa n ca, .slice pn n cn] 70)) (.cells #[.slice none 0 0, .slice none 0 0, .slice none 0 0, .slice none 0 0, .slice none 0 0, .int .i64 0, .slice none 0 0, .slice none 0 0] 89)
      rw [World.size_alloc] at this
      exact this
  rw [← hW]
  have HL0 := Lib.hid L0
  have x0 := L0.c0
  have x1 := L0.c1
  clear hW L0
  go_region_with (go_at_call 125; refine (HN.out _).mono ?_; rintro e w1 ⟨⟨vn, br, bo, ba, bw⟩, z, hvn, rfl, hno, hb⟩; simp only at hvn; subst hvn; have L1 := LoW.keep HL0.out (by first | exact hb | exact undrew hb); have y0 := L1.c0; have y1 := L1.c1; have HL1 := Lib.hid L1; have HNO := Lib.hid hno; have e0 := L1.ev.cell (i := 0) rfl; have f0 := L1.ev.free 0; have e1 := L1.ev.cell (i := 1) rfl; have f1 := L1.ev.free 1; have e2 := L1.ev.cell (i := 2) rfl; have f2 := L1.ev.free 2; have e3 := L1.ev.cell (i := 3) rfl; have f3 := L1.ev.free 3; have e4 := L1.ev.cell (i := 4) rfl; have f4 := L1.ev.free 4; have e5 := L1.ev.cell (i := 5) rfl; have f5 := L1.ev.free 5; have e6 := L1.ev.cell (i := 6) rfl; have f6 := L1.ev.free 6; have e7 := L1.ev.cell (i := 7) rfl; have f7 := L1.ev.free 7; clear hno hb L1; unfold nmc; simp only [])
  all_goals
    (go_wp2
     refine bodyPost_ret (results_cell_row (p := 2) (ty := 89) rfl _ _ (w.heap.size + 1) _ _ _ listD rfl (eight_ev HL1.out.ev _ _ _ _ _ _ _ _) (Option.some_get _).symm (by kernel_rfl) (by kernel_rfl)) rfl ?_
     exact ⟨⟨.slice pn n cn, br, bo, ba, bw⟩, z, rfl, rfl, lof_end HL0.out HL1.out ⟨HNO.out.r, HNO.out.o, HNO.out.a, HNO.out.b, HNO.out.ne, HNO.out.zz, HNO.out.new⟩⟩)
end Go.Proofs.YtfcpfffgodljeaaGreat.Bd
