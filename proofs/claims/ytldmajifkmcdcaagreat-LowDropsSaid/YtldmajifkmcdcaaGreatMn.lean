/-
  Whether a name comes for the first time: the closure that counts in a map. No condition but those typed at each theorem.
-/
import Derived.Test.YtldmajifkmcdcaaGreatMGen
import Derived.Test.YtldmajifkmcdcaaGreatMp
namespace Go.Proofs.YtldmajifkmcdcaaGreat
open Go.RowKit
theorem wpList_lkN {P : Program} {w : World} {ops : Array Oper} {rest : List Oper} {o : Oper} {a : Act} {Q : Exit → Act → World → Prop} (hg : o.guard = none) (m x : Operand) (t : TypeId) (c : Bool) (hop : o.op = Op.lookup t m x c) (u v r : Value)
    (hm : a.eval m = u) (hx : a.eval x = v) (hrun : (Instr.lookup t u v c).run P w = .ok r w) (hK : wpList P ops Q rest (a.put o.dst r) w) : wpList P ops Q (o :: rest) a w :=
  wpList_plain hg fun K' hK' => by
    unfold Oper.wp
    simp [execOp, hop, hm, hx, hrun, Result.andThen]
    exact hK' _ _ hK
theorem wpList_ptN {P : Program} {w w' : World} {ops : Array Oper} {rest : List Oper} {o : Oper} {a : Act} {Q : Exit → Act → World → Prop} (hg : o.guard = none) (m x y : Operand) (t : TypeId) (hop : o.op = Op.mapUpdate t m x y) (u v z : Value)
    (hm : a.eval m = u) (hx : a.eval x = v) (hy : a.eval y = z) (hrun : (Instr.mapUpdate t u v z).run P w = .ok () w') (hK : wpList P ops Q rest (a.put o.dst undef) w') : wpList P ops Q (o :: rest) a w :=
  wpList_plain hg fun K' hK' => by
    unfold Oper.wp
    simp [execOp, hop, hm, hx, hy, hrun, Result.andThen]
    exact hK' _ _ hK
theorem zeroIN (w : World) : (zeroValue 3).run Tryz.prog w = .ok (.int .i64 0) w := by kernel_rfl
/-- each name once -/
def onc (l : List Int) : List (Int × Value) := l.map (fun i => (i, .int .i64 1))
/-- the closure's box and map: these names have come -/
structure IsN (w : World) (B mb : Nat) (l : List Int) : Prop where
  box : Bx 57 w B (.map (some mb))
  map : MP Tryz.prog 32 w mb (onc l)
theorem IsN.keep {w w' : World} {B mb : Nat} {l : List Int} (h : IsN w B mb l) (hb : Below w.heap.size w w') : IsN w' B mb l := ⟨h.box.keep hb, h.map.keep hb⟩
theorem eqNew : ∀ args w, (callFunc 75 args).run Tryz.prog w = .ok (.enter 75 args) w := enters_of Tryz.func75 (by kernel_rfl) rfl
set_option maxRecDepth 100000 in
theorem names_any (w : World) : Calls Tryz.prog 46 #[] w fun e w' => (∃ B mb, e = .returned (.func (.func 75) #[] #[.pointer (some ⟨B, 0, none⟩)]) ∧ IsN w' B mb [] ∧ w.heap.size ≤ B ∧ w.heap.size ≤ mb ∧ B ≠ mb) ∧ Below w.heap.size w w' := by
  have hmm := @run_makeMap Tryz.prog
  have hmf : ∀ (fn : Fn) (first cap : Array Value) (w : World), (Instr.makeFunc fn first cap).run Tryz.prog w = .ok (.func fn first cap) w := fun _ _ _ _ => rfl
  go_enter Tryz.func46, Tryz.ntmps46
  go_wp2
  go_ret
  refine ⟨⟨_, _, rfl, ⟨(by have := Bx.new (w.alloc (.map #[] 0)) (.map (some w.heap.size)) 57; rw [World.size_alloc] at this; exact this), (MP.made _ _ w).keep ((Below.refl _ _).alloc (Nat.le_refl _) _)⟩, by simp, Nat.le_refl _, by simp⟩, ((Below.refl _ w).alloc (Nat.le_refl _) _).alloc (by simp) _⟩
set_option maxRecDepth 100000 in
set_option maxHeartbeats 800000 in
/-- a name that has not come -/
theorem isnew_yes {w : World} {B mb : Nat} {l : List Int} (h : IsN w B mb l) (i : Int) (hi : (Lit.int .u32 i).wf = true) (hn : i ∉ l) (hl : l.length ≤ 8192) (hne : B ≠ mb) :
    Calls Tryz.prog 75 #[.int .u32 i, .pointer (some ⟨B, 0, none⟩)] w fun e w' => e = .returned (.bool true) ∧ IsN w' B mb (l ++ [i]) ∧ Off [mb] w w' := by
  have hM := h.map
  have hlm : (onc l).length < maxLen := by simp [maxLen, onc]; omega
  have hnone : ∀ q ∈ onc l, q.1 ≠ i := by
    intro q hq
    obtain ⟨y, hy, rfl⟩ := List.mem_map.1 hq
    exact fun e => hn (e ▸ hy)
  have hfil : (onc l).filter (fun p => decide (p.1 ≠ i)) = onc l := List.filter_eq_self.2 (fun q hq => by simpa using hnone q hq)
  have hlook : (Instr.lookup 57 (.map (some mb)) (.int .u32 i) false).run Tryz.prog w = .ok (.int .i64 0) w := hM.miss Tryz.underlying57 Tryz.underlying32 hi hnone (zeroIN w) false
  obtain ⟨W2, hput, hM2, hO2⟩ := hM.store Tryz.underlying57 Tryz.underlying32 hlm (.int .i64 1) hi
  rw [hfil] at hM2
  have hlook2 : (Instr.lookup 57 (.map (some mb)) (.int .u32 i) false).run Tryz.prog W2 = .ok (.int .i64 1) W2 := hM2.look Tryz.underlying57 Tryz.underlying32 hi (by simp) (zeroIN W2) false
  have hBX := h.box.off hO2 (by simp; exact hne)
  have hb := h.box.cell
  have hb2 := hBX.cell
  have HF := Lib.hid (show IsN W2 B mb (l ++ [i]) ∧ Off [mb] w W2 from ⟨⟨hBX, by rw [show onc (l ++ [i]) = onc l ++ [(i, .int .i64 1)] by simp [onc]]; exact hM2⟩, hO2⟩)
  clear hM hnone hfil hM2 hO2 hBX h hn
  go_enter Tryz.func75, Tryz.ntmps75
  go_wp2_with (first
    | (at_lookup; refine wpList_lkN rfl _ _ _ _ rfl _ _ _ rfl rfl hlook ?_)
    | (at_lookup; refine wpList_lkN rfl _ _ _ _ rfl _ _ _ rfl rfl hlook2 ?_)
    | (at_mapUpdate; refine wpList_ptN rfl _ _ _ _ rfl _ _ _ rfl rfl rfl hput ?_))
  go_ret
  exact ⟨rfl, HF.out⟩
set_option maxRecDepth 100000 in
set_option maxHeartbeats 800000 in
/-- a name that has come -/
theorem isnew_no {w : World} {B mb : Nat} {l : List Int} (h : IsN w B mb l) (i : Int) (hi : (Lit.int .u32 i).wf = true) (hn : i ∈ l) (hl : l.length ≤ 8192) (hne : B ≠ mb) :
    Calls Tryz.prog 75 #[.int .u32 i, .pointer (some ⟨B, 0, none⟩)] w fun e w' => e = .returned (.bool false) ∧ Off [mb] w w' := by
  have hM := h.map
  have hlm : (onc l).length < maxLen := by simp [maxLen, onc]; omega
  have hin : (i, Value.int .i64 1) ∈ onc l := List.mem_map.2 ⟨i, hn, rfl⟩
  have hlook : (Instr.lookup 57 (.map (some mb)) (.int .u32 i) false).run Tryz.prog w = .ok (.int .i64 1) w := hM.look Tryz.underlying57 Tryz.underlying32 hi hin (zeroIN w) false
  obtain ⟨W2, hput, hM2, hO2⟩ := hM.store Tryz.underlying57 Tryz.underlying32 hlm (.int .i64 2) hi
  have hlook2 : (Instr.lookup 57 (.map (some mb)) (.int .u32 i) false).run Tryz.prog W2 = .ok (.int .i64 2) W2 := hM2.look Tryz.underlying57 Tryz.underlying32 hi (by simp) (zeroIN W2) false
  have hBX := h.box.off hO2 (by simp; exact hne)
  have hb := h.box.cell
  have hb2 := hBX.cell
  have HF := Lib.hid hO2
  clear hM hin hM2 hO2 hBX h hn
  go_enter Tryz.func75, Tryz.ntmps75
  go_wp2_with (first
    | (at_lookup; refine wpList_lkN rfl _ _ _ _ rfl _ _ _ rfl rfl hlook ?_)
    | (at_lookup; refine wpList_lkN rfl _ _ _ _ rfl _ _ _ rfl rfl hlook2 ?_)
    | (at_mapUpdate; refine wpList_ptN rfl _ _ _ _ rfl _ _ _ rfl rfl rfl hput ?_))
  go_ret
  exact ⟨rfl, HF.out⟩
end Go.Proofs.YtldmajifkmcdcaaGreat
