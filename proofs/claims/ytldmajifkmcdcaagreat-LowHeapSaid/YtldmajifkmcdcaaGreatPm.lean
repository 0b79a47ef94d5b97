/-
  A map that counts names: steps, names each with a one; a list parted in two by a test. No condition but those typed at each theorem.
-/
import Derived.Test.YtldmajifkmcdcaaGreatP3
import Derived.Test.YtldmajifkmcdcaaGreatMp
namespace Go.Proofs.YtldmajifkmcdcaaGreat
open Go.ChangeShapes Go.WideShapes Go.ChangeAt Go.RowKit Go.Joins
/-! ### steps of a map -/
theorem wpList_lookR {P : Program} {w : World} {ops : Array Oper} {rest : List Oper} {o : Oper} {a : Act} {Q : Exit → Act → World → Prop} (hg : o.guard = none) (m x : Operand) (t : TypeId) (c : Bool) (hop : o.op = Op.lookup t m x c) (u v r : Value)
    (hm : a.eval m = u) (hx : a.eval x = v) (hrun : (Instr.lookup t u v c).run P w = .ok r w) (hK : wpList P ops Q rest (a.put o.dst r) w) : wpList P ops Q (o :: rest) a w :=
  wpList_plain hg fun K' hK' => by
    unfold Oper.wp
    simp [execOp, hop, hm, hx, hrun, Result.andThen]
    exact hK' _ _ hK
theorem wpList_putR {P : Program} {w w' : World} {ops : Array Oper} {rest : List Oper} {o : Oper} {a : Act} {Q : Exit → Act → World → Prop} (hg : o.guard = none) (m x y : Operand) (t : TypeId) (hop : o.op = Op.mapUpdate t m x y) (u v z : Value)
    (hm : a.eval m = u) (hx : a.eval x = v) (hy : a.eval y = z) (hrun : (Instr.mapUpdate t u v z).run P w = .ok () w') (hK : wpList P ops Q rest (a.put o.dst undef) w') : wpList P ops Q (o :: rest) a w :=
  wpList_plain hg fun K' hK' => by
    unfold Oper.wp
    simp [execOp, hop, hm, hx, hy, hrun, Result.andThen]
    exact hK' _ _ hK
theorem zeroI3 (w : World) : (zeroValue 3).run Tryz.prog w = .ok (.int .i64 0) w := by kernel_rfl
/-- each of these names, with a one -/
def ones (l : List Int) : List (Int × Value) := l.map (fun n => (n, .int .i64 1))
theorem ones_len (l : List Int) : (ones l).length = l.length := by simp [ones]
theorem ones_more {w : World} {b : Nat} {l : List Int} {n : Int} (h : MP Tryz.prog 32 w b (ones l)) (hn : (l ++ [n]).Nodup) (hw : (Lit.int .u32 n).wf = true) (hl : l.length ≤ 8192) :
    (Instr.lookup 57 (.map (some b)) (.int .u32 n) false).run Tryz.prog w = .ok (.int .i64 0) w ∧
    ∃ w', (Instr.mapUpdate 57 (.map (some b)) (.int .u32 n) (.int .i64 1)).run Tryz.prog w = .ok () w' ∧ MP Tryz.prog 32 w' b (ones (l ++ [n])) ∧ Off [b] w w' := by
  have hne : ∀ p ∈ ones l, p.1 ≠ n := by
    intro p hp e
    obtain ⟨m, hm, rfl⟩ := List.mem_map.1 hp
    exact (List.nodup_append.1 hn).2.2 m hm n (by simp) e
  refine ⟨h.miss Tryz.underlying57 Tryz.underlying32 hw hne (zeroI3 w) false, ?_⟩
  obtain ⟨w', h1, h2, h3⟩ := h.store Tryz.underlying57 Tryz.underlying32 (by rw [ones_len]; simp [maxLen]; omega) (.int .i64 1) hw
  refine ⟨w', h1, ?_, h3⟩
  rw [List.filter_eq_self.2 (fun q hq => by simpa using hne q hq)] at h2
  have e : ones (l ++ [n]) = ones l ++ [(n, .int .i64 1)] := by simp [ones]
  rw [e]
  exact h2
theorem ones_look {w : World} {b : Nat} {l : List Int} {n : Int} (h : MP Tryz.prog 32 w b (ones l)) (hw : (Lit.int .u32 n).wf = true) (hm : n ∈ l) :
    (Instr.lookup 57 (.map (some b)) (.int .u32 n) false).run Tryz.prog w = .ok (.int .i64 1) w :=
  h.look Tryz.underlying57 Tryz.underlying32 hw (List.mem_map.2 ⟨n, hm, rfl⟩) (zeroI3 w) false
end Go.Proofs.YtldmajifkmcdcaaGreat
