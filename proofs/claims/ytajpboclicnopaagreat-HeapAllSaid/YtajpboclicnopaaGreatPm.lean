/-
  A map that counts names: steps, names each with a one; a list parted in two by a test. No condition but those typed at each theorem.
-/
import Derived.Test.YtajpboclicnopaaGreatP3
import Derived.Test.YtajpboclicnopaaGreatMp
namespace Go.Proofs.YtajpboclicnopaaGreat
open Go.ChangeShapes Go.WideShapes Go.ChangeAt Go.RowKit Go.Joins
/-! ### steps of a map -/
theorem wpList_lookR {P : Program} {w : World} {ops : Array Oper} {rest : List Oper} {o : Oper} {a : Act} {Q : Exit → Act → World → Prop} (hg : o.guard = none) (m x : Operand) (t : TypeId) (c : Bool) (hop : o.op = Op.lookup t m x c) (u v r : Value)
    (hm : a.eval m = u) (hx : a.eval x = v) (hrun : (Instr.lookup t u v c).run P w = .ok r w) (hK : wpList P ops Q rest (a.put o.dst r) w) : wpList P ops Q (o :: rest) a w :=
  wpList_plain hg fun K' hK' => by
    unfold Oper.wp
    simp [execOp, hop, hm, hx, hrun, Result.andThen]
    exact hK' _ _ hK
theorem wpList_putR {P : Program} {w w' : World} {ops : Array Oper} {rest : List Oper} {o : Oper} {a : Act} {Q : Exit → Act → World → Prop} (hg : o.guard = none) (m x y : Operand) (t : TypeId) (hop : o.op = Op.mapUpdate t m x y) (u v z : Value)
    (hm : a.eval m = u) (hx : a.eval x = v) (hy : a.eval y = z) (hrun : (Instr.mapUpdate t u v z).run P w = .ok () w') (hK : wpList P ops Q rest (a.put o.dst undef) w') : wpList P ops Q (o :: rest) a w :=
  wpList_plain hg fun K' hK' => by
    unfold Oper.wp
    simp [execOp, hop, hm, hx, hy, hrun, Result.andThen]
    exact hK' _ _ hK
/-- each of these names, with a one -/
def ones (l : List Int) : List (Int × Value) := l.map (fun n => (n, .int .i64 1))
end Go.Proofs.YtajpboclicnopaaGreat
