/-
  From walks to rows: points, spans and boxes opened and read again; how a law that answers true and leaves all below as it was meets its row. No condition but those typed at each theorem.
-/
import Derived.Test.YtpbghgmaikmneaaAwake
import Derived.ProofKit
import Derived.OpenShut
import Derived.Stop.Joined
import Derived.Lib.SmallJoins
namespace Go.Proofs.Ytpbghgmaikmneaa
open Go.ChangeShapes Go.WideShapes Go.ChangeAt Go.RowKit Go.Joins

theorem Row.keepD {X w' : World} {n : Nat} {vs : List Value} (h : Row X n vs) (hb : Below X.drew.heap.size X.drew w') : Row w' n vs := (h.drew).keep hb
theorem BlD {w X w' : World} (h : Hid (Below w.heap.size w X)) (hb : Below X.drew.heap.size X.drew w') : Hid (Below w.heap.size w w') :=
  Bl (Lib.hid h.out.drew) hb
theorem Try.own : ownKnob Try.prog.godebug = none := by kernel_rfl
theorem Try.cells24 : Try.prog.cellsOf 24 = 3 := by kernel_rfl
theorem Try.cells26 : Try.prog.cellsOf 26 = 3 := by kernel_rfl
theorem Try.cells28 : Try.prog.cellsOf 28 = 5 := by kernel_rfl
theorem Try.cells22 : Try.prog.cellsOf 22 = 1 := by kernel_rfl
theorem Try.cells2 : Try.prog.cellsOf 2 = 1 := by kernel_rfl
theorem list5 {α : Type} {l : List α} (h : l.length = 5) : ∃ a b c d e, l = [a, b, c, d, e] := by
  match l, h with
  | [a, b, c, d, e], _ => exact ⟨a, b, c, d, e, rfl⟩

theorem open24 {H : Type} {enc : TypeId × Value → H} {W : World} {base b0 : Nat} {spare : Nat → Bool} {held : Bool} {r : Reach} {v : Value} {d : DataW H} {p : List MemPlace}
    (hv : Value.okWide Try.prog W r b0 24 v) (h : DataW.Trod enc Try.prog W base spare held 24 v d p) :
    ∃ x y i : Int, v = .agg #[.int .i64 x, .int .i64 y, .int .u32 i] ∧ d = .agg [.lit (.int .i64 x), .lit (.int .i64 y), .lit (.int .u32 i)] ∧ p = [] ∧ (Lit.int .i64 x).wf = true ∧ (Lit.int .i64 y).wf = true ∧ (Lit.int .u32 i).wf = true := by
  obtain ⟨c0, c1, c2, y0, y1, y2, m, rfl, rfl, rfl, h0, h1, h2⟩ := open_agg3 Try.underlying24 (by kernel_rfl) Try.cells24 hv h
  obtain ⟨x, e0, rfl, w0⟩ := DataW.trod_int Try.underlying2 h0
  obtain ⟨y, e1, rfl, w1⟩ := DataW.trod_int Try.underlying2 h1
  obtain ⟨i, e2, rfl, w2⟩ := DataW.trod_int Try.underlying22 h2
  simp at e0 e1 e2
  subst e0 e1 e2
  exact ⟨x, y, i, rfl, rfl, rfl, w0, w1, w2⟩
theorem open26 {H : Type} {enc : TypeId × Value → H} {W : World} {base b0 : Nat} {spare : Nat → Bool} {held : Bool} {r : Reach} {v : Value} {d : DataW H} {p : List MemPlace}
    (hv : Value.okWide Try.prog W r b0 26 v) (h : DataW.Trod enc Try.prog W base spare held 26 v d p) :
    ∃ x y i : Int, v = .agg #[.int .i64 x, .int .i64 y, .int .u32 i] ∧ d = .agg [.lit (.int .i64 x), .lit (.int .i64 y), .lit (.int .u32 i)] ∧ p = [] ∧ (Lit.int .i64 x).wf = true ∧ (Lit.int .i64 y).wf = true ∧ (Lit.int .u32 i).wf = true := by
  obtain ⟨c0, c1, c2, y0, y1, y2, m, rfl, rfl, rfl, h0, h1, h2⟩ := open_agg3 Try.underlying26 (by kernel_rfl) Try.cells26 hv h
  obtain ⟨x, e0, rfl, w0⟩ := DataW.trod_int Try.underlying2 h0
  obtain ⟨y, e1, rfl, w1⟩ := DataW.trod_int Try.underlying2 h1
  obtain ⟨i, e2, rfl, w2⟩ := DataW.trod_int Try.underlying22 h2
  simp at e0 e1 e2
  subst e0 e1 e2
  exact ⟨x, y, i, rfl, rfl, rfl, w0, w1, w2⟩
set_option maxRecDepth 100000 in
theorem open28 {H : Type} {enc : TypeId × Value → H} {W : World} {base b0 : Nat} {spare : Nat → Bool} {held : Bool} {r : Reach} {v : Value} {d : DataW H} {p : List MemPlace}
    (hv : Value.okWide Try.prog W r b0 28 v) (h : DataW.Trod enc Try.prog W base spare held 28 v d p) :
    ∃ a b c e j : Int, v = .agg #[.int .i64 a, .int .i64 b, .int .i64 c, .int .i64 e, .int .u32 j] ∧ d = .agg [.lit (.int .i64 a), .lit (.int .i64 b), .lit (.int .i64 c), .lit (.int .i64 e), .lit (.int .u32 j)] ∧ p = [] ∧
      (Lit.int .i64 a).wf = true ∧ (Lit.int .i64 b).wf = true ∧ (Lit.int .i64 c).wf = true ∧ (Lit.int .i64 e).wf = true ∧ (Lit.int .u32 j).wf = true := by
  obtain ⟨⟨cs⟩, rfl, hsz⟩ := okWide_struct Try.underlying28 hv
  rw [Try.cells28] at hsz
  obtain ⟨c0, c1, c2, c3, c4, rfl⟩ := list5 (by simpa using hsz)
  obtain ⟨fuel, hf⟩ := h
  obtain ⟨xs, k, _, hx, _, hlen, hfs⟩ := DataW.trod_struct Try.underlying28 hf
  obtain ⟨y0, y1, y2, y3, y4, rfl⟩ := list5 (by simpa using hlen)
  clear hf hv
  have h0 : DataW.trod enc Try.prog W base spare held k 2 [c0] = some y0 := by have q := hfs 0 { name := "X1", type := 2, offset := 0, embedded := false, tag := "", pkgPath := "", byteOffset := 0 } rfl; dsimp only at q; rw [Try.cells2] at q; simpa [Value.cells] using q
  have h1 : DataW.trod enc Try.prog W base spare held k 2 [c1] = some y1 := by have q := hfs 1 { name := "X2", type := 2, offset := 1, embedded := false, tag := "", pkgPath := "", byteOffset := 8 } rfl; dsimp only at q; rw [Try.cells2] at q; simpa [Value.cells] using q
  have h2 : DataW.trod enc Try.prog W base spare held k 2 [c2] = some y2 := by have q := hfs 2 { name := "Y1", type := 2, offset := 2, embedded := false, tag := "", pkgPath := "", byteOffset := 16 } rfl; dsimp only at q; rw [Try.cells2] at q; simpa [Value.cells] using q
  have h3 : DataW.trod enc Try.prog W base spare held k 2 [c3] = some y3 := by have q := hfs 3 { name := "Y2", type := 2, offset := 3, embedded := false, tag := "", pkgPath := "", byteOffset := 24 } rfl; dsimp only at q; rw [Try.cells2] at q; simpa [Value.cells] using q
  have h4 : DataW.trod enc Try.prog W base spare held k 22 [c4] = some y4 := by have q := hfs 4 { name := "ID", type := 22, offset := 4, embedded := false, tag := "", pkgPath := "", byteOffset := 32 } rfl; dsimp only at q; rw [Try.cells22] at q; simpa [Value.cells] using q
  obtain ⟨a, e0, rfl, w0⟩ := DataW.trod_int Try.underlying2 h0
  obtain ⟨b, e1, rfl, w1⟩ := DataW.trod_int Try.underlying2 h1
  obtain ⟨c, e2, rfl, w2⟩ := DataW.trod_int Try.underlying2 h2
  obtain ⟨e, e3, rfl, w3⟩ := DataW.trod_int Try.underlying2 h3
  obtain ⟨j, e4, rfl, w4⟩ := DataW.trod_int Try.underlying22 h4
  simp at e0 e1 e2 e3 e4
  subst e0 e1 e2 e3 e4
  simp at hx
  exact ⟨a, b, c, e, j, rfl, hx.1, hx.2, w0, w1, w2, w3, w4⟩

theorem read24 {H : Type} {enc : TypeId × Value → H} {x y i : Int} (hx : (Lit.int .i64 x).wf = true) (hy : (Lit.int .i64 y).wf = true) (hi : (Lit.int .u32 i).wf = true) (W' : World) (sp : Nat → Bool) :
    DataW.Trod enc Try.prog W' 0 sp true 24 (.agg #[.int .i64 x, .int .i64 y, .int .u32 i]) (.agg [.lit (.int .i64 x), .lit (.int .i64 y), .lit (.int .u32 i)]) [] :=
  shut_agg3 (y0 := (.lit (.int .i64 x), [])) (y1 := (.lit (.int .i64 y), [])) (y2 := (.lit (.int .u32 i), [])) Try.underlying24 (by kernel_rfl) Try.cells24 ⟨1, by simp [DataW.trod, Try.underlying2, hx]⟩ ⟨1, by simp [DataW.trod, Try.underlying2, hy]⟩ ⟨1, by simp [DataW.trod, Try.underlying22, hi]⟩
theorem read26 {H : Type} {enc : TypeId × Value → H} {x y i : Int} (hx : (Lit.int .i64 x).wf = true) (hy : (Lit.int .i64 y).wf = true) (hi : (Lit.int .u32 i).wf = true) (W' : World) (sp : Nat → Bool) :
    DataW.Trod enc Try.prog W' 0 sp true 26 (.agg #[.int .i64 x, .int .i64 y, .int .u32 i]) (.agg [.lit (.int .i64 x), .lit (.int .i64 y), .lit (.int .u32 i)]) [] :=
  shut_agg3 (y0 := (.lit (.int .i64 x), [])) (y1 := (.lit (.int .i64 y), [])) (y2 := (.lit (.int .u32 i), [])) Try.underlying26 (by kernel_rfl) Try.cells26 ⟨1, by simp [DataW.trod, Try.underlying2, hx]⟩ ⟨1, by simp [DataW.trod, Try.underlying2, hy]⟩ ⟨1, by simp [DataW.trod, Try.underlying22, hi]⟩
theorem read28 {H : Type} {enc : TypeId × Value → H} {a b c e j : Int} (h0 : (Lit.int .i64 a).wf = true) (h1 : (Lit.int .i64 b).wf = true) (h2 : (Lit.int .i64 c).wf = true) (h3 : (Lit.int .i64 e).wf = true) (h4 : (Lit.int .u32 j).wf = true) (W' : World) (sp : Nat → Bool) :
    DataW.Trod enc Try.prog W' 0 sp true 28 (.agg #[.int .i64 a, .int .i64 b, .int .i64 c, .int .i64 e, .int .u32 j]) (.agg [.lit (.int .i64 a), .lit (.int .i64 b), .lit (.int .i64 c), .lit (.int .i64 e), .lit (.int .u32 j)]) [] := by
  have := trod_struct_mk (enc := enc) (w := W') (base := 0) (spare := sp) (held := true) (n := 1) (cs := [.int .i64 a, .int .i64 b, .int .i64 c, .int .i64 e, .int .u32 j]) (xs := [(.lit (.int .i64 a), []), (.lit (.int .i64 b), []), (.lit (.int .i64 c), []), (.lit (.int .i64 e), []), (.lit (.int .u32 j), [])]) Try.underlying28 (by rw [Try.cells28]; rfl)
    (by simp [DataW.trod, Try.underlying22, Try.underlying2, Try.cells22, Try.cells2, h0, h1, h2, h3, h4])
  exact ⟨_, by simpa [Value.cells] using this⟩
/-- A law of values without memory of their own: it answered true, and all that lay stands. -/
theorem law_post {H : Type} {enc : TypeId × Value → H} {f : Func} {s : ChangeSpec} {W W' : World} {args : Array Value} {ds : List (DataW H)}
    (hW : DataW.Whole enc Try.prog f.params.toList s.vars false W args.toList ds [] [])
    (hres : DataW.TrodAll enc Try.prog W' W.heap.size (fun _ => false) false f.resultTypes.toList ((Value.bool true).resultList f.resultTypes.size) (s.fn H (ds ++ [])).results [])
    (hargs : DataW.TrodAll enc Try.prog W' 0 (fun b => decide (b < W.heap.size)) true f.params.toList args.toList (s.fn H (ds ++ [])).args [])
    (hvars : DataW.TrodVars enc Try.prog W' (fun b => decide (b < W.heap.size)) s.vars (s.fn H (ds ++ [])).vars [])
    (hb : Below W.heap.size W W') : s.post enc Try.prog f false true false false W args (.bool true) W' :=
  ⟨ds, [], [], [], [], [], hW, hres, hargs, hvars, hb.frame _, fun h => by cases h⟩
end Go.Proofs.Ytpbghgmaikmneaa
