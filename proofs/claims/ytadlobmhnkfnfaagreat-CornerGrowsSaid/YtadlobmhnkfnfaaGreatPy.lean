/-
  A point by its value, a small number, opened and read again. No condition but those typed at each theorem.
-/
import Derived.Test.YtadlobmhnkfnfaaGreatP3
namespace Go.Proofs.YtadlobmhnkfnfaaGreat
open Go.ChangeShapes Go.WideShapes Go.ChangeAt Go.RowKit Go.Joins
theorem u8_nat {z : Int} (h : (Lit.int .u8 z).wf = true) : ∃ n : Nat, z = (n : Int) ∧ n ≤ 255 := by
  have hr : 0 ≤ z ∧ z ≤ 255 := by simpa [Lit.wf, show IntKind.u8.min = 0 from rfl, show IntKind.u8.max = 255 from rfl] using h
  exact ⟨z.toNat, by omega, by omega⟩
set_option maxRecDepth 100000 in
theorem open_point {H : Type} {enc : TypeId × Value → H} {W : World} {base b0 : Nat} {spare : Nat → Bool} {held : Bool} {r : Reach} {v : Value} {d : DataW H} {p : List MemPlace}
    (hv : Value.okWide Tryz.prog W r b0 33 v) (h : DataW.Trod enc Tryz.prog W base spare held 33 v d p) :
    ∃ a b j : Int, v = .agg #[.int .i64 a, .int .i64 b, .int .u32 j] ∧ d = .agg [.lit (.int .i64 a), .lit (.int .i64 b), .lit (.int .u32 j)] ∧ p = [] ∧
      (Lit.int .i64 a).wf = true ∧ (Lit.int .i64 b).wf = true ∧ (Lit.int .u32 j).wf = true := by
  obtain ⟨⟨cs⟩, rfl, hsz⟩ := okWide_struct Tryz.underlying33 hv
  rw [Tryz.cells33] at hsz
  obtain ⟨c0, c1, c2, rfl⟩ := list3 (by simpa using hsz)
  obtain ⟨fuel, hf⟩ := h
  obtain ⟨xs, k, _, hx, _, hlen, hfs⟩ := DataW.trod_struct Tryz.underlying33 hf
  obtain ⟨y0, y1, y2, rfl⟩ := list3 (by simpa using hlen)
  clear hf hv
  have h0 : DataW.trod enc Tryz.prog W base spare held k 2 [c0] = some y0 := by have q := hfs 0 { name := "X", type := 2, offset := 0, embedded := false, tag := "", pkgPath := "", byteOffset := 0 } rfl; dsimp only at q; rw [Tryz.cells2] at q; simpa [Value.cells] using q
  have h1 : DataW.trod enc Tryz.prog W base spare held k 2 [c1] = some y1 := by have q := hfs 1 { name := "Y", type := 2, offset := 1, embedded := false, tag := "", pkgPath := "", byteOffset := 8 } rfl; dsimp only at q; rw [Tryz.cells2] at q; simpa [Value.cells] using q
  have h2 : DataW.trod enc Tryz.prog W base spare held k 31 [c2] = some y2 := by have q := hfs 2 { name := "ID", type := 31, offset := 2, embedded := false, tag := "", pkgPath := "", byteOffset := 16 } rfl; dsimp only at q; rw [Tryz.cells31] at q; simpa [Value.cells] using q
  obtain ⟨a, e0, rfl, w0⟩ := DataW.trod_int Tryz.underlying2 h0
  obtain ⟨b, e1, rfl, w1⟩ := DataW.trod_int Tryz.underlying2 h1
  obtain ⟨j, e2, rfl, w2⟩ := DataW.trod_int Tryz.underlying31 h2
  simp at e0 e1 e2
  subst e0 e1 e2
  simp at hx
  exact ⟨a, b, j, rfl, hx.1, hx.2, w0, w1, w2⟩
theorem read_point {H : Type} {enc : TypeId × Value → H} {a b j : Int} (h0 : (Lit.int .i64 a).wf = true) (h1 : (Lit.int .i64 b).wf = true) (h2 : (Lit.int .u32 j).wf = true) (W' : World) (sp : Nat → Bool) :
    DataW.Trod enc Tryz.prog W' 0 sp true 33 (.agg #[.int .i64 a, .int .i64 b, .int .u32 j]) (.agg [.lit (.int .i64 a), .lit (.int .i64 b), .lit (.int .u32 j)]) [] := by
  have := trod_struct_mk (enc := enc) (w := W') (base := 0) (spare := sp) (held := true) (n := 1) (cs := [.int .i64 a, .int .i64 b, .int .u32 j]) (xs := [(.lit (.int .i64 a), []), (.lit (.int .i64 b), []), (.lit (.int .u32 j), [])]) Tryz.underlying33 (by rw [Tryz.cells33]; rfl)
    (by simp [DataW.trod, Tryz.underlying31, Tryz.underlying2, Tryz.cells31, Tryz.cells2, h0, h1, h2])
  exact ⟨_, by simpa [Value.cells] using this⟩
end Go.Proofs.YtadlobmhnkfnfaaGreat
