/-
  A box by its value, opened and read again. No condition but those typed at each theorem.
-/
import Derived.Test.YtfcpfffgodljeaaGreatMP
namespace Go.Proofs.YtfcpfffgodljeaaGreat
open Go.ChangeShapes Go.WideShapes Go.ChangeAt Go.RowKit Go.Joins

set_option maxRecDepth 100000 in
theorem open_box {H : Type} {enc : TypeId × Value → H} {W : World} {base b0 : Nat} {spare : Nat → Bool} {held : Bool} {r : Reach} {v : Value} {d : DataW H} {p : List MemPlace}
    (hv : Value.okWide Tryz.prog W r b0 42 v) (h : DataW.Trod enc Tryz.prog W base spare held 42 v d p) :
    ∃ a b c e j : Int, v = .agg #[.int .i64 a, .int .i64 b, .int .i64 c, .int .i64 e, .int .u32 j] ∧ d = .agg [.lit (.int .i64 a), .lit (.int .i64 b), .lit (.int .i64 c), .lit (.int .i64 e), .lit (.int .u32 j)] ∧ p = [] ∧
      (Lit.int .i64 a).wf = true ∧ (Lit.int .i64 b).wf = true ∧ (Lit.int .i64 c).wf = true ∧ (Lit.int .i64 e).wf = true ∧ (Lit.int .u32 j).wf = true := by
  obtain ⟨⟨cs⟩, rfl, hsz⟩ := okWide_struct Tryz.underlying42 hv
  rw [Tryz.cells42] at hsz
  obtain ⟨c0, c1, c2, c3, c4, rfl⟩ := list5 (by simpa using hsz)
  obtain ⟨fuel, hf⟩ := h
  obtain ⟨xs, k, _, hx, _, hlen, hfs⟩ := DataW.trod_struct Tryz.underlying42 hf
  obtain ⟨y0, y1, y2, y3, y4, rfl⟩ := list5 (by simpa using hlen)
  clear hf hv
  have h0 : DataW.trod enc Tryz.prog W base spare held k 2 [c0] = some y0 := by have q := hfs 0 { name := "X1", type := 2, offset := 0, embedded := false, tag := "", pkgPath := "", byteOffset := 0 } rfl; dsimp only at q; rw [Tryz.cells2] at q; simpa [Value.cells] using q
  have h1 : DataW.trod enc Tryz.prog W base spare held k 2 [c1] = some y1 := by have q := hfs 1 { name := "X2", type := 2, offset := 1, embedded := false, tag := "", pkgPath := "", byteOffset := 8 } rfl; dsimp only at q; rw [Tryz.cells2] at q; simpa [Value.cells] using q
  have h2 : DataW.trod enc Tryz.prog W base spare held k 2 [c2] = some y2 := by have q := hfs 2 { name := "Y1", type := 2, offset := 2, embedded := false, tag := "", pkgPath := "", byteOffset := 16 } rfl; dsimp only at q; rw [Tryz.cells2] at q; simpa [Value.cells] using q
  have h3 : DataW.trod enc Tryz.prog W base spare held k 2 [c3] = some y3 := by have q := hfs 3 { name := "Y2", type := 2, offset := 3, embedded := false, tag := "", pkgPath := "", byteOffset := 24 } rfl; dsimp only at q; rw [Tryz.cells2] at q; simpa [Value.cells] using q
  have h4 : DataW.trod enc Tryz.prog W base spare held k 32 [c4] = some y4 := by have q := hfs 4 { name := "ID", type := 32, offset := 4, embedded := false, tag := "", pkgPath := "", byteOffset := 32 } rfl; dsimp only at q; rw [Tryz.cells32] at q; simpa [Value.cells] using q
  obtain ⟨a, e0, rfl, w0⟩ := DataW.trod_int Tryz.underlying2 h0
  obtain ⟨b, e1, rfl, w1⟩ := DataW.trod_int Tryz.underlying2 h1
  obtain ⟨c, e2, rfl, w2⟩ := DataW.trod_int Tryz.underlying2 h2
  obtain ⟨e, e3, rfl, w3⟩ := DataW.trod_int Tryz.underlying2 h3
  obtain ⟨j, e4, rfl, w4⟩ := DataW.trod_int Tryz.underlying32 h4
  simp at e0 e1 e2 e3 e4
  subst e0 e1 e2 e3 e4
  simp at hx
  exact ⟨a, b, c, e, j, rfl, hx.1, hx.2, w0, w1, w2, w3, w4⟩

theorem read_box {H : Type} {enc : TypeId × Value → H} {a b c e j : Int} (h0 : (Lit.int .i64 a).wf = true) (h1 : (Lit.int .i64 b).wf = true) (h2 : (Lit.int .i64 c).wf = true) (h3 : (Lit.int .i64 e).wf = true) (h4 : (Lit.int .u32 j).wf = true) (W' : World) (sp : Nat → Bool) :
    DataW.Trod enc Tryz.prog W' 0 sp true 42 (.agg #[.int .i64 a, .int .i64 b, .int .i64 c, .int .i64 e, .int .u32 j]) (.agg [.lit (.int .i64 a), .lit (.int .i64 b), .lit (.int .i64 c), .lit (.int .i64 e), .lit (.int .u32 j)]) [] := by
  have := trod_struct_mk (enc := enc) (w := W') (base := 0) (spare := sp) (held := true) (n := 1) (cs := [.int .i64 a, .int .i64 b, .int .i64 c, .int .i64 e, .int .u32 j]) (xs := [(.lit (.int .i64 a), []), (.lit (.int .i64 b), []), (.lit (.int .i64 c), []), (.lit (.int .i64 e), []), (.lit (.int .u32 j), [])]) Tryz.underlying42 (by rw [Tryz.cells42]; rfl)
    (by simp [DataW.trod, Tryz.underlying32, Tryz.underlying2, Tryz.cells32, Tryz.cells2, h0, h1, h2, h3, h4])
  exact ⟨_, by simpa [Value.cells] using this⟩
end Go.Proofs.YtfcpfffgodljeaaGreat
