/-
  The law ItemTells' argument (two points, two spans, a box, two numbers in one struct), opened and read again. No condition but those typed at each theorem.
-/
import Derived.Test.YtpbghgmaikmneaaLift
namespace Go.Proofs.Ytpbghgmaikmneaa
open Go.ChangeShapes Go.WideShapes Go.ChangeAt Go.RowKit Go.Joins
theorem Try.cells30 : Try.prog.cellsOf 30 = 19 := by kernel_rfl
theorem list3 {α : Type} {l : List α} (h : l.length = 3) : ∃ a b c, l = [a, b, c] := by
  match l, h with
  | [a, b, c], _ => exact ⟨a, b, c, rfl⟩
theorem list7 {α : Type} {l : List α} (h : l.length = 7) : ∃ a b c d e f g, l = [a, b, c, d, e, f, g] := by
  match l, h with
  | [a, b, c, d, e, f, g], _ => exact ⟨a, b, c, d, e, f, g, rfl⟩
theorem list19 {α : Type} {l : List α} (h : l.length = 19) : ∃ c0 c1 c2 c3 c4 c5 c6 c7 c8 c9 c10 c11 c12 c13 c14 c15 c16 c17 c18, l = [c0, c1, c2, c3, c4, c5, c6, c7, c8, c9, c10, c11, c12, c13, c14, c15, c16, c17, c18] := by
  match l, h with
  | [c0, c1, c2, c3, c4, c5, c6, c7, c8, c9, c10, c11, c12, c13, c14, c15, c16, c17, c18], _ => exact ⟨c0, c1, c2, c3, c4, c5, c6, c7, c8, c9, c10, c11, c12, c13, c14, c15, c16, c17, c18, rfl⟩
set_option maxRecDepth 100000 in
theorem part24 {H : Type} {enc : TypeId × Value → H} {W : World} {base : Nat} {spare : Nat → Bool} {held : Bool} {c0 c1 c2 : Value} {k : Nat} {z : DataW H × List MemPlace}
    (h : DataW.trod enc Try.prog W base spare held k 24 [c0, c1, c2] = some z) :
    ∃ x y i : Int, c0 = .int .i64 x ∧ c1 = .int .i64 y ∧ c2 = .int .u32 i ∧ z = (.agg [.lit (.int .i64 x), .lit (.int .i64 y), .lit (.int .u32 i)], []) ∧ (Lit.int .i64 x).wf = true ∧ (Lit.int .i64 y).wf = true ∧ (Lit.int .u32 i).wf = true := by
  obtain ⟨xs, m, _, hx, _, hlen, hfs⟩ := DataW.trod_struct Try.underlying24 h
  obtain ⟨y0, y1, y2, rfl⟩ := list3 (by simpa using hlen)
  have h0 : DataW.trod enc Try.prog W base spare held m 2 [c0] = some y0 := by have q := hfs 0 { name := "X", type := 2, offset := 0, embedded := false, tag := "", pkgPath := "", byteOffset := 0 } rfl; dsimp only at q; rw [Try.cells2] at q; simpa using q
  have h1 : DataW.trod enc Try.prog W base spare held m 2 [c1] = some y1 := by have q := hfs 1 { name := "Y", type := 2, offset := 1, embedded := false, tag := "", pkgPath := "", byteOffset := 8 } rfl; dsimp only at q; rw [Try.cells2] at q; simpa using q
  have h2 : DataW.trod enc Try.prog W base spare held m 22 [c2] = some y2 := by have q := hfs 2 { name := "ID", type := 22, offset := 2, embedded := false, tag := "", pkgPath := "", byteOffset := 16 } rfl; dsimp only at q; rw [Try.cells22] at q; simpa using q
  obtain ⟨x, e0, rfl, w0⟩ := DataW.trod_int Try.underlying2 h0
  obtain ⟨y, e1, rfl, w1⟩ := DataW.trod_int Try.underlying2 h1
  obtain ⟨i, e2, rfl, w2⟩ := DataW.trod_int Try.underlying22 h2
  simp at e0 e1 e2
  subst e0 e1 e2
  exact ⟨x, y, i, rfl, rfl, rfl, by simpa using hx, w0, w1, w2⟩
set_option maxRecDepth 100000 in
theorem part26 {H : Type} {enc : TypeId × Value → H} {W : World} {base : Nat} {spare : Nat → Bool} {held : Bool} {c0 c1 c2 : Value} {k : Nat} {z : DataW H × List MemPlace}
    (h : DataW.trod enc Try.prog W base spare held k 26 [c0, c1, c2] = some z) :
    ∃ x y i : Int, c0 = .int .i64 x ∧ c1 = .int .i64 y ∧ c2 = .int .u32 i ∧ z = (.agg [.lit (.int .i64 x), .lit (.int .i64 y), .lit (.int .u32 i)], []) ∧ (Lit.int .i64 x).wf = true ∧ (Lit.int .i64 y).wf = true ∧ (Lit.int .u32 i).wf = true := by
  obtain ⟨xs, m, _, hx, _, hlen, hfs⟩ := DataW.trod_struct Try.underlying26 h
  obtain ⟨y0, y1, y2, rfl⟩ := list3 (by simpa using hlen)
  have h0 : DataW.trod enc Try.prog W base spare held m 2 [c0] = some y0 := by have q := hfs 0 { name := "Lo", type := 2, offset := 0, embedded := false, tag := "", pkgPath := "", byteOffset := 0 } rfl; dsimp only at q; rw [Try.cells2] at q; simpa using q
  have h1 : DataW.trod enc Try.prog W base spare held m 2 [c1] = some y1 := by have q := hfs 1 { name := "Hi", type := 2, offset := 1, embedded := false, tag := "", pkgPath := "", byteOffset := 8 } rfl; dsimp only at q; rw [Try.cells2] at q; simpa using q
  have h2 : DataW.trod enc Try.prog W base spare held m 22 [c2] = some y2 := by have q := hfs 2 { name := "ID", type := 22, offset := 2, embedded := false, tag := "", pkgPath := "", byteOffset := 16 } rfl; dsimp only at q; rw [Try.cells22] at q; simpa using q
  obtain ⟨x, e0, rfl, w0⟩ := DataW.trod_int Try.underlying2 h0
  obtain ⟨y, e1, rfl, w1⟩ := DataW.trod_int Try.underlying2 h1
  obtain ⟨i, e2, rfl, w2⟩ := DataW.trod_int Try.underlying22 h2
  simp at e0 e1 e2
  subst e0 e1 e2
  exact ⟨x, y, i, rfl, rfl, rfl, by simpa using hx, w0, w1, w2⟩
set_option maxRecDepth 100000 in
theorem part28 {H : Type} {enc : TypeId × Value → H} {W : World} {base : Nat} {spare : Nat → Bool} {held : Bool} {c0 c1 c2 c3 c4 : Value} {k : Nat} {z : DataW H × List MemPlace}
    (h : DataW.trod enc Try.prog W base spare held k 28 [c0, c1, c2, c3, c4] = some z) :
    ∃ a b c d j : Int, c0 = .int .i64 a ∧ c1 = .int .i64 b ∧ c2 = .int .i64 c ∧ c3 = .int .i64 d ∧ c4 = .int .u32 j ∧ z = (.agg [.lit (.int .i64 a), .lit (.int .i64 b), .lit (.int .i64 c), .lit (.int .i64 d), .lit (.int .u32 j)], []) ∧ (Lit.int .i64 a).wf = true ∧ (Lit.int .i64 b).wf = true ∧ (Lit.int .i64 c).wf = true ∧ (Lit.int .i64 d).wf = true ∧ (Lit.int .u32 j).wf = true := by
  obtain ⟨xs, m, _, hx, _, hlen, hfs⟩ := DataW.trod_struct Try.underlying28 h
  obtain ⟨y0, y1, y2, y3, y4, rfl⟩ := list5 (by simpa using hlen)
  have h0 : DataW.trod enc Try.prog W base spare held m 2 [c0] = some y0 := by have q := hfs 0 { name := "X1", type := 2, offset := 0, embedded := false, tag := "", pkgPath := "", byteOffset := 0 } rfl; dsimp only at q; rw [Try.cells2] at q; simpa using q
  have h1 : DataW.trod enc Try.prog W base spare held m 2 [c1] = some y1 := by have q := hfs 1 { name := "X2", type := 2, offset := 1, embedded := false, tag := "", pkgPath := "", byteOffset := 8 } rfl; dsimp only at q; rw [Try.cells2] at q; simpa using q
  have h2 : DataW.trod enc Try.prog W base spare held m 2 [c2] = some y2 := by have q := hfs 2 { name := "Y1", type := 2, offset := 2, embedded := false, tag := "", pkgPath := "", byteOffset := 16 } rfl; dsimp only at q; rw [Try.cells2] at q; simpa using q
  have h3 : DataW.trod enc Try.prog W base spare held m 2 [c3] = some y3 := by have q := hfs 3 { name := "Y2", type := 2, offset := 3, embedded := false, tag := "", pkgPath := "", byteOffset := 24 } rfl; dsimp only at q; rw [Try.cells2] at q; simpa using q
  have h4 : DataW.trod enc Try.prog W base spare held m 22 [c4] = some y4 := by have q := hfs 4 { name := "ID", type := 22, offset := 4, embedded := false, tag := "", pkgPath := "", byteOffset := 32 } rfl; dsimp only at q; rw [Try.cells22] at q; simpa using q
  obtain ⟨a, e0, rfl, w0⟩ := DataW.trod_int Try.underlying2 h0
  obtain ⟨b, e1, rfl, w1⟩ := DataW.trod_int Try.underlying2 h1
  obtain ⟨c, e2, rfl, w2⟩ := DataW.trod_int Try.underlying2 h2
  obtain ⟨d, e3, rfl, w3⟩ := DataW.trod_int Try.underlying2 h3
  obtain ⟨j, e4, rfl, w4⟩ := DataW.trod_int Try.underlying22 h4
  simp at e0 e1 e2 e3 e4
  subst e0 e1 e2 e3 e4
  exact ⟨a, b, c, d, j, rfl, rfl, rfl, rfl, rfl, by simpa using hx, w0, w1, w2, w3, w4⟩
set_option maxRecDepth 100000 in
theorem open30 {H : Type} {enc : TypeId × Value → H} {W : World} {base b0 : Nat} {spare : Nat → Bool} {held : Bool} {r : Reach} {v : Value} {d : DataW H} {p : List MemPlace}
    (hv : Value.okWide Try.prog W r b0 30 v) (h : DataW.Trod enc Try.prog W base spare held 30 v d p) :
    ∃ px py pi qx qy qi sa sb si ta tb ti b1 b2 b3 b4 bj x y : Int, v = .agg #[.int .i64 px, .int .i64 py, .int .u32 pi, .int .i64 qx, .int .i64 qy, .int .u32 qi, .int .i64 sa, .int .i64 sb, .int .u32 si, .int .i64 ta, .int .i64 tb, .int .u32 ti, .int .i64 b1, .int .i64 b2, .int .i64 b3, .int .i64 b4, .int .u32 bj, .int .i64 x, .int .i64 y] ∧ d = .agg [.agg [.lit (.int .i64 px), .lit (.int .i64 py), .lit (.int .u32 pi)], .agg [.lit (.int .i64 qx), .lit (.int .i64 qy), .lit (.int .u32 qi)], .agg [.lit (.int .i64 sa), .lit (.int .i64 sb), .lit (.int .u32 si)], .agg [.lit (.int .i64 ta), .lit (.int .i64 tb), .lit (.int .u32 ti)], .agg [.lit (.int .i64 b1), .lit (.int .i64 b2), .lit (.int .i64 b3), .lit (.int .i64 b4), .lit (.int .u32 bj)], .lit (.int .i64 x), .lit (.int .i64 y)] ∧ p = [] ∧ (Lit.int .i64 px).wf = true ∧ (Lit.int .i64 py).wf = true ∧ (Lit.int .u32 pi).wf = true ∧ (Lit.int .i64 qx).wf = true ∧ (Lit.int .i64 qy).wf = true ∧ (Lit.int .u32 qi).wf = true ∧ (Lit.int .i64 sa).wf = true ∧ (Lit.int .i64 sb).wf = true ∧ (Lit.int .u32 si).wf = true ∧ (Lit.int .i64 ta).wf = true ∧ (Lit.int .i64 tb).wf = true ∧ (Lit.int .u32 ti).wf = true ∧ (Lit.int .i64 b1).wf = true ∧ (Lit.int .i64 b2).wf = true ∧ (Lit.int .i64 b3).wf = true ∧ (Lit.int .i64 b4).wf = true ∧ (Lit.int .u32 bj).wf = true ∧ (Lit.int .i64 x).wf = true ∧ (Lit.int .i64 y).wf = true := by
  obtain ⟨⟨cs⟩, rfl, hsz⟩ := okWide_struct Try.underlying30 hv
  rw [Try.cells30] at hsz
  obtain ⟨c0, c1, c2, c3, c4, c5, c6, c7, c8, c9, c10, c11, c12, c13, c14, c15, c16, c17, c18, rfl⟩ := list19 (by simpa using hsz)
  obtain ⟨fuel, hf⟩ := h
  obtain ⟨xs, k, _, hx, _, hlen, hfs⟩ := DataW.trod_struct Try.underlying30 hf
  obtain ⟨y0, y1, y2, y3, y4, y5, y6, rfl⟩ := list7 (by simpa using hlen)
  clear hf hv
  have h0 : DataW.trod enc Try.prog W base spare held k 24 [c0, c1, c2] = some y0 := by have q := hfs 0 { name := "P", type := 24, offset := 0, embedded := false, tag := "", pkgPath := "", byteOffset := 0 } rfl; dsimp only at q; rw [Try.cells24] at q; simpa [Value.cells] using q
  have h1 : DataW.trod enc Try.prog W base spare held k 24 [c3, c4, c5] = some y1 := by have q := hfs 1 { name := "Q", type := 24, offset := 3, embedded := false, tag := "", pkgPath := "", byteOffset := 24 } rfl; dsimp only at q; rw [Try.cells24] at q; simpa [Value.cells] using q
  have h2 : DataW.trod enc Try.prog W base spare held k 26 [c6, c7, c8] = some y2 := by have q := hfs 2 { name := "S", type := 26, offset := 6, embedded := false, tag := "", pkgPath := "", byteOffset := 48 } rfl; dsimp only at q; rw [Try.cells26] at q; simpa [Value.cells] using q
  have h3 : DataW.trod enc Try.prog W base spare held k 26 [c9, c10, c11] = some y3 := by have q := hfs 3 { name := "T", type := 26, offset := 9, embedded := false, tag := "", pkgPath := "", byteOffset := 72 } rfl; dsimp only at q; rw [Try.cells26] at q; simpa [Value.cells] using q
  have h4 : DataW.trod enc Try.prog W base spare held k 28 [c12, c13, c14, c15, c16] = some y4 := by have q := hfs 4 { name := "B", type := 28, offset := 12, embedded := false, tag := "", pkgPath := "", byteOffset := 96 } rfl; dsimp only at q; rw [Try.cells28] at q; simpa [Value.cells] using q
  have h5 : DataW.trod enc Try.prog W base spare held k 2 [c17] = some y5 := by have q := hfs 5 { name := "X", type := 2, offset := 17, embedded := false, tag := "", pkgPath := "", byteOffset := 136 } rfl; dsimp only at q; rw [Try.cells2] at q; simpa [Value.cells] using q
  have h6 : DataW.trod enc Try.prog W base spare held k 2 [c18] = some y6 := by have q := hfs 6 { name := "Y", type := 2, offset := 18, embedded := false, tag := "", pkgPath := "", byteOffset := 144 } rfl; dsimp only at q; rw [Try.cells2] at q; simpa [Value.cells] using q
  obtain ⟨px, py, pi, rfl, rfl, rfl, rfl, wpx, wpy, wpi⟩ := part24 h0
  obtain ⟨qx, qy, qi, rfl, rfl, rfl, rfl, wqx, wqy, wqi⟩ := part24 h1
  obtain ⟨sa, sb, si, rfl, rfl, rfl, rfl, wsa, wsb, wsi⟩ := part26 h2
  obtain ⟨ta, tb, ti, rfl, rfl, rfl, rfl, wta, wtb, wti⟩ := part26 h3
  obtain ⟨b1, b2, b3, b4, bj, rfl, rfl, rfl, rfl, rfl, rfl, wb1, wb2, wb3, wb4, wbj⟩ := part28 h4
  obtain ⟨x, e5, rfl, wx⟩ := DataW.trod_int Try.underlying2 h5
  obtain ⟨y, e6, rfl, wy⟩ := DataW.trod_int Try.underlying2 h6
  simp at e5 e6
  subst e5 e6
  simp at hx
  exact ⟨px, py, pi, qx, qy, qi, sa, sb, si, ta, tb, ti, b1, b2, b3, b4, bj, x, y, rfl, hx.1, hx.2, wpx, wpy, wpi, wqx, wqy, wqi, wsa, wsb, wsi, wta, wtb, wti, wb1, wb2, wb3, wb4, wbj, wx, wy⟩
set_option maxRecDepth 100000 in
theorem read30 {H : Type} {enc : TypeId × Value → H} {px py pi qx qy qi sa sb si ta tb ti b1 b2 b3 b4 bj x y : Int} (wpx : (Lit.int .i64 px).wf = true) (wpy : (Lit.int .i64 py).wf = true) (wpi : (Lit.int .u32 pi).wf = true) (wqx : (Lit.int .i64 qx).wf = true) (wqy : (Lit.int .i64 qy).wf = true) (wqi : (Lit.int .u32 qi).wf = true) (wsa : (Lit.int .i64 sa).wf = true) (wsb : (Lit.int .i64 sb).wf = true) (wsi : (Lit.int .u32 si).wf = true) (wta : (Lit.int .i64 ta).wf = true) (wtb : (Lit.int .i64 tb).wf = true) (wti : (Lit.int .u32 ti).wf = true) (wb1 : (Lit.int .i64 b1).wf = true) (wb2 : (Lit.int .i64 b2).wf = true) (wb3 : (Lit.int .i64 b3).wf = true) (wb4 : (Lit.int .i64 b4).wf = true) (wbj : (Lit.int .u32 bj).wf = true) (wx : (Lit.int .i64 x).wf = true) (wy : (Lit.int .i64 y).wf = true) (W' : World) (sp : Nat → Bool) :
    DataW.Trod enc Try.prog W' 0 sp true 30 (.agg #[.int .i64 px, .int .i64 py, .int .u32 pi, .int .i64 qx, .int .i64 qy, .int .u32 qi, .int .i64 sa, .int .i64 sb, .int .u32 si, .int .i64 ta, .int .i64 tb, .int .u32 ti, .int .i64 b1, .int .i64 b2, .int .i64 b3, .int .i64 b4, .int .u32 bj, .int .i64 x, .int .i64 y]) (.agg [.agg [.lit (.int .i64 px), .lit (.int .i64 py), .lit (.int .u32 pi)], .agg [.lit (.int .i64 qx), .lit (.int .i64 qy), .lit (.int .u32 qi)], .agg [.lit (.int .i64 sa), .lit (.int .i64 sb), .lit (.int .u32 si)], .agg [.lit (.int .i64 ta), .lit (.int .i64 tb), .lit (.int .u32 ti)], .agg [.lit (.int .i64 b1), .lit (.int .i64 b2), .lit (.int .i64 b3), .lit (.int .i64 b4), .lit (.int .u32 bj)], .lit (.int .i64 x), .lit (.int .i64 y)]) [] := by
  have s0 := trod_struct_mk (enc := enc) (w := W') (base := 0) (spare := sp) (held := true) (n := 1) (cs := [.int .i64 px, .int .i64 py, .int .u32 pi]) (xs := [(.lit (.int .i64 px), []), (.lit (.int .i64 py), []), (.lit (.int .u32 pi), [])]) Try.underlying24 (by rw [Try.cells24]; rfl)
    (by simp [DataW.trod, Try.underlying22, Try.underlying2, Try.cells22, Try.cells2, wpx, wpy, wpi])
  have s1 := trod_struct_mk (enc := enc) (w := W') (base := 0) (spare := sp) (held := true) (n := 1) (cs := [.int .i64 qx, .int .i64 qy, .int .u32 qi]) (xs := [(.lit (.int .i64 qx), []), (.lit (.int .i64 qy), []), (.lit (.int .u32 qi), [])]) Try.underlying24 (by rw [Try.cells24]; rfl)
    (by simp [DataW.trod, Try.underlying22, Try.underlying2, Try.cells22, Try.cells2, wqx, wqy, wqi])
  have s2 := trod_struct_mk (enc := enc) (w := W') (base := 0) (spare := sp) (held := true) (n := 1) (cs := [.int .i64 sa, .int .i64 sb, .int .u32 si]) (xs := [(.lit (.int .i64 sa), []), (.lit (.int .i64 sb), []), (.lit (.int .u32 si), [])]) Try.underlying26 (by rw [Try.cells26]; rfl)
    (by simp [DataW.trod, Try.underlying22, Try.underlying2, Try.cells22, Try.cells2, wsa, wsb, wsi])
  have s3 := trod_struct_mk (enc := enc) (w := W') (base := 0) (spare := sp) (held := true) (n := 1) (cs := [.int .i64 ta, .int .i64 tb, .int .u32 ti]) (xs := [(.lit (.int .i64 ta), []), (.lit (.int .i64 tb), []), (.lit (.int .u32 ti), [])]) Try.underlying26 (by rw [Try.cells26]; rfl)
    (by simp [DataW.trod, Try.underlying22, Try.underlying2, Try.cells22, Try.cells2, wta, wtb, wti])
  have s4 := trod_struct_mk (enc := enc) (w := W') (base := 0) (spare := sp) (held := true) (n := 1) (cs := [.int .i64 b1, .int .i64 b2, .int .i64 b3, .int .i64 b4, .int .u32 bj]) (xs := [(.lit (.int .i64 b1), []), (.lit (.int .i64 b2), []), (.lit (.int .i64 b3), []), (.lit (.int .i64 b4), []), (.lit (.int .u32 bj), [])]) Try.underlying28 (by rw [Try.cells28]; rfl)
    (by simp [DataW.trod, Try.underlying22, Try.underlying2, Try.cells22, Try.cells2, wb1, wb2, wb3, wb4, wbj])
  simp only [List.map_cons, List.map_nil, List.flatMap_cons, List.flatMap_nil, List.append_nil] at s0 s1 s2 s3 s4
  have u5 : DataW.trod enc Try.prog W' 0 sp true 2 2 [.int .i64 x] = some (.lit (.int .i64 x), []) := by simp [DataW.trod, Try.underlying2, wx]
  have u6 : DataW.trod enc Try.prog W' 0 sp true 2 2 [.int .i64 y] = some (.lit (.int .i64 y), []) := by simp [DataW.trod, Try.underlying2, wy]
  have := trod_struct_mk (enc := enc) (w := W') (base := 0) (spare := sp) (held := true) (n := 2) (cs := [.int .i64 px, .int .i64 py, .int .u32 pi, .int .i64 qx, .int .i64 qy, .int .u32 qi, .int .i64 sa, .int .i64 sb, .int .u32 si, .int .i64 ta, .int .i64 tb, .int .u32 ti, .int .i64 b1, .int .i64 b2, .int .i64 b3, .int .i64 b4, .int .u32 bj, .int .i64 x, .int .i64 y]) (xs := [(.agg [.lit (.int .i64 px), .lit (.int .i64 py), .lit (.int .u32 pi)], []), (.agg [.lit (.int .i64 qx), .lit (.int .i64 qy), .lit (.int .u32 qi)], []), (.agg [.lit (.int .i64 sa), .lit (.int .i64 sb), .lit (.int .u32 si)], []), (.agg [.lit (.int .i64 ta), .lit (.int .i64 tb), .lit (.int .u32 ti)], []), (.agg [.lit (.int .i64 b1), .lit (.int .i64 b2), .lit (.int .i64 b3), .lit (.int .i64 b4), .lit (.int .u32 bj)], []), (.lit (.int .i64 x), []), (.lit (.int .i64 y), [])]) Try.underlying30 (by rw [Try.cells30]; rfl)
    (by simp [Try.cells24, Try.cells26, Try.cells28, Try.cells2, s0, s1, s2, s3, s4, u5, u6])
  exact ⟨_, by simpa [Value.cells] using this⟩
end Go.Proofs.Ytpbghgmaikmneaa
