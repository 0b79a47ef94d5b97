/-
  Boxes, records of five cells, in memory; a list of boxes that came in, opened. No condition but those typed at each theorem.
-/
import Derived.Test.YtfcpfffgodljeaaGreatP3
namespace Go.Proofs.YtfcpfffgodljeaaGreat
open Go.ChangeShapes Go.WideShapes Go.ChangeAt Go.RowKit Go.Joins

/-- a box and its name -/
abbrev B5 := B4 × Int
def bvs (n : B5) : List Value := [.int .i64 n.1.1, .int .i64 n.1.2.1, .int .i64 n.1.2.2.1, .int .i64 n.1.2.2.2, .int .u32 n.2]
def bv (n : B5) : Value := .agg #[.int .i64 n.1.1, .int .i64 n.1.2.1, .int .i64 n.1.2.2.1, .int .i64 n.1.2.2.2, .int .u32 n.2]
/-- from this place on a box lies -/
structure X1 (w : World) (b o : Nat) (n : B5) : Prop where
  c0 : w.cell? ⟨b, o, none⟩ = some (.int .i64 n.1.1)
  c1 : w.cell? ⟨b, o + 1, none⟩ = some (.int .i64 n.1.2.1)
  c2 : w.cell? ⟨b, o + 2, none⟩ = some (.int .i64 n.1.2.2.1)
  c3 : w.cell? ⟨b, o + 3, none⟩ = some (.int .i64 n.1.2.2.2)
  c4 : w.cell? ⟨b, o + 4, none⟩ = some (.int .u32 n.2)
theorem X1.lt {w : World} {b o : Nat} {n : B5} (h : X1 w b o n) : b < w.heap.size := World.block_lt_of_cell? w _ h.c0
theorem X1.block {w w' : World} {b o : Nat} {n : B5} (h : X1 w b o n) (hb : w'.heap[b]? = w.heap[b]?) : X1 w' b o n := by
  have k : ∀ i, w'.cell? ⟨b, i, none⟩ = w.cell? ⟨b, i, none⟩ := fun i => World.cell?_of_block (a := ⟨b, i, none⟩) hb
  exact ⟨(k _).trans h.c0, (k _).trans h.c1, (k _).trans h.c2, (k _).trans h.c3, (k _).trans h.c4⟩
theorem X1.keep {w w' : World} {b o N : Nat} {n : B5} (h : X1 w b o n) (hb : Below N w w') (hN : b < N) : X1 w' b o n := h.block (hb.block b hN)
theorem X1.off {w w' : World} {b o : Nat} {n : B5} {S : List Nat} (h : X1 w b o n) (hb : Off S w w') (hN : b ∉ S) : X1 w' b o n := h.block (hb.block b h.lt hN)
theorem X1.new (w : World) (n : B5) (t : TypeId) : X1 (w.alloc (.cells (bvs n).toArray t)) w.heap.size 0 n := by
  have k : ∀ i v, (bvs n)[i]? = some v → (w.alloc (.cells (bvs n).toArray t)).cell? ⟨w.heap.size, i, none⟩ = some v := fun i v e => by
    rw [World.cell?_alloc_new]
    simpa using e
  exact ⟨k 0 _ rfl, k 1 _ rfl, k 2 _ rfl, k 3 _ rfl, k 4 _ rfl⟩
/-- a slice's first place, and the boxes that it has -/
def BsS (w : World) (p : Option Addr) (ns : List B5) : Prop := ns = [] ∨ ∃ b off, p = some ⟨b, off, none⟩ ∧ ∀ j n, ns[j]? = some n → X1 w b (off + j * 5) n
theorem BsS.keep {w w' : World} {p : Option Addr} {ns : List B5} (h : BsS w p ns) (hb : Below w.heap.size w w') : BsS w' p ns := by
  rcases h with h | ⟨b, off, rfl, h⟩
  · exact .inl h
  · exact .inr ⟨b, off, rfl, fun j n e => (h j n e).keep hb (h j n e).lt⟩
theorem BsS.at {w : World} {p : Option Addr} {ns : List B5} (h : BsS w p ns) {j : Nat} {n : B5} (e : ns[j]? = some n) : ∃ b off, p = some ⟨b, off, none⟩ ∧ X1 w b (off + j * 5) n := by
  rcases h with rfl | ⟨b, off, hp, h⟩
  · simp at e
  · exact ⟨b, off, hp, h j n e⟩
theorem BsS.take {w : World} {p : Option Addr} {ns : List B5} (h : BsS w p ns) (k : Nat) : BsS w p (ns.take k) := by
  rcases h with rfl | ⟨b, off, rfl, h⟩
  · exact .inl (by simp)
  · refine .inr ⟨b, off, rfl, fun j n e => h j n ?_⟩
    rw [List.getElem?_take] at e
    split at e
    · exact e
    · cases e
/-- a box's numbers are in range -/
def Wf4 (b : B4) : Prop := (Lit.int .i64 b.1).wf = true ∧ (Lit.int .i64 b.2.1).wf = true ∧ (Lit.int .i64 b.2.2.1).wf = true ∧ (Lit.int .i64 b.2.2.2).wf = true
def Wf5 (b : B5) : Prop := Wf4 b.1 ∧ (Lit.int .u32 b.2).wf = true
theorem Tryz.cells42 : Tryz.prog.cellsOf 42 = 5 := by kernel_rfl
theorem Tryz.info42 : (Tryz.prog.info? 42).map (fun i => (i.zero, i.size, i.bytes)) = some (some (bv ((0, 0, 0, 0), 0)), 5, 40) := by kernel_rfl
theorem list5 {α : Type} {l : List α} (h : l.length = 5) : ∃ a b c d e, l = [a, b, c, d, e] := by
  match l, h with
  | [a, b, c, d, e], _ => exact ⟨a, b, c, d, e, rfl⟩
theorem box_at {H : Type} {enc : TypeId × Value → H} {W : World} {base : Nat} {spare : Nat → Bool} {held : Bool} {n : Nat} {a : Addr} {cs : List Value} {x : DataW H × List MemPlace}
    (hc : W.cells? base a 5 = some cs) (ht : DataW.trod enc Tryz.prog W base spare held n 42 cs = some x) : ∃ k : B5, Wf5 k ∧ ∀ i v, i < 5 → (bvs k)[i]? = some v → W.cell? (a.add i) = some v := by
  obtain ⟨_, hl, hat⟩ := World.cells?_some hc
  obtain ⟨xs, k, _, hx, _, hlen, hfs⟩ := DataW.trod_struct Tryz.underlying42 ht
  obtain ⟨c0, c1, c2, c3, c4, rfl⟩ := list5 hl
  obtain ⟨y0, y1, y2, y3, y4, rfl⟩ := list5 (by simpa using hlen)
  clear hx ht
  have h0 : DataW.trod enc Tryz.prog W base spare held k 2 [c0] = some y0 := by have q := hfs 0 { name := "X1", type := 2, offset := 0, embedded := false, tag := "", pkgPath := "", byteOffset := 0 } rfl; dsimp only at q; rw [Tryz.cells2] at q; simpa using q
  have h1 : DataW.trod enc Tryz.prog W base spare held k 2 [c1] = some y1 := by have q := hfs 1 { name := "X2", type := 2, offset := 1, embedded := false, tag := "", pkgPath := "", byteOffset := 8 } rfl; dsimp only at q; rw [Tryz.cells2] at q; simpa using q
  have h2 : DataW.trod enc Tryz.prog W base spare held k 2 [c2] = some y2 := by have q := hfs 2 { name := "Y1", type := 2, offset := 2, embedded := false, tag := "", pkgPath := "", byteOffset := 16 } rfl; dsimp only at q; rw [Tryz.cells2] at q; simpa using q
  have h3 : DataW.trod enc Tryz.prog W base spare held k 2 [c3] = some y3 := by have q := hfs 3 { name := "Y2", type := 2, offset := 3, embedded := false, tag := "", pkgPath := "", byteOffset := 24 } rfl; dsimp only at q; rw [Tryz.cells2] at q; simpa using q
  have h4 : DataW.trod enc Tryz.prog W base spare held k 32 [c4] = some y4 := by have q := hfs 4 { name := "ID", type := 32, offset := 4, embedded := false, tag := "", pkgPath := "", byteOffset := 32 } rfl; dsimp only at q; rw [Tryz.cells32] at q; simpa using q
  obtain ⟨z0, e0, _, w0⟩ := DataW.trod_int Tryz.underlying2 h0
  obtain ⟨z1, e1, _, w1⟩ := DataW.trod_int Tryz.underlying2 h1
  obtain ⟨z2, e2, _, w2⟩ := DataW.trod_int Tryz.underlying2 h2
  obtain ⟨z3, e3, _, w3⟩ := DataW.trod_int Tryz.underlying2 h3
  obtain ⟨z4, e4, _, w4⟩ := DataW.trod_int Tryz.underlying32 h4
  simp at e0 e1 e2 e3 e4
  subst e0 e1 e2 e3 e4
  refine ⟨((z0, z1, z2, z3), z4), ⟨⟨w0, w1, w2, w3⟩, w4⟩, fun i v hi e => ?_⟩
  have := hat i hi
  rw [this]
  exact e
theorem open_boxes {H : Type} {enc : TypeId × Value → H} {W : World} {d : DataW H} {p : List MemPlace} {q : Option Addr} {len cap : Nat}
    (h : DataW.Trod enc Tryz.prog W 0 (fun _ => true) true 23 (.slice q len cap) d p) : ∃ ns : List B5, len = ns.length ∧ BsS W q ns ∧ (q = none → cap = 0) ∧ len ≤ cap ∧ cap ≤ maxLen ∧ ∀ s ∈ ns, Wf5 s := by
  obtain ⟨fuel, hf⟩ := h
  rcases Go.Deep.open_slice Tryz.underlying23 hf with ⟨hcs, _⟩ | ⟨a, len', cap', m, n, D, Pl, hcs, hb, hl, hm, hmm, hx, hi⟩
  · simp [Value.cells] at hcs
    obtain ⟨rfl, rfl, rfl⟩ := hcs
    exact ⟨[], rfl, .inl rfl, fun _ => rfl, Nat.le_refl _, by simp [maxLen], by simp⟩
  · simp [Value.cells] at hcs
    obtain ⟨rfl, rfl, rfl⟩ := hcs
    simp only [if_true] at hmm
    subst hmm
    rw [Tryz.cells42] at hi
    have hk : ∀ i, ∃ k : B5, i < len → Wf5 k ∧ ∀ j v, j < 5 → (bvs k)[j]? = some v → W.cell? ((a.add (i * 5)).add j) = some v := fun i => by
      by_cases hil : i < len
      · obtain ⟨cs', h1, h2⟩ := hi i (by omega)
        obtain ⟨k, hk⟩ := box_at h1 h2
        exact ⟨k, fun _ => hk⟩
      · exact ⟨((0, 0, 0, 0), 0), fun h => absurd h hil⟩
    obtain ⟨f, hf⟩ := Classical.axiomOfChoice hk
    refine ⟨(List.range len).map f, by simp, ?_, fun h => (by cases h), hl, hm, ?_⟩
    · by_cases h0 : len = 0
      · subst h0; exact .inl rfl
      · obtain ⟨b, off, spot⟩ := a
        have hc0 := (hf 0 (by omega)).2 0 _ (by omega) rfl
        have hs : spot = none := by simpa [Addr.add] using World.cell?_spot hc0
        subst hs
        refine .inr ⟨b, off, rfl, fun j k e => ?_⟩
        rw [List.getElem?_map] at e
        cases hj : (List.range len)[j]? with
        | none => rw [hj] at e; cases e
        | some i =>
          rw [hj] at e
          cases e
          obtain ⟨h1, h2⟩ := List.getElem?_eq_some_iff.1 hj
          simp at h1 h2
          subst h2
          have hq := (hf j h1).2
          have e1 : ∀ i, (((⟨b, off, none⟩ : Addr).add (j * 5)).add i) = ⟨b, off + j * 5 + i, none⟩ := fun i => by rw [addn, addn]
          have k' : ∀ i v, i < 5 → (bvs (f j))[i]? = some v → W.cell? ⟨b, off + j * 5 + i, none⟩ = some v := fun i v hi hv => by rw [← e1]; exact hq i v hi hv
          exact ⟨k' 0 _ (by omega) rfl, k' 1 _ (by omega) rfl, k' 2 _ (by omega) rfl, k' 3 _ (by omega) rfl, k' 4 _ (by omega) rfl⟩
    · intro s hs
      simp at hs
      obtain ⟨i, hi2, rfl⟩ := hs
      exact (hf i hi2).1
end Go.Proofs.YtfcpfffgodljeaaGreat
