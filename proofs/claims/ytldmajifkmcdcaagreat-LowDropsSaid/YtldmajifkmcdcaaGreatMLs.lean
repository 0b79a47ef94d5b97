/-
  Parts, records of three numbers, in memory; a list of them that came in, opened. No condition but those typed at each theorem.
-/
import Derived.Test.YtldmajifkmcdcaaGreatP3
import Derived.Test.YtldmajifkmcdcaaGreatMP
namespace Go.Proofs.YtldmajifkmcdcaaGreat.Lw
open Go.ChangeShapes Go.WideShapes Go.ChangeAt Go.RowKit Go.Joins
/-- a record's cells -/
def uvs (n : S3) : List Value := [.int .i64 n.1, .int .i64 n.2.1, .int .i64 n.2.2]
def uv (n : S3) : Value := .agg #[.int .i64 n.1, .int .i64 n.2.1, .int .i64 n.2.2]
/-- from this place on a record lies -/
structure U1 (w : World) (b o : Nat) (n : S3) : Prop where
  c0 : w.cell? ⟨b, o, none⟩ = some (.int .i64 n.1)
  c1 : w.cell? ⟨b, o + 1, none⟩ = some (.int .i64 n.2.1)
  c2 : w.cell? ⟨b, o + 2, none⟩ = some (.int .i64 n.2.2)
theorem U1.lt {w : World} {b o : Nat} {n : S3} (h : U1 w b o n) : b < w.heap.size := World.block_lt_of_cell? w _ h.c0
theorem U1.block {w w' : World} {b o : Nat} {n : S3} (h : U1 w b o n) (hb : w'.heap[b]? = w.heap[b]?) : U1 w' b o n := by
  have k : ∀ i, w'.cell? ⟨b, i, none⟩ = w.cell? ⟨b, i, none⟩ := fun i => World.cell?_of_block (a := ⟨b, i, none⟩) hb
  exact ⟨(k _).trans h.c0, (k _).trans h.c1, (k _).trans h.c2⟩
theorem U1.keep {w w' : World} {b o N : Nat} {n : S3} (h : U1 w b o n) (hb : Below N w w') (hN : b < N) : U1 w' b o n := h.block (hb.block b hN)
theorem U1.off {w w' : World} {b o : Nat} {n : S3} {S : List Nat} (h : U1 w b o n) (hb : Off S w w') (hN : b ∉ S) : U1 w' b o n := h.block (hb.block b h.lt hN)
theorem U1.new (w : World) (n : S3) (t : TypeId) : U1 (w.alloc (.cells (uvs n).toArray t)) w.heap.size 0 n := by
  have k : ∀ i v, (uvs n)[i]? = some v → (w.alloc (.cells (uvs n).toArray t)).cell? ⟨w.heap.size, i, none⟩ = some v := fun i v e => by
    rw [World.cell?_alloc_new]
    simpa using e
  exact ⟨k 0 _ rfl, k 1 _ rfl, k 2 _ rfl⟩
/-- from this place on these records lie -/
def Us (w : World) (b off : Nat) (ns : List S3) : Prop := ∀ j n, ns[j]? = some n → U1 w b (off + j * 3) n
/-- a slice's first place, and the records that it has -/
def UsS (w : World) (p : Option Addr) (ns : List S3) : Prop := ns = [] ∨ ∃ b off, p = some ⟨b, off, none⟩ ∧ Us w b off ns
theorem UsS.nil (w : World) (p : Option Addr) : UsS w p [] := .inl rfl
theorem UsS.keep {w w' : World} {p : Option Addr} {ns : List S3} (h : UsS w p ns) (hb : Below w.heap.size w w') : UsS w' p ns := by
  rcases h with h | ⟨b, off, rfl, h⟩
  · exact .inl h
  · exact .inr ⟨b, off, rfl, fun j n e => (h j n e).keep hb (h j n e).lt⟩
theorem UsS.off {w w' : World} {p : Option Addr} {ns : List S3} {S : List Nat} (h : UsS w p ns) (hb : Off S w w') (hS : ∀ b off, p = some ⟨b, off, none⟩ → ns ≠ [] → b ∉ S) : UsS w' p ns := by
  rcases h with h | ⟨b, off, rfl, h⟩
  · exact .inl h
  · refine .inr ⟨b, off, rfl, fun j n e => (h j n e).off hb (hS b off rfl (fun h0 => by subst h0; simp at e))⟩
theorem UsS.at {w : World} {p : Option Addr} {ns : List S3} (h : UsS w p ns) {j : Nat} {n : S3} (e : ns[j]? = some n) : ∃ b off, p = some ⟨b, off, none⟩ ∧ U1 w b (off + j * 3) n := by
  rcases h with rfl | ⟨b, off, hp, h⟩
  · simp at e
  · exact ⟨b, off, hp, h j n e⟩
theorem UsS.lt {w : World} {ns : List S3} {b off : Nat} (h : UsS w (some ⟨b, off, none⟩) ns) (h0 : ns ≠ []) : b < w.heap.size := by
  rcases h with h | ⟨b2, off2, e, h⟩
  · exact absurd h h0
  · cases e
    cases ns with
    | nil => exact absurd rfl h0
    | cons x xs => exact (h 0 x rfl).lt
theorem UsS.take {w : World} {p : Option Addr} {ns : List S3} (h : UsS w p ns) (k : Nat) : UsS w p (ns.take k) := by
  rcases h with rfl | ⟨b, off, rfl, h⟩
  · exact .inl (by simp)
  · refine .inr ⟨b, off, rfl, fun j n e => h j n ?_⟩
    rw [List.getElem?_take] at e
    split at e
    · exact e
    · cases e
def WfU (s : S3) : Prop := (Lit.int .i64 s.1).wf = true ∧ (Lit.int .i64 s.2.1).wf = true ∧ (Lit.int .i64 s.2.2).wf = true
theorem Tryz.cells42 : Tryz.prog.cellsOf 42 = 3 := by kernel_rfl
theorem part_at {H : Type} {enc : TypeId × Value → H} {W : World} {base : Nat} {spare : Nat → Bool} {held : Bool} {n : Nat} {a : Addr} {cs : List Value} {x : DataW H × List MemPlace}
    (hc : W.cells? base a 3 = some cs) (ht : DataW.trod enc Tryz.prog W base spare held n 42 cs = some x) : ∃ k : S3, WfU k ∧ ∀ i v, i < 3 → (uvs k)[i]? = some v → W.cell? (a.add i) = some v := by
  obtain ⟨_, hl, hat⟩ := World.cells?_some hc
  obtain ⟨xs, k, _, hx, _, hlen, hfs⟩ := DataW.trod_struct Tryz.underlying42 ht
  obtain ⟨c0, c1, c2, rfl⟩ := list3 hl
  obtain ⟨y0, y1, y2, rfl⟩ := list3 (by simpa using hlen)
  clear hx ht
  have h0 : DataW.trod enc Tryz.prog W base spare held k 2 [c0] = some y0 := by have q := hfs 0 { name := "X1", type := 2, offset := 0, embedded := false, tag := "", pkgPath := "", byteOffset := 0 } rfl; dsimp only at q; rw [Tryz.cells2] at q; simpa using q
  have h1 : DataW.trod enc Tryz.prog W base spare held k 2 [c1] = some y1 := by have q := hfs 1 { name := "X2", type := 2, offset := 1, embedded := false, tag := "", pkgPath := "", byteOffset := 8 } rfl; dsimp only at q; rw [Tryz.cells2] at q; simpa using q
  have h2 : DataW.trod enc Tryz.prog W base spare held k 3 [c2] = some y2 := by have q := hfs 2 { name := "K", type := 3, offset := 2, embedded := false, tag := "", pkgPath := "", byteOffset := 16 } rfl; dsimp only at q; rw [show Tryz.prog.cellsOf 3 = 1 from by kernel_rfl] at q; simpa using q
  obtain ⟨z0, e0, _, w0⟩ := DataW.trod_int Tryz.underlying2 h0
  obtain ⟨z1, e1, _, w1⟩ := DataW.trod_int Tryz.underlying2 h1
  obtain ⟨z2, e2, _, w2⟩ := DataW.trod_int Tryz.underlying3 h2
  simp at e0 e1 e2
  subst e0 e1 e2
  refine ⟨(z0, z1, z2), ⟨w0, w1, w2⟩, fun i v hi e => ?_⟩
  have := hat i hi
  rw [this]
  exact e
theorem open_parts {H : Type} {enc : TypeId × Value → H} {W : World} {d : DataW H} {p : List MemPlace} {q : Option Addr} {len cap : Nat}
    (h : DataW.Trod enc Tryz.prog W 0 (fun _ => true) true 23 (.slice q len cap) d p) : ∃ ns : List S3, len = ns.length ∧ UsS W q ns ∧ (q = none → cap = 0) ∧ len ≤ cap ∧ cap ≤ maxLen ∧ ∀ s ∈ ns, WfU s := by
  obtain ⟨fuel, hf⟩ := h
  rcases Go.Deep.open_slice Tryz.underlying23 hf with ⟨hcs, _⟩ | ⟨a, len', cap', m, n, D, Pl, hcs, hb, hl, hm, hmm, hx, hi⟩
  · simp [Value.cells] at hcs
    obtain ⟨rfl, rfl, rfl⟩ := hcs
    exact ⟨[], rfl, .inl rfl, fun _ => rfl, Nat.le_refl _, by simp [maxLen], by simp⟩
  · simp [Value.cells] at hcs
    obtain ⟨rfl, rfl, rfl⟩ := hcs
    simp only [if_true] at hmm
    subst hmm
    rw [Tryz.cells42] at hi
    have hk : ∀ i, ∃ k : S3, i < len → WfU k ∧ ∀ j v, j < 3 → (uvs k)[j]? = some v → W.cell? ((a.add (i * 3)).add j) = some v := fun i => by
      by_cases hil : i < len
      · obtain ⟨cs', h1, h2⟩ := hi i (by omega)
        obtain ⟨k, hk⟩ := part_at h1 h2
        exact ⟨k, fun _ => hk⟩
      · exact ⟨(0, 0, 0), fun h => absurd h hil⟩
    obtain ⟨f, hf⟩ := Classical.axiomOfChoice hk
    refine ⟨(List.range len).map f, by simp, ?_, fun h => (by cases h), hl, hm, ?_⟩
    · by_cases h0 : len = 0
      · subst h0; exact .inl rfl
      · obtain ⟨b, off, spot⟩ := a
        have hc0 := (hf 0 (by omega)).2 0 _ (by omega) rfl
        have hs : spot = none := by simpa [Addr.add] using World.cell?_spot hc0
        subst hs
        refine .inr ⟨b, off, rfl, fun j k e => ?_⟩
        rw [List.getElem?_map] at e
        cases hj : (List.range len)[j]? with
        | none => rw [hj] at e; cases e
        | some i =>
          rw [hj] at e
          cases e
          obtain ⟨h1, h2⟩ := List.getElem?_eq_some_iff.1 hj
          simp at h1 h2
          subst h2
          have hq := (hf j h1).2
          have e1 : ∀ i, (((⟨b, off, none⟩ : Addr).add (j * 3)).add i) = ⟨b, off + j * 3 + i, none⟩ := fun i => by rw [addn, addn]
          have k' : ∀ i v, i < 3 → (uvs (f j))[i]? = some v → W.cell? ⟨b, off + j * 3 + i, none⟩ = some v := fun i v hi hv => by rw [← e1]; exact hq i v hi hv
          exact ⟨k' 0 _ (by omega) rfl, k' 1 _ (by omega) rfl, k' 2 _ (by omega) rfl⟩
    · intro s hs
      simp at hs
      obtain ⟨i, hi2, rfl⟩ := hs
      exact (hf i hi2).1
end Go.Proofs.YtldmajifkmcdcaaGreat.Lw
/-
  The lesser of a number and a few, slices of sides cut, at layer 13. No condition but those typed at each theorem.
-/
namespace Go.Proofs.YtldmajifkmcdcaaGreat.Lw
open Go.ChangeShapes Go.WideShapes Go.ChangeAt Go.RowKit Go.Joins
theorem Tryz.infoPt : (Tryz.prog.info? 42).map (fun i => (i.zero, i.size, i.bytes)) = some (some (uv (0, 0, 0)), 3, 24) := by kernel_rfl
theorem min14 (X : World) (ty : TypeId) (n : Nat) (k : Int) (hk : k = ((min n 14 : Nat) : Int)) : (Builtin.min_ #[3, 3] ty #[.int .i64 n, .int .i64 14]).run Tryz.prog X = .ok (.int .i64 k) X := by
  subst hk
  by_cases h : n ≤ 14
  · have h2 : ¬ (14 : Int) < n := by omega
    simp [Builtin.min_, Builtin.min2, go_sem, Nat.min_eq_left h, h2]
  · have h2 : (14 : Int) < n := by omega
    simp [Builtin.min_, Builtin.min2, go_sem, Nat.min_eq_right (by omega : 14 ≤ n), h2]
theorem min200 (X : World) (ty : TypeId) (n : Nat) (k : Int) (hk : k = ((min n 200 : Nat) : Int)) : (Builtin.min_ #[3, 3] ty #[.int .i64 n, .int .i64 200]).run Tryz.prog X = .ok (.int .i64 k) X := by
  subst hk
  by_cases h : n ≤ 200
  · have h2 : ¬ (200 : Int) < n := by omega
    simp [Builtin.min_, Builtin.min2, go_sem, Nat.min_eq_left h, h2]
  · have h2 : (200 : Int) < n := by omega
    simp [Builtin.min_, Builtin.min2, go_sem, Nat.min_eq_right (by omega : 200 ≤ n), h2]
theorem slU_to (X : World) (p : Option Addr) (n c h : Nat) (hm : h ≤ c) : (Instr.slice 23 (.slice p n c) none (some (.int .i64 h)) none).run Tryz.prog X = .ok (.slice p h c) X := by
  obtain ⟨i0, hi, hz0, hz1, hz2⟩ := info_parts Tryz.infoPt
  simp [Instr.slice, run_underlying Tryz.underlying23, Instr.sliceBounds, Instr.sliceBound, asIntOf, sizeOf, typeInfo, hi, hm]
  cases p <;> simp [Addr.add_zero']
end Go.Proofs.YtldmajifkmcdcaaGreat.Lw
