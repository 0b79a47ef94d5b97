/-
  From walks to rows: lists of nodes that came in, opened and read again; how a law that answers true and leaves all below as it was meets its row. No condition but those typed at each theorem.
-/
import Derived.Test.YtjobfpnlpfjoeaaEqN
import Derived.ProofKit
import Derived.OpenShut
import Derived.Stop.Joined
import Derived.Lib.SmallJoins
import Derived.Deep.Slices
import Derived.ChangeSlices
namespace Go.Proofs.Ytjobfpnlpfjoeaa
open Go.ChangeShapes Go.WideShapes Go.ChangeAt Go.RowKit Go.Joins

theorem Try.own : ownKnob Try.prog.godebug = none := by kernel_rfl
theorem Try.laidOut : laidOutB Try.prog = true := by kernel_rfl
theorem Try.cells36 : Try.prog.cellsOf 36 = 7 := by kernel_rfl
theorem Try.cells5 : Try.prog.cellsOf 5 = 1 := by kernel_rfl
theorem Try.cells2 : Try.prog.cellsOf 2 = 1 := by kernel_rfl
theorem Try.cells3 : Try.prog.cellsOf 3 = 1 := by kernel_rfl
theorem list7 {α : Type} {l : List α} (h : l.length = 7) : ∃ a b c d e f g, l = [a, b, c, d, e, f, g] := by
  match l, h with
  | [a, b, c, d, e, f, g], _ => exact ⟨a, b, c, d, e, f, g, rfl⟩

theorem node_at {H : Type} {enc : TypeId × Value → H} {W : World} {base : Nat} {spare : Nat → Bool} {held : Bool} {n : Nat} {a : Addr} {cs : List Value} {x : DataW H × List MemPlace}
    (hc : W.cells? base a 7 = some cs) (ht : DataW.trod enc Try.prog W base spare held n 36 cs = some x) : ∃ k : Nd, ∀ i v, i < 7 → (nvs k)[i]? = some v → W.cell? (a.add i) = some v := by
  obtain ⟨_, hl, hat⟩ := World.cells?_some hc
  obtain ⟨xs, k, _, hx, _, hlen, hfs⟩ := DataW.trod_struct Try.underlying36 ht
  obtain ⟨c0, c1, c2, c3, c4, c5, c6, rfl⟩ := list7 hl
  obtain ⟨y0, y1, y2, y3, y4, y5, y6, rfl⟩ := list7 (by simpa using hlen)
  clear hx ht
  have h0 : DataW.trod enc Try.prog W base spare held k 5 [c0] = some y0 := by have q := hfs 0 { name := "Kind", type := 5, offset := 0, embedded := false, tag := "", pkgPath := "", byteOffset := 0 } rfl; dsimp only at q; rw [Try.cells5] at q; simpa using q
  have h1 : DataW.trod enc Try.prog W base spare held k 3 [c1] = some y1 := by have q := hfs 1 { name := "L", type := 3, offset := 1, embedded := false, tag := "", pkgPath := "", byteOffset := 8 } rfl; dsimp only at q; rw [Try.cells3] at q; simpa using q
  have h2 : DataW.trod enc Try.prog W base spare held k 3 [c2] = some y2 := by have q := hfs 2 { name := "R", type := 3, offset := 2, embedded := false, tag := "", pkgPath := "", byteOffset := 16 } rfl; dsimp only at q; rw [Try.cells3] at q; simpa using q
  have h3 : DataW.trod enc Try.prog W base spare held k 3 [c3] = some y3 := by have q := hfs 3 { name := "From", type := 3, offset := 3, embedded := false, tag := "", pkgPath := "", byteOffset := 24 } rfl; dsimp only at q; rw [Try.cells3] at q; simpa using q
  have h4 : DataW.trod enc Try.prog W base spare held k 3 [c4] = some y4 := by have q := hfs 4 { name := "To", type := 3, offset := 4, embedded := false, tag := "", pkgPath := "", byteOffset := 32 } rfl; dsimp only at q; rw [Try.cells3] at q; simpa using q
  have h5 : DataW.trod enc Try.prog W base spare held k 2 [c5] = some y5 := by have q := hfs 5 { name := "At", type := 2, offset := 5, embedded := false, tag := "", pkgPath := "", byteOffset := 40 } rfl; dsimp only at q; rw [Try.cells2] at q; simpa using q
  have h6 : DataW.trod enc Try.prog W base spare held k 3 [c6] = some y6 := by have q := hfs 6 { name := "Item", type := 3, offset := 6, embedded := false, tag := "", pkgPath := "", byteOffset := 48 } rfl; dsimp only at q; rw [Try.cells3] at q; simpa using q
  obtain ⟨z0, e0, _, _⟩ := DataW.trod_int Try.underlying5 h0
  obtain ⟨z1, e1, _, _⟩ := DataW.trod_int Try.underlying3 h1
  obtain ⟨z2, e2, _, _⟩ := DataW.trod_int Try.underlying3 h2
  obtain ⟨z3, e3, _, _⟩ := DataW.trod_int Try.underlying3 h3
  obtain ⟨z4, e4, _, _⟩ := DataW.trod_int Try.underlying3 h4
  obtain ⟨z5, e5, _, _⟩ := DataW.trod_int Try.underlying2 h5
  obtain ⟨z6, e6, _, _⟩ := DataW.trod_int Try.underlying3 h6
  simp at e0 e1 e2 e3 e4 e5 e6
  subst e0 e1 e2 e3 e4 e5 e6
  refine ⟨(z0, z1, z2, z3, z4, z5, z6), fun i v hi e => ?_⟩
  have := hat i hi
  rw [this]
  exact e

theorem addn (b off n : Nat) : ((⟨b, off, none⟩ : Addr).add n) = ⟨b, off + n, none⟩ := by unfold Addr.add; split <;> simp_all
/-- a list of nodes that came in -/
theorem open_nodes {H : Type} {enc : TypeId × Value → H} {W : World} {d : DataW H} {p : List MemPlace} {q : Option Addr} {len cap : Nat}
    (h : DataW.Trod enc Try.prog W 0 (fun _ => true) true 22 (.slice q len cap) d p) : ∃ ns : List Nd, len = ns.length ∧ NdS W q ns ∧ (q = none → cap = 0) := by
  obtain ⟨fuel, hf⟩ := h
  rcases Go.Deep.open_slice Try.underlying22 hf with ⟨hcs, _⟩ | ⟨a, len', cap', m, n, D, Pl, hcs, hb, hl, hm, hmm, hx, hi⟩
  · simp [Value.cells] at hcs
    obtain ⟨rfl, rfl, rfl⟩ := hcs
    exact ⟨[], rfl, .inl rfl, fun _ => rfl⟩
  · simp [Value.cells] at hcs
    obtain ⟨rfl, rfl, rfl⟩ := hcs
    simp only [if_true] at hmm
    subst hmm
    rw [Try.cells36] at hi
    have hk : ∀ i, ∃ k : Nd, i < len → ∀ j v, j < 7 → (nvs k)[j]? = some v → W.cell? ((a.add (i * 7)).add j) = some v := fun i => by
      by_cases hil : i < len
      · obtain ⟨cs', h1, h2⟩ := hi i (by omega)
        obtain ⟨k, hk⟩ := node_at h1 h2
        exact ⟨k, fun _ => hk⟩
      · exact ⟨(0, 0, 0, 0, 0, 0, 0), fun h => absurd h hil⟩
    obtain ⟨f, hf⟩ := Classical.axiomOfChoice hk
    refine ⟨(List.range len).map f, by simp, ?_, fun h => by cases h⟩
    by_cases h0 : len = 0
    · subst h0; exact .inl rfl
    · obtain ⟨b, off, spot⟩ := a
      have hc0 := hf 0 (by omega) 0 _ (by omega) rfl
      have hs : spot = none := by simpa [Addr.add] using World.cell?_spot hc0
      subst hs
      refine .inr ⟨b, off, rfl, fun j k e => ?_⟩
      rw [List.getElem?_map] at e
      cases hj : (List.range len)[j]? with
      | none => rw [hj] at e; cases e
      | some i =>
        rw [hj] at e
        cases e
        obtain ⟨h1, h2⟩ := List.getElem?_eq_some_iff.1 hj
        simp at h1 h2
        subst h2
        have hq := hf j h1
        have e1 : ∀ i, (((⟨b, off, none⟩ : Addr).add (j * 7)).add i) = ⟨b, off + j * 7 + i, none⟩ := fun i => by rw [addn, addn]
        have k' : ∀ i v, i < 7 → (nvs (f j))[i]? = some v → W.cell? ⟨b, off + j * 7 + i, none⟩ = some v := fun i v hi hv => by rw [← e1]; exact hq i v hi hv
        exact ⟨k' 0 _ (by omega) rfl, k' 1 _ (by omega) rfl, k' 2 _ (by omega) rfl, k' 3 _ (by omega) rfl, k' 4 _ (by omega) rfl, k' 5 _ (by omega) rfl, k' 6 _ (by omega) rfl⟩

/-- A law: it answered true, and all that lay stands. -/
theorem law_post {H : Type} {enc : TypeId × Value → H} {f : Func} {s : ChangeSpec} {W W' : World} {args : Array Value} {ds : List (DataW H)} {ps : List MemPlace}
    (hW : DataW.Whole enc Try.prog f.params.toList s.vars false W args.toList ds [] ps)
    (hres : DataW.TrodAll enc Try.prog W' W.heap.size (fun _ => false) false f.resultTypes.toList ((Value.bool true).resultList f.resultTypes.size) (s.fn H (ds ++ [])).results [])
    (hargs : DataW.TrodAll enc Try.prog W' 0 (fun b => decide (b < W.heap.size)) true f.params.toList args.toList (s.fn H (ds ++ [])).args ps)
    (hvars : DataW.TrodVars enc Try.prog W' (fun b => decide (b < W.heap.size)) s.vars (s.fn H (ds ++ [])).vars [])
    (hb : Below W.heap.size W W') : s.post enc Try.prog f false true false false W args (.bool true) W' :=
  ⟨ds, [], ps, [], ps, [], hW, hres, hargs, hvars, hb.frame _, fun h => by cases h⟩
end Go.Proofs.Ytjobfpnlpfjoeaa
