/-
  Three sides, records of three numbers, in memory; a list of them that came in, opened. No condition but those typed at each theorem.
-/
import Derived.Test.YtajpboclicnopaaGreatP3
import Derived.Test.YtajpboclicnopaaGreatMP
import Derived.Test.YtajpboclicnopaaGreatMHa
import Derived.Test.YtajpboclicnopaaGreatMQ
namespace Go.Proofs.YtajpboclicnopaaGreat.Hp
open Go.ChangeShapes Go.WideShapes Go.ChangeAt Go.RowKit Go.Joins
/-- a record's cells -/
def uvs (n : S3) : List Value := [.int .i64 n.1, .int .i64 n.2.1, .int .i64 n.2.2]
def uv (n : S3) : Value := .agg #[.int .i64 n.1, .int .i64 n.2.1, .int .i64 n.2.2]
/-- from this place on a record lies -/
structure U1 (w : World) (b o : Nat) (n : S3) : Prop where
  c0 : w.cell? ⟨b, o, none⟩ = some (.int .i64 n.1)
  c1 : w.cell? ⟨b, o + 1, none⟩ = some (.int .i64 n.2.1)
  c2 : w.cell? ⟨b, o + 2, none⟩ = some (.int .i64 n.2.2)
theorem U1.lt {w : World} {b o : Nat} {n : S3} (h : U1 w b o n) : b < w.heap.size := World.block_lt_of_cell? w _ h.c0
theorem U1.block {w w' : World} {b o : Nat} {n : S3} (h : U1 w b o n) (hb : w'.heap[b]? = w.heap[b]?) : U1 w' b o n := by
  have k : ∀ i, w'.cell? ⟨b, i, none⟩ = w.cell? ⟨b, i, none⟩ := fun i => World.cell?_of_block (a := ⟨b, i, none⟩) hb
  exact ⟨(k _).trans h.c0, (k _).trans h.c1, (k _).trans h.c2⟩
theorem U1.keep {w w' : World} {b o N : Nat} {n : S3} (h : U1 w b o n) (hb : Below N w w') (hN : b < N) : U1 w' b o n := h.block (hb.block b hN)
theorem U1.off {w w' : World} {b o : Nat} {n : S3} {S : List Nat} (h : U1 w b o n) (hb : Off S w w') (hN : b ∉ S) : U1 w' b o n := h.block (hb.block b h.lt hN)
theorem U1.new (w : World) (n : S3) (t : TypeId) : U1 (w.alloc (.cells (uvs n).toArray t)) w.heap.size 0 n := by
  have k : ∀ i v, (uvs n)[i]? = some v → (w.alloc (.cells (uvs n).toArray t)).cell? ⟨w.heap.size, i, none⟩ = some v := fun i v e => by
    rw [World.cell?_alloc_new]
    simpa using e
  exact ⟨k 0 _ rfl, k 1 _ rfl, k 2 _ rfl⟩
/-- from this place on these records lie -/
def Us (w : World) (b off : Nat) (ns : List S3) : Prop := ∀ j n, ns[j]? = some n → U1 w b (off + j * 3) n
/-- a slice's first place, and the records that it has -/
def UsS (w : World) (p : Option Addr) (ns : List S3) : Prop := ns = [] ∨ ∃ b off, p = some ⟨b, off, none⟩ ∧ Us w b off ns
theorem UsS.nil (w : World) (p : Option Addr) : UsS w p [] := .inl rfl
theorem UsS.keep {w w' : World} {p : Option Addr} {ns : List S3} (h : UsS w p ns) (hb : Below w.heap.size w w') : UsS w' p ns := by
  rcases h with h | ⟨b, off, rfl, h⟩
  · exact .inl h
  · exact .inr ⟨b, off, rfl, fun j n e => (h j n e).keep hb (h j n e).lt⟩
theorem UsS.off {w w' : World} {p : Option Addr} {ns : List S3} {S : List Nat} (h : UsS w p ns) (hb : Off S w w') (hS : ∀ b off, p = some ⟨b, off, none⟩ → ns ≠ [] → b ∉ S) : UsS w' p ns := by
  rcases h with h | ⟨b, off, rfl, h⟩
  · exact .inl h
  · refine .inr ⟨b, off, rfl, fun j n e => (h j n e).off hb (hS b off rfl (fun h0 => by subst h0; simp at e))⟩
theorem UsS.at {w : World} {p : Option Addr} {ns : List S3} (h : UsS w p ns) {j : Nat} {n : S3} (e : ns[j]? = some n) : ∃ b off, p = some ⟨b, off, none⟩ ∧ U1 w b (off + j * 3) n := by
  rcases h with rfl | ⟨b, off, hp, h⟩
  · simp at e
  · exact ⟨b, off, hp, h j n e⟩
theorem UsS.lt {w : World} {ns : List S3} {b off : Nat} (h : UsS w (some ⟨b, off, none⟩) ns) (h0 : ns ≠ []) : b < w.heap.size := by
  rcases h with h | ⟨b2, off2, e, h⟩
  · exact absurd h h0
  · cases e
    cases ns with
    | nil => exact absurd rfl h0
    | cons x xs => exact (h 0 x rfl).lt
theorem UsS.take {w : World} {p : Option Addr} {ns : List S3} (h : UsS w p ns) (k : Nat) : UsS w p (ns.take k) := by
  rcases h with rfl | ⟨b, off, rfl, h⟩
  · exact .inl (by simp)
  · refine .inr ⟨b, off, rfl, fun j n e => h j n ?_⟩
    rw [List.getElem?_take] at e
    split at e
    · exact e
    · cases e
def WfU (s : S3) : Prop := (Lit.int .i64 s.1).wf = true ∧ (Lit.int .i64 s.2.1).wf = true ∧ (Lit.int .i64 s.2.2).wf = true
theorem Tryz.cells42 : Tryz.prog.cellsOf 42 = 3 := by kernel_rfl
theorem side_at {H : Type} {enc : TypeId × Value → H} {W : World} {base : Nat} {spare : Nat → Bool} {held : Bool} {n : Nat} {a : Addr} {cs : List Value} {x : DataW H × List MemPlace}
    (hc : W.cells? base a 3 = some cs) (ht : DataW.trod enc Tryz.prog W base spare held n 42 cs = some x) : ∃ k : S3, WfU k ∧ ∀ i v, i < 3 → (uvs k)[i]? = some v → W.cell? (a.add i) = some v := by
  obtain ⟨_, hl, hat⟩ := World.cells?_some hc
  obtain ⟨xs, k, _, hx, _, hlen, hfs⟩ := DataW.trod_struct Tryz.underlying42 ht
  obtain ⟨c0, c1, c2, rfl⟩ := list3 hl
  obtain ⟨y0, y1, y2, rfl⟩ := list3 (by simpa using hlen)
  clear hx ht
  have h0 : DataW.trod enc Tryz.prog W base spare held k 2 [c0] = some y0 := by have q := hfs 0 { name := "X1", type := 2, offset := 0, embedded := false, tag := "", pkgPath := "", byteOffset := 0 } rfl; dsimp only at q; rw [Tryz.cells2] at q; simpa using q
  have h1 : DataW.trod enc Tryz.prog W base spare held k 2 [c1] = some y1 := by have q := hfs 1 { name := "X2", type := 2, offset := 1, embedded := false, tag := "", pkgPath := "", byteOffset := 8 } rfl; dsimp only at q; rw [Tryz.cells2] at q; simpa using q
  have h2 : DataW.trod enc Tryz.prog W base spare held k 2 [c2] = some y2 := by have q := hfs 2 { name := "Y", type := 2, offset := 2, embedded := false, tag := "", pkgPath := "", byteOffset := 16 } rfl; dsimp only at q; rw [Tryz.cells2] at q; simpa using q
  obtain ⟨z0, e0, _, w0⟩ := DataW.trod_int Tryz.underlying2 h0
  obtain ⟨z1, e1, _, w1⟩ := DataW.trod_int Tryz.underlying2 h1
  obtain ⟨z2, e2, _, w2⟩ := DataW.trod_int Tryz.underlying2 h2
  simp at e0 e1 e2
  subst e0 e1 e2
  refine ⟨(z0, z1, z2), ⟨w0, w1, w2⟩, fun i v hi e => ?_⟩
  have := hat i hi
  rw [this]
  exact e
theorem open_sides {H : Type} {enc : TypeId × Value → H} {W : World} {d : DataW H} {p : List MemPlace} {q : Option Addr} {len cap : Nat}
    (h : DataW.Trod enc Tryz.prog W 0 (fun _ => true) true 23 (.slice q len cap) d p) : ∃ ns : List S3, len = ns.length ∧ UsS W q ns ∧ (q = none → cap = 0) ∧ len ≤ cap ∧ cap ≤ maxLen ∧ ∀ s ∈ ns, WfU s := by
  obtain ⟨fuel, hf⟩ := h
  rcases Go.Deep.open_slice Tryz.underlying23 hf with ⟨hcs, _⟩ | ⟨a, len', cap', m, n, D, Pl, hcs, hb, hl, hm, hmm, hx, hi⟩
  · simp [Value.cells] at hcs
    obtain ⟨rfl, rfl, rfl⟩ := hcs
    exact ⟨[], rfl, .inl rfl, fun _ => rfl, Nat.le_refl _, by simp [maxLen], by simp⟩
  · simp [Value.cells] at hcs
    obtain ⟨rfl, rfl, rfl⟩ := hcs
    simp only [if_true] at hmm
    subst hmm
    rw [Tryz.cells42] at hi
    have hk : ∀ i, ∃ k : S3, i < len → WfU k ∧ ∀ j v, j < 3 → (uvs k)[j]? = some v → W.cell? ((a.add (i * 3)).add j) = some v := fun i => by
      by_cases hil : i < len
      · obtain ⟨cs', h1, h2⟩ := hi i (by omega)
        obtain ⟨k, hk⟩ := side_at h1 h2
        exact ⟨k, fun _ => hk⟩
      · exact ⟨(0, 0, 0), fun h => absurd h hil⟩
    obtain ⟨f, hf⟩ := Classical.axiomOfChoice hk
    refine ⟨(List.range len).map f, by simp, ?_, fun h => (by cases h), hl, hm, ?_⟩
    · by_cases h0 : len = 0
      · subst h0; exact .inl rfl
      · obtain ⟨b, off, spot⟩ := a
        have hc0 := (hf 0 (by omega)).2 0 _ (by omega) rfl
        have hs : spot = none := by simpa [Addr.add] using World.cell?_spot hc0
        subst hs
        refine .inr ⟨b, off, rfl, fun j k e => ?_⟩
        rw [List.getElem?_map] at e
        cases hj : (List.range len)[j]? with
        | none => rw [hj] at e; cases e
        | some i =>
          rw [hj] at e
          cases e
          obtain ⟨h1, h2⟩ := List.getElem?_eq_some_iff.1 hj
          simp at h1 h2
          subst h2
          have hq := (hf j h1).2
          have e1 : ∀ i, (((⟨b, off, none⟩ : Addr).add (j * 3)).add i) = ⟨b, off + j * 3 + i, none⟩ := fun i => by rw [addn, addn]
          have k' : ∀ i v, i < 3 → (uvs (f j))[i]? = some v → W.cell? ⟨b, off + j * 3 + i, none⟩ = some v := fun i v hi hv => by rw [← e1]; exact hq i v hi hv
          exact ⟨k' 0 _ (by omega) rfl, k' 1 _ (by omega) rfl, k' 2 _ (by omega) rfl⟩
    · intro s hs
      simp at hs
      obtain ⟨i, hi2, rfl⟩ := hs
      exact (hf i hi2).1
end Go.Proofs.YtajpboclicnopaaGreat.Hp
/-
  The lesser of a number and a few, slices of sides cut, at layer 13. No condition but those typed at each theorem.
-/
namespace Go.Proofs.YtajpboclicnopaaGreat.Hp
open Go.ChangeShapes Go.WideShapes Go.ChangeAt Go.RowKit Go.Joins
theorem Tryz.infoS : (Tryz.prog.info? 42).map (fun i => (i.zero, i.size, i.bytes)) = some (some (uv (0, 0, 0)), 3, 24) := by kernel_rfl
theorem min14 (X : World) (ty : TypeId) (n : Nat) (k : Int) (hk : k = ((min n 14 : Nat) : Int)) : (Builtin.min_ #[3, 3] ty #[.int .i64 n, .int .i64 14]).run Tryz.prog X = .ok (.int .i64 k) X := by
  subst hk
  by_cases h : n ≤ 14
  · have h2 : ¬ (14 : Int) < n := by omega
    simp [Builtin.min_, Builtin.min2, go_sem, Nat.min_eq_left h, h2]
  · have h2 : (14 : Int) < n := by omega
    simp [Builtin.min_, Builtin.min2, go_sem, Nat.min_eq_right (by omega : 14 ≤ n), h2]
theorem min200 (X : World) (ty : TypeId) (n : Nat) (k : Int) (hk : k = ((min n 200 : Nat) : Int)) : (Builtin.min_ #[3, 3] ty #[.int .i64 n, .int .i64 200]).run Tryz.prog X = .ok (.int .i64 k) X := by
  subst hk
  by_cases h : n ≤ 200
  · have h2 : ¬ (200 : Int) < n := by omega
    simp [Builtin.min_, Builtin.min2, go_sem, Nat.min_eq_left h, h2]
  · have h2 : (200 : Int) < n := by omega
    simp [Builtin.min_, Builtin.min2, go_sem, Nat.min_eq_right (by omega : 200 ≤ n), h2]
theorem slU_to (X : World) (p : Option Addr) (n c h : Nat) (hm : h ≤ c) : (Instr.slice 23 (.slice p n c) none (some (.int .i64 h)) none).run Tryz.prog X = .ok (.slice p h c) X := by
  obtain ⟨i0, hi, hz0, hz1, hz2⟩ := info_parts Tryz.infoS
  simp [Instr.slice, run_underlying Tryz.underlying23, Instr.sliceBounds, Instr.sliceBound, asIntOf, sizeOf, typeInfo, hi, hm]
  cases p <;> simp [Addr.add_zero']
end Go.Proofs.YtajpboclicnopaaGreat.Hp
/-
  Layer 13's document: what three sides have, by a loop; the law's sameIDs. No condition but those typed at each theorem.
-/
namespace Go.Proofs.YtajpboclicnopaaGreat.Hp
open Go.RowKit
set_option maxRecDepth 100000 in
set_option maxHeartbeats 6400000 in
theorem RThree (w : World) (p : Option Addr) (c : Nat) (L : List S3) (x1 x2 y : Int) (hx : TsS w p L) (hl : L.length ≤ 8192) :
    Calls Tryz.prog 29 #[.slice p L.length c, .int .i64 x1, .int .i64 x2, .int .i64 y] w fun e w' => ∃ v, e = .returned v ∧ w'.ownsRow w.heap.size 32 1 v (nmS (thB x1 x2 y) L).length ((nmS (thB x1 x2 y) L).map (Value.int .u32)) ∧ Below w.heap.size w w' := by
  have HX := Lib.hid hx
  obtain ⟨d, hd⟩ : ∃ d, d = L.length := ⟨_, rfl⟩
  have HD := Lib.hid hd
  rw [← hd] at hl ⊢
  clear hd hx
  go_enter Tryz.func29, Tryz.ntmps29
  go_wp2
  go_loopw [9, 10] (fun v9 v10 wr => ∃ k : Nat, k ≤ d ∧ v10 = .int .i64 k ∧ Hid (wr.ownsRow w.heap.size 32 1 v9 (nmL (thB x1 x2 y) (L.take k)).length ((nmL (thB x1 x2 y) (L.take k)).map (Value.int .u32))) ∧ Hid (Below w.heap.size w wr)) (fun _ v _ => d - (intOf v).toNat)
  case atStart => exact ⟨0, Nat.zero_le _, rfl, Lib.hid (World.ownsRow_nil _ _ _ _), Lib.hid (Below.refl _ _)⟩
  case round =>
    obtain ⟨k, hk, rfl, HR, HB⟩ := hrel
    by_cases hlt : k < d
    · have hltz : (k : Int) < d := by omega
      obtain ⟨s, hse⟩ : ∃ s, L[k]? = some s := ⟨_, List.getElem?_eq_getElem (by have := HD.out; omega)⟩
      obtain ⟨bb, off, rfl, h1⟩ := (HX.out.keep HB.out).at hse
      have n0 := h1.c0
      have n1 := h1.c1
      have n2 := h1.c2
      have HST := Lib.hid (show nmL (thB x1 x2 y) (L.take (k + 1)) = nmL (thB x1 x2 y) (L.take k) ++ (if thB x1 x2 y s then [s.2.2] else []) by rw [List.take_add_one, hse]; exact nmL_snoc _ _ _)
      obtain ⟨S, hS⟩ : ∃ S, S = nmL (thB x1 x2 y) (L.take k) := ⟨_, rfl⟩
      have hSl : S.length ≤ k := by rw [hS]; exact Nat.le_trans (nmL_len _ _) (by simp; omega)
      rw [← hS] at HR HST
      obtain ⟨px, py, id⟩ := s
      simp only at n0 n1 n2 HST
      clear hS hse h1
      by_cases g1 : x1 ≤ px
      · by_cases g2 : px ≤ x2
        · by_cases g3 : py ≤ y
          · have HE := Lib.hid (show thB x1 x2 y (px, py, id) = true by simp [thB, g1, g2, g3])
            go_wp2_with (at_builtin; refine wpList_more Tryz.info32 rfl (by decide) (by decide) Tryz.underlying43 _ rfl (.tmp 42) (.tmp 48) rfl u9 S.length (S.map (Value.int .u32)) rfl (row_at (base' := 0) (World.ownsRow.alloc HR.out _) (fun _ _ => ⟨rfl, Nat.zero_le _⟩)) ⟨wr.heap.size, 0, none⟩ 1 1 [.int .u32 id] rfl rfl (one_at _ _ _) (by simp [Value.oneCell']) (by omega) (by decide) ?_; intro g1 c1 w1 h1 h2 h3; have H1 := Lib.hid h1; have HB1 := Lib.hid ((HB.out.alloc HB.out.size (.cells #[.int .u32 id] 32)).grown h2 (by have := HB.out.size; simp; omega) (fun k e => (HR.out.lt k e).1)); have HG1 := Lib.hid (show w.heap.size ≤ g1 from h3.elim (fun e => (HR.out.lt _ e).1) (fun e => by have := HB.out.size; simp at e; omega)); clear h1 h2 h3)
            go_roundw
            case rel =>
              refine ⟨k + 1, by omega, by go_num, Lib.hid ?_, HB1⟩
              rw [HST.out, if_pos HE.out]
              have h := row_at (base' := w.heap.size) H1.out (fun q e => ⟨rfl, by simp [Value.ownBlock] at e; subst e; exact HG1.out⟩)
              simpa using h
            case measure => simp [intOf]; omega
          · have HE := Lib.hid (show thB x1 x2 y (px, py, id) = false by simp [thB, g3])
            go_wp2
            go_roundw
            case rel => exact ⟨k + 1, by omega, by go_num, Lib.hid (by rw [HST.out, if_neg (by rw [HE.out]; simp), List.append_nil]; exact HR.out), HB⟩
            case measure => simp [intOf]; omega
        · have HE := Lib.hid (show thB x1 x2 y (px, py, id) = false by simp [thB, g2])
          go_wp2
          go_roundw
          case rel => exact ⟨k + 1, by omega, by go_num, Lib.hid (by rw [HST.out, if_neg (by rw [HE.out]; simp), List.append_nil]; exact HR.out), HB⟩
          case measure => simp [intOf]; omega
      · have HE := Lib.hid (show thB x1 x2 y (px, py, id) = false by simp [thB, g1])
        go_wp2
        go_roundw
        case rel => exact ⟨k + 1, by omega, by go_num, Lib.hid (by rw [HST.out, if_neg (by rw [HE.out]; simp), List.append_nil]; exact HR.out), HB⟩
        case measure => simp [intOf]; omega
    · obtain rfl : k = d := by omega
      have hltz : ¬ (k : Int) < k := by omega
      have hR := HR.out
      rw [List.take_of_length_le (by have := HD.out; omega)] at hR
      obtain ⟨-, q, cq, rfl, hq, -⟩ := row_u hR
      have hl2 : (nmL (thB x1 x2 y) L).length ≤ 8192 := Nat.le_trans (nmL_len _ _) (by have := HD.out; omega)
      have HSO := Lib.hid (RSorted wr q cq (nmL (thB x1 x2 y) L) hq hl2)
      clear hR hq hl2 HR
      go_wp2_with (go_at_call 54; (with_reducible refine HSO.out.mono ?_); rintro e w2 ⟨v, rfl, hr, hb⟩; have HR2 := Lib.hid hr; have HB2 := Lib.hid (HB.out.trans (hb.mono HB.out.size)); clear hr hb)
      go_ret
      exact ⟨_, rfl, by unfold nmS; rw [nsort_len]; exact row_at HR2.out (fun q e => ⟨rfl, Nat.le_trans HB.out.size (HR2.out.lt q e).1⟩), HB2.out⟩
set_option maxRecDepth 100000 in
set_option maxHeartbeats 3200000 in
theorem sameIDs_any (w : World) (p q : Option Addr) (ca cb : Nat) (xs ys : List Int) (hx : NS w p .u32 xs) (hy : NS w q .u32 ys) (hn : xs.length ≤ 8192) :
    Calls Tryz.prog 22 #[.slice p xs.length ca, .slice q ys.length cb] w fun e w' => e = .returned (.bool (decide (xs = ys))) ∧ Below w.heap.size w w' := by
  by_cases hlen : xs.length = ys.length
  · have HX := Lib.hid hx
    have HY := Lib.hid hy
    obtain ⟨d, hd⟩ : ∃ d, d = xs.length := ⟨_, rfl⟩
    have HD := Lib.hid hd
    have HD2 := Lib.hid (hd.trans hlen)
    rw [← hlen, ← hd]
    rw [← hd] at hn
    clear hx hy hlen hd
    go_enter Tryz.func22, Tryz.ntmps22
    go_wp2
    go_loopw [13] (fun i wr => ∃ k : Nat, k ≤ d ∧ i = .int .i64 k ∧ Hid (xs.take k = ys.take k) ∧ Hid (Below w.heap.size w wr)) (fun i _ => d - (intOf i).toNat)
    case atStart => exact ⟨0, Nat.zero_le _, rfl, Lib.hid rfl, Lib.hid (Below.refl _ _)⟩
    case round =>
      obtain ⟨k, hk, rfl, HT, HB⟩ := hrel
      by_cases hlt : k < d
      · have hltz : (k : Int) < d := by omega
        obtain ⟨x, hxe⟩ : ∃ x, xs[k]? = some x := ⟨_, List.getElem?_eq_getElem (by have := HD.out; omega)⟩
        obtain ⟨y, hye⟩ : ∃ y, ys[k]? = some y := ⟨_, List.getElem?_eq_getElem (by have := HD2.out; omega)⟩
        rcases HX.out with h0 | ⟨b1, o1, rfl, h1⟩
        · rw [h0] at hxe; simp at hxe
        · rcases HY.out with h0 | ⟨b2, o2, rfl, h2⟩
          · rw [h0] at hye; simp at hye
          · have cx : wr.cell? ⟨b1, o1 + k, none⟩ = some (.int .u32 x) := (HB.out.cell (World.block_lt_of_cell? w _ (h1 k x hxe))).trans (h1 k x hxe)
            have cy : wr.cell? ⟨b2, o2 + k, none⟩ = some (.int .u32 y) := (HB.out.cell (World.block_lt_of_cell? w _ (h2 k y hye))).trans (h2 k y hye)
            have HXE := Lib.hid hxe
            have HYE := Lib.hid hye
            clear hxe hye h1 h2
            go_upto_region 6 with fail
            go_quiet (fail)
            by_cases hxy : x = y
            · go_wp2
              go_roundw
              case rel =>
                refine ⟨k + 1, by omega, by go_num, Lib.hid ?_, Lib.hid (drewB HB.out)⟩
                rw [List.take_add_one, List.take_add_one, HT.out, HXE.out, HYE.out, hxy]
              case measure => simp [intOf]; omega
            · go_wp2
              go_ret
              refine ⟨retB ?_, drewB HB.out⟩
              simp
              intro e
              have h1 := HXE.out
              rw [e, HYE.out] at h1
              exact hxy (Option.some.inj h1).symm
      · obtain rfl : k = d := by omega
        have hltz : ¬ (k : Int) < k := by omega
        go_wp2
        go_ret
        refine ⟨retB ?_, HB.out⟩
        have h1 := HT.out
        rw [List.take_of_length_le (by have := HD.out; omega), List.take_of_length_le (by have := HD2.out; omega)] at h1
        simp [h1]
  · have hne : ¬ (xs.length : Int) = ys.length := by omega
    have hne2 : xs ≠ ys := fun e => hlen (by rw [e])
    have HNE := Lib.hid hne2
    clear hx hy hlen hne2
    generalize hd : xs.length = d at *
    generalize he : ys.length = d' at *
    clear hd he
    go_enter Tryz.func22, Tryz.ntmps22
    go_wp2
    go_ret
    exact ⟨retB (by simpa using HNE.out), Below.refl _ _⟩
end Go.Proofs.YtajpboclicnopaaGreat.Hp
/-
  Layer 13's three and asked, over any tree that tells three sides. No condition but those typed at each theorem.
-/
namespace Go.Proofs.YtajpboclicnopaaGreat.Hp
open Go.RowKit
section
variable {TS : World → Value → Nat → List Nat → List S3 → Prop} {X : World} {v : Value} {n : Nat} {S : List Nat} {A : List S3}
set_option maxRecDepth 100000 in
set_option maxHeartbeats 3200000 in
theorem three_any (C : HeapC TS) (h : TS X v n S A) (x1 x2 y : Int) (h1 : (Lit.int .i64 x1).wf = true) (h2 : (Lit.int .i64 x2).wf = true) (h3 : (Lit.int .i64 y).wf = true) (q : Option Addr) (c : Nat) (hq : NS X q .u32 (nmS (thB x1 x2 y) A)) :
    Calls Tryz.prog 25 #[v, .int .i64 x1, .int .i64 x2, .int .i64 y, .slice q (nmS (thB x1 x2 y) A).length c] X fun e X' => e = .returned (.bool true) ∧ Below X.heap.size X X' := by
  obtain ⟨f1, f2, -⟩ := C.few h
  have hl := nmS_len (thB x1 x2 y) A
  have HT := Lib.hid (C.three x1 x2 y h h1 h2 h3)
  have HA := Lib.hid (fun Y (hb : Below X.heap.size X Y) => C.any x1 x2 y (C.bel h hb) h1 h2 h3)
  have HQ := Lib.hid hq
  generalize nmS (thB x1 x2 y) A = Z at *
  have HI : Hid (∀ Y q1 c1 q2 c2, NS Y q1 .u32 Z → NS Y q2 .u32 Z → Calls Tryz.prog 22 #[.slice q1 Z.length c1, .slice q2 Z.length c2] Y fun e w' => e = .returned (.bool true) ∧ Below Y.heap.size Y w') := Lib.hid (fun Y q1 c1 q2 c2 g1 g2 => by
    refine (sameIDs_any Y q1 q2 c1 c2 _ _ g1 g2 (by omega)).mono ?_
    rintro e w' ⟨rfl, hb⟩
    exact ⟨by simp, hb⟩)
  have HRU := Lib.hid (fun (Y : World) r (h : RL Y r Z) => show ∃ q c, r = .slice q Z.length c ∧ NS Y q .u32 Z from by obtain ⟨q, c, g1, g2, -⟩ := h; exact ⟨q, c, g1, g2⟩)
  generalize Z.length = zl at *
  clear h hq h1 h2 h3 f1 f2 hl
  by_cases hz : 0 < zl
  · rw [decide_eq_true hz] at HA
    have hzz : (0 : Int) < zl := by omega
    go_enter Tryz.func25, Tryz.ntmps25
    go_wp2_with (first
      | (go_at_call 17; (with_reducible refine HT.out.mono ?_); rintro e w1 ⟨⟨r, t, rfl, hr, -, -⟩, hb⟩; obtain ⟨q1, c1, rfl, hq⟩ := HRU.out _ _ hr; have HQ1 := Lib.hid hq; have HQ := Lib.hid (HQ.out.keep hb); have HB := Lib.hid hb; clear hr hq hb)
      | (go_at_call 18; (with_reducible refine (HA.out _ HB.out).mono ?_); rintro e w2 ⟨⟨t2, rfl, -⟩, hb⟩; have HQ1 := Lib.hid (HQ1.out.keep hb); have HQ := Lib.hid (HQ.out.keep hb); have HB := Lib.hid (HB.out.trans (hb.mono HB.out.size)); clear hb)
      | (go_at_call 22; (with_reducible refine (HI.out _ _ _ _ _ HQ1.out HQ.out).mono ?_); rintro e w3 ⟨rfl, hb⟩; have HB := Lib.hid (HB.out.trans (hb.mono HB.out.size)); clear hb))
    go_ret
    exact ⟨rfl, HB.out⟩
  · rw [decide_eq_false hz] at HA
    obtain rfl : zl = 0 := by omega
    go_enter Tryz.func25, Tryz.ntmps25
    go_wp2_with (first
      | (go_at_call 17; (with_reducible refine HT.out.mono ?_); rintro e w1 ⟨⟨r, t, rfl, hr, -, -⟩, hb⟩; obtain ⟨q1, c1, rfl, hq⟩ := HRU.out _ _ hr; have HQ1 := Lib.hid hq; have HQ := Lib.hid (HQ.out.keep hb); have HB := Lib.hid hb; clear hr hq hb)
      | (go_at_call 18; (with_reducible refine (HA.out _ HB.out).mono ?_); rintro e w2 ⟨⟨t2, rfl, -⟩, hb⟩; have HQ1 := Lib.hid (HQ1.out.keep hb); have HQ := Lib.hid (HQ.out.keep hb); have HB := Lib.hid (HB.out.trans (hb.mono HB.out.size)); clear hb)
      | (go_at_call 22; (with_reducible refine (HI.out _ _ _ _ _ HQ1.out HQ.out).mono ?_); rintro e w3 ⟨rfl, hb⟩; have HB := Lib.hid (HB.out.trans (hb.mono HB.out.size)); clear hb))
    go_ret
    exact ⟨rfl, HB.out⟩
set_option maxRecDepth 100000 in
set_option maxHeartbeats 6400000 in
theorem asked_any (C : HeapC TS) (h : TS X v n S A) (p q : Option Addr) (c d : Nat) (L : List S3) (xs : List S3) (hL : TsS X p L) (hx : UsS X q xs) (hw : ∀ x ∈ xs, WfU x) (hl : L.length ≤ 8192) (hxl : xs.length ≤ 8192) (hp : A.Perm L) :
    Calls Tryz.prog 13 #[v, .slice p L.length c, .slice q xs.length d] X fun e X' => e = .returned (.bool true) ∧ Below X.heap.size X X' := by
  have HN := Lib.hid (fun Y (hb : Below X.heap.size X Y) => by have := C.len (C.bel h hb); rw [hp.length_eq] at this; exact this)
  have HRT := Lib.hid (fun Y x1 x2 y (hb : Below X.heap.size X Y) => RThree Y p c L x1 x2 y (hL.keep hb) hl)
  have HTH := Lib.hid (fun Y (s : S3) (hb : Below X.heap.size X Y) (hs : WfU s) q1 c1 => by have := three_any C (C.bel h hb) s.1 s.2.1 s.2.2 hs.1 hs.2.1 hs.2.2 q1 c1; rw [nmS_perm hp] at this; exact this)
  have HX := Lib.hid hx
  have HW := Lib.hid hw
  obtain ⟨m, hm⟩ : ∃ m, m = xs.length := ⟨_, rfl⟩
  have HM := Lib.hid hm
  rw [← hm] at hxl ⊢
  clear h hL hx hw hm hp
  generalize hll : L.length = l at *
  clear hll
  go_enter Tryz.func13, Tryz.ntmps13
  go_wp2
  go_loopw [11] (fun i wr => ∃ k : Nat, k ≤ m ∧ i = .int .i64 k ∧ Hid (Below X.heap.size X wr)) (fun i _ => m - (intOf i).toNat)
  case atStart => exact ⟨0, Nat.zero_le _, rfl, Lib.hid (Below.refl _ _)⟩
  case round =>
    obtain ⟨k, hk, rfl, HB⟩ := hrel
    by_cases hlt : k < m
    · have hltz : (k : Int) < m := by omega
      obtain ⟨s, hse⟩ : ∃ s, xs[k]? = some s := ⟨_, List.getElem?_eq_getElem (by have := HM.out; omega)⟩
      obtain ⟨bb, off, rfl, h1⟩ := (HX.out.keep HB.out).at hse
      have HWB := Lib.hid (HW.out s (List.mem_of_getElem? hse))
      have n0 := h1.c0
      have n1 := h1.c1
      have n2 := h1.c2
      obtain ⟨W, hW⟩ : ∃ W, W = wr.alloc (.cells (uvs s).toArray 42) := ⟨_, rfl⟩
      have hN1 : U1 W wr.heap.size 0 s := by rw [hW]; exact U1.new wr s _
      have HBW := Lib.hid (show Below X.heap.size X W by rw [hW]; exact HB.out.alloc HB.out.size _)
      have HR1 := Lib.hid (fun Y (hb : Below W.heap.size W Y) => HRT.out Y s.1 s.2.1 s.2.2 (HBW.out.trans (hb.mono HBW.out.size)))
      have HT1 := Lib.hid (fun Y (hb : Below W.heap.size W Y) q1 c1 => HTH.out Y s (HBW.out.trans (hb.mono HBW.out.size)) HWB.out q1 c1)
      have m0 := hN1.c0
      have m1 := hN1.c1
      have m2 := hN1.c2
      simp only [Nat.zero_add] at m0 m1 m2
      obtain ⟨sx, sy, sz⟩ := s
      unfold uvs at hW
      simp only at n0 n1 n2 m0 m1 m2 hW HR1 HT1
      have hW1 := Lib.hid hW
      have hzl := nmS_len (thB sx sy sz) L
      generalize nmS (thB sx sy sz) L = Z at *
      clear hN1 hW hse h1
      go_upto_region 4 with fail
      rw [← hW1.out]
      clear hW1 n0 n1 n2
      refine wp_region_qk Bw (fun w => Below.refl _ w) [15] (by kernel_rfl) (by kernel_rfl) ?_
      have HD := Lib.hid ((Below.refl W.heap.size W).drew)
      have d0 := HD.out.cell (World.block_lt_of_cell? _ _ m0)
      have d1 := HD.out.cell (World.block_lt_of_cell? _ _ m1)
      have d2 := HD.out.cell (World.block_lt_of_cell? _ _ m2)
      rw [m0] at d0
      rw [m1] at d1
      rw [m2] at d2
      generalize W.drew = W3 at *
      refine callsH_cons ?_
      simp only [Nat.reduceSub, Nat.reduceAdd, List.take_succ_cons, List.take_zero, List.drop_succ_cons, List.drop_zero]
      have inst : Nonempty (Wd (Bw W3)) := ⟨⟨W3, Below.refl _ _⟩⟩
      have b0 : ∀ z : Wd (Bw W3), z.w.cell? ⟨wr.heap.size, 0, none⟩ = _ := fun z => Bw.cell z d0
      have b1 : ∀ z : Wd (Bw W3), z.w.cell? ⟨wr.heap.size, 1, none⟩ = _ := fun z => Bw.cell z d1
      have b2 : ∀ z : Wd (Bw W3), z.w.cell? ⟨wr.heap.size, 2, none⟩ = _ := fun z => Bw.cell z d2
      repeat (first | go_big_quiet_step (fail) | quiet_step (fail))
      refine wpQuiet_nil ?_
      rintro _ ⟨z, rfl⟩
      have HZ := Lib.hid (HD.out.trans (Below.mono z.h HD.out.size))
      refine gOp_call rfl rfl (f := 29) (args := #[.slice p l c, .int .i64 sx, .int .i64 sy, .int .i64 sz]) ?_ ?_
      · simp [execOp, resolve, invoke, Act.eval, Deferred.ofValue, go_sem]
      refine (HR1.out z.w HZ.out).mono ?_
      rintro e w5 ⟨r, rfl, hr, hb⟩
      obtain ⟨-, q4, c4, rfl, hq, -⟩ := row_u hr
      have HQ4 := Lib.hid hq
      have hbz := Below.trans z.h (hb.mono (Below.size z.h))
      refine ⟨_, rfl, ⟨⟨w5, hbz⟩, rfl⟩, ?_⟩
      have HB5 := Lib.hid (HZ.out.trans (hb.mono HZ.out.size))
      clear hr hq hb hbz b0 b1 b2 inst
      refine gOp_call rfl rfl (f := 25) (args := #[v, .int .i64 sx, .int .i64 sy, .int .i64 sz, .slice q4 Z.length c4]) ?_ ?_
      · simp [execOp, resolve, invoke, Act.eval, Deferred.ofValue, go_sem]
      refine (HT1.out w5 HB5.out q4 c4 HQ4.out).mono ?_
      rintro e w6 ⟨rfl, hb⟩
      refine ⟨_, rfl, ?_⟩
      have HB6 := Lib.hid (HBW.out.trans ((HB5.out.trans (hb.mono HB5.out.size)).mono HBW.out.size))
      clear hb HB5 HQ4 d0 d1 d2 HD m0 m1 m2
      refine callsH_nil ?_
      have inst : Nonempty (Wd (Bw w6)) := ⟨⟨w6, Below.refl _ _⟩⟩
      repeat (first | go_big_quiet_step (fail) | quiet_step (fail))
      refine wpQuiet_nil ?_
      go_wp2
      go_roundw
      case rel => exact ⟨k + 1, by omega, by go_num, HB6⟩
      case measure => simp [intOf]; omega
    · have hltz : ¬ (k : Int) < m := by omega
      go_wp2_with (go_at_call 12; (with_reducible refine (HN.out _ HB.out).mono ?_); rintro e w1 ⟨rfl, hb⟩; have HB1 := Lib.hid (HB.out.trans (hb.mono HB.out.size)); clear hb)
      go_ret
      exact ⟨rfl, HB1.out⟩
end
end Go.Proofs.YtajpboclicnopaaGreat.Hp
/-
  Layer 13's examples hold of any tree that tells three sides. No condition but those typed at each theorem.
-/
namespace Go.Proofs.YtajpboclicnopaaGreat.Hp
open Go.RowKit
def L0 : List S3 := [(0, 0, 1), (2, 5, 2), (2, 1, 3), (7, 3, 4)]
def L1 : List S3 := [(2, 5, 2), (2, 1, 3), (7, 3, 4)]
theorem rg0 : Rg L0 := by decide
theorem wf0 : ∀ s ∈ L0, Wf3 s := by
  intro s hs
  simp only [L0, List.mem_cons, List.not_mem_nil, or_false] at hs
  rcases hs with rfl | rfl | rfl | rfl <;> exact ⟨rfl, rfl, rfl⟩
section
variable {TS : World → Value → Nat → List Nat → List S3 → Prop} {w1 : World} {v : Value} {n : Nat} {S : List Nat} {A : List S3}
theorem tri_new (C : HeapC TS) (h : TS w1 v n S A) (x1 x2 y : Int) (h1 : (Lit.int .i64 x1).wf = true) (h2 : (Lit.int .i64 x2).wf = true) (h3 : (Lit.int .i64 y).wf = true) (Z : List Int) (hZ : nmS (thB x1 x2 y) A = Z) (Y : World) (hb : Below w1.heap.size w1 Y) :
    Calls Tryz.prog 25 #[v, .int .i64 x1, .int .i64 x2, .int .i64 y, .slice (some ⟨Y.heap.size, 0, none⟩) Z.length Z.length] (Y.alloc (.cells (Z.map (Value.int .u32)).toArray 32)) fun e Y' => e = .returned (.bool true) ∧ Below w1.heap.size w1 Y' := by
  subst hZ
  have hY := hb.alloc hb.size (.cells ((nmS (thB x1 x2 y) A).map (Value.int .u32)).toArray 32)
  refine (three_any C (C.bel h hY) x1 x2 y h1 h2 h3 _ _ (.inr ⟨_, 0, rfl, fun j x e => ?_⟩)).mono ?_
  · rw [World.cell?_alloc_new]
    simp [e]
  · rintro e w' ⟨rfl, hb2⟩
    exact ⟨rfl, hY.trans (hb2.mono hY.size)⟩
theorem tri_nil (C : HeapC TS) (h : TS w1 v n S A) (x1 x2 y : Int) (h1 : (Lit.int .i64 x1).wf = true) (h2 : (Lit.int .i64 x2).wf = true) (h3 : (Lit.int .i64 y).wf = true) (hZ : nmS (thB x1 x2 y) A = []) (Y : World) (hb : Below w1.heap.size w1 Y) :
    Calls Tryz.prog 25 #[v, .int .i64 x1, .int .i64 x2, .int .i64 y, .slice none 0 0] Y fun e Y' => e = .returned (.bool true) ∧ Below w1.heap.size w1 Y' := by
  have := three_any C (C.bel h hb) x1 x2 y h1 h2 h3 none 0 (by rw [hZ]; exact .inl rfl)
  rw [hZ] at this
  refine this.mono ?_
  rintro e w' ⟨rfl, hb2⟩
  exact ⟨rfl, hb.trans (hb2.mono hb.size)⟩
end
set_option maxRecDepth 100000 in
set_option maxHeartbeats 6400000 in
theorem awake_any {TS : World → Value → Nat → List Nat → List S3 → Prop} (C : HeapC TS) (w : World) : Calls Tryz.prog 9 #[] w fun e w' => e = .returned (.bool true) ∧ Below w.heap.size w w' := by
  obtain ⟨W, hW⟩ : ∃ W, W = w.alloc (.cells (flatT L0).toArray 34) := ⟨_, rfl⟩
  have HTS : Hid (Ts W w.heap.size 0 L0) := Lib.hid (by rw [hW]; exact Ts.new w L0 _)
  have HBW : Hid (Below w.heap.size w W) := Lib.hid (by rw [hW]; exact (Below.refl _ w).alloc (Nat.le_refl _) _)
  have HBU : Hid (Calls Tryz.prog 10 #[.slice (some ⟨w.heap.size, 0, none⟩) 4 4] W (Built TS W L0)) := Lib.hid (C.build _ (some ⟨w.heap.size, 0, none⟩) 4 L0 (.inr ⟨_, 0, rfl, HTS.out⟩) (by decide) (by decide) (fun h => by cases h) wf0)
  have HW : Hid (w.alloc (.cells #[.int .i64 0, .int .i64 0, .int .u32 1, .int .i64 2, .int .i64 5, .int .u32 2, .int .i64 2, .int .i64 1, .int .u32 3, .int .i64 7, .int .i64 3, .int .u32 4] 34) = W) := Lib.hid hW.symm
  clear hW
  go_enter Tryz.func9, Tryz.ntmps9
  go_upto_region 2 with (first
    | (go_at_call 10; rw [HW.out]; (with_reducible refine HBU.out.mono ?_); rintro e w1 ⟨hb, hor⟩; rcases hor with ⟨-, v, S, rfl, hT, hS⟩ | ⟨hn, -⟩; rotate_left; (exact absurd rg0 hn); have HT := Lib.hid hT; have HSS := Lib.hid hS; have HB := Lib.hid (HBW.out.trans (hb.mono HBW.out.size)); clear hb hT hS))
  clear HW HBU HTS
  have HC := Lib.hid (Below.refl w1.heap.size w1)
  have H1 := Lib.hid (tri_new C HT.out 1 9 3 (by decide) (by decide) (by decide) [3, 4] (by decide))
  have H2 := Lib.hid (tri_new C HT.out 0 2 0 (by decide) (by decide) (by decide) [1] (by decide))
  have H3 := Lib.hid (tri_nil C HT.out 3 6 9 (by decide) (by decide) (by decide) (by decide))
  have H4 := Lib.hid (tri_nil C HT.out 3 9 2 (by decide) (by decide) (by decide) (by decide))
  have H5 := Lib.hid (tri_new C HT.out 3 9 3 (by decide) (by decide) (by decide) [4] (by decide))
  have HD := Lib.hid (fun Y (hb : Below w1.heap.size w1 Y) => show Calls Tryz.prog 15 #[v, .agg #[.int .i64 0, .int .i64 0, .int .u32 1]] Y (fun e X' => e = .returned (.bool true) ∧ ∃ S', TS X' v 4 S' L1 ∧ Off S Y X' ∧ ∀ k ∈ S', k ∈ S ∨ Y.heap.size ≤ k) from C.drop (0, 0, 1) (C.bel HT.out hb) ⟨rfl, rfl, rfl⟩)
  simp only [List.map_cons, List.map_nil, List.length_cons, List.length_nil, Nat.zero_add, Nat.reduceAdd] at H1 H2 H5
  go_upto_region 4 with (first
    | (go_at_call 25; (with_reducible refine (H1.out _ HC.out).mono ?_); rintro e w3 ⟨rfl, hb⟩; have HC := Lib.hid hb; clear hb)
    | (go_at_call 25; (with_reducible refine (H2.out _ HC.out).mono ?_); rintro e w3 ⟨rfl, hb⟩; have HC := Lib.hid hb; clear hb)
    | (go_at_call 25; (with_reducible refine (H3.out _ HC.out).mono ?_); rintro e w3 ⟨rfl, hb⟩; have HC := Lib.hid hb; clear hb)
    | (go_at_call 25; (with_reducible refine (H4.out _ HC.out).mono ?_); rintro e w3 ⟨rfl, hb⟩; have HC := Lib.hid hb; clear hb)
    | (go_at_call 25; (with_reducible refine (H5.out _ HC.out).mono ?_); rintro e w3 ⟨rfl, hb⟩; have HC := Lib.hid hb; clear hb))
  have HW1 := Lib.hid (HB.out.trans (HC.out.mono HB.out.size))
  clear H1 H2 H3 H4 H5
  go_wp2_with (first
    | (go_at_call 15; (with_reducible refine (HD.out _ HC.out).mono ?_); rintro e w5 ⟨rfl, S', hT, ho, -⟩; have HT5 := Lib.hid hT; have HB5 := Lib.hid (HW1.out.trans (ho.below HW1.out.size (fun k hk => Nat.le_trans HBW.out.size (HSS.out k hk)))); have HC5 := Lib.hid (Below.refl w5.heap.size w5); have H6 := Lib.hid (tri_new C HT5.out 0 2 1 (by decide) (by decide) (by decide) [3] (by decide)); have HL := Lib.hid (fun Y (hb : Below w5.heap.size w5 Y) => show Calls Tryz.prog 12 #[v] Y (fun e X' => e = .returned (.int .i64 3) ∧ Below Y.heap.size Y X') from C.len (C.bel HT5.out hb)); simp only [List.map_cons, List.map_nil, List.length_cons, List.length_nil, Nat.zero_add] at H6; clear hT ho)
    | (go_at_call 25; (with_reducible refine (H6.out _ HC5.out).mono ?_); rintro e w3 ⟨rfl, hb⟩; have HC5 := Lib.hid hb; clear hb)
    | (go_at_call 12; (with_reducible refine (HL.out _ HC5.out).mono ?_); rintro e w3 ⟨rfl, hb⟩; have HC5 := Lib.hid (HC5.out.trans (hb.mono HC5.out.size)); clear hb))
  go_ret
  exact ⟨rfl, HB5.out.trans (HC5.out.mono HB5.out.size)⟩
end Go.Proofs.YtajpboclicnopaaGreat.Hp
