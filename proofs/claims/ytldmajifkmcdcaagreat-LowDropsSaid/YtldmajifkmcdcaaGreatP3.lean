/-
  Records of three cells, two numbers and a name (points, spans), in memory. No condition but those typed at each theorem.
-/
import Derived.Test.YtldmajifkmcdcaaGreatMGen
import Derived.ProofKit
import Derived.OpenShut
import Derived.Stop.Joined
import Derived.Lib.SmallJoins
import Derived.Deep.Slices
import Derived.Deep.Grids
import Derived.ChangeSlices
import Derived.BigQuiet
namespace Go.Proofs.YtldmajifkmcdcaaGreat
open Go.RowKit
/-- a record: two numbers, a name -/
abbrev S3 := Int × Int × Int
/-- a record's cells -/
def tvs (n : S3) : List Value := [.int .i64 n.1, .int .i64 n.2.1, .int .u32 n.2.2]
def tv (n : S3) : Value := .agg #[.int .i64 n.1, .int .i64 n.2.1, .int .u32 n.2.2]
/-- from this place on a record lies -/
structure T1 (w : World) (b o : Nat) (n : S3) : Prop where
  c0 : w.cell? ⟨b, o, none⟩ = some (.int .i64 n.1)
  c1 : w.cell? ⟨b, o + 1, none⟩ = some (.int .i64 n.2.1)
  c2 : w.cell? ⟨b, o + 2, none⟩ = some (.int .u32 n.2.2)
theorem T1.lt {w : World} {b o : Nat} {n : S3} (h : T1 w b o n) : b < w.heap.size := World.block_lt_of_cell? w _ h.c0
theorem T1.block {w w' : World} {b o : Nat} {n : S3} (h : T1 w b o n) (hb : w'.heap[b]? = w.heap[b]?) : T1 w' b o n := by
  have k : ∀ i, w'.cell? ⟨b, i, none⟩ = w.cell? ⟨b, i, none⟩ := fun i => World.cell?_of_block (a := ⟨b, i, none⟩) hb
  exact ⟨(k _).trans h.c0, (k _).trans h.c1, (k _).trans h.c2⟩
theorem T1.keep {w w' : World} {b o N : Nat} {n : S3} (h : T1 w b o n) (hb : Below N w w') (hN : b < N) : T1 w' b o n := h.block (hb.block b hN)
theorem T1.off {w w' : World} {b o : Nat} {n : S3} {S : List Nat} (h : T1 w b o n) (hb : Off S w w') (hN : b ∉ S) : T1 w' b o n := h.block (hb.block b h.lt hN)
theorem T1.new (w : World) (n : S3) (t : TypeId) : T1 (w.alloc (.cells (tvs n).toArray t)) w.heap.size 0 n := by
  have k : ∀ i v, (tvs n)[i]? = some v → (w.alloc (.cells (tvs n).toArray t)).cell? ⟨w.heap.size, i, none⟩ = some v := fun i v e => by
    rw [World.cell?_alloc_new]
    simpa using e
  exact ⟨k 0 _ rfl, k 1 _ rfl, k 2 _ rfl⟩
/-- from this place on these records lie -/
def Ts (w : World) (b off : Nat) (ns : List S3) : Prop := ∀ j n, ns[j]? = some n → T1 w b (off + j * 3) n
/-- a slice's first place, and the records that it has -/
def TsS (w : World) (p : Option Addr) (ns : List S3) : Prop := ns = [] ∨ ∃ b off, p = some ⟨b, off, none⟩ ∧ Ts w b off ns
theorem TsS.nil (w : World) (p : Option Addr) : TsS w p [] := .inl rfl
theorem TsS.keep {w w' : World} {p : Option Addr} {ns : List S3} (h : TsS w p ns) (hb : Below w.heap.size w w') : TsS w' p ns := by
  rcases h with h | ⟨b, off, rfl, h⟩
  · exact .inl h
  · exact .inr ⟨b, off, rfl, fun j n e => (h j n e).keep hb (h j n e).lt⟩
theorem TsS.off {w w' : World} {p : Option Addr} {ns : List S3} {S : List Nat} (h : TsS w p ns) (hb : Off S w w') (hS : ∀ b off, p = some ⟨b, off, none⟩ → ns ≠ [] → b ∉ S) : TsS w' p ns := by
  rcases h with h | ⟨b, off, rfl, h⟩
  · exact .inl h
  · refine .inr ⟨b, off, rfl, fun j n e => (h j n e).off hb (hS b off rfl (fun h0 => by subst h0; simp at e))⟩
theorem TsS.at {w : World} {p : Option Addr} {ns : List S3} (h : TsS w p ns) {j : Nat} {n : S3} (e : ns[j]? = some n) : ∃ b off, p = some ⟨b, off, none⟩ ∧ T1 w b (off + j * 3) n := by
  rcases h with rfl | ⟨b, off, hp, h⟩
  · simp at e
  · exact ⟨b, off, hp, h j n e⟩
theorem TsS.lt {w : World} {ns : List S3} {b off : Nat} (h : TsS w (some ⟨b, off, none⟩) ns) (h0 : ns ≠ []) : b < w.heap.size := by
  rcases h with h | ⟨b2, off2, e, h⟩
  · exact absurd h h0
  · cases e
    cases ns with
    | nil => exact absurd rfl h0
    | cons x xs => exact (h 0 x rfl).lt
theorem TsS.take {w : World} {p : Option Addr} {ns : List S3} (h : TsS w p ns) (k : Nat) : TsS w p (ns.take k) := by
  rcases h with rfl | ⟨b, off, rfl, h⟩
  · exact .inl (by simp)
  · refine .inr ⟨b, off, rfl, fun j n e => h j n ?_⟩
    rw [List.getElem?_take] at e
    split at e
    · exact e
    · cases e
/-- all cells of these records -/
def flatT (ns : List S3) : List Value := ns.flatMap tvs
theorem flatT_snoc (ns : List S3) (n : S3) : flatT (ns ++ [n]) = flatT ns ++ tvs n := by simp [flatT]
theorem flatT_append (ns ms : List S3) : flatT (ns ++ ms) = flatT ns ++ flatT ms := by simp [flatT]
theorem flatT_len (ns : List S3) : (flatT ns).length = ns.length * 3 := by
  induction ns with
  | nil => rfl
  | cons n ns ih => rw [show flatT (n :: ns) = tvs n ++ flatT ns from rfl, List.length_append, ih, List.length_cons, show (tvs n).length = 3 from rfl]; omega
theorem flatT_get (ns : List S3) {j i : Nat} {n : S3} (e : ns[j]? = some n) (hi : i < 3) : (flatT ns)[j * 3 + i]? = (tvs n)[i]? := by
  induction ns generalizing j with
  | nil => simp at e
  | cons m ns ih =>
    rw [show flatT (m :: ns) = tvs m ++ flatT ns from rfl]
    cases j with
    | zero =>
      simp at e
      subst e
      rw [Nat.zero_mul, Nat.zero_add, List.getElem?_append_left (by rw [show (tvs m).length = 3 from rfl]; exact hi)]
    | succ j =>
      simp only [List.getElem?_cons_succ] at e
      rw [List.getElem?_append_right (by rw [show (tvs m).length = 3 from rfl]; omega), show (tvs m).length = 3 from rfl, show (j + 1) * 3 + i - 3 = j * 3 + i by omega]
      exact ih e
theorem tvs_one (n : S3) : ∀ u ∈ tvs n, u.oneCell' = true := by
  intro u hu
  simp [tvs] at hu
  rcases hu with rfl | rfl | rfl <;> rfl
theorem flatT_one (ns : List S3) : ∀ u ∈ flatT ns, u.oneCell' = true := by
  intro u hu
  simp only [flatT, List.mem_flatMap] at hu
  obtain ⟨n, _, h⟩ := hu
  exact tvs_one n u h
/-- a row of one's own that holds records -/
theorem row_ts {w : World} {base n : Nat} {e : TypeId} {v : Value} {ns : List S3} (h : w.ownsRow base e 3 v n (flatT ns)) : ns.length = n ∧ ∃ p c, v = .slice p n c ∧ TsS w p ns ∧ (p = none → c = 0 ∧ n = 0) ∧ n ≤ c ∧ c ≤ maxLen ∧ (p = none ∨ ∃ g, p = some ⟨g, 0, none⟩ ∧ g < w.heap.size) := by
  obtain ⟨h1, h2⟩ := h
  have hn : ns.length = n := by rw [flatT_len] at h1; omega
  refine ⟨hn, ?_⟩
  rcases h2 with ⟨rfl, h2⟩ | ⟨g, cap, cur, rfl, hb, hg, hnc, hcm, hcs, htk⟩
  · subst h2
    exact ⟨none, 0, rfl, .inl (List.length_eq_zero_iff.1 hn), fun _ => ⟨rfl, rfl⟩, Nat.le_refl _, by simp [maxLen], .inl rfl⟩
  · refine ⟨some ⟨g, 0, none⟩, cap, rfl, .inr ⟨g, 0, rfl, fun j m e => ?_⟩, (fun h => by cases h), hnc, hcm, .inr ⟨g, rfl, lt_of_block hg⟩⟩
    have hj := (List.getElem?_eq_some_iff.1 e).1
    have k : ∀ i v, i < 3 → (tvs m)[i]? = some v → w.cell? ⟨g, 0 + j * 3 + i, none⟩ = some v := fun i v hi e2 => by
      have h3 := (flatT_get ns e hi).trans e2
      rw [← htk, List.getElem?_take] at h3
      split at h3
      · rw [Nat.zero_add]
        simp [World.cell?, hg]
        simpa using h3
      · cases h3
    exact ⟨k 0 _ (by omega) rfl, k 1 _ (by omega) rfl, k 2 _ (by omega) rfl⟩
theorem TsS.src {w : World} {p : Option Addr} {c : Nat} {ns : List S3} (h : TsS w p ns) (hp : p = none → c = 0) : Src w p ns.length c (flatT ns) := by
  cases p with
  | none =>
    have he : ns = [] := by
      rcases h with h | ⟨b, off, h, -⟩
      · exact h
      · cases h
    subst he
    exact .inl ⟨rfl, rfl, hp rfl, rfl⟩
  | some a =>
    refine .inr ⟨a, rfl, fun j u e => ?_⟩
    have hj := (List.getElem?_eq_some_iff.1 e).1
    rw [flatT_len] at hj
    obtain ⟨n, hn⟩ : ∃ n, ns[j / 3]? = some n := ⟨_, List.getElem?_eq_getElem (by omega)⟩
    obtain ⟨b, off, hp', h1⟩ := h.at hn
    cases hp'
    have hm : j % 3 < 3 := Nat.mod_lt _ (by omega)
    have e2 := flatT_get ns hn hm
    rw [show j / 3 * 3 + j % 3 = j by omega] at e2
    rw [e2] at e
    rw [Addr.add_lit, show off + j = off + j / 3 * 3 + j % 3 by omega]
    obtain ⟨i, hi⟩ : ∃ i, i = j % 3 := ⟨_, rfl⟩
    rw [← hi] at e hm ⊢
    have hcases : i = 0 ∨ i = 1 ∨ i = 2 := by omega
    rcases hcases with h | h | h <;> subst h <;> simp [tvs] at e <;> subst e
    · exact h1.c0
    · exact h1.c1
    · exact h1.c2
/-- a new block that holds these records -/
theorem Ts.new (w : World) (ns : List S3) (t : TypeId) : Ts (w.alloc (.cells (flatT ns).toArray t)) w.heap.size 0 ns := by
  intro j n e
  have h : ∀ i, i < 3 → (w.alloc (.cells (flatT ns).toArray t)).cell? ⟨w.heap.size, 0 + j * 3 + i, none⟩ = (tvs n)[i]? := fun i hi => by
    rw [Nat.zero_add, World.cell?_alloc_new, ← flatT_get ns e hi]
    simp
  exact ⟨h 0 (by omega), h 1 (by omega), h 2 (by omega)⟩
end Go.Proofs.YtldmajifkmcdcaaGreat
/-
  From walks to rows: lists of points, of numbers, of small numbers, of yes and no that came in, opened; how a law that answers true and leaves all below as it was meets its row. No condition but those typed at each theorem.
-/
namespace Go.Proofs.YtldmajifkmcdcaaGreat
open Go.ChangeShapes Go.WideShapes Go.ChangeAt Go.RowKit Go.Joins
theorem Tryz.own : ownKnob Tryz.prog.godebug = none := by kernel_rfl
theorem Tryz.laidOut : laidOutB Tryz.prog = true := by kernel_rfl
theorem Tryz.cells2 : Tryz.prog.cellsOf 2 = 1 := by kernel_rfl
theorem Tryz.cells5 : Tryz.prog.cellsOf 5 = 1 := by kernel_rfl
theorem Tryz.cells32 : Tryz.prog.cellsOf 32 = 1 := by kernel_rfl
theorem Tryz.cells34 : Tryz.prog.cellsOf 34 = 3 := by kernel_rfl
theorem addn (b off n : Nat) : ((⟨b, off, none⟩ : Addr).add n) = ⟨b, off + n, none⟩ := by unfold Addr.add; split <;> simp_all
theorem list3 {α : Type} {l : List α} (h : l.length = 3) : ∃ a b c, l = [a, b, c] := by
  match l, h with
  | [a, b, c], _ => exact ⟨a, b, c, rfl⟩
/-- a record's numbers are in range -/
def Wf3 (s : S3) : Prop := (Lit.int .i64 s.1).wf = true ∧ (Lit.int .i64 s.2.1).wf = true ∧ (Lit.int .u32 s.2.2).wf = true
theorem point_at {H : Type} {enc : TypeId × Value → H} {W : World} {base : Nat} {spare : Nat → Bool} {held : Bool} {n : Nat} {a : Addr} {cs : List Value} {x : DataW H × List MemPlace}
    (hc : W.cells? base a 3 = some cs) (ht : DataW.trod enc Tryz.prog W base spare held n 34 cs = some x) : ∃ k : S3, Wf3 k ∧ ∀ i v, i < 3 → (tvs k)[i]? = some v → W.cell? (a.add i) = some v := by
  obtain ⟨_, hl, hat⟩ := World.cells?_some hc
  obtain ⟨xs, k, _, hx, _, hlen, hfs⟩ := DataW.trod_struct Tryz.underlying34 ht
  obtain ⟨c0, c1, c2, rfl⟩ := list3 hl
  obtain ⟨y0, y1, y2, rfl⟩ := list3 (by simpa using hlen)
  clear hx ht
  have h0 : DataW.trod enc Tryz.prog W base spare held k 2 [c0] = some y0 := by have q := hfs 0 { name := "X", type := 2, offset := 0, embedded := false, tag := "", pkgPath := "", byteOffset := 0 } rfl; dsimp only at q; rw [Tryz.cells2] at q; simpa using q
  have h1 : DataW.trod enc Tryz.prog W base spare held k 2 [c1] = some y1 := by have q := hfs 1 { name := "Y", type := 2, offset := 1, embedded := false, tag := "", pkgPath := "", byteOffset := 8 } rfl; dsimp only at q; rw [Tryz.cells2] at q; simpa using q
  have h2 : DataW.trod enc Tryz.prog W base spare held k 32 [c2] = some y2 := by have q := hfs 2 { name := "ID", type := 32, offset := 2, embedded := false, tag := "", pkgPath := "", byteOffset := 16 } rfl; dsimp only at q; rw [Tryz.cells32] at q; simpa using q
  obtain ⟨z0, e0, _, w0⟩ := DataW.trod_int Tryz.underlying2 h0
  obtain ⟨z1, e1, _, w1⟩ := DataW.trod_int Tryz.underlying2 h1
  obtain ⟨z2, e2, _, w2⟩ := DataW.trod_int Tryz.underlying32 h2
  simp at e0 e1 e2
  subst e0 e1 e2
  refine ⟨(z0, z1, z2), ⟨w0, w1, w2⟩, fun i v hi e => ?_⟩
  have := hat i hi
  rw [this]
  exact e
theorem open_points {H : Type} {enc : TypeId × Value → H} {W : World} {d : DataW H} {p : List MemPlace} {q : Option Addr} {len cap : Nat}
    (h : DataW.Trod enc Tryz.prog W 0 (fun _ => true) true 22 (.slice q len cap) d p) : ∃ ns : List S3, len = ns.length ∧ TsS W q ns ∧ (q = none → cap = 0) ∧ len ≤ cap ∧ cap ≤ maxLen ∧ ∀ s ∈ ns, Wf3 s := by
  obtain ⟨fuel, hf⟩ := h
  rcases Go.Deep.open_slice Tryz.underlying22 hf with ⟨hcs, _⟩ | ⟨a, len', cap', m, n, D, Pl, hcs, hb, hl, hm, hmm, hx, hi⟩
  · simp [Value.cells] at hcs
    obtain ⟨rfl, rfl, rfl⟩ := hcs
    exact ⟨[], rfl, .inl rfl, fun _ => rfl, Nat.le_refl _, by simp [maxLen], by simp⟩
  · simp [Value.cells] at hcs
    obtain ⟨rfl, rfl, rfl⟩ := hcs
    simp only [if_true] at hmm
    subst hmm
    rw [Tryz.cells34] at hi
    have hk : ∀ i, ∃ k : S3, i < len → Wf3 k ∧ ∀ j v, j < 3 → (tvs k)[j]? = some v → W.cell? ((a.add (i * 3)).add j) = some v := fun i => by
      by_cases hil : i < len
      · obtain ⟨cs', h1, h2⟩ := hi i (by omega)
        obtain ⟨k, hk⟩ := point_at h1 h2
        exact ⟨k, fun _ => hk⟩
      · exact ⟨(0, 0, 0), fun h => absurd h hil⟩
    obtain ⟨f, hf⟩ := Classical.axiomOfChoice hk
    refine ⟨(List.range len).map f, by simp, ?_, fun h => (by cases h), hl, hm, ?_⟩
    · by_cases h0 : len = 0
      · subst h0; exact .inl rfl
      · obtain ⟨b, off, spot⟩ := a
        have hc0 := (hf 0 (by omega)).2 0 _ (by omega) rfl
        have hs : spot = none := by simpa [Addr.add] using World.cell?_spot hc0
        subst hs
        refine .inr ⟨b, off, rfl, fun j k e => ?_⟩
        rw [List.getElem?_map] at e
        cases hj : (List.range len)[j]? with
        | none => rw [hj] at e; cases e
        | some i =>
          rw [hj] at e
          cases e
          obtain ⟨h1, h2⟩ := List.getElem?_eq_some_iff.1 hj
          simp at h1 h2
          subst h2
          have hq := (hf j h1).2
          have e1 : ∀ i, (((⟨b, off, none⟩ : Addr).add (j * 3)).add i) = ⟨b, off + j * 3 + i, none⟩ := fun i => by rw [addn, addn]
          have k' : ∀ i v, i < 3 → (tvs (f j))[i]? = some v → W.cell? ⟨b, off + j * 3 + i, none⟩ = some v := fun i v hi hv => by rw [← e1]; exact hq i v hi hv
          exact ⟨k' 0 _ (by omega) rfl, k' 1 _ (by omega) rfl, k' 2 _ (by omega) rfl⟩
    · intro s hs
      simp at hs
      obtain ⟨i, hi2, rfl⟩ := hs
      exact (hf i hi2).1
/-- a list of numbers that came in -/
theorem open_ks {H : Type} {enc : TypeId × Value → H} {W : World} {d : DataW H} {p : List MemPlace} {q : Option Addr} {len cap : Nat} {t e : TypeId} {k : IntKind} (ht : Tryz.prog.underlying t = some (.slice e)) (he : Tryz.prog.underlying e = some (.int k)) (hce : Tryz.prog.cellsOf e = 1)
    (h : DataW.Trod enc Tryz.prog W 0 (fun _ => true) true t (.slice q len cap) d p) : ∃ xs : List Int, len = xs.length ∧ NS W q k xs ∧ len ≤ cap ∧ cap ≤ maxLen ∧ (q = none → cap = 0) ∧ ∀ x ∈ xs, (Lit.int k x).wf = true := by
  obtain ⟨fuel, hf⟩ := h
  rcases open_ints ht he hce hf with ⟨hcs, _⟩ | ⟨a, len', cap', zs, hcs, _, hl, hm, hz, _, hcell, hw⟩
  · simp [Value.cells] at hcs
    obtain ⟨rfl, rfl, rfl⟩ := hcs
    exact ⟨[], rfl, .inl rfl, by omega, by simp [maxLen], fun _ => rfl, fun x hx => by cases hx⟩
  · simp [Value.cells] at hcs
    obtain ⟨rfl, rfl, rfl⟩ := hcs
    simp only [if_true] at hz
    refine ⟨zs.take len, by simp; omega, ?_, hl, hm, (fun h => by cases h), fun x hx => hw x (List.mem_of_mem_take hx)⟩
    by_cases h0 : len = 0
    · subst h0; exact .inl rfl
    · obtain ⟨b, off, spot⟩ := a
      have hc0 := hcell 0 (by omega)
      have hs : spot = none := by simpa [Addr.add] using World.cell?_spot hc0
      subst hs
      refine .inr ⟨b, off, rfl, fun j x e => ?_⟩
      rw [List.getElem?_take] at e
      split at e
      · have := hcell j (by omega)
        rw [addn] at this
        rw [this]
        simp [e]
      · cases e
/-- A law: it answered true, and all that lay stands. -/
theorem law_post {H : Type} {enc : TypeId × Value → H} {f : Func} {s : ChangeSpec} {W W' : World} {args : Array Value} {ds : List (DataW H)} {ps : List MemPlace}
    (hW : DataW.Whole enc Tryz.prog f.params.toList s.vars false W args.toList ds [] ps)
    (hres : DataW.TrodAll enc Tryz.prog W' W.heap.size (fun _ => false) false f.resultTypes.toList ((Value.bool true).resultList f.resultTypes.size) (s.fn H (ds ++ [])).results [])
    (hargs : DataW.TrodAll enc Tryz.prog W' 0 (fun b => decide (b < W.heap.size)) true f.params.toList args.toList (s.fn H (ds ++ [])).args ps)
    (hvars : DataW.TrodVars enc Tryz.prog W' (fun b => decide (b < W.heap.size)) s.vars (s.fn H (ds ++ [])).vars [])
    (hb : Below W.heap.size W W') : s.post enc Tryz.prog f false true false false W args (.bool true) W' :=
  ⟨ds, [], ps, [], ps, [], hW, hres, hargs, hvars, hb.frame _, fun h => by cases h⟩
end Go.Proofs.YtldmajifkmcdcaaGreat
/-
  Points: which are right, which a box has, which are left behind a drop; names put in order: plain lists, no program. No condition but those typed at each theorem.
-/
namespace Go.Proofs.YtldmajifkmcdcaaGreat
/-! ### numbers put in order -/
def insI (a : Int) : List Int → List Int
  | [] => [a]
  | b :: l => if b ≤ a then b :: insI a l else a :: b :: l
def nsort (l : List Int) : List Int := l.foldl (fun o a => insI a o) []
theorem nsort_snoc (l : List Int) (a : Int) : nsort (l ++ [a]) = insI a (nsort l) := by simp [nsort]
theorem insI_perm (a : Int) (l : List Int) : (insI a l).Perm (a :: l) := by
  induction l with
  | nil => exact List.Perm.refl _
  | cons b l ih =>
    unfold insI
    split
    · exact (List.Perm.cons b ih).trans (List.Perm.swap a b l)
    · exact List.Perm.refl _
theorem insI_sorted (a : Int) {l : List Int} (h : l.Pairwise (· ≤ ·)) : (insI a l).Pairwise (· ≤ ·) := by
  induction l with
  | nil => simp [insI]
  | cons b l ih =>
    obtain ⟨h1, h2⟩ := List.pairwise_cons.1 h
    unfold insI
    split
    · rename_i hb
      refine List.pairwise_cons.2 ⟨fun x hx => ?_, ih h2⟩
      rcases List.mem_cons.1 ((insI_perm a l).mem_iff.1 hx) with rfl | hx
      · exact hb
      · exact h1 x hx
    · rename_i hb
      refine List.pairwise_cons.2 ⟨fun x hx => ?_, h⟩
      rcases List.mem_cons.1 hx with rfl | hx
      · omega
      · have := h1 x hx
        omega
theorem snoc_rec {α : Type} {P : List α → Prop} (h0 : P []) (h1 : ∀ l a, P l → P (l ++ [a])) : ∀ l, P l := by
  suffices h : ∀ l : List α, P l.reverse by
    intro l
    have := h l.reverse
    rwa [List.reverse_reverse] at this
  intro l
  induction l with
  | nil => exact h0
  | cons a l ih => rw [List.reverse_cons]; exact h1 _ _ ih
theorem nsort_perm (l : List Int) : (nsort l).Perm l := by
  induction l using snoc_rec with
  | h0 => exact List.Perm.refl _
  | h1 l a ih =>
    rw [nsort_snoc]
    exact ((insI_perm a _).trans (List.Perm.cons a ih)).trans (List.perm_append_comm (l₁ := [a]) (l₂ := l))
theorem nsort_len (l : List Int) : (nsort l).length = l.length := (nsort_perm l).length_eq
theorem nsort_sorted (l : List Int) : (nsort l).Pairwise (· ≤ ·) := by
  induction l using snoc_rec with
  | h0 => exact List.Pairwise.nil
  | h1 l a ih => rw [nsort_snoc]; exact insI_sorted a ih
theorem sorted_unique {l m : List Int} (hp : l.Perm m) (hl : l.Pairwise (· ≤ ·)) (hm : m.Pairwise (· ≤ ·)) : l = m := by
  induction l generalizing m with
  | nil => exact (List.Perm.nil_eq hp)
  | cons a l ih =>
    cases m with
    | nil => exact absurd hp.symm (by intro h; have := h.length_eq; simp at this)
    | cons b m =>
      obtain ⟨h1, h2⟩ := List.pairwise_cons.1 hl
      obtain ⟨h3, h4⟩ := List.pairwise_cons.1 hm
      have hab : a = b := by
        have ha : a ∈ b :: m := hp.mem_iff.1 List.mem_cons_self
        have hb : b ∈ a :: l := hp.mem_iff.2 List.mem_cons_self
        rcases List.mem_cons.1 ha with h | h
        · exact h
        · rcases List.mem_cons.1 hb with h' | h'
          · exact h'.symm
          · have := h1 b h'
            have := h3 a h
            omega
      subst hab
      rw [ih (List.Perm.cons_inv hp) h2 h4]
theorem nsort_eq {l m : List Int} (hp : l.Perm m) : nsort l = nsort m := sorted_unique (((nsort_perm l).trans hp).trans (nsort_perm m).symm) (nsort_sorted l) (nsort_sorted m)
/-! ### points -/
/-- a box: from x1 to x2, from y1 to y2 -/
abbrev B4 := Int × Int × Int × Int
def hsB (b : B4) (s : S3) : Bool := decide (b.1 ≤ s.1) && decide (s.1 ≤ b.2.1) && decide (b.2.2.1 ≤ s.2.1) && decide (s.2.1 ≤ b.2.2.2)
/-- right points: no two of one name -/
def Rg (L : List S3) : Prop := (L.map (·.2.2)).Nodup
instance (L : List S3) : Decidable (Rg L) := by unfold Rg; infer_instance
theorem Rg.nil : Rg [] := by simp [Rg]
theorem Rg.perm {L M : List S3} (h : L.Perm M) (hL : Rg L) : Rg M := (h.map _).nodup_iff.1 hL
theorem Rg.sub {L M : List S3} (h : M.Sublist L) (hL : Rg L) : Rg M := (h.map _).nodup hL
theorem Rg.snoc {L : List S3} {s : S3} (hL : Rg L) (h2 : ∀ y ∈ L, y.2.2 ≠ s.2.2) : Rg (L ++ [s]) := by
  unfold Rg
  rw [List.map_append, List.nodup_append]
  refine ⟨hL, by simp, ?_⟩
  intro a ha b hb e
  obtain ⟨y, hy, rfl⟩ := List.mem_map.1 ha
  simp at hb
  subst hb
  exact h2 y hy e
theorem Rg.names {L : List S3} (hL : Rg L) {a b : S3} (ha : a ∈ L) (hb : b ∈ L) (h : a.2.2 = b.2.2) : a = b := by
  obtain ⟨i, hi⟩ := List.mem_iff_getElem?.1 ha
  obtain ⟨j, hj⟩ := List.mem_iff_getElem?.1 hb
  have h1 : (L.map (·.2.2))[i]? = some a.2.2 := by rw [List.getElem?_map, hi]; rfl
  have h2 : (L.map (·.2.2))[j]? = some a.2.2 := by rw [List.getElem?_map, hj, h]; rfl
  have hij := (List.getElem?_inj (by simpa using (List.getElem?_eq_some_iff.1 hi).1) hL).1 (h1.trans h2.symm)
  subst hij
  rw [hi] at hj
  exact Option.some.inj hj
theorem Rg.once {L : List S3} (hL : Rg L) : L.Nodup := (List.Pairwise.of_map (S := fun a b => a ≠ b) _ (fun a b h => fun e => h (by rw [e])) hL)
/-- what is left without s -/
def drp (A : List S3) (s : S3) : List S3 := A.filter (fun y => decide (y ≠ s))
theorem drp_snoc (A : List S3) (s y : S3) : drp (A ++ [y]) s = drp A s ++ (if y = s then [] else [y]) := by
  unfold drp
  rw [List.filter_append]
  by_cases h : y = s
  · simp [h]
  · simp [h]
theorem drp_sub (A : List S3) (s : S3) : (drp A s).Sublist A := List.filter_sublist
theorem drp_len (A : List S3) (s : S3) : (drp A s).length ≤ A.length := (drp_sub A s).length_le
theorem mem_drp {A : List S3} {s y : S3} : y ∈ drp A s ↔ y ∈ A ∧ y ≠ s := by simp [drp]
theorem drp_not {A : List S3} {s : S3} (h : s ∉ A) : drp A s = A := by
  unfold drp
  rw [List.filter_eq_self]
  intro y hy
  simp
  rintro rfl
  exact h hy
theorem drp_less {A : List S3} {s : S3} : (drp A s).length < A.length ↔ s ∈ A := by
  constructor
  · intro h
    by_cases hs : s ∈ A
    · exact hs
    · rw [drp_not hs] at h
      omega
  · intro h
    have h1 := drp_len A s
    rcases Nat.lt_or_ge (drp A s).length A.length with h2 | h2
    · exact h2
    · have h3 := (drp_sub A s).eq_of_length (by omega)
      have : s ∈ drp A s := by rw [h3]; exact h
      exact absurd rfl (mem_drp.1 this).2
end Go.Proofs.YtldmajifkmcdcaaGreat
/-
  The document's answer of layer 10, Right; are two lists of names the same? No condition but those typed at each theorem.
-/
namespace Go.Proofs.YtldmajifkmcdcaaGreat
open Go.RowKit
theorem Tryz.info34 : (Tryz.prog.info? 34).map (fun i => (i.zero, i.size, i.bytes)) = some (some (tv (0, 0, 0)), 3, 24) := by kernel_rfl
theorem drewB {w X : World} {n : Nat} (h : Below w.heap.size w X) : Below w.heap.size w (X.drewN n) := ⟨h.os, h.tape, h.output, h.size, h.block⟩
theorem retB {p q : Bool} (h : p = true ↔ q = true) : Ending.returned (.bool p) = .returned (.bool q) := by rw [Bool.eq_iff_iff.2 h]
/-- a row of one's own with names -/
theorem row_u {w : World} {base n : Nat} {v : Value} {xs : List Int} {k : IntKind} {t : TypeId} (h : w.ownsRow base t 1 v n (xs.map (Value.int k))) : xs.length = n ∧ ∃ p c, v = .slice p n c ∧ NS w p k xs ∧ (p = none → c = 0) ∧ n ≤ c := by
  obtain ⟨h1, h2⟩ := h
  have hn : xs.length = n := by rw [List.length_map] at h1; omega
  refine ⟨hn, ?_⟩
  rcases h2 with ⟨rfl, h2⟩ | ⟨g, cap, cur, rfl, hb, hg, hnc, hcm, hcs, htk⟩
  · subst h2
    exact ⟨none, 0, rfl, .inl (List.length_eq_zero_iff.1 hn), fun _ => rfl, Nat.le_refl _⟩
  · refine ⟨some ⟨g, 0, none⟩, cap, rfl, .inr ⟨g, 0, rfl, fun j x e => ?_⟩, (fun h => by cases h), hnc⟩
    have := row_cells (w := w) (base := base) (n := n) (e := t) (g := g) (c := cap) (j := j) (xs := xs.map (Value.int k)) ⟨h1, .inr ⟨g, cap, cur, rfl, hb, hg, hnc, hcm, hcs, htk⟩⟩ (u := .int k x) (by rw [List.getElem?_map, e]; rfl)
    rw [Nat.zero_add]
    exact this.1
set_option maxRecDepth 100000 in
set_option maxHeartbeats 1600000 in
theorem neT (X : World) (a b c a' b' c' : Int) :
    (binOp .neq 34 (.agg #[.int .i64 a, .int .i64 b, .int .u32 c]) (.agg #[.int .i64 a', .int .i64 b', .int .u32 c'])).run Tryz.prog X = .ok (.bool (!decide ((a, b, c) = (a', b', c')))) X := by
  rw [run_neq_struct, run_equalIn_agg (ht := by kernel_rfl) (hp := by kernel_rfl)]
  simp [go_sem, Program.fieldsOf, Op.eqFields]
  by_cases h0 : a = a'
  · by_cases h1 : b = b'
    · by_cases h2 : c = c'
      · simp [h0, h1, h2]
      · simp [h0, h1, h2]
    · simp [h0, h1]
  · simp [h0]
set_option maxRecDepth 100000 in
set_option maxHeartbeats 3200000 in
theorem RRightP (w : World) (p : Option Addr) (c : Nat) (L : List S3) (hx : TsS w p L) (hl : L.length ≤ 8192) :
    Calls Tryz.prog 11 #[.slice p L.length c] w fun e w' => e = .returned (.bool (decide (Rg L))) ∧ Below w.heap.size w w' := by
  have HX := Lib.hid hx
  obtain ⟨d, hd⟩ : ∃ d, d = L.length := ⟨_, rfl⟩
  have HD := Lib.hid hd
  rw [← hd] at hl ⊢
  clear hd hx
  go_enter Tryz.func11, Tryz.ntmps11
  go_wp2
  go_loopw [3] (fun v wr => ∃ i : Nat, i ≤ d ∧ v = .int .i64 i ∧ Hid (Rg (L.take i)) ∧ Hid (Below w.heap.size w wr)) (fun v _ => d - (intOf v).toNat)
  case atStart => exact ⟨0, Nat.zero_le _, rfl, Lib.hid (by rw [List.take_zero]; exact Rg.nil), Lib.hid (Below.refl _ w)⟩
  case round =>
    obtain ⟨i, hi, rfl, HG, HB⟩ := hrel
    by_cases hlt : i < d
    · have hltz : (i : Int) < d := by omega
      obtain ⟨s, hse⟩ : ∃ s, L[i]? = some s := ⟨_, List.getElem?_eq_getElem (by have := HD.out; omega)⟩
      rcases HX.out with h0 | ⟨b, off, rfl, h1⟩
      · rw [h0] at hse; simp at hse
      · have HT := Lib.hid (fun X (hX : Below w.heap.size w X) j y (e : L[j]? = some y) => (h1 j y e).keep hX (h1 j y e).lt)
        have HSE := Lib.hid hse
        clear hse h1
        obtain ⟨lo, h2, id⟩ := s
        go_wp2
        go_loopw [4] (fun v wz => ∃ k : Nat, k ≤ i ∧ v = .int .i64 k ∧ Hid (∀ y ∈ L.take k, y.2.2 ≠ id) ∧ Hid (Below w.heap.size w wz)) (fun v _ => i - (intOf v).toNat)
        case atStart => exact ⟨0, Nat.zero_le _, rfl, Lib.hid (by simp), HB⟩
        case round =>
          clear HB
          obtain ⟨k, hk, rfl, HN, HB⟩ := hrel
          by_cases hkl : k < i
          · have hkz : (k : Int) < i := by omega
            have hkz2 : (k : Int) < d := by omega
            obtain ⟨y, hye⟩ : ∃ y, L[k]? = some y := ⟨_, List.getElem?_eq_getElem (by have := HD.out; omega)⟩
            have c2 := (HT.out wr HB.out i _ HSE.out).c2
            have d2 := (HT.out wr HB.out k y hye).c2
            have HYE := Lib.hid hye
            clear hye
            obtain ⟨lo', h2', id'⟩ := y
            simp only at c2 d2
            by_cases hid : id' = id
            · go_upto_region 6 with fail
              go_quiet (fail)
              go_wp2
              go_ret
              refine ⟨retB ?_, drewB HB.out⟩
              simp
              intro h
              have h3 := HYE.out
              have h4 := HSE.out
              have h5 : (L.map (·.2.2))[k]? = some id := by rw [List.getElem?_map, h3]; simp [hid]
              have h6 : (L.map (·.2.2))[i]? = some id := by rw [List.getElem?_map, h4]; rfl
              have := (List.getElem?_inj (by simpa using (List.getElem?_eq_some_iff.1 h3).1) h).1 (h5.trans h6.symm)
              omega
            · go_upto_region 6 with fail
              go_quiet (fail)
              go_wp2
              go_roundw
              case rel =>
                refine ⟨k + 1, by omega, by go_num, Lib.hid ?_, Lib.hid (drewB HB.out)⟩
                rw [List.take_add_one, HYE.out]
                intro y hy
                rcases List.mem_append.1 hy with h | h
                · exact HN.out y h
                · simp at h
                  subst h
                  exact hid
              case measure => simp [intOf]; omega
          · have hkz : ¬ (k : Int) < i := by omega
            obtain rfl : k = i := by omega
            go_wp2
            go_roundw
            case rel =>
              refine ⟨k + 1, by omega, by go_num, Lib.hid ?_, HB⟩
              rw [List.take_add_one, HSE.out]
              exact HG.out.snoc HN.out
            case measure => simp [intOf]; omega
    · obtain rfl : i = d := by omega
      have hltz : ¬ (i : Int) < i := by omega
      go_wp2
      go_ret
      refine ⟨retB ?_, HB.out⟩
      have h := HG.out
      rw [List.take_of_length_le (by have := HD.out; omega)] at h
      simp [h]
end Go.Proofs.YtldmajifkmcdcaaGreat
