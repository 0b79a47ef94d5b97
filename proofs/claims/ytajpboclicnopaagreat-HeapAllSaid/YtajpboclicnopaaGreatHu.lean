/-
  A map of names to numbers that fall; plain words and memory. No condition but those typed at each theorem.
-/
import Derived.Test.YtajpboclicnopaaGreatMHb
import Derived.Test.YtajpboclicnopaaGreatPm
namespace Go.Proofs.YtajpboclicnopaaGreat.Hp
open Go.ChangeShapes Go.WideShapes Go.ChangeAt Go.RowKit Go.Joins
/-- a map's entries: names and numbers -/
def ysE (E : List (Int × Int)) : List (Int × Value) := E.map (fun p => (p.1, .int .i64 p.2))
/-- is a point between two numbers of X? -/
def inX (x1 x2 : Int) (s : S3) : Bool := decide (x1 ≤ s.1) && decide (s.1 ≤ x2)
/-- each entry is of a point that is between, and not below it -/
def StE (L : List S3) (x1 x2 : Int) (E : List (Int × Int)) : Prop := ∀ p ∈ E, ∃ s ∈ L, s.2.2 = p.1 ∧ inX x1 x2 s = true ∧ s.2.1 ≤ p.2
/-- a name has an entry, no more than y -/
def HasE (E : List (Int × Int)) (n y : Int) : Prop := ∃ p ∈ E, p.1 = n ∧ p.2 ≤ y
theorem th_in (x1 x2 y : Int) (s : S3) : thB x1 x2 y s = (inX x1 x2 s && decide (s.2.1 ≤ y)) := rfl
theorem mem_th {L : List S3} {x1 x2 y n : Int} (h : n ∈ nmS (thB x1 x2 y) L) : ∃ s ∈ L, s.2.2 = n ∧ inX x1 x2 s = true ∧ s.2.1 ≤ y := by
  obtain ⟨s, h1, h2, h3⟩ := mem_nmS.1 h
  rw [th_in, Bool.and_eq_true, decide_eq_true_eq] at h2
  exact ⟨s, h1, h3, h2.1, h2.2⟩
theorem ysE_len (E : List (Int × Int)) : (ysE E).length = E.length := by simp [ysE]
/-- what comes of a store -/
def putE (E : List (Int × Int)) (n y : Int) : List (Int × Int) := E.filter (fun p => decide (p.1 ≠ n)) ++ [(n, y)]
theorem ysE_put (E : List (Int × Int)) (n y : Int) : (ysE E).filter (fun p => decide (p.1 ≠ n)) ++ [(n, .int .i64 y)] = ysE (putE E n y) := by
  unfold ysE putE
  rw [List.filter_map, List.map_append]
  rfl
theorem StE.put {L : List S3} {x1 x2 : Int} {E : List (Int × Int)} (h : StE L x1 x2 E) {n y : Int} (hn : ∃ s ∈ L, s.2.2 = n ∧ inX x1 x2 s = true ∧ s.2.1 ≤ y) : StE L x1 x2 (putE E n y) := by
  intro p hp
  rcases List.mem_append.1 hp with hp | hp
  · exact h p (List.mem_filter.1 hp).1
  · rw [List.mem_singleton.1 hp]
    exact hn
theorem HasE.put {E : List (Int × Int)} {n y a b : Int} (h : HasE E a b) (hy : ∀ p ∈ E, p.1 = n → y ≤ p.2) : HasE (putE E n y) a b := by
  obtain ⟨p, hp, h1, h2⟩ := h
  by_cases e : p.1 = n
  · exact ⟨(n, y), by simp [putE], by rw [← h1, e], Int.le_trans (hy p hp e) h2⟩
  · exact ⟨p, List.mem_append.2 (.inl (List.mem_filter.2 ⟨hp, by simpa using e⟩)), h1, h2⟩
theorem HasE.new (E : List (Int × Int)) (n y : Int) : HasE (putE E n y) n y := ⟨(n, y), by simp [putE], rfl, Int.le_refl _⟩
section
variable {w : World} {b : Nat} {E : List (Int × Int)}
theorem ys_names (h : MP Tryz.prog 32 w b (ysE E)) : (E.map (·.1)).Nodup := by
  have := h.once
  unfold ysE at this
  rw [List.map_map] at this
  exact this
theorem ys_few (h : MP Tryz.prog 32 w b (ysE E)) {L : List S3} {x1 x2 : Int} (hs : StE L x1 x2 E) : E.length ≤ L.length := by
  have h1 := List.Nodup.length_le_of_subset (l₂ := L.map (fun s => s.2.2)) (ys_names h) (fun n hn => by
    obtain ⟨p, hp, rfl⟩ := List.mem_map.1 hn
    obtain ⟨s, hs1, hs2, -⟩ := hs p hp
    exact List.mem_map.2 ⟨s, hs1, hs2⟩)
  simpa using h1
theorem ys_look (h : MP Tryz.prog 32 w b (ysE E)) {n : Int} (hw : (Lit.int .u32 n).wf = true) :
    (∃ y, (n, y) ∈ E ∧ (Instr.lookup 56 (.map (some b)) (.int .u32 n) true).run Tryz.prog w = .ok (.tuple #[.int .i64 y, .bool true]) w) ∨
    ((∀ p ∈ E, p.1 ≠ n) ∧ (Instr.lookup 56 (.map (some b)) (.int .u32 n) true).run Tryz.prog w = .ok (.tuple #[.int .i64 0, .bool false]) w) := by
  have hz : (zeroValue 2).run Tryz.prog w = .ok (.int .i64 0) w := by kernel_rfl
  by_cases hn : ∃ p ∈ E, p.1 = n
  · obtain ⟨⟨a, y⟩, hp, rfl⟩ := hn
    exact .inl ⟨y, hp, h.look Tryz.underlying56 Tryz.underlying32 hw (List.mem_map.2 ⟨_, hp, rfl⟩) hz true⟩
  · have hn' : ∀ p ∈ E, p.1 ≠ n := fun p hp e => hn ⟨p, hp, e⟩
    refine .inr ⟨hn', h.miss Tryz.underlying56 Tryz.underlying32 hw ?_ hz true⟩
    intro p hp
    obtain ⟨q, hq, rfl⟩ := List.mem_map.1 hp
    exact hn' q hq
theorem ys_store (h : MP Tryz.prog 32 w b (ysE E)) (hl : E.length ≤ 8192) {n : Int} (y : Int) (hw : (Lit.int .u32 n).wf = true) :
    ∃ w', (Instr.mapUpdate 56 (.map (some b)) (.int .u32 n) (.int .i64 y)).run Tryz.prog w = .ok () w' ∧ MP Tryz.prog 32 w' b (ysE (putE E n y)) ∧ Off [b] w w' := by
  obtain ⟨w', h1, h2, h3⟩ := h.store Tryz.underlying56 Tryz.underlying32 (by rw [ysE_len]; simp [maxLen]; omega) (.int .i64 y) hw
  rw [ysE_put] at h2
  exact ⟨w', h1, h2, h3⟩
end
/-- all points that are between have their own Y, and nothing else is there -/
theorem st_own {L : List S3} (hL : Rg L) {x1 x2 : Int} {E : List (Int × Int)} (hs : StE L x1 x2 E) (ha : ∀ s ∈ L, inX x1 x2 s = true → HasE E s.2.2 s.2.1) (hn : (E.map (·.1)).Nodup) {s : S3} (h : s ∈ L) :
    (inX x1 x2 s = true → (s.2.2, s.2.1) ∈ E) ∧ ((∃ p ∈ E, p.1 = s.2.2) → inX x1 x2 s = true) ∧ ∀ y, (s.2.2, y) ∈ E → y = s.2.1 := by
  have hone : ∀ y, (s.2.2, y) ∈ E → inX x1 x2 s = true ∧ y = s.2.1 := by
    intro y hy
    obtain ⟨t, ht, h1, h2, h3⟩ := hs _ hy
    have e := hL.names ht h h1
    subst e
    obtain ⟨p, hp, h4, h5⟩ := ha t ht h2
    have hpe : p = (t.2.2, y) := by
      obtain ⟨i, hi⟩ := List.getElem?_of_mem hp
      obtain ⟨j, hj⟩ := List.getElem?_of_mem hy
      have k1 : (E.map (·.1))[i]? = some t.2.2 := by rw [List.getElem?_map, hi]; exact congrArg some h4
      have k2 : (E.map (·.1))[j]? = some t.2.2 := by rw [List.getElem?_map, hj]; rfl
      have := (List.getElem?_inj (by simpa using (List.getElem?_eq_some_iff.1 hi).1) hn).1 (k1.trans k2.symm)
      subst this
      rw [hi] at hj
      exact Option.some.inj hj
    rw [hpe] at h5
    exact ⟨h2, Int.le_antisymm h5 h3⟩
  refine ⟨fun hx => ?_, fun hp => ?_, fun y hy => (hone y hy).2⟩
  · obtain ⟨⟨a, y⟩, hp, h1, h2⟩ := ha s h hx
    obtain rfl : a = s.2.2 := h1
    rw [(hone y hp).2] at hp
    exact hp
  · obtain ⟨⟨a, y⟩, hp, h1⟩ := hp
    obtain rfl : a = s.2.2 := h1
    exact (hone y hp).1
theorem st_many {L : List S3} (hL : Rg L) {x1 x2 : Int} {E : List (Int × Int)} (hs : StE L x1 x2 E) (ha : ∀ s ∈ L, inX x1 x2 s = true → HasE E s.2.2 s.2.1) (hn : (E.map (·.1)).Nodup) : (L.filter (inX x1 x2)).length = E.length := by
  have h1 : ((L.filter (inX x1 x2)).map (fun s => s.2.2)).Nodup := ((List.filter_sublist (l := L) (p := inX x1 x2)).map _).nodup hL
  have h2 : ((L.filter (inX x1 x2)).map (fun s => s.2.2)).Perm (E.map (·.1)) := by
    rw [List.perm_ext_iff_of_nodup h1 hn]
    intro a
    constructor
    · intro h
      obtain ⟨s, hs1, rfl⟩ := List.mem_map.1 h
      obtain ⟨p, hp, h3, -⟩ := ha s (List.mem_filter.1 hs1).1 (List.mem_filter.1 hs1).2
      exact List.mem_map.2 ⟨p, hp, h3⟩
    · intro h
      obtain ⟨p, hp, rfl⟩ := List.mem_map.1 h
      obtain ⟨s, hs1, hs2, hs3, -⟩ := hs p hp
      exact List.mem_map.2 ⟨s, List.mem_filter.2 ⟨hs1, hs3⟩, hs2⟩
  have := h2.length_eq
  simpa using this
theorem nm_wf {L : List S3} (hw : ∀ s ∈ L, Wf3 s) {f : S3 → Bool} {n : Int} (h : n ∈ nmS f L) : (Lit.int .u32 n).wf = true := by
  obtain ⟨s, hs, -, rfl⟩ := mem_nmS.1 h
  exact (hw s hs).2.2
/-- numbers do not lie in a map's block -/
theorem cell_map {w : World} {b : Nat} {es : Array MapEntry} {clock : Nat} (hm : w.heap[b]? = some (.map es clock)) {a : Addr} {v : Value} (h : w.cell? a = some v) : a.block ≠ b := by
  rintro rfl
  unfold World.cell? at h
  rw [hm] at h
  cases h
theorem ns_mapped {P : Program} {k : TypeId} {w w' : World} {b : Nat} {M : List (Int × Value)} (hm : MP P k w b M) {q : Option Addr} {xs : List Int} (h : NS w q .u32 xs) (g : Off [b] w w') : NS w' q .u32 xs := by
  obtain ⟨es, cl, hb, -⟩ := hm
  rcases h with h | ⟨b2, off, rfl, h⟩
  · exact .inl h
  · refine .inr ⟨b2, off, rfl, fun j x e => ?_⟩
    have hc := h j x e
    have hne := cell_map hb hc
    exact (World.cell?_of_block (a := ⟨b2, off + j, none⟩) (g.block b2 (World.block_lt_of_cell? w _ hc) (by simpa using hne))).trans hc
end Go.Proofs.YtajpboclicnopaaGreat.Hp
