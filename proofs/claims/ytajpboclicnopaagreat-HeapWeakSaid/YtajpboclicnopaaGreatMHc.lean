/-
  A heap's nodes in memory, and what each of them holds. No condition but those typed at each theorem.
-/
import Derived.Test.YtajpboclicnopaaGreatMHa
import Derived.Test.YtajpboclicnopaaGreatMN
import Derived.Test.YtajpboclicnopaaGreatMBa
import Derived.Test.YtajpboclicnopaaGreatMP
namespace Go.Proofs.YtajpboclicnopaaGreat.Hp
open Go.RowKit Go.Sort Bd
/-- what a node has of what it holds is a pointer; qb tells where each point lies -/
def hv (qb : S3 → Nat) : Option S3 → Value
  | none => .pointer none
  | some s => .pointer (some ⟨qb s, 0, none⟩)
/-- a node's cells, then what it holds -/
def kh (n : Nd) (v : Value) : List Value := nvs n ++ [v]
/-- the cells from a node's place on -/
def KhAt (KV : List Value) (k : Nat) (vs : List Value) : Prop := ∀ q v, vs[q]? = some v → KV[k * 8 + q]? = some v
/-- the nodes over n leaves, and what each of them holds: all of that is among D -/
structure KnM (w : World) (kb n : Nat) (qb : S3 → Nat) (D : List S3) (g : Nat → Option S3) : Prop where
  ev : ∃ KV, EV 111 w kb KV ∧ ∀ k nd, (ndN n)[k]? = some nd → KhAt KV k (kh nd (hv qb (g k)))
  gm : ∀ k s, k < 2 * n - 1 → g k = some s → s ∈ D
  pt : ∀ s ∈ D, EV 34 w (qb s) (tvs s)
section
variable {w w' : World} {kb n : Nat} {qb : S3 → Nat} {D : List S3} {g : Nat → Option S3}
theorem KnM.ty (h : KnM w kb n qb D g) : ∃ c, w.heap[kb]? = some (.cells c 111 (0, 0)) := by
  obtain ⟨KV, e, -⟩ := h.ev
  exact ⟨_, e⟩
theorem KnM.lt (h : KnM w kb n qb D g) : kb < w.heap.size := by
  obtain ⟨KV, e, -⟩ := h.ev
  exact e.lt
theorem KnM.free (h : KnM w kb n qb D g) (i : Nat) : w.frozen? ⟨kb, i, none⟩ = false := by
  obtain ⟨KV, e, -⟩ := h.ev
  exact e.free i
theorem KnM.nd (h : KnM w kb n qb D g) {k : Nat} {nd : Nd} (e : (ndN n)[k]? = some nd) : N1 w kb (k * 8) nd := by
  obtain ⟨KV, hE, hK⟩ := h.ev
  have hK := hK k nd e
  exact ⟨hE.cell (hK 0 _ rfl), hE.cell (hK 1 _ rfl), hE.cell (hK 2 _ rfl), hE.cell (hK 3 _ rfl), hE.cell (hK 4 _ rfl), hE.cell (hK 5 _ rfl), hE.cell (hK 6 _ rfl)⟩
theorem nd_at {k : Nat} (hk : k < 2 * n - 1) : ∃ nd, (ndN n)[k]? = some nd := ⟨_, List.getElem?_eq_getElem (by rw [ndN_len]; exact hk)⟩
theorem KnM.hc (h : KnM w kb n qb D g) {k : Nat} (hk : k < 2 * n - 1) : w.cell? ⟨kb, k * 8 + 7, none⟩ = some (hv qb (g k)) := by
  obtain ⟨KV, hE, hK⟩ := h.ev
  obtain ⟨nd, e⟩ := nd_at hk
  exact hE.cell (hK k nd e 7 _ rfl)
theorem KnM.p1 (h : KnM w kb n qb D g) {s : S3} (hs : s ∈ D) : T1 w (qb s) 0 s := by
  have hE := h.pt s hs
  exact ⟨hE.cell (i := 0) rfl, hE.cell (i := 1) rfl, hE.cell (i := 2) rfl⟩
theorem KnM.off (h : KnM w kb n qb D g) {S : List Nat} (o : Off S w w') (h1 : kb ∉ S) (h2 : ∀ s ∈ D, qb s ∉ S) : KnM w' kb n qb D g := by
  obtain ⟨KV, hE, hK⟩ := h.ev
  exact ⟨⟨KV, hE.off o h1, hK⟩, h.gm, fun s hs => (h.pt s hs).off o (h2 s hs)⟩
theorem KnM.keep (h : KnM w kb n qb D g) (o : Below w.heap.size w w') : KnM w' kb n qb D g := h.off (Off.of (S := []) o (Nat.le_refl _)) (by simp) (by simp)
theorem KnM.apart (h : KnM w kb n qb D g) {s : S3} (hs : s ∈ D) : qb s ≠ kb := by
  obtain ⟨KV, hE, -⟩ := h.ev
  exact types_ne (h.pt s hs) hE (by decide)
/-- a node holds another thing -/
theorem KnM.up (h : KnM w kb n qb D g) {k : Nat} {o : Option S3} (hk : k < 2 * n - 1) (ho : ∀ s, o = some s → s ∈ D) : KnM (w.setCell ⟨kb, k * 8 + 7, none⟩ (hv qb o)) kb n qb D (upG g k o) := by
  obtain ⟨KV, hE, hK⟩ := h.ev
  refine ⟨⟨_, hE.set (k * 8 + 7) _, fun j nd e q v hv => ?_⟩, fun j s hj e => ?_, fun s hs => ?_⟩
  · have hq : q < 8 := by
      have := (List.getElem?_eq_some_iff.1 hv).1
      simpa [kh, nvs] using this
    by_cases hjk : j = k
    · subst hjk
      rw [upG_at] at hv
      by_cases hq7 : q = 7
      · subst hq7
        have hl := (List.getElem?_eq_some_iff.1 (hK j nd e 7 _ rfl)).1
        rw [List.getElem?_set_self hl]
        exact hv
      · rw [List.getElem?_set_ne (by omega)]
        refine hK j nd e q v ?_
        rw [← hv]
        unfold kh
        rw [List.getElem?_append_left (by simp [nvs]; omega), List.getElem?_append_left (by simp [nvs]; omega)]
    · rw [upG_ne hjk] at hv
      rw [List.getElem?_set_ne (by omega)]
      exact hK j nd e q v hv
  · by_cases hjk : j = k
    · subst hjk
      rw [upG_at] at e
      exact ho s e
    · rw [upG_ne hjk] at e
      exact h.gm j s hj e
  · refine (h.pt s hs).off ((Off.refl [kb] w).set _ _ (.inl (by simp))) ?_
    have := h.apart hs
    simpa using this
/-- one point more is there -/
theorem KnM.add (h : KnM w kb n qb D g) {s : S3} {b : Nat} (hs : s ∉ D) (hE : EV 34 w b (tvs s)) : KnM w kb n (fun x => if x = s then b else qb x) (D ++ [s]) g := by
  obtain ⟨KV, hV, hK⟩ := h.ev
  have hne : ∀ x ∈ D, x ≠ s := fun x hx e => hs (e ▸ hx)
  refine ⟨⟨KV, hV, fun k nd e => ?_⟩, fun k x hk e => List.mem_append_left _ (h.gm k x hk e), fun x hx => ?_⟩
  · have hk := (List.getElem?_eq_some_iff.1 e).1
    rw [ndN_len] at hk
    have : hv (fun x => if x = s then b else qb x) (g k) = hv qb (g k) := by
      cases hg : g k with
      | none => rfl
      | some x => simp only [hv, if_neg (hne x (h.gm k x hk hg))]
    rw [this]
    exact hK k nd e
  · rcases List.mem_append.1 hx with hx | hx
    · simp only [if_neg (hne x hx)]
      exact h.pt x hx
    · obtain rfl := List.mem_singleton.1 hx
      simp only [if_true]
      exact hE
theorem KnM.same {D' : List S3} (h : KnM w kb n qb D g) (hD : ∀ s, s ∈ D' ↔ s ∈ D) : KnM w kb n qb D' g :=
  ⟨h.ev, fun k s hk e => (hD s).2 (h.gm k s hk e), fun s hs => h.pt s ((hD s).1 hs)⟩
end
/-- where a tree lies -/
structure HpP where
  B : Nat
  F : Nat
  kb : Nat
  rva : Value
  rvn : Value
  kv : Value
  qb : S3 → Nat
/-- a tree: built of the points RX (by X), of which those of A are there -/
structure HpM (w : World) (P : HpP) (RX A : List S3) : Prop where
  ev : EV 70 w P.B [.pointer (some ⟨P.B, 0, none⟩), P.rva, P.rvn, .pointer (some ⟨P.F, 0, none⟩), P.kv, .int .i64 A.length]
  row : OrR w kx RX P.rva P.rvn
  ord : Ord kx RX
  fr : ∃ d pp, FR w P.F RX.length d pp
  kv1 : RX.length ≠ 0 → ∃ cap, P.kv = .slice (some ⟨P.kb, 0, none⟩) (2 * RX.length - 1) cap
  kn : RX.length ≠ 0 → ∃ g, KnM w P.kb RX.length P.qb RX g ∧ HpI RX A g
  z0 : RX.length = 0 → P.kb = P.B ∧ A = []
  wf : ∀ s ∈ RX, Wf3 s
  few : RX.length ≤ 400
/-- the blocks of a tree -/
def hblk (P : HpP) (RX : List S3) : List Nat := P.B :: P.F :: P.kb :: (P.rva.ownBlock.toList ++ P.rvn.ownBlock.toList ++ RX.map P.qb)
section
variable {w w' : World} {P : HpP} {RX A : List S3}
theorem HpM.off (h : HpM w P RX A) {S : List Nat} (o : Off S w w') (hS : ∀ k ∈ hblk P RX, k ∉ S) : HpM w' P RX A := by
  obtain ⟨d, pp, hF⟩ := h.fr
  refine ⟨h.ev.off o (hS _ (by simp [hblk])), h.row.off o (fun k hk => hS k (by simp [hblk, hk])) (fun k hk => hS k (by simp [hblk, hk])), h.ord, ⟨d, pp, hF.block (o.block _ hF.lt (hS _ (by simp [hblk])))⟩, h.kv1, fun h0 => ?_, h.z0, h.wf, h.few⟩
  obtain ⟨g, h1, h2⟩ := h.kn h0
  exact ⟨g, h1.off o (hS _ (by simp [hblk])) (fun s hs => hS _ (by simp only [hblk, List.mem_cons, List.mem_append, List.mem_map]; exact .inr (.inr (.inr (.inr ⟨s, hs, rfl⟩))))), h2⟩
theorem HpM.keep (h : HpM w P RX A) (o : Below w.heap.size w w') : HpM w' P RX A := h.off (Off.of (S := []) o (Nat.le_refl _)) (by simp)
theorem HpM.lies (h : HpM w P RX A) : ∀ k ∈ hblk P RX, k < w.heap.size := by
  intro k hk
  obtain ⟨d, pp, hF⟩ := h.fr
  simp only [hblk, List.mem_cons, List.mem_append, List.mem_map, Option.mem_toList] at hk
  rcases hk with rfl | rfl | rfl | (hk | hk) | ⟨s, hs, rfl⟩
  · exact h.ev.lt
  · exact hF.lt
  · by_cases h0 : RX.length = 0
    · rw [(h.z0 h0).1]; exact h.ev.lt
    · obtain ⟨g, h1, -⟩ := h.kn h0
      exact h1.lt
  · exact (row_lt h.row.ra hk).2
  · exact (row_lt h.row.rn hk).2
  · have h0 : RX.length ≠ 0 := fun e => by rw [List.length_eq_zero_iff.1 e] at hs; cases hs
    obtain ⟨g, h1, -⟩ := h.kn h0
    exact (h1.pt s hs).lt
end
end Go.Proofs.YtajpboclicnopaaGreat.Hp
/-
  Whether a point is in a box; whether Build answered a tree, how many points it has. No condition but those typed at each theorem.
-/
namespace Go.Proofs.YtajpboclicnopaaGreat.Hp
open Go.RowKit Go.Sort Bd
/-- is a point in a box? -/
def inD (s : S3) (b : B4) : Bool := decide (b.1 ≤ s.1) && decide (s.1 ≤ b.2.1) && decide (b.2.2.1 ≤ s.2.1) && decide (s.2.1 ≤ b.2.2.2)
set_option maxRecDepth 100000 in
set_option maxHeartbeats 400000 in
theorem in_any (s : S3) (b : B5) (w : World) :
    Calls Tryz.prog 88 #[tv s, bv b] w fun e w' => e = .returned (.bool (inD s b.1)) ∧ Below w.heap.size w w' := by
  obtain ⟨⟨a, b, c, d⟩, j⟩ := b
  obtain ⟨x, y, i⟩ := s
  unfold tv bv
  simp only
  by_cases h1 : a ≤ x
  rotate_left
  · (go_enter Tryz.func88, Tryz.ntmps88; go_wp2 <;> go_ret <;> exact ⟨retb (by simp [inD] <;> omega), (((Below.refl _ _).alloc (Nat.le_refl _) _).alloc (by simp) _)⟩)
  by_cases h2 : x ≤ b
  rotate_left
  · (go_enter Tryz.func88, Tryz.ntmps88; go_wp2 <;> go_ret <;> exact ⟨retb (by simp [inD] <;> omega), (((Below.refl _ _).alloc (Nat.le_refl _) _).alloc (by simp) _)⟩)
  by_cases h3 : c ≤ y
  rotate_left
  · (go_enter Tryz.func88, Tryz.ntmps88; go_wp2 <;> go_ret <;> exact ⟨retb (by simp [inD] <;> omega), (((Below.refl _ _).alloc (Nat.le_refl _) _).alloc (by simp) _)⟩)
  by_cases h4 : y ≤ d
  rotate_left
  · (go_enter Tryz.func88, Tryz.ntmps88; go_wp2 <;> go_ret <;> exact ⟨retb (by simp [inD] <;> omega), (((Below.refl _ _).alloc (Nat.le_refl _) _).alloc (by simp) _)⟩)
  (go_enter Tryz.func88, Tryz.ntmps88; go_wp2 <;> go_ret <;> exact ⟨retb (by simp [inD] <;> omega), (((Below.refl _ _).alloc (Nat.le_refl _) _).alloc (by simp) _)⟩)
section
variable {w : World} {P : HpP} {RX A : List S3}
theorem eqSameH (a : Addr) (w : World) : (binOp .eql 25 (.pointer (some a)) (.pointer (some a))).run Tryz.prog w = .ok (.bool true) w := by
  obtain ⟨j, hj⟩ := Option.isSome_iff_exists.1 (show (Tryz.prog.info? 70).isSome = true by kernel_rfl)
  exact run_eql_ptr_same w a Tryz.underlying25 hj
set_option maxRecDepth 100000 in
theorem hmade_yes (h : HpM w P RX A) : Calls Tryz.prog 28 #[.pointer (some ⟨P.B, 0, none⟩)] w fun e w' => e = .returned (.bool true) ∧ w' = w := by
  have c0 := h.ev.cell (i := 0) rfl
  have q := @eqSameH
  clear h
  go_enter Tryz.func28, Tryz.ntmps28
  go_wp2
  go_ret
  exact ⟨rfl, rfl⟩
set_option maxRecDepth 100000 in
theorem hmade_nil (w : World) : Calls Tryz.prog 28 #[.pointer none] w fun e w' => e = .returned (.bool false) ∧ w' = w := by
  go_enter Tryz.func28, Tryz.ntmps28
  go_wp2
  go_ret
  exact ⟨rfl, rfl⟩
set_option maxRecDepth 100000 in
theorem hlen_any (h : HpM w P RX A) : Calls Tryz.prog 12 #[.pointer (some ⟨P.B, 0, none⟩)] w fun e w' => e = .returned (.int .i64 A.length) ∧ Below w.heap.size w w' := by
  have HM := Lib.hid (hmade_yes h)
  have c5 := h.ev.cell (i := 5) rfl
  clear h
  go_enter Tryz.func12, Tryz.ntmps12
  go_wp2_with (go_at_call 28; (with_reducible refine HM.out.mono ?_); rintro e wM ⟨rfl, hM⟩; subst wM)
  go_ret
  exact ⟨rfl, Below.refl _ _⟩
theorem hlen_nil (w : World) : Calls Tryz.prog 12 #[.pointer none] w fun e w' => e = .returned (.int .i64 0) ∧ Below w.heap.size w w' := by
  have HM := Lib.hid (hmade_nil w)
  go_enter Tryz.func12, Tryz.ntmps12
  go_wp2_with (go_at_call 28; (with_reducible refine HM.out.mono ?_); rintro e wM ⟨rfl, hM⟩; subst wM)
  go_ret
  exact ⟨rfl, Below.refl _ _⟩
end
end Go.Proofs.YtajpboclicnopaaGreat.Hp
