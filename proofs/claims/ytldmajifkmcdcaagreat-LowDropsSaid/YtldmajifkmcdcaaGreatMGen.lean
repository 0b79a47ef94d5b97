/-
  What a law tells, as yes or no. No condition but those typed at each theorem.
-/
import Derived.Test.YtldmajifkmcdcaaGreatRows
import Derived.WalkKit
import Derived.WalkSpells
import Derived.WalkLawsBesides
import Derived.Lib.Hide
import Derived.Deep.QuietTactic
import Derived.BigQuiet
import Derived.Shelf.Abstract
import Derived.Deep.DeepCutAuto
import Derived.Laws.MakeOwn
import Derived.Laws.CopyRow
import Derived.Deep.LoopGhost
import Derived.Deep.AppendLies
import Derived.Deep.CutBlock
import Derived.Deep.RegionLaw
import Derived.LaidEqlPtr
import Derived.Laws.AppendOwnNone
import Derived.LoopIn
import Derived.LoopNIn
import Derived.OwnWalkIn
import Derived.RangeFuncBound
import Derived.RangeFuncCalls
import Derived.RangeFuncLeaves
import Derived.RangeFuncNested
import Derived.Shelf.RegionOpen
import Derived.StillTailTactics
import Derived.TacticsInMore
namespace Go.Proofs.YtldmajifkmcdcaaGreat
open Go.RowKit
theorem retb {p q : Bool} (h : p = true ↔ q = true) : Ending.returned (.bool p) = .returned (.bool q) := by rw [Bool.eq_iff_iff.2 h]
end Go.Proofs.YtldmajifkmcdcaaGreat
/-
  Rows of cells; a region that draws its order, whose operations only read and whose callees leave all that lay as it was: walked once, over a class of worlds of one's own; blocks of a variable's own. No condition but those typed at each theorem.
-/
namespace Go.Proofs.YtldmajifkmcdcaaGreat
open Go.RowKit
/-- the block n holds these values, one behind the other -/
def Row (W : World) (n : Nat) (vs : List Value) : Prop := ∀ k v, vs[k]? = some v → W.cell? ⟨n, k, none⟩ = some v
theorem Row.keep {X w' : World} {n : Nat} {vs : List Value} (h : Row X n vs) (hb : Below X.heap.size X w') : Row w' n vs :=
  fun k v e => (hb.cell (World.block_lt_of_cell? X _ (h k v e))).trans (h k v e)
theorem Row.all {X : World} {n : Nat} {vs : List Value} (h : Row X n vs) (o : Obj) : Row (X.alloc o) n vs :=
  fun k v e => (World.cell?_alloc_lt _ _ _ (World.block_lt_of_cell? X _ (h k v e))).trans (h k v e)
theorem Row.drew {X : World} {n : Nat} {vs : List Value} (h : Row X n vs) : Row X.drew n vs := h
theorem Row.new (X : World) {n : Nat} (vs : List Value) (t : TypeId) (hn : n = X.heap.size) : Row (X.alloc (.cells vs.toArray t)) n vs := by
  subst hn
  intro k v e
  have := World.cell?_alloc_new (w := X) vs.toArray t k
  rw [this]
  simpa using e
/-- A world of a class. -/
structure Wd (p : World → Prop) where
  w : World
  h : p w
theorem wp_region_wd {P : Program} {id : Nat} {Q : Exit → Act → World → Prop} {a : Act} {w : World} {l : List Oper} (p : World → Prop) (hm : P.follows .mixedOrders = true) (hB : Region.lexB .any l.toArray = true) (hw : p w.drew)
    (h : wpQuiet P l.toArray (fun w' => ∃ s : Wd p, w' = s.w) (fun a' => ∀ w', (∃ s : Wd p, w' = s.w) → Q .normal a' w') l a) : (Code.region id l.toArray true).wp P Q a w :=
  wp_region_quiet (C := fun w' => ∃ s : Wd p, w' = s.w) hm hB ⟨⟨w.drew, hw⟩, rfl⟩ (by simpa using h)
theorem calls_wd {P : Program} {f : FuncId} {args : Array Value} {v : Value} {p : World → Prop} (hp : ∀ X w', p X → Below X.heap.size X w' → p w') (s : Wd p)
    (h : Calls P f args s.w fun e w' => e = .returned v ∧ Below s.w.heap.size s.w w') : Calls P f args s.w fun e w'' => e = .returned v ∧ ∃ s' : Wd p, w'' = s'.w :=
  h.mono fun _ w' ⟨he, hb⟩ => ⟨he, ⟨w', hp _ _ s.h hb⟩, rfl⟩
/-- A block of a variable's own: these values, and it may be written. -/
def Own (X : World) (n : Nat) (vs : List Value) : Prop := Row X n vs ∧ ∀ k, X.frozen? ⟨n, k, none⟩ = false
theorem Own.new (X : World) {n : Nat} (vs : List Value) (t : TypeId) (hn : n = X.heap.size) : Own (X.alloc (.cells vs.toArray t)) n vs :=
  ⟨Row.new X vs t hn, fun k => by subst hn; simp⟩
theorem Own.all {X : World} {n : Nat} {vs : List Value} (h : Own X n vs) (hn : n < X.heap.size) (o : Obj) : Own (X.alloc o) n vs :=
  ⟨h.1.all o, fun k => (World.frozen?_of_block (w := X) (Below.heap_alloc X o n hn)).trans (h.2 k)⟩
theorem Own.drew {X : World} {n : Nat} {vs : List Value} (h : Own X n vs) : Own X.drew n vs := h
theorem Row.far {X : World} {n : Nat} {vs : List Value} (h : Row X n vs) (q : Addr) (v : Value) (hq : q.block ≠ n) : Row (X.setCell q v) n vs :=
  fun k u e => (World.cell?_of_block (w := X) (Below.heap_setCell X q v n (fun e => hq e.symm))).trans (h k u e)
theorem Own.far {X : World} {n : Nat} {vs : List Value} (h : Own X n vs) (q : Addr) (v : Value) (hq : q.block ≠ n) : Own (X.setCell q v) n vs :=
  ⟨h.1.far q v hq, fun k => (World.frozen?_of_block (w := X) (Below.heap_setCell X q v n (fun e => hq e.symm))).trans (h.2 k)⟩
theorem Row.set {X : World} {n : Nat} {vs : List Value} (h : Row X n vs) (k : Nat) (v : Value) {u : Value} (hk : vs[k]? = some u) : Row (X.setCell ⟨n, k, none⟩ v) n (vs.set k v) := by
  intro j x e
  by_cases hj : k = j
  · subst hj
    obtain ⟨hlt, _⟩ := List.getElem?_eq_some_iff.1 hk
    rw [List.getElem?_set_self hlt] at e
    cases e
    exact World.cell?_setCell_same' _ _ _ (by rw [h k u hk]; rfl)
  · rw [List.getElem?_set_ne hj] at e
    exact (World.cell?_setCell_other _ _ _ _ (by simp <;> omega)).trans (h j x e)
end Go.Proofs.YtldmajifkmcdcaaGreat
/-
  Worlds in which all that lay lies as it did. No condition but those typed at each theorem.
-/
namespace Go.Proofs.YtldmajifkmcdcaaGreat
open Go.RowKit
/-- the worlds in which all that lay in w lies as it did -/
def Bw (w : World) (X : World) : Prop := Below w.heap.size w X
theorem Bw.keep {w X w' : World} (h : Bw w X) (hb : Below X.heap.size X w') : Bw w w' := h.trans (hb.mono h.size)
theorem Bw.cell {w : World} (s : Wd (Bw w)) {a : Addr} {v : Value} (h : w.cell? a = some v) : s.w.cell? a = some v :=
  (Below.cell s.h (World.block_lt_of_cell? w a h)).trans h
end Go.Proofs.YtldmajifkmcdcaaGreat
/-
  Blocks of whole numbers; what stands while some blocks are written. No condition but those typed at each theorem.
-/
namespace Go.Proofs.YtldmajifkmcdcaaGreat
open Go.RowKit
section
variable {k : IntKind} {t : TypeId} {w w' : World} {A : Nat} {L : List Int}
end
/-- all stands but what lies in these blocks -/
structure Off (S : List Nat) (w w' : World) : Prop where
  os : w'.os = w.os
  tape : w'.tape = w.tape
  output : w'.output = w.output
  size : w.heap.size ≤ w'.heap.size
  block : ∀ k, k < w.heap.size → k ∉ S → w'.heap[k]? = w.heap[k]?
section
variable {S : List Nat} {w X w' : World}
theorem Off.refl (S : List Nat) (w : World) : Off S w w := ⟨rfl, rfl, rfl, Nat.le_refl _, fun _ _ _ => rfl⟩
theorem Off.trans (h : Off S w X) (g : Off S X w') : Off S w w' :=
  ⟨g.os.trans h.os, g.tape.trans h.tape, g.output.trans h.output, Nat.le_trans h.size g.size, fun k hk hS => (g.block k (Nat.lt_of_lt_of_le hk h.size) hS).trans (h.block k hk hS)⟩
theorem Off.mono {T : List Nat} (h : Off S w w') (hT : ∀ k, k < w.heap.size → k ∈ S → k ∈ T) : Off T w w' :=
  ⟨h.os, h.tape, h.output, h.size, fun k hk hS => h.block k hk (fun e => hS (hT k hk e))⟩
theorem Off.of {N : Nat} (hb : Below N w w') (hN : w.heap.size ≤ N) : Off S w w' := ⟨hb.os, hb.tape, hb.output, hb.size, fun k hk _ => hb.block k (Nat.lt_of_lt_of_le hk hN)⟩
theorem Off.bel (h : Off S w X) (hb : Below X.heap.size X w') : Off S w w' := h.trans (Off.of hb (Nat.le_refl _))
theorem Off.below {N : Nat} (h : Off S w w') (hN : N ≤ w.heap.size) (hS : ∀ k ∈ S, N ≤ k) : Below N w w' :=
  ⟨h.os, h.tape, h.output, h.size, fun k hk => h.block k (Nat.lt_of_lt_of_le hk hN) (fun e => absurd (hS k e) (by omega))⟩
theorem Off.all (h : Off S w X) (o : Obj) : Off S w (X.alloc o) := h.trans ⟨rfl, rfl, rfl, by simp, fun k hk _ => Below.heap_alloc _ _ _ hk⟩
theorem Off.drew (h : Off S w X) : Off S w X.drew := ⟨h.os, h.tape, h.output, h.size, h.block⟩
theorem Off.set (h : Off S w X) (a : Addr) (v : Value) (ha : a.block ∈ S ∨ w.heap.size ≤ a.block) : Off S w (X.setCell a v) :=
  ⟨h.os, h.tape, h.output, by simpa [World.setCell] using h.size, fun k hk hS => (Below.heap_setCell _ _ _ _ (fun e => by subst e; exact ha.elim hS (fun g => absurd g (by omega)))).trans (h.block k hk hS)⟩
theorem Off.cell (h : Off S w w') {a : Addr} {v : Value} (hc : w.cell? a = some v) (hS : a.block ∉ S) : w'.cell? a = some v :=
  (World.cell?_of_block (h.block _ (World.block_lt_of_cell? w a hc) hS)).trans hc
end
end Go.Proofs.YtldmajifkmcdcaaGreat
/-
  What holds in any seat: lists of numbers and rows of one's own in memory, what is put behind a row, boxes. No condition but those typed at each theorem.
-/
namespace Go.Proofs.YtldmajifkmcdcaaGreat
open Go.RowKit Go.Shelf
attribute [local go_sem] Oper.semAt_some
/-- from this place on these numbers lie -/
def Ns (w : World) (b off : Nat) (k : IntKind) (xs : List Int) : Prop := ∀ j x, xs[j]? = some x → w.cell? ⟨b, off + j, none⟩ = some (.int k x)
/-- a slice's first place, and the numbers that it has -/
def NS (w : World) (p : Option Addr) (k : IntKind) (xs : List Int) : Prop := xs = [] ∨ ∃ b off, p = some ⟨b, off, none⟩ ∧ Ns w b off k xs
theorem Ns.keep {w w' : World} {b off : Nat} {k : IntKind} {xs : List Int} (h : Ns w b off k xs) (hb : Below w.heap.size w w') : Ns w' b off k xs :=
  fun j x e => (hb.cell (World.block_lt_of_cell? w _ (h j x e))).trans (h j x e)
theorem NS.keep {w w' : World} {p : Option Addr} {k : IntKind} {xs : List Int} (h : NS w p k xs) (hb : Below w.heap.size w w') : NS w' p k xs := by
  rcases h with h | ⟨b, off, rfl, h⟩
  · exact .inl h
  · exact .inr ⟨b, off, rfl, h.keep hb⟩
section
variable {k : IntKind} {t : TypeId} {w w' : World} {g cap : Nat} {L : List Int}
end
/-- a row of one's own stays, where its block stays -/
theorem row_at {w w' : World} {base base' n : Nat} {e : TypeId} {size : Nat} {v : Value} {xs : List Value} (h : w.ownsRow base e size v n xs) (hb : ∀ k, v.ownBlock = some k → w'.heap[k]? = w.heap[k]? ∧ base' ≤ k) : w'.ownsRow base' e size v n xs := by
  obtain ⟨h1, h2⟩ := h
  refine ⟨h1, ?_⟩
  rcases h2 with h2 | ⟨q, cap, cur, rfl, hq, hg, hr⟩
  · exact .inl h2
  · obtain ⟨h3, h4⟩ := hb q rfl
    exact .inr ⟨q, cap, cur, rfl, h4, h3.trans hg, hr⟩
theorem row_lt {w : World} {base n : Nat} {e : TypeId} {size : Nat} {v : Value} {xs : List Value} (h : w.ownsRow base e size v n xs) {k : Nat} (hk : v.ownBlock = some k) : base ≤ k ∧ k < w.heap.size := h.lt k hk
/-- of which type a row's block is -/
theorem row_type {w : World} {base n : Nat} {e : TypeId} {size : Nat} {v : Value} {xs : List Value} (h : w.ownsRow base e size v n xs) {k : Nat} (hk : v.ownBlock = some k) : ∃ cur, w.heap[k]? = some (.cells cur e (0, 0)) := by
  obtain ⟨h1, h2⟩ := h
  rcases h2 with ⟨rfl, h2⟩ | ⟨q, cap, cur, rfl, hq, hg, hr⟩
  · cases hk
  · simp [Value.ownBlock] at hk
    subst hk
    exact ⟨cur, hg⟩
theorem types_ne {w : World} {k k' : Nat} {c c' : Array Value} {t t' : TypeId} (h : w.heap[k]? = some (.cells c t (0, 0))) (h' : w.heap[k']? = some (.cells c' t' (0, 0))) (ht : t ≠ t') : k ≠ k' := by
  intro e
  subst e
  rw [h] at h'
  injection h' with h'
  injection h' with _ h'
  exact ht h'
/-- what is put behind a row lies in its block, or in a new one -/
theorem append_block {P : Program} {w : World} {base : Nat} {t ty e : TypeId} {i : TypeInfo} {z : Value} {size bytes : Nat} (ht : P.underlying t = some (.slice e)) (hi : P.info? e = some i) (hz : i.zero = some z)
    (hsize : i.size = size) (hby : i.bytes = bytes) {v : Value} {n : Nat} {xs : List Value} (hown : w.ownsRow base e size v n xs) {a : Addr} {m c : Nat} {news : List Value} (hl : news.length = m * size) (hnews : ∀ j u, news[j]? = some u → w.cell? (a.add j) = some u)
    (h1 : ∀ u ∈ news, u.oneCell' = true) (h63 : n + m ≤ maxLen) (hbytes : (n + m) * bytes ≤ 140737488355328) (hm0 : 0 < m) {v' : Value} {w' : World} (hr : (Builtin.append_ #[t, t] ty #[v, .slice (some a) m c]).run P w = .ok v' w') :
    ∀ k, v'.ownBlock = some k → v.ownBlock = some k ∨ k = w.heap.size := by
  subst hsize
  subst hby
  have hmx : maxLen = 9223372036854775807 := rfl
  intro k hk
  rcases hown.2 with ⟨rfl, rfl⟩ | ⟨g, cap, cur, rfl, hbg, hg, hnc, hcm, hcs, htake⟩
  · rw [Nat.zero_add] at h63 hbytes
    rw [run_append_nil (P := P) w t ty e i z ht hi hz a m c news hl hnews hm0 (by omega) (by omega)] at hr
    cases hr
    simp [Value.ownBlock] at hk
    exact .inr hk.symm
  · by_cases hroom : n + m ≤ cap
    · rw [run_append_room (P := P) w t ty e i ht hi g n cap cur hg a m c news hl hnews h1 hroom (by rw [hl, hcs, ← Nat.add_mul]; exact Nat.mul_le_mul_right _ hroom)] at hr
      cases hr
      exact .inl hk
    · rw [run_append_grow (P := P) w t ty e i z ht hi hz ⟨g, 0, none⟩ n cap xs hown.1 (hown.cells (g := g) rfl) a m c news hl hnews (by omega) (by omega) (growslice_fits (by omega) hbytes)] at hr
      cases hr
      simp [Value.ownBlock] at hk
      exact .inr hk.symm
theorem one_new (W : World) (v : Value) (t : TypeId) : (W.alloc (.cells #[v] t)).cell? ⟨W.heap.size, 0, none⟩ = some v ∧ (W.alloc (.cells #[v] t)).frozen? ⟨W.heap.size, 0, none⟩ = false :=
  ⟨(World.cell?_alloc_new (w := W) #[v] t 0).trans rfl, by simp⟩
theorem cell_al {W : World} {a : Addr} {v : Value} (o : Obj) (h : W.cell? a = some v) : (W.alloc o).cell? a = some v := cell_kept h (World.grownBy_alloc W o none) (fun r e => by cases e)
/-- things put behind a row of one's own: what is handed back, where it lies -/
theorem run_more {P : Program} {e : TypeId} {z : Value} {size bytes : Nat} (hi : (P.info? e).map (fun i => (i.zero, i.size, i.bytes)) = some (some z, size, bytes)) (hzs : z.cells.size = size) (hsz : 0 < size) (hby : bytes ≤ 64)
    {t : TypeId} (ht : P.underlying t = some (.slice e)) (ty : TypeId) (w : World) (v : Value) (n : Nat) (xs : List Value) (hown : w.ownsRow 0 e size v n xs) (a : Addr) (m c : Nat) (news : List Value) (hl : news.length = m * size)
    (hnews : ∀ j u, news[j]? = some u → w.cell? (a.add j) = some u) (h1 : ∀ u ∈ news, u.oneCell' = true) (hn : n + m ≤ 100000) (hm : 0 < m) :
    ∃ g cap w', (Builtin.append_ #[t, t] ty #[v, .slice (some a) m c]).run P w = .ok (.slice (some ⟨g, 0, none⟩) (n + m) cap) w' ∧ w'.ownsRow 0 e size (.slice (some ⟨g, 0, none⟩) (n + m) cap) (n + m) (xs ++ news) ∧ w.grownBy w' v.ownBlock ∧ (v.ownBlock = some g ∨ g = w.heap.size) := by
  obtain ⟨i0, hi0, hz0, hz1, hz2⟩ := info_parts hi
  have hmx : maxLen = 9223372036854775807 := rfl
  have hb : (n + m) * bytes ≤ 100000 * 64 := Nat.mul_le_mul hn hby
  obtain ⟨v', w', hr, h2, h3, -⟩ := run_append_own (P := P) w 0 t ty e i0 z size bytes ht hi0 hz0 hz1 hz2 hzs hsz v n xs hown a m c news hl hnews h1 (by omega) (by omega) (Nat.zero_le _)
  have hblk := append_block (P := P) ht hi0 hz0 hz1 hz2 hown hl hnews h1 (by omega) (by omega) hm hr
  rcases h2.2 with ⟨rfl, h4⟩ | ⟨g, cap, cur, rfl, _⟩
  · omega
  · exact ⟨g, cap, w', hr, h2, h3, hblk g rfl⟩
theorem wpListIn_more {F : Fence} {k : Nat} {P : Program} {e : TypeId} {z : Value} {size bytes : Nat} (hi : (P.info? e).map (fun i => (i.zero, i.size, i.bytes)) = some (some z, size, bytes)) (hzs : z.cells.size = size) (hsz : 0 < size) (hby : bytes ≤ 64)
    {t : TypeId} (ht : P.underlying t = some (.slice e)) (w : World) {ops : Array Oper} {rest : List Oper} {o : Oper} {a : Act} {Q : Exit → Act → World → Prop} (hg : o.guard = none) (s x : Operand) (hop : o.op = Op.call { callee := Callee.builtin Builtin.append, args := #[s, x], argTypes := #[t, t] })
    (v : Value) (n : Nat) (xs : List Value) (hs : a.eval s = v) (hown : w.ownsRow 0 e size v n xs) (ad : Addr) (m c : Nat) (news : List Value) (hx : a.eval x = .slice (some ad) m c) (hl : news.length = m * size)
    (hnews : ∀ j u, news[j]? = some u → w.cell? (ad.add j) = some u) (h1 : ∀ u ∈ news, u.oneCell' = true) (hn : n + m ≤ 100000) (hm : 0 < m)
    (hK : ∀ g cap w', w'.ownsRow 0 e size (.slice (some ⟨g, 0, none⟩) (n + m) cap) (n + m) (xs ++ news) → w.grownBy w' v.ownBlock → (v.ownBlock = some g ∨ g = w.heap.size) → wpListIn F k P ops Q rest (a.put o.dst (.slice (some ⟨g, 0, none⟩) (n + m) cap)) w') :
    wpListIn F k P ops Q (o :: rest) a w := by
  refine wpListIn_plain hg fun K hK' => ?_
  obtain ⟨g, cap, w', hrun, r1, r2, r3⟩ := run_more hi hzs hsz hby ht o.type w v n xs hown ad m c news hl hnews h1 hn hm
  unfold Oper.wpIn
  refine ⟨?_, ?_⟩
  · simp [Oper.about, hop, resolve, Target.leads, Sem.run_pure]
  · rw [Oper.semAt_plain F _ _ (by rw [hop]; intro c hc'; cases hc')]
    simp [execOp, hop, resolve, invoke, builtin, hs, hx, hrun, Result.andThen]
    exact hK' _ _ (hK g cap w' r1 r2 r3)
theorem wpList_more {P : Program} {e : TypeId} {z : Value} {size bytes : Nat} (hi : (P.info? e).map (fun i => (i.zero, i.size, i.bytes)) = some (some z, size, bytes)) (hzs : z.cells.size = size) (hsz : 0 < size) (hby : bytes ≤ 64)
    {t : TypeId} (ht : P.underlying t = some (.slice e)) (w : World) {ops : Array Oper} {rest : List Oper} {o : Oper} {a : Act} {Q : Exit → Act → World → Prop} (hg : o.guard = none) (s x : Operand) (hop : o.op = Op.call { callee := Callee.builtin Builtin.append, args := #[s, x], argTypes := #[t, t] })
    (v : Value) (n : Nat) (xs : List Value) (hs : a.eval s = v) (hown : w.ownsRow 0 e size v n xs) (ad : Addr) (m c : Nat) (news : List Value) (hx : a.eval x = .slice (some ad) m c) (hl : news.length = m * size)
    (hnews : ∀ j u, news[j]? = some u → w.cell? (ad.add j) = some u) (h1 : ∀ u ∈ news, u.oneCell' = true) (hn : n + m ≤ 100000) (hm : 0 < m)
    (hK : ∀ g cap w', w'.ownsRow 0 e size (.slice (some ⟨g, 0, none⟩) (n + m) cap) (n + m) (xs ++ news) → w.grownBy w' v.ownBlock → (v.ownBlock = some g ∨ g = w.heap.size) → wpList P ops Q rest (a.put o.dst (.slice (some ⟨g, 0, none⟩) (n + m) cap)) w') :
    wpList P ops Q (o :: rest) a w :=
  wpList_plain hg fun K hK' => by
    obtain ⟨g, cap, w', hr, r1, r2, r3⟩ := run_more hi hzs hsz hby ht o.type w v n xs hown ad m c news hl hnews h1 hn hm
    unfold Oper.wp execOp
    simp only [hop, resolve, invoke, builtin, Sem.run_bind, Sem.run_pure, Result.andThen_ok, List.map_toArray, List.map_cons, List.map_nil, hs, hx, hr]
    exact hK' _ _ (hK g cap w' r1 r2 r3)
theorem one_at (W : World) (v : Value) (t : TypeId) : ∀ j u, [v][j]? = some u → (W.alloc (.cells #[v] t)).cell? ((⟨W.heap.size, 0, none⟩ : Addr).add j) = some u := by
  intro j u hu
  cases j with
  | zero => simp at hu; subst hu; rw [Addr.add_zero']; exact (one_new W v t).1
  | succ j => simp at hu
/-- a cell of a row of one's own written -/
theorem row_set {w : World} {base n : Nat} {e : TypeId} {g c j : Nat} {xs : List Value} (h : w.ownsRow base e 1 (.slice (some ⟨g, 0, none⟩) n c) n xs) (u : Value) : (w.setCell ⟨g, j, none⟩ u).ownsRow base e 1 (.slice (some ⟨g, 0, none⟩) n c) n (xs.set j u) := by
  obtain ⟨h1, h2⟩ := h
  rcases h2 with ⟨h2, _⟩ | ⟨g', cap, cur, hv, hb, hg, hnc, hcm, hcs, htk⟩
  · cases h2
  · cases hv
    refine ⟨by simpa using h1, .inr ⟨g, c, cur.setIfInBounds j u, rfl, hb, heap_setCell_same _ _ _ _ _ _ hg, hnc, hcm, by simpa using hcs, ?_⟩⟩
    rw [Array.toList_setIfInBounds, List.take_set, htk]
theorem row_cells {w : World} {base n : Nat} {e : TypeId} {g c : Nat} {xs : List Value} (h : w.ownsRow base e 1 (.slice (some ⟨g, 0, none⟩) n c) n xs) {j : Nat} {u : Value} (hj : xs[j]? = some u) : w.cell? ⟨g, j, none⟩ = some u ∧ w.frozen? ⟨g, j, none⟩ = false := by
  obtain ⟨h1, h2⟩ := h
  rcases h2 with ⟨h2, _⟩ | ⟨g', cap, cur, hv, hb, hg, hnc, hcm, hcs, htk⟩
  · cases h2
  · cases hv
    have hl := (List.getElem?_eq_some_iff.1 hj).1
    refine ⟨?_, by simp [World.frozen?, hg]⟩
    rw [← htk, List.getElem?_take] at hj
    split at hj
    · simp [World.cell?, hg]
      simpa using hj
    · cases hj
theorem ownFrom_row {β : Type} (B base n : Nat) (e : TypeId) (size : Nat) (v : Value) (f : β → List Value) : OwnFrom B (fun s W => W.ownsRow base e size v n (f s)) := by
  rintro s X Y row hr hg hrow
  refine hr.kept hg ?_
  rcases hr.2 with ⟨rfl, _⟩ | ⟨g, cap, cur, rfl, _, hgb, _⟩
  · exact .inl rfl
  · refine .inr fun e' => ?_
    obtain ⟨_, o, ho, hc⟩ := hrow g (by simpa [Value.ownBlock] using e'.symm)
    rw [hgb] at ho
    cases ho
    cases hc
theorem ownFrom_off {β : Type} {S : List Nat} {B : Nat} {w₀ : World} (hB : w₀.heap.size ≤ B) : OwnFrom B (fun (_ : β) W => Off S w₀ W) :=
  fun _ _ _ _ hs hg hr => ⟨hg.os.trans hs.os, hg.tape.trans hs.tape, hg.output.trans hs.output, Nat.le_trans hs.size hg.size, fun k hk hS => (hg.block k (Nat.lt_of_lt_of_le hk hs.size) (fun e => by have := (hr k e.symm).1; omega)).trans (hs.block k hk hS)⟩
theorem ownFrom_cell {β : Type} {B : Nat} {a : Addr} {v : Value} : OwnFrom B (fun (_ : β) W => W.cell? a = some v) := fun _ _ _ _ hs hg hr => cell_kept hs hg (fun r e => (hr r e).2)
theorem Off.grow {S : List Nat} {w X w' : World} {o : Option Nat} (h : Off S w X) (g : X.grownBy w' o) (ho : ∀ k, o = some k → k ∈ S ∨ w.heap.size ≤ k) : Off S w w' :=
  ⟨g.os.trans h.os, g.tape.trans h.tape, g.output.trans h.output, Nat.le_trans h.size g.size, fun k hk hS => (g.block k (Nat.lt_of_lt_of_le hk h.size) (fun e => by rcases ho k e.symm with h1 | h1; exact hS h1; omega)).trans (h.block k hk hS)⟩
theorem Off.put {S : List Nat} {w W : World} {D : Nat} (h : Off S w W) (o : Obj) (hD : w.heap.size ≤ D) : Off S w (W.putObj D o) :=
  h.grow (grownBy_putObj' W D o) (fun k e => by cases e; exact .inr hD)
theorem wp_region_tail {P : Program} {id : Nat} {Q : Exit → Act → World → Prop} {a : Act} {w : World} {l : List Oper} (n : Nat) (hm : P.follows .mixedOrders = true) (hB : Region.lexTailB .any l.toArray n = true)
    (h : wpStill P l.toArray w.drew (fun a' => wpList P l.toArray Q (l.drop n) a' w.drew) (l.take n) a) : (Code.region id l.toArray true).wp P Q a w := wp_region_still_tail n hm hB h
theorem undrew {w w' : World} (h : Below w.drew.heap.size w.drew w') : Below w.heap.size w w' := ⟨h.os, h.tape, h.output, h.size, h.block⟩
theorem grown_drew {w w' : World} {o : Option Nat} (h : w.drew.grownBy w' o) : w.grownBy w' o := ⟨h.os, h.tape, h.output, h.size, h.block⟩
theorem step_more {P : Program} {e : TypeId} {z : Value} {size bytes : Nat} (hi : (P.info? e).map (fun i => (i.zero, i.size, i.bytes)) = some (some z, size, bytes)) (hzs : z.cells.size = size) (hsz : 0 < size) (hby : bytes ≤ 64)
    {t : TypeId} (ht : P.underlying t = some (.slice e)) {w : World} {ops : Array Oper} {o : Oper} {a : Act} {K : Act → World → Prop} {Q : Exit → Act → World → Prop} {E : Prop} (hg : o.guard = none) (s x : Operand) (hop : o.op = Op.call { callee := Callee.builtin Builtin.append, args := #[s, x], argTypes := #[t, t] })
    (v : Value) (n : Nat) (xs : List Value) (hs : a.eval s = v) (hown : w.ownsRow 0 e size v n xs) (ad : Addr) (m c : Nat) (news : List Value) (hx : a.eval x = .slice (some ad) m c) (hl : news.length = m * size)
    (hnews : ∀ j u, news[j]? = some u → w.cell? (ad.add j) = some u) (h1 : ∀ u ∈ news, u.oneCell' = true) (hn : n + m ≤ 100000) (hm : 0 < m)
    (hK : ∀ g cap w', w'.ownsRow 0 e size (.slice (some ⟨g, 0, none⟩) (n + m) cap) (n + m) (xs ++ news) → w.grownBy w' v.ownBlock → (v.ownBlock = some g ∨ g = w.heap.size) → K (a.put o.dst (.slice (some ⟨g, 0, none⟩) (n + m) cap)) w') :
    if Region.wanted o (yielded ops a.tmps) = true then Oper.wp P o a w K Q else E := by
  have hw : Region.wanted o (yielded ops a.tmps) = true := by simp [Region.wanted, hg]
  rw [if_pos hw]
  obtain ⟨g, cap, w', hr, r1, r2, r3⟩ := run_more hi hzs hsz hby ht o.type w v n xs hown ad m c news hl hnews h1 hn hm
  unfold Oper.wp execOp
  simp only [hop, resolve, invoke, builtin, Sem.run_bind, Sem.run_pure, Result.andThen_ok, List.map_toArray, List.map_cons, List.map_nil, hs, hx, hr]
  exact hK g cap w' r1 r2 r3
/-- a slice from which these cells are read -/
def Src (w : World) (p : Option Addr) (m c : Nat) (news : List Value) : Prop := (p = none ∧ m = 0 ∧ c = 0 ∧ news = []) ∨ ∃ a, p = some a ∧ ∀ j u, news[j]? = some u → w.cell? (a.add j) = some u
theorem Src.keep {w w' : World} {p : Option Addr} {m c : Nat} {news : List Value} (h : Src w p m c news) (hb : Below w.heap.size w w') : Src w' p m c news := by
  rcases h with h | ⟨a, h1, h2⟩
  · exact .inl h
  · refine .inr ⟨a, h1, fun j u e => (World.cell?_of_block (hb.block _ (World.block_lt_of_cell? w _ (h2 j u e)))).trans (h2 j u e)⟩
theorem NS.src {w : World} {p : Option Addr} {c : Nat} {xs : List Int} {k : IntKind} (h : NS w p k xs) (hp : p = none → c = 0) : Src w p xs.length c (xs.map (Value.int k)) := by
  cases p with
  | none =>
    have he : xs = [] := by
      rcases h with h | ⟨b, off, h, -⟩
      · exact h
      · cases h
    subst he
    exact .inl ⟨rfl, rfl, hp rfl, rfl⟩
  | some a =>
    refine .inr ⟨a, rfl, fun j u e => ?_⟩
    rw [List.getElem?_map] at e
    cases hx : xs[j]? with
    | none => rw [hx] at e; cases e
    | some x =>
      rw [hx] at e
      cases e
      rcases h with rfl | ⟨b, off, h1, h2⟩
      · simp at hx
      · cases h1
        rw [Addr.add_lit]
        exact h2 j x hx
theorem run_list {P : Program} {e : TypeId} {z : Value} {size bytes : Nat} (hi : (P.info? e).map (fun i => (i.zero, i.size, i.bytes)) = some (some z, size, bytes)) (hzs : z.cells.size = size) (hsz : 0 < size) (hby : bytes ≤ 64)
    {t : TypeId} (ht : P.underlying t = some (.slice e)) (ty : TypeId) (w : World) (base : Nat) (v : Value) (n : Nat) (xs : List Value) (hown : w.ownsRow base e size v n xs) (p : Option Addr) (m c : Nat) (news : List Value) (hl : news.length = m * size)
    (hs : Src w p m c news) (h1 : ∀ u ∈ news, u.oneCell' = true) (hn : n + m ≤ 100000) (hb : base ≤ w.heap.size) :
    ∃ v' w', (Builtin.append_ #[t, t] ty #[v, .slice p m c]).run P w = .ok v' w' ∧ w'.ownsRow base e size v' (n + m) (xs ++ news) ∧ w.grownBy w' v.ownBlock ∧ (v ≠ .slice none 0 0 → v' ≠ .slice none 0 0) := by
  obtain ⟨i0, hi0, hz0, hz1, hz2⟩ := info_parts hi
  have hmx : maxLen = 9223372036854775807 := rfl
  have hbb : (n + m) * bytes ≤ 100000 * 64 := Nat.mul_le_mul hn hby
  rcases hs with ⟨rfl, rfl, rfl, rfl⟩ | ⟨a, rfl, hc⟩
  · exact ⟨v, w, run_append_owned_none (P := P) (w := w) base t ty e i0 size ht hi0 v n xs hown, by simpa using hown, ⟨rfl, rfl, rfl, Nat.le_refl _, fun _ _ _ => rfl⟩, id⟩
  · obtain ⟨v', w', h3, h4, h5, h6⟩ := run_append_own (P := P) w base t ty e i0 z size bytes ht hi0 hz0 hz1 hz2 hzs hsz v n xs hown a m c news hl hc h1 (by omega) (by omega) hb
    exact ⟨v', w', h3, h4, h5, fun hv e => hv (h6.1 e).1⟩
theorem wpList_list {P : Program} {e : TypeId} {z : Value} {size bytes : Nat} (hi : (P.info? e).map (fun i => (i.zero, i.size, i.bytes)) = some (some z, size, bytes)) (hzs : z.cells.size = size) (hsz : 0 < size) (hby : bytes ≤ 64)
    {t : TypeId} (ht : P.underlying t = some (.slice e)) (w : World) {ops : Array Oper} {rest : List Oper} {o : Oper} {a : Act} {Q : Exit → Act → World → Prop} (hg : o.guard = none) (s x : Operand) (hop : o.op = Op.call { callee := Callee.builtin Builtin.append, args := #[s, x], argTypes := #[t, t] })
    (base : Nat) (v : Value) (n : Nat) (xs : List Value) (hs : a.eval s = v) (hown : w.ownsRow base e size v n xs) (p : Option Addr) (m c : Nat) (news : List Value) (hx : a.eval x = .slice p m c) (hl : news.length = m * size)
    (hsrc : Src w p m c news) (h1 : ∀ u ∈ news, u.oneCell' = true) (hn : n + m ≤ 100000) (hb : base ≤ w.heap.size)
    (hK : ∀ v' w', w'.ownsRow base e size v' (n + m) (xs ++ news) → w.grownBy w' v.ownBlock → (v ≠ .slice none 0 0 → v' ≠ .slice none 0 0) → wpList P ops Q rest (a.put o.dst v') w') :
    wpList P ops Q (o :: rest) a w :=
  wpList_plain hg fun K hK' => by
    obtain ⟨v', w', hr, r1, r2, r3⟩ := run_list hi hzs hsz hby ht o.type w base v n xs hown p m c news hl hsrc h1 hn hb
    unfold Oper.wp execOp
    simp only [hop, resolve, invoke, builtin, Sem.run_bind, Sem.run_pure, Result.andThen_ok, List.map_toArray, List.map_cons, List.map_nil, hs, hx, hr]
    exact hK' _ _ (hK v' w' r1 r2 r3)
/-- the block A holds these things, and may be written -/
def EV (t : TypeId) (w : World) (A : Nat) (L : List Value) : Prop := w.heap[A]? = some (.cells L.toArray t (0, 0))
section
variable {t : TypeId} {w w' : World} {A : Nat} {L : List Value}
theorem EV.lt (h : EV t w A L) : A < w.heap.size := lt_of_block h
theorem EV.cell (h : EV t w A L) {i : Nat} {x : Value} (e : L[i]? = some x) : w.cell? ⟨A, i, none⟩ = some x := by
  simp [World.cell?, show w.heap[A]? = _ from h, e]
theorem EV.free (h : EV t w A L) (i : Nat) : w.frozen? ⟨A, i, none⟩ = false := by
  simp [World.frozen?, show w.heap[A]? = _ from h]
theorem EV.set (h : EV t w A L) (i : Nat) (x : Value) : EV t (w.setCell ⟨A, i, none⟩ x) A (L.set i x) := by
  unfold EV
  rw [heap_setCell_same _ _ _ _ _ _ h]
  simp
theorem EV.all (h : EV t w A L) (o : Obj) : EV t (w.alloc o) A L := by
  unfold EV
  rw [Below.heap_alloc _ _ _ h.lt]
  exact h
theorem EV.keep {N : Nat} (h : EV t w A L) (hb : Below N w w') (hN : A < N) : EV t w' A L := (hb.block A hN).trans h
theorem EV.off {S : List Nat} (h : EV t w A L) (g : Off S w w') (hS : A ∉ S) : EV t w' A L := (g.block A h.lt hS).trans h
theorem EV.grown {o : Option Nat} (h : EV t w A L) (g : w.grownBy w' o) (ho : some A ≠ o) : EV t w' A L := (g.block A h.lt ho).trans h
end
theorem Off.grown {S : List Nat} {w X w' : World} {o : Option Nat} (h : Off S w X) (g : X.grownBy w' o) (ho : ∀ k, o = some k → w.heap.size ≤ k) : Off S w w' :=
  ⟨g.os.trans h.os, g.tape.trans h.tape, g.output.trans h.output, Nat.le_trans h.size g.size, fun k hk hS => (g.block k (Nat.lt_of_lt_of_le hk h.size) (fun e => by have := ho k e.symm; omega)).trans (h.block k hk hS)⟩
theorem row_off {w X : World} {base n : Nat} {e : TypeId} {size : Nat} {v : Value} {xs : List Value} {S : List Nat} (h : w.ownsRow base e size v n xs) (g : Off S w X) (hS : ∀ k ∈ S, k < base) : X.ownsRow base e size v n xs := by
  obtain ⟨h1, h2⟩ := h
  refine ⟨h1, ?_⟩
  rcases h2 with h2 | ⟨q, cap, cur, hv, hb, hg, hr⟩
  · exact .inl h2
  · exact .inr ⟨q, cap, cur, hv, hb, (g.block q (lt_of_block hg) (fun e => by have := hS q e; omega)).trans hg, hr⟩
theorem own_geB {w : World} {base n : Nat} {e : TypeId} {size : Nat} {v : Value} {xs : List Value} (h : w.ownsRow base e size v n xs) : ∀ k, v.ownBlock = some k → base ≤ k := by
  intro k hk
  rcases h.2 with ⟨rfl, _⟩ | ⟨g, cap, cur, rfl, hb, _⟩
  · cases hk
  · simp [Value.ownBlock] at hk; omega
theorem Off.via {S T : List Nat} {w X Y : World} (h : Off S w X) (g : Off T X Y) (hT : ∀ k, k < w.heap.size → k ∈ T → k ∈ S) : Off S w Y :=
  ⟨g.os.trans h.os, g.tape.trans h.tape, g.output.trans h.output, Nat.le_trans h.size g.size, fun k hk hS => (g.block k (Nat.lt_of_lt_of_le hk h.size) (fun e => hS (hT k hk e))).trans (h.block k hk hS)⟩
/-- a box that holds v -/
def Bx (t : TypeId) (X : World) (B : Nat) (v : Value) : Prop := X.heap[B]? = some (.cells #[v] t (0, 0))
section
variable {t : TypeId} {X X' : World} {B : Nat} {v : Value}
theorem Bx.lt (h : Bx t X B v) : B < X.heap.size := lt_of_block h
theorem Bx.cell (h : Bx t X B v) : X.cell? ⟨B, 0, none⟩ = some v := by
  unfold Bx at h
  simp [World.cell?, h]
theorem Bx.free (h : Bx t X B v) : X.frozen? ⟨B, 0, none⟩ = false := by
  unfold Bx at h
  simp [World.frozen?, h]
theorem Bx.off {S : List Nat} (h : Bx t X B v) (o : Off S X X') (hS : B ∉ S) : Bx t X' B v := (o.block B h.lt hS).trans h
theorem Bx.keep (h : Bx t X B v) (o : Below X.heap.size X X') : Bx t X' B v := (o.block B h.lt).trans h
theorem Bx.far (h : Bx t X B v) {a : Addr} (ha : a.block ≠ B) (u : Value) : Bx t (X.setCell a u) B v := (Below.heap_setCell _ _ _ _ (Ne.symm ha)).trans h
theorem Bx.set (h : Bx t X B v) (u : Value) : Bx t (X.setCell ⟨B, 0, none⟩ u) B u := heap_setCell_same _ _ _ _ _ _ h
theorem Bx.new (X : World) (v : Value) (t : TypeId) : Bx t (X.alloc (.cells #[v] t)) X.heap.size v := heap_alloc_new X _
end
theorem Bx.ne {t t' : TypeId} {X : World} {B B' : Nat} {v v' : Value} (h : Bx t X B v) (h' : Bx t' X B' v') (ht : t ≠ t') : B ≠ B' := types_ne h h' ht
theorem Bx.bel {t : TypeId} {X X' : World} {B : Nat} {v : Value} (h : Bx t X B v) (hb : Below X.heap.size X X') : Bx t X' B v := h.keep hb
theorem Bx.all {t : TypeId} {X : World} {B : Nat} {v : Value} (h : Bx t X B v) (o : Obj) : Bx t (X.alloc o) B v := h.off ((Off.refl [] X).all o) (by simp)
theorem NS.fst {w : World} {A o : Nat} {k : IntKind} {xs ys : List Int} (h : NS w (some ⟨A, o, none⟩) k (xs ++ ys)) : NS w (some ⟨A, o, none⟩) k xs := by
  rcases h with h | ⟨b, off, e, h⟩
  · exact .inl (List.append_eq_nil_iff.1 h).1
  · exact .inr ⟨b, off, e, fun j x hx => h j x (by rw [List.getElem?_append_left (List.getElem?_eq_some_iff.1 hx).1]; exact hx)⟩
theorem NS.snd {w : World} {A o o' : Nat} {k : IntKind} {xs ys : List Int} (h : NS w (some ⟨A, o, none⟩) k (xs ++ ys)) (ho : ys ≠ [] → o' = o + xs.length) : NS w (some ⟨A, o', none⟩) k ys := by
  by_cases h0 : ys = []
  · exact .inl h0
  rcases h with h | ⟨b, off, e, h⟩
  · exact .inl (List.append_eq_nil_iff.1 h).2
  · cases e
    rw [ho h0]
    refine .inr ⟨A, _, rfl, fun j x hx => ?_⟩
    have := h (xs.length + j) x (by rw [List.getElem?_append_right (by omega)]; simpa using hx)
    rwa [← Nat.add_assoc] at this
end Go.Proofs.YtldmajifkmcdcaaGreat
