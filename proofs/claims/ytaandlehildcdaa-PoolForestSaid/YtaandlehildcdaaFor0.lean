/-
  A search below each root: its list of open places in memory, and the state of its loops. No condition but those typed at each theorem.
-/
import Derived.Test.YtaandlehildcdaaForMath
import Derived.Test.YtaandlehildcdaaApart
import Derived.Deep.LoopGhost
namespace Go.Proofs.Ytaandlehildcdaa
open Go.ChangeShapes Go.WideShapes Go.ChangeAt Go.RowKit Go.Joins

/-- the pool holds what could be put of the first so many -/
def O5 (w X : World) (P k : Nat) : Prop := ∃ N, PK w X P 500 N ∧ N.length ≤ k
theorem kids_le {N : List Nd} (hR : Rt N) (k : Nat) : kidsN (N.take k) ≤ N.length := by
  have := roots_len (hR.take k)
  rw [List.length_take] at this
  omega
theorem kids_succ {N : List Nd} {k : Nat} {n : Nd} (e : N[k]? = some n) : kidsN (N.take (k + 1)) = kidsN (N.take k) + (ksL n).length := by
  rw [List.take_add_one, e]
  exact kidsN_snoc _ _
/-- places as numbers -/
def zs (O : List Nat) : List Int := O.map (fun (o : Nat) => (o : Int))
theorem zs_len (O : List Nat) : (zs O).length = O.length := by simp [zs]
theorem zs_snoc (O : List Nat) (k : Nat) : zs (O ++ [k]) = zs O ++ [(k : Int)] := by simp [zs]
theorem zs_nat (xs : List Int) (h : ∀ x ∈ xs, 0 ≤ x) : zs (xs.map Int.toNat) = xs := by
  unfold zs
  rw [List.map_map]
  conv => rhs; rw [← List.map_id xs]
  refine List.map_congr_left (fun x hx => ?_)
  have := h x hx
  show ((x.toNat : Nat) : Int) = x
  omega
theorem zs_get {O : List Nat} {j r : Nat} (e : O[j]? = some r) : (zs O)[j]? = some (r : Int) := by simp [zs, e]
theorem rootsI_zs (N : List Nd) : rootsI N = zs (rootsL N) := rfl
/-- the places open, in a row of the law's own -/
def OR (w : World) (v : Value) (xs : List Int) : Prop := w.ownsRow 0 3 1 v xs.length (xs.map (Value.int .i64))
theorem OR.shape {w : World} {v : Value} {xs : List Int} (h : OR w v xs) : ∃ p c, v = .slice p xs.length c := by
  obtain ⟨p, c, e, _⟩ := row_ints h
  exact ⟨p, c, e⟩
theorem OR.last {w : World} {v : Value} {xs : List Int} {x : Int} (h : OR w v (xs ++ [x])) : ∃ g c, v = .slice (some ⟨g, 0, none⟩) (xs.length + 1) c ∧ w.cell? ⟨g, xs.length, none⟩ = some (.int .i64 x) ∧ xs.length + 1 ≤ c := by
  have h' : w.ownsRow 0 3 1 v (xs.length + 1) ((xs ++ [x]).map (Value.int .i64)) := by
    have := h
    unfold OR at this
    rw [show (xs ++ [x]).length = xs.length + 1 by simp] at this
    exact this
  obtain ⟨g, cap, rfl, -, hc⟩ := row_cell h' (j := xs.length) (u := .int .i64 x) (by simp)
  refine ⟨g, cap, rfl, hc, ?_⟩
  obtain ⟨-, h2⟩ := h'
  rcases h2 with ⟨h2, _⟩ | ⟨g', cap', cur, hv, hb, hg, hnc, hcm, hcs, htk⟩
  · cases h2
  · cases hv; exact hnc
theorem OR.pop {w : World} {g c : Nat} {xs : List Int} {x : Int} (h : OR w (.slice (some ⟨g, 0, none⟩) (xs.length + 1) c) (xs ++ [x])) : OR w (.slice (some ⟨g, 0, none⟩) xs.length c) xs := by
  have h' : w.ownsRow 0 3 1 (.slice (some ⟨g, 0, none⟩) (xs.length + 1) c) (xs.length + 1) ((xs ++ [x]).map (Value.int .i64)) := by
    have := h
    unfold OR at this
    rw [show (xs ++ [x]).length = xs.length + 1 by simp] at this
    exact this
  obtain ⟨h1, h2⟩ := h'
  rcases h2 with ⟨h2, _⟩ | ⟨g', cap, cur, hv, hb, hg, hnc, hcm, hcs, htk⟩
  · cases h2
  · cases hv
    refine ⟨by simp, .inr ⟨g, c, cur, rfl, hb, hg, by omega, hcm, hcs, ?_⟩⟩
    have h3 := congrArg (List.take xs.length) htk
    rw [List.take_take, List.map_append, List.take_left' (by simp)] at h3
    rw [Nat.mul_one, ← h3]
    congr 1
    simp
theorem OR.snoc {w : World} {v : Value} {xs : List Int} {x : Int} (h : w.ownsRow 0 3 1 v (xs.length + 1) (xs.map (Value.int .i64) ++ [.int .i64 x])) : OR w v (xs ++ [x]) := by
  unfold OR
  rw [show (xs ++ [x]).length = xs.length + 1 by simp, List.map_append]
  exact h
theorem zs_app (O P : List Nat) : zs (O ++ P) = zs O ++ zs P := by simp [zs]
theorem rise_get {l : List Nat} (h : l.Pairwise (· < ·)) {j a b : Nat} (e1 : l[j]? = some a) (e2 : l[j + 1]? = some b) : a < b := by
  obtain ⟨h1, rfl⟩ := List.getElem?_eq_some_iff.1 e1
  obtain ⟨h2, rfl⟩ := List.getElem?_eq_some_iff.1 e2
  exact List.pairwise_iff_getElem.1 h j (j + 1) h1 h2 (by omega)
theorem OR.one (w : World) (x : Int) : OR (w.alloc (.cells #[.int .i64 x] 3)) (.slice (some ⟨w.heap.size, 0, none⟩) 1 1) [x] :=
  ⟨rfl, .inr ⟨w.heap.size, 1, _, rfl, Nat.zero_le _, heap_alloc_new w _, Nat.le_refl _, by decide, rfl, rfl⟩⟩
theorem OR.keep {w w' : World} {v : Value} {xs : List Int} (h : OR w v xs) (hb : ∀ k, v.ownBlock = some k → w'.heap[k]? = w.heap[k]?) : OR w' v xs := row_at h fun k hk => ⟨hb k hk, Nat.zero_le _⟩
theorem OR.lt {w : World} {v : Value} {xs : List Int} (h : OR w v xs) : ∀ k, v.ownBlock = some k → k < w.heap.size := fun k hk => (World.ownsRow.lt h k hk).2
theorem OR.bel {w w' : World} {v : Value} {xs : List Int} (h : OR w v xs) (hb : Below w.heap.size w w') : OR w' v xs := h.keep fun k hk => hb.block k (h.lt k hk)
theorem OR.off {w w' : World} {S : List Nat} {v : Value} {xs : List Int} (h : OR w v xs) (g : Off S w w') (hS : ∀ k, v.ownBlock = some k → k ∉ S) : OR w' v xs := h.keep fun k hk => g.block k (h.lt k hk) (hS k hk)
theorem EB.grown {k : IntKind} {t : TypeId} {w w' : World} {A : Nat} {L : List Int} {o : Option Nat} (h : EB k t w A L) (g : w.grownBy w' o) (ho : some A ≠ o) : EB k t w' A L := (g.block A h.lt ho).trans h
theorem NS.grown {k : IntKind} {w w' : World} {p : Option Addr} {xs : List Int} {o : Option Nat} (h : NS w p k xs) (g : w.grownBy w' o) (ho : ∀ b off, p = some ⟨b, off, none⟩ → xs ≠ [] → some b ≠ o) : NS w' p k xs := by
  by_cases h0 : xs = []
  · exact .inl h0
  rcases h with h | ⟨b, off, rfl, h⟩
  · exact .inl h
  · refine .inr ⟨b, off, rfl, fun j x e => ?_⟩
    have hc := h j x e
    exact (World.cell?_of_block (g.block b (World.block_lt_of_cell? w _ hc) (ho b off rfl h0))).trans hc
theorem NS.ltF {w : World} {k : IntKind} {xs : List Int} {b off : Nat} (h : NS w (some ⟨b, off, none⟩) k xs) (h0 : xs ≠ []) : b < w.heap.size := by
  rcases h with h | ⟨b2, off2, e, h⟩
  · exact absurd h h0
  · cases e
    cases xs with
    | nil => exact absurd rfl h0
    | cons x xs => exact World.block_lt_of_cell? w _ (h 0 x rfl)
theorem NS.offF {w w' : World} {p : Option Addr} {k : IntKind} {xs : List Int} {S : List Nat} (h : NS w p k xs) (g : Off S w w') (hS : ∀ b off, p = some ⟨b, off, none⟩ → xs ≠ [] → b ∉ S) : NS w' p k xs := by
  by_cases h0 : xs = []
  · exact .inl h0
  rcases h with h | ⟨b, off, rfl, h⟩
  · exact .inl h
  · exact .inr ⟨b, off, rfl, fun j x e => g.cell (h j x e) (hS b off rfl h0)⟩
theorem FS.olen {N : List Nd} {j : Nat} {V O : List Nat} (h : FS N j V O) (hR : Rt N) : V.length + O.length ≤ N.length := by
  obtain ⟨R, hv⟩ := vis_part N (j + 1)
  have h1 := (forest hR).length_eq
  rw [hv, List.length_append, List.length_range] at h1
  have h2 := h.perm.length_eq
  rw [List.length_append] at h2
  have h3 : ∀ O : List Nat, (∀ o ∈ O, o < N.length) → O.length ≤ (O.flatMap (below N)).length := by
    intro O
    induction O with
    | nil => intro _; exact Nat.zero_le _
    | cons o O ih =>
      intro ho
      have h4 := ih fun x hx => ho x (List.mem_cons_of_mem _ hx)
      have h5 := below_kids hR (List.getElem?_eq_getElem (ho o List.mem_cons_self))
      rw [List.flatMap_cons, List.length_append, h5]
      simp only [List.length_cons]
      omega
  have := h3 O h.inn
  omega
/-- the state of the search: how often each has been met; the rest of memory as it was -/
def SW (wq X : World) (gb : Nat) (L : List Int) : Prop := EB .i64 3 X gb L ∧ Off [gb] wq X
theorem SW.keep {wq X w' : World} {gb : Nat} {L : List Int} (h : SW wq X gb L) (hb : Below X.heap.size X w') : SW wq w' gb L := ⟨h.1.keep hb h.1.lt, h.2.bel hb⟩
theorem SW.all {wq X : World} {gb : Nat} {L : List Int} (h : SW wq X gb L) (o : Obj) : SW wq (X.alloc o) gb L := ⟨h.1.all o, h.2.all o⟩
theorem SW.set {wq X : World} {gb : Nat} {L : List Int} (h : SW wq X gb L) (i : Nat) (x : Int) : SW wq (X.setCell ⟨gb, i, none⟩ (.int .i64 x)) gb (L.set i x) := ⟨h.1.set i x, h.2.set _ _ (.inl (by simp))⟩
theorem SW.grown {wq X w' : World} {gb : Nat} {L : List Int} {o : Option Nat} (h : SW wq X gb L) (hg : gb < wq.heap.size) (g : X.grownBy w' o) (ho : ∀ k, o = some k → wq.heap.size ≤ k) : SW wq w' gb L :=
  ⟨h.1.grown g (fun e => by have := ho gb e.symm; omega), h.2.grown g ho⟩
theorem SW.eq {wq X : World} {gb : Nat} {L M : List Int} (h : SW wq X gb L) (e : L = M) : SW wq X gb M := e ▸ h
end Go.Proofs.Ytaandlehildcdaa
