/-
  pool.fits, made, New, Len, Get. No condition but those typed at each theorem.
-/
import Derived.Test.YtjobfpnlpfjoeaaTake
import Derived.LaidEqlPtr
namespace Go.Proofs.Ytjobfpnlpfjoeaa
open Go.RowKit

set_option maxRecDepth 100000 in
set_option maxHeartbeats 2000000 in
theorem fits_any (n : Nd) (w : World) (p : Option Addr) (cap : Nat) (T : List Bool) (hT : YnS w p T) :
    Calls Try.prog 31 #[nv n, .slice p T.length cap] w fun e w' => e = .returned (.bool (fitsB n T)) ∧ Below w.heap.size w w' := by
  have hB1 : ∀ o, Below w.heap.size w (w.alloc o) := fun o => (Below.refl _ w).alloc (Nat.le_refl _) o
  have HB1 := Lib.hid hB1
  have HC := Lib.hid (fun o => hasOwn_any n (w.alloc o) p cap T (hT.keep (hB1 o)))
  obtain ⟨out, hout⟩ : ∃ out, out = fitsB n T := ⟨_, rfl⟩
  have HOUT := Lib.hid hout
  rw [← hout]
  clear hout hT hB1
  obtain ⟨k, L, R, f, t, a, q⟩ := n
  unfold nv at *
  obtain ⟨m, hm⟩ : ∃ m, m = T.length := ⟨_, rfl⟩
  rw [← hm] at HC
  rw [← hm]
  clear hm
  by_cases h1 : k = 1
  · subst h1
    by_cases h2 : L = -1
    · by_cases h3 : R = -1
      · go_enter Try.func31, Try.ntmps31
        go_wp2
        go_ret
        exact ⟨retb (by rw [HOUT.out]; simp [fitsB, nk, nl, nr, h2, h3]), HB1.out _⟩
      · go_enter Try.func31, Try.ntmps31
        go_wp2
        go_ret
        exact ⟨retb (by rw [HOUT.out]; simp [fitsB, nk, nl, nr, h2, h3]), HB1.out _⟩
    · go_enter Try.func31, Try.ntmps31
      go_wp2
      go_ret
      exact ⟨retb (by rw [HOUT.out]; simp [fitsB, nk, nl, nr, h2]), HB1.out _⟩
  · by_cases h2 : k = 2
    · subst h2
      go_enter Try.func31, Try.ntmps31
      go_wp2_with (go_at_call 38; (with_reducible refine (HC.out _).mono ?_); rintro e w1 ⟨rfl, hb⟩)
      go_ret
      exact ⟨retb (by rw [HOUT.out]; simp [fitsB, nk, nl, nr]), (HB1.out _).trans (hb.mono (by simp))⟩
    · go_enter Try.func31, Try.ntmps31
      go_wp2
      go_ret
      exact ⟨retb (by rw [HOUT.out]; simp [fitsB, nk, nl, nr, h1, h2]), HB1.out _⟩

/-- a pool: where it lies, its two rows, its room, its nodes -/
structure PO (w : World) (P : Nat) (v1 v2 : Value) (most : Int) (N : List Nd) : Prop where
  box : w.heap[P]? = some (.cells #[.pointer (some ⟨P, 0, none⟩), .int .i64 most, v1, v2] 57 (0, 0))
  ns : w.ownsRow 0 36 7 v1 N.length (flatN N)
  ts : w.ownsRow 0 4 1 v2 N.length ((tk N).map Value.bool)
  rt : Rt N
/-- its blocks -/
def pbl (P : Nat) (v1 v2 : Value) : List Nat := P :: (v1.ownBlock.toList ++ v2.ownBlock.toList)
section
variable {w w' : World} {P : Nat} {v1 v2 : Value} {most : Int} {N : List Nd}
theorem mem_pbl {k : Nat} : k ∈ pbl P v1 v2 ↔ k = P ∨ v1.ownBlock = some k ∨ v2.ownBlock = some k := by
  simp [pbl, Option.mem_toList]
theorem PO.lt (h : PO w P v1 v2 most N) : ∀ k ∈ pbl P v1 v2, k < w.heap.size := by
  intro k hk
  rw [mem_pbl] at hk
  rcases hk with rfl | hk | hk
  · exact lt_of_block h.box
  · exact (h.ns.lt k hk).2
  · exact (h.ts.lt k hk).2
theorem PO.block (h : PO w P v1 v2 most N) (hb : ∀ k ∈ pbl P v1 v2, w'.heap[k]? = w.heap[k]?) : PO w' P v1 v2 most N :=
  ⟨(hb P (mem_pbl.2 (.inl rfl))).trans h.box, row_at h.ns (fun k e => ⟨hb k (mem_pbl.2 (.inr (.inl e))), Nat.zero_le _⟩), row_at h.ts (fun k e => ⟨hb k (mem_pbl.2 (.inr (.inr e))), Nat.zero_le _⟩), h.rt⟩
theorem PO.keep (h : PO w P v1 v2 most N) (hb : Below w.heap.size w w') : PO w' P v1 v2 most N := h.block (fun k hk => hb.block k (h.lt k hk))
theorem PO.off {S : List Nat} (h : PO w P v1 v2 most N) (hb : Off S w w') (hS : ∀ k ∈ pbl P v1 v2, k ∉ S) : PO w' P v1 v2 most N := h.block (fun k hk => hb.block k (h.lt k hk) (hS k hk))
theorem PO.c0 (h : PO w P v1 v2 most N) : w.cell? ⟨P, 0, none⟩ = some (.pointer (some ⟨P, 0, none⟩)) := by simp [World.cell?, h.box]
theorem PO.c1 (h : PO w P v1 v2 most N) : w.cell? ⟨P, 1, none⟩ = some (.int .i64 most) := by simp [World.cell?, h.box]
theorem PO.c2 (h : PO w P v1 v2 most N) : w.cell? ⟨P, 2, none⟩ = some v1 := by simp [World.cell?, h.box]
theorem PO.c3 (h : PO w P v1 v2 most N) : w.cell? ⟨P, 3, none⟩ = some v2 := by simp [World.cell?, h.box]
theorem PO.fr (h : PO w P v1 v2 most N) (i : Nat) : w.frozen? ⟨P, i, none⟩ = false := by simp [World.frozen?, h.box]
theorem row_yn {base n : Nat} {v : Value} {T : List Bool} (h : w.ownsRow base 4 1 v n (T.map Value.bool)) : T.length = n ∧ ∃ p c, v = .slice p n c ∧ YnS w p T := by
  obtain ⟨h1, h2⟩ := h
  have hn : T.length = n := by rw [List.length_map] at h1; omega
  refine ⟨hn, ?_⟩
  rcases h2 with ⟨rfl, h2⟩ | ⟨g, cap, cur, rfl, hb, hg, hnc, hcm, hcs, htk⟩
  · subst h2
    exact ⟨none, 0, rfl, .inl (List.length_eq_zero_iff.1 hn)⟩
  · exact ⟨some ⟨g, 0, none⟩, cap, rfl, .inr ⟨g, 0, rfl, fun j x e => by
      have := row_cells (w := w) (base := base) (n := n) (e := 4) (g := g) (c := cap) (j := j) (xs := T.map Value.bool) ⟨h1, .inr ⟨g, cap, cur, rfl, hb, hg, hnc, hcm, hcs, htk⟩⟩ (u := .bool x) (by rw [List.getElem?_map, e]; rfl)
      rw [Nat.zero_add]
      exact this.1⟩⟩
end

theorem Try.eqSame (a : Addr) (w : World) : (binOp .eql 38 (.pointer (some a)) (.pointer (some a))).run Try.prog w = .ok (.bool true) w := by
  obtain ⟨j, hj⟩ := Option.isSome_iff_exists.1 (show (Try.prog.info? 57).isSome = true by kernel_rfl)
  exact run_eql_ptr_same w a Try.underlying38 hj
theorem Try.eqNone (a : Addr) (w : World) : (binOp .eql 38 (.pointer none) (.pointer (some a))).run Try.prog w = .ok (.bool false) w := by
  have h : ∀ d : Nat, (Op.equalIn (d + 1) 38 (.pointer none) (.pointer (some a))).run Try.prog w = .ok false w := fun d => by
    simp [Op.equalIn, run_underlying Try.underlying38]
  simp only [binOp]
  simp [Op.equal, Op.maxDepth, h 9999]
set_option maxRecDepth 100000 in
theorem made_yes (w : World) (P : Nat) (v1 v2 : Value) (most : Int) (N : List Nd) (h : PO w P v1 v2 most N) :
    Calls Try.prog 33 #[.pointer (some ⟨P, 0, none⟩)] w fun e w' => e = .returned (.bool true) ∧ w' = w := by
  have c0 := h.c0
  have q := Try.eqSame
  clear h
  go_enter Try.func33, Try.ntmps33
  go_wp2
  go_ret
  exact ⟨rfl, rfl⟩
set_option maxRecDepth 100000 in
theorem made_nil (w : World) :
    Calls Try.prog 33 #[.pointer none] w fun e w' => e = .returned (.bool false) ∧ w' = w := by
  go_enter Try.func33, Try.ntmps33
  go_wp2
  go_ret
  exact ⟨rfl, rfl⟩
set_option maxRecDepth 100000 in
theorem made_not (w : World) (P : Nat) (h : w.cell? ⟨P, 0, none⟩ = some (.pointer none)) :
    Calls Try.prog 33 #[.pointer (some ⟨P, 0, none⟩)] w fun e w' => e = .returned (.bool false) ∧ w' = w := by
  have q := Try.eqNone
  go_enter Try.func33, Try.ntmps33
  go_wp2
  go_ret
  exact ⟨rfl, rfl⟩

set_option maxRecDepth 100000 in
theorem New_any (w : World) (most : Int) (h : 0 ≤ most ∧ most ≤ 68719476736) :
    Calls Try.prog 17 #[.int .i64 most] w fun e w' => e = .returned (.tuple #[.pointer (some ⟨w.heap.size, 0, none⟩), .int .i64 0]) ∧ PO w' w.heap.size (.slice none 0 0) (.slice none 0 0) most [] ∧ Below w.heap.size w w' := by
  have h1 : ¬ most < 0 := by omega
  have h2 : ¬ 68719476736 < most := by omega
  go_enter Try.func17, Try.ntmps17
  go_wp2
  go_ret2
  exact ⟨rfl, ⟨heap_alloc_new w _, World.ownsRow_nil _ _ _ _, World.ownsRow_nil _ _ _ _, Rt.nil⟩, (Below.refl _ w).alloc (Nat.le_refl _) _⟩
set_option maxRecDepth 100000 in
theorem New_not (w : World) (most : Int) (h : ¬ (0 ≤ most ∧ most ≤ 68719476736)) :
    Calls Try.prog 17 #[.int .i64 most] w fun e w' => e = .returned (.tuple #[.pointer none, .int .i64 2]) ∧ w' = w := by
  by_cases h1 : most < 0
  · go_enter Try.func17, Try.ntmps17
    go_wp2
    go_ret2
    exact ⟨rfl, rfl⟩
  · have h2 : 68719476736 < most := by omega
    go_enter Try.func17, Try.ntmps17
    go_wp2
    go_ret2
    exact ⟨rfl, rfl⟩
end Go.Proofs.Ytjobfpnlpfjoeaa
