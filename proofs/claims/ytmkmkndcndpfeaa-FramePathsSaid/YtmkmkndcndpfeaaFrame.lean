/-
  A frame in memory: New, Leaves, Root, and its nodes, made once. No condition but those typed at each theorem.
-/
import Derived.Test.YtmkmkndcndpfeaaFput
import Derived.Test.YtmkmkndcndpfeaaOnce
namespace Go.Proofs.Ytmkmkndcndpfeaa
open Go.RowKit

/-- a frame's cells -/
def FR (w : World) (B n : Nat) (d : Int) (pp : Value) : Prop := w.heap[B]? = some (.cells #[.pointer (some ⟨B, 0, none⟩), .int .u32 d, .int .i32 0, .int .u32 0, .int .i64 n, pp] 76 (0, 0))
section
variable {w w' : World} {B n : Nat} {d : Int} {pp : Value}
theorem FR.lt (h : FR w B n d pp) : B < w.heap.size := lt_of_block h
theorem FR.c0 (h : FR w B n d pp) : w.cell? ⟨B, 0, none⟩ = some (.pointer (some ⟨B, 0, none⟩)) := by simp [World.cell?, show w.heap[B]? = _ from h]
theorem FR.c1 (h : FR w B n d pp) : w.cell? ⟨B, 1, none⟩ = some (.int .u32 d) := by simp [World.cell?, show w.heap[B]? = _ from h]
theorem FR.c2 (h : FR w B n d pp) : w.cell? ⟨B, 2, none⟩ = some (.int .i32 0) := by simp [World.cell?, show w.heap[B]? = _ from h]
theorem FR.c4 (h : FR w B n d pp) : w.cell? ⟨B, 4, none⟩ = some (.int .i64 n) := by simp [World.cell?, show w.heap[B]? = _ from h]
theorem FR.c5 (h : FR w B n d pp) : w.cell? ⟨B, 5, none⟩ = some pp := by simp [World.cell?, show w.heap[B]? = _ from h]
theorem FR.fr (h : FR w B n d pp) (i : Nat) : w.frozen? ⟨B, i, none⟩ = false := by simp [World.frozen?, show w.heap[B]? = _ from h]
theorem FR.block (h : FR w B n d pp) (hb : w'.heap[B]? = w.heap[B]?) : FR w' B n d pp := hb.trans h
theorem FR.keep (h : FR w B n d pp) (hb : Below w.heap.size w w') : FR w' B n d pp := h.block (hb.block B h.lt)
end
/-- all nodes of a frame of n leaves -/
def ndN (n : Nat) : List Nd := if n = 0 then [] else nds 0 0 (tr n)
theorem ndN_len (n : Nat) : (ndN n).length = 2 * n - 1 := by
  unfold ndN
  split
  · subst_vars; rfl
  · rw [nds_len, sz, lv_tr (by omega)]
theorem ndN_rt (n : Nat) : Rt (ndN n) := by
  unfold ndN
  split
  · exact Rt.nil
  · exact rt_nds 0 _
/-- a frame: its cells, and its nodes if they were asked for; and its blocks -/
def FS (w : World) (B n : Nat) (bl : List Nat) : Prop :=
  (FR w B n 0 (.pointer none) ∧ bl = [B]) ∨ (n = 0 ∧ FR w B n 1 (.pointer none) ∧ bl = [B]) ∨
    ∃ P v1 v2, FR w B n 1 (.pointer (some ⟨P, 0, none⟩)) ∧ 1 ≤ n ∧ PO w P v1 v2 ((2 * n - 1 : Nat) : Int) (nds 0 0 (tr n)) ∧ bl = B :: pbl P v1 v2
theorem FS.fr {w : World} {B n : Nat} {bl : List Nat} (h : FS w B n bl) : ∃ d pp, FR w B n d pp := by
  rcases h with ⟨h, _⟩ | ⟨_, h, _⟩ | ⟨P, v1, v2, h, _⟩
  · exact ⟨_, _, h⟩
  · exact ⟨_, _, h⟩
  · exact ⟨_, _, h⟩
theorem FS.block {w w' : World} {B n : Nat} {bl : List Nat} (h : FS w B n bl) (hb : ∀ k ∈ bl, w'.heap[k]? = w.heap[k]?) : FS w' B n bl := by
  rcases h with ⟨h, rfl⟩ | ⟨h0, h, rfl⟩ | ⟨P, v1, v2, h, h1, hP, rfl⟩
  · exact .inl ⟨h.block (hb B (by simp)), rfl⟩
  · exact .inr (.inl ⟨h0, h.block (hb B (by simp)), rfl⟩)
  · exact .inr (.inr ⟨P, v1, v2, h.block (hb B (by simp)), h1, hP.block (fun k hk => hb k (List.mem_cons_of_mem _ hk)), rfl⟩)
theorem FS.lt {w : World} {B n : Nat} {bl : List Nat} (h : FS w B n bl) : ∀ k ∈ bl, k < w.heap.size := by
  intro k hk
  rcases h with ⟨h, rfl⟩ | ⟨h0, h, rfl⟩ | ⟨P, v1, v2, h, h1, hP, rfl⟩
  · simp at hk; subst hk; exact h.lt
  · simp at hk; subst hk; exact h.lt
  · rcases List.mem_cons.1 hk with rfl | hk
    · exact h.lt
    · exact hP.lt k hk
theorem FS.keep {w w' : World} {B n : Nat} {bl : List Nat} (h : FS w B n bl) (hb : Below w.heap.size w w') : FS w' B n bl := h.block (fun k hk => hb.block k (h.lt k hk))
theorem FS.off {w w' : World} {B n : Nat} {bl S : List Nat} (h : FS w B n bl) (hb : Off S w w') (hS : ∀ k ∈ bl, k ∉ S) : FS w' B n bl := h.block (fun k hk => hb.block k (h.lt k hk) (hS k hk))

theorem Try.eqSameF (a : Addr) (w : World) : (binOp .eql 23 (.pointer (some a)) (.pointer (some a))).run Try.prog w = .ok (.bool true) w := by
  obtain ⟨j, hj⟩ := Option.isSome_iff_exists.1 (show (Try.prog.info? 76).isSome = true by kernel_rfl)
  exact run_eql_ptr_same w a Try.underlying23 hj
set_option maxRecDepth 100000 in
theorem fmade_yes (w : World) (B n : Nat) (d : Int) (pp : Value) (h : FR w B n d pp) :
    Calls Try.prog 30 #[.pointer (some ⟨B, 0, none⟩)] w fun e w' => e = .returned (.bool true) ∧ w' = w := by
  have c0 := h.c0
  have q := Try.eqSameF
  clear h
  go_enter Try.func30, Try.ntmps30
  go_wp2
  go_ret
  exact ⟨rfl, rfl⟩
set_option maxRecDepth 100000 in
theorem Leaves_any (w : World) (B n : Nat) (d : Int) (pp : Value) (h : FR w B n d pp) :
    Calls Try.prog 17 #[.pointer (some ⟨B, 0, none⟩)] w fun e w' => e = .returned (.int .i64 n) ∧ w' = w := by
  have HM := Lib.hid (fmade_yes w B n d pp h)
  have c4 := h.c4
  clear h
  go_enter Try.func17, Try.ntmps17
  go_wp2_with (go_at_call 30; (with_reducible refine HM.out.mono ?_); rintro e w1 ⟨rfl, rfl⟩)
  go_ret
  exact ⟨rfl, rfl⟩
set_option maxRecDepth 100000 in
theorem whole_any (w : World) (B n : Nat) (d : Int) (pp : Value) (h : FR w B n d pp) :
    Calls Try.prog 31 #[.pointer (some ⟨B, 1, none⟩)] w fun e w' => e = .returned (.agg #[.int .i64 0, .int .i64 0, .int .i64 n]) ∧ Below w.heap.size w w' := by
  have c4 := fun o => (h.keep ((Below.refl _ w).alloc (Nat.le_refl _) o)).c4
  clear h
  go_enter Try.func31, Try.ntmps31
  go_wp2
  refine bodyPost_ret (v := .agg #[.int .i64 0, .int .i64 0, .int .i64 n]) ?_ rfl ⟨rfl, (Below.refl _ w).alloc (Nat.le_refl _) _⟩
  simp [results, Try.f31, go_sem]
set_option maxRecDepth 100000 in
theorem FNew_any (w : World) (n : Nat) (h : n ≤ 17179869184) :
    Calls Try.prog 10 #[.int .i64 n] w fun e w' => e = .returned (.tuple #[.pointer (some ⟨w.heap.size, 0, none⟩), .int .i64 0]) ∧ FR w' w.heap.size n 0 (.pointer none) ∧ Below w.heap.size w w' := by
  have h1 : ¬ (n : Int) < 0 := by omega
  have h2 : ¬ 17179869184 < (n : Int) := by omega
  go_enter Try.func10, Try.ntmps10
  go_wp2
  go_ret2
  exact ⟨rfl, heap_alloc_new w _, (Below.refl _ w).alloc (Nat.le_refl _) _⟩
set_option maxRecDepth 100000 in
theorem FNew_not (w : World) (n : Int) (h : ¬ (0 ≤ n ∧ n ≤ 17179869184)) :
    Calls Try.prog 10 #[.int .i64 n] w fun e w' => e = .returned (.tuple #[.pointer none, .int .i64 2]) ∧ w' = w := by
  by_cases h1 : n < 0
  · go_enter Try.func10, Try.ntmps10
    go_wp2
    go_ret2
    exact ⟨rfl, rfl⟩
  · have h2 : 17179869184 < n := by omega
    go_enter Try.func10, Try.ntmps10
    go_wp2
    go_ret2
    exact ⟨rfl, rfl⟩
set_option maxRecDepth 100000 in
theorem Root_any (w : World) (B n r : Nat) (d : Int) (pp : Value) (h : FR w B n d pp) (hn : 1 ≤ n) (hr : r + 2 = 2 * n) (hm : n ≤ 8000) :
    Calls Try.prog 18 #[.pointer (some ⟨B, 0, none⟩)] w fun e w' => e = .returned (.int .i64 r) ∧ Below w.heap.size w w' := by
  have HM := Lib.hid (Leaves_any w B n d pp h)
  have HW := Lib.hid (whole_any w B n d pp h)
  have HR : Hid (∀ X, Calls Try.prog 37 #[.agg #[.int .i64 0, .int .i64 0, .int .i64 n]] X fun e w' => e = .returned (.int .i64 r) ∧ Below X.heap.size X w') := Lib.hid (fun X => by have := root_any 0 0 n r X hn (by omega) (by omega); rwa [Nat.zero_add] at this)
  have hz : ((n : Int) == 0) = false := by simp; omega
  clear h hr hn
  go_enter Try.func18, Try.ntmps18
  go_wp2_with (first
    | (go_at_call 17; (with_reducible refine HM.out.mono ?_); rintro e w1 ⟨rfl, rfl⟩)
    | (go_at_call 31; (with_reducible refine HW.out.mono ?_); rintro e w1 ⟨rfl, hb⟩; have HB1 := Lib.hid hb; clear hb)
    | (go_at_call 37; (with_reducible refine (HR.out _).mono ?_); rintro e w2 ⟨rfl, hb⟩; have HB := Lib.hid (HB1.out.trans (hb.mono HB1.out.size)); clear hb))
  go_ret
  exact ⟨rfl, HB.out⟩
set_option maxRecDepth 100000 in
theorem Root_none (w : World) (B : Nat) (d : Int) (pp : Value) (h : FR w B 0 d pp) :
    Calls Try.prog 18 #[.pointer (some ⟨B, 0, none⟩)] w fun e w' => e = .returned (.int .i64 (-1)) ∧ w' = w := by
  have HM := Lib.hid (Leaves_any w B 0 d pp h)
  have hz : (((0 : Nat) : Int) == 0) = true := rfl
  clear h
  go_enter Try.func18, Try.ntmps18
  go_wp2_with (go_at_call 17; (with_reducible refine HM.out.mono ?_); rintro e w1 ⟨rfl, rfl⟩)
  go_ret
  exact ⟨rfl, rfl⟩
end Go.Proofs.Ytmkmkndcndpfeaa
