/-
  What the four orders of item, and those of the document, tell, call by call, for every argument of their types; no condition.
-/
import Derived.Test.YtpbghgmaikmneaaLeaf
import Derived.WalkKit
import Derived.WalkSpells
import Derived.WalkLawsBesides
import Derived.Lib.Hide
import Derived.Deep.RegionHeld3
namespace Go.Proofs.Ytpbghgmaikmneaa
open Go.RowKit
def cmpD (a b : Int) : Int := if a < b then -1 else if b < a then 1 else 0
set_option maxRecDepth 100000 in
set_option maxHeartbeats 400000 in
theorem cmp_any (a b : Int) (w : World) :
    Calls Try.prog 34 #[.int .i64 a, .int .i64 b] w fun e w' => e = .returned (.int .i64 (cmpD a b)) ∧ w' = w := by
  by_cases h1 : a < b
  · go_enter Try.func34, Try.ntmps34
    go_wp2
    go_ret
    exact ⟨by simp [cmpD] <;> omega, rfl⟩
  · by_cases h2 : b < a
    · go_enter Try.func34, Try.ntmps34
      go_wp2
      go_ret
      exact ⟨by simp [cmpD] <;> omega, rfl⟩
    · go_enter Try.func34, Try.ntmps34
      go_wp2
      go_ret
      exact ⟨by simp [cmpD] <;> omega, rfl⟩
set_option maxRecDepth 100000 in
set_option maxHeartbeats 400000 in
theorem cmpu_any (a b : Int) (w : World) :
    Calls Try.prog 35 #[.int .u32 a, .int .u32 b] w fun e w' => e = .returned (.int .i64 (cmpD a b)) ∧ w' = w := by
  by_cases h1 : a < b
  · go_enter Try.func35, Try.ntmps35
    go_wp2
    go_ret
    exact ⟨by simp [cmpD] <;> omega, rfl⟩
  · by_cases h2 : b < a
    · go_enter Try.func35, Try.ntmps35
      go_wp2
      go_ret
      exact ⟨by simp [cmpD] <;> omega, rfl⟩
    · go_enter Try.func35, Try.ntmps35
      go_wp2
      go_ret
      exact ⟨by simp [cmpD] <;> omega, rfl⟩

theorem allc {w : World} {o : Obj} {p : Addr} {v : Value} (h : w.cell? p = some v) : (w.alloc o).cell? p = some v :=
  (World.cell?_alloc_lt _ _ _ (World.block_lt_of_cell? w _ h)).trans h
theorem two_cells (w : World) (a b c d e f : Value) (t : TypeId) :
    ((w.alloc (.cells #[a, b, c] t)).alloc (.cells #[d, e, f] t)).cell? ⟨w.heap.size, 0, none⟩ = some a ∧
    ((w.alloc (.cells #[a, b, c] t)).alloc (.cells #[d, e, f] t)).cell? ⟨w.heap.size, 1, none⟩ = some b ∧
    ((w.alloc (.cells #[a, b, c] t)).alloc (.cells #[d, e, f] t)).cell? ⟨w.heap.size, 2, none⟩ = some c ∧
    ((w.alloc (.cells #[a, b, c] t)).alloc (.cells #[d, e, f] t)).cell? ⟨w.heap.size + 1, 0, none⟩ = some d ∧
    ((w.alloc (.cells #[a, b, c] t)).alloc (.cells #[d, e, f] t)).cell? ⟨w.heap.size + 1, 1, none⟩ = some e ∧
    ((w.alloc (.cells #[a, b, c] t)).alloc (.cells #[d, e, f] t)).cell? ⟨w.heap.size + 1, 2, none⟩ = some f := by
  have hs : (w.alloc (.cells #[a, b, c] t)).heap.size = w.heap.size + 1 := by simp
  refine ⟨?_, ?_, ?_, ?_, ?_, ?_⟩
  · rw [World.cell?_alloc_lt _ _ _ (by simp)]; simp
  · rw [World.cell?_alloc_lt _ _ _ (by simp)]; simp
  · rw [World.cell?_alloc_lt _ _ _ (by simp)]; simp
  all_goals rw [← hs]; simp

def firstD (a b : Int) : Int := if a = 0 then b else a
theorem firstD_zero {a b : Int} (h : a = 0) : firstD a b = b := if_pos h
theorem firstD_not {a b : Int} (h : ¬ a = 0) : firstD a b = a := if_neg h
def ordD (x i u j : Int) : Int := firstD (cmpD x u) (cmpD i j)
set_option maxRecDepth 100000 in
set_option maxHeartbeats 400000 in
theorem order_two (a b : Int) (n : Nat) (w : World) (h0 : w.cell? ⟨n, 0, none⟩ = some (.int .i64 a)) (h1 : w.cell? ⟨n, 1, none⟩ = some (.int .i64 b)) :
    Calls Try.prog 33 #[.slice (some ⟨n, 0, none⟩) 2 2] w fun e w' => e = .returned (.int .i64 (firstD a b)) ∧ w' = w := by
  go_enter Try.func33, Try.ntmps33
  go_wp2_with fail
  go_loop [7] (fun i => i = .int .i64 0 ∨ i = .int .i64 1 ∧ Hid (a = 0) ∨ i = .int .i64 2 ∧ Hid (a = 0) ∧ Hid (b = 0)) (fun i => 2 - (intOf i).toNat)
  case atStart => exact .inl rfl
  case round =>
    rcases hrel with rfl | ⟨rfl, ha⟩ | ⟨rfl, ha, hb⟩
    · by_cases hz : a = 0
      · have HZ := Lib.hid hz
        have h0' : w.cell? ⟨n, 0, none⟩ = some (.int .i64 0) := by rw [h0, hz]
        clear h0 hz
        go_wp2
        go_round
        case rel => exact .inr (.inl ⟨rfl, HZ⟩)
        case measure => simp [intOf]
      · have H := Lib.hid (firstD_not (b := b) hz)
        go_wp2
        go_ret
        exact ⟨by rw [H.out]; rfl, rfl⟩
    · have H := Lib.hid (firstD_zero (b := b) ha.out)
      by_cases hz : b = 0
      · have HZ := Lib.hid hz
        have h1' : w.cell? ⟨n, 1, none⟩ = some (.int .i64 0) := by rw [h1, hz]
        clear h1 hz
        go_wp2
        go_round
        case rel => exact .inr (.inr ⟨rfl, ha, HZ⟩)
        case measure => simp [intOf]
      · go_wp2
        go_ret
        exact ⟨by rw [H.out]; rfl, rfl⟩
    · have H := Lib.hid ((firstD_zero (b := b) ha.out).trans hb.out)
      go_wp2
      go_ret
      exact ⟨by rw [H.out]; rfl, rfl⟩

set_option maxRecDepth 100000 in
set_option maxHeartbeats 400000 in
theorem byx_any (x y i u v j : Int) (w : World) :
    Calls Try.prog 9 #[.agg #[.int .i64 x, .int .i64 y, .int .u32 i], .agg #[.int .i64 u, .int .i64 v, .int .u32 j]] w fun e w' => e = .returned (.int .i64 (ordD x i u j)) ∧ Below w.heap.size w w' := by
  go_enter Try.func9, Try.ntmps9
  go_wp2_with fail
  obtain ⟨c0, -, c2, d0, -, d2⟩ := two_cells w (.int .i64 x) (.int .i64 y) (.int .u32 i) (.int .i64 u) (.int .i64 v) (.int .u32 j) 24
  have HB := Lib.hid (((Below.refl w.heap.size w).alloc (Nat.le_refl _) (.cells #[.int .i64 x, .int .i64 y, .int .u32 i] 24)).alloc (by simp) (.cells #[.int .i64 u, .int .i64 v, .int .u32 j] 24))
  generalize (w.alloc (.cells #[.int .i64 x, .int .i64 y, .int .u32 i] 24)).alloc (.cells #[.int .i64 u, .int .i64 v, .int .u32 j] 24) = W at *
  have e0 := allc (o := .cells #[.int .i64 (cmpD x u), .int .i64 (cmpD i j)] 3) c0
  have e2 := allc (o := .cells #[.int .i64 (cmpD x u), .int .i64 (cmpD i j)] 3) c2
  have g0 := allc (o := .cells #[.int .i64 (cmpD x u), .int .i64 (cmpD i j)] 3) d0
  have g2 := allc (o := .cells #[.int .i64 (cmpD x u), .int .i64 (cmpD i j)] 3) d2
  have s0 : (W.alloc (.cells #[.int .i64 (cmpD x u), .int .i64 (cmpD i j)] 3)).drew.cell? ⟨W.heap.size, 0, none⟩ = some (.int .i64 (cmpD x u)) := by simp
  have s1 : (W.alloc (.cells #[.int .i64 (cmpD x u), .int .i64 (cmpD i j)] 3)).drew.cell? ⟨W.heap.size, 1, none⟩ = some (.int .i64 (cmpD i j)) := by simp
  go_region_held3 (fun w' => w'.cell? ⟨w.heap.size, 0, none⟩ = some (.int .i64 x) ∧ w'.cell? ⟨w.heap.size, 2, none⟩ = some (.int .u32 i) ∧ w'.cell? ⟨w.heap.size + 1, 0, none⟩ = some (.int .i64 u) ∧ w'.cell? ⟨w.heap.size + 1, 2, none⟩ = some (.int .u32 j)) (first | exact ⟨c0, c2, d0, d2⟩ | exact ⟨e0, e2, g0, g2⟩)
    (first
      | (go_at_call 34; refine (cmp_any _ _ _).mono ?_; rintro e w1 ⟨rfl, rfl⟩)
      | (go_at_call 35; refine (cmpu_any _ _ _).mono ?_; rintro e w1 ⟨rfl, rfl⟩)
      | (go_at_call 33; refine (order_two _ _ _ _ s0 s1).mono ?_; rintro e w1 ⟨rfl, rfl⟩))
  go_wp2
  go_ret
  exact ⟨rfl, (HB.out.alloc (HB.out.size) _).drew⟩

set_option maxRecDepth 100000 in
set_option maxHeartbeats 400000 in
theorem byy_any (x y i u v j : Int) (w : World) :
    Calls Try.prog 11 #[.agg #[.int .i64 x, .int .i64 y, .int .u32 i], .agg #[.int .i64 u, .int .i64 v, .int .u32 j]] w fun e w' => e = .returned (.int .i64 (ordD y i v j)) ∧ Below w.heap.size w w' := by
  go_enter Try.func11, Try.ntmps11
  go_wp2_with fail
  obtain ⟨-, c0, c2, -, d0, d2⟩ := two_cells w (.int .i64 x) (.int .i64 y) (.int .u32 i) (.int .i64 u) (.int .i64 v) (.int .u32 j) 24
  have HB := Lib.hid (((Below.refl w.heap.size w).alloc (Nat.le_refl _) (.cells #[.int .i64 x, .int .i64 y, .int .u32 i] 24)).alloc (by simp) (.cells #[.int .i64 u, .int .i64 v, .int .u32 j] 24))
  generalize (w.alloc (.cells #[.int .i64 x, .int .i64 y, .int .u32 i] 24)).alloc (.cells #[.int .i64 u, .int .i64 v, .int .u32 j] 24) = W at *
  have e0 := allc (o := .cells #[.int .i64 (cmpD y v), .int .i64 (cmpD i j)] 3) c0
  have e2 := allc (o := .cells #[.int .i64 (cmpD y v), .int .i64 (cmpD i j)] 3) c2
  have g0 := allc (o := .cells #[.int .i64 (cmpD y v), .int .i64 (cmpD i j)] 3) d0
  have g2 := allc (o := .cells #[.int .i64 (cmpD y v), .int .i64 (cmpD i j)] 3) d2
  have s0 : (W.alloc (.cells #[.int .i64 (cmpD y v), .int .i64 (cmpD i j)] 3)).drew.cell? ⟨W.heap.size, 0, none⟩ = some (.int .i64 (cmpD y v)) := by simp
  have s1 : (W.alloc (.cells #[.int .i64 (cmpD y v), .int .i64 (cmpD i j)] 3)).drew.cell? ⟨W.heap.size, 1, none⟩ = some (.int .i64 (cmpD i j)) := by simp
  go_region_held3 (fun w' => w'.cell? ⟨w.heap.size, 1, none⟩ = some (.int .i64 y) ∧ w'.cell? ⟨w.heap.size, 2, none⟩ = some (.int .u32 i) ∧ w'.cell? ⟨w.heap.size + 1, 1, none⟩ = some (.int .i64 v) ∧ w'.cell? ⟨w.heap.size + 1, 2, none⟩ = some (.int .u32 j)) (first | exact ⟨c0, c2, d0, d2⟩ | exact ⟨e0, e2, g0, g2⟩)
    (first
      | (go_at_call 34; refine (cmp_any _ _ _).mono ?_; rintro e w1 ⟨rfl, rfl⟩)
      | (go_at_call 35; refine (cmpu_any _ _ _).mono ?_; rintro e w1 ⟨rfl, rfl⟩)
      | (go_at_call 33; refine (order_two _ _ _ _ s0 s1).mono ?_; rintro e w1 ⟨rfl, rfl⟩))
  go_wp2
  go_ret
  exact ⟨rfl, (HB.out.alloc (HB.out.size) _).drew⟩

set_option maxRecDepth 100000 in
set_option maxHeartbeats 400000 in
theorem bylo_any (x y i u v j : Int) (w : World) :
    Calls Try.prog 13 #[.agg #[.int .i64 x, .int .i64 y, .int .u32 i], .agg #[.int .i64 u, .int .i64 v, .int .u32 j]] w fun e w' => e = .returned (.int .i64 (ordD x i u j)) ∧ Below w.heap.size w w' := by
  go_enter Try.func13, Try.ntmps13
  go_wp2_with fail
  obtain ⟨c0, -, c2, d0, -, d2⟩ := two_cells w (.int .i64 x) (.int .i64 y) (.int .u32 i) (.int .i64 u) (.int .i64 v) (.int .u32 j) 26
  have HB := Lib.hid (((Below.refl w.heap.size w).alloc (Nat.le_refl _) (.cells #[.int .i64 x, .int .i64 y, .int .u32 i] 26)).alloc (by simp) (.cells #[.int .i64 u, .int .i64 v, .int .u32 j] 26))
  generalize (w.alloc (.cells #[.int .i64 x, .int .i64 y, .int .u32 i] 26)).alloc (.cells #[.int .i64 u, .int .i64 v, .int .u32 j] 26) = W at *
  have e0 := allc (o := .cells #[.int .i64 (cmpD x u), .int .i64 (cmpD i j)] 3) c0
  have e2 := allc (o := .cells #[.int .i64 (cmpD x u), .int .i64 (cmpD i j)] 3) c2
  have g0 := allc (o := .cells #[.int .i64 (cmpD x u), .int .i64 (cmpD i j)] 3) d0
  have g2 := allc (o := .cells #[.int .i64 (cmpD x u), .int .i64 (cmpD i j)] 3) d2
  have s0 : (W.alloc (.cells #[.int .i64 (cmpD x u), .int .i64 (cmpD i j)] 3)).drew.cell? ⟨W.heap.size, 0, none⟩ = some (.int .i64 (cmpD x u)) := by simp
  have s1 : (W.alloc (.cells #[.int .i64 (cmpD x u), .int .i64 (cmpD i j)] 3)).drew.cell? ⟨W.heap.size, 1, none⟩ = some (.int .i64 (cmpD i j)) := by simp
  go_region_held3 (fun w' => w'.cell? ⟨w.heap.size, 0, none⟩ = some (.int .i64 x) ∧ w'.cell? ⟨w.heap.size, 2, none⟩ = some (.int .u32 i) ∧ w'.cell? ⟨w.heap.size + 1, 0, none⟩ = some (.int .i64 u) ∧ w'.cell? ⟨w.heap.size + 1, 2, none⟩ = some (.int .u32 j)) (first | exact ⟨c0, c2, d0, d2⟩ | exact ⟨e0, e2, g0, g2⟩)
    (first
      | (go_at_call 34; refine (cmp_any _ _ _).mono ?_; rintro e w1 ⟨rfl, rfl⟩)
      | (go_at_call 35; refine (cmpu_any _ _ _).mono ?_; rintro e w1 ⟨rfl, rfl⟩)
      | (go_at_call 33; refine (order_two _ _ _ _ s0 s1).mono ?_; rintro e w1 ⟨rfl, rfl⟩))
  go_wp2
  go_ret
  exact ⟨rfl, (HB.out.alloc (HB.out.size) _).drew⟩

set_option maxRecDepth 100000 in
set_option maxHeartbeats 400000 in
theorem byhi_any (x y i u v j : Int) (w : World) :
    Calls Try.prog 15 #[.agg #[.int .i64 x, .int .i64 y, .int .u32 i], .agg #[.int .i64 u, .int .i64 v, .int .u32 j]] w fun e w' => e = .returned (.int .i64 (ordD y i v j)) ∧ Below w.heap.size w w' := by
  go_enter Try.func15, Try.ntmps15
  go_wp2_with fail
  obtain ⟨-, c0, c2, -, d0, d2⟩ := two_cells w (.int .i64 x) (.int .i64 y) (.int .u32 i) (.int .i64 u) (.int .i64 v) (.int .u32 j) 26
  have HB := Lib.hid (((Below.refl w.heap.size w).alloc (Nat.le_refl _) (.cells #[.int .i64 x, .int .i64 y, .int .u32 i] 26)).alloc (by simp) (.cells #[.int .i64 u, .int .i64 v, .int .u32 j] 26))
  generalize (w.alloc (.cells #[.int .i64 x, .int .i64 y, .int .u32 i] 26)).alloc (.cells #[.int .i64 u, .int .i64 v, .int .u32 j] 26) = W at *
  have e0 := allc (o := .cells #[.int .i64 (cmpD y v), .int .i64 (cmpD i j)] 3) c0
  have e2 := allc (o := .cells #[.int .i64 (cmpD y v), .int .i64 (cmpD i j)] 3) c2
  have g0 := allc (o := .cells #[.int .i64 (cmpD y v), .int .i64 (cmpD i j)] 3) d0
  have g2 := allc (o := .cells #[.int .i64 (cmpD y v), .int .i64 (cmpD i j)] 3) d2
  have s0 : (W.alloc (.cells #[.int .i64 (cmpD y v), .int .i64 (cmpD i j)] 3)).drew.cell? ⟨W.heap.size, 0, none⟩ = some (.int .i64 (cmpD y v)) := by simp
  have s1 : (W.alloc (.cells #[.int .i64 (cmpD y v), .int .i64 (cmpD i j)] 3)).drew.cell? ⟨W.heap.size, 1, none⟩ = some (.int .i64 (cmpD i j)) := by simp
  go_region_held3 (fun w' => w'.cell? ⟨w.heap.size, 1, none⟩ = some (.int .i64 y) ∧ w'.cell? ⟨w.heap.size, 2, none⟩ = some (.int .u32 i) ∧ w'.cell? ⟨w.heap.size + 1, 1, none⟩ = some (.int .i64 v) ∧ w'.cell? ⟨w.heap.size + 1, 2, none⟩ = some (.int .u32 j)) (first | exact ⟨c0, c2, d0, d2⟩ | exact ⟨e0, e2, g0, g2⟩)
    (first
      | (go_at_call 34; refine (cmp_any _ _ _).mono ?_; rintro e w1 ⟨rfl, rfl⟩)
      | (go_at_call 35; refine (cmpu_any _ _ _).mono ?_; rintro e w1 ⟨rfl, rfl⟩)
      | (go_at_call 33; refine (order_two _ _ _ _ s0 s1).mono ?_; rintro e w1 ⟨rfl, rfl⟩))
  go_wp2
  go_ret
  exact ⟨rfl, (HB.out.alloc (HB.out.size) _).drew⟩

theorem cmpD_lt {a b : Int} (h : a < b) : cmpD a b = -1 := if_pos h
theorem cmpD_gt {a b : Int} (h : b < a) : cmpD a b = 1 := by rw [cmpD, if_neg (by omega), if_pos h]
theorem cmpD_eq (a : Int) : cmpD a a = 0 := by rw [cmpD, if_neg (by omega), if_neg (by omega)]
theorem ordD_lt {x i u j : Int} (h : x < u ∨ x = u ∧ i < j) : ordD x i u j = -1 := by
  unfold ordD
  rcases h with h | ⟨rfl, h⟩
  · rw [cmpD_lt h]; rfl
  · rw [cmpD_eq, firstD_zero rfl, cmpD_lt h]
theorem ordD_gt {x i u j : Int} (h : u < x ∨ x = u ∧ j < i) : ordD x i u j = 1 := by
  unfold ordD
  rcases h with h | ⟨rfl, h⟩
  · rw [cmpD_gt h]; rfl
  · rw [cmpD_eq, firstD_zero rfl, cmpD_gt h]
theorem ordD_eq {x i u j : Int} (h : x = u ∧ i = j) : ordD x i u j = 0 := by
  obtain ⟨rfl, rfl⟩ := h
  unfold ordD
  rw [cmpD_eq, firstD_zero rfl, cmpD_eq]
def aheadD (x i u j : Int) : Bool := decide (x < u) || (decide (x = u) && decide (i < j))
set_option maxRecDepth 100000 in
set_option maxHeartbeats 400000 in
theorem ahead_any (x i u j : Int) (w : World) :
    Calls Try.prog 39 #[.int .i64 x, .int .u32 i, .int .i64 u, .int .u32 j] w fun e w' => e = .returned (.bool (aheadD x i u j)) ∧ w' = w := by
  by_cases h1 : x < u
  · have H : aheadD x i u j = true := by simp [aheadD, h1]
    rw [H]
    go_enter Try.func39, Try.ntmps39
    go_wp2
    go_ret
    exact ⟨rfl, rfl⟩
  · by_cases h2 : x = u
    · subst h2
      have H : aheadD x i x j = decide (i < j) := by simp [aheadD]
      rw [H]
      go_enter Try.func39, Try.ntmps39
      go_wp2
      go_ret
      exact ⟨rfl, rfl⟩
    · have H : aheadD x i u j = false := by simp [aheadD]; omega
      rw [H]
      have h3 : u < x := by omega
      clear h1
      go_enter Try.func39, Try.ntmps39
      go_wp2
      go_ret
      exact ⟨retb (by simp; omega), rfl⟩
set_option maxRecDepth 100000 in
set_option maxHeartbeats 400000 in
theorem rorder_any (x i u j : Int) (w : World) :
    Calls Try.prog 36 #[.int .i64 x, .int .u32 i, .int .i64 u, .int .u32 j] w fun e w' => e = .returned (.int .i64 (ordD x i u j)) ∧ w' = w := by
  have h : (aheadD x i u j = true ∧ ordD x i u j = -1) ∨ (aheadD x i u j = false ∧ aheadD u j x i = true ∧ ordD x i u j = 1) ∨ (aheadD x i u j = false ∧ aheadD u j x i = false ∧ ordD x i u j = 0) := by
    by_cases h1 : x < u ∨ x = u ∧ i < j
    · exact .inl ⟨by simp [aheadD]; omega, ordD_lt h1⟩
    · by_cases h2 : u < x ∨ x = u ∧ j < i
      · exact .inr (.inl ⟨by simp [aheadD]; omega, by simp [aheadD]; omega, ordD_gt h2⟩)
      · exact .inr (.inr ⟨by simp [aheadD]; omega, by simp [aheadD]; omega, ordD_eq (by omega)⟩)
  rcases h with ⟨h1, h⟩ | ⟨h1, h2, h⟩ | ⟨h1, h2, h⟩
  · rw [h]
    have H1 := Lib.hid h1
    clear h1 h
    go_enter Try.func36, Try.ntmps36
    go_wp2_with fail
    refine (ahead_any _ _ _ _ _).mono ?_
    rintro e w1 ⟨rfl, rfl⟩
    rw [H1.out]
    go_wp2
    go_ret
    exact ⟨rfl, rfl⟩
  all_goals
    rw [h]
    have H1 := Lib.hid h1
    have H2 := Lib.hid h2
    clear h1 h2 h
    go_enter Try.func36, Try.ntmps36
    go_wp2_with fail
    refine (ahead_any _ _ _ _ _).mono ?_
    rintro e w1 ⟨rfl, rfl⟩
    rw [H1.out]
    go_wp2_with fail
    refine (ahead_any _ _ _ _ _).mono ?_
    rintro e w1 ⟨rfl, rfl⟩
    rw [H2.out]
    go_wp2
    go_ret
    exact ⟨rfl, rfl⟩

set_option maxRecDepth 100000 in
set_option maxHeartbeats 400000 in
theorem rbyx_any (x y i u v j : Int) (w : World) :
    Calls Try.prog 10 #[.agg #[.int .i64 x, .int .i64 y, .int .u32 i], .agg #[.int .i64 u, .int .i64 v, .int .u32 j]] w fun e w' => e = .returned (.int .i64 (ordD x i u j)) ∧ Below w.heap.size w w' := by
  go_enter Try.func10, Try.ntmps10
  go_wp2_with fail
  refine (rorder_any _ _ _ _ _).mono ?_
  rintro e w1 ⟨rfl, rfl⟩
  go_wp2
  go_ret
  exact ⟨rfl, ((Below.refl w.heap.size w).alloc (Nat.le_refl _) _).alloc (by simp) _⟩

set_option maxRecDepth 100000 in
set_option maxHeartbeats 400000 in
theorem rbyy_any (x y i u v j : Int) (w : World) :
    Calls Try.prog 12 #[.agg #[.int .i64 x, .int .i64 y, .int .u32 i], .agg #[.int .i64 u, .int .i64 v, .int .u32 j]] w fun e w' => e = .returned (.int .i64 (ordD y i v j)) ∧ Below w.heap.size w w' := by
  go_enter Try.func12, Try.ntmps12
  go_wp2_with fail
  refine (rorder_any _ _ _ _ _).mono ?_
  rintro e w1 ⟨rfl, rfl⟩
  go_wp2
  go_ret
  exact ⟨rfl, ((Below.refl w.heap.size w).alloc (Nat.le_refl _) _).alloc (by simp) _⟩

set_option maxRecDepth 100000 in
set_option maxHeartbeats 400000 in
theorem rbylo_any (x y i u v j : Int) (w : World) :
    Calls Try.prog 14 #[.agg #[.int .i64 x, .int .i64 y, .int .u32 i], .agg #[.int .i64 u, .int .i64 v, .int .u32 j]] w fun e w' => e = .returned (.int .i64 (ordD x i u j)) ∧ Below w.heap.size w w' := by
  go_enter Try.func14, Try.ntmps14
  go_wp2_with fail
  refine (rorder_any _ _ _ _ _).mono ?_
  rintro e w1 ⟨rfl, rfl⟩
  go_wp2
  go_ret
  exact ⟨rfl, ((Below.refl w.heap.size w).alloc (Nat.le_refl _) _).alloc (by simp) _⟩

set_option maxRecDepth 100000 in
set_option maxHeartbeats 400000 in
theorem rbyhi_any (x y i u v j : Int) (w : World) :
    Calls Try.prog 16 #[.agg #[.int .i64 x, .int .i64 y, .int .u32 i], .agg #[.int .i64 u, .int .i64 v, .int .u32 j]] w fun e w' => e = .returned (.int .i64 (ordD y i v j)) ∧ Below w.heap.size w w' := by
  go_enter Try.func16, Try.ntmps16
  go_wp2_with fail
  refine (rorder_any _ _ _ _ _).mono ?_
  rintro e w1 ⟨rfl, rfl⟩
  go_wp2
  go_ret
  exact ⟨rfl, ((Below.refl w.heap.size w).alloc (Nat.le_refl _) _).alloc (by simp) _⟩
end Go.Proofs.Ytpbghgmaikmneaa
