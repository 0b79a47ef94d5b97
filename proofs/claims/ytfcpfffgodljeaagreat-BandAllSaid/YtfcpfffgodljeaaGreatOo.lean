/-
  What the two orders of points tell, and in what world they end: some draws on, some blocks behind. No condition but those typed at each theorem.
-/
import Derived.Test.YtfcpfffgodljeaaGreatP3
import Derived.Test.YtfcpfffgodljeaaGreatMGen
import Derived.Shelf.SlSortCmp.WholeK
import Derived.WalkSpells
import Derived.WalkLawsBesides
import Derived.Deep.RegionHeld3
namespace Go.Proofs.YtfcpfffgodljeaaGreat.Ln
open Go.RowKit Go.Sort

/-- some draws on, some blocks behind -/
def Grw (w w' : World) : Prop := ∃ n os, w' = grow (w.drewN n) os
theorem Grw.refl (w : World) : Grw w w := ⟨0, #[], by simp [World.drewN]⟩
theorem Grw.alloc {w X : World} (h : Grw w X) (o : Obj) : Grw w (X.alloc o) := by
  obtain ⟨n, os, rfl⟩ := h
  exact ⟨n, os ++ #[o], by rw [alloc_eq_grow, grow_grow]⟩
theorem Grw.drew {w X : World} (h : Grw w X) : Grw w X.drew := by
  obtain ⟨n, os, rfl⟩ := h
  exact ⟨n + 1, os, rfl⟩
theorem Grw.drewN {w X : World} (h : Grw w X) (m : Nat) : Grw w (X.drewN m) := by
  obtain ⟨n, os, rfl⟩ := h
  exact ⟨n + m, os, by simp [World.drewN, grow, Nat.add_assoc]⟩
theorem Grw.trans {w X Y : World} (h : Grw w X) (g : Grw X Y) : Grw w Y := by
  obtain ⟨n, os, rfl⟩ := h
  obtain ⟨m, os', rfl⟩ := g
  exact ⟨n + m, os ++ os', by simp [World.drewN, grow, Nat.add_assoc]⟩
theorem Grw.below {w X : World} (h : Grw w X) : Below w.heap.size w X := by
  obtain ⟨n, os, rfl⟩ := h
  refine ⟨rfl, rfl, rfl, by simp [grow, World.drewN], fun k hk => ?_⟩
  show (w.heap ++ os)[k]? = w.heap[k]?
  rw [Array.getElem?_append_left hk]

def cmpD (a b : Int) : Int := if a < b then -1 else if b < a then 1 else 0
set_option maxRecDepth 100000 in
set_option maxHeartbeats 400000 in
theorem cmp_any (a b : Int) (w : World) :
    Calls Tryz.prog 102 #[.int .i64 a, .int .i64 b] w fun e w' => e = .returned (.int .i64 (cmpD a b)) ∧ w' = w := by
  by_cases h1 : a < b
  · go_enter Tryz.func102, Tryz.ntmps102
    go_wp2
    go_ret
    exact ⟨by simp [cmpD] <;> omega, rfl⟩
  · by_cases h2 : b < a
    · go_enter Tryz.func102, Tryz.ntmps102
      go_wp2
      go_ret
      exact ⟨by simp [cmpD] <;> omega, rfl⟩
    · go_enter Tryz.func102, Tryz.ntmps102
      go_wp2
      go_ret
      exact ⟨by simp [cmpD] <;> omega, rfl⟩
set_option maxRecDepth 100000 in
set_option maxHeartbeats 400000 in
theorem cmpu_any (a b : Int) (w : World) :
    Calls Tryz.prog 103 #[.int .u32 a, .int .u32 b] w fun e w' => e = .returned (.int .i64 (cmpD a b)) ∧ w' = w := by
  by_cases h1 : a < b
  · go_enter Tryz.func103, Tryz.ntmps103
    go_wp2
    go_ret
    exact ⟨by simp [cmpD] <;> omega, rfl⟩
  · by_cases h2 : b < a
    · go_enter Tryz.func103, Tryz.ntmps103
      go_wp2
      go_ret
      exact ⟨by simp [cmpD] <;> omega, rfl⟩
    · go_enter Tryz.func103, Tryz.ntmps103
      go_wp2
      go_ret
      exact ⟨by simp [cmpD] <;> omega, rfl⟩

theorem allc {w : World} {o : Obj} {p : Addr} {v : Value} (h : w.cell? p = some v) : (w.alloc o).cell? p = some v :=
  (World.cell?_alloc_lt _ _ _ (World.block_lt_of_cell? w _ h)).trans h
theorem two_cells (w : World) (a b c d e f : Value) (t : TypeId) :
    ((w.alloc (.cells #[a, b, c] t)).alloc (.cells #[d, e, f] t)).cell? ⟨w.heap.size, 0, none⟩ = some a ∧
    ((w.alloc (.cells #[a, b, c] t)).alloc (.cells #[d, e, f] t)).cell? ⟨w.heap.size, 1, none⟩ = some b ∧
    ((w.alloc (.cells #[a, b, c] t)).alloc (.cells #[d, e, f] t)).cell? ⟨w.heap.size, 2, none⟩ = some c ∧
    ((w.alloc (.cells #[a, b, c] t)).alloc (.cells #[d, e, f] t)).cell? ⟨w.heap.size + 1, 0, none⟩ = some d ∧
    ((w.alloc (.cells #[a, b, c] t)).alloc (.cells #[d, e, f] t)).cell? ⟨w.heap.size + 1, 1, none⟩ = some e ∧
    ((w.alloc (.cells #[a, b, c] t)).alloc (.cells #[d, e, f] t)).cell? ⟨w.heap.size + 1, 2, none⟩ = some f := by
  have hs : (w.alloc (.cells #[a, b, c] t)).heap.size = w.heap.size + 1 := by simp
  refine ⟨?_, ?_, ?_, ?_, ?_, ?_⟩
  · rw [World.cell?_alloc_lt _ _ _ (by simp)]; simp
  · rw [World.cell?_alloc_lt _ _ _ (by simp)]; simp
  · rw [World.cell?_alloc_lt _ _ _ (by simp)]; simp
  all_goals rw [← hs]; simp

def firstD (a b : Int) : Int := if a = 0 then b else a
theorem firstD_zero {a b : Int} (h : a = 0) : firstD a b = b := if_pos h
theorem firstD_not {a b : Int} (h : ¬ a = 0) : firstD a b = a := if_neg h
def ordD (x i u j : Int) : Int := firstD (cmpD x u) (cmpD i j)
set_option maxRecDepth 100000 in
set_option maxHeartbeats 400000 in
theorem order_two (a b : Int) (n : Nat) (w : World) (h0 : w.cell? ⟨n, 0, none⟩ = some (.int .i64 a)) (h1 : w.cell? ⟨n, 1, none⟩ = some (.int .i64 b)) :
    Calls Tryz.prog 101 #[.slice (some ⟨n, 0, none⟩) 2 2] w fun e w' => e = .returned (.int .i64 (firstD a b)) ∧ w' = w := by
  go_enter Tryz.func101, Tryz.ntmps101
  go_wp2_with fail
  go_loop [7] (fun i => i = .int .i64 0 ∨ i = .int .i64 1 ∧ Hid (a = 0) ∨ i = .int .i64 2 ∧ Hid (a = 0) ∧ Hid (b = 0)) (fun i => 2 - (intOf i).toNat)
  case atStart => exact .inl rfl
  case round =>
    rcases hrel with rfl | ⟨rfl, ha⟩ | ⟨rfl, ha, hb⟩
    · by_cases hz : a = 0
      · have HZ := Lib.hid hz
        have h0' : w.cell? ⟨n, 0, none⟩ = some (.int .i64 0) := by rw [h0, hz]
        clear h0 hz
        go_wp2
        go_round
        case rel => exact .inr (.inl ⟨rfl, HZ⟩)
        case measure => simp [intOf]
      · have H := Lib.hid (firstD_not (b := b) hz)
        go_wp2
        go_ret
        exact ⟨by rw [H.out]; rfl, rfl⟩
    · have H := Lib.hid (firstD_zero (b := b) ha.out)
      by_cases hz : b = 0
      · have HZ := Lib.hid hz
        have h1' : w.cell? ⟨n, 1, none⟩ = some (.int .i64 0) := by rw [h1, hz]
        clear h1 hz
        go_wp2
        go_round
        case rel => exact .inr (.inr ⟨rfl, ha, HZ⟩)
        case measure => simp [intOf]
      · go_wp2
        go_ret
        exact ⟨by rw [H.out]; rfl, rfl⟩
    · have H := Lib.hid ((firstD_zero (b := b) ha.out).trans hb.out)
      go_wp2
      go_ret
      exact ⟨by rw [H.out]; rfl, rfl⟩

set_option maxRecDepth 100000 in
set_option maxHeartbeats 400000 in
theorem byx_any (x y i u v j : Int) (w : World) :
    Calls Tryz.prog 95 #[.agg #[.int .i64 x, .int .i64 y, .int .u32 i], .agg #[.int .i64 u, .int .i64 v, .int .u32 j]] w fun e w' => e = .returned (.int .i64 (ordD x i u j)) ∧ Grw w w' := by
  go_enter Tryz.func95, Tryz.ntmps95
  go_wp2_with fail
  obtain ⟨c0, -, c2, d0, -, d2⟩ := two_cells w (.int .i64 x) (.int .i64 y) (.int .u32 i) (.int .i64 u) (.int .i64 v) (.int .u32 j) 34
  have HW := Lib.hid (((Grw.refl w).alloc (.cells #[.int .i64 x, .int .i64 y, .int .u32 i] 34)).alloc (.cells #[.int .i64 u, .int .i64 v, .int .u32 j] 34))
  generalize (w.alloc (.cells #[.int .i64 x, .int .i64 y, .int .u32 i] 34)).alloc (.cells #[.int .i64 u, .int .i64 v, .int .u32 j] 34) = W at *
  have e0 := allc (o := .cells #[.int .i64 (cmpD x u), .int .i64 (cmpD i j)] 3) c0
  have e2 := allc (o := .cells #[.int .i64 (cmpD x u), .int .i64 (cmpD i j)] 3) c2
  have g0 := allc (o := .cells #[.int .i64 (cmpD x u), .int .i64 (cmpD i j)] 3) d0
  have g2 := allc (o := .cells #[.int .i64 (cmpD x u), .int .i64 (cmpD i j)] 3) d2
  have s0 : (W.alloc (.cells #[.int .i64 (cmpD x u), .int .i64 (cmpD i j)] 3)).drew.cell? ⟨W.heap.size, 0, none⟩ = some (.int .i64 (cmpD x u)) := by simp
  have s1 : (W.alloc (.cells #[.int .i64 (cmpD x u), .int .i64 (cmpD i j)] 3)).drew.cell? ⟨W.heap.size, 1, none⟩ = some (.int .i64 (cmpD i j)) := by simp
  go_region_held3 (fun w' => w'.cell? ⟨w.heap.size, 0, none⟩ = some (.int .i64 x) ∧ w'.cell? ⟨w.heap.size, 2, none⟩ = some (.int .u32 i) ∧ w'.cell? ⟨w.heap.size + 1, 0, none⟩ = some (.int .i64 u) ∧ w'.cell? ⟨w.heap.size + 1, 2, none⟩ = some (.int .u32 j)) (first | exact ⟨c0, c2, d0, d2⟩ | exact ⟨e0, e2, g0, g2⟩)
    (first
      | (go_at_call 102; refine (cmp_any _ _ _).mono ?_; rintro e w1 ⟨rfl, rfl⟩)
      | (go_at_call 103; refine (cmpu_any _ _ _).mono ?_; rintro e w1 ⟨rfl, rfl⟩)
      | (go_at_call 101; refine (order_two _ _ _ _ s0 s1).mono ?_; rintro e w1 ⟨rfl, rfl⟩))
  go_wp2
  go_ret
  exact ⟨rfl, (HW.out.alloc _).drew⟩

set_option maxRecDepth 100000 in
set_option maxHeartbeats 400000 in
theorem byy_any (x y i u v j : Int) (w : World) :
    Calls Tryz.prog 71 #[.agg #[.int .i64 x, .int .i64 y, .int .u32 i], .agg #[.int .i64 u, .int .i64 v, .int .u32 j]] w fun e w' => e = .returned (.int .i64 (ordD y i v j)) ∧ Grw w w' := by
  go_enter Tryz.func71, Tryz.ntmps71
  go_wp2_with fail
  obtain ⟨-, c0, c2, -, d0, d2⟩ := two_cells w (.int .i64 x) (.int .i64 y) (.int .u32 i) (.int .i64 u) (.int .i64 v) (.int .u32 j) 34
  have HW := Lib.hid (((Grw.refl w).alloc (.cells #[.int .i64 x, .int .i64 y, .int .u32 i] 34)).alloc (.cells #[.int .i64 u, .int .i64 v, .int .u32 j] 34))
  generalize (w.alloc (.cells #[.int .i64 x, .int .i64 y, .int .u32 i] 34)).alloc (.cells #[.int .i64 u, .int .i64 v, .int .u32 j] 34) = W at *
  have e0 := allc (o := .cells #[.int .i64 (cmpD y v), .int .i64 (cmpD i j)] 3) c0
  have e2 := allc (o := .cells #[.int .i64 (cmpD y v), .int .i64 (cmpD i j)] 3) c2
  have g0 := allc (o := .cells #[.int .i64 (cmpD y v), .int .i64 (cmpD i j)] 3) d0
  have g2 := allc (o := .cells #[.int .i64 (cmpD y v), .int .i64 (cmpD i j)] 3) d2
  have s0 : (W.alloc (.cells #[.int .i64 (cmpD y v), .int .i64 (cmpD i j)] 3)).drew.cell? ⟨W.heap.size, 0, none⟩ = some (.int .i64 (cmpD y v)) := by simp
  have s1 : (W.alloc (.cells #[.int .i64 (cmpD y v), .int .i64 (cmpD i j)] 3)).drew.cell? ⟨W.heap.size, 1, none⟩ = some (.int .i64 (cmpD i j)) := by simp
  go_region_held3 (fun w' => w'.cell? ⟨w.heap.size, 1, none⟩ = some (.int .i64 y) ∧ w'.cell? ⟨w.heap.size, 2, none⟩ = some (.int .u32 i) ∧ w'.cell? ⟨w.heap.size + 1, 1, none⟩ = some (.int .i64 v) ∧ w'.cell? ⟨w.heap.size + 1, 2, none⟩ = some (.int .u32 j)) (first | exact ⟨c0, c2, d0, d2⟩ | exact ⟨e0, e2, g0, g2⟩)
    (first
      | (go_at_call 102; refine (cmp_any _ _ _).mono ?_; rintro e w1 ⟨rfl, rfl⟩)
      | (go_at_call 103; refine (cmpu_any _ _ _).mono ?_; rintro e w1 ⟨rfl, rfl⟩)
      | (go_at_call 101; refine (order_two _ _ _ _ s0 s1).mono ?_; rintro e w1 ⟨rfl, rfl⟩))
  go_wp2
  go_ret
  exact ⟨rfl, (HW.out.alloc _).drew⟩

theorem cmpD_lt {a b : Int} (h : a < b) : cmpD a b = -1 := if_pos h
theorem cmpD_gt {a b : Int} (h : b < a) : cmpD a b = 1 := by rw [cmpD, if_neg (by omega), if_pos h]
theorem cmpD_eq (a : Int) : cmpD a a = 0 := by rw [cmpD, if_neg (by omega), if_neg (by omega)]
theorem ordD_lt {x i u j : Int} (h : x < u ∨ x = u ∧ i < j) : ordD x i u j = -1 := by
  unfold ordD
  rcases h with h | ⟨rfl, h⟩
  · rw [cmpD_lt h]; rfl
  · rw [cmpD_eq, firstD_zero rfl, cmpD_lt h]
theorem ordD_gt {x i u j : Int} (h : u < x ∨ x = u ∧ j < i) : ordD x i u j = 1 := by
  unfold ordD
  rcases h with h | ⟨rfl, h⟩
  · rw [cmpD_gt h]; rfl
  · rw [cmpD_eq, firstD_zero rfl, cmpD_gt h]
theorem ordD_eq {x i u j : Int} (h : x = u ∧ i = j) : ordD x i u j = 0 := by
  obtain ⟨rfl, rfl⟩ := h
  unfold ordD
  rw [cmpD_eq, firstD_zero rfl, cmpD_eq]
/-- points by X, by Y -/
def cX (s t : S3) : Int := ordD s.1 s.2.2 t.1 t.2.2
def cY (s t : S3) : Int := ordD s.2.1 s.2.2 t.2.1 t.2.2
theorem cX_any (s t : S3) (w : World) : Calls Tryz.prog 95 #[tv s, tv t] w fun e w' => e = .returned (.int .i64 (cX s t)) ∧ Grw w w' := by
  obtain ⟨x, y, i⟩ := s
  obtain ⟨u, v, j⟩ := t
  exact byx_any x y i u v j w
theorem cY_any (s t : S3) (w : World) : Calls Tryz.prog 71 #[tv s, tv t] w fun e w' => e = .returned (.int .i64 (cY s t)) ∧ Grw w w' := by
  obtain ⟨x, y, i⟩ := s
  obtain ⟨u, v, j⟩ := t
  exact byy_any x y i u v j w
theorem ord_neg {x i u j : Int} : ordD x i u j < 0 ↔ x < u ∨ (x = u ∧ i < j) := by
  unfold ordD firstD cmpD
  repeat' split
  all_goals omega
theorem ord_zero {x i u j : Int} : ordD x i u j = 0 ↔ x = u ∧ i = j := by
  unfold ordD firstD cmpD
  repeat' split
  all_goals omega
theorem cX_neg {s t : S3} : cX s t < 0 ↔ s.1 < t.1 ∨ (s.1 = t.1 ∧ s.2.2 < t.2.2) := ord_neg
theorem cY_neg {s t : S3} : cY s t < 0 ↔ s.2.1 < t.2.1 ∨ (s.2.1 = t.2.1 ∧ s.2.2 < t.2.2) := ord_neg
theorem swoX : SWO (ltOf cX) where
  irrefl x := by simp [ltOf, cX_neg]
  trans x y z h1 h2 := by simp only [ltOf, decide_eq_true_eq, cX_neg] at *; omega
  ntrans x y z h1 h2 := by simp only [ltOf, decide_eq_false_iff_not, cX_neg] at *; omega
theorem swoY : SWO (ltOf cY) where
  irrefl x := by simp [ltOf, cY_neg]
  trans x y z h1 h2 := by simp only [ltOf, decide_eq_true_eq, cY_neg] at *; omega
  ntrans x y z h1 h2 := by simp only [ltOf, decide_eq_false_iff_not, cY_neg] at *; omega
end Go.Proofs.YtfcpfffgodljeaaGreat.Ln
