/-
  What the two orders of points tell, and in what world they end: some draws on, some blocks behind. No condition but those typed at each theorem.
-/
import Derived.Test.YtldmajifkmcdcaaGreatP3
import Derived.Test.YtldmajifkmcdcaaGreatMGen
import Derived.Shelf.SlSortCmp.WholeK
import Derived.WalkSpells
import Derived.WalkLawsBesides
import Derived.Deep.RegionHeld3
import Derived.RangeFuncNested
import Derived.RangeFuncBound
import Derived.RangeFuncCalls
import Derived.RangeFuncLeaves
import Derived.Shelf.RegionOpen
import Derived.OwnWalkIn
import Derived.TacticsInMore
import Derived.LoopNIn
import Derived.LoopIn
import Derived.Ground.SlsfProg
import Derived.Test.YtldmajifkmcdcaaGreatMLook
namespace Go.Proofs.YtldmajifkmcdcaaGreat.Ln
open Go.RowKit Go.Sort
/-- some draws on, some blocks behind -/
def Grw (w w' : World) : Prop := ∃ n os, w' = grow (w.drewN n) os
theorem Grw.refl (w : World) : Grw w w := ⟨0, #[], by simp [World.drewN]⟩
theorem Grw.alloc {w X : World} (h : Grw w X) (o : Obj) : Grw w (X.alloc o) := by
  obtain ⟨n, os, rfl⟩ := h
  exact ⟨n, os ++ #[o], by rw [alloc_eq_grow, grow_grow]⟩
theorem Grw.drew {w X : World} (h : Grw w X) : Grw w X.drew := by
  obtain ⟨n, os, rfl⟩ := h
  exact ⟨n + 1, os, rfl⟩
theorem Grw.drewN {w X : World} (h : Grw w X) (m : Nat) : Grw w (X.drewN m) := by
  obtain ⟨n, os, rfl⟩ := h
  exact ⟨n + m, os, by simp [World.drewN, grow, Nat.add_assoc]⟩
theorem Grw.trans {w X Y : World} (h : Grw w X) (g : Grw X Y) : Grw w Y := by
  obtain ⟨n, os, rfl⟩ := h
  obtain ⟨m, os', rfl⟩ := g
  exact ⟨n + m, os ++ os', by simp [World.drewN, grow, Nat.add_assoc]⟩
theorem Grw.below {w X : World} (h : Grw w X) : Below w.heap.size w X := by
  obtain ⟨n, os, rfl⟩ := h
  refine ⟨rfl, rfl, rfl, by simp [grow, World.drewN], fun k hk => ?_⟩
  show (w.heap ++ os)[k]? = w.heap[k]?
  rw [Array.getElem?_append_left hk]
def cmpD (a b : Int) : Int := if a < b then -1 else if b < a then 1 else 0
set_option maxRecDepth 100000 in
set_option maxHeartbeats 400000 in
theorem cmp_any (a b : Int) (w : World) :
    Calls Tryz.prog 80 #[.int .i64 a, .int .i64 b] w fun e w' => e = .returned (.int .i64 (cmpD a b)) ∧ w' = w := by
  by_cases h1 : a < b
  · go_enter Tryz.func80, Tryz.ntmps80
    go_wp2
    go_ret
    exact ⟨by simp [cmpD] <;> omega, rfl⟩
  · by_cases h2 : b < a
    · go_enter Tryz.func80, Tryz.ntmps80
      go_wp2
      go_ret
      exact ⟨by simp [cmpD] <;> omega, rfl⟩
    · go_enter Tryz.func80, Tryz.ntmps80
      go_wp2
      go_ret
      exact ⟨by simp [cmpD] <;> omega, rfl⟩
set_option maxRecDepth 100000 in
set_option maxHeartbeats 400000 in
theorem cmpu_any (a b : Int) (w : World) :
    Calls Tryz.prog 81 #[.int .u32 a, .int .u32 b] w fun e w' => e = .returned (.int .i64 (cmpD a b)) ∧ w' = w := by
  by_cases h1 : a < b
  · go_enter Tryz.func81, Tryz.ntmps81
    go_wp2
    go_ret
    exact ⟨by simp [cmpD] <;> omega, rfl⟩
  · by_cases h2 : b < a
    · go_enter Tryz.func81, Tryz.ntmps81
      go_wp2
      go_ret
      exact ⟨by simp [cmpD] <;> omega, rfl⟩
    · go_enter Tryz.func81, Tryz.ntmps81
      go_wp2
      go_ret
      exact ⟨by simp [cmpD] <;> omega, rfl⟩
theorem allc {w : World} {o : Obj} {p : Addr} {v : Value} (h : w.cell? p = some v) : (w.alloc o).cell? p = some v :=
  (World.cell?_alloc_lt _ _ _ (World.block_lt_of_cell? w _ h)).trans h
theorem two_cells (w : World) (a b c d e f : Value) (t : TypeId) :
    ((w.alloc (.cells #[a, b, c] t)).alloc (.cells #[d, e, f] t)).cell? ⟨w.heap.size, 0, none⟩ = some a ∧
    ((w.alloc (.cells #[a, b, c] t)).alloc (.cells #[d, e, f] t)).cell? ⟨w.heap.size, 1, none⟩ = some b ∧
    ((w.alloc (.cells #[a, b, c] t)).alloc (.cells #[d, e, f] t)).cell? ⟨w.heap.size, 2, none⟩ = some c ∧
    ((w.alloc (.cells #[a, b, c] t)).alloc (.cells #[d, e, f] t)).cell? ⟨w.heap.size + 1, 0, none⟩ = some d ∧
    ((w.alloc (.cells #[a, b, c] t)).alloc (.cells #[d, e, f] t)).cell? ⟨w.heap.size + 1, 1, none⟩ = some e ∧
    ((w.alloc (.cells #[a, b, c] t)).alloc (.cells #[d, e, f] t)).cell? ⟨w.heap.size + 1, 2, none⟩ = some f := by
  have hs : (w.alloc (.cells #[a, b, c] t)).heap.size = w.heap.size + 1 := by simp
  refine ⟨?_, ?_, ?_, ?_, ?_, ?_⟩
  · rw [World.cell?_alloc_lt _ _ _ (by simp)]; simp
  · rw [World.cell?_alloc_lt _ _ _ (by simp)]; simp
  · rw [World.cell?_alloc_lt _ _ _ (by simp)]; simp
  all_goals rw [← hs]; simp
def firstD (a b : Int) : Int := if a = 0 then b else a
theorem firstD_zero {a b : Int} (h : a = 0) : firstD a b = b := if_pos h
theorem firstD_not {a b : Int} (h : ¬ a = 0) : firstD a b = a := if_neg h
def ordD (x i u j : Int) : Int := firstD (cmpD x u) (cmpD i j)
set_option maxRecDepth 100000 in
set_option maxHeartbeats 400000 in
theorem order_two (a b : Int) (n : Nat) (w : World) (h0 : w.cell? ⟨n, 0, none⟩ = some (.int .i64 a)) (h1 : w.cell? ⟨n, 1, none⟩ = some (.int .i64 b)) :
    Calls Tryz.prog 79 #[.slice (some ⟨n, 0, none⟩) 2 2] w fun e w' => e = .returned (.int .i64 (firstD a b)) ∧ w' = w := by
  go_enter Tryz.func79, Tryz.ntmps79
  go_wp2_with fail
  go_loop [7] (fun i => i = .int .i64 0 ∨ i = .int .i64 1 ∧ Hid (a = 0) ∨ i = .int .i64 2 ∧ Hid (a = 0) ∧ Hid (b = 0)) (fun i => 2 - (intOf i).toNat)
  case atStart => exact .inl rfl
  case round =>
    rcases hrel with rfl | ⟨rfl, ha⟩ | ⟨rfl, ha, hb⟩
    · by_cases hz : a = 0
      · have HZ := Lib.hid hz
        have h0' : w.cell? ⟨n, 0, none⟩ = some (.int .i64 0) := by rw [h0, hz]
        clear h0 hz
        go_wp2
        go_round
        case rel => exact .inr (.inl ⟨rfl, HZ⟩)
        case measure => simp [intOf]
      · have H := Lib.hid (firstD_not (b := b) hz)
        go_wp2
        go_ret
        exact ⟨by rw [H.out]; rfl, rfl⟩
    · have H := Lib.hid (firstD_zero (b := b) ha.out)
      by_cases hz : b = 0
      · have HZ := Lib.hid hz
        have h1' : w.cell? ⟨n, 1, none⟩ = some (.int .i64 0) := by rw [h1, hz]
        clear h1 hz
        go_wp2
        go_round
        case rel => exact .inr (.inr ⟨rfl, ha, HZ⟩)
        case measure => simp [intOf]
      · go_wp2
        go_ret
        exact ⟨by rw [H.out]; rfl, rfl⟩
    · have H := Lib.hid ((firstD_zero (b := b) ha.out).trans hb.out)
      go_wp2
      go_ret
      exact ⟨by rw [H.out]; rfl, rfl⟩
set_option maxRecDepth 100000 in
set_option maxHeartbeats 400000 in
theorem byx_any (x y i u v j : Int) (w : World) :
    Calls Tryz.prog 49 #[.agg #[.int .i64 x, .int .i64 y, .int .u32 i], .agg #[.int .i64 u, .int .i64 v, .int .u32 j]] w fun e w' => e = .returned (.int .i64 (ordD x i u j)) ∧ Grw w w' := by
  go_enter Tryz.func49, Tryz.ntmps49
  go_wp2_with fail
  obtain ⟨c0, -, c2, d0, -, d2⟩ := two_cells w (.int .i64 x) (.int .i64 y) (.int .u32 i) (.int .i64 u) (.int .i64 v) (.int .u32 j) 34
  have HW := Lib.hid (((Grw.refl w).alloc (.cells #[.int .i64 x, .int .i64 y, .int .u32 i] 34)).alloc (.cells #[.int .i64 u, .int .i64 v, .int .u32 j] 34))
  generalize (w.alloc (.cells #[.int .i64 x, .int .i64 y, .int .u32 i] 34)).alloc (.cells #[.int .i64 u, .int .i64 v, .int .u32 j] 34) = W at *
  have e0 := allc (o := .cells #[.int .i64 (cmpD x u), .int .i64 (cmpD i j)] 3) c0
  have e2 := allc (o := .cells #[.int .i64 (cmpD x u), .int .i64 (cmpD i j)] 3) c2
  have g0 := allc (o := .cells #[.int .i64 (cmpD x u), .int .i64 (cmpD i j)] 3) d0
  have g2 := allc (o := .cells #[.int .i64 (cmpD x u), .int .i64 (cmpD i j)] 3) d2
  have s0 : (W.alloc (.cells #[.int .i64 (cmpD x u), .int .i64 (cmpD i j)] 3)).drew.cell? ⟨W.heap.size, 0, none⟩ = some (.int .i64 (cmpD x u)) := by simp
  have s1 : (W.alloc (.cells #[.int .i64 (cmpD x u), .int .i64 (cmpD i j)] 3)).drew.cell? ⟨W.heap.size, 1, none⟩ = some (.int .i64 (cmpD i j)) := by simp
  go_region_held3 (fun w' => w'.cell? ⟨w.heap.size, 0, none⟩ = some (.int .i64 x) ∧ w'.cell? ⟨w.heap.size, 2, none⟩ = some (.int .u32 i) ∧ w'.cell? ⟨w.heap.size + 1, 0, none⟩ = some (.int .i64 u) ∧ w'.cell? ⟨w.heap.size + 1, 2, none⟩ = some (.int .u32 j)) (first | exact ⟨c0, c2, d0, d2⟩ | exact ⟨e0, e2, g0, g2⟩)
    (first
      | (go_at_call 80; refine (cmp_any _ _ _).mono ?_; rintro e w1 ⟨rfl, rfl⟩)
      | (go_at_call 81; refine (cmpu_any _ _ _).mono ?_; rintro e w1 ⟨rfl, rfl⟩)
      | (go_at_call 79; refine (order_two _ _ _ _ s0 s1).mono ?_; rintro e w1 ⟨rfl, rfl⟩))
  go_wp2
  go_ret
  exact ⟨rfl, (HW.out.alloc _).drew⟩
set_option maxRecDepth 100000 in
set_option maxHeartbeats 400000 in
theorem byy_any (x y i u v j : Int) (w : World) :
    Calls Tryz.prog 68 #[.agg #[.int .i64 x, .int .i64 y, .int .u32 i], .agg #[.int .i64 u, .int .i64 v, .int .u32 j]] w fun e w' => e = .returned (.int .i64 (ordD y i v j)) ∧ Grw w w' := by
  go_enter Tryz.func68, Tryz.ntmps68
  go_wp2_with fail
  obtain ⟨-, c0, c2, -, d0, d2⟩ := two_cells w (.int .i64 x) (.int .i64 y) (.int .u32 i) (.int .i64 u) (.int .i64 v) (.int .u32 j) 34
  have HW := Lib.hid (((Grw.refl w).alloc (.cells #[.int .i64 x, .int .i64 y, .int .u32 i] 34)).alloc (.cells #[.int .i64 u, .int .i64 v, .int .u32 j] 34))
  generalize (w.alloc (.cells #[.int .i64 x, .int .i64 y, .int .u32 i] 34)).alloc (.cells #[.int .i64 u, .int .i64 v, .int .u32 j] 34) = W at *
  have e0 := allc (o := .cells #[.int .i64 (cmpD y v), .int .i64 (cmpD i j)] 3) c0
  have e2 := allc (o := .cells #[.int .i64 (cmpD y v), .int .i64 (cmpD i j)] 3) c2
  have g0 := allc (o := .cells #[.int .i64 (cmpD y v), .int .i64 (cmpD i j)] 3) d0
  have g2 := allc (o := .cells #[.int .i64 (cmpD y v), .int .i64 (cmpD i j)] 3) d2
  have s0 : (W.alloc (.cells #[.int .i64 (cmpD y v), .int .i64 (cmpD i j)] 3)).drew.cell? ⟨W.heap.size, 0, none⟩ = some (.int .i64 (cmpD y v)) := by simp
  have s1 : (W.alloc (.cells #[.int .i64 (cmpD y v), .int .i64 (cmpD i j)] 3)).drew.cell? ⟨W.heap.size, 1, none⟩ = some (.int .i64 (cmpD i j)) := by simp
  go_region_held3 (fun w' => w'.cell? ⟨w.heap.size, 1, none⟩ = some (.int .i64 y) ∧ w'.cell? ⟨w.heap.size, 2, none⟩ = some (.int .u32 i) ∧ w'.cell? ⟨w.heap.size + 1, 1, none⟩ = some (.int .i64 v) ∧ w'.cell? ⟨w.heap.size + 1, 2, none⟩ = some (.int .u32 j)) (first | exact ⟨c0, c2, d0, d2⟩ | exact ⟨e0, e2, g0, g2⟩)
    (first
      | (go_at_call 80; refine (cmp_any _ _ _).mono ?_; rintro e w1 ⟨rfl, rfl⟩)
      | (go_at_call 81; refine (cmpu_any _ _ _).mono ?_; rintro e w1 ⟨rfl, rfl⟩)
      | (go_at_call 79; refine (order_two _ _ _ _ s0 s1).mono ?_; rintro e w1 ⟨rfl, rfl⟩))
  go_wp2
  go_ret
  exact ⟨rfl, (HW.out.alloc _).drew⟩
/-- points by X, by Y -/
def cX (s t : S3) : Int := ordD s.1 s.2.2 t.1 t.2.2
def cY (s t : S3) : Int := ordD s.2.1 s.2.2 t.2.1 t.2.2
theorem cX_any (s t : S3) (w : World) : Calls Tryz.prog 49 #[tv s, tv t] w fun e w' => e = .returned (.int .i64 (cX s t)) ∧ Grw w w' := by
  obtain ⟨x, y, i⟩ := s
  obtain ⟨u, v, j⟩ := t
  exact byx_any x y i u v j w
theorem cY_any (s t : S3) (w : World) : Calls Tryz.prog 68 #[tv s, tv t] w fun e w' => e = .returned (.int .i64 (cY s t)) ∧ Grw w w' := by
  obtain ⟨x, y, i⟩ := s
  obtain ⟨u, v, j⟩ := t
  exact byy_any x y i u v j w
theorem ord_neg {x i u j : Int} : ordD x i u j < 0 ↔ x < u ∨ (x = u ∧ i < j) := by
  unfold ordD firstD cmpD
  repeat' split
  all_goals omega
theorem cX_neg {s t : S3} : cX s t < 0 ↔ s.1 < t.1 ∨ (s.1 = t.1 ∧ s.2.2 < t.2.2) := ord_neg
theorem cY_neg {s t : S3} : cY s t < 0 ↔ s.2.1 < t.2.1 ∨ (s.2.1 = t.2.1 ∧ s.2.2 < t.2.2) := ord_neg
theorem swoX : SWO (ltOf cX) where
  irrefl x := by simp [ltOf, cX_neg]
  trans x y z h1 h2 := by simp only [ltOf, decide_eq_true_eq, cX_neg] at *; omega
  ntrans x y z h1 h2 := by simp only [ltOf, decide_eq_false_iff_not, cX_neg] at *; omega
theorem swoY : SWO (ltOf cY) where
  irrefl x := by simp [ltOf, cY_neg]
  trans x y z h1 h2 := by simp only [ltOf, decide_eq_true_eq, cY_neg] at *; omega
  ntrans x y z h1 h2 := by simp only [ltOf, decide_eq_false_iff_not, cY_neg] at *; omega
end Go.Proofs.YtldmajifkmcdcaaGreat.Ln
/-
  Points collected out of an iterator over a list (slices.Values, AppendSeq, Collect). No condition but those typed at each theorem.
-/
namespace Go.Proofs.YtldmajifkmcdcaaGreat.Ln
open Go.RowKit Go.Shelf
attribute [local go_sem] Oper.semAt_some
theorem info_point : (Tryz.prog.info? 34).map (fun i => (i.zero, i.size, i.bytes)) = some (some (.agg #[.int .i64 0, .int .i64 0, .int .u32 0]), 3, 24) := by kernel_rfl
theorem under_points : Tryz.prog.underlying 22 = some (.slice 34) := by kernel_rfl
/-- what lies in this block's cells lies so still -/
def KpB (B : Nat) (W W' : World) : Prop := ∀ i v, W.cell? ⟨B, i, none⟩ = some v → W'.cell? ⟨B, i, none⟩ = some v
theorem kpB_t {B : Nat} {X Y Z : World} (h : KpB B X Y) (k : KpB B Y Z) : KpB B X Z := fun i v e => k i v (h i v e)
theorem kpB_b {B : Nat} {N : Nat} (W : World) (l : Nat) (o o' : Obj) (_ : N ≤ l) (h : W.heap[l]? = some o) (hc : o.isCells = false) (_ : o.isWalk = false) : KpB B W (W.putObj l o') := fun _ _ e =>
  cell_kept e (grownBy_putObj' W l o') (fun r h2 => by cases h2; exact ⟨o, h, hc⟩)
theorem KpB.of {B N : Nat} {W W' : World} (h : Below N W W') (hB : B < N) : KpB B W W' := fun i _ e => (h.cell (p := ⟨B, i, none⟩) hB).trans e
set_option maxHeartbeats 1000000 in
theorem values_any (p : Option Addr) (n c : Nat) (w : World) : Calls Tryz.prog 48 #[.slice p n c] w fun e w' => e = .returned (.func (.func 78) #[] #[.pointer (some ⟨w.heap.size, 0, none⟩)]) ∧ w' = w.alloc (.cells #[.slice p n c] 22) := by
  have hmf : ∀ (fn : Fn) (first cap : Array Value) (w : World), (Instr.makeFunc fn first cap).run Tryz.prog w = .ok (.func fn first cap) w := fun _ _ _ _ => rfl
  go_enter Tryz.func48, Tryz.ntmps48
  go_wp2
  go_ret
  exact ⟨rfl, rfl⟩
set_option maxRecDepth 100000 in
set_option maxHeartbeats 2000000 in
theorem values_stops (m : Nat) (hm : 1 ≤ m) (bb off c B : Nat) (L : List S3) (w : World) (hB : B < w.heap.size) (hbb : bb < w.heap.size) (p : Option Addr) (hp : L ≠ [] → p = some ⟨bb, off, none⟩) (hbox : w.cell? ⟨B, 0, none⟩ = some (.slice p L.length c)) (hL : Ts w bb off L) (hl : L.length ≤ 8192) :
    SeqStopsK Fence.wide m Tryz.prog 78 #[.pointer (some ⟨B, 0, none⟩)] (fun x : S3 => #[tv x]) (KpB bb) (fun xs => xs = L) (fun pre => pre <+: L) L.length w := fun l J Jx W hW hJ _ hY h0 => by
  have c0 := (hW.cell (p := ⟨B, 0, none⟩) hB).trans hbox
  have hT : ∀ j s, L[j]? = some s → T1 W bb (off + j * 3) s := fun j s e => (hL j s e).keep hW hbb
  have HT := Lib.hid hT
  have HJ := Lib.hid hJ
  have HY := Lib.hid hY
  have H0 := Lib.hid h0
  obtain ⟨n, hn⟩ : ∃ n, n = L.length := ⟨_, rfl⟩
  have HN := Lib.hid hn
  rw [← hn] at c0 hl
  clear hT hL hbox hJ hY h0 hn
  refine callsIn_of_wp Tryz.func78 rfl trivial ?_ rfl
  simp only [Tryz.ntmps78, List.size_toArray, List.length_cons, List.length_nil, Nat.reduceAdd, Nat.reduceSub, Array.replicate_succ, Array.replicate_zero, List.push_toArray, List.append_toArray, List.nil_append, List.cons_append]
  gi_wp2
  gi_loopw [7] (fun i wr => ∃ k : Nat, k ≤ n ∧ i = .int .i64 k ∧ Hid (J (L.take k) wr) ∧ Hid (KpB bb W wr)) (fun i _ => n - (intOf i).toNat)
  case atStart => exact ⟨0, Nat.zero_le _, rfl, H0, Lib.hid (fun _ _ e => e)⟩
  case round =>
    obtain ⟨k, hk, rfl, HJk, HK⟩ := hrel
    by_cases hlt : k < n
    · have hltz : (k : Int) < n := by omega
      obtain ⟨s, hse⟩ : ∃ s, L[k]? = some s := ⟨_, List.getElem?_eq_getElem (by have := HN.out; omega)⟩
      obtain rfl := hp (fun h => by rw [h] at hse; simp at hse)
      have h1 := HT.out k s hse
      have n0 := HK.out _ _ h1.c0
      have n1 := HK.out _ _ h1.c1
      have n2 := HK.out _ _ h1.c2
      have HSE := Lib.hid hse
      obtain ⟨lo, hi, id⟩ := s
      simp only at n0 n1 n2
      have hJ2 : J (L.take k) (wr.alloc (.cells #[.int .i64 lo, .int .i64 hi, .int .u32 id] 34)) := HJ.out _ _ _ none HJk.out (World.grownBy_alloc wr _ none) (fun r e => by cases e)
      obtain ⟨fn, tm, asg, bo, hy, hY2⟩ := HY.out (L.take k) (lo, hi, id) _ hJ2 (by rw [List.length_take]; have := HN.out; omega)
      dsimp only [tv] at hy
      clear h1 hse hJ2
      gi_wp2
      refine hY2.mono ?_
      rintro e W3 (⟨rfl, hJ3, hk3⟩ | ⟨rfl, hx3⟩)
      · have HJ3 : Hid (J (L.take (k + 1)) W3) := Lib.hid (by rw [List.take_add_one, HSE.out]; exact hJ3)
        have HK3 : Hid (KpB bb W W3) := Lib.hid (fun i v e => hk3 i v (cell_al _ (HK.out i v e)))
        clear hJ3 hk3
        gi_wp2
        go_roundw
        case rel => exact ⟨k + 1, by omega, by go_num, HJ3, HK3⟩
        case measure => simp [intOf]; omega
      · have HX3 : Hid (Jx (L.take (k + 1)) W3) := Lib.hid (by rw [List.take_add_one, HSE.out]; exact hx3)
        clear hx3
        gi_wp2
        refine bodyPost_ret (results_none rfl _ _ _) rfl ?_
        exact ⟨⟨_, rfl⟩, .inr ⟨_, List.take_prefix _ _, HX3.out⟩⟩
    · have hltz : ¬ (k : Int) < n := by omega
      obtain rfl : k = n := by omega
      gi_wp2
      go_end0
      have h9 := HJk.out
      rw [HN.out, List.take_of_length_le (Nat.le_refl _)] at h9
      first | exact ⟨⟨_, rfl⟩, .inl ⟨L, rfl, h9⟩⟩ | exact ⟨⟨_, rfl⟩, .inl h9⟩ | exact .inl h9
theorem wpListIn_list {F : Fence} {k : Nat} {P : Program} {e : TypeId} {z : Value} {size bytes : Nat} (hi : (P.info? e).map (fun i => (i.zero, i.size, i.bytes)) = some (some z, size, bytes)) (hzs : z.cells.size = size) (hsz : 0 < size) (hby : bytes ≤ 64)
    {t : TypeId} (ht : P.underlying t = some (.slice e)) (w : World) {ops : Array Oper} {rest : List Oper} {o : Oper} {a : Act} {Q : Exit → Act → World → Prop} (hg : o.guard = none) (s x : Operand) (hop : o.op = Op.call { callee := Callee.builtin Builtin.append, args := #[s, x], argTypes := #[t, t] })
    (base : Nat) (v : Value) (n : Nat) (xs : List Value) (hs : a.eval s = v) (hown : w.ownsRow base e size v n xs) (p : Option Addr) (m c : Nat) (news : List Value) (hx : a.eval x = .slice p m c) (hl : news.length = m * size)
    (hsrc : Src w p m c news) (h1 : ∀ u ∈ news, u.oneCell' = true) (hn : n + m ≤ 100000) (hb : base ≤ w.heap.size)
    (hK : ∀ v' w', w'.ownsRow base e size v' (n + m) (xs ++ news) → w.grownBy w' v.ownBlock → wpListIn F k P ops Q rest (a.put o.dst v') w') :
    wpListIn F k P ops Q (o :: rest) a w := by
  refine wpListIn_plain hg fun K hK' => ?_
  obtain ⟨v', w', hrun, r1, r2, -⟩ := run_list hi hzs hsz hby ht o.type w base v n xs hown p m c news hl hsrc h1 hn hb
  unfold Oper.wpIn
  refine ⟨?_, ?_⟩
  · simp [Oper.about, hop, resolve, Target.leads, Sem.run_pure]
  · rw [Oper.semAt_plain F _ _ (by rw [hop]; intro c hc'; cases hc')]
    simp [execOp, hop, resolve, invoke, builtin, hs, hx, hrun, Result.andThen]
    exact hK' _ _ (hK v' w' r1 r2)
/-- so many have been put -/
structure ApI (w : World) (pre : List S3) (W : World) : Prop where
  box : ∃ v, Bx 22 W w.heap.size v ∧ W.ownsRow (w.heap.size + 1) 34 3 v pre.length (flatT pre)
  bel : Below w.heap.size w W
  sz : w.heap.size + 1 ≤ W.heap.size
theorem apI_own (w : World) : OwnFrom (w.heap.size + 1) (fun (pre : List S3) W => ApI w pre W) := by
  rintro pre X Y row ⟨⟨v, hv, hr⟩, hb, hs⟩ hg hrow
  have hrow' : ∀ r, row = some r → w.heap.size + 1 ≤ r ∧ ∃ o : Obj, X.heap[r]? = some o ∧ o.isCells = false := hrow
  refine ⟨⟨v, (hg.block _ (by omega) (fun e => by have := (hrow' _ e.symm).1; omega)).trans hv, ?_⟩, hb.grown hg hb.size (fun k e => by have := (hrow' k e).1; omega), Nat.le_trans hs hg.size⟩
  refine hr.kept hg ?_
  rcases hr.2 with ⟨rfl, _⟩ | ⟨g, cap, cur, rfl, _, hgb, _⟩
  · exact .inl rfl
  · refine .inr fun e' => ?_
    obtain ⟨_, o, ho, hc⟩ := hrow' g (by simpa [Value.ownBlock] using e'.symm)
    rw [hgb] at ho
    cases ho
    cases hc
set_option maxRecDepth 100000 in
set_option maxHeartbeats 4000000 in
theorem append_any (bb off c B : Nat) (L : List S3) (w : World) (hB : B < w.heap.size) (hbb : bb < w.heap.size) (p : Option Addr) (hp : L ≠ [] → p = some ⟨bb, off, none⟩) (hbox : w.cell? ⟨B, 0, none⟩ = some (.slice p L.length c)) (hL : Ts w bb off L) (hl : L.length ≤ 8192) :
    Calls Tryz.prog 107 #[.slice none 0 0, .func (.func 78) #[] #[.pointer (some ⟨B, 0, none⟩)]] w fun e w' => ∃ v, e = .returned v ∧ w'.ownsRow w.heap.size 34 3 v L.length (flatT L) ∧ Below w.heap.size w w' := by
  obtain ⟨W0, hW0⟩ : ∃ W0, w.alloc (.cells #[.slice none 0 0] 22) = W0 := ⟨_, rfl⟩
  have hsz : W0.heap.size = w.heap.size + 1 := by rw [← hW0]; simp
  have hb0 : Below w.heap.size w W0 := by rw [← hW0]; exact (Below.refl _ w).alloc (Nat.le_refl _) _
  have hA0 : ApI w [] W0 := ⟨⟨.slice none 0 0, by rw [← hW0]; exact Bx.new w (.slice none 0 0) 22, World.ownsRow_nil ..⟩, hb0, by omega⟩
  have HSS := Lib.hid (values_stops 8 (by omega) bb off c B L W0 (by omega) (by omega) p hp ((hb0.cell (p := ⟨B, 0, none⟩) hB).trans hbox) (fun j s e => (hL j s e).keep hb0 hbb) hl)
  refine (callsIn_wide (n := 9)).1 ?_
  refine callsIn_of_wp_marks Tryz.func107 rfl trivial ?_ rfl
  simp only [Tryz.ntmps107, List.size_toArray, List.length_cons, List.length_nil, Nat.reduceAdd, Nat.reduceSub, Array.replicate_succ, Array.replicate_zero, List.push_toArray, List.append_toArray, List.nil_append, List.cons_append]
  gi_wp2
  clear hW0 hL hbox
  refine wpIn_rangeFunc_ownH rfl (by omega) (gf := 78) (lb := #[.pointer (some ⟨B, 0, none⟩)]) rfl trivial (enters_of Tryz.func78 (by kernel_rfl) rfl)
    HSS.out kpB_t kpB_b (Below.refl _ _) (fun _ => rfl)
    (fun pre W => ApI w pre W)
    (fun _ _ _ => False)
    (by rw [hsz]; exact apI_own w)
    (fun _ _ _ _ _ hs _ _ => hs)
    hA0
    (fun x a' W => ∃ Bv, w.heap.size < Bv ∧ T1 W Bv 0 x ∧ a' = { tmps := #[.slice none 0 0, .func (.func 78) #[] #[.pointer (some ⟨B, 0, none⟩)], .pointer (some ⟨w.heap.size, 0, none⟩), undef, .slice none 0 0, .pointer (some ⟨Bv, 0, none⟩), .func (.func 78) #[] #[.pointer (some ⟨B, 0, none⟩)], tv x, undef, undef, undef, undef, undef], defers := [] })
    ?hax ?assign ?body ?done ?stop
  case hax =>
    rintro x a' - X Y row ⟨Bv, h1, h2, h3⟩ hg hrow
    refine ⟨Bv, h1, ⟨cell_kept h2.c0 hg (fun r e => (hrow r e).2), cell_kept h2.c1 hg (fun r e => (hrow r e).2), cell_kept h2.c2 hg (fun r e => (hrow r e).2)⟩, h3⟩
  case assign =>
    rintro l pre ⟨lo, hi, id⟩ W K hi' hK
    have hw1 : w.heap.size < W.heap.size := by have := hi'.sz; omega
    have hA1 : ApI w pre (W.alloc (.cells #[.int .i64 lo, .int .i64 hi, .int .u32 id] 34)) := apI_own w pre _ _ none hi' (World.grownBy_alloc W _ none) (fun r e => by cases e)
    have hT := T1.new W (lo, hi, id) 34
    have HK := Lib.hid (hK _ _ ((KeepsOthers.alloc _ _).from _) (fun i v e => cell_al _ e) hA1 ⟨W.heap.size, hw1, hT, rfl⟩)
    clear hA1 hT hK hi'
    dsimp only [tv]
    gi_wp2
    exact HK.out
  case body =>
    rintro l pre ⟨lo, hi, id⟩ a' W hl' ⟨r, hr⟩ hA ⟨Bv, hBv, hT, rfl⟩ hlt
    obtain ⟨v, hv, hrow⟩ := hA.box
    have b0 := hv.cell
    have t0 := hT.c0
    have t1 := hT.c1
    have t2 := hT.c2
    have HV := Lib.hid hv
    have HR := Lib.hid hrow
    have HA := Lib.hid hA
    have hsW := hA.sz
    have HLE := Lib.hid (hlt : pre.length < L.length)
    obtain ⟨m, hm⟩ : ∃ m, m = pre.length := ⟨_, rfl⟩
    have HM := Lib.hid hm
    have hml : m < 8192 := by have : pre.length < L.length := hlt; omega
    have HSRC := Lib.hid (TsS.src (c := 1) (ns := [(lo, hi, id)]) (w := W.alloc (.cells #[.int .i64 lo, .int .i64 hi, .int .u32 id] 34)) (p := some ⟨W.heap.size, 0, none⟩) (.inr ⟨W.heap.size, 0, rfl, fun j s e => by
      cases j with
      | zero => simp at e; subst e; exact T1.new W (lo, hi, id) 34
      | succ j => simp at e⟩) (fun h => by cases h))
    rw [← hm] at HR
    clear hv hrow hA hT hr hlt hm
    gi_wp2_with (gi_at_builtin; refine wpListIn_list info_point rfl (by decide) (by decide) under_points _ rfl (.tmp 8) (.tmp 10) rfl (w.heap.size + 1) v m _ rfl (HR.out.alloc _) (some ⟨W.heap.size, 0, none⟩) 1 1 (flatT [(lo, hi, id)]) rfl rfl HSRC.out (flatT_one _) (by omega) (by simp; omega) ?_; intro v' w1 h1 h2; have h3 : w1.ownsRow (w.heap.size + 1) 34 3 v' (m + 1) (flatT (pre ++ [(lo, hi, id)])) := (by rw [flatT_append]; exact h1); obtain ⟨-, q, cq, rfl, -⟩ := row_ts h3; have hne : ∀ k, v.ownBlock = some k → w.heap.size + 1 ≤ k := own_geB HR.out; have hv1 : Bx 22 w1 w.heap.size v := ((h2.block w.heap.size (by simp; omega) (fun e => by have := hne _ e.symm; omega)).trans (HV.out.all _)); have c1 := hv1.cell; have c2 := hv1.free; have H2 := Lib.hid h2; have H3 := Lib.hid h3; have HV1 := Lib.hid hv1; have HNE := Lib.hid hne; clear h1 h2 h3 hv1 hne b0)
    have hbW : Below w.heap.size W w1 := ((Below.refl w.heap.size W).alloc (by omega) _).grown H2.out (by simp; omega) (fun k e => by have := HNE.out k e; omega)
    refine ⟨?_, KpB.of (hbW.setCell (p := ⟨w.heap.size, 0, none⟩) (Nat.le_refl _) _) hbb, ⟨⟨_, HV1.out.set _, ?_⟩, (HA.out.bel.trans hbW).setCell (p := ⟨w.heap.size, 0, none⟩) (Nat.le_refl _) _, ?_⟩⟩
    · exact (((KeepsOthers.alloc W _).trans (KeepsOthers.of_grownBy H2.out (fun j o e ho => by
        obtain ⟨cur, hc⟩ := row_type (HR.out.alloc _) e
        rw [hc] at ho
        cases ho
        rfl))).trans (KeepsOthers.setCell _ _ _)).from _
    · have := row_off (S := [w.heap.size]) H3.out ((Off.refl [w.heap.size] w1).set ⟨w.heap.size, 0, none⟩ (.slice q (m + 1) cq) (.inl (by simp))) (fun k hk => by simp at hk; omega)
      rw [List.length_append, List.length_singleton, ← HM.out]
      exact this
    · have := hbW.size
      have h5 := H2.out.size
      simp at h5 ⊢
      omega
  case done =>
    rintro D ys W hD rfl hA hK
    obtain ⟨v, hv, hrow⟩ := hA.box
    have b0 := hv.cell
    have HR := Lib.hid hrow
    have HB := Lib.hid hA.bel
    clear hv hrow hA
    gi_wp2
    refine ⟨by simp, .inl ⟨_, _, rfl, run_takeDeferred hK, ?_⟩⟩
    refine ⟨_, results_tmp rfl _ _ _, v, rfl, ?_, ?_⟩
    · have h1 := HR.out.kept (grownBy_putObj' W D (.deferred none)) (by
        rcases HR.out.2 with ⟨rfl, _⟩ | ⟨g, cap, cur, rfl, _, hgb, _⟩
        · exact .inl rfl
        · refine .inr fun e' => ?_
          have e2 : D = g := by simp [Value.ownBlock] at e'; exact e'.symm
          rw [e2, hgb] at hK
          cases hK)
      exact row_at h1 (fun k hk => ⟨rfl, by have := own_geB h1 k hk; omega⟩)
    · exact HB.out.grown (grownBy_putObj' W D (.deferred none)) HB.out.size (fun k e => by cases e; omega)
  case stop =>
    rintro D c pre W _ _ h _
    exact h.elim
/-- an iterator over a list, collected -/
theorem collect_any (bb off c B : Nat) (L : List S3) (w : World) (hB : B < w.heap.size) (hbb : bb < w.heap.size) (p : Option Addr) (hp : L ≠ [] → p = some ⟨bb, off, none⟩) (hbox : w.cell? ⟨B, 0, none⟩ = some (.slice p L.length c)) (hL : Ts w bb off L) (hl : L.length ≤ 8192) :
    Calls Tryz.prog 76 #[.func (.func 78) #[] #[.pointer (some ⟨B, 0, none⟩)]] w fun e w' => ∃ v, e = .returned v ∧ w'.ownsRow w.heap.size 34 3 v L.length (flatT L) ∧ Below w.heap.size w w' := by
  have HC := Lib.hid (append_any bb off c B L w hB hbb p hp hbox hL hl)
  clear hbox hL hl
  go_enter Tryz.func76, Tryz.ntmps76
  go_wp2_with (go_at_call 107; (refine HC.out.mono ?_); rintro e w' ⟨v, rfl, hr, hb⟩; have HR := Lib.hid hr; have HB := Lib.hid hb; clear hr hb)
  go_ret
  exact ⟨v, rfl, HR.out, HB.out⟩
end Go.Proofs.YtldmajifkmcdcaaGreat.Ln
/-
  Go's own sort of points, by a function that is handed in: the library's contract laid at this translation, and what it says here. No condition but those typed at each theorem.
-/
namespace Go.Proofs
open Go.Shelf
def Tryz.sortSp_ren : Go.Shelf.Ren := ⟨fun | 6 => 77 | 15 => 32 | 14 => 108 | 28 => 60 | 29 => 61 | 20 => 124 | 21 => 125 | 22 => 126 | 23 => 127 | 24 => 128 | 25 => 129 | 26 => 130 | 27 => 131 | 46 => 138 | 47 => 120 | 48 => 121 | 49 => 139 | 50 => 140 | 57 => 147 | n => n, fun | 22 => 22 | 24 => 34 | 25 => 106 | 3 => 3 | 39 => 85 | 0 => 0 | 53 => 32 | 55 => 139 | 4 => 4 | 46 => 184 | 45 => 183 | 50 => 70 | 5 => 5 | 9 => 9 | 66 => 202 | 70 => 206 | 76 => 219 | 77 => 140 | n => n, fun | n => n⟩
theorem Tryz.sortSp : Go.Proofs.SlLaysF0.n6 Tryz.prog Tryz.sortSp_ren := {
  mixed := by kernel_rfl
  f6 := ⟨Tryz.f77.name, by decide, Tryz.func77.trans (congrArg some (by kernel_rfl))⟩
  f14 := ⟨Tryz.f108.name, by decide, Tryz.func108.trans (congrArg some (by kernel_rfl))⟩
  f15 := Tryz.func32.trans (congrArg some (by kernel_rfl))
  f20 := ⟨Tryz.f124.name, by decide, Tryz.func124.trans (congrArg some (by kernel_rfl))⟩
  f21 := ⟨Tryz.f125.name, by decide, Tryz.func125.trans (congrArg some (by kernel_rfl))⟩
  f22 := ⟨Tryz.f126.name, by decide, Tryz.func126.trans (congrArg some (by kernel_rfl))⟩
  f23 := ⟨Tryz.f127.name, by decide, Tryz.func127.trans (congrArg some (by kernel_rfl))⟩
  f24 := ⟨Tryz.f128.name, by decide, Tryz.func128.trans (congrArg some (by kernel_rfl))⟩
  f25 := ⟨Tryz.f129.name, by decide, Tryz.func129.trans (congrArg some (by kernel_rfl))⟩
  f26 := ⟨Tryz.f130.name, by decide, Tryz.func130.trans (congrArg some (by kernel_rfl))⟩
  f27 := ⟨Tryz.f131.name, by decide, Tryz.func131.trans (congrArg some (by kernel_rfl))⟩
  f28 := Tryz.func60.trans (congrArg some (by kernel_rfl))
  f29 := Tryz.func61.trans (congrArg some (by kernel_rfl))
  f46 := ⟨Tryz.f138.name, by decide, Tryz.func138.trans (congrArg some (by kernel_rfl))⟩
  f47 := Tryz.func120.trans (congrArg some (by kernel_rfl))
  f48 := Tryz.func121.trans (congrArg some (by kernel_rfl))
  f49 := ⟨Tryz.f139.name, by decide, Tryz.func139.trans (congrArg some (by kernel_rfl))⟩
  f50 := ⟨Tryz.f140.name, by decide, Tryz.func140.trans (congrArg some (by kernel_rfl))⟩
  f57 := ⟨Tryz.f147.name, by decide, Tryz.func147.trans (congrArg some (by kernel_rfl))⟩
  t0 := Tryz.underlying0
  a0 := Tryz.isAgg0
  z0 := Tryz.sizeOf0
  v0 := Tryz.zeroValue0
  t3 := Tryz.underlying3
  a3 := Tryz.isAgg3
  z3 := Tryz.sizeOf3
  v3 := Tryz.zeroValue3
  t4 := Tryz.underlying4
  a4 := Tryz.isAgg4
  z4 := Tryz.sizeOf4
  v4 := Tryz.zeroValue4
  t5 := Tryz.underlying5
  a5 := Tryz.isAgg5
  z5 := Tryz.sizeOf5
  v5 := Tryz.zeroValue5
  t9 := Tryz.underlying9
  a9 := Tryz.isAgg9
  z9 := Tryz.sizeOf9
  v9 := Tryz.zeroValue9
  t22 := Tryz.underlying22
  a22 := Tryz.isAgg22
  z22 := Tryz.sizeOf22
  v22 := Tryz.zeroValue22
  t25 := Tryz.underlying106
  a25 := Tryz.isAgg106
  z25 := Tryz.sizeOf106
  v25 := Tryz.zeroValue106
  t39 := Tryz.underlying85
  a39 := Tryz.isAgg85
  z39 := Tryz.sizeOf85
  v39 := Tryz.zeroValue85
  t45 := Tryz.underlying183
  a45 := Tryz.isAgg183
  z45 := Tryz.sizeOf183
  v45 := Tryz.zeroValue183
  t46 := Tryz.underlying184
  a46 := Tryz.isAgg184
  z46 := Tryz.sizeOf184
  v46 := Tryz.zeroValue184
  t50 := Tryz.underlying70
  a50 := Tryz.isAgg70
  z50 := Tryz.sizeOf70
  v50 := Tryz.zeroValue70
  t53 := Tryz.underlying32
  a53 := Tryz.isAgg32
  z53 := Tryz.sizeOf32
  v53 := Tryz.zeroValue32
  t55 := Tryz.underlying139
  a55 := Tryz.isAgg139
  z55 := Tryz.sizeOf139
  v55 := Tryz.zeroValue139
  t66 := Tryz.underlying202
  a66 := Tryz.isAgg202
  z66 := Tryz.sizeOf202
  v66 := Tryz.zeroValue202
  t70 := Tryz.underlying206
  a70 := Tryz.isAgg206
  z70 := Tryz.sizeOf206
  v70 := Tryz.zeroValue206
  t76 := Tryz.underlying219
  a76 := Tryz.isAgg219
  z76 := Tryz.sizeOf219
  v76 := Tryz.zeroValue219
  t77 := Tryz.underlying140
  a77 := Tryz.isAgg140
  z77 := Tryz.sizeOf140
  v77 := Tryz.zeroValue140 }
end Go.Proofs
namespace Go.Proofs.YtldmajifkmcdcaaGreat.Ln
open Go.RowKit Go.Sort Go.Lib
theorem tvs3 (x : S3) : (tvs x).length = 3 := rfl
theorem holds_ts {w : World} {g : Nat} {L : List S3} (ht : Ts w g 0 L) (hf : ∀ k, w.frozen? ⟨g, k, none⟩ = false) : HoldsK tvs 3 w g 0 L.toArray := by
  intro j hj
  rw [size_flatK] at hj
  have hjl : j < L.length * 3 := by simpa using hj
  refine ⟨?_, hf _⟩
  rw [id_eq, get_flatK _ _ _ _ hj]
  have hd : j / 3 < L.length := by omega
  have hs : L[j / 3]? = some L[j / 3] := List.getElem?_eq_getElem hd
  have h1 := ht _ _ hs
  have e1 : L.toArray[j / 3]! = L[j / 3] := by simp [hd]
  rw [e1]
  generalize L[j / 3] = s at *
  have hm : j % 3 = 0 ∨ j % 3 = 1 ∨ j % 3 = 2 := by omega
  rcases hm with e | e | e
  · rw [e, show 0 + j = 0 + j / 3 * 3 by omega]; exact h1.c0
  · rw [e, show 0 + j = 0 + j / 3 * 3 + 1 by omega]; exact h1.c1
  · rw [e, show 0 + j = 0 + j / 3 * 3 + 2 by omega]; exact h1.c2
theorem ts_holds {w : World} {g : Nat} {d : Array S3} (h : HoldsK tvs 3 w g 0 d) : Ts w g 0 d.toList := by
  intro j s hs
  have hj : j < d.size := by simpa using (List.getElem?_eq_some_iff.1 hs).1
  have e0 : d[j]! = s := by
    have := (List.getElem?_eq_some_iff.1 hs).2
    simp [hj]
    simpa using this
  have key : ∀ i, i < 3 → w.cell? ⟨g, 0 + j * 3 + i, none⟩ = some (tvs s)[i]! := fun i hi => by
    have h1 := (h (j * 3 + i) (by rw [size_flatK]; omega)).1
    rw [id_eq, get_flatK _ _ _ _ (by omega), show (j * 3 + i) / 3 = j by omega, show (j * 3 + i) % 3 = i by omega, e0, ← Nat.add_assoc] at h1
    exact h1
  exact ⟨key 0 (by decide), key 1 (by decide), key 2 (by decide)⟩
theorem off_sort {w : World} {g n : Nat} {d : Array S3} {os : Array Obj} : Off [g] w (sortWorldK tvs 3 w g 0 n d os) := by
  refine ⟨rfl, rfl, rfl, ?_, fun k hk hg => ?_⟩
  · unfold sortWorldK; rw [size_grow, size_putRowK]; show w.heap.size ≤ w.heap.size + _; omega
  · have hgk : g ≠ k := by simp at hg; omega
    show ((putRowK tvs 3 (Sort.ahead w n) g 0 d).heap ++ os)[k]? = w.heap[k]?
    rw [Array.getElem?_append_left (by rw [size_putRowK]; exact hk)]
    unfold putRowK putRow mapBlock
    simp only [Array.getElem?_modify, if_neg hgk]
    rfl
theorem cmpLays {f : Nat} {cf : S3 → S3 → Int} (hA : ∀ X s t, Calls Tryz.prog f #[tv s, tv t] X fun e X' => e = .returned (.int .i64 (cf s t)) ∧ Grw X X') (g size : Nat) (w : World) : CmpLays Tryz.prog f #[] tvs 3 cf g 0 size w :=
  fun _ _ _ _ x y => (hA _ x y).mono fun _ _ h => h
set_option maxRecDepth 100000 in
theorem sort_some {w : World} {g cap : Nat} {L : List S3} (ht : Ts w g 0 L) (hf : ∀ k, w.frozen? ⟨g, k, none⟩ = false) (hg : g < w.heap.size) (hl : L.length ≤ 8192) (f : Nat) (cf : S3 → S3 → Int) (eg : ∀ args w, (callFunc f args).run Tryz.prog w = .ok (.enter f args) w) (hO : SWO (ltOf cf))
    (hA : ∀ X s t, Calls Tryz.prog f #[tv s, tv t] X fun e X' => e = .returned (.int .i64 (cf s t)) ∧ Grw X X') :
    Calls Tryz.prog 77 #[.slice (some ⟨g, 0, none⟩) L.length cap, .func (.func f) #[] #[]] w fun e w' => e = .returned (.tuple #[]) ∧ ∃ L', L'.Perm L ∧ L'.Pairwise (fun s t => ¬ cf t s < 0) ∧ Ts w' g 0 L' ∧ Off [g] w w' := by
  have h := AnyQ.slices_SortFunc Tryz.sortSp 3 Tryz.isAgg34 Tryz.sizeOf34 tvs tvs3 tvs_one cf hO f #[] g 0 cap L.toArray w eg (cmpLays hA g _ w) (holds_ts ht hf) hg (by simp; omega)
  have hs : L.toArray.size = L.length := by simp
  rw [hs] at h
  refine h.mono ?_
  rintro e w' ⟨rfl, d', n, os, hp, hso, rfl⟩
  refine ⟨rfl, d'.toList, ?_, ?_, ?_, off_sort⟩
  · have h1 := hp.2.2
    have h2 : d'.size = L.length := by rw [hp.1, hs]
    rw [← h2] at h1
    rw [show (d'.extract 0 d'.size) = d' by simp] at h1
    rw [h2, show L.toArray.extract 0 L.length = L.toArray by simp] at h1
    exact h1
  · rw [List.pairwise_iff_getElem]
    intro i j hi hj hij
    have hi' : i < d'.size := by simpa using hi
    have hj' : j < d'.size := by simpa using hj
    have := hso i j (Nat.zero_le _) hij (by rw [← hs, ← hp.1]; exact hj')
    unfold ltOf at this
    simp [hi', hj'] at this
    simp
    exact this
  · exact ts_holds (holdsK_sortWorldK tvs 3 w g 0 n L.toArray d' os hg (holds_ts ht hf) (by rw [hp.1]))
set_option maxRecDepth 100000 in
theorem insC_nil (fv : Value) (w : World) : Calls Tryz.prog 124 #[.slice none 0 0, .int .i64 0, .int .i64 0, fv] w fun e w' => e = .returned (.tuple #[]) ∧ w' = w := by
  go_enter Tryz.func124, Tryz.ntmps124
  go_wp2
  go_loopw [8] (fun vi wr => vi = .int .i64 1 ∧ wr = w) (fun _ _ => 0)
  case atStart => exact ⟨rfl, rfl⟩
  case round =>
    obtain ⟨rfl, rfl⟩ := hrel
    go_wp2
    go_end0
    exact ⟨rfl, rfl⟩
set_option maxRecDepth 100000 in
theorem pdqC_nil (lim : Int) (fv : Value) (w : World) : Calls Tryz.prog 108 #[.slice none 0 0, .int .i64 0, .int .i64 0, .int .i64 lim, fv] w fun e w' => e = .returned (.tuple #[]) ∧ w' = w := by
  go_enter Tryz.func108, Tryz.ntmps108
  go_wp2
  go_loopw [1, 2, 3] (fun s1 s2 s3 wr => s1 = .int .i64 0 ∧ s2 = .int .i64 0 ∧ s3 = .int .i64 lim ∧ wr = w) (fun _ _ _ _ => 0)
  case atStart => exact ⟨rfl, rfl, rfl, rfl⟩
  case round =>
    obtain ⟨rfl, rfl, rfl, rfl⟩ := hrel
    go_wp2_with (go_at_call 124; (with_reducible refine (insC_nil _ _).mono ?_); rintro e w1 ⟨rfl, rfl⟩)
    refine bodyPost_ret (results_none rfl _ _ _) rfl ?_
    exact ⟨rfl, rfl⟩
set_option maxRecDepth 100000 in
theorem sortC_nil (fv : Value) (w : World) : Calls Tryz.prog 77 #[.slice none 0 0, fv] w fun e w' => e = .returned (.tuple #[]) ∧ w' = w := by
  have HL' := Lib.hid (fun X => Tryz.bits_Len 0 X (by omega) (by omega))
  go_enter Tryz.func77, Tryz.ntmps77
  go_wp2_with (first
    | (go_at_call 32; (with_reducible refine (HL'.out _).mono ?_); rintro e w1 ⟨rfl, rfl⟩)
    | (go_at_call 108; (with_reducible refine (pdqC_nil _ _ _).mono ?_); rintro e w1 ⟨rfl, rfl⟩))
  go_end0
  exact ⟨rfl, rfl⟩
/-- what is sorted: a list of its own -/
def Srt (cf : S3 → S3 → Int) (w : World) (L : List S3) (e : Ending) (w' : World) : Prop :=
  ∃ q c L', e = .returned (.slice q L.length c) ∧ L'.Perm L ∧ L'.Pairwise (fun s t => ¬ cf t s < 0) ∧ TsS w' q L' ∧ L.length ≤ c ∧ (∀ x off, q = some ⟨x, off, none⟩ → w.heap.size ≤ x ∧ x < w'.heap.size) ∧ (q = none → c = 0) ∧ Below w.heap.size w w'
set_option maxRecDepth 100000 in
set_option maxHeartbeats 1600000 in
theorem sorted_any (p : Option Addr) (c B : Nat) (L : List S3) (w : World) (hB : B < w.heap.size) (hbox : w.cell? ⟨B, 0, none⟩ = some (.slice p L.length c)) (hL : TsS w p L) (hl : L.length ≤ 8192) (f : Nat) (cf : S3 → S3 → Int) (eg : ∀ args w, (callFunc f args).run Tryz.prog w = .ok (.enter f args) w) (hO : SWO (ltOf cf))
    (hA : ∀ X s t, Calls Tryz.prog f #[tv s, tv t] X fun e X' => e = .returned (.int .i64 (cf s t)) ∧ Grw X X') :
    Calls Tryz.prog 47 #[.func (.func 78) #[] #[.pointer (some ⟨B, 0, none⟩)], .func (.func f) #[] #[]] w (Srt cf w L) := by
  have hC : Calls Tryz.prog 76 #[.func (.func 78) #[] #[.pointer (some ⟨B, 0, none⟩)]] w fun e w' => ∃ v, e = .returned v ∧ w'.ownsRow w.heap.size 34 3 v L.length (flatT L) ∧ Below w.heap.size w w' := by
    rcases hL with h0 | ⟨bb, off, rfl, ht⟩
    · exact collect_any B 0 c B L w hB hB p (fun h => absurd h0 h) hbox (fun j s e => by rw [h0] at e; simp at e) hl
    · by_cases h0 : L = []
      · exact collect_any B 0 c B L w hB hB _ (fun h => absurd h0 h) hbox (fun j s e => by rw [h0] at e; simp at e) hl
      · exact collect_any bb off c B L w hB (TsS.lt (.inr ⟨bb, off, rfl, ht⟩) h0) _ (fun _ => rfl) hbox ht hl
  have HC := Lib.hid hC
  have HS := Lib.hid (fun X g cap (ht : Ts X g 0 L) hf hg => sort_some (w := X) (g := g) (cap := cap) ht hf hg hl f cf eg hO hA)
  obtain ⟨n, hn⟩ : ∃ n, n = L.length := ⟨_, rfl⟩
  have HN := Lib.hid hn
  rw [← hn] at HC HS
  clear hC hbox hL hA hn
  go_enter Tryz.func47, Tryz.ntmps47
  go_upto_region 2 with (go_at_call 76; (refine HC.out.mono ?_); rintro e w1 ⟨v, rfl, hr, hb⟩; have HR := Lib.hid hr; have HB := Lib.hid hb; clear hr hb)
  obtain ⟨hlen, q, cq, rfl, hts, hq1, hq2, -, hq3⟩ := row_ts HR.out
  rcases hq3 with rfl | ⟨g, rfl, hgl⟩
  · obtain ⟨rfl, rfl⟩ := hq1 rfl
    have HT := Lib.hid hts
    clear hts hq1 hq2 hlen
    go_wp2_with (go_at_call 77; (with_reducible refine (sortC_nil _ _).mono ?_); rintro e w2 ⟨rfl, rfl⟩)
    go_ret
    have hL0 : L = [] := List.length_eq_zero_iff.1 HN.out.symm
    unfold Srt
    rw [← HN.out]
    exact ⟨none, 0, [], rfl, by rw [hL0], List.Pairwise.nil, .inl rfl, Nat.le_refl _, fun x off h => (by cases h), fun _ => rfl, HB.out⟩
  · have hge : w.heap.size ≤ g := own_geB HR.out g rfl
    have hf : ∀ k, w1.frozen? ⟨g, k, none⟩ = false := by
      obtain ⟨cur, hc⟩ := row_type HR.out (k := g) rfl
      intro k; simp [World.frozen?, hc]
    have ht : Ts w1 g 0 L := by
      rcases hts with h0 | ⟨b, off, e, h⟩
      · intro j s hj; rw [h0] at hj; simp at hj
      · cases e; exact h
    have HSS := Lib.hid (HS.out w1 g cq ht hf hgl)
    clear hts hq1 hlen ht hf
    go_wp2_with (go_at_call 77; (refine HSS.out.mono ?_); rintro e w2 ⟨rfl, L', h1, h2, h3, h4⟩; have H1 := Lib.hid h1; have H2 := Lib.hid h2; have H3 := Lib.hid h3; have H4 := Lib.hid h4; clear h1 h2 h3 h4)
    go_ret
    unfold Srt
    rw [← HN.out]
    exact ⟨_, cq, L', rfl, H1.out, H2.out.imp (fun h => by omega), .inr ⟨g, 0, rfl, H3.out⟩, hq2, fun x off h => (by cases h; exact ⟨hge, by have := H4.out.size; omega⟩), fun h => (by cases h), HB.out.trans ((H4.out.below HB.out.size (fun k hk => by simp at hk; omega)))⟩
end Go.Proofs.YtldmajifkmcdcaaGreat.Ln
