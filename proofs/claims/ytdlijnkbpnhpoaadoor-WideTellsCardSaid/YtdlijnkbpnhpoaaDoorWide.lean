/-
  What wide.Of, Add, Sub, Cmp, Mul, Diff and the helpers tell, call by call, for every argument of their types; conditions: those typed at each theorem (ranges of the numbers).
-/
import Derived.Test.YtdlijnkbpnhpoaaDoorRows
import Derived.Test.YtdlijnkbpnhpoaaDoorMath
import Derived.Test.YtdlijnkbpnhpoaaDoorShelf
import Derived.WalkKit
import Derived.WalkSpells
import Derived.WalkLawsBesides
import Derived.Lib.Hide
import Derived.Laws.Externs
import Derived.Shelf.Spec.BitsCarry
namespace Go.Proofs.YtdlijnkbpnhpoaaDoor
open Go.RowKit

theorem call28 (x y c : Int) (hx : 0 ≤ x) (hy : 0 ≤ y) (hc0 : 0 ≤ c) (hc : c ≤ 1) (w : World) :
    (callFunc 28 #[.int .u64 x, .int .u64 y, .int .u64 c]).run Tryd.prog w = .ok (.value (.tuple #[.int .u64 (sLo x y c), .int .u64 (sHi x y c)])) w := by
  rw [run_callFunc_extern Tryd.func28 (by kernel_rfl) (by kernel_rfl) (by kernel_rfl) (e := add64Entry) (by kernel_rfl), run_add64 x y c hx hy hc0 hc]
  rfl

theorem call32 (x y c : Int) (hx : 0 ≤ x) (hx' : x < 18446744073709551616) (hy : 0 ≤ y) (hy' : y < 18446744073709551616) (hc0 : 0 ≤ c) (hc : c ≤ 1) (w : World) :
    (callFunc 32 #[.int .u64 x, .int .u64 y, .int .u64 c]).run Tryd.prog w = .ok (.value (.tuple #[.int .u64 (dLo x y c), .int .u64 (dHi x y c)])) w := by
  obtain ⟨x, rfl⟩ := Int.eq_ofNat_of_zero_le hx
  obtain ⟨y, rfl⟩ := Int.eq_ofNat_of_zero_le hy
  obtain ⟨c, rfl⟩ := Int.eq_ofNat_of_zero_le hc0
  rw [run_callFunc_extern Tryd.func32 (by kernel_rfl) (by kernel_rfl) (by kernel_rfl) (e := sub64Entry) (by kernel_rfl), run_sub64 x y c (by omega)]
  have e1 : (((x + 18446744073709551616 - y - c) % 18446744073709551616 : Nat) : Int) = dLo x y c := by unfold dLo; omega
  have e2 : ((if x < y + c then 1 else 0 : Nat) : Int) = dHi x y c := by unfold dHi; split <;> split <;> omega
  rw [e1, e2]
  rfl

set_option maxRecDepth 100000 in
set_option maxHeartbeats 400000 in
theorem add_yes (a b : Nat) (w : World) (h : a + b < B128) :
    Calls Tryd.prog 10 #[.agg #[.int .u64 (hi a), .int .u64 (lo a)], .agg #[.int .u64 (hi b), .int .u64 (lo b)]] w fun e w' => e = .returned (.tuple #[.agg #[.int .u64 (hi (a + b)), .int .u64 (lo (a + b))], .bool true]) ∧ Below w.heap.size w w' := by
  have e1 : ∀ W, (callFunc 28 #[.int .u64 (lo a), .int .u64 (lo b), .int .u64 0]).run Tryd.prog W = .ok (.value (.tuple #[.int .u64 (sLo (lo a) (lo b) 0), .int .u64 (sHi (lo a) (lo b) 0)])) W := fun W => call28 _ _ 0 (lo_nn a) (lo_nn b) (by omega) (by omega) W
  have e2 : ∀ W, (callFunc 28 #[.int .u64 (hi a), .int .u64 (hi b), .int .u64 (sHi (lo a) (lo b) 0)]).run Tryd.prog W = .ok (.value (.tuple #[.int .u64 (sLo (hi a) (hi b) (sHi (lo a) (lo b) 0)), .int .u64 (sHi (hi a) (hi b) (sHi (lo a) (lo b) 0))])) W := fun W => call28 _ _ _ (hi_nn a) (hi_nn b) (carry01 a b).1 (carry01 a b).2 W
  have t := add_fits a b h
  have hh := Lib.hid h
  clear h
  go_enter Tryd.func10, Tryd.ntmps10
  go_wp2
  rw [add_hi a b hh.out, add_lo a b]
  exact bodyPost_ret (v := .tuple #[.agg #[.int .u64 (hi (a + b)), .int .u64 (lo (a + b))], .bool true]) (by simp [results, Tryd.results10, go_sem]) rfl ⟨rfl, ((((Below.refl _ _).alloc (Nat.le_refl _) _).alloc (by simp) _).alloc (by simp; omega) _)⟩

set_option maxRecDepth 100000 in
set_option maxHeartbeats 400000 in
theorem add_no (a b : Nat) (w : World) (h : B128 ≤ a + b) :
    Calls Tryd.prog 10 #[.agg #[.int .u64 (hi a), .int .u64 (lo a)], .agg #[.int .u64 (hi b), .int .u64 (lo b)]] w fun e w' => e = .returned (.tuple #[.agg #[.int .u64 0, .int .u64 0], .bool false]) ∧ Below w.heap.size w w' := by
  have e1 : ∀ W, (callFunc 28 #[.int .u64 (lo a), .int .u64 (lo b), .int .u64 0]).run Tryd.prog W = .ok (.value (.tuple #[.int .u64 (sLo (lo a) (lo b) 0), .int .u64 (sHi (lo a) (lo b) 0)])) W := fun W => call28 _ _ 0 (lo_nn a) (lo_nn b) (by omega) (by omega) W
  have e2 : ∀ W, (callFunc 28 #[.int .u64 (hi a), .int .u64 (hi b), .int .u64 (sHi (lo a) (lo b) 0)]).run Tryd.prog W = .ok (.value (.tuple #[.int .u64 (sLo (hi a) (hi b) (sHi (lo a) (lo b) 0)), .int .u64 (sHi (hi a) (hi b) (sHi (lo a) (lo b) 0))])) W := fun W => call28 _ _ _ (hi_nn a) (hi_nn b) (carry01 a b).1 (carry01 a b).2 W
  have t := add_over a b h
  clear h
  go_enter Tryd.func10, Tryd.ntmps10
  go_wp2
  exact bodyPost_ret (v := .tuple #[.agg #[.int .u64 0, .int .u64 0], .bool false]) (by simp [results, Tryd.results10, go_sem]) rfl ⟨rfl, ((((Below.refl _ _).alloc (Nat.le_refl _) _).alloc (by simp) _).alloc (by simp; omega) _)⟩

set_option maxRecDepth 100000 in
set_option maxHeartbeats 400000 in
theorem sub_yes (a b : Nat) (w : World) (ha : a < B128) (h : b ≤ a) :
    Calls Tryd.prog 12 #[.agg #[.int .u64 (hi a), .int .u64 (lo a)], .agg #[.int .u64 (hi b), .int .u64 (lo b)]] w fun e w' => e = .returned (.tuple #[.agg #[.int .u64 (hi (a - b)), .int .u64 (lo (a - b))], .bool true]) ∧ Below w.heap.size w w' := by
  have e1 : ∀ W, (callFunc 32 #[.int .u64 (lo a), .int .u64 (lo b), .int .u64 0]).run Tryd.prog W = .ok (.value (.tuple #[.int .u64 (dLo (lo a) (lo b) 0), .int .u64 (dHi (lo a) (lo b) 0)])) W := fun W => call32 _ _ 0 (lo_nn a) (lo_lt a) (lo_nn b) (lo_lt b) (by omega) (by omega) W
  have e2 : ∀ W, (callFunc 32 #[.int .u64 (hi a), .int .u64 (hi b), .int .u64 (dHi (lo a) (lo b) 0)]).run Tryd.prog W = .ok (.value (.tuple #[.int .u64 (dLo (hi a) (hi b) (dHi (lo a) (lo b) 0)), .int .u64 (dHi (hi a) (hi b) (dHi (lo a) (lo b) 0))])) W := fun W => call32 _ _ _ (hi_nn a) (hi_lt a ha) (hi_nn b) (hi_lt b (by omega)) (borrow01 _ _ _).1 (borrow01 _ _ _).2 W
  have t := sub_fits a b h
  have hh := Lib.hid h
  have hha := Lib.hid ha
  clear h ha
  go_enter Tryd.func12, Tryd.ntmps12
  go_wp2
  rw [(sub_hi a b hh.out).resolve_right (Nat.not_le.2 hha.out), sub_lo a b hh.out]
  exact bodyPost_ret (v := .tuple #[.agg #[.int .u64 (hi (a - b)), .int .u64 (lo (a - b))], .bool true]) (by simp [results, Tryd.results12, go_sem]) rfl ⟨rfl, ((((Below.refl _ _).alloc (Nat.le_refl _) _).alloc (by simp) _).alloc (by simp; omega) _)⟩

set_option maxRecDepth 100000 in
set_option maxHeartbeats 400000 in
theorem sub_no (a b : Nat) (w : World) (hb : b < B128) (h : a < b) :
    Calls Tryd.prog 12 #[.agg #[.int .u64 (hi a), .int .u64 (lo a)], .agg #[.int .u64 (hi b), .int .u64 (lo b)]] w fun e w' => e = .returned (.tuple #[.agg #[.int .u64 0, .int .u64 0], .bool false]) ∧ Below w.heap.size w w' := by
  have e1 : ∀ W, (callFunc 32 #[.int .u64 (lo a), .int .u64 (lo b), .int .u64 0]).run Tryd.prog W = .ok (.value (.tuple #[.int .u64 (dLo (lo a) (lo b) 0), .int .u64 (dHi (lo a) (lo b) 0)])) W := fun W => call32 _ _ 0 (lo_nn a) (lo_lt a) (lo_nn b) (lo_lt b) (by omega) (by omega) W
  have e2 : ∀ W, (callFunc 32 #[.int .u64 (hi a), .int .u64 (hi b), .int .u64 (dHi (lo a) (lo b) 0)]).run Tryd.prog W = .ok (.value (.tuple #[.int .u64 (dLo (hi a) (hi b) (dHi (lo a) (lo b) 0)), .int .u64 (dHi (hi a) (hi b) (dHi (lo a) (lo b) 0))])) W := fun W => call32 _ _ _ (hi_nn a) (hi_lt a (by omega)) (hi_nn b) (hi_lt b hb) (borrow01 _ _ _).1 (borrow01 _ _ _).2 W
  have t := sub_under a b h
  clear h hb
  go_enter Tryd.func12, Tryd.ntmps12
  go_wp2
  exact bodyPost_ret (v := .tuple #[.agg #[.int .u64 0, .int .u64 0], .bool false]) (by simp [results, Tryd.results12, go_sem]) rfl ⟨rfl, ((((Below.refl _ _).alloc (Nat.le_refl _) _).alloc (by simp) _).alloc (by simp; omega) _)⟩

set_option maxRecDepth 100000 in
set_option maxHeartbeats 400000 in
theorem of_any (x : Int) (w : World) :
    Calls Tryd.prog 16 #[.int .u64 x] w fun e w' => e = .returned (.agg #[.int .u64 0, .int .u64 x]) ∧ Below w.heap.size w w' := by
  go_enter Tryd.func16, Tryd.ntmps16
  go_wp2
  exact bodyPost_ret (v := .agg #[.int .u64 0, .int .u64 x]) (by simp [results, Tryd.results16, go_sem]) rfl ⟨rfl, ((Below.refl _ _).alloc (Nat.le_refl _) _)⟩

set_option maxRecDepth 100000 in
set_option maxHeartbeats 400000 in
theorem most_any (w : World) :
    Calls Tryd.prog 25 #[] w fun e w' => e = .returned (.agg #[.int .u64 18446744073709551615, .int .u64 18446744073709551615]) ∧ Below w.heap.size w w' := by
  go_enter Tryd.func25, Tryd.ntmps25
  go_wp2
  exact bodyPost_ret (v := .agg #[.int .u64 18446744073709551615, .int .u64 18446744073709551615]) (by simp [results, Tryd.results25, go_sem]) rfl ⟨rfl, ((Below.refl _ _).alloc (Nat.le_refl _) _)⟩

set_option maxRecDepth 100000 in
set_option maxHeartbeats 400000 in
theorem mul_any (x y : Nat) (w : World) (hx : x < B64) (hy : y < B64) :
    Calls Tryd.prog 19 #[.int .u64 x, .int .u64 y] w fun e w' => e = .returned (.agg #[.int .u64 (hi (x * y)), .int .u64 (lo (x * y))]) ∧ Below w.heap.size w w' := by
  have hx' : x < 18446744073709551616 := hx
  have hy' : y < 18446744073709551616 := hy
  have e1 : ((x * y / 18446744073709551616 : Nat) : Int) = hi (x * y) := rfl
  have e2 : ((x * y % 18446744073709551616 : Nat) : Int) = lo (x * y) := rfl
  have H1 := Lib.hid e1
  have H2 := Lib.hid e2
  have H3 := Lib.hid hx'
  have H4 := Lib.hid hy'
  clear e1 e2 hx' hy' hx hy
  go_enter Tryd.func19, Tryd.ntmps19
  go_wp2_with fail
  refine (Tryd.bits_Mul64 x y H3.out H4.out _).mono ?_
  rw [H1.out, H2.out]
  rintro e w' ⟨rfl, rfl⟩
  go_wp2
  exact bodyPost_ret (v := .agg #[.int .u64 (hi (x * y)), .int .u64 (lo (x * y))]) (by simp [results, Tryd.results19, go_sem]) rfl ⟨rfl, ((Below.refl _ _).alloc (Nat.le_refl _) _)⟩

theorem mul_int (x y : Int) (w : World) (hx : 0 ≤ x) (hx' : x < 18446744073709551616) (hy : 0 ≤ y) (hy' : y < 18446744073709551616) :
    Calls Tryd.prog 19 #[.int .u64 x, .int .u64 y] w fun e w' => e = .returned (.agg #[.int .u64 (hi (x.toNat * y.toNat)), .int .u64 (lo (x.toNat * y.toNat))]) ∧ Below w.heap.size w w' := by
  obtain ⟨x, rfl⟩ := Int.eq_ofNat_of_zero_le hx
  obtain ⟨y, rfl⟩ := Int.eq_ofNat_of_zero_le hy
  exact mul_any x y w (by unfold B64; omega) (by unfold B64; omega)
theorem diff_wrap (x y : Int) (h : x < y) (hx : -9223372036854775808 ≤ x) (hy : y < 9223372036854775808) :
    IntKind.u64.wrap (IntKind.u64.wrap y - IntKind.u64.wrap x) = y - x := by
  simp only [IntKind.wrap, IntKind.bits, IntKind.signed]
  simp
  omega
set_option maxRecDepth 100000 in
set_option maxHeartbeats 400000 in
theorem compare_any (x y : Int) (w : World) :
    Calls Tryd.prog 33 #[.int .u64 x, .int .u64 y] w fun e w' => e = .returned (.int .i64 (cmpZ x y)) ∧ w = w' := by
  go_enter Tryd.func33, Tryd.ntmps33
  go_wp2
  · go_ret
    exact ⟨by simp [cmpZ, *], rfl⟩
  · go_ret
    exact ⟨by rw [cmpZ, if_neg (by omega), if_pos (by omega)]; rfl, rfl⟩
  · go_ret
    exact ⟨by rw [cmpZ, if_neg (by omega), if_neg (by omega)]; rfl, rfl⟩

set_option maxRecDepth 100000 in
set_option maxHeartbeats 400000 in
theorem diff_no (x y : Int) (w : World) (h : y ≤ x) :
    Calls Tryd.prog 21 #[.int .i64 x, .int .i64 y] w fun e w' => e = .returned (.int .u64 0) ∧ w = w' := by
  go_enter Tryd.func21, Tryd.ntmps21
  go_wp2
  go_ret
  exact ⟨rfl, rfl⟩

set_option maxRecDepth 100000 in
set_option maxHeartbeats 400000 in
theorem diff_yes (x y : Int) (w : World) (h : x < y) (hx : -9223372036854775808 ≤ x) (hy : y < 9223372036854775808) :
    Calls Tryd.prog 21 #[.int .i64 x, .int .i64 y] w fun e w' => e = .returned (.int .u64 (y - x)) ∧ w = w' := by
  have hd := Lib.hid (diff_wrap x y h hx hy)
  clear hx hy
  go_enter Tryd.func21, Tryd.ntmps21
  go_wp2
  rw [hd.out]
  go_ret
  exact ⟨rfl, rfl⟩

set_option maxRecDepth 100000 in
set_option maxHeartbeats 400000 in
theorem cmp_any (a b : Nat) (w : World) :
    Calls Tryd.prog 14 #[.agg #[.int .u64 (hi a), .int .u64 (lo a)], .agg #[.int .u64 (hi b), .int .u64 (lo b)]] w fun e w' => e = .returned (.int .i64 (cmpN a b)) ∧ Below w.heap.size w w' := by
  by_cases h : hi a = hi b
  · have hv : cmpZ (lo a) (lo b) = cmpN a b := cmp_same a b h
    have t : (hi a != hi b) = false := by rw [h]; simp
    have H := Lib.hid hv
    clear h hv
    go_enter Tryd.func14, Tryd.ntmps14
    go_wp2_with fail
    refine (compare_any _ _ _).mono ?_
    rintro e w' ⟨rfl, rfl⟩
    rw [H.out]
    go_wp2
    go_ret
    exact ⟨rfl, ((Below.refl _ _).alloc (Nat.le_refl _) _).alloc (by simp) _⟩
  · have hv : cmpZ (hi a) (hi b) = cmpN a b := cmp_other a b h
    have t : (hi a != hi b) = true := bne_iff_ne.2 h
    have H := Lib.hid hv
    clear h hv
    go_enter Tryd.func14, Tryd.ntmps14
    go_wp2_with fail
    refine (compare_any _ _ _).mono ?_
    rintro e w' ⟨rfl, rfl⟩
    rw [H.out]
    go_wp2
    go_ret
    exact ⟨rfl, ((Below.refl _ _).alloc (Nat.le_refl _) _).alloc (by simp) _⟩

theorem bcell {W w1 : World} (hb : Below W.heap.size W w1) : (∀ b o, b < W.heap.size → w1.cell? ⟨b, o, none⟩ = W.cell? ⟨b, o, none⟩) ∧ (∀ b o, b < W.heap.size → w1.frozen? ⟨b, o, none⟩ = W.frozen? ⟨b, o, none⟩) :=
  ⟨fun b o h => hb.cell (p := ⟨b, o, none⟩) h, fun b o h => hb.frozen (p := ⟨b, o, none⟩) h⟩
end Go.Proofs.YtdlijnkbpnhpoaaDoor
