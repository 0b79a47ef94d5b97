/-
  What math/bits.Div64 tells at the divisor 10^19, and what wide.cutGroup tells, for every wide number; conditions: those typed at each theorem.
-/
import Derived.Test.YtdlijnkbpnhpoaaDoorPut
import Derived.Deep.DeepCutAuto
import Derived.Deep.QuietTactic
import Derived.BigQuiet
import Derived.IntWalk
import Derived.Laws.Bits64b
namespace Go.Proofs.YtdlijnkbpnhpoaaDoor
open Go.RowKit

theorem lz19 (w : World) : Calls Tryd.prog 77 #[.int .u64 10000000000000000000] w fun e w' => e = .returned (.int .i64 0) ∧ w = w' := by
  refine (Tryd.bits_LeadingZeros64 10000000000000000000 w (by decide) (by decide)).mono ?_
  rintro e w' ⟨rfl, rfl⟩
  exact ⟨congrArg (fun n : Int => Ending.returned (.int .i64 n)) (by decide +kernel), rfl⟩

def dQ (x u : Int) : Int := (x * 4294967296 + u) / 10000000000000000000
def dR (x u : Int) : Int := (x * 4294967296 + u) % 10000000000000000000
/-- the guess q, what is left r, at a round's head. -/
def DInv (x u q r : Int) : Prop := q * 2328306436 + r = x ∧ dQ x u ≤ q
theorem d_start (x u : Int) (h0 : 0 ≤ x) (h1 : x < 10000000000000000000) (u0 : 0 ≤ u) (u1 : u < 4294967296) : DInv x u (x / 2328306436) (x - x / 2328306436 * 2328306436) := by
  unfold DInv dQ; omega
theorem d_exit (x u q r : Int) (ht : ¬ 4294967296 * r + u < q * 2313682944) (hI : DInv x u q r) : q = dQ x u := by
  unfold DInv dQ at *; omega
theorem d_next (x u q r : Int) (h1 : x < 10000000000000000000) (u1 : u < 4294967296) (h : 4294967296 ≤ q ∨ 4294967296 * r + u < q * 2313682944) (hI : DInv x u q r) : DInv x u (q - 1) (r + 2328306436) := by
  unfold DInv dQ at *; omega
theorem d_break (x u q r : Int) (u0 : 0 ≤ u) (q1 : q ≤ 4294967295) (q0 : 0 ≤ q) (hr : 4294967296 ≤ r) (hI : DInv x u q r) : q = dQ x u := by
  unfold DInv dQ at *; omega
theorem d_pos (u q r : Int) (h : 4294967296 ≤ q ∨ 4294967296 * r + u < q * 2313682944) (r0 : 0 ≤ r) (u0 : 0 ≤ u) (q0 : 0 ≤ q) : 1 ≤ q := by omega
theorem dQ_lt (x u : Int) (h0 : 0 ≤ x) (h1 : x < 10000000000000000000) (u0 : 0 ≤ u) (u1 : u < 4294967296) : 0 ≤ dQ x u ∧ dQ x u < 4294967296 := by
  unfold dQ; omega
theorem d_rest (x u : Int) :
    IntKind.u64.wrap (IntKind.u64.wrap (IntKind.u64.wrap (x * 4294967296) + u) - IntKind.u64.wrap (dQ x u * 10000000000000000000)) = dR x u := by
  simp only [IntKind.wrap_u64]
  unfold dQ dR; omega
theorem dR_lt (x u : Int) : 0 ≤ dR x u ∧ dR x u < 10000000000000000000 := by unfold dR; omega
def dvQ (x l : Int) : Int := (x * 18446744073709551616 + l) / 10000000000000000000
def dvR (x l : Int) : Int := (x * 18446744073709551616 + l) % 10000000000000000000
theorem dv_eq (x l : Int) : dQ x (l / 4294967296) * 4294967296 + dQ (dR x (l / 4294967296)) (l % 4294967296) = dvQ x l ∧ dR (dR x (l / 4294967296)) (l % 4294967296) = dvR x l := by
  unfold dQ dR dvQ dvR; omega
theorem and_low (l : Int) (h0 : 0 ≤ l) (h1 : l < 18446744073709551616) : bits BinOp.and IntKind.u64 l 4294967295 = l % 4294967296 := by
  obtain ⟨n, rfl⟩ := Int.eq_ofNat_of_zero_le h0
  have e := bits_and_u64_nat n 4294967295 (by omega) (by omega)
  have e2 : n &&& 4294967295 = n % 4294967296 := Nat.and_two_pow_sub_one_eq_mod n 32
  rw [e2] at e
  exact e
theorem or_none (x l : Int) (h0 : 0 ≤ x) (hx : x < 18446744073709551616) (l0 : 0 ≤ l) (hl : l < 18446744073709551616) : bits BinOp.or IntKind.u64 x (l / 18446744073709551616) = x := by
  have hz : l / 18446744073709551616 = 0 := by omega
  rw [hz]
  obtain ⟨n, rfl⟩ := Int.eq_ofNat_of_zero_le h0
  have e := bits_or_u64_nat n 0 (by omega) (by omega)
  rw [Nat.or_zero] at e
  exact e
theorem and_y : bits BinOp.and IntKind.u64 10000000000000000000 4294967295 = 2313682944 := by decide +kernel

set_option maxRecDepth 100000 in
set_option maxHeartbeats 400000 in
theorem div_pos (x l : Int) (w : World) (h0 : 0 < x) (h1 : x < 10000000000000000000) (l0 : 0 ≤ l) (l1 : l < 18446744073709551616) :
    Calls Tryd.prog 65 #[.int .u64 x, .int .u64 l, .int .u64 10000000000000000000] w fun e w' => e = .returned (.tuple #[.int .u64 (dvQ x l), .int .u64 (dvR x l)]) ∧ w = w' := by
  have hne : (x == 0) = false := beq_eq_false_iff_ne.2 (by omega)
  have b1 := and_low l l0 l1
  have b2 := or_none x l (by omega) (by omega) l0 l1
  have b3 := and_y
  go_enter Tryd.func65, Tryd.ntmps65
  go_wp2_with fail
  refine (lz19 _).mono ?_
  rintro e w' ⟨rfl, rfl⟩
  go_upto_block 0 with fail
  obtain ⟨u, hu⟩ : ∃ u, u = l / 4294967296 := ⟨_, rfl⟩
  have hu0 : 0 ≤ u := by omega
  have hu1 : u < 4294967296 := by omega
  have HU := Lib.hid hu
  clear b2 b3
  rw [← HU.out]
  clear hu
  go_cut [15, 16] (fun q _ wx => q = .int .u64 (dQ x u) ∧ w = wx)
  case first =>
    clear b1
    go_wp2
    go_loop [15, 16] (fun a b => ∃ q r : Int, a = .int .u64 q ∧ b = .int .u64 r ∧ 0 ≤ q ∧ q ≤ 4294967296 ∧ 0 ≤ r ∧ r < 4294967296 ∧ DInv x u q r) (fun a _ => (intOf a).toNat)
    case atStart => exact ⟨_, _, rfl, rfl, by omega, by omega, by omega, by omega, d_start x u (Int.le_of_lt h0) h1 hu0 hu1⟩
    case round =>
      obtain ⟨q, r, rfl, rfl, q0, q1, r0, r1, hI⟩ := hrel
      by_cases hq : 4294967296 ≤ q
      · have hp := d_pos u q r (.inl hq) r0 hu0 q0
        have hN := d_next x u q r h1 hu1 (.inl hq) hI
        by_cases hb : 4294967296 ≤ r + 2328306436
        · have hX := Lib.hid (d_break x u (q - 1) (r + 2328306436) hu0 (by omega) (by omega) hb hN)
          clear hI hN
          go_wp2
          go_meet
          exact ⟨by rw [← hX.out], rfl⟩
        · clear hI
          go_wp2
          go_round
          case rel => exact ⟨q - 1, r + 2328306436, rfl, rfl, by omega, by omega, by omega, by omega, hN⟩
          case measure => simp [intOf]; omega
      · by_cases ht : 4294967296 * r + u < q * 2313682944
        · have hp := d_pos u q r (.inr ht) r0 hu0 q0
          have hN := d_next x u q r h1 hu1 (.inr ht) hI
          by_cases hb : 4294967296 ≤ r + 2328306436
          · have hX := Lib.hid (d_break x u (q - 1) (r + 2328306436) hu0 (by omega) (by omega) hb hN)
            clear hI hN
            go_wp2
            go_meet
            exact ⟨by rw [← hX.out], rfl⟩
          · clear hI
            go_wp2
            go_round
            case rel => exact ⟨q - 1, r + 2328306436, rfl, rfl, by omega, by omega, by omega, by omega, hN⟩
            case measure => simp [intOf]; omega
        · have hX := Lib.hid (d_exit x u q r ht hI)
          clear hI
          go_wp2
          go_meet
          exact ⟨by rw [← hX.out], rfl⟩
  case rest =>
    obtain ⟨rfl, rfl⟩ := hcut
    obtain ⟨hq0, hq1⟩ := dQ_lt x u (Int.le_of_lt h0) h1 hu0 hu1
    have hy := d_rest x u
    obtain ⟨y0, y1⟩ := dR_lt x u
    obtain ⟨v, hv⟩ : ∃ v, v = l % 4294967296 := ⟨_, rfl⟩
    have v0 : 0 ≤ v := by omega
    have v1 : v < 4294967296 := by omega
    rw [← hv]
    have HE := Lib.hid (dv_eq x l)
    rw [← HU.out, ← hv] at HE
    clear hne hv b1
    generalize dR x u = y at *
    generalize dQ x u = Q at *
    clear HU hu0 hu1 l0 l1
    go_upto_block 2 with fail
    go_cut [18, 16] (fun q _ wx => q = .int .u64 (dQ y v) ∧ w = wx)
    case first =>
      clear hy
      go_wp2
      go_loop [18, 16] (fun a b => ∃ q r : Int, a = .int .u64 q ∧ b = .int .u64 r ∧ 0 ≤ q ∧ q ≤ 4294967296 ∧ 0 ≤ r ∧ r < 4294967296 ∧ DInv y v q r) (fun a _ => (intOf a).toNat)
      case atStart => exact ⟨_, _, rfl, rfl, by omega, by omega, by omega, by omega, d_start y v y0 y1 v0 v1⟩
      case round =>
        obtain ⟨q, r, rfl, rfl, q0, q1, r0, r1, hI⟩ := hrel
        by_cases hq : 4294967296 ≤ q
        · have hp := d_pos v q r (.inl hq) r0 v0 q0
          have hN := d_next y v q r y1 v1 (.inl hq) hI
          by_cases hb : 4294967296 ≤ r + 2328306436
          · have hX := Lib.hid (d_break y v (q - 1) (r + 2328306436) v0 (by omega) (by omega) hb hN)
            clear hI hN
            go_wp2
            go_meet
            exact ⟨by rw [← hX.out], rfl⟩
          · clear hI
            go_wp2
            go_round
            case rel => exact ⟨q - 1, r + 2328306436, rfl, rfl, by omega, by omega, by omega, by omega, hN⟩
            case measure => simp [intOf]; omega
        · by_cases ht : 4294967296 * r + v < q * 2313682944
          · have hp := d_pos v q r (.inr ht) r0 v0 q0
            have hN := d_next y v q r y1 v1 (.inr ht) hI
            by_cases hb : 4294967296 ≤ r + 2328306436
            · have hX := Lib.hid (d_break y v (q - 1) (r + 2328306436) v0 (by omega) (by omega) hb hN)
              clear hI hN
              go_wp2
              go_meet
              exact ⟨by rw [← hX.out], rfl⟩
            · clear hI
              go_wp2
              go_round
              case rel => exact ⟨q - 1, r + 2328306436, rfl, rfl, by omega, by omega, by omega, by omega, hN⟩
              case measure => simp [intOf]; omega
          · have hX := Lib.hid (d_exit y v q r ht hI)
            clear hI
            go_wp2
            go_meet
            exact ⟨by rw [← hX.out], rfl⟩
    case rest =>
      obtain ⟨rfl, rfl⟩ := hcut
      clear hy
      have hz := d_rest y v
      obtain ⟨p0, p1⟩ := dQ_lt y v y0 y1 v0 v1
      have HZ := dR_lt y v
      go_wp2
      rw [HE.out.1, HE.out.2]
      go_ret2
      exact ⟨rfl, rfl⟩

theorem bdrewN {B n : Nat} {a w : World} (h : Below B a w) : Below B a (w.drewN n) := ⟨h.os, h.tape, h.output, h.size, h.block⟩
set_option maxRecDepth 100000 in
set_option maxHeartbeats 400000 in
theorem div_zero (l : Int) (w : World) (l0 : 0 ≤ l) (l1 : l < 18446744073709551616) :
    Calls Tryd.prog 65 #[.int .u64 0, .int .u64 l, .int .u64 10000000000000000000] w fun e w' => e = .returned (.tuple #[.int .u64 (dvQ 0 l), .int .u64 (dvR 0 l)]) ∧ Below w.heap.size w w' := by
  have HE : Hid (l / 10000000000000000000 = dvQ 0 l ∧ l % 10000000000000000000 = dvR 0 l) := by unfold Hid dvQ dvR; omega
  go_enter Tryd.func65, Tryd.ntmps65
  go_wp2_with fail
  go_quiet (fail)
  go_wp2
  rw [HE.out.1, HE.out.2]
  go_ret2
  exact ⟨rfl, bdrewN (Below.refl _ _)⟩

theorem div_any (x l : Int) (w : World) (h0 : 0 ≤ x) (h1 : x < 10000000000000000000) (l0 : 0 ≤ l) (l1 : l < 18446744073709551616) :
    Calls Tryd.prog 65 #[.int .u64 x, .int .u64 l, .int .u64 10000000000000000000] w fun e w' => e = .returned (.tuple #[.int .u64 (dvQ x l), .int .u64 (dvR x l)]) ∧ Below w.heap.size w w' := by
  by_cases h : x = 0
  · subst h; exact div_zero l w l0 l1
  · refine (div_pos x l w (by omega) h1 l0 l1).mono ?_
    rintro e w' ⟨rfl, rfl⟩
    exact ⟨rfl, Below.refl _ _⟩

def gQ (a : Nat) : Nat := a / 10000000000000000000
def gR (a : Nat) : Nat := a % 10000000000000000000
theorem cut_math (a : Nat) : hi a / 10000000000000000000 = hi (gQ a) ∧ dvQ (hi a % 10000000000000000000) (lo a) = lo (gQ a) ∧ dvR (hi a % 10000000000000000000) (lo a) = (gR a : Int) := by
  unfold dvQ dvR gQ gR hi lo B64; omega

set_option maxRecDepth 100000 in
set_option maxHeartbeats 400000 in
theorem cut_any (a : Nat) (w : World) (ha : a < B128) :
    Calls Tryd.prog 54 #[.agg #[.int .u64 (hi a), .int .u64 (lo a)]] w fun e w' => e = .returned (.tuple #[.agg #[.int .u64 (hi (gQ a)), .int .u64 (lo (gQ a))], .int .u64 (gR a : Int)]) ∧ Below w.heap.size w w' := by
  have HM := Lib.hid (cut_math a)
  have A1 := hi_nn a
  have A2 := hi_lt a ha
  have A3 := lo_nn a
  have A4 := lo_lt a
  clear ha
  go_enter Tryd.func54, Tryd.ntmps54
  go_wp2_with fail
  go_quiet (fail)
  go_wp2_with fail
  refine (div_any _ _ _ (by omega) (by omega) A3 A4).mono ?_
  rw [HM.out.1, HM.out.2.1, HM.out.2.2]
  rintro e w1 ⟨rfl, hb1⟩
  have c2 := keepc hb1 (p := ⟨w.heap.size + 1, 0, none⟩) (v := .int .u64 0) (new0 _ _ _ (by simp))
  have c3 := keepc hb1 (p := ⟨w.heap.size + 1, 1, none⟩) (v := .int .u64 0) (new1 _ _ _ (by simp))
  have f2 := keepf hb1 (p := ⟨w.heap.size + 1, 0, none⟩) (v := .int .u64 0) (new0 _ _ _ (by simp)) (newf _ _ _ _ (by simp))
  have f3 := keepf hb1 (p := ⟨w.heap.size + 1, 1, none⟩) (v := .int .u64 0) (new1 _ _ _ (by simp)) (newf _ _ _ _ (by simp))
  have hz : w.heap.size + 1 < w1.heap.size := Nat.le_trans (by simp) hb1.size
  have HB := (bdrewN (n := nq) (((Below.refl w.heap.size w).alloc (Nat.le_refl _) (Obj.cells #[Value.int IntKind.u64 (hi a), Value.int IntKind.u64 (lo a)] 24)).alloc (by simp) (Obj.cells #[Value.int IntKind.u64 0, Value.int IntKind.u64 0] 24))).trans (hb1.mono (by simp; omega))
  clear hb1
  go_wp2
  have s0 := set20 (x := .int .u64 (hi (gQ a))) (y := .int .u64 (lo (gQ a))) c2
  have s1 := set21 (x := .int .u64 (hi (gQ a))) (y := .int .u64 (lo (gQ a))) c3
  refine bodyPost_ret (v := .tuple #[.agg #[.int .u64 (hi (gQ a)), .int .u64 (lo (gQ a))], .int .u64 (gR a : Int)]) (by simp [results, Tryd.results54, go_sem, s0, s1]) rfl ⟨rfl, ?_⟩
  exact ((HB.setCell (p := ⟨w.heap.size + 1, 0, none⟩) (Nat.le_succ _) _).setCell (p := ⟨w.heap.size + 1, 1, none⟩) (Nat.le_succ _) _)
end Go.Proofs.YtdlijnkbpnhpoaaDoor
