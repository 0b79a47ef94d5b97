/-
  What the document-side functions sum and Add tell: the same sum as wide.Add, bit by bit; conditions: those typed at each theorem.
-/
import Derived.Test.YtdlijnkbpnhpoaaDoorRefBits
import Derived.Maps.AppendAt
namespace Go.Proofs.YtdlijnkbpnhpoaaDoor
open Go.RowKit

def carryN (A B k : Nat) : Nat := (A % 2 ^ k + B % 2 ^ k) / 2 ^ k
theorem pow_pos2 (k : Nat) : 0 < 2 ^ k := Nat.pow_pos (by decide)
theorem carry_le (A B k : Nat) : carryN A B k ≤ 1 := by
  have h1 := mod_lt_pow A k
  have h2 := mod_lt_pow B k
  have h3 := pow_pos2 k
  unfold carryN
  have : (A % 2 ^ k + B % 2 ^ k) / 2 ^ k < 2 := (Nat.div_lt_iff_lt_mul h3).2 (by omega)
  omega
theorem sum_div (A B k : Nat) : (A + B) / 2 ^ k = A / 2 ^ k + B / 2 ^ k + carryN A B k := by
  have h3 := pow_pos2 k
  have e1 := Nat.div_add_mod A (2 ^ k)
  have e2 := Nat.div_add_mod B (2 ^ k)
  unfold carryN
  have e : A + B = (A % 2 ^ k + B % 2 ^ k) + 2 ^ k * (A / 2 ^ k + B / 2 ^ k) := by rw [Nat.mul_add]; omega
  calc (A + B) / 2 ^ k = ((A % 2 ^ k + B % 2 ^ k) + 2 ^ k * (A / 2 ^ k + B / 2 ^ k)) / 2 ^ k := by rw [← e]
    _ = _ := by rw [Nat.add_mul_div_left _ _ h3]; omega
theorem sum_bit (A B k : Nat) : bitN (A + B) k = (bitN A k + bitN B k + carryN A B k) % 2 := by
  unfold bitN; rw [sum_div]; omega
theorem carry_succ (A B k : Nat) : carryN A B (k + 1) = (bitN A k + bitN B k + carryN A B k) / 2 := by
  unfold carryN
  rw [mod_succ, mod_succ, Nat.pow_succ]
  have h3 := pow_pos2 k
  have e : A % 2 ^ k + 2 ^ k * bitN A k + (B % 2 ^ k + 2 ^ k * bitN B k) = (A % 2 ^ k + B % 2 ^ k) + 2 ^ k * (bitN A k + bitN B k) := by rw [Nat.mul_add]; omega
  rw [e, ← Nat.div_div_eq_div_mul, Nat.add_mul_div_left _ _ h3]
  congr 1; omega
theorem carry_zero (A B : Nat) : carryN A B 0 = 0 := by unfold carryN; simp [Nat.mod_one]
theorem carry_last (A B : Nat) (hA : A < B128) (hB : B < B128) : carryN A B 128 = bitN (A + B) 128 := by
  have h := carry_le A B 128
  unfold bitN
  rw [sum_div, pow128, Nat.div_eq_of_lt hA, Nat.div_eq_of_lt hB]; omega
theorem sum_lt (a b : Nat) (ha : a < B128) (hb : b < B128) : a + b < 2 ^ 129 := by
  have e : (2 : Nat) ^ 129 = B128 + B128 := by decide +kernel
  rw [e]; omega
theorem bitsL_succ (a k : Nat) : bitsL a (k + 1) = bitsL a k ++ [bitV a k] := by simp [bitsL, List.range_succ]
theorem bitsL_len (a k : Nat) : (bitsL a k).length = k := by simp [bitsL]

set_option maxRecDepth 100000 in
set_option maxHeartbeats 1000000 in
theorem sum_any (A B ga gb ca cb : Nat) (w : World) (hA : A < B128) (hB : B < B128) (hga : ga < w.heap.size) (hgb : gb < w.heap.size)
    (hca : ∀ j, j < 128 → w.cell? ⟨ga, j, none⟩ = some (bitV A j)) (hcb : ∀ j, j < 128 → w.cell? ⟨gb, j, none⟩ = some (bitV B j)) :
    Calls Tryd.prog 30 #[.slice (some ⟨ga, 0, none⟩) 128 ca, .slice (some ⟨gb, 0, none⟩) 128 cb] w fun e w' => ∃ v, e = .returned v ∧ w'.ownsRow w.heap.size 3 1 v 129 (bitsL (A + B) 129) ∧ Below w.heap.size w w' := by
  obtain ⟨i0, hi0, hz0, hz1, hz2⟩ := info_parts Tryd.info3
  have HA := Lib.hid hca
  have HB := Lib.hid hcb
  have LA := Lib.hid hA
  have LB := Lib.hid hB
  clear hca hcb hA hB
  go_enter Tryd.func30, Tryd.ntmps30
  go_wp2
  go_loopw [5, 6, 7, 8] (fun v c i _ wr => ∃ k : Nat, k ≤ 128 ∧ i = .int .i64 k ∧ c = .int .i64 (carryN A B k : Int) ∧ wr.ownsRow w.heap.size 3 1 v k (bitsL (A + B) k) ∧ Below w.heap.size w wr) (fun _ _ i _ _ => 128 - (intOf i).toNat)
  case atStart => exact ⟨0, by omega, rfl, by rw [carry_zero]; rfl, World.ownsRow_nil _ _ _ _, Below.refl _ _⟩
  case round =>
    obtain ⟨k, hk, rfl, rfl, hown, hBl⟩ := hrel
    have hsz := hBl.size
    by_cases hlt : k < 128
    · have hlt' : (k : Int) < 128 := by omega
      have cA : wr.cell? ⟨ga, k, none⟩ = some (.int .i64 (bitN A k : Int)) := keepc' hBl hga (HA.out k hlt)
      have cB : wr.cell? ⟨gb, k, none⟩ = some (.int .i64 (bitN B k : Int)) := keepc' hBl hgb (HB.out k hlt)
      have hc1 := carry_le A B k
      have ha1 : bitN A k ≤ 1 := by rcases bit01 A k with h | h <;> omega
      have hb1 : bitN B k ≤ 1 := by rcases bit01 B k with h | h <;> omega
      have HS := Lib.hid (sum_bit A B k)
      have HCs := Lib.hid (carry_succ A B k)
      obtain ⟨ab, hab⟩ : ∃ ab : Nat, ab = bitN A k := ⟨_, rfl⟩
      obtain ⟨bb, hbb⟩ : ∃ bb : Nat, bb = bitN B k := ⟨_, rfl⟩
      obtain ⟨cc, hcc⟩ : ∃ cc : Nat, cc = carryN A B k := ⟨_, rfl⟩
      rw [← hab, ← hbb, ← hcc] at HS HCs
      rw [← hab] at cA ha1
      rw [← hbb] at cB hb1
      rw [← hcc] at hc1
      rw [← hcc]
      clear hab hbb hcc
      go_wp2_with fail
      go_quiet (fail)
      go_wp2_with (at_builtin; refine wpList_append_own _ rfl _ _ 52 rfl w.heap.size 3 i0 (.int .i64 0) 1 8 Tryd.underlying52 hi0 hz0 hz1 hz2 rfl (by decide) _ _ _ rfl (World.ownsRow.alloc (show (wr.drewN nq).ownsRow _ _ _ _ _ _ from hown) _) ⟨wr.heap.size, 0, none⟩ 1 1 [_] rfl rfl (cell_one_new _ _ _) (by simp [Value.oneCell']) ?_ ?_ ?_ ?_ <;> first | (unfold maxLen; omega) | omega | (simp; omega) | (intro v' w3 hown' hgrow _))
      have hgr : ((wr.drewN nq).alloc (Obj.cells #[Value.int IntKind.i64 (((ab : Int) + (bb : Int) + (cc : Int)) % 2)] 3)).grownBy w3 u5.ownBlock := hgrow
      clear hgrow
      refine ⟨⟨k + 1, by omega, by go_num, ?_, ?_, ((bdrewN hBl).alloc hsz _).grown hgr (by simp; omega) (fun q hq => (hown.lt q hq).1)⟩, by simp [intOf]; omega⟩
      · rw [HCs.out]; exact congrArg (Value.int .i64) (by omega)
      · rw [bitsL_succ, bitV, HS.out]
        have e : ((((ab + bb + cc) % 2 : Nat)) : Int) = ((ab : Int) + bb + cc) % 2 := by omega
        rw [e]; exact hown'
    · obtain rfl : k = 128 := by omega
      have HL := Lib.hid (carry_last A B LA.out LB.out)
      rw [HL.out]
      go_wp2_with (at_builtin; refine wpList_append_own _ rfl _ _ 52 rfl w.heap.size 3 i0 (.int .i64 0) 1 8 Tryd.underlying52 hi0 hz0 hz1 hz2 rfl (by decide) _ _ _ rfl (hown.alloc _) ⟨wr.heap.size, 0, none⟩ 1 1 [_] rfl rfl (cell_one_new _ _ _) (by simp [Value.oneCell']) ?_ ?_ ?_ ?_ <;> first | (unfold maxLen; omega) | omega | (simp; omega) | (intro v' w3 hown' hgrow _))
      go_ret
      exact ⟨_, rfl, by rw [bitsL_succ]; exact hown', (hBl.alloc hsz _).grown hgrow (by simp; omega) (fun q hq => (hown.lt q hq).1)⟩

theorem bits_cells {w : World} {B n N : Nat} {g cap : Nat} (h : w.ownsRow B 3 1 (.slice (some ⟨g, 0, none⟩) n cap) n (bitsL N n)) : ∀ j, j < n → w.cell? ⟨g, j, none⟩ = some (bitV N j) := fun j hj => by
  rw [h.cellAt j (by omega)]
  simp [bitsL, hj]
theorem own_slice {w : World} {B n N : Nat} {v : Value} (h : w.ownsRow B 3 1 v n (bitsL N n)) (hn : 1 ≤ n) : ∃ g cap, v = .slice (some ⟨g, 0, none⟩) n cap ∧ B ≤ g ∧ g < w.heap.size ∧ ∀ j, j < n → w.cell? ⟨g, j, none⟩ = some (bitV N j) := by
  rcases h.2 with ⟨rfl, rfl⟩ | ⟨g, cap, cur, rfl, _⟩
  · omega
  · exact ⟨g, cap, rfl, (h.lt g rfl).1, (h.lt g rfl).2, bits_cells h⟩
/-- Bits, as its callers take it. -/
theorem bits_at (a : Nat) (w : World) (ha : a < B128) :
    Calls Tryd.prog 31 #[.agg #[.int .u64 (hi a), .int .u64 (lo a)]] w fun e w' => ∃ g cap, e = .returned (.slice (some ⟨g, 0, none⟩) 128 cap) ∧ w.heap.size < g ∧ g < w'.heap.size ∧ (∀ j, j < 128 → w'.cell? ⟨g, j, none⟩ = some (bitV a j)) ∧ w'.ownsRow (w.heap.size + 1) 3 1 (.slice (some ⟨g, 0, none⟩) 128 cap) 128 (bitsL a 128) ∧ Below w.heap.size w w' := by
  refine (bits_any a w ha).mono ?_
  rintro e w' ⟨v, rfl, ho, hb⟩
  obtain ⟨g, cap, rfl, h1, h2, h3⟩ := own_slice ho (by omega)
  exact ⟨g, cap, rfl, h1, h2, h3, ho, hb⟩
theorem sum_at (A B ga gb ca cb : Nat) (w : World) (hA : A < B128) (hB : B < B128) (hga : ga < w.heap.size) (hgb : gb < w.heap.size)
    (hca : ∀ j, j < 128 → w.cell? ⟨ga, j, none⟩ = some (bitV A j)) (hcb : ∀ j, j < 128 → w.cell? ⟨gb, j, none⟩ = some (bitV B j)) :
    Calls Tryd.prog 30 #[.slice (some ⟨ga, 0, none⟩) 128 ca, .slice (some ⟨gb, 0, none⟩) 128 cb] w fun e w' => ∃ g cap, e = .returned (.slice (some ⟨g, 0, none⟩) 129 cap) ∧ g < w'.heap.size ∧ (∀ j, j < 129 → w'.cell? ⟨g, j, none⟩ = some (bitV (A + B) j)) ∧ Below w.heap.size w w' := by
  refine (sum_any A B ga gb ca cb w hA hB hga hgb hca hcb).mono ?_
  rintro e w' ⟨v, rfl, ho, hb⟩
  obtain ⟨g, cap, rfl, _, h2, h3⟩ := own_slice ho (by omega)
  exact ⟨g, cap, rfl, h2, h3, hb⟩

set_option maxRecDepth 100000 in
set_option maxHeartbeats 1000000 in
/-- the reference's Add tells what wide.Add tells. -/
theorem radd_any (a b : Nat) (w : World) (ha : a < B128) (hb : b < B128) :
    Calls Tryd.prog 11 #[.agg #[.int .u64 (hi a), .int .u64 (lo a)], .agg #[.int .u64 (hi b), .int .u64 (lo b)]] w fun e w' => e = .returned (.tuple #[.agg #[.int .u64 (hi (addR a b)), .int .u64 (lo (addR a b))], .bool (addK a b)]) ∧ Below w.heap.size w w' := by
  have LA := Lib.hid ha
  have LB := Lib.hid hb
  clear ha hb
  have a0 := allc (o := .cells #[.int .u64 0, .int .u64 0] 24) (allc (o := .cells #[.int .u64 (hi b), .int .u64 (lo b)] 24) (new0 w (.int .u64 (hi a)) (.int .u64 (lo a)) rfl))
  have a1 := allc (o := .cells #[.int .u64 0, .int .u64 0] 24) (allc (o := .cells #[.int .u64 (hi b), .int .u64 (lo b)] 24) (new1 w (.int .u64 (hi a)) (.int .u64 (lo a)) rfl))
  have b0 := allc (o := .cells #[.int .u64 0, .int .u64 0] 24) (new0 (w.alloc (.cells #[.int .u64 (hi a), .int .u64 (lo a)] 24)) (.int .u64 (hi b)) (.int .u64 (lo b)) (n := w.heap.size + 1) (by simp))
  have b1 := allc (o := .cells #[.int .u64 0, .int .u64 0] 24) (new1 (w.alloc (.cells #[.int .u64 (hi a), .int .u64 (lo a)] 24)) (.int .u64 (hi b)) (.int .u64 (lo b)) (n := w.heap.size + 1) (by simp))
  have r0 := new0 ((w.alloc (.cells #[.int .u64 (hi a), .int .u64 (lo a)] 24)).alloc (.cells #[.int .u64 (hi b), .int .u64 (lo b)] 24)) (.int .u64 0) (.int .u64 0) (n := w.heap.size + 1 + 1) (by simp)
  have r1 := new1 ((w.alloc (.cells #[.int .u64 (hi a), .int .u64 (lo a)] 24)).alloc (.cells #[.int .u64 (hi b), .int .u64 (lo b)] 24)) (.int .u64 0) (.int .u64 0) (n := w.heap.size + 1 + 1) (by simp)
  have q0 := newf ((w.alloc (.cells #[.int .u64 (hi a), .int .u64 (lo a)] 24)).alloc (.cells #[.int .u64 (hi b), .int .u64 (lo b)] 24)) (.int .u64 0) (.int .u64 0) 0 (n := w.heap.size + 1 + 1) (by simp)
  have q1 := newf ((w.alloc (.cells #[.int .u64 (hi a), .int .u64 (lo a)] 24)).alloc (.cells #[.int .u64 (hi b), .int .u64 (lo b)] 24)) (.int .u64 0) (.int .u64 0) 1 (n := w.heap.size + 1 + 1) (by simp)
  have HB0 := (((Below.refl w.heap.size w).alloc (Nat.le_refl _) (.cells #[.int .u64 (hi a), .int .u64 (lo a)] 24)).alloc (by simp) (.cells #[.int .u64 (hi b), .int .u64 (lo b)] 24)).alloc (by simp; omega) (.cells #[.int .u64 0, .int .u64 0] 24)
  have HZ0 : (((w.alloc (.cells #[.int .u64 (hi a), .int .u64 (lo a)] 24)).alloc (.cells #[.int .u64 (hi b), .int .u64 (lo b)] 24)).alloc (.cells #[.int .u64 0, .int .u64 0] 24)).heap.size = w.heap.size + 3 := by simp
  go_enter Tryd.func11, Tryd.ntmps11
  go_upto_region 1 with fail
  generalize ((w.alloc (.cells #[.int .u64 (hi a), .int .u64 (lo a)] 24)).alloc (.cells #[.int .u64 (hi b), .int .u64 (lo b)] 24)).alloc (.cells #[.int .u64 0, .int .u64 0] 24) = X at *
  have hzX : w.heap.size + 1 + 1 < X.heap.size := by omega
  clear HZ0
  go_region_held3 (fun w' => w'.cell? ⟨w.heap.size, 0, none⟩ = some (.int .u64 (hi a)) ∧ w'.cell? ⟨w.heap.size, 1, none⟩ = some (.int .u64 (lo a)) ∧ w'.cell? ⟨w.heap.size + 1, 0, none⟩ = some (.int .u64 (hi b)) ∧ w'.cell? ⟨w.heap.size + 1, 1, none⟩ = some (.int .u64 (lo b))) (first | exact ⟨a0, a1, b0, b1⟩ | exact ⟨k1, k2, k3, k4⟩ | exact ⟨l1, l2, l3, l4⟩ | exact ⟨m1, m2, m3, m4⟩ | exact ⟨n1, n2, n3, n4⟩ | exact ⟨setc (by dsimp only; omega) (setc (by dsimp only; omega) n1), setc (by dsimp only; omega) (setc (by dsimp only; omega) n2), setc (by dsimp only; omega) (setc (by dsimp only; omega) n3), setc (by dsimp only; omega) (setc (by dsimp only; omega) n4)⟩)
    (first
      | (go_at_call 31; ((with_reducible refine (bits_at a _ LA.out).mono ?_); rintro e w2 ⟨ga, ca, rfl, ha1, ha2, ha3, _, hb2⟩; have k1 := keepc hb2 (p := ⟨w.heap.size, 0, none⟩) (by exact a0); have k2 := keepc hb2 (p := ⟨w.heap.size, 1, none⟩) (by exact a1); have k3 := keepc hb2 (p := ⟨w.heap.size + 1, 0, none⟩) (by exact b0); have k4 := keepc hb2 (p := ⟨w.heap.size + 1, 1, none⟩) (by exact b1); have x0 := keepc hb2 (p := ⟨w.heap.size + 1 + 1, 0, none⟩) (by exact r0); have x1 := keepc hb2 (p := ⟨w.heap.size + 1 + 1, 1, none⟩) (by exact r1); have x2 := keepf hb2 (p := ⟨w.heap.size + 1 + 1, 0, none⟩) (by exact r0) (by exact q0); have x3 := keepf hb2 (p := ⟨w.heap.size + 1 + 1, 1, none⟩) (by exact r1) (by exact q1); have HA3 := Lib.hid ha3; clear ha3))
      | (go_at_call 31; ((with_reducible refine (bits_at b _ LB.out).mono ?_); rintro e w3 ⟨gb, cb, rfl, hb1', hb2', hb3', _, hb3⟩; have l1 := keepc hb3 k1; have l2 := keepc hb3 k2; have l3 := keepc hb3 k3; have l4 := keepc hb3 k4; replace x2 := keepf hb3 x0 x2; replace x3 := keepf hb3 x1 x3; replace x0 := keepc hb3 x0; replace x1 := keepc hb3 x1; have HB3 := Lib.hid hb3'; clear hb3'))
      | (go_at_call 30; refine (sum_at a b ga gb ca cb _ LA.out LB.out (by exact Nat.lt_of_lt_of_le ha2 hb3.size) hb2' (fun j hj => by exact keepc hb3 (HA3.out j hj)) (fun j hj => by exact HB3.out j hj)).mono ?_; rintro e w4 ⟨gs', cs, rfl, hs2, hs3, hb4⟩; have m1 := keepc hb4 l1; have m2 := keepc hb4 l2; have m3 := keepc hb4 l3; have m4 := keepc hb4 l4; replace x2 := keepf hb4 x0 x2; replace x3 := keepf hb4 x1 x3; replace x0 := keepc hb4 x0; replace x1 := keepc hb4 x1; have HS3 := Lib.hid hs3; clear hs3)
      | (go_at_call 29; refine (number_any (a + b) 129 gs' cs _ (by omega) (sum_lt a b LA.out LB.out) hs2 (by exact HS3.out)).mono ?_; rintro e w5 ⟨rfl, hb5⟩; have n1 := keepc hb5 m1; have n2 := keepc hb5 m2; have n3 := keepc hb5 m3; have n4 := keepc hb5 m4; replace x2 := keepf hb5 x0 x2; replace x3 := keepf hb5 x1 x3; replace x0 := keepc hb5 x0; replace x1 := keepc hb5 x1))
  go_wp2_with fail
  have s0 := set20 (x := .int .u64 (hi (addR (a + b) 0))) (y := .int .u64 (lo (addR (a + b) 0))) x0
  have s1 := set21 (x := .int .u64 (hi (addR (a + b) 0))) (y := .int .u64 (lo (addR (a + b) 0))) x1
  have z2 : X.heap.size ≤ w2.heap.size := hb2.size
  have z3 := hb3.size
  have z4 := hb4.size
  refine bodyPost_ret (v := .tuple #[.agg #[.int .u64 (hi (addR (a + b) 0)), .int .u64 (lo (addR (a + b) 0))], .bool (addK (a + b) 0)]) (by simp [results, Tryd.results11, go_sem, s0, s1]) rfl ⟨rfl, ?_⟩
  exact ((((((HB0.drew).trans (hb2.mono (show w.heap.size ≤ X.heap.size by omega))).trans (hb3.mono (by omega))).trans (hb4.mono (by omega))).trans (hb5.mono (by omega))).setCell (p := ⟨w.heap.size + 1 + 1, 0, none⟩) (by dsimp only; omega) _).setCell (p := ⟨w.heap.size + 1 + 1, 1, none⟩) (by dsimp only; omega) _
end Go.Proofs.YtdlijnkbpnhpoaaDoor
