/-
  What the document-side functions Bits and Number tell: the bits of a number, and the number of bits; conditions: those typed at each theorem.
-/
import Derived.Test.YtdlijnkbpnhpoaaDoorGroups
import Derived.Laws.OwnMore
namespace Go.Proofs.YtdlijnkbpnhpoaaDoor
open Go.RowKit

theorem Tryd.info3 : (Tryd.prog.info? 3).map (fun i => (i.zero, i.size, i.bytes)) = some (some (.int .i64 0), 1, 8) := by kernel_rfl

/-- bit j of a. -/
def bitN (a j : Nat) : Nat := a / 2 ^ j % 2
def bitV (a j : Nat) : Value := .int .i64 (bitN a j : Int)
theorem bit_test (a j : Nat) : bitN a j = (a.testBit j).toNat := by
  unfold bitN
  rw [Nat.testBit_eq_decide_div_mod_eq]
  have : a / 2 ^ j % 2 = 0 ∨ a / 2 ^ j % 2 = 1 := by omega
  rcases this with e | e <;> rw [e] <;> rfl
theorem and_bit (n : Nat) (h : n < 18446744073709551616) : wrap64 (bits BinOp.and IntKind.u64 (n : Int) 1) = ((n % 2 : Nat) : Int) := by
  have e := bits_and_u64_nat n 1 h (by decide)
  rw [Nat.and_one_is_mod] at e
  have e' : bits BinOp.and IntKind.u64 (n : Int) 1 = ((n % 2 : Nat) : Int) := e
  rw [e']
  unfold wrap64
  omega
theorem bit_lo (a k : Nat) (hk : k < 64) : wrap64 (bits BinOp.and IntKind.u64 (lo a / 2 ^ k) 1) = (bitN a k : Int) := by
  have e : lo a / 2 ^ k = ((a % 2 ^ 64 / 2 ^ k : Nat) : Int) := by unfold lo B64; simp
  rw [e, and_bit _ (Nat.lt_of_le_of_lt (Nat.div_le_self _ _) (by omega))]
  congr 1
  have h1 := bit_test (a % 2 ^ 64) k
  unfold bitN at h1
  rw [h1, Nat.testBit_mod_two_pow, decide_eq_true hk, Bool.true_and, bit_test]
theorem bit_hi (a k : Nat) (_hk : k < 64) (ha : a < B128) : wrap64 (bits BinOp.and IntKind.u64 (hi a / 2 ^ k) 1) = (bitN a (64 + k) : Int) := by
  have e : hi a / 2 ^ k = ((a / 2 ^ 64 / 2 ^ k : Nat) : Int) := by unfold hi B64; simp
  rw [e, and_bit _ (Nat.lt_of_le_of_lt (Nat.div_le_self _ _) (by unfold B128 at ha; omega))]
  congr 1
  unfold bitN
  rw [Nat.div_div_eq_div_mul, ← Nat.pow_add]
def part (a k : Nat) : List Value := (List.range 128).map fun j => if j % 64 < k then bitV a j else .int .i64 0
theorem part_zero (a : Nat) : part a 0 = List.replicate 128 (.int .i64 0) := by
  apply List.ext_getElem
  · simp [part]
  · intro i h1 h2
    rw [List.getElem_replicate]
    simp only [part, List.getElem_map, List.getElem_range]
    rw [if_neg (by omega)]
theorem part_len (a k : Nat) : (part a k).length = 128 := by simp [part]
theorem part_step (a k : Nat) (hk : k < 64) : ((part a k).set k (bitV a k)).set (64 + k) (bitV a (64 + k)) = part a (k + 1) := by
  apply List.ext_getElem
  · simp [part]
  · intro i h1 h2
    have hi : i < 128 := by simpa [part] using h2
    simp only [part, List.getElem_set, List.getElem_map, List.getElem_range]
    by_cases e1 : 64 + k = i
    · subst e1; rw [if_pos rfl, if_pos (by omega)]
    · rw [if_neg e1]
      by_cases e2 : k = i
      · subst e2; rw [if_pos rfl, if_pos (by omega)]
      · rw [if_neg e2]
        by_cases e3 : i % 64 < k
        · rw [if_pos e3, if_pos (by omega)]
        · rw [if_neg e3, if_neg (by omega)]
theorem made128 : (madeCells (Value.int IntKind.i64 0).cells (128 * 1)).toList = List.replicate 128 (Value.int .i64 0) := by kernel_rfl
def bitsL (a n : Nat) : List Value := (List.range n).map (bitV a)
theorem part_full (a : Nat) : part a 64 = bitsL a 128 := by
  apply List.ext_getElem
  · simp [part, bitsL]
  · intro i h1 h2
    simp only [part, bitsL, List.getElem_map, List.getElem_range]
    rw [if_pos (by omega)]

set_option maxRecDepth 100000 in
set_option maxHeartbeats 1000000 in
/-- the reference's Bits: a new slice of the 128 bits. -/
theorem bits_any (a : Nat) (w : World) (ha : a < B128) :
    Calls Tryd.prog 31 #[.agg #[.int .u64 (hi a), .int .u64 (lo a)]] w fun e w' => ∃ v, e = .returned v ∧ w'.ownsRow (w.heap.size + 1) 3 1 v 128 (bitsL a 128) ∧ Below w.heap.size w w' := by
  obtain ⟨i0, hi0, hz0, hz1, hz2⟩ := info_parts Tryd.info3
  have A1 := hi_nn a
  have A2 := hi_lt a ha
  have A3 := lo_nn a
  have A4 := lo_lt a
  have HA := Lib.hid ha
  clear ha
  go_enter Tryd.func31, Tryd.ntmps31
  go_wp2_with (at_make; refine wpList_make_full _ rfl _ _ 52 rfl (w.heap.size + 1) 3 i0 (.int .i64 0) 1 Tryd.underlying52 hi0 hz0 hz1 .i64 .i64 _ _ 128 rfl rfl rfl rfl (by rw [hz2]; decide) (by decide) (by simp) ?_; intro w0 hown0 hgrow0)
  rw [World.size_alloc] at hown0
  have hown1 : w0.ownsRow (w.heap.size + 1) 3 1 (.slice (some ⟨w.heap.size + 1, 0, none⟩) 128 128) 128 (part a 0) := by rw [part_zero, ← made128]; exact hown0
  clear hown0
  have c0 := hgrow0.cell (new0 w (.int .u64 (hi a)) (.int .u64 (lo a)) rfl) (by simp)
  have c1 := hgrow0.cell (new1 w (.int .u64 (hi a)) (.int .u64 (lo a)) rfl) (by simp)
  have HB0 : Below w.heap.size w w0 := ((Below.refl _ _).alloc (Nat.le_refl _) _).grown hgrow0 (by simp) (fun k e => by cases e)
  have hz : w.heap.size + 1 < w0.heap.size := by
    obtain ⟨_, h⟩ := hown1.lt _ rfl
    exact h
  clear hgrow0
  go_loopw [4] (fun i wr => ∃ k : Nat, k ≤ 64 ∧ i = .int .i64 k ∧ wr.cell? ⟨w.heap.size, 0, none⟩ = some (.int .u64 (hi a)) ∧ wr.cell? ⟨w.heap.size, 1, none⟩ = some (.int .u64 (lo a)) ∧ wr.ownsRow (w.heap.size + 1) 3 1 (.slice (some ⟨w.heap.size + 1, 0, none⟩) 128 128) 128 (part a k) ∧ Below w.heap.size w wr) (fun i _ => 64 - (intOf i).toNat)
  case atStart => exact ⟨0, by omega, rfl, c0, c1, hown1, HB0⟩
  case round =>
    obtain ⟨k, hk, rfl, c0, c1, hown, HB⟩ := hrel
    by_cases hlt : k < 64
    · have hlt' : (k : Int) < 64 := by omega
      obtain ⟨o0, u0⟩ : ∃ o0, wr.cell? ⟨w.heap.size + 1, k, none⟩ = some o0 := ⟨_, (hown.cellAt k (by omega)).trans (List.getElem?_eq_getElem (by rw [part_len]; omega))⟩
      obtain ⟨o1, u1⟩ : ∃ o1, wr.cell? ⟨w.heap.size + 1, 64 + k, none⟩ = some o1 := ⟨_, (hown.cellAt (64 + k) (by omega)).trans (List.getElem?_eq_getElem (by rw [part_len]; omega))⟩
      have v0 := hown.frozenAt k
      have v1 := hown.frozenAt (64 + k)
      have HO := Lib.hid hown
      clear hown
      have L0 := Lib.hid (bit_lo a k hlt)
      have L1 := Lib.hid (bit_hi a k hlt HA.out)
      go_wp2_with fail
      rw [L0.out, L1.out]
      have hne : w.heap.size + 1 ≠ w.heap.size := by omega
      refine ⟨⟨k + 1, by omega, by go_num, setc hne (setc hne c0), setc hne (setc hne c1), ?_, (HB.setCell (p := ⟨w.heap.size + 1, k, none⟩) (Nat.le_succ _) _).setCell (p := ⟨w.heap.size + 1, 64 + k, none⟩) (Nat.le_succ _) _⟩, by simp [intOf]; omega⟩
      rw [← part_step a k hlt]
      exact ((HO.out.stored k _).1.stored (64 + k) _).1
    · obtain rfl : k = 64 := by omega
      rw [part_full] at hown
      go_wp2
      go_ret
      exact ⟨_, rfl, hown, HB⟩

theorem bit01 (N j : Nat) : bitN N j = 0 ∨ bitN N j = 1 := by unfold bitN; omega
theorem mod_succ (N i : Nat) : N % 2 ^ (i + 1) = N % 2 ^ i + 2 ^ i * bitN N i := by
  unfold bitN
  rw [Nat.pow_succ, Nat.mod_mul]

theorem pow_lt64 (k : Nat) (h : k < 64) : 2 ^ k ≤ 9223372036854775808 := by
  have : 2 ^ k ≤ 2 ^ 63 := Nat.pow_le_pow_right (by decide) (by omega)
  omega
theorem add_lo_bit (m k : Nat) (hm : m < 2 ^ k) (hk : k < 64) : IntKind.u64.wrap (lo m + IntKind.u64.wrap (2 ^ k)) = lo (m + 2 ^ k) ∧ hi (m + 2 ^ k) = hi m := by
  have h1 := pow_lt64 k hk
  have e : ((2 : Int) ^ k) = ((2 ^ k : Nat) : Int) := by simp
  rw [e]
  generalize 2 ^ k = P at *
  rw [IntKind.wrap_u64, IntKind.wrap_u64]
  unfold lo hi B64
  omega
theorem add_hi_bit (m j : Nat) (hm : m < 2 ^ (64 + j)) (hj : j < 64) : IntKind.u64.wrap (hi m + IntKind.u64.wrap (2 ^ j)) = hi (m + 2 ^ (64 + j)) ∧ lo (m + 2 ^ (64 + j)) = lo m := by
  have h1 := pow_lt64 j hj
  have e : ((2 : Int) ^ j) = ((2 ^ j : Nat) : Int) := by simp
  rw [e]
  rw [Nat.pow_add] at *
  generalize 2 ^ j = P at *
  rw [IntKind.wrap_u64, IntKind.wrap_u64]
  unfold lo hi B64
  omega
theorem mod_lt_pow (N k : Nat) : N % 2 ^ k < 2 ^ k := Nat.mod_lt _ (Nat.pow_pos (by decide))
theorem pow128 : (2 : Nat) ^ 128 = B128 := by decide +kernel

set_option maxRecDepth 100000 in
set_option maxHeartbeats 1000000 in
/-- the reference's Number: of the bits of a number below 2^129. -/
theorem number_any (N n g cap : Nat) (w : World) (hn : n ≤ 129) (hN : N < 2 ^ n) (hg : g < w.heap.size) (hc : ∀ j, j < n → w.cell? ⟨g, j, none⟩ = some (bitV N j)) :
    Calls Tryd.prog 29 #[.slice (some ⟨g, 0, none⟩) n cap] w fun e w' => e = .returned (.tuple #[.agg #[.int .u64 (hi (addR N 0)), .int .u64 (lo (addR N 0))], .bool (addK N 0)]) ∧ Below w.heap.size w w' := by
  have HC := Lib.hid hc
  have HN := Lib.hid hN
  clear hc hN
  go_enter Tryd.func29, Tryd.ntmps29
  go_wp2
  go_loopw [5] (fun i wr => ∃ k : Nat, k ≤ n ∧ i = .int .i64 k ∧ N % 2 ^ k < B128 ∧ wr.cell? ⟨w.heap.size + 1, 0, none⟩ = some (.int .u64 (hi (N % 2 ^ k))) ∧ wr.cell? ⟨w.heap.size + 1, 1, none⟩ = some (.int .u64 (lo (N % 2 ^ k))) ∧ wr.frozen? ⟨w.heap.size + 1, 0, none⟩ = false ∧ wr.frozen? ⟨w.heap.size + 1, 1, none⟩ = false ∧ wr.cell? ⟨w.heap.size, 0, none⟩ = some (.int .u64 0) ∧ wr.cell? ⟨w.heap.size, 1, none⟩ = some (.int .u64 0) ∧ wr.frozen? ⟨w.heap.size, 0, none⟩ = false ∧ wr.frozen? ⟨w.heap.size, 1, none⟩ = false ∧ Below w.heap.size w wr) (fun i _ => n - (intOf i).toNat)
  case atStart =>
    refine ⟨0, by omega, rfl, by rw [Nat.pow_zero, Nat.mod_one]; decide +kernel, ?_, ?_, newf _ _ _ _ (by simp), newf _ _ _ _ (by simp), allc (new0 _ _ _ rfl), allc (new1 _ _ _ rfl), allf (new0 _ _ _ rfl) (newf _ _ _ _ rfl), allf (new1 _ _ _ rfl) (newf _ _ _ _ rfl), ((Below.refl _ _).alloc (Nat.le_refl _) _).alloc (by simp) _⟩
    · rw [Nat.pow_zero, Nat.mod_one, hi_zero]; exact new0 _ _ _ (by simp)
    · rw [Nat.pow_zero, Nat.mod_one, lo_zero]; exact new1 _ _ _ (by simp)
  case round =>
    obtain ⟨k, hk, rfl, hmB, c0, c1, f0, f1, r0, r1, q0, q1, HB⟩ := hrel
    have hne : w.heap.size + 1 ≠ w.heap.size := by omega
    by_cases hlt : k < n
    · have hcell : wr.cell? ⟨g, k, none⟩ = some (.int .i64 (bitN N k : Int)) := keepc' HB hg (HC.out k hlt)
      have HM := Lib.hid (mod_succ N k)
      have HL := Lib.hid (mod_lt_pow N k)
      have HB' := Lib.hid hmB
      clear hmB
      rcases bit01 N k with hb | hb
      · have t1 : ((bitN N k : Int) == 1) = false := by rw [hb]; rfl
        have HE : Hid (N % 2 ^ (k + 1) = N % 2 ^ k) := by unfold Hid; rw [HM.out, hb]; omega
        clear hb
        obtain ⟨m, hm⟩ : ∃ m, m = N % 2 ^ k := ⟨_, rfl⟩
        rw [← hm] at c0 c1
        have Hm := Lib.hid hm
        clear hm
        go_wp2
        refine ⟨⟨k + 1, by omega, by go_num, ?_⟩, by simp [intOf]; omega⟩
        rw [HE.out, ← Hm.out]
        exact ⟨by rw [Hm.out]; exact HB'.out, c0, c1, f0, f1, r0, r1, q0, q1, HB⟩
      · have t1 : ((bitN N k : Int) == 1) = true := by rw [hb]; rfl
        have HE : Hid (N % 2 ^ (k + 1) = N % 2 ^ k + 2 ^ k) := by unfold Hid; rw [HM.out, hb, Nat.mul_one]
        clear hb
        obtain ⟨m, hm⟩ : ∃ m, m = N % 2 ^ k := ⟨_, rfl⟩
        rw [← hm] at c0 c1
        have Hm := Lib.hid hm
        clear hm
        by_cases h64 : k < 64
        · have h64' : (k : Int) < 64 := by omega
          have AB := Lib.hid (add_lo_bit m k (by rw [Hm.out]; exact HL.out) h64)
          have HP := Lib.hid (pow_lt64 k h64)
          go_wp2
          rw [AB.out.1]
          refine ⟨⟨k + 1, by omega, by go_num, ?_⟩, by simp [intOf]; omega⟩
          rw [HE.out, ← Hm.out, AB.out.2]
          refine ⟨?_, (World.cell?_setCell_other _ _ _ _ (by simp)).trans c0, World.cell?_setCell_same' _ _ _ (by rw [c1]; rfl), by simp [World.frozen?_setCell, f0], by simp [World.frozen?_setCell, f1], setc hne r0, setc hne r1, by simp [World.frozen?_setCell, q0], by simp [World.frozen?_setCell, q1], HB.setCell (p := ⟨w.heap.size + 1, 1, none⟩) (Nat.le_succ _) _⟩
          have q1 := HL.out
          have q2 := HP.out
          rw [← Hm.out] at q1
          unfold B128; omega
        · by_cases h128 : k < 128
          · obtain ⟨j, rfl⟩ : ∃ j, k = 64 + j := ⟨k - 64, by omega⟩
            have hj : j < 64 := by omega
            have AB := Lib.hid (add_hi_bit m j (by rw [Hm.out]; exact HL.out) hj)
            have HP : Hid (2 ^ (64 + j + 1) ≤ B128) := by unfold Hid; rw [← pow128]; exact Nat.pow_le_pow_right (by decide) (by omega)
            have HP2 : Hid (2 ^ (64 + j + 1) = 2 ^ (64 + j) * 2) := Nat.pow_succ _ _
            go_wp2
            rw [AB.out.1]
            refine ⟨⟨64 + j + 1, by omega, by go_num, ?_⟩, by simp [intOf]; omega⟩
            rw [HE.out, ← Hm.out, AB.out.2]
            refine ⟨?_, World.cell?_setCell_same' _ _ _ (by rw [c0]; rfl), (World.cell?_setCell_other _ _ _ _ (by simp)).trans c1, by simp [World.frozen?_setCell, f0], by simp [World.frozen?_setCell, f1], setc hne r0, setc hne r1, by simp [World.frozen?_setCell, q0], by simp [World.frozen?_setCell, q1], HB.setCell (p := ⟨w.heap.size + 1, 0, none⟩) (Nat.le_succ _) _⟩
            have z1 := HL.out
            have z2 := HP.out
            rw [← Hm.out] at z1
            rw [HP2.out] at z2
            omega
          · obtain rfl : k = 128 := by omega
            have HR : Hid (addR N 0 = 0 ∧ addK N 0 = false) := by
              have z1 : N % 2 ^ 129 = N := Nat.mod_eq_of_lt (Nat.lt_of_lt_of_le HN.out (Nat.pow_le_pow_right (by decide) hn))
              have z2 := HE.out
              rw [z1, pow128] at z2
              exact ⟨addR_no (by omega), addK_no (by omega)⟩
            clear h64 h128
            go_wp2
            refine bodyPost_ret (v := .tuple #[.agg #[.int .u64 0, .int .u64 0], .bool false]) (by simp [results, Tryd.results29, go_sem, *]) rfl ⟨by rw [HR.out.1, HR.out.2, hi_zero, lo_zero], ?_⟩
            exact (HB.setCell (p := ⟨w.heap.size, 0, none⟩) (Nat.le_refl _) _).setCell (p := ⟨w.heap.size, 1, none⟩) (Nat.le_refl _) _
    · obtain rfl : k = n := by omega
      have hfull : N % 2 ^ k = N := Nat.mod_eq_of_lt HN.out
      rw [hfull] at c0 c1 hmB
      have HR : Hid (addR N 0 = N ∧ addK N 0 = true) := ⟨addR_yes (by omega), addK_yes (by omega)⟩
      clear hmB hfull
      go_wp2
      have s0 := set20 (x := .int .u64 (hi N)) (y := .int .u64 (lo N)) r0
      have s1 := set21 (x := .int .u64 (hi N)) (y := .int .u64 (lo N)) r1
      refine bodyPost_ret (v := .tuple #[.agg #[.int .u64 (hi N), .int .u64 (lo N)], .bool true]) (by simp [results, Tryd.results29, go_sem, s0, s1]) rfl ⟨by rw [HR.out.1, HR.out.2], ?_⟩
      exact (HB.setCell (p := ⟨w.heap.size, 0, none⟩) (Nat.le_refl _) _).setCell (p := ⟨w.heap.size, 1, none⟩) (Nat.le_refl _) _
end Go.Proofs.YtdlijnkbpnhpoaaDoor
