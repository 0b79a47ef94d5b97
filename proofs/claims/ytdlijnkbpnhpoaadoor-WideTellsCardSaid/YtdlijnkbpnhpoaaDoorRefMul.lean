/-
  What the document-side function Mul tells: the product; conditions: those typed at each theorem.
-/
import Derived.Test.YtdlijnkbpnhpoaaDoorRefText
namespace Go.Proofs.YtdlijnkbpnhpoaaDoor
open Go.RowKit

theorem bit_dbl_zero (x : Nat) : bitN (2 * x) 0 = 0 := by unfold bitN; simp
theorem bit_dbl (x j : Nat) : bitN (2 * x) (j + 1) = bitN x j := by
  unfold bitN
  rw [Nat.pow_succ, Nat.mul_comm (2 ^ j) 2, Nat.mul_div_mul_left _ _ (by decide)]
theorem row_dbl (x n : Nat) : Value.int .i64 0 :: bitsL x n = bitsL (2 * x) (n + 1) := by
  apply List.ext_getElem
  · simp [bitsL]
  · intro j h1 h2
    cases j with
    | zero => simp [bitsL, bitV, bit_dbl_zero]
    | succ j => simp [bitsL, bitV, bit_dbl]
/-- what stands in the rounds of Mul: the result's cells, x, and what is told so far. -/
structure MSt (w wr : World) (x o : Nat) : Prop where
  r0 : wr.cell? ⟨w.heap.size, 0, none⟩ = some (.int .u64 0)
  r1 : wr.cell? ⟨w.heap.size, 1, none⟩ = some (.int .u64 0)
  q0 : wr.frozen? ⟨w.heap.size, 0, none⟩ = false
  q1 : wr.frozen? ⟨w.heap.size, 1, none⟩ = false
  x0 : wr.cell? ⟨w.heap.size + 1, 0, none⟩ = some (.int .u64 (hi x))
  x1 : wr.cell? ⟨w.heap.size + 1, 1, none⟩ = some (.int .u64 (lo x))
  f0 : wr.frozen? ⟨w.heap.size + 1, 0, none⟩ = false
  f1 : wr.frozen? ⟨w.heap.size + 1, 1, none⟩ = false
  o0 : wr.cell? ⟨w.heap.size + 1 + 1, 0, none⟩ = some (.int .u64 (hi o))
  o1 : wr.cell? ⟨w.heap.size + 1 + 1, 1, none⟩ = some (.int .u64 (lo o))
  g0 : wr.frozen? ⟨w.heap.size + 1 + 1, 0, none⟩ = false
  g1 : wr.frozen? ⟨w.heap.size + 1 + 1, 1, none⟩ = false
  bl : Below w.heap.size w wr
  sz : w.heap.size + 3 ≤ wr.heap.size
theorem MSt.step {w wr wx : World} {x o : Nat} (h : MSt w wr x o) (hb : Below wr.heap.size wr wx) : MSt w wx x o :=
  ⟨keepc hb h.r0, keepc hb h.r1, keepf hb h.r0 h.q0, keepf hb h.r1 h.q1, keepc hb h.x0, keepc hb h.x1, keepf hb h.x0 h.f0, keepf hb h.x1 h.f1, keepc hb h.o0, keepc hb h.o1, keepf hb h.o0 h.g0, keepf hb h.o1 h.g1, h.bl.trans (hb.mono h.bl.size), Nat.le_trans h.sz hb.size⟩
theorem MSt.putx {w wr : World} {x o : Nat} (h : MSt w wr x o) (v : Nat) : MSt w ((wr.setCell ⟨w.heap.size + 1, 0, none⟩ (.int .u64 (hi v))).setCell ⟨w.heap.size + 1, 1, none⟩ (.int .u64 (lo v))) v o :=
  ⟨setc (by dsimp only; omega) (setc (by dsimp only; omega) h.r0), setc (by dsimp only; omega) (setc (by dsimp only; omega) h.r1), by simpa using h.q0, by simpa using h.q1, set20 h.x0, set21 h.x1, by simpa using h.f0, by simpa using h.f1, setc (by dsimp only; omega) (setc (by dsimp only; omega) h.o0), setc (by dsimp only; omega) (setc (by dsimp only; omega) h.o1), by simpa using h.g0, by simpa using h.g1, (h.bl.setCell (p := ⟨w.heap.size + 1, 0, none⟩) (by dsimp only; omega) _).setCell (p := ⟨w.heap.size + 1, 1, none⟩) (by dsimp only; omega) _, by simpa using h.sz⟩
theorem MSt.puto {w wr : World} {x o : Nat} (h : MSt w wr x o) (v : Nat) : MSt w ((wr.setCell ⟨w.heap.size + 1 + 1, 0, none⟩ (.int .u64 (hi v))).setCell ⟨w.heap.size + 1 + 1, 1, none⟩ (.int .u64 (lo v))) x v :=
  ⟨setc (by dsimp only; omega) (setc (by dsimp only; omega) h.r0), setc (by dsimp only; omega) (setc (by dsimp only; omega) h.r1), by simpa using h.q0, by simpa using h.q1, setc (by dsimp only; omega) (setc (by dsimp only; omega) h.x0), setc (by dsimp only; omega) (setc (by dsimp only; omega) h.x1), by simpa using h.f0, by simpa using h.f1, set20 h.o0, set21 h.o1, by simpa using h.g0, by simpa using h.g1, (h.bl.setCell (p := ⟨w.heap.size + 1 + 1, 0, none⟩) (by dsimp only; omega) _).setCell (p := ⟨w.heap.size + 1 + 1, 1, none⟩) (by dsimp only; omega) _, by simpa using h.sz⟩
theorem MSt.told {w wr : World} {x o : Nat} (h : MSt w wr x o) (u v : Value) : Below w.heap.size w ((wr.setCell ⟨w.heap.size, 0, none⟩ u).setCell ⟨w.heap.size, 1, none⟩ v) :=
  (h.bl.setCell (p := ⟨w.heap.size, 0, none⟩) (Nat.le_refl _) _).setCell (p := ⟨w.heap.size, 1, none⟩) (Nat.le_refl _) _
theorem pow64' : (2 : Nat) ^ 64 = B64 := by decide +kernel
theorem mul_small (A k : Nat) (hA : A < B64) (hk : k < 64) : 2 * (A * 2 ^ k) < B128 := by
  have h1 : 2 ^ k ≤ 9223372036854775808 := pow_lt64 k hk
  have h2 : A * 2 ^ k ≤ (B64 - 1) * 9223372036854775808 := Nat.mul_le_mul (by omega) h1
  unfold B64 at h2; unfold B128; omega
theorem mul_part (A B k : Nat) (hA : A < B64) (hk : k ≤ 64) : A * (B % 2 ^ k) < B128 := by
  have h1 : B % 2 ^ k < 2 ^ k := mod_lt_pow B k
  have h3 : 2 ^ k ≤ 2 ^ 64 := Nat.pow_le_pow_right (by decide) hk
  rw [pow64'] at h3
  have h2 : A * (B % 2 ^ k) ≤ (B64 - 1) * (B64 - 1) := Nat.mul_le_mul (by omega) (by omega)
  unfold B64 at h2; unfold B128; omega
theorem mul_add (A B k : Nat) (h : bitN B k = 1) : A * (B % 2 ^ k) + A * 2 ^ k = A * (B % 2 ^ (k + 1)) := by
  rw [mod_succ, h, Nat.mul_one, Nat.mul_add]
theorem mul_keep (A B k : Nat) (h : bitN B k = 0) : A * (B % 2 ^ (k + 1)) = A * (B % 2 ^ k) := by
  rw [mod_succ, h, Nat.mul_zero, Nat.add_zero]

theorem MSt.step' {w wr wx : World} {x o C : Nat} (h : MSt w wr x o) (hb : Below C wr wx) (hC : w.heap.size + 3 ≤ C) : MSt w wx x o :=
  ⟨keepc' hb (by dsimp only; omega) h.r0, keepc' hb (by dsimp only; omega) h.r1, keepf' hb (by dsimp only; omega) h.q0, keepf' hb (by dsimp only; omega) h.q1, keepc' hb (by dsimp only; omega) h.x0, keepc' hb (by dsimp only; omega) h.x1, keepf' hb (by dsimp only; omega) h.f0, keepf' hb (by dsimp only; omega) h.f1, keepc' hb (by dsimp only; omega) h.o0, keepc' hb (by dsimp only; omega) h.o1, keepf' hb (by dsimp only; omega) h.g0, keepf' hb (by dsimp only; omega) h.g1, h.bl.trans (hb.mono (by omega)), Nat.le_trans h.sz hb.size⟩
theorem number_lt (N g cap : Nat) (w : World) (hN : N < B128) (hg : g < w.heap.size) (hc : ∀ j, j < 128 → w.cell? ⟨g, j, none⟩ = some (bitV N j)) :
    Calls Tryd.prog 29 #[.slice (some ⟨g, 0, none⟩) 128 cap] w fun e w' => e = .returned (.tuple #[.agg #[.int .u64 (hi N), .int .u64 (lo N)], .bool true]) ∧ Below w.heap.size w w' := by
  refine (number_any N 128 g cap w (by omega) (by rw [pow128]; exact hN) hg hc).mono ?_
  rintro e w' ⟨rfl, hw⟩
  have hl : N + 0 < B128 := by omega
  exact ⟨by rw [addR_yes hl, addK_yes hl, Nat.add_zero], hw⟩
theorem news_cells {w : World} {g x n : Nat} (h : ∀ j, j < 128 → w.cell? ⟨g, j, none⟩ = some (bitV x j)) (hn : n ≤ 128) : ∀ j u, (bitsL x n)[j]? = some u → w.cell? ((⟨g, 0, none⟩ : Addr).add j) = some u := by
  intro j u hj
  have hlt : j < n := by
    by_cases q : j < n
    · exact q
    · rw [List.getElem?_eq_none (by rw [bitsL_len]; omega)] at hj; cases hj
  rw [List.getElem?_eq_getElem (by rw [bitsL_len]; exact hlt)] at hj
  simp only [bitsL, List.getElem_map, List.getElem_range] at hj
  rw [← hj, show (⟨g, 0, none⟩ : Addr).add j = ⟨g, j, none⟩ by simp [Addr.add]; omega]
  exact h j (by omega)
theorem own_cap {w : World} {B g n cap : Nat} {xs : List Value} (h : w.ownsRow B 3 1 (.slice (some ⟨g, 0, none⟩) n cap) n xs) : n ≤ cap ∧ cap ≤ maxLen := by
  rcases h.2 with ⟨hn, _⟩ | ⟨g', cap', cur, e, _, _, h1, h2, _⟩
  · cases hn
  · simp only [Value.slice.injEq, Option.some.injEq, Addr.mk.injEq, and_true, true_and] at e
    obtain ⟨rfl, rfl⟩ := e
    exact ⟨h1, h2⟩
theorem news_one (x n : Nat) : ∀ u ∈ bitsL x n, u.oneCell' = true := by
  intro u hu
  simp only [bitsL, List.mem_map] at hu
  obtain ⟨j, _, rfl⟩ := hu
  rfl
theorem and_bit2 (n : Nat) (h : n < 18446744073709551616) : bits BinOp.and IntKind.u64 (n : Int) 1 = ((n % 2 : Nat) : Int) := by
  have e := bits_and_u64_nat n 1 h (by decide)
  rw [Nat.and_one_is_mod] at e
  exact e
theorem bit_lo2 (a k : Nat) (hk : k < 64) : bits BinOp.and IntKind.u64 (lo a / 2 ^ k) 1 = (bitN a k : Int) := by
  have e : lo a / 2 ^ k = ((a % 2 ^ 64 / 2 ^ k : Nat) : Int) := by unfold lo B64; simp
  rw [e, and_bit2 _ (Nat.lt_of_le_of_lt (Nat.div_le_self _ _) (by omega))]
  congr 1
  have h1 := bit_test (a % 2 ^ 64) k
  unfold bitN at h1
  rw [h1, Nat.testBit_mod_two_pow, decide_eq_true hk, Bool.true_and, bit_test]

set_option maxRecDepth 100000 in
set_option maxHeartbeats 2000000 in
theorem rmul_any (A B : Nat) (w : World) (hA : A < B64) (hB : B < B64) :
    Calls Tryd.prog 20 #[.int .u64 (lo A), .int .u64 (lo B)] w fun e w' => e = .returned (.agg #[.int .u64 (hi (A * B)), .int .u64 (lo (A * B))]) ∧ Below w.heap.size w w' := by
  obtain ⟨i0, hi0, hz0, hz1, hz2⟩ := info_parts Tryd.info3
  have LA := Lib.hid hA
  have LB := Lib.hid hB
  have B1 := lo_nn B
  have B2 := lo_lt B
  clear hA hB
  go_enter Tryd.func20, Tryd.ntmps20
  go_wp2_with fail
  go_loopw [7] (fun i wr => ∃ k : Nat, k ≤ 64 ∧ i = .int .i64 k ∧ Hid (MSt w wr (A * 2 ^ k) (A * (B % 2 ^ k)))) (fun i _ => 64 - (intOf i).toNat)
  case atStart =>
    refine ⟨0, by omega, rfl, Lib.hid ?_⟩
    rw [Nat.pow_zero, Nat.mul_one, Nat.mod_one, Nat.mul_zero]
    refine ⟨allc (allc (new0 _ _ _ rfl)), allc (allc (new1 _ _ _ rfl)), allf (allc (new0 _ _ _ rfl)) (allf (new0 _ _ _ rfl) (newf _ _ _ _ rfl)), allf (allc (new1 _ _ _ rfl)) (allf (new1 _ _ _ rfl) (newf _ _ _ _ rfl)), ?_, allc (new1 _ _ _ (by simp)), allf (new0 _ _ _ (by simp)) (newf _ _ _ _ (by simp)), allf (new1 _ _ _ (by simp)) (newf _ _ _ _ (by simp)), ?_, ?_, newf _ _ _ _ (by simp), newf _ _ _ _ (by simp), (((Below.refl _ _).alloc (Nat.le_refl _) _).alloc (by simp) _).alloc (by simp; omega) _, by simp⟩
    · rw [small_hi A LA.out]; exact allc (new0 _ _ _ (by simp))
    · rw [hi_zero]; exact new0 _ _ _ (by simp)
    · rw [lo_zero]; exact new1 _ _ _ (by simp)
  case round =>
    obtain ⟨k, hk, rfl, HS⟩ := hrel
    by_cases hlt : k < 64
    · have hlt' : (k : Int) < 64 := by omega
      have L0 := Lib.hid (bit_lo2 B k hlt)
      obtain ⟨xk, hxk⟩ : ∃ xk, xk = A * 2 ^ k := ⟨_, rfl⟩
      obtain ⟨ok, hok⟩ : ∃ ok, ok = A * (B % 2 ^ k) := ⟨_, rfl⟩
      have HX2 : Hid (2 * xk < B128) := Lib.hid (by rw [hxk]; exact mul_small A k LA.out hlt)
      have HX3 : Hid (2 * xk = A * 2 ^ (k + 1)) := Lib.hid (by rw [hxk, Nat.pow_succ, Nat.mul_comm 2, Nat.mul_assoc])
      have HO3 : Hid (bitN B k = 1 → ok + xk = A * (B % 2 ^ (k + 1))) := Lib.hid (by rw [hxk, hok]; exact mul_add A B k)
      have HO4 : Hid (bitN B k = 0 → ok = A * (B % 2 ^ (k + 1))) := Lib.hid (by rw [hok]; exact fun h => (mul_keep A B k h).symm)
      have HO5 : Hid (A * (B % 2 ^ (k + 1)) < B128) := Lib.hid (mul_part A B (k + 1) LA.out (by omega))
      rw [← hxk, ← hok] at HS
      clear hxk hok
      go_upto_region 6 with fail
      go_cut [20] (fun s20 wx => s20 = .bool (decide (bitN B k = 1)) ∧ wx = wr)
      case first =>
        clear HS
        go_wp2_with fail
        go_meet
        refine ⟨?_, rfl⟩
        rw [L0.out]
        rcases bit01 B k with hb | hb <;> rw [hb] <;> rfl
      case rest =>
        obtain ⟨rfl, rfl⟩ := hcut
        go_upto_if 20 with fail
        go_cut [21] (fun _ wx => ∃ on : Nat, Hid (on = A * (B % 2 ^ (k + 1))) ∧ Hid (MSt w wx xk on))
        case first =>
          rcases bit01 B k with hb | hb
          · rw [show decide (bitN B k = 1) = false by rw [hb]; rfl]
            have HN := Lib.hid (HO4.out hb)
            clear hb
            go_wp2_with fail
            go_meet
            exact ⟨ok, HN, HS⟩
          · rw [show decide (bitN B k = 1) = true by rw [hb]; rfl]
            have HN := Lib.hid (HO3.out hb)
            clear hb
            have x0 := HS.out.x0
            have x1 := HS.out.x1
            have o0 := HS.out.o0
            have o1 := HS.out.o1
            have g0 := HS.out.g0
            have g1 := HS.out.g1
            go_wp2_with (go_at_call 11; refine (radd_yes ok xk _ (by rw [HN.out]; exact HO5.out)).mono ?_; rintro e w1 ⟨rfl, hb1⟩; replace HS := Lib.hid (HS.out.step hb1); replace g0 := keepf hb1 o0 g0; replace g1 := keepf hb1 o1 g1; replace o0 := keepc hb1 o0; replace o1 := keepc hb1 o1)
            go_meet
            exact ⟨ok + xk, HN, Lib.hid (HS.out.puto _)⟩
        case rest =>
          obtain ⟨on, HN, HS'⟩ := hcut
          clear HS HO3 HO4
          have x0 := HS'.out.x0
          have x1 := HS'.out.x1
          have hsz := HS'.out.sz
          have own0 : (wc.alloc (.cells #[.int .i64 0] 3)).ownsRow w.heap.size 3 1 (.slice (some ⟨wc.heap.size, 0, none⟩) 1 1) 1 [.int .i64 0] := World.ownsRow_lit wc #[.int .i64 0] 1 (by omega) (by decide) rfl
          have HO := Lib.hid own0
          clear own0
          have HS1 := Lib.hid (HS'.out.step ((Below.refl wc.heap.size wc).alloc (Nat.le_refl _) (.cells #[.int .i64 0] 3)))
          replace x0 := allc (o := .cells #[.int .i64 0] 3) x0
          replace x1 := allc (o := .cells #[.int .i64 0] 3) x1
          have hz3 : wc.heap.size < (wc.alloc (.cells #[.int .i64 0] 3)).heap.size := by simp
          clear HS'
          go_wp2_with (first
            | (go_at_call 31; refine (bits_at xk _ (by have := HX2.out; omega)).mono ?_; rintro e w2 ⟨ga, ca, rfl, hg1, hg2, hc2, hc3, hb2⟩; have hca := (own_cap hc3).1; clear hc3; replace HO := Lib.hid (own_below HO.out hb2 (by omega)); replace HS1 := Lib.hid (HS1.out.step hb2); have HC2 := Lib.hid hc2; clear hc2; have hz5 := hb2.size; clear hb2)
            | (at_builtin; refine wpList_append_own _ rfl _ _ 52 rfl w.heap.size 3 i0 (.int .i64 0) 1 8 Tryd.underlying52 hi0 hz0 hz1 hz2 rfl (by decide) _ _ _ rfl HO.out ⟨ga, 0, none⟩ 127 ca (bitsL xk 127) rfl (by simp [bitsL]) (news_cells HC2.out (by omega)) (news_one xk 127) ?_ ?_ ?_ ?_ <;> first | (unfold maxLen; omega) | omega | (intro v' w3 hown' hgrow _)))
          obtain ⟨g', cap', rfl, _, hg', hc3⟩ := own_slice (n := 128) (N := 2 * xk) (w := w3) (B := w.heap.size) (v := v') (by rw [← row_dbl]; exact hown') (by omega)
          have hgr : w2.grownBy w3 (some wc.heap.size) := hgrow
          replace HS1 := Lib.hid (HS1.out.step' ((Below.refl wc.heap.size w2).grown hgr (by omega) (fun q hq => by cases hq; exact Nat.le_refl _)) hsz)
          clear hown' hgrow hgr HO HC2 x0 x1
          refine (number_lt (2 * xk) g' cap' _ HX2.out hg' hc3).mono ?_
          rintro e w4 ⟨rfl, hb4⟩
          replace HS1 := Lib.hid (HS1.out.step hb4)
          clear hc3 hb4
          have x0 := HS1.out.x0
          have x1 := HS1.out.x1
          have f0 := HS1.out.f0
          have f1 := HS1.out.f1
          go_wp2_with fail
          exact ⟨⟨k + 1, by omega, by go_num, Lib.hid (by rw [← HX3.out, ← HN.out]; exact HS1.out.putx _)⟩, by simp [intOf]; omega⟩
    · obtain rfl : k = 64 := by omega
      have eB : B % 2 ^ 64 = B := by rw [pow64']; exact Nat.mod_eq_of_lt LB.out
      rw [eB] at HS
      clear eB
      have r0 := HS.out.r0
      have r1 := HS.out.r1
      have q0 := HS.out.q0
      have q1 := HS.out.q1
      have o0 := HS.out.o0
      have o1 := HS.out.o1
      have hT := HS.out.told (.int .u64 (hi (A * B))) (.int .u64 (lo (A * B)))
      clear HS
      obtain ⟨v, hv⟩ : ∃ v, v = A * B := ⟨_, rfl⟩
      rw [← hv] at o0 o1 hT
      have HV := Lib.hid hv
      clear hv
      have s0 := set20 (x := .int .u64 (hi v)) (y := .int .u64 (lo v)) r0
      have s1 := set21 (x := .int .u64 (hi v)) (y := .int .u64 (lo v)) r1
      go_wp2_with fail
      refine bodyPost_ret (v := .agg #[.int .u64 (hi v), .int .u64 (lo v)]) (by simp [results, Tryd.results20, go_sem, s0, s1]) rfl ⟨by rw [HV.out], hT⟩
end Go.Proofs.YtdlijnkbpnhpoaaDoor
