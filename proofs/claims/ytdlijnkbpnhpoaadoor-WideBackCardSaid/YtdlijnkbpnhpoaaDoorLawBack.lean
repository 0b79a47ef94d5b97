/-
  WideBack is proved: for every two wide numbers the law answers true and changes nothing that was there; condition: the three listed tables start as the program's text lays them (the card ties them to it).
-/
import Derived.Test.YtdlijnkbpnhpoaaDoorHelp
namespace Go.Proofs.YtdlijnkbpnhpoaaDoor
open Go.RowKit Go.ChangeShapes Go.WideShapes Go.ChangeAt Go.Joins

theorem sub_to (m n s : Nat) (w : World) (h : n + s = m) (hm : m < B128) :
    Calls Tryd.prog 12 #[.agg #[.int .u64 (hi m), .int .u64 (lo m)], .agg #[.int .u64 (hi n), .int .u64 (lo n)]] w fun e w' => e = .returned (.tuple #[.agg #[.int .u64 (hi s), .int .u64 (lo s)], .bool true]) ∧ Below w.heap.size w w' := by
  obtain rfl : s = m - n := by omega
  exact sub_yes m n w hm (by omega)
theorem cmp_le0 {m n : Nat} (h : m ≤ n) : cmpN m n ≤ 0 := by unfold cmpN; split <;> (try split) <;> omega
theorem cmp_ge0 {m n : Nat} (h : n ≤ m) : 0 ≤ cmpN m n := by unfold cmpN; split <;> (try split) <;> omega
theorem cmp_gt0 {m n : Nat} (h : n < m) : 0 < cmpN m n := by rw [cmpN_gt m n h]; decide
theorem cmp_lt0 {m n : Nat} (h : m < n) : cmpN m n < 0 := by rw [cmpN_lt m n h]; decide
theorem add_to (m n s : Nat) (w : World) (h : m + n = s) (hs : s < B128) :
    Calls Tryd.prog 10 #[.agg #[.int .u64 (hi m), .int .u64 (lo m)], .agg #[.int .u64 (hi n), .int .u64 (lo n)]] w fun e w' => e = .returned (.tuple #[.agg #[.int .u64 (hi s), .int .u64 (lo s)], .bool true]) ∧ Below w.heap.size w w' := by
  subst h; exact add_yes m n w hs
def MX : Nat := 340282366920938463463374607431768211455
theorem sub_most (a : Nat) (w : World) (ha : a < B128) :
    Calls Tryd.prog 12 #[.agg #[.int .u64 18446744073709551615, .int .u64 18446744073709551615], .agg #[.int .u64 (hi a), .int .u64 (lo a)]] w fun e w' => e = .returned (.tuple #[.agg #[.int .u64 (hi (MX - a)), .int .u64 (lo (MX - a))], .bool true]) ∧ Below w.heap.size w w' := by
  have h := sub_yes MX a w (by decide +kernel) (by unfold MX; unfold B128 at ha; omega)
  rw [show hi MX = 18446744073709551615 by decide +kernel, show lo MX = 18446744073709551615 by decide +kernel] at h
  exact h

set_option maxRecDepth 100000 in
set_option maxHeartbeats 1000000 in
theorem back_law (a b : Nat) (w : World) (htab : Lib.TabIs Tryd.prog w "internal/strconv.uint64pow10" .u64 Lib.pow10Tab)
    (ha : a < B128) (hb : b < B128) :
    Calls Tryd.prog 4 #[.agg #[.int .u64 (hi a), .int .u64 (lo a)], .agg #[.int .u64 (hi b), .int .u64 (lo b)]] w fun e w' => e = .returned (.bool true) ∧ Below w.heap.size w w' := by
  have HT := Lib.hid htab
  have A := Lib.hid ha
  have B := Lib.hid hb
  clear htab ha hb
  have a0 : ((w.alloc (.cells #[.int .u64 (hi a), .int .u64 (lo a)] 24)).alloc (.cells #[.int .u64 (hi b), .int .u64 (lo b)] 24)).cell? ⟨w.heap.size, 0, none⟩ = some (.int .u64 (hi a)) := allc (new0 _ _ _ rfl)
  have a1 : ((w.alloc (.cells #[.int .u64 (hi a), .int .u64 (lo a)] 24)).alloc (.cells #[.int .u64 (hi b), .int .u64 (lo b)] 24)).cell? ⟨w.heap.size, 1, none⟩ = some (.int .u64 (lo a)) := allc (new1 _ _ _ rfl)
  have b0 : ((w.alloc (.cells #[.int .u64 (hi a), .int .u64 (lo a)] 24)).alloc (.cells #[.int .u64 (hi b), .int .u64 (lo b)] 24)).cell? ⟨w.heap.size + 1, 0, none⟩ = some (.int .u64 (hi b)) := new0 _ _ _ (by simp)
  have b1 : ((w.alloc (.cells #[.int .u64 (hi a), .int .u64 (lo a)] 24)).alloc (.cells #[.int .u64 (hi b), .int .u64 (lo b)] 24)).cell? ⟨w.heap.size + 1, 1, none⟩ = some (.int .u64 (lo b)) := new1 _ _ _ (by simp)
  have HB0 := ((Below.refl w.heap.size w).alloc (Nat.le_refl _) (.cells #[.int .u64 (hi a), .int .u64 (lo a)] 24)).alloc (by simp) (.cells #[.int .u64 (hi b), .int .u64 (lo b)] 24)
  have HZ0 : ((w.alloc (.cells #[.int .u64 (hi a), .int .u64 (lo a)] 24)).alloc (.cells #[.int .u64 (hi b), .int .u64 (lo b)] 24)).heap.size = w.heap.size + 2 := by simp
  go_enter Tryd.func4, Tryd.ntmps4
  go_upto_region 1 with fail
  generalize (w.alloc (.cells #[.int .u64 (hi a), .int .u64 (lo a)] 24)).alloc (.cells #[.int .u64 (hi b), .int .u64 (lo b)] 24) = X at *
  have hzX : w.heap.size + 1 < X.heap.size := by omega
  have hzX0 : w.heap.size < X.heap.size := by omega
  clear HZ0
  go_cut [5, 6] (fun s5 s6 wx => s6 = .bool true ∧ ∃ g : Nat, s5 = .pointer (some ⟨g, 0, none⟩) ∧ X.heap.size ≤ g ∧ wx.cell? ⟨g, 0, none⟩ = some (.int .u64 (hi (MX - a))) ∧ wx.cell? ⟨g, 1, none⟩ = some (.int .u64 (lo (MX - a))) ∧ Below X.heap.size X wx)
  case first =>
    go_region_held3 (fun w' => w'.cell? ⟨w.heap.size, 0, none⟩ = some (.int .u64 (hi a)) ∧ w'.cell? ⟨w.heap.size, 1, none⟩ = some (.int .u64 (lo a))) (first | exact ⟨a0, a1⟩ | exact ⟨k1, k2⟩ | exact ⟨k3, k4⟩ | exact ⟨setc (by dsimp only; omega) (setc (by dsimp only; omega) k3), setc (by dsimp only; omega) (setc (by dsimp only; omega) k4)⟩ | go_keep)
      (first
        | (go_at_call 25; refine (most_any _).mono ?_; rintro e w2 ⟨rfl, hb2⟩; have k1 := keepc hb2 (p := ⟨w.heap.size, 0, none⟩) (v := .int .u64 (hi a)) (by first | exact a0 | exact allc a0); have k2 := keepc hb2 (p := ⟨w.heap.size, 1, none⟩) (v := .int .u64 (lo a)) (by first | exact a1 | exact allc a1); have hz2 : X.heap.size ≤ w2.heap.size := Nat.le_trans (by simp) hb2.size;
            (try (have z0 := keepc hb2 (p := ⟨X.heap.size, 0, none⟩) (v := .int .u64 0) (new0 _ _ _ (by simp)); have z1 := keepc hb2 (p := ⟨X.heap.size, 1, none⟩) (v := .int .u64 0) (new1 _ _ _ (by simp)); have z2 := keepf hb2 (p := ⟨X.heap.size, 0, none⟩) (v := .int .u64 0) (new0 _ _ _ (by simp)) (newf _ _ _ _ (by simp)); have z3 := keepf hb2 (p := ⟨X.heap.size, 1, none⟩) (v := .int .u64 0) (new1 _ _ _ (by simp)) (newf _ _ _ _ (by simp)))))
        | (go_at_call 12; refine (sub_most a _ A.out).mono ?_; rintro e w3 ⟨rfl, hb3⟩; have k3 := keepc hb3 (p := ⟨w.heap.size, 0, none⟩) (v := .int .u64 (hi a)) (by first | exact k1 | exact allc k1); have k4 := keepc hb3 (p := ⟨w.heap.size, 1, none⟩) (v := .int .u64 (lo a)) (by first | exact k2 | exact allc k2); have hz3 : w2.heap.size ≤ w3.heap.size := Nat.le_trans (by simp) hb3.size;
            (try (have y0 := keepc hb3 (p := ⟨w2.heap.size, 0, none⟩) (v := .int .u64 0) (new0 _ _ _ (by simp)); have y1 := keepc hb3 (p := ⟨w2.heap.size, 1, none⟩) (v := .int .u64 0) (new1 _ _ _ (by simp)); have y2 := keepf hb3 (p := ⟨w2.heap.size, 0, none⟩) (v := .int .u64 0) (new0 _ _ _ (by simp)) (newf _ _ _ _ (by simp)); have y3 := keepf hb3 (p := ⟨w2.heap.size, 1, none⟩) (v := .int .u64 0) (new1 _ _ _ (by simp)) (newf _ _ _ _ (by simp))));
            (try (have y0 := keepc hb3 z0; have y1 := keepc hb3 z1; have y2 := keepf hb3 z0 z2; have y3 := keepf hb3 z1 z3))))
    all_goals (go_wp2_with fail; go_meet)
    all_goals first
      | exact ⟨rfl, w3.heap.size, rfl, by omega, new0 _ _ _ rfl, new1 _ _ _ rfl, ((((Below.refl _ _).drew).trans (show Below X.heap.size X.drew w2 from hb2)).trans (hb3.mono (by omega))).alloc (by omega) _⟩
      | exact ⟨rfl, w2.heap.size, rfl, by omega, set20 y0, set21 y1, ((((((Below.refl _ _).drew).trans (show Below X.heap.size X.drew w2 from hb2)).alloc (by omega) _).trans (hb3.mono (by simp; omega))).setCell (by dsimp only; omega) _).setCell (by dsimp only; omega) _⟩
      | exact ⟨rfl, X.heap.size, rfl, Nat.le_refl _, set20 y0, set21 y1, ((((((Below.refl _ _).alloc (Nat.le_refl _) _).drew).trans (hb2.mono (by simp))).trans (hb3.mono (by omega))).setCell (by dsimp only; omega) _).setCell (by dsimp only; omega) _⟩
  case rest =>
    obtain ⟨rfl, g, rfl, hg, g0, g1, hBx⟩ := hcut
    replace a0 := keepc hBx a0
    replace a1 := keepc hBx a1
    replace b0 := keepc hBx b0
    replace b1 := keepc hBx b1
    have hzc := hBx.size
    have HBc := HB0.trans (hBx.mono (by omega))
    have hgl := World.block_lt_of_cell? _ _ g0
    dsimp only at hgl
    have hs0 : w.heap.size < wc.heap.size := by omega
    have hs1 : w.heap.size + 1 < wc.heap.size := by omega
    clear hBx HB0
    by_cases hfit : a + b < B128
    · have HF := Lib.hid hfit
      have HC : cmpN b (MX - a) ≤ 0 := cmp_le0 (by unfold MX; unfold B128 at hfit; omega)
      clear hfit
      go_wp2_with fail
      refine (add_yes a b _ HF.out).mono ?_
      rintro e w4 ⟨rfl, hb4⟩
      replace a0 := keepc hb4 a0
      replace a1 := keepc hb4 a1
      replace b0 := keepc hb4 b0
      replace b1 := keepc hb4 b1
      replace g0 := keepc hb4 g0
      replace g1 := keepc hb4 g1
      have hz4 := hb4.size
      have HB4 := HBc.trans (hb4.mono (by omega))
      have hs2 : w.heap.size < w4.heap.size := by omega
      have hs3 : w.heap.size + 1 < w4.heap.size := by omega
      have hs4 : g < w4.heap.size := by omega
      clear hb4 HBc hs0 hs1
      go_wp2_with fail
      refine (cmp_any b (MX - a) _).mono ?_
      rintro e w5 ⟨rfl, hb5⟩
      have x0 := keepc hb5 (p := ⟨w4.heap.size, 0, none⟩) (v := .int .u64 (hi (a + b))) (new0 _ _ _ rfl)
      have x1 := keepc hb5 (p := ⟨w4.heap.size, 1, none⟩) (v := .int .u64 (lo (a + b))) (new1 _ _ _ rfl)
      replace a0 := keepc hb5 (allc a0)
      replace a1 := keepc hb5 (allc a1)
      replace b0 := keepc hb5 (allc b0)
      replace b1 := keepc hb5 (allc b1)
      have hz5 : w4.heap.size < w5.heap.size := Nat.le_trans (by simp) hb5.size
      have HB5 := (HB4.alloc (by omega) (.cells #[.int .u64 (hi (a + b)), .int .u64 (lo (a + b))] 24)).trans (hb5.mono (by simp; omega))
      have hs5 : w.heap.size < w5.heap.size := by omega
      have hs6 : w.heap.size + 1 < w5.heap.size := by omega
      clear hb5 HB4 g0 g1 hs2 hs3 hs4
      go_wp2_with fail
      refine (sub_to (a + b) b a _ (Nat.add_comm _ _) HF.out).mono ?_
      rintro e w6 ⟨rfl, hb6⟩
      replace a0 := keepc hb6 a0
      replace a1 := keepc hb6 a1
      replace b0 := keepc hb6 b0
      replace b1 := keepc hb6 b1
      replace x0 := keepc hb6 x0
      replace x1 := keepc hb6 x1
      have hz6 := hb6.size
      have HB6 := HB5.trans (hb6.mono (by omega))
      have hs7 : w.heap.size < w6.heap.size := by omega
      have hs8 : w.heap.size + 1 < w6.heap.size := by omega
      have hs9 : w4.heap.size < w6.heap.size := by omega
      clear hb6 HB5 hs5 hs6
      go_wp2_with fail
      refine (sub_to (a + b) a b _ rfl HF.out).mono ?_
      rintro e w7 ⟨rfl, hb7⟩
      have y0 := keepc hb7 (p := ⟨w6.heap.size, 0, none⟩) (v := .int .u64 (hi a)) (new0 _ _ _ rfl)
      have y1 := keepc hb7 (p := ⟨w6.heap.size, 1, none⟩) (v := .int .u64 (lo a)) (new1 _ _ _ rfl)
      replace a0 := keepc hb7 (allc a0)
      replace a1 := keepc hb7 (allc a1)
      replace b0 := keepc hb7 (allc b0)
      replace b1 := keepc hb7 (allc b1)
      replace x0 := keepc hb7 (allc x0)
      replace x1 := keepc hb7 (allc x1)
      have hz7 : w6.heap.size < w7.heap.size := Nat.le_trans (by simp) hb7.size
      have HB7 := (HB6.alloc (by omega) (.cells #[.int .u64 (hi a), .int .u64 (lo a)] 24)).trans (hb7.mono (by simp; omega))
      have hs10 : w.heap.size < w7.heap.size := by omega
      have hs11 : w.heap.size + 1 < w7.heap.size := by omega
      have hs12 : w4.heap.size < w7.heap.size := by omega
      clear hb7 HB6 hs7 hs8 hs9
      have HC1 : 0 ≤ cmpN (a + b) a := cmp_ge0 (by omega)
      have HC2 : 0 ≤ cmpN (a + b) b := cmp_ge0 (by omega)
      go_wp2_with fail
      refine (cmp_any (a + b) a _).mono ?_
      rintro e w8 ⟨rfl, hb8⟩
      replace a0 := keepc hb8 (allc a0)
      replace a1 := keepc hb8 (allc a1)
      replace b0 := keepc hb8 (allc b0)
      replace b1 := keepc hb8 (allc b1)
      replace x0 := keepc hb8 (allc x0)
      replace x1 := keepc hb8 (allc x1)
      have hz8 : w7.heap.size < w8.heap.size := Nat.le_trans (by simp) hb8.size
      have HB8 := (HB7.alloc (by omega) (.cells #[.int .u64 (hi b), .int .u64 (lo b)] 24)).trans (hb8.mono (by simp; omega))
      have hs13 : w.heap.size + 1 < w8.heap.size := by omega
      have hs14 : w4.heap.size < w8.heap.size := by omega
      clear hb8 HB7 hs10 hs11 hs12
      go_wp2_with fail
      refine (cmp_any (a + b) b _).mono ?_
      rintro e w9 ⟨rfl, hb9⟩
      replace a0 := keepc hb9 a0
      replace a1 := keepc hb9 a1
      replace b0 := keepc hb9 b0
      replace b1 := keepc hb9 b1
      have hz9 : w8.heap.size ≤ w9.heap.size := hb9.size
      have HB9 := HB8.trans (hb9.mono (by omega))
      have hs15 : w.heap.size < w9.heap.size := by omega
      have hs16 : w.heap.size + 1 < w9.heap.size := by omega
      clear hb9 HB8 hs13 hs14 x0 x1 y0 y1 HC
      by_cases hba : b ≤ a
      · have HBA := Lib.hid hba
        have HCa : 0 ≤ cmpN a b := cmp_ge0 hba
        clear hba
        go_wp2_with fail
        refine (sub_yes a b _ A.out HBA.out).mono ?_
        rintro e w11 ⟨rfl, hb11⟩
        replace a0 := keepc hb11 a0
        replace a1 := keepc hb11 a1
        replace b0 := keepc hb11 b0
        replace b1 := keepc hb11 b1
        have hz11 : w9.heap.size ≤ w11.heap.size := hb11.size
        have HB11 := HB9.trans (hb11.mono (by omega))
        have ja11 : w.heap.size < w11.heap.size := by omega
        have jb11 : w.heap.size + 1 < w11.heap.size := by omega
        go_wp2_with fail
        refine (cmp_any a b _).mono ?_
        rintro e w12 ⟨rfl, hb12⟩
        have d0 := keepc hb12 (p := ⟨w11.heap.size, 0, none⟩) (v := .int .u64 (hi (a - b))) (new0 _ _ _ rfl)
        have d1 := keepc hb12 (p := ⟨w11.heap.size, 1, none⟩) (v := .int .u64 (lo (a - b))) (new1 _ _ _ rfl)
        replace a0 := keepc hb12 (allc a0)
        replace a1 := keepc hb12 (allc a1)
        replace b0 := keepc hb12 (allc b0)
        replace b1 := keepc hb12 (allc b1)
        have hz12 : w11.heap.size < w12.heap.size := Nat.le_trans (by simp) hb12.size
        have HB12 := (HB11.alloc (by omega) (.cells #[.int .u64 (hi (a - b)), .int .u64 (lo (a - b))] 24)).trans (hb12.mono (by simp; omega))
        have ja12 : w.heap.size < w12.heap.size := by omega
        have jb12 : w.heap.size + 1 < w12.heap.size := by omega
        go_wp2_with fail
        refine (add_to (a - b) b a _ (Nat.sub_add_cancel HBA.out) A.out).mono ?_
        rintro e w13 ⟨rfl, hb13⟩
        replace a0 := keepc hb13 a0
        replace a1 := keepc hb13 a1
        have hz13 : w12.heap.size ≤ w13.heap.size := hb13.size
        have HB13 := HB12.trans (hb13.mono (by omega))
        have ja13 : w.heap.size < w13.heap.size := by omega
        have jb13 : w.heap.size + 1 < w13.heap.size := by omega
        have HT9 := Lib.hid (tab_below HT.out (HB13.alloc (by omega) (.cells #[.int .u64 (hi a), .int .u64 (lo a)] 24)))
        go_wp2_with fail
        refine (awake_any _ HT9.out).mono ?_
        rintro e w14 ⟨rfl, hb14⟩
        go_wp2
        go_ret
        exact ⟨rfl, (HB13.alloc (by omega) _).trans (hb14.mono (by simp; omega))⟩
      · have HBA := Lib.hid hba
        have HCa : cmpN a b < 0 := cmp_lt0 (by omega)
        clear hba
        go_wp2_with fail
        refine (sub_no a b _ B.out (Nat.lt_of_not_le HBA.out)).mono ?_
        rintro e w11 ⟨rfl, hb11⟩
        replace a0 := keepc hb11 a0
        replace a1 := keepc hb11 a1
        replace b0 := keepc hb11 b0
        replace b1 := keepc hb11 b1
        have hz11 : w9.heap.size ≤ w11.heap.size := hb11.size
        have HB11 := HB9.trans (hb11.mono (by omega))
        have ja11 : w.heap.size < w11.heap.size := by omega
        have jb11 : w.heap.size + 1 < w11.heap.size := by omega
        go_wp2_with fail
        refine (cmp_any a b _).mono ?_
        rintro e w12 ⟨rfl, hb12⟩
        have d0 := keepc hb12 (p := ⟨w11.heap.size, 0, none⟩) (v := .int .u64 0) (new0 _ _ _ rfl)
        have d1 := keepc hb12 (p := ⟨w11.heap.size, 1, none⟩) (v := .int .u64 0) (new1 _ _ _ rfl)
        have hz12 : w11.heap.size < w12.heap.size := Nat.le_trans (by simp) hb12.size
        have HB12 := (HB11.alloc (by omega) (.cells #[.int .u64 0, .int .u64 0] 24)).trans (hb12.mono (by simp; omega))
        have HT9 := Lib.hid (tab_below HT.out HB12)
        go_wp2_with fail
        refine (awake_any _ HT9.out).mono ?_
        rintro e w14 ⟨rfl, hb14⟩
        go_wp2
        go_ret
        exact ⟨rfl, HB12.trans (hb14.mono (by omega))⟩
    · have HF := Lib.hid hfit
      have HC : 0 < cmpN b (MX - a) := cmp_gt0 (by have := A.out; unfold MX; unfold B128 at hfit this; omega)
      clear hfit
      go_wp2_with fail
      refine (add_no a b _ (Nat.le_of_not_lt HF.out)).mono ?_
      rintro e w4 ⟨rfl, hb4⟩
      replace a0 := keepc hb4 a0
      replace a1 := keepc hb4 a1
      replace b0 := keepc hb4 b0
      replace b1 := keepc hb4 b1
      replace g0 := keepc hb4 g0
      replace g1 := keepc hb4 g1
      have hz4 := hb4.size
      have HB4 := HBc.trans (hb4.mono (by omega))
      have hs2 : w.heap.size < w4.heap.size := by omega
      have hs3 : w.heap.size + 1 < w4.heap.size := by omega
      have hs4 : g < w4.heap.size := by omega
      clear hb4 HBc hs0 hs1
      go_wp2_with fail
      refine (cmp_any b (MX - a) _).mono ?_
      rintro e w5 ⟨rfl, hb5⟩
      have x0 := keepc hb5 (p := ⟨w4.heap.size, 0, none⟩) (v := .int .u64 0) (new0 _ _ _ rfl)
      have x1 := keepc hb5 (p := ⟨w4.heap.size, 1, none⟩) (v := .int .u64 0) (new1 _ _ _ rfl)
      replace a0 := keepc hb5 (allc a0)
      replace a1 := keepc hb5 (allc a1)
      replace b0 := keepc hb5 (allc b0)
      replace b1 := keepc hb5 (allc b1)
      have hz5 : w4.heap.size < w5.heap.size := Nat.le_trans (by simp) hb5.size
      have HB5 := (HB4.alloc (by omega) (.cells #[.int .u64 0, .int .u64 0] 24)).trans (hb5.mono (by simp; omega))
      have hs5 : w.heap.size < w5.heap.size := by omega
      have hs6 : w.heap.size + 1 < w5.heap.size := by omega
      clear hb5 HB4 g0 g1 hs2 hs3 hs4
      by_cases hba : b ≤ a
      · have HBA := Lib.hid hba
        have HCa : 0 ≤ cmpN a b := cmp_ge0 hba
        clear hba
        go_wp2_with fail
        refine (sub_yes a b _ A.out HBA.out).mono ?_
        rintro e w11 ⟨rfl, hb11⟩
        replace a0 := keepc hb11 a0
        replace a1 := keepc hb11 a1
        replace b0 := keepc hb11 b0
        replace b1 := keepc hb11 b1
        have hz11 : w5.heap.size ≤ w11.heap.size := hb11.size
        have HB11 := HB5.trans (hb11.mono (by omega))
        have ja11 : w.heap.size < w11.heap.size := by omega
        have jb11 : w.heap.size + 1 < w11.heap.size := by omega
        go_wp2_with fail
        refine (cmp_any a b _).mono ?_
        rintro e w12 ⟨rfl, hb12⟩
        have d0 := keepc hb12 (p := ⟨w11.heap.size, 0, none⟩) (v := .int .u64 (hi (a - b))) (new0 _ _ _ rfl)
        have d1 := keepc hb12 (p := ⟨w11.heap.size, 1, none⟩) (v := .int .u64 (lo (a - b))) (new1 _ _ _ rfl)
        replace a0 := keepc hb12 (allc a0)
        replace a1 := keepc hb12 (allc a1)
        replace b0 := keepc hb12 (allc b0)
        replace b1 := keepc hb12 (allc b1)
        have hz12 : w11.heap.size < w12.heap.size := Nat.le_trans (by simp) hb12.size
        have HB12 := (HB11.alloc (by omega) (.cells #[.int .u64 (hi (a - b)), .int .u64 (lo (a - b))] 24)).trans (hb12.mono (by simp; omega))
        have ja12 : w.heap.size < w12.heap.size := by omega
        have jb12 : w.heap.size + 1 < w12.heap.size := by omega
        go_wp2_with fail
        refine (add_to (a - b) b a _ (Nat.sub_add_cancel HBA.out) A.out).mono ?_
        rintro e w13 ⟨rfl, hb13⟩
        replace a0 := keepc hb13 a0
        replace a1 := keepc hb13 a1
        have hz13 : w12.heap.size ≤ w13.heap.size := hb13.size
        have HB13 := HB12.trans (hb13.mono (by omega))
        have ja13 : w.heap.size < w13.heap.size := by omega
        have jb13 : w.heap.size + 1 < w13.heap.size := by omega
        have HT9 := Lib.hid (tab_below HT.out (HB13.alloc (by omega) (.cells #[.int .u64 (hi a), .int .u64 (lo a)] 24)))
        go_wp2_with fail
        refine (awake_any _ HT9.out).mono ?_
        rintro e w14 ⟨rfl, hb14⟩
        go_wp2
        go_ret
        exact ⟨rfl, (HB13.alloc (by omega) _).trans (hb14.mono (by simp; omega))⟩
      · have HBA := Lib.hid hba
        have HCa : cmpN a b < 0 := cmp_lt0 (by omega)
        clear hba
        go_wp2_with fail
        refine (sub_no a b _ B.out (Nat.lt_of_not_le HBA.out)).mono ?_
        rintro e w11 ⟨rfl, hb11⟩
        replace a0 := keepc hb11 a0
        replace a1 := keepc hb11 a1
        replace b0 := keepc hb11 b0
        replace b1 := keepc hb11 b1
        have hz11 : w5.heap.size ≤ w11.heap.size := hb11.size
        have HB11 := HB5.trans (hb11.mono (by omega))
        have ja11 : w.heap.size < w11.heap.size := by omega
        have jb11 : w.heap.size + 1 < w11.heap.size := by omega
        go_wp2_with fail
        refine (cmp_any a b _).mono ?_
        rintro e w12 ⟨rfl, hb12⟩
        have d0 := keepc hb12 (p := ⟨w11.heap.size, 0, none⟩) (v := .int .u64 0) (new0 _ _ _ rfl)
        have d1 := keepc hb12 (p := ⟨w11.heap.size, 1, none⟩) (v := .int .u64 0) (new1 _ _ _ rfl)
        have hz12 : w11.heap.size < w12.heap.size := Nat.le_trans (by simp) hb12.size
        have HB12 := (HB11.alloc (by omega) (.cells #[.int .u64 0, .int .u64 0] 24)).trans (hb12.mono (by simp; omega))
        have HT9 := Lib.hid (tab_below HT.out HB12)
        go_wp2_with fail
        refine (awake_any _ HT9.out).mono ?_
        rintro e w14 ⟨rfl, hb14⟩
        go_wp2
        go_ret
        exact ⟨rfl, HB12.trans (hb14.mono (by omega))⟩
set_option maxRecDepth 100000 in
theorem backs_lifted (os : Os) (started : os.Started) (H : Type) (enc : TypeId × Value → H) :
    ReturnsInHanded {} Tryd.checked os 4 .any (fun w args => (Rows.wideBackSpec.pre enc Tryd.prog Tryd.f4 [] false w args ∧ laidMetH Tryd.prog laid3 w) ∧ sizedMet enc Tryd.prog Tryd.f4 (OpenSpec.ofChange Rows.wideBackSpec) false w args)
      (Rows.wideBackSpec.post enc Tryd.prog Tryd.f4 false true false false) := by
  refine returnsInHanded_of_change_and (C := Tryd.checked) (X := fun w _ => laidMetH Tryd.prog laid3 w) (fun _ _ _ hh h => h.of_heap hh) Tryd.own started (by kernel_rfl) Tryd.func4
    (ChangeSpec.witness_shaped (enc := enc) (C := Tryd.checked) (os := os) (X := fun w _ => laidMetH Tryd.prog laid3 w) false (World.doorLaid Tryd.prog 2000 os) #[.agg #[.int .u64 0, .int .u64 0], .agg #[.int .u64 0, .int .u64 0]] 8 rfl (World.shaped_of_RefB (by kernel_rfl) (by kernel_rfl)) (by kernel_rfl) (by kernel_rfl) (by kernel_rfl) (door3 os _)) ?_
  intro W base args ds gs before hval0 hW _ _ hL _
  have hval : ∀ (j : Nat) t v, Tryd.f4.params[j]? = some t → args[j]? = some v → Value.okWide Tryd.prog W .any base t v := hval0
  have hW' := hW
  obtain ⟨p, q, hA0, hV, rfl, hfz, hnd⟩ := hW
  have hA : DataW.TrodAll enc Tryd.prog W 0 (fun _ => true) true Tryd.f4.params.toList args.toList ds p := hA0
  rw [Tryd.params4] at hA hval
  obtain ⟨v0, v1, d0, d1, p0, p1, rfl, rfl, rfl, h0, h1⟩ := trodAll_two hA
  obtain ⟨rfl, rfl⟩ := trodVars_none hV
  obtain ⟨c0, c1, y0, y1, m, rfl, rfl, rfl, hy0, hy1⟩ := open_agg2 Tryd.underlying24 (by kernel_rfl) Tryd.cells24 (hval 0 24 v0 rfl rfl) h0
  obtain ⟨a1, e0, rfl, wa1⟩ := DataW.trod_int Tryd.underlying22 hy0
  obtain ⟨a0, e1, rfl, wa0⟩ := DataW.trod_int Tryd.underlying22 hy1
  simp at e0 e1
  subst e0 e1
  obtain ⟨c0, c1, y0, y1, m, rfl, rfl, rfl, hy0, hy1⟩ := open_agg2 Tryd.underlying24 (by kernel_rfl) Tryd.cells24 (hval 1 24 v1 rfl rfl) h1
  obtain ⟨b1, e0, rfl, wb1⟩ := DataW.trod_int Tryd.underlying22 hy0
  obtain ⟨b0, e1, rfl, wb0⟩ := DataW.trod_int Tryd.underlying22 hy1
  simp at e0 e1
  subst e0 e1
  obtain ⟨a, ha, rfl, rfl⟩ := of_wide wa1 wa0
  obtain ⟨b, hb, rfl, rfl⟩ := of_wide wb1 wb0
  clear hA0 hval0
  refine (back_law a b W (tab_of_laid hL) ha hb).mono fun e W' ⟨he, hB⟩ => ?_
  subst he
  exact ⟨_, rfl, law_post hW' (trodAll_mk1 (shut_bool Tryd.underlying4 true)) (trodAll_mk2 (wide_reads wa1 wa0 W' _) (wide_reads wb1 wb0 W' _)) rfl hB⟩

theorem backs_holds : Rows.WideBackSaid :=
  OpenClaim.holds_of_wide 4 Tryd.f4 rfl rfl rfl rfl rfl rfl rfl ⟨rfl, rfl, rfl, rfl, rfl⟩ rfl rfl rfl rfl rfl (by kernel_rfl) Tryd.func4 (by kernel_rfl)
    (of_decide_eq_true (by kernel_rfl)) (by unfold Func.isWrapper; first | (rw [if_pos (by decide +kernel)]; kernel_rfl) | (rw [if_neg (by decide +kernel)]; exact ⟨rfl, rfl⟩))
    (fun os started H enc _ => backs_lifted os started H enc)

theorem backs_card : Rows.WideBackCardSaid :=
  Claim7.holds_tied_plain_at .later [] [.data, .data, .data] true (true, "87e2d8c4c7155894bd0858952195c60b8c955652c0426b7d599210d5fcc65363") false
    backs_holds (fun _ h => by cases h) (by kernel_rfl) (fun _ h => by cases h) wideBack_row_tie rfl ⟨rfl, rfl⟩ (by kernel_rfl) rfl
    (fun f fn hf hfn => by
      obtain rfl : f = 4 := Option.some.inj ((show Tryd.prog.funcNamed "gridiron/gridironlaw01.WideBack" = some 4 by kernel_rfl).symm.trans hf) |>.symm
      obtain rfl : fn = Tryd.f4 := (Option.some.inj (Tryd.func4.symm.trans hfn)).symm
      exact ⟨by kernel_rfl, fun j t ht => by
        rw [Tryd.params4] at ht
        have hm : t ∈ [24, 24] := by simpa using Array.mem_of_getElem? ht
        have hall : ([24, 24].all fun u => !Tryd.prog.wantsStandIn u) = true := by kernel_rfl
        exact (show Tryd.prog.wantsStandIn t = false by simpa using List.all_eq_true.1 hall t hm)⟩)
    (by kernel_rfl)
end Go.Proofs.YtdlijnkbpnhpoaaDoor
