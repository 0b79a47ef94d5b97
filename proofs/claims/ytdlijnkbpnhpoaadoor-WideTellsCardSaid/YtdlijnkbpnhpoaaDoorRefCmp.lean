/-
  What the document-side function Cmp tells: what wide.Cmp tells; conditions: those typed at each theorem.
-/
import Derived.Test.YtdlijnkbpnhpoaaDoorRefAdd
namespace Go.Proofs.YtdlijnkbpnhpoaaDoor
open Go.RowKit

theorem div_succ (a k : Nat) : a / 2 ^ k = 2 * (a / 2 ^ (k + 1)) + bitN a k := by
  unfold bitN
  rw [Nat.pow_succ, ← Nat.div_div_eq_div_mul]; omega
theorem cmp_bit (a b k : Nat) (he : a / 2 ^ (k + 1) = b / 2 ^ (k + 1)) (hne : bitN a k ≠ bitN b k) : (bitN a k : Int) - (bitN b k : Int) = cmpN a b := by
  have h1 := div_succ a k
  have h2 := div_succ b k
  have b1 := bit01 a k
  have b2 := bit01 b k
  have hlt : ∀ x y : Nat, x / 2 ^ k < y / 2 ^ k → x < y := fun x y h => by
    by_cases q : x < y
    · exact q
    · have := Nat.div_le_div_right (c := 2 ^ k) (Nat.le_of_not_lt q); omega
  by_cases q : bitN a k < bitN b k
  · rw [cmpN_lt a b (hlt a b (by omega))]; omega
  · rw [cmpN_gt a b (hlt b a (by omega))]; omega

set_option maxRecDepth 100000 in
set_option maxHeartbeats 1000000 in
/-- the reference's Cmp tells what wide.Cmp tells. -/
theorem rcmp_any (a b : Nat) (w : World) (ha : a < B128) (hb : b < B128) :
    Calls Tryd.prog 15 #[.agg #[.int .u64 (hi a), .int .u64 (lo a)], .agg #[.int .u64 (hi b), .int .u64 (lo b)]] w fun e w' => e = .returned (.int .i64 (cmpN a b)) ∧ Below w.heap.size w w' := by
  have LA := Lib.hid ha
  have LB := Lib.hid hb
  clear ha hb
  have a0 := allc (o := .cells #[.int .u64 (hi b), .int .u64 (lo b)] 24) (new0 w (.int .u64 (hi a)) (.int .u64 (lo a)) rfl)
  have a1 := allc (o := .cells #[.int .u64 (hi b), .int .u64 (lo b)] 24) (new1 w (.int .u64 (hi a)) (.int .u64 (lo a)) rfl)
  have b0 := new0 (w.alloc (.cells #[.int .u64 (hi a), .int .u64 (lo a)] 24)) (.int .u64 (hi b)) (.int .u64 (lo b)) (n := w.heap.size + 1) (by simp)
  have b1 := new1 (w.alloc (.cells #[.int .u64 (hi a), .int .u64 (lo a)] 24)) (.int .u64 (hi b)) (.int .u64 (lo b)) (n := w.heap.size + 1) (by simp)
  have HB0 := ((Below.refl w.heap.size w).alloc (Nat.le_refl _) (.cells #[.int .u64 (hi a), .int .u64 (lo a)] 24)).alloc (by simp) (.cells #[.int .u64 (hi b), .int .u64 (lo b)] 24)
  have HZ0 : ((w.alloc (.cells #[.int .u64 (hi a), .int .u64 (lo a)] 24)).alloc (.cells #[.int .u64 (hi b), .int .u64 (lo b)] 24)).heap.size = w.heap.size + 2 := by simp
  go_enter Tryd.func15, Tryd.ntmps15
  go_upto_region 1 with fail
  generalize (w.alloc (.cells #[.int .u64 (hi a), .int .u64 (lo a)] 24)).alloc (.cells #[.int .u64 (hi b), .int .u64 (lo b)] 24) = X at *
  have hzX : w.heap.size + 1 < X.heap.size := by omega
  clear HZ0
  go_cut [5, 6] (fun s5 s6 wx => ∃ ga gb ca cb : Nat, s5 = .slice (some ⟨ga, 0, none⟩) 128 ca ∧ s6 = .slice (some ⟨gb, 0, none⟩) 128 cb ∧ Hid ((∀ j, j < 128 → wx.cell? ⟨ga, j, none⟩ = some (bitV a j)) ∧ (∀ j, j < 128 → wx.cell? ⟨gb, j, none⟩ = some (bitV b j))) ∧ Below X.heap.size X wx)
  case first =>
    go_region_held3 (fun w' => w'.cell? ⟨w.heap.size, 0, none⟩ = some (.int .u64 (hi a)) ∧ w'.cell? ⟨w.heap.size, 1, none⟩ = some (.int .u64 (lo a)) ∧ w'.cell? ⟨w.heap.size + 1, 0, none⟩ = some (.int .u64 (hi b)) ∧ w'.cell? ⟨w.heap.size + 1, 1, none⟩ = some (.int .u64 (lo b))) (first | exact ⟨a0, a1, b0, b1⟩ | exact ⟨k1, k2, k3, k4⟩ | exact ⟨l1, l2, l3, l4⟩)
      (first
        | (go_at_call 31; ((with_reducible refine (bits_at a _ LA.out).mono ?_); rintro e w2 ⟨ga, ca, rfl, ha1, ha2, ha3, _, hb2⟩; have k1 := keepc hb2 (p := ⟨w.heap.size, 0, none⟩) (by exact a0); have k2 := keepc hb2 (p := ⟨w.heap.size, 1, none⟩) (by exact a1); have k3 := keepc hb2 (p := ⟨w.heap.size + 1, 0, none⟩) (by exact b0); have k4 := keepc hb2 (p := ⟨w.heap.size + 1, 1, none⟩) (by exact b1); have HA3 := Lib.hid ha3; clear ha3))
        | (go_at_call 31; ((with_reducible refine (bits_at b _ LB.out).mono ?_); rintro e w3 ⟨gb, cb, rfl, hb1', hb2', hb3', _, hb3⟩; have l1 := keepc hb3 k1; have l2 := keepc hb3 k2; have l3 := keepc hb3 k3; have l4 := keepc hb3 k4; have HB3 := Lib.hid hb3'; clear hb3')))
    all_goals (go_wp2_with fail; go_meet)
    all_goals exact ⟨ga, gb, ca, cb, rfl, rfl, Lib.hid ⟨fun j hj => keepc hb3 (HA3.out j hj), HB3.out⟩, ((Below.refl _ _).drew.trans (show Below X.heap.size X.drew w2 from hb2)).trans (hb3.mono (show X.heap.size ≤ w2.heap.size from hb2.size))⟩
  case rest =>
    obtain ⟨ga, gb, ca, cb, rfl, rfl, HC, hbx⟩ := hcut
    have HBx := HB0.trans (hbx.mono (by omega))
    clear a0 a1 b0 b1 hbx HB0
    go_wp2
    go_loopw [7] (fun i wr => ∃ k : Nat, k ≤ 128 ∧ i = .int .i64 ((k : Int) - 1) ∧ Hid (a / 2 ^ k = b / 2 ^ k) ∧ Hid ((∀ j, j < 128 → wr.cell? ⟨ga, j, none⟩ = some (bitV a j)) ∧ (∀ j, j < 128 → wr.cell? ⟨gb, j, none⟩ = some (bitV b j))) ∧ Below w.heap.size w wr) (fun i _ => (intOf i + 1).toNat)
    case atStart => exact ⟨128, by omega, rfl, Lib.hid (by rw [pow128, Nat.div_eq_of_lt LA.out, Nat.div_eq_of_lt LB.out]), HC, HBx⟩
    case round =>
      clear HC HBx
      obtain ⟨k, hk, rfl, hE, HC, HBx⟩ := hrel
      cases k with
      | zero =>
        have hab : a = b := by have := hE.out; simpa using this
        subst hab
        have HQ := Lib.hid (cmpN_eq a)
        rw [show (((0 : Nat) : Int) - 1) = -1 from rfl]
        go_wp2
        go_ret
        exact ⟨by rw [HQ.out]; rfl, HBx⟩
      | succ k =>
        have e2 : ((k + 1 : Nat) : Int) - 1 = (k : Int) := by omega
        rw [e2]
        clear e2
        have hk' : (k : Int) < 128 := by omega
        have cA : wr.cell? ⟨ga, k, none⟩ = some (.int .i64 (bitN a k : Int)) := HC.out.1 k (by omega)
        have cB : wr.cell? ⟨gb, k, none⟩ = some (.int .i64 (bitN b k : Int)) := HC.out.2 k (by omega)
        have ha1 : bitN a k ≤ 1 := by rcases bit01 a k with h | h <;> omega
        have hb1 : bitN b k ≤ 1 := by rcases bit01 b k with h | h <;> omega
        by_cases hbit : bitN a k = bitN b k
        · have t1 : ((bitN a k : Int) != (bitN b k : Int)) = false := by rw [hbit]; simp
          have HN : Hid (a / 2 ^ k = b / 2 ^ k) := by unfold Hid; rw [div_succ a k, div_succ b k, hE.out, hbit]
          clear hbit
          go_wp2_with fail
          go_quiet (fail)
          go_wp2
          exact ⟨⟨k, by omega, rfl, HN, HC, bdrewN HBx⟩, by simp [intOf]⟩
        · have t1 : ((bitN a k : Int) != (bitN b k : Int)) = true := by rw [bne_iff_ne]; omega
          have HN := Lib.hid (cmp_bit a b k hE.out hbit)
          clear hbit
          go_wp2_with fail
          go_quiet (fail)
          replace HBx := bdrewN HBx (n := nq)
          replace cA : (wr.drewN nq).cell? ⟨ga, k, none⟩ = some (.int .i64 (bitN a k : Int)) := cA
          replace cB : (wr.drewN nq).cell? ⟨gb, k, none⟩ = some (.int .i64 (bitN b k : Int)) := cB
          clear HC
          generalize wr.drewN nq = wr at *
          go_wp2_with fail
          go_quiet (fail)
          go_wp2_with fail
          go_ret
          exact ⟨congrArg (fun z => Ending.returned (.int .i64 z)) HN.out, bdrewN HBx⟩
end Go.Proofs.YtdlijnkbpnhpoaaDoor
