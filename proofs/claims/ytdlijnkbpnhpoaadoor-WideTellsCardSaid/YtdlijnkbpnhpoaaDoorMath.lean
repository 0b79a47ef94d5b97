/-
  Plain numbers: a wide number is a Nat below B128 = 2^128, its halves are 'hi' and 'lo'. No Go text is read here. No condition but those typed at each lemma.
-/
namespace Go.Proofs.YtdlijnkbpnhpoaaDoor

def B64 : Nat := 18446744073709551616
def B128 : Nat := 340282366920938463463374607431768211456
def hi (n : Nat) : Int := ((n / B64 : Nat) : Int)
def lo (n : Nat) : Int := ((n % B64 : Nat) : Int)
def sLo (x y c : Int) : Int := (x + y + c) % 18446744073709551616
def sHi (x y c : Int) : Int := (x + y + c) / 18446744073709551616
def dLo (x y c : Int) : Int := (x + 18446744073709551616 - y - c) % 18446744073709551616
def dHi (x y c : Int) : Int := if x < y + c then 1 else 0

theorem hi_nn (n : Nat) : 0 ≤ hi n := by unfold hi B64; omega
theorem lo_nn (n : Nat) : 0 ≤ lo n := by unfold lo B64; omega
theorem lo_lt (n : Nat) : lo n < 18446744073709551616 := by unfold lo B64; omega
theorem hi_lt (n : Nat) (h : n < B128) : hi n < 18446744073709551616 := by unfold hi B64; unfold B128 at h; omega
theorem hi_zero : hi 0 = 0 := by unfold hi B64; omega
theorem lo_zero : lo 0 = 0 := by unfold lo B64; omega

theorem carry01 (a b : Nat) : 0 ≤ sHi (lo a) (lo b) 0 ∧ sHi (lo a) (lo b) 0 ≤ 1 := by
  unfold sHi lo B64; omega
theorem add_lo (a b : Nat) : sLo (lo a) (lo b) 0 = lo (a + b) := by unfold sLo lo B64; omega
theorem add_hi (a b : Nat) (h : a + b < B128) : sLo (hi a) (hi b) (sHi (lo a) (lo b) 0) = hi (a + b) := by
  unfold sLo sHi hi lo B64; unfold B128 at h; omega
theorem add_fits (a b : Nat) (h : a + b < B128) : (sHi (hi a) (hi b) (sHi (lo a) (lo b) 0) != 0) = false := by
  have : sHi (hi a) (hi b) (sHi (lo a) (lo b) 0) = 0 := by
    unfold sHi hi lo B64; unfold B128 at h; omega
  rw [this]; rfl
theorem add_over (a b : Nat) (h : B128 ≤ a + b) : (sHi (hi a) (hi b) (sHi (lo a) (lo b) 0) != 0) = true := by
  have : sHi (hi a) (hi b) (sHi (lo a) (lo b) 0) ≠ 0 := by
    unfold sHi hi lo B64; unfold B128 at h; omega
  exact bne_iff_ne.2 this

theorem borrow01 (x y c : Int) : 0 ≤ dHi x y c ∧ dHi x y c ≤ 1 := by
  unfold dHi; split <;> omega
theorem sub_lo (a b : Nat) (h : b ≤ a) : dLo (lo a) (lo b) 0 = lo (a - b) := by unfold dLo lo B64; omega
theorem sub_hi (a b : Nat) (h : b ≤ a) : dLo (hi a) (hi b) (dHi (lo a) (lo b) 0) = hi (a - b) ∨ B128 ≤ a := by
  by_cases ha : B128 ≤ a
  · exact .inr ha
  · refine .inl ?_
    unfold dLo dHi hi lo B64
    unfold B128 at ha
    split <;> omega
theorem sub_fits (a b : Nat) (h : b ≤ a) : (dHi (hi a) (hi b) (dHi (lo a) (lo b) 0) != 0) = false := by
  have : dHi (hi a) (hi b) (dHi (lo a) (lo b) 0) = 0 := by
    unfold dHi hi lo B64
    split <;> split <;> omega
  rw [this]; rfl
theorem sub_under (a b : Nat) (h : a < b) : (dHi (hi a) (hi b) (dHi (lo a) (lo b) 0) != 0) = true := by
  have : dHi (hi a) (hi b) (dHi (lo a) (lo b) 0) ≠ 0 := by
    unfold dHi hi lo B64
    split <;> split <;> omega
  exact bne_iff_ne.2 this

theorem pair_eq (a b : Nat) (h1 : hi a = hi b) (h2 : lo a = lo b) : a = b := by
  unfold hi at h1; unfold lo at h2
  have e1 : a / B64 = b / B64 := by exact_mod_cast h1
  have e2 : a % B64 = b % B64 := by exact_mod_cast h2
  have := Nat.div_add_mod a B64
  have := Nat.div_add_mod b B64
  rw [e1, e2] at *
  omega
theorem of_pair (x y : Int) (hx : 0 ≤ x) (hx' : x < 18446744073709551616) (hy : 0 ≤ y) (hy' : y < 18446744073709551616) :
    ∃ n : Nat, n < B128 ∧ x = hi n ∧ y = lo n := by
  refine ⟨x.toNat * B64 + y.toNat, ?_, ?_, ?_⟩
  · unfold B64 B128; omega
  · unfold hi B64; omega
  · unfold lo B64; omega
theorem of_low (x : Int) (hx : 0 ≤ x) (hx' : x < 18446744073709551616) : hi x.toNat = 0 ∧ lo x.toNat = x := by
  unfold hi lo B64; omega

def cmpZ (x y : Int) : Int := if x < y then -1 else if y < x then 1 else 0
def cmpN (a b : Nat) : Int := if a < b then -1 else if b < a then 1 else 0
theorem cmp_same (a b : Nat) (h : hi a = hi b) : cmpZ (lo a) (lo b) = cmpN a b := by
  unfold hi B64 at h
  unfold cmpZ cmpN lo B64
  split <;> split <;> (try split) <;> (try split) <;> omega
theorem cmp_other (a b : Nat) (h : ¬ hi a = hi b) : cmpZ (hi a) (hi b) = cmpN a b := by
  unfold hi B64 at h
  unfold cmpZ cmpN hi B64
  split <;> split <;> (try split) <;> (try split) <;> omega
theorem cmpN_lt (a b : Nat) (h : a < b) : cmpN a b = -1 := if_pos h
theorem cmpN_gt (a b : Nat) (h : b < a) : cmpN a b = 1 := by unfold cmpN; rw [if_neg (by omega), if_pos h]
theorem cmpN_eq (a : Nat) : cmpN a a = 0 := by unfold cmpN; rw [if_neg (by omega), if_neg (by omega)]
end Go.Proofs.YtdlijnkbpnhpoaaDoor
