/-
  How often one is doubled: rank.Log, and the document's count. No condition but those typed at each theorem.
-/
import Derived.Test.YtnangnmnodpfjaaKey
import Derived.Test.YtnangnmnodpfjaaShelf
import Derived.Test.YtnangnmnodpfjaaLookMath
namespace Go.Proofs.Ytnangnmnodpfjaa
open Go.RowKit

/-- how often 1 is doubled to be n at least, of any number -/
def lgI (n : Int) : Nat := lgN n.toNat

set_option maxRecDepth 100000 in
set_option maxHeartbeats 800000 in
theorem Log_any (n : Int) (w : World) (hn : n ≤ 9223372036854775807) :
    Calls Try.prog 18 #[.int .i64 n] w fun e w' => e = .returned (.int .i64 (lgI n)) ∧ w' = w := by
  by_cases h : n < 2
  · have h0 : lgI n = 0 := lg_small (by omega)
    rw [h0]
    clear h0
    go_enter Try.func18, Try.ntmps18
    go_wp2
    go_ret
    exact ⟨rfl, rfl⟩
  · obtain ⟨k, rfl⟩ : ∃ k : Nat, n = (k : Int) + 1 := ⟨(n - 1).toNat, by omega⟩
    have hL := fun X => Try.bits_Len k X (by omega) (by omega)
    have e1 : lgI ((k : Int) + 1) = Lib.bitLen k := by
      unfold lgI lgN
      rw [show ((k : Int) + 1).toNat - 1 = k by omega]
    rw [e1]
    have e2 : Lib.bitLen ((k : Int)).toNat = Lib.bitLen k := by rw [Int.toNat_natCast]
    rw [e2] at hL
    obtain ⟨b, hb⟩ : ∃ b, b = Lib.bitLen k := ⟨_, rfl⟩
    rw [← hb] at hL ⊢
    have HL := Lib.hid hL
    clear hL hb e1 e2
    have hk : (k : Int) ≤ 9223372036854775806 := by omega
    go_enter Try.func18, Try.ntmps18
    go_wp2_with (go_at_call 28; (with_reducible refine (HL.out _).mono ?_); rintro e w1 ⟨rfl, rfl⟩)
    go_ret
    exact ⟨rfl, rfl⟩

set_option maxRecDepth 100000 in
set_option maxHeartbeats 1600000 in
theorem rLog_any (n : Int) (w : World) (hn : n ≤ 9223372036854775807) :
    Calls Try.prog 19 #[.int .i64 n] w fun e w' => e = .returned (.int .i64 (lgI n)) ∧ w' = w := by
  by_cases h : n < 2
  · have h0 : lgI n = 0 := lg_small (by omega)
    rw [h0]
    clear h0
    have h1 : ¬ (1 : Int) < n := by omega
    go_enter Try.func19, Try.ntmps19
    go_wp2
    go_loopw [3, 4] (fun v3 v4 wr => v3 = .int .i64 0 ∧ v4 = .int .u64 1 ∧ wr = w) (fun _ _ _ => 0)
    case atStart => exact ⟨rfl, rfl, rfl⟩
    case round =>
      obtain ⟨rfl, rfl, rfl⟩ := hrel
      go_wp2
      go_ret
      exact ⟨rfl, rfl⟩
  · obtain ⟨m, rfl⟩ : ∃ m : Nat, n = (m : Int) := ⟨n.toNat, by omega⟩
    obtain ⟨K, hK⟩ : ∃ K, K = lgI (m : Int) := ⟨_, rfl⟩
    have hK2 : lgN m = K := by rw [hK]; unfold lgI; rw [Int.toNat_natCast]
    rw [← hK]
    have hs := lg_spec (n := m) (by omega) (by omega)
    rw [hK2] at hs
    have hlt := fun k => lg_lt (n := m) (k := k) (by omega) (by omega)
    rw [hK2] at hlt
    have HLT := Lib.hid hlt
    have HS := Lib.hid hs
    have hK63 := hs.2.1
    have h1 : (1 : Int) < m := by omega
    have hm : (m : Int) ≤ 9223372036854775807 := by omega
    clear hs hlt hK hK2
    go_enter Try.func19, Try.ntmps19
    go_wp2
    go_loopw [3, 4] (fun v3 v4 wr => ∃ k p : Nat, v3 = .int .i64 k ∧ v4 = .int .u64 p ∧ k ≤ K ∧ Hid (p = 2 ^ k) ∧ wr = w) (fun v3 _ _ => K - (intOf v3).toNat)
    case atStart => exact ⟨0, 1, rfl, rfl, Nat.zero_le _, Lib.hid rfl, rfl⟩
    case round =>
      obtain ⟨k, p, rfl, rfl, hk, HP, rfl⟩ := hrel
      by_cases h2 : k < K
      · have h3 : p < m := by rw [HP.out]; exact (HLT.out k hk).2 h2
        have h3z : (p : Int) < m := by omega
        have h4 : (p : Int) * 2 ≤ 18446744073709551614 := by omega
        go_wp2
        go_roundw
        case rel => exact ⟨k + 1, p * 2, by go_num, by go_num, by omega, Lib.hid (by rw [HP.out, Nat.pow_succ]), by trivial⟩
        case measure => simp [intOf]; omega
      · have h3 : ¬ p < m := by rw [HP.out]; exact fun h => h2 ((HLT.out k hk).1 h)
        have h3z : ¬ (p : Int) < m := by omega
        have h4 : k = K := by omega
        obtain rfl := h4
        go_wp2
        go_ret
        exact ⟨rfl, rfl⟩
end Go.Proofs.Ytnangnmnodpfjaa
