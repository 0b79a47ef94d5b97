/-
  How often one is doubled: rank.Log, and the document's count. No condition but those typed at each theorem.
-/
import Derived.Test.YtmkmkndcndpfeaaKey
import Derived.Test.YtmkmkndcndpfeaaBits
import Derived.Test.YtmkmkndcndpfeaaLookMath
namespace Go.Proofs.Ytmkmkndcndpfeaa
open Go.RowKit

/-- how often 1 is doubled to be n at least, of any number -/
def lgI (n : Int) : Nat := lgN n.toNat

set_option maxRecDepth 100000 in
set_option maxHeartbeats 800000 in
theorem Log_any (n : Int) (w : World) (hn : n ≤ 9223372036854775807) :
    Calls Try.prog 24 #[.int .i64 n] w fun e w' => e = .returned (.int .i64 (lgI n)) ∧ w' = w := by
  by_cases h : n < 2
  · have h0 : lgI n = 0 := lg_small (by omega)
    rw [h0]
    clear h0
    go_enter Try.func24, Try.ntmps24
    go_wp2
    go_ret
    exact ⟨rfl, rfl⟩
  · obtain ⟨k, rfl⟩ : ∃ k : Nat, n = (k : Int) + 1 := ⟨(n - 1).toNat, by omega⟩
    have hL := fun X => Try.bits_Len k X (by omega) (by omega)
    have e1 : lgI ((k : Int) + 1) = Lib.bitLen k := by
      unfold lgI lgN
      rw [show ((k : Int) + 1).toNat - 1 = k by omega]
    rw [e1]
    have e2 : Lib.bitLen ((k : Int)).toNat = Lib.bitLen k := by rw [Int.toNat_natCast]
    rw [e2] at hL
    obtain ⟨b, hb⟩ : ∃ b, b = Lib.bitLen k := ⟨_, rfl⟩
    rw [← hb] at hL ⊢
    have HL := Lib.hid hL
    clear hL hb e1 e2
    have hk : (k : Int) ≤ 9223372036854775806 := by omega
    go_enter Try.func24, Try.ntmps24
    go_wp2_with (go_at_call 44; (with_reducible refine (HL.out _).mono ?_); rintro e w1 ⟨rfl, rfl⟩)
    go_ret
    exact ⟨rfl, rfl⟩

end Go.Proofs.Ytmkmkndcndpfeaa
