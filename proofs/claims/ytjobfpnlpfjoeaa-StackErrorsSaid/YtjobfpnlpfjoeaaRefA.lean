/-
  The document's Kid, free, May. No condition but those typed at each theorem.
-/
import Derived.Test.YtjobfpnlpfjoeaaPk
namespace Go.Proofs.Ytjobfpnlpfjoeaa
open Go.RowKit

set_option maxRecDepth 100000 in
set_option maxHeartbeats 3200000 in
theorem RKid (w : World) (p : Option Addr) (c : Nat) (N : List Nd) (i : Int) (hx : NdS w p N) (hl : N.length ≤ 8192) :
    Calls Try.prog 43 #[.slice p N.length c, .int .i64 i] w fun e w' => e = .returned (.bool (kidB N i)) ∧ w' = w := by
  have HX := Lib.hid hx
  obtain ⟨d, hd⟩ : ∃ d, d = N.length := ⟨_, rfl⟩
  have HD := Lib.hid hd
  obtain ⟨res, hres⟩ : ∃ r, r = kidB N i := ⟨_, rfl⟩
  have HR := Lib.hid hres
  rw [← hd] at hl
  rw [← hd, ← hres]
  clear hd hx hres
  go_enter Try.func43, Try.ntmps43
  go_wp2
  go_loopw [5] (fun v wr => ∃ k : Nat, k ≤ d ∧ v = .int .i64 k ∧ Hid (kidB (N.take k) i = false) ∧ wr = w) (fun v _ => d - (intOf v).toNat)
  case atStart => exact ⟨0, Nat.zero_le _, rfl, Lib.hid (by rw [List.take_zero]; rfl), rfl⟩
  case round =>
    obtain ⟨k, hk, rfl, HK, rfl⟩ := hrel
    by_cases hlt : k < d
    · have hltz : (k : Int) < d := by omega
      obtain ⟨n, hne⟩ : ∃ n, N[k]? = some n := ⟨_, List.getElem?_eq_getElem (by have := HD.out; omega)⟩
      obtain ⟨b, off, rfl, h1⟩ := HX.out.at hne
      have n1 := h1.c1
      have n2 := h1.c2
      have HS := Lib.hid (show kidB (N.take (k + 1)) i = hasKid n i by rw [List.take_add_one, hne]; exact (kidB_snoc _ _ _).trans (by rw [HK.out]; rfl))
      have HM := Lib.hid (List.mem_of_getElem? hne)
      clear h1 hne
      obtain ⟨kk, L, R, g, t, a, q⟩ := n
      simp only at n1 n2
      by_cases hL : L = i
      · subst hL
        go_wp2
        go_ret
        refine ⟨retb ?_, rfl⟩
        rw [HR.out, show kidB N L = true from List.any_eq_true.2 ⟨_, HM.out, by simp [hasKid, nl]⟩]
      · have hLb : (L == i) = false := by simp [hL]
        by_cases hR : R = i
        · subst hR
          go_wp2
          go_ret
          refine ⟨retb ?_, rfl⟩
          rw [HR.out, show kidB N R = true from List.any_eq_true.2 ⟨_, HM.out, by simp [hasKid, nr]⟩]
        · have hRb : (R == i) = false := by simp [hR]
          go_wp2
          go_roundw
          case rel => exact ⟨k + 1, by omega, by go_num, Lib.hid (by rw [HS.out]; simp [hasKid, nl, nr, hL, hR]), trivial⟩
          case measure => simp [intOf]; omega
    · obtain rfl : k = d := by omega
      have hltz : ¬ (k : Int) < k := by omega
      go_wp2
      go_ret
      refine ⟨retb ?_, rfl⟩
      have h := HK.out
      rw [HD.out, List.take_length] at h
      rw [HR.out, h]

set_option maxRecDepth 100000 in
theorem RFree (w : World) (p : Option Addr) (c : Nat) (N : List Nd) (i : Int) (hx : NdS w p N) (hl : N.length ≤ 8192) :
    Calls Try.prog 42 #[.slice p N.length c, .int .i64 i] w fun e w' => e = .returned (.bool (freeB N i)) ∧ w' = w := by
  have HK := Lib.hid (RKid w p c N i hx hl)
  have HF := Lib.hid (show freeB N i = (decide (0 ≤ i) && (decide (i < N.length) && !kidB N i)) from rfl)
  obtain ⟨res, hres⟩ : ∃ r, r = freeB N i := ⟨_, rfl⟩
  rw [← hres] at HF ⊢
  generalize N.length = d at *
  cases hk : kidB N i <;> rw [hk] at HF HK <;> by_cases h0 : 0 ≤ i <;> by_cases h1 : i < d
  all_goals (
    clear hx hres hk
    go_enter Try.func42, Try.ntmps42
    go_wp2_with (go_at_call 43; (with_reducible refine HK.out.mono ?_); rintro e w' ⟨rfl, rfl⟩)
    go_ret
    exact ⟨retb (by rw [HF.out]; simp [h0, h1] <;> omega), rfl⟩)

set_option maxRecDepth 100000 in
set_option maxHeartbeats 3200000 in
theorem RMay (w : World) (p : Option Addr) (c : Nat) (N : List Nd) (n : Nd) (hx : NdS w p N) (hl : N.length ≤ 8192) :
    Calls Try.prog 40 #[.slice p N.length c, nv n] w fun e w' => e = .returned (.bool (mayB N n)) ∧ Below w.heap.size w w' := by
  have HF := Lib.hid (fun X (hX : Below w.heap.size w X) i => RFree X p c N i (hx.keep hX) hl)
  obtain ⟨kk, L, R, f, t, a, q⟩ := n
  have HM := Lib.hid (show mayB N (kk, L, R, f, t, a, q) = if kk = 1 then decide (L = -1) && decide (R = -1) else decide (kk = 2) && (!decide (L = R) && ((decide (L = -1) || freeB N L) && (decide (R = -1) || freeB N R))) from rfl)
  obtain ⟨res, hres⟩ : ∃ r, r = mayB N (kk, L, R, f, t, a, q) := ⟨_, rfl⟩
  have HFL := Lib.hid (fun X (hX : Below w.heap.size w X) => HF.out X hX L)
  have HFR := Lib.hid (fun X (hX : Below w.heap.size w X) => HF.out X hX R)
  have HB := Lib.hid (fun o => (Below.refl w.heap.size w).alloc (Nat.le_refl _) o)
  rw [← hres] at HM ⊢
  clear hx hres HF
  unfold nv
  generalize N.length = d at *
  generalize freeB N L = fl at *
  generalize freeB N R = fr at *
  have hc : (kk = 1 ∧ L = -1 ∧ R = -1) ∨ (kk = 1 ∧ L = -1 ∧ ¬ R = -1) ∨ (kk = 1 ∧ ¬ L = -1) ∨ (¬ kk = 1 ∧ ¬ kk = 2) ∨ (kk = 2 ∧ L = R) ∨ (kk = 2 ∧ ¬ L = R ∧ L = -1) ∨ (kk = 2 ∧ ¬ L = R ∧ ¬ L = -1 ∧ R = -1) ∨ (kk = 2 ∧ ¬ L = R ∧ ¬ L = -1 ∧ ¬ R = -1) := by omega
  rcases hc with ⟨rfl, rfl, rfl⟩ | ⟨rfl, rfl, h3⟩ | ⟨rfl, h2⟩ | ⟨h1, h2⟩ | ⟨rfl, rfl⟩ | ⟨rfl, h2, rfl⟩ | ⟨rfl, h2, h3, rfl⟩ | ⟨rfl, h2, h3, h4⟩
  case' inr.inr.inr.inr.inr.inr.inr => have hb : (L == R) = false := by simp [h2]
  case' inr.inr.inr.inr.inr.inl => have h4 : ¬ R = -1 := fun e => h2 e.symm
  case' inr.inr.inr.inr.inl => have h3 : True := trivial
  all_goals (cases fl <;> cases fr)
  all_goals (
    go_enter Try.func40, Try.ntmps40
    go_wp2_with (first
      | (go_at_call 42; (with_reducible refine (HFL.out _ (HB.out _)).mono ?_); rintro e w' ⟨rfl, rfl⟩)
      | (go_at_call 42; (with_reducible refine (HFR.out _ (HB.out _)).mono ?_); rintro e w' ⟨rfl, rfl⟩))
    go_ret
    exact ⟨retb (by rw [HM.out]; simp [*]), HB.out _⟩)
end Go.Proofs.Ytjobfpnlpfjoeaa
