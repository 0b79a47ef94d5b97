/-
  The document's heights. No condition but those typed at each theorem.
-/
import Derived.Test.YtaandlehildcdaaRefB
namespace Go.Proofs.Ytaandlehildcdaa
open Go.RowKit

theorem hl_nat {N : List Nd} (hR : Rt N) {i : Nat} (hi : i < N.length) : ∃ h : Nat, (hl N)[i]? = some (h : Int) ∧ h ≤ i := by
  have e : (hl N)[i]? = some ((hl N)[i]'(by rw [hl_len]; exact hi)) := List.getElem?_eq_getElem _
  have hb := hl_bound hR i _ e
  refine ⟨((hl N)[i]'(by rw [hl_len]; exact hi)).toNat, ?_, by omega⟩
  rw [e]
  congr 1
  omega
/-- of a node that may be put: its height by its kids' -/
theorem hn_cases {N : List Nd} (hR : Rt N) {i : Nat} {n : Nd} (e : N[i]? = some n) {h : Int} (eh : (hl N)[i]? = some h) :
    (nk n = 1 ∧ h = 0) ∨ (¬ nk n = 1 ∧ ∃ a b : Nat, h = max (a : Int) b + 1 ∧ a ≤ i ∧ b ≤ i ∧ ((nl n = -1 ∧ a = 0) ∨ ∃ j : Nat, nl n = j ∧ j < i ∧ (hl N)[j]? = some (a : Int)) ∧ ((nr n = -1 ∧ b = 0) ∨ ∃ j : Nat, nr n = j ∧ j < i ∧ (hl N)[j]? = some (b : Int))) := by
  have hm := hR i n e
  have hi := (List.getElem?_eq_some_iff.1 e).1
  rw [hl_get e] at eh
  have hv := (Option.some.inj eh).symm
  by_cases h1 : nk n = 1
  · obtain ⟨h2, h3⟩ := may_leaf hm h1
    refine .inl ⟨h1, ?_⟩
    rw [hv]
    simp [hn, ksL, h2, h3]
  · obtain ⟨-, hne⟩ := may_inner hm h1
    refine .inr ⟨h1, ?_⟩
    have hside : ∀ x, (nl n = x ∨ nr n = x) → x ≠ -1 → ∃ (j a : Nat), x = j ∧ j < i ∧ (hl N)[j]? = some (a : Int) ∧ a ≤ i ∧ hOf (hl (N.take i)) x = a + 1 := by
      intro x hx h0
      obtain ⟨k0, k1⟩ := hR.kid e (mem_ksL.2 ⟨h0, hx⟩)
      obtain ⟨a, ha, hai⟩ := hl_nat hR (i := x.toNat) (by omega)
      refine ⟨x.toNat, a, by omega, by omega, ha, by omega, ?_⟩
      rw [hOf_take k0 k1]
      unfold hOf
      rw [List.getD_eq_getElem?_getD, ha]
      rfl
    by_cases hL : nl n = -1
    · have hR1 : nr n ≠ -1 := fun e2 => hne (hL.trans e2.symm)
      obtain ⟨j, a, e1, e2, e3, e4, e5⟩ := hside _ (.inr rfl) hR1
      refine ⟨0, a, ?_, Nat.zero_le _, e4, .inl ⟨hL, rfl⟩, .inr ⟨j, e1, e2, e3⟩⟩
      rw [hv]
      simp [hn, ksL, hL, hR1, hUp, e5]
      omega
    · obtain ⟨j, a, e1, e2, e3, e4, e5⟩ := hside _ (.inl rfl) hL
      by_cases hR1 : nr n = -1
      · refine ⟨a, 0, ?_, e4, Nat.zero_le _, .inr ⟨j, e1, e2, e3⟩, .inl ⟨hR1, rfl⟩⟩
        rw [hv]
        simp [hn, ksL, hL, hR1, hUp, e5]
        omega
      · obtain ⟨j', a', f1, f2, f3, f4, f5⟩ := hside _ (.inr rfl) hR1
        refine ⟨a, a', ?_, e4, f4, .inr ⟨j, e1, e2, e3⟩, .inr ⟨j', f1, f2, f3⟩⟩
        rw [hv]
        simp [hn, ksL, hL, hR1, hUp, e5, f5]
        omega

set_option maxRecDepth 100000 in
set_option maxHeartbeats 3200000 in
theorem RHigh (w : World) (p : Option Addr) (c : Nat) (N : List Nd) (hx : NdS w p N) (hl' : N.length ≤ 8192) (hR : Rt N) (i : Nat) (hi : i < N.length) :
    ∀ h : Nat, (hl N)[i]? = some (h : Int) → Calls Try.prog 31 #[.slice p N.length c, .int .i64 i] w fun e w' => e = .returned (.int .i64 h) ∧ w' = w := by
  induction i using Nat.strongRecOn with
  | _ i ih =>
  intro hg eh
  obtain ⟨n, hne⟩ : ∃ n, N[i]? = some n := ⟨_, List.getElem?_eq_getElem hi⟩
  have hc := hn_cases hR hne eh
  have HI := Lib.hid (fun (j a : Nat) (hj : j < i) (ha : (hl N)[j]? = some (a : Int)) => ih j hj (by omega) a ha)
  obtain ⟨b, off, rfl, h1⟩ := hx.at hne
  have n0 := h1.c0
  have n1 := h1.c1
  have n2 := h1.c2
  have hid : (i : Int) < N.length := by omega
  clear h1 hne ih eh hx
  generalize N.length = d at *
  obtain ⟨kk, L, R, f, t, a, q⟩ := n
  simp only at n0 n1 n2
  simp only [nk, nl, nr] at hc
  rcases hc with ⟨rfl, h0⟩ | ⟨hk, a1, b1, hh, ha, hb, hL, hR'⟩
  · obtain rfl : hg = 0 := by omega
    go_enter Try.func31, Try.ntmps31
    go_wp2
    go_ret
    exact ⟨rfl, rfl⟩
  · have HH := Lib.hid hh
    have ha8 : a1 ≤ 8192 := by omega
    have hb8 : b1 ≤ 8192 := by omega
    clear hh ha hb
    rcases hL with ⟨rfl, rfl⟩ | ⟨j, rfl, hj, hja⟩ <;> rcases hR' with ⟨rfl, rfl⟩ | ⟨j', rfl, hj', hjb⟩
    case' inl.inr =>
      have HC2 := Lib.hid (HI.out _ _ hj' hjb)
      clear hj' hjb
    case' inr.inl =>
      have HC1 := Lib.hid (HI.out _ _ hj hja)
      clear hj hja
    case' inr.inr =>
      have HC1 := Lib.hid (HI.out _ _ hj hja)
      have HC2 := Lib.hid (HI.out _ _ hj' hjb)
      clear hj hja hj' hjb
    all_goals (
      clear HI
      go_enter Try.func31, Try.ntmps31
      go_wp2_with (first
        | (go_at_call 31; (with_reducible refine HC1.out.mono ?_); rintro e wL ⟨rfl, hL⟩; subst hL; clear HC1)
        | (go_at_call 31; (with_reducible refine HC2.out.mono ?_); rintro e wL ⟨rfl, hL⟩; subst hL; clear HC2))
      all_goals (
        go_ret
        exact ⟨congrArg (fun x => Ending.returned (Value.int IntKind.i64 x)) (by have := HH.out; omega), rfl⟩))

/-- what is told of a height -/
def hgt (N : List Nd) (i : Int) : Int × Int := if rtB N = true then (if 0 ≤ i ∧ i < N.length then ((hl N).getD i.toNat 0, 0) else (0, 2)) else (0, 50)

set_option maxRecDepth 100000 in
set_option maxHeartbeats 1600000 in
theorem RHeight (w : World) (p : Option Addr) (c : Nat) (N : List Nd) (i : Int) (hx : NdS w p N) (hl' : N.length ≤ 8192) (hc : N.length ≤ c) :
    Calls Try.prog 12 #[.slice p N.length c, .int .i64 i] w fun e w' => e = .returned (pair (hgt N i).1 (hgt N i).2) ∧ Below w.heap.size w w' := by
  have HR := Lib.hid (RRight w p c N hx hl' hc)
  unfold pair
  by_cases hR : rtB N = true
  · rw [hR] at HR
    by_cases hi : 0 ≤ i ∧ i < N.length
    · obtain ⟨j, rfl⟩ : ∃ j : Nat, i = j := ⟨i.toNat, by omega⟩
      obtain ⟨h, he, -⟩ := hl_nat ((rtB_iff N).1 hR) (i := j) (by omega)
      have hv : hgt N j = ((h : Int), 0) := by
        unfold hgt
        rw [if_pos hR, if_pos hi, List.getD_eq_getElem?_getD, Int.toNat_natCast, he]
        rfl
      have HH := Lib.hid (fun X (hX : Below w.heap.size w X) => RHigh X p c N (hx.keep hX) hl' ((rtB_iff N).1 hR) j (by omega) h he)
      rw [hv]
      have h2 : ¬ (j : Int) < 0 := by omega
      have h3 : ¬ (N.length : Int) ≤ j := by omega
      clear hx hv he hR hi
      generalize N.length = d at *
      go_enter Try.func12, Try.ntmps12
      go_wp2_with (first
        | (go_at_call 14; (with_reducible refine HR.out.mono ?_); rintro e w1 ⟨rfl, hb⟩; have HB := Lib.hid hb; clear hb)
        | (go_at_call 31; (with_reducible refine (HH.out _ HB.out).mono ?_); rintro e wL ⟨rfl, hL⟩; subst hL))
      go_ret2
      exact ⟨rfl, HB.out⟩
    · have hv : hgt N i = (0, 2) := by
        unfold hgt
        rw [if_pos hR, if_neg hi]
      rw [hv]
      have hc2 : i < 0 ∨ (¬ i < 0 ∧ (N.length : Int) ≤ i) := by omega
      clear hx hv hR hi
      generalize N.length = d at *
      rcases hc2 with h2 | ⟨h2, h3⟩
      all_goals (
        go_enter Try.func12, Try.ntmps12
        go_wp2_with (go_at_call 14; (with_reducible refine HR.out.mono ?_); rintro e w1 ⟨rfl, hb⟩; have HB := Lib.hid hb; clear hb)
        go_ret2
        exact ⟨rfl, HB.out⟩)
  · have hR' : rtB N = false := by simpa using hR
    have hv : hgt N i = (0, 50) := by
      unfold hgt
      rw [if_neg hR]
    rw [hR'] at HR
    rw [hv]
    clear hx hv hR hR'
    generalize N.length = d at *
    go_enter Try.func12, Try.ntmps12
    go_wp2_with (go_at_call 14; (with_reducible refine HR.out.mono ?_); rintro e w1 ⟨rfl, hb⟩; have HB := Lib.hid hb; clear hb)
    go_ret2
    exact ⟨rfl, HB.out⟩
theorem PHeight (w : World) (p : Option Addr) (c : Nat) (N : List Nd) (i : Int) (hx : NdS w p N) (hl' : N.length ≤ 8192) :
    Calls Try.prog 11 #[.slice p N.length c, .int .i64 i] w fun e w' => e = .returned (pair (hgt N i).1 (hgt N i).2) ∧ Below w.heap.size w w' := by
  by_cases hR : rtB N = true
  · by_cases hi : 0 ≤ i ∧ i < N.length
    · obtain ⟨j, rfl⟩ : ∃ j : Nat, i = j := ⟨i.toNat, by omega⟩
      refine (Height_any w p c N j hx hl' ((rtB_iff N).1 hR) (by omega)).mono ?_
      rintro e w' ⟨h, rfl, he, hb⟩
      unfold hgt
      rw [if_pos hR, if_pos hi, List.getD_eq_getElem?_getD, Int.toNat_natCast, he]
      exact ⟨rfl, hb⟩
    · unfold hgt
      rw [if_pos hR, if_neg hi]
      exact Height_arg w p c N i hx hl' hR hi
  · unfold hgt
    rw [if_neg hR]
    exact Height_pool w p c N i hx hl' (by simpa using hR)
end Go.Proofs.Ytaandlehildcdaa
