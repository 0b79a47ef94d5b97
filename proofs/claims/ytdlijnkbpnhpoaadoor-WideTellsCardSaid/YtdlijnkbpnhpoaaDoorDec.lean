/-
  Plain mathematics of decimal digits: what wide.Text tells is the decimal numeral, the numeral is read back to its number, a canonical text is the numeral of what it is read to, and numerals stand in the numbers' order. No Go text is walked here; conditions: those typed at each theorem.
-/
import Derived.Test.YtdlijnkbpnhpoaaDoorText
import Derived.Test.YtdlijnkbpnhpoaaDoorParsed
namespace Go.Proofs.YtdlijnkbpnhpoaaDoor
open Go.RowKit

theorem dec_small {u : Nat} (h : u < 10) : Lib.decDigits u = [UInt8.ofNat (48 + u)] := by rw [Lib.decDigits, dif_pos h]
theorem dec_big {u : Nat} (h : ¬ u < 10) : Lib.decDigits u = Lib.decDigits (u / 10) ++ [UInt8.ofNat (48 + u % 10)] := by rw [Lib.decDigits, dif_neg h]
theorem rep_eq (c : Nat) : Lib.repeatL [48] c = List.replicate c 48 := by
  induction c with
  | zero => rfl
  | succ c ih => rw [Lib.repeatL, ih]; rfl
def pad (k r : Nat) : List UInt8 := Lib.repeatL [48] (k - Lib.nDigits r) ++ Lib.decDigits r
theorem pad_succ (k r : Nat) (hk : 1 ≤ k) : pad (k + 1) r = pad k (r / 10) ++ [UInt8.ofNat (48 + r % 10)] := by
  unfold pad
  by_cases h : r < 10
  · have h0 : r / 10 = 0 := by omega
    have h1 : r % 10 = r := by omega
    rw [h0, h1, dec_small h, dec_small (by omega : (0 : Nat) < 10), Lib.nDigits_small h, Lib.nDigits_small (by omega : (0 : Nat) < 10), rep_eq, rep_eq]
    have : k + 1 - 1 = (k - 1) + 1 := by omega
    rw [this, List.replicate_succ']
    rfl
  · rw [dec_big h, Lib.nDigits_big h, Nat.add_sub_add_right, List.append_assoc]
theorem pad_one (r : Nat) (h : r < 10) : pad 1 r = [UInt8.ofNat (48 + r)] := by
  unfold pad; rw [dec_small h, Lib.nDigits_small h]; rfl
theorem dec_pad (q : Nat) (hq : 0 < q) : ∀ k r : Nat, r < 10 ^ (k + 1) → Lib.decDigits (q * 10 ^ (k + 1) + r) = Lib.decDigits q ++ pad (k + 1) r
  | 0, r, h => by
    have h' : r < 10 := by simpa using h
    rw [pad_one r h', dec_big (by omega), show (q * 10 ^ (0 + 1) + r) / 10 = q by omega, show (q * 10 ^ (0 + 1) + r) % 10 = r by omega]
  | k + 1, r, h => by
    have hp : 1 ≤ 10 ^ (k + 1) := Nat.one_le_pow _ _ (by decide)
    have e : 10 ^ (k + 1 + 1) = 10 ^ (k + 1) * 10 := Nat.pow_succ _ _
    have hm : q * 10 ^ (k + 1 + 1) = q * 10 ^ (k + 1) * 10 := by rw [e, Nat.mul_assoc]
    have hqm : 1 ≤ q * 10 ^ (k + 1) := Nat.mul_pos hq hp
    rw [pad_succ (k + 1) r (by omega), ← List.append_assoc, ← dec_pad q hq k (r / 10) (by omega), hm, dec_big (by omega)]
    congr 3 <;> omega
theorem txt_dec (a : Nat) : txt a = Lib.decDigits a := by
  unfold txt gs
  have one : ∀ g, stepT [] g = Lib.decDigits g := fun g => by unfold stepT; rfl
  have two : ∀ (l : List UInt8) (g : Nat), l ≠ [] → stepT l g = l ++ pad 19 g := fun l g hl => by
    unfold stepT pad
    rw [if_neg (by intro e; exact hl (List.eq_nil_of_length_eq_zero e)), List.append_assoc]
  have ne : ∀ g, Lib.decDigits g ≠ [] := fun g e => by
    have := Lib.decDigits_length g
    rw [e] at this
    have := Lib.nDigits_pos g
    simp at *; omega
  have join : ∀ q r : Nat, 0 < q → r < 10000000000000000000 → Lib.decDigits q ++ pad 19 r = Lib.decDigits (q * 10000000000000000000 + r) := fun q r hq hr => (dec_pad q hq 18 r hr).symm
  split
  · exact one a
  · rename_i h1
    have hq : 0 < gQ a := by unfold gQ; omega
    split
    · show stepT (stepT [] (gQ a)) (gR a) = _
      rw [one, two _ _ (ne _), join _ _ hq (by unfold gR; omega)]
      congr 1; unfold gQ gR; omega
    · rename_i h2
      have hq2 : 0 < gQ (gQ a) := by
        have : ¬ gQ a < 10000000000000000000 := h2
        unfold gQ at *; omega
      show stepT (stepT (stepT [] (gQ (gQ a))) (gR (gQ a))) (gR a) = _
      rw [one, two _ _ (ne _), join _ _ hq2 (by unfold gR; omega), two _ _ (ne _)]
      rw [show gQ (gQ a) * 10000000000000000000 + gR (gQ a) = gQ a by unfold gQ gR; omega, join _ _ hq (by unfold gR; omega)]
      congr 1; unfold gQ gR; omega

theorem dig_toNat (d : Nat) (h : d < 10) : (UInt8.ofNat (48 + d)).toNat = 48 + d := by
  rw [UInt8.toNat_ofNat']; omega
theorem dig_of (c : UInt8) (h1 : 48 ≤ c.toNat) (h2 : c.toNat ≤ 57) : UInt8.ofNat (48 + (c.toNat - 48)) = c := by
  apply UInt8.toNat_inj.1
  rw [dig_toNat _ (by omega)]; omega
theorem val_dec (a : Nat) : val (Lib.decDigits a) = a := by
  induction a using Nat.strongRecOn with
  | _ a ih =>
    by_cases h : a < 10
    · rw [dec_small h]; show 0 * 10 + ((UInt8.ofNat (48 + a)).toNat - 48) = a
      rw [dig_toNat a h]; omega
    · rw [dec_big h, val_snoc, ih (a / 10) (by omega), dig_toNat _ (by omega)]; omega
theorem digs_dec (a : Nat) : (Lib.decDigits a).all digB = true := by
  induction a using Nat.strongRecOn with
  | _ a ih =>
    have one : ∀ d, d < 10 → digB (UInt8.ofNat (48 + d)) = true := fun d hd => by unfold digB; rw [dig_toNat d hd]; simp; omega
    by_cases h : a < 10
    · rw [dec_small h, List.all_cons, one a h]; rfl
    · rw [dec_big h, List.all_append, ih (a / 10) (by omega), List.all_cons, one (a % 10) (by omega)]; rfl
theorem dec_ne (a : Nat) : Lib.decDigits a ≠ [] := fun e => by
  have h1 := Lib.decDigits_length a
  have h2 := Lib.nDigits_pos a
  rw [e] at h1; simp at h1; omega
theorem head_dec (a : Nat) (h0 : 0 < a) : (Lib.decDigits a).head? ≠ some 48 := by
  induction a using Nat.strongRecOn with
  | _ a ih =>
    by_cases h : a < 10
    · rw [dec_small h]
      intro e
      have : UInt8.ofNat (48 + a) = 48 := by simpa using e
      have := congrArg UInt8.toNat this
      rw [dig_toNat a h] at this
      have : 48 + a = 48 := this
      omega
    · rw [dec_big h]
      have := ih (a / 10) (by omega) (by omega)
      cases hd : Lib.decDigits (a / 10) with
      | nil => exact absurd hd (dec_ne _)
      | cons x l => rw [hd] at this; simpa using this
theorem wf_dec (a : Nat) (h : a < B128) : wfS (Lib.decDigits a) = true := by
  unfold wfS headBad
  have hl : (Lib.decDigits a).length ≤ 39 := by rw [Lib.decDigits_length]; exact nd_le 38 a (by unfold B128 at h; omega)
  have hn : (Lib.decDigits a).isEmpty = false := by
    cases hd : Lib.decDigits a with
    | nil => exact absurd hd (dec_ne a)
    | cons x l => rfl
  rw [hn, digs_dec a, decide_eq_false (by omega : ¬ 39 < (Lib.decDigits a).length)]
  by_cases h0 : a = 0
  · subst h0; rw [dec_small (by omega)]; rfl
  · rw [decide_eq_false (head_dec a (by omega))]; rfl
theorem parR_dec (a : Nat) (h : a < B128) : parR (Lib.decDigits a) = a ∧ parE (Lib.decDigits a) = 0 := by
  have := par_ok (Lib.decDigits a) (wf_dec a h) (by rw [val_dec]; exact h)
  rw [val_dec] at this
  exact this

/-- digits, none ahead of others a 0. -/
def Can (l : List UInt8) : Prop := l ≠ [] ∧ (∀ c ∈ l, 48 ≤ c.toNat ∧ c.toNat ≤ 57) ∧ (l.head? = some 48 → l.length = 1)
theorem can_of_wf (l : List UInt8) (h : wfS l = true) : Can l := by
  unfold wfS headBad at h
  simp only [Bool.and_eq_true, Bool.not_eq_true', Bool.or_eq_false_iff, Bool.and_eq_false_iff] at h
  obtain ⟨⟨⟨h1, _⟩, h3⟩, h4⟩ := h
  refine ⟨fun e => by rw [e] at h1; simp at h1, fun c hc => ?_, fun e => ?_⟩
  · have := List.all_eq_true.1 h4 c hc
    unfold digB at this; simp at this; omega
  · have hne : l.length ≠ 0 := fun e2 => by rw [List.eq_nil_of_length_eq_zero e2] at h1; simp at h1
    rcases h3 with h3 | h3
    · exact absurd e (of_decide_eq_false h3)
    · have := of_decide_eq_false h3; omega
theorem val_pos (l : List UInt8) (h : Can l) (h0 : l.head? ≠ some 48) : 0 < val l := by
  obtain ⟨hne, hd, _⟩ := h
  cases l with
  | nil => exact absurd rfl hne
  | cons c t =>
    have h1 := val_le [c] t
    have h2 := hd c (List.mem_cons_self)
    have h3 : c.toNat ≠ 48 := fun e => h0 (by simp; exact UInt8.toNat_inj.1 (by rw [e]; rfl))
    have h4 : val [c] = c.toNat - 48 := by show 0 * 10 + (c.toNat - 48) = _; omega
    have : [c] ++ t = c :: t := rfl
    rw [this] at h1
    omega
theorem dec_val : ∀ (n : Nat) (l : List UInt8), l.length = n → Can l → Lib.decDigits (val l) = l
  | 0, l, hl, h => absurd (List.eq_nil_of_length_eq_zero hl) h.1
  | n + 1, l, hl, h => by
    obtain ⟨m, c, rfl⟩ : ∃ m c, l = m ++ [c] := by
      cases hr : l.reverse with
      | nil => have : l = [] := by simpa using hr
               rw [this] at hl; simp at hl
      | cons x t => exact ⟨t.reverse, x, by have := congrArg List.reverse hr; simpa using this⟩
    have hc := h.2.1 c (by simp)
    rw [val_snoc]
    by_cases hm : m = []
    · subst hm
      show Lib.decDigits (0 * 10 + (c.toNat - 48)) = _
      rw [Nat.zero_mul, Nat.zero_add, dec_small (by omega), dig_of c hc.1 hc.2]; rfl
    · have hml : m.length = n := by simp at hl; omega
      have hhead : m.head? ≠ some 48 := fun e => by
        have h1 : (m ++ [c]).head? = some 48 := by
          cases m with
          | nil => exact absurd rfl hm
          | cons x t => simpa using e
        have := h.2.2 h1
        simp at this
        exact hm this
      have hcan : Can m := ⟨hm, fun d hd => h.2.1 d (by simp [hd]), fun e => absurd e hhead⟩
      have hp := val_pos m hcan hhead
      rw [dec_big (by omega), show (val m * 10 + (c.toNat - 48)) / 10 = val m by omega, show (val m * 10 + (c.toNat - 48)) % 10 = c.toNat - 48 by omega, dec_val n m hml hcan, dig_of c hc.1 hc.2]
theorem dec_parse (l : List UInt8) (h : parE l = 0) : Lib.decDigits (parR l) = l ∧ parR l < B128 := by
  unfold parE parR at *
  by_cases hc : wfS l = true ∧ val l < B128
  · rw [if_pos hc]; exact ⟨dec_val _ l rfl (can_of_wf l hc.1), hc.2⟩
  · rw [if_neg hc] at h; exact absurd h (by decide)
theorem parse_or (l : List UInt8) : parE l = 0 ∨ (parE l = 10 ∧ parR l = 0) := by
  unfold parE parR
  by_cases hc : wfS l = true ∧ val l < B128
  · left; rw [if_pos hc]
  · right; rw [if_neg hc, if_neg hc]; exact ⟨rfl, rfl⟩

theorem nd_mono : ∀ (n a b : Nat), b ≤ n → a ≤ b → Lib.nDigits a ≤ Lib.nDigits b
  | 0, a, b, hb, h => by obtain rfl : a = b := by omega
                         exact Nat.le_refl _
  | n + 1, a, b, hb, h => by
    by_cases h1 : b < 10
    · rw [Lib.nDigits_small h1, Lib.nDigits_small (by omega)]; exact Nat.le_refl _
    · by_cases h2 : a < 10
      · rw [Lib.nDigits_small h2]; exact Lib.nDigits_pos b
      · rw [Lib.nDigits_big h1, Lib.nDigits_big h2]
        have := nd_mono n (a / 10) (b / 10) (by omega) (by omega)
        omega
theorem nd_order (a b : Nat) (h : Lib.nDigits a ≠ Lib.nDigits b) : decide (Lib.nDigits a < Lib.nDigits b) = decide (a < b) := by
  rw [decide_eq_decide]
  constructor
  · intro hlt
    by_cases hab : a < b
    · exact hab
    · have := nd_mono a b a (Nat.le_refl _) (by omega); omega
  · intro hlt
    have := nd_mono b a b (Nat.le_refl _) (by omega)
    omega
theorem val_cons (c : UInt8) (l : List UInt8) : val (c :: l) = (c.toNat - 48) * 10 ^ l.length + val l := by
  suffices h : ∀ (l : List UInt8) (n : Nat), l.foldl (fun n c => n * 10 + (c.toNat - 48)) n = n * 10 ^ l.length + val l by
    show l.foldl _ (0 * 10 + (c.toNat - 48)) = _
    rw [h]; simp
  intro l
  induction l with
  | nil => intro n; simp [val]
  | cons d t ih =>
    intro n
    have e : val (d :: t) = (d.toNat - 48) * 10 ^ t.length + val t := by
      show List.foldl _ (0 * 10 + (d.toNat - 48)) t = _
      rw [ih, Nat.zero_mul, Nat.zero_add]
    rw [List.foldl_cons, ih, e, List.length_cons, Nat.pow_succ, Nat.add_mul, Nat.mul_assoc, Nat.mul_comm 10]
    omega
theorem val_lt (l : List UInt8) (h : ∀ c ∈ l, 48 ≤ c.toNat ∧ c.toNat ≤ 57) : val l < 10 ^ l.length := by
  induction l with
  | nil => simp [val]
  | cons c t ih =>
    have h1 := ih (fun d hd => h d (List.mem_cons_of_mem _ hd))
    have h2 := h c List.mem_cons_self
    rw [val_cons, List.length_cons, Nat.pow_succ]
    have : (c.toNat - 48) * 10 ^ t.length ≤ 9 * 10 ^ t.length := Nat.mul_le_mul_right _ (by omega)
    omega
theorem cmp_digits : ∀ (x y : List UInt8), x.length = y.length → (∀ c ∈ x, 48 ≤ c.toNat ∧ c.toNat ≤ 57) → (∀ c ∈ y, 48 ≤ c.toNat ∧ c.toNat ≤ 57) → Lib.compareBytes x y = cmpN (val x) (val y)
  | [], [], _, _, _ => rfl
  | [], _ :: _, h, _, _ => by simp at h
  | _ :: _, [], h, _, _ => by simp at h
  | a :: x, b :: y, h, hx, hy => by
    have hl : x.length = y.length := by simpa using h
    have hx' := val_lt x (fun c hc => hx c (List.mem_cons_of_mem _ hc))
    have hy' := val_lt y (fun c hc => hy c (List.mem_cons_of_mem _ hc))
    have ha := hx a List.mem_cons_self
    have hb := hy b List.mem_cons_self
    have ih := cmp_digits x y hl (fun c hc => hx c (List.mem_cons_of_mem _ hc)) (fun c hc => hy c (List.mem_cons_of_mem _ hc))
    rw [Lib.compareBytes, val_cons, val_cons, hl]
    rw [hl] at hx'
    generalize 10 ^ y.length = P at *
    by_cases h1 : a < b
    · have h1' : a.toNat < b.toNat := UInt8.lt_iff_toNat_lt.1 h1
      rw [if_pos h1, cmpN_lt _ _ (by have : (a.toNat - 48 + 1) * P ≤ (b.toNat - 48) * P := Nat.mul_le_mul_right _ (by omega)
                                     rw [Nat.add_mul] at this; omega)]
    · rw [if_neg h1]
      by_cases h2 : b < a
      · have h2' : b.toNat < a.toNat := UInt8.lt_iff_toNat_lt.1 h2
        rw [if_pos h2, cmpN_gt _ _ (by have : (b.toNat - 48 + 1) * P ≤ (a.toNat - 48) * P := Nat.mul_le_mul_right _ (by omega)
                                       rw [Nat.add_mul] at this; omega)]
      · rw [if_neg h2]
        have e : a.toNat = b.toNat := by
          have q1 : ¬ a.toNat < b.toNat := fun q => h1 (UInt8.lt_iff_toNat_lt.2 q)
          have q2 : ¬ b.toNat < a.toNat := fun q => h2 (UInt8.lt_iff_toNat_lt.2 q)
          omega
        rw [ih, e]
        unfold cmpN
        congr 1
        · simp
        · congr 1; simp
theorem cmp_dec (a b : Nat) (h : Lib.nDigits a = Lib.nDigits b) : Lib.compareBytes (Lib.decDigits a) (Lib.decDigits b) = cmpN a b := by
  have hd : ∀ n, ∀ c ∈ Lib.decDigits n, 48 ≤ c.toNat ∧ c.toNat ≤ 57 := fun n c hc => by
    have := List.all_eq_true.1 (digs_dec n) c hc
    unfold digB at this; simp at this; omega
  rw [cmp_digits _ _ (by rw [Lib.decDigits_length, Lib.decDigits_length, h]) (hd a) (hd b), val_dec, val_dec]
end Go.Proofs.YtdlijnkbpnhpoaaDoor
