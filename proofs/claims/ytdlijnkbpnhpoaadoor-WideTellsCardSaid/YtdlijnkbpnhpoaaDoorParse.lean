/-
  What wide.wellFormed, putDigit and Parse tell, for every text (at most 2^47 bytes) and every wide number; conditions: those typed at each theorem.
-/
import Derived.Test.YtdlijnkbpnhpoaaDoorWide
import Derived.Deep.RegionHeld3
import Derived.Deep.DeepCutAuto
import Derived.Deep.QuietTactic
import Derived.BigQuiet
import Derived.IntWalk
namespace Go.Proofs.YtdlijnkbpnhpoaaDoor
open Go.RowKit

def digB (c : UInt8) : Bool := decide (48 ≤ c.toNat) && decide (c.toNat ≤ 57)
def headBad (l : List UInt8) : Bool := l.isEmpty || decide (39 < l.length) || (decide (l.head? = some 48) && decide (1 < l.length))
def wfS (l : List UInt8) : Bool := !headBad l && l.all digB

theorem toList_data (s : ByteArray) : s.toList = s.data.toList := ByteArray.toList_eq s
theorem nil_of_size (s : ByteArray) (h : s.size = 0) : s.data.toList = [] := by
  have : s.data.toList.length = 0 := by simpa using h
  exact List.eq_nil_of_length_eq_zero this
theorem len_size (s : ByteArray) : s.data.toList.length = s.size := by simp
theorem head_eq (s : ByteArray) (h : 0 < s.size) : s.data.toList.head? = some s[0] := by
  rw [List.head?_eq_getElem?, List.getElem?_eq_getElem (by simpa using h)]; rfl
theorem head48 (s : ByteArray) (h : 0 < s.size) : decide (s.data.toList.head? = some 48) = decide ((s[0].toNat : Int) = 48) := by
  rw [head_eq s h, decide_eq_decide]
  constructor
  · intro e; have : s[0] = 48 := by simpa using e
    rw [this]; rfl
  · intro e
    have h1 : s[0].toNat = 48 := by omega
    have : s[0] = 48 := UInt8.toNat_inj.1 (by rw [h1]; rfl)
    rw [this]
theorem take_snoc (s : ByteArray) (k : Nat) (h : k < s.size) : s.data.toList.take (k + 1) = s.data.toList.take k ++ [s[k]] := by
  rw [List.take_succ_eq_append_getElem (by simpa using h)]; rfl
theorem wfS_empty (s : ByteArray) (h : s.size = 0) : wfS s.data.toList = false := by
  unfold wfS headBad; rw [nil_of_size s h]; rfl
theorem wfS_long (s : ByteArray) (h : 39 < s.size) : wfS s.data.toList = false := by
  unfold wfS headBad; rw [len_size]; simp [h]
theorem wfS_zero (s : ByteArray) (h0 : 1 < s.size) (h : (s[0].toNat : Int) = 48) : wfS s.data.toList = false := by
  unfold wfS headBad; rw [len_size, head48 s (by omega)]; simp [h, h0]
theorem headOk (s : ByteArray) (h0 : 0 < s.size) (h1 : s.size ≤ 39) (h : (s[0].toNat : Int) = 48 → s.size ≤ 1) : headBad s.data.toList = false := by
  unfold headBad; rw [len_size, head48 s (by omega)]
  have hne : s.data.toList ≠ [] := by intro e; have := len_size s; rw [e] at this; simp at this; omega
  have he : s.data.toList.isEmpty = false := by cases hl : s.data.toList with
    | nil => exact absurd hl hne
    | cons a l => rfl
  rw [he]
  have h39 : ¬ 39 < s.size := by omega
  simp only [h39, decide_false, Bool.or_false, Bool.false_or]
  by_cases hz : (s[0].toNat : Int) = 48
  · have := h hz; have : ¬ 1 < s.size := by omega
    simp [this]
  · simp [hz]
theorem digB_true (c : UInt8) (h1 : 48 ≤ (c.toNat : Int)) (h2 : (c.toNat : Int) ≤ 57) : digB c = true := by unfold digB; simp; omega
theorem wfS_bad (s : ByteArray) (k : Nat) (h : k < s.size) (hb : (s[k].toNat : Int) < 48 ∨ 57 < (s[k].toNat : Int)) : wfS s.data.toList = false := by
  unfold wfS
  have hm : s[k] ∈ s.data.toList := by
    have := List.getElem_mem (l := s.data.toList) (n := k) (by simpa using h)
    exact this
  have : s.data.toList.all digB = false := by
    rw [List.all_eq_false]
    refine ⟨_, hm, ?_⟩
    unfold digB; simp; omega
  rw [this, Bool.and_false]
theorem wfS_good (s : ByteArray) (hh : headBad s.data.toList = false) (h : (s.data.toList.take s.size).all digB = true) : wfS s.data.toList = true := by
  rw [List.take_of_length_le (by simp)] at h
  unfold wfS; rw [hh, h]; rfl

set_option maxRecDepth 100000 in
set_option maxHeartbeats 1000000 in
theorem wf_any (s : ByteArray) (w : World) (hs : s.size ≤ 140737488355328) :
    Calls Tryd.prog 34 #[.string s] w fun e w' => e = .returned (.bool (wfS s.data.toList)) ∧ w = w' := by
  by_cases h0 : s.size = 0
  · have H := Lib.hid (wfS_empty s h0)
    have tE : s.toList = [] := by rw [toList_data, nil_of_size s h0]
    clear h0
    go_enter Tryd.func34, Tryd.ntmps34
    go_wp2
    go_ret
    exact ⟨by rw [H.out]; rfl, rfl⟩
  have hne : s.data.toList ≠ [] := by intro e; have := len_size s; rw [e] at this; simp at this; omega
  have tE : s.toList.isEmpty = false := by
    rw [toList_data]
    cases hl : s.data.toList with
    | nil => exact absurd hl hne
    | cons a l => rfl
  have tN : ¬ s.toList = [] := by rw [toList_data]; exact hne
  by_cases h1 : 39 < s.size
  · have H := Lib.hid (wfS_long s h1)
    have h1' : (39 : Int) < (s.size : Int) := by omega
    clear h0 hne
    go_enter Tryd.func34, Tryd.ntmps34
    go_wp2
    go_ret
    exact ⟨by rw [H.out]; rfl, rfl⟩
  have hp : 0 < s.size := by omega
  have h39 : (s.size : Int) ≤ 39 := by omega
  by_cases hz : (s[0].toNat : Int) = 48 ∧ 1 < s.size
  · obtain ⟨hz, h2⟩ := hz
    have H := Lib.hid (wfS_zero s h2 hz)
    have t1 : ((s[0].toNat : Int) == 48) = true := beq_iff_eq.2 hz
    have h2' : (1 : Int) < (s.size : Int) := by omega
    clear h0 hne hz
    go_enter Tryd.func34, Tryd.ntmps34
    go_wp2
    go_ret
    exact ⟨by rw [H.out]; rfl, rfl⟩
  have HB := Lib.hid (headOk s hp (by omega) (fun e => by by_cases q : 1 < s.size; exact absurd ⟨e, q⟩ hz; omega))
  have loop : ∀ t : Bool, ((s[0].toNat : Int) == 48) = t → (t = true → (s.size : Int) ≤ 1) → Calls Tryd.prog 34 #[.string s] w fun e w' => e = .returned (.bool (wfS s.data.toList)) ∧ w = w' := by
    intro t ht ht1
    cases t
    case' true => have h1' := ht1 rfl
    all_goals
      clear ht1 hz h0 hne
      go_enter Tryd.func34, Tryd.ntmps34
      go_wp2
      go_loop [23] (fun i => ∃ k : Nat, k ≤ s.size ∧ i = .int .i64 k ∧ Hid ((s.data.toList.take k).all digB = true)) (fun i => s.size - (intOf i).toNat)
      case atStart => exact ⟨0, Nat.zero_le _, rfl, Lib.hid (by simp)⟩
      case round =>
        obtain ⟨k, hk, rfl, hall⟩ := hrel
        by_cases hlt : k < s.size
        · by_cases hlo : (s[k].toNat : Int) < 48
          · have H := Lib.hid (wfS_bad s k hlt (.inl hlo))
            go_wp2
            go_ret
            exact ⟨by rw [H.out]; rfl, rfl⟩
          by_cases hhi : 57 < (s[k].toNat : Int)
          · have H := Lib.hid (wfS_bad s k hlt (.inr hhi))
            go_wp2
            go_ret
            exact ⟨by rw [H.out]; rfl, rfl⟩
          go_wp2
          go_round
          case rel => exact ⟨k + 1, by omega, by go_num, Lib.hid (by rw [take_snoc s k hlt, List.all_append, hall.out]; simp [digB_true s[k] (by omega) (by omega)])⟩
          case measure => simp [intOf]; omega
        · have H := Lib.hid (wfS_good s HB.out (by obtain rfl : k = s.size := by omega
                                                   exact hall.out))
          go_wp2
          go_ret
          exact ⟨by rw [H.out]; rfl, rfl⟩
  by_cases hz0 : (s[0].toNat : Int) = 48
  · exact loop true (beq_iff_eq.2 hz0) (fun _ => by by_cases q : 1 < s.size; exact absurd ⟨hz0, q⟩ hz; omega)
  · exact loop false (beq_eq_false_iff_ne.2 hz0) (fun e => by cases e)
end Go.Proofs.YtdlijnkbpnhpoaaDoor
