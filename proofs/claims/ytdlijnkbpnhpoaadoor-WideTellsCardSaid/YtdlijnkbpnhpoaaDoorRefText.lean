/-
  What the document-side function Text tells: the decimal digits; conditions: those typed at each theorem.
-/
import Derived.Test.YtdlijnkbpnhpoaaDoorRefParse
namespace Go.Proofs.YtdlijnkbpnhpoaaDoor
open Go.RowKit

def mixL (N k : Nat) : List Value := (List.range 128).map fun j => if j < k then bitV N j else bitV (N / 10) j
theorem mix_len (N k : Nat) : (mixL N k).length = 128 := by simp [mixL]
theorem mix_step (N k : Nat) : (mixL N (k + 1)).set k (bitV (N / 10) k) = mixL N k := by
  apply List.ext_getElem
  · simp [mixL]
  · intro j h1 h2
    simp only [List.getElem_set, mixL, List.getElem_map, List.getElem_range]
    by_cases e : k = j
    · subst e; rw [if_pos rfl, if_neg (by omega)]
    · rw [if_neg e]
      by_cases e2 : j < k
      · rw [if_pos e2, if_pos (by omega)]
      · rw [if_neg e2, if_neg (by omega)]
theorem mix_top (N : Nat) : mixL N 128 = bitsL N 128 := by
  apply List.ext_getElem
  · simp [mixL, bitsL]
  · intro j h1 h2
    simp only [mixL, bitsL, List.getElem_map, List.getElem_range]
    rw [if_pos (by simp [bitsL] at h2; exact h2)]
theorem mix_zero (N : Nat) : mixL N 0 = bitsL (N / 10) 128 := by
  apply List.ext_getElem
  · simp [mixL, bitsL]
  · intro j h1 h2
    simp only [mixL, bitsL, List.getElem_map, List.getElem_range]
    rw [if_neg (by omega)]
theorem mix_at (N k : Nat) (h : k < 128) : (mixL N (k + 1))[k]? = some (bitV N k) := by
  rw [List.getElem?_eq_getElem (by rw [mix_len]; exact h)]
  simp only [mixL, List.getElem_map, List.getElem_range]
  rw [if_pos (by omega)]
def remN (N k : Nat) : Nat := N / 2 ^ k % 10
theorem div_swap (N k : Nat) : N / 10 / 2 ^ k = N / 2 ^ k / 10 := by rw [Nat.div_div_eq_div_mul, Nat.div_div_eq_div_mul, Nat.mul_comm]
theorem ten_step (N k : Nat) : (remN N (k + 1) * 2 + bitN N k) / 10 = bitN (N / 10) k ∧ (remN N (k + 1) * 2 + bitN N k) % 10 = remN N k := by
  have h := div_succ N k
  have hb := bit01 N k
  have e : bitN (N / 10) k = N / 2 ^ k / 10 % 2 := by unfold bitN; rw [div_swap]
  rw [e]
  unfold remN
  rw [h]
  generalize N / 2 ^ (k + 1) = M
  generalize bitN N k = b at *
  omega
theorem rem_lt (N k : Nat) : remN N k < 10 := Nat.mod_lt _ (by decide)
theorem again_step (N k : Nat) : (decide (0 < N / 10 / 2 ^ (k + 1)) || decide (0 < bitN (N / 10) k)) = decide (0 < N / 10 / 2 ^ k) := by
  have h := div_succ (N / 10) k
  rw [h]
  generalize N / 10 / 2 ^ (k + 1) = M
  generalize bitN (N / 10) k = b
  rw [Bool.eq_iff_iff]
  simp
  omega
def digB10 : ByteArray := { data := #[48, 49, 50, 51, 52, 53, 54, 55, 56, 57] }
theorem dig_cut (r : Nat) (h : r < 10) : digB10.extract r (r + 1) = ⟨#[UInt8.ofNat (48 + r)]⟩ := by
  match r, h with
  | 0, _ => rfl
  | 1, _ => rfl
  | 2, _ => rfl
  | 3, _ => rfl
  | 4, _ => rfl
  | 5, _ => rfl
  | 6, _ => rfl
  | 7, _ => rfl
  | 8, _ => rfl
  | 9, _ => rfl
theorem dig_add (r : Nat) (h : r < 10) (t : ByteArray) : (digB10.extract r (r + 1) ++ t).data.toList = UInt8.ofNat (48 + r) :: t.data.toList := by
  rw [dig_cut r h]; simp [ByteArray.data_append]
theorem dig_len (r : Nat) (h : r < 10) (t : ByteArray) : (digB10.extract r (r + 1) ++ t).size = t.size + 1 := by
  rw [dig_cut r h, ByteArray.size_append]
  show 1 + t.size = t.size + 1
  omega
theorem text_round (a N r : Nat) (t : ByteArray) (g : Bool) (hD : Lib.decDigits a = Lib.decDigits N ++ t.data.toList) (hg : decide (0 < N / 10 / 2 ^ 0) = g) (hr : remN N 0 = r) : Lib.decDigits a = if g then Lib.decDigits (N / 10) ++ (digB10.extract r (r + 1) ++ t).data.toList else (digB10.extract r (r + 1) ++ t).data.toList := by
  have hr10 : r < 10 := hr ▸ rem_lt N 0
  rw [dig_add r hr10, hD]
  have er : r = N % 10 := by rw [← hr]; unfold remN; simp
  have e0 : N / 10 / 2 ^ 0 = N / 10 := by simp
  rw [e0] at hg
  by_cases h : N < 10
  · rw [← hg, decide_eq_false (by omega), dec_small h, show r = N by omega]; rfl
  · rw [← hg, decide_eq_true (by omega), dec_big h, er]; simp
theorem text_less (a N : Nat) (t : ByteArray) (hD : Lib.decDigits a = Lib.decDigits N ++ t.data.toList) : t.size < (Lib.decDigits a).length := by
  rw [hD, List.length_append, len_size]
  have : 0 < (Lib.decDigits N).length := List.length_pos_iff.2 (dec_ne N)
  omega
theorem dec_39 (a : Nat) (h : a < B128) : (Lib.decDigits a).length ≤ 39 := by rw [Lib.decDigits_length]; exact nd_le 38 a (by unfold B128 at h; omega)
def strLen : Value → Nat
  | .string s => s.size
  | _ => 0

set_option maxRecDepth 100000 in
set_option maxHeartbeats 2000000 in
theorem rtext_any (a : Nat) (w : World) (ha : a < B128) :
    Calls Tryd.prog 24 #[.agg #[.int .u64 (hi a), .int .u64 (lo a)]] w fun e w' => ∃ s : ByteArray, e = .returned (.string s) ∧ s.data.toList = Lib.decDigits a ∧ Below w.heap.size w w' := by
  have LA := Lib.hid ha
  clear ha
  have a0 := new0 w (.int .u64 (hi a)) (.int .u64 (lo a)) rfl
  have a1 := new1 w (.int .u64 (hi a)) (.int .u64 (lo a)) rfl
  have HB0 := (Below.refl w.heap.size w).alloc (Nat.le_refl _) (.cells #[.int .u64 (hi a), .int .u64 (lo a)] 24)
  go_enter Tryd.func24, Tryd.ntmps24
  go_upto_region 1 with fail
  generalize w.alloc (.cells #[.int .u64 (hi a), .int .u64 (lo a)] 24) = X at *
  go_wp2_with (go_at_call 31; refine (bits_at a _ LA.out).mono ?_; rintro e w1 ⟨ga, ca, rfl, hg1, hg2, _, hown, hb1⟩; replace hown := Lib.hid (own_mono hown (show w.heap.size ≤ X.heap.size + 1 from Nat.le_succ_of_le HB0.size)))
  have hX := HB0.size
  have hga : w.heap.size ≤ ga := by omega
  replace HB0 := HB0.trans (hb1.mono HB0.size)
  clear hb1 a0 a1 hg1 hX
  go_loopw [4, 5] (fun v4 v5 wr => ∃ (N : Nat) (t : ByteArray) (g : Bool), v4 = .string t ∧ v5 = .bool g ∧ Hid (N < B128) ∧ Hid (Lib.decDigits a = if g then Lib.decDigits N ++ t.data.toList else t.data.toList) ∧ Hid (wr.ownsRow w.heap.size 3 1 (.slice (some ⟨ga, 0, none⟩) 128 ca) 128 (bitsL N 128)) ∧ Below w.heap.size w wr) (fun v4 _ _ => (Lib.decDigits a).length - strLen v4)
  case atStart => exact ⟨a, ⟨#[]⟩, true, rfl, rfl, LA, Lib.hid (by simp), hown, HB0⟩
  case round =>
    clear hown HB0 hg2
    obtain ⟨N, t, g, rfl, rfl, hNB, hD, hown, hB⟩ := hrel
    cases g with
    | false =>
      go_wp2
      go_ret
      exact ⟨t, rfl, by have := hD.out; simpa using this.symm, hB⟩
    | true =>
      replace hD : Hid (Lib.decDigits a = Lib.decDigits N ++ t.data.toList) := Lib.hid (by simpa using hD.out)
      go_wp2_with fail
      go_loopw [5, 6, 7] (fun v5 v6 v7 wr => ∃ k : Nat, k ≤ 128 ∧ v7 = .int .i64 ((k : Int) - 1) ∧ v6 = .int .i64 (remN N k : Int) ∧ v5 = .bool (decide (0 < N / 10 / 2 ^ k)) ∧ Hid (wr.ownsRow w.heap.size 3 1 (.slice (some ⟨ga, 0, none⟩) 128 ca) 128 (mixL N k)) ∧ Below w.heap.size w wr) (fun _ _ v7 _ => (intOf v7 + 1).toNat)
      case atStart =>
        refine ⟨128, by omega, rfl, ?_, ?_, Lib.hid (by rw [mix_top]; exact hown.out), hB⟩
        · have e : remN N 128 = 0 := by unfold remN; rw [pow128, Nat.div_eq_of_lt hNB.out]
          rw [e]; rfl
        · have e : N / 10 / 2 ^ 128 = 0 := by rw [pow128]; exact Nat.div_eq_of_lt (Nat.lt_of_le_of_lt (Nat.div_le_self N 10) hNB.out)
          rw [e]; rfl
      case round =>
        clear hown hB
        obtain ⟨k, hk, rfl, rfl, rfl, hown, hB⟩ := hrel
        cases k with
        | zero =>
          rw [show (((0 : Nat) : Int) - 1) = -1 from rfl]
          have hr := rem_lt N 0
          generalize hgg : decide (0 < N / 10 / 2 ^ 0) = gg
          generalize hrr : remN N 0 = r at *
          have HG := Lib.hid hgg
          have HR := Lib.hid hrr
          clear hgg hrr
          have h39 := dec_39 a LA.out
          have hls := text_less a N t hD.out
          have hlim : ¬ 9223372036854775807 < min (r + 1) 10 - r + t.size := by omega
          have HL := Lib.hid hls
          clear h39 hls
          go_wp2
          refine ⟨⟨N / 10, digB10.extract r (r + 1) ++ t, gg, rfl, rfl, Lib.hid (Nat.lt_of_le_of_lt (Nat.div_le_self N 10) hNB.out), Lib.hid (text_round a N r t gg hD.out HG.out HR.out), Lib.hid (by rw [← mix_zero]; exact hown.out), hB⟩, ?_⟩
          have hl := dig_len r hr t
          have hl2 := HL.out
          show (Lib.decDigits a).length - (digB10.extract r (r + 1) ++ t).size < (Lib.decDigits a).length - t.size
          rw [hl]; omega
        | succ k =>
          have e2 : ((k + 1 : Nat) : Int) - 1 = (k : Int) := by omega
          rw [e2]
          clear e2
          have hk' : (k : Int) < 128 := by omega
          have cA : wr.cell? ⟨ga, k, none⟩ = some (.int .i64 (bitN N k : Int)) := (hown.out.cellAt k (by omega)).trans (mix_at N k (by omega))
          have fA := hown.out.frozenAt k
          have hT := Lib.hid (ten_step N k)
          have hG := Lib.hid (again_step N k)
          have hr := rem_lt N (k + 1)
          have hb : bitN N k ≤ 1 := by rcases bit01 N k with h | h <;> omega
          generalize hgg : decide (0 < N / 10 / 2 ^ (k + 1)) = gg at *
          generalize hrr : remN N (k + 1) = r at *
          generalize hbb : bitN N k = b at *
          clear hgg hrr hbb
          cases gg
          · go_wp2_with fail
            refine ⟨⟨k, by omega, rfl, ?_, ?_, Lib.hid ?_, hB.setCell (p := ⟨ga, k, none⟩) hga _⟩, by simp [intOf]⟩
            · rw [← hT.out.2]; exact congrArg (Value.int .i64) (by omega)
            · rw [← hG.out, ← hT.out.1]; exact congrArg Value.bool (by simp; omega)
            · rw [← mix_step, bitV, ← hT.out.1]
              have e : (((r * 2 + b) / 10 : Nat) : Int) = ((r : Int) * 2 + b) / 10 := by omega
              rw [e]
              exact (hown.out.stored k _).1
          · go_wp2_with fail
            refine ⟨⟨k, by omega, rfl, ?_, ?_, Lib.hid ?_, hB.setCell (p := ⟨ga, k, none⟩) hga _⟩, by simp [intOf]⟩
            · rw [← hT.out.2]; exact congrArg (Value.int .i64) (by omega)
            · rw [← hG.out]; rfl
            · rw [← mix_step, bitV, ← hT.out.1]
              have e : (((r * 2 + b) / 10 : Nat) : Int) = ((r : Int) * 2 + b) / 10 := by omega
              rw [e]
              exact (hown.out.stored k _).1
end Go.Proofs.YtdlijnkbpnhpoaaDoor
