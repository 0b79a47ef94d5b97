/-
  pool.Right. No condition but those typed at each theorem.
-/
import Derived.Test.YtjobfpnlpfjoeaaPool2
namespace Go.Proofs.Ytjobfpnlpfjoeaa
open Go.RowKit

theorem mkB (w : World) (l c : Nat) (hlc : l ≤ c) (hc : c ≤ 100000) : (Instr.makeSlice 44 (.int .i64 l) (.int .i64 c)).run Try.prog w = .ok (.slice (some ⟨w.heap.size, 0, none⟩) l c) (w.alloc (.cells (madeCells #[.bool false] c) 4)) := by
  obtain ⟨i0, hi, hz0, hz1, hz2⟩ := info_parts Try.info4
  have := run_make (P := Try.prog) w 44 4 i0 (.bool false) Try.underlying44 hi hz0 .i64 .i64 l c (by omega) (by omega) (by rw [hz2]; omega) (by omega)
  rw [this, hz1]
  simp
  rfl
theorem mkI (w : World) (l c : Nat) (hlc : l ≤ c) (hc : c ≤ 100000) : (Instr.makeSlice 25 (.int .i64 l) (.int .i64 c)).run Try.prog w = .ok (.slice (some ⟨w.heap.size, 0, none⟩) l c) (w.alloc (.cells (madeCells #[.int .i64 0] c) 3)) := by
  obtain ⟨i0, hi, hz0, hz1, hz2⟩ := info_parts Try.info3
  have := run_make (P := Try.prog) w 25 3 i0 (.int .i64 0) Try.underlying25 hi hz0 .i64 .i64 l c (by omega) (by omega) (by rw [hz2]; omega) (by omega)
  rw [this, hz1]
  simp
  rfl
/-- whose kids these are, in a block from this one on -/
def TR (w0 wr : World) (v : Value) (k : Nat) (N : List Nd) : Prop := wr.ownsRow 0 4 1 v k ((tk N).map Value.bool) ∧ (∀ b, v.ownBlock = some b → w0.heap.size ≤ b) ∧ Below w0.heap.size w0 wr
theorem rt_step {ns : List Nd} {k : Nat} {n : Nd} (e : ns[k]? = some n) (h : Rt (ns.take k)) (hm : mayB (ns.take k) n = true) : Rt (ns.take (k + 1)) := by
  rw [List.take_add_one, e]
  exact h.snoc hm
theorem rt_not {ns : List Nd} {k : Nat} {n : Nd} (e : ns[k]? = some n) (hm : mayB (ns.take k) n = false) : rtB ns = false := by
  rw [Bool.eq_false_iff]
  intro h
  have := (rtB_iff ns).1 h k n e
  rw [this] at hm
  cases hm

set_option maxRecDepth 100000 in
set_option maxHeartbeats 3200000 in
theorem Right_any (w : World) (p : Option Addr) (c : Nat) (ns : List Nd) (hx : NdS w p ns) (hl : ns.length ≤ 8192) :
    Calls Try.prog 16 #[.slice p ns.length c] w fun e w' => e = .returned (.bool (rtB ns)) ∧ Below w.heap.size w w' := by
  have HX := Lib.hid hx
  obtain ⟨d, hd⟩ : ∃ d, d = ns.length := ⟨_, rfl⟩
  have HD := Lib.hid hd
  obtain ⟨res, hres⟩ : ∃ r, r = rtB ns := ⟨_, rfl⟩
  have HR := Lib.hid hres
  rw [← hd] at hl
  rw [← hd, ← hres]
  clear hd hx hres
  have hmk : ∀ w : World, (Instr.makeSlice 44 (.int .i64 0) (.int .i64 d)).run Try.prog w = .ok (.slice (some ⟨w.heap.size, 0, none⟩) 0 d) (w.alloc (.cells (madeCells #[.bool false] d) 4)) := fun w => mkB w 0 d (Nat.zero_le _) (by omega)
  go_enter Try.func16, Try.ntmps16
  go_wp2
  go_loopw [3, 11] (fun v i wr => ∃ k : Nat, k ≤ d ∧ i = .int .i64 k ∧ Hid (Rt (ns.take k)) ∧ Hid (TR w wr v k (ns.take k))) (fun _ i _ => d - (intOf i).toNat)
  case atStart =>
    refine ⟨0, Nat.zero_le _, rfl, Lib.hid (by rw [List.take_zero]; exact Rt.nil), Lib.hid ⟨?_, ?_, (Below.refl _ w).alloc (Nat.le_refl _) _⟩⟩
    · rw [List.take_zero]
      exact World.ownsRow_made w _ d (Nat.zero_le _) (by simp [maxLen]; omega) (by rw [size_madeCells]; omega)
    · intro b hb
      simp [Value.ownBlock] at hb
      omega
  case round =>
    rename_i v i
    obtain ⟨k, hk, rfl, HRT, HTR⟩ := hrel
    clear hmk
    by_cases hlt : k < d
    · have hltz : (k : Int) < d := by omega
      obtain ⟨n, hne⟩ : ∃ n, ns[k]? = some n := ⟨_, List.getElem?_eq_getElem (by have := HD.out; omega)⟩
      obtain ⟨b, off, rfl, h1⟩ := HX.out.at hne
      have hlk : (ns.take k).length = k := by rw [List.length_take]; have := HD.out; omega
      obtain ⟨hrow, hbl, hB⟩ := HTR.out
      have hn1 := h1.keep hB h1.lt
      have n0 := hn1.c0
      have n1 := hn1.c1
      have n2 := hn1.c2
      have n3 := hn1.c3
      have n4 := hn1.c4
      have n5 := hn1.c5
      have n6 := hn1.c6
      obtain ⟨-, p2, c2, rfl, hY⟩ := row_yn hrow
      have HF := Lib.hid (fun o => by
        have := fits_any n (wr.alloc o) p2 c2 (tk (ns.take k)) (hY.keep ((Below.refl _ wr).alloc (Nat.le_refl _) o))
        rw [fits_may, tk_len, hlk] at this
        exact this)
      have HTK : Hid (mayB (ns.take k) n = true → ∀ (X : World), Below wr.heap.size wr X → Calls Try.prog 32 #[nv n, .slice p2 k c2] X fun e w' => ∃ g cap, e = .returned (.slice (some ⟨g, 0, none⟩) (k + 1) cap) ∧ TR w w' (.slice (some ⟨g, 0, none⟩) (k + 1) cap) (k + 1) (ns.take (k + 1))) := Lib.hid (fun hm X hX => by
        have h2 := row_at (base' := 0) hrow (w' := X) (fun q hq => ⟨hX.block q (hrow.lt q hq).2, Nat.zero_le _⟩)
        have := take_any n X (.slice p2 k c2) (tk (ns.take k)) (by rw [tk_len, hlk]; exact h2) (fun x hx => by have := may_kid hm hx; rw [tk_len]; omega) (by rw [tk_len, hlk]; omega)
        rw [tk_len, hlk, take_tk HRT.out hm] at this
        refine this.mono ?_
        rintro e w' ⟨g, cap, rfl, t1, t2, t3⟩
        have hsX := hX.size
        have hsw := hB.size
        have hcur := hX.mono hB.size
        refine ⟨g, cap, rfl, ?_, ?_, ?_⟩
        · rw [List.take_add_one, hne]
          exact t1
        · intro q hq
          simp [Value.ownBlock] at hq
          subst hq
          rcases t3 with h | h
          · exact hbl _ h
          · omega
        · refine (hB.trans hcur).trans (t2.below (N := w.heap.size) (by omega) (fun q hq => hbl q (by simpa [Option.mem_toList] using hq))))
      have HNE := Lib.hid hne
      have HRN : Hid (mayB (ns.take k) n = true → Rt (ns.take (k + 1))) := Lib.hid (fun hm => rt_step hne HRT.out hm)
      have HRF : Hid (mayB (ns.take k) n = false → rtB ns = false) := Lib.hid (fun hm => rt_not hne hm)
      have HB := Lib.hid hB
      obtain ⟨N1', hN1'⟩ : ∃ x, x = n := ⟨_, rfl⟩
      obtain ⟨kk, L, R, f, t, a, q⟩ := n
      clear hN1' hne h1 hlk hrow hbl hB hn1 hY
      simp only at n0 n1 n2 n3 n4 n5 n6
      cases hm : mayB (ns.take k) (kk, L, R, f, t, a, q)
      · rw [hm] at HF
        have hres := HRF.out hm
        clear hm HRN HTK
        unfold nv at HF
        go_wp2_with (go_at_call 31; (with_reducible refine (HF.out _).mono ?_); rintro e w1 ⟨rfl, hb⟩; have HB1 := Lib.hid hb; clear hb)
        go_ret
        exact ⟨retb (by rw [HR.out, hres]), (HB.out.trans ((Below.refl _ wr).alloc HB.out.size _)).trans (HB1.out.mono (by have := HB.out.size; simp; omega))⟩
      · rw [hm] at HF
        have HT := Lib.hid (HTK.out hm)
        have HRN2 := Lib.hid (HRN.out hm)
        clear hm HRN HTK HRF
        have HBX := Lib.hid (fun o => (Below.refl _ wr).alloc (Nat.le_refl _) o)
        have HBN := Lib.hid (N1.new wr (kk, L, R, f, t, a, q) 36)
        unfold nv at HF HT
        unfold nvs at HBN
        go_wp2_with (first
          | (go_at_call 31; (with_reducible refine (HF.out _).mono ?_); rintro e w1 ⟨rfl, hb⟩
             have hq := HBN.out.keep hb (by simp)
             have m0 := hq.c0
             have m1 := hq.c1
             have m2 := hq.c2
             have m3 := hq.c3
             have m4 := hq.c4
             have m5 := hq.c5
             have m6 := hq.c6
             simp only [Nat.zero_add] at m0 m1 m2 m3 m4 m5 m6
             have HB1 := Lib.hid ((HBX.out _).trans (hb.mono (by simp)))
             clear hb hq)
          | (go_at_call 32; (with_reducible refine (HT.out _ HB1.out).mono ?_); rintro e w2 ⟨g, cap, rfl, hT⟩; have HT2 := Lib.hid hT; clear hT))
        go_roundw
        case rel => exact ⟨k + 1, by omega, by go_num, HRN2, HT2⟩
        case measure => simp [intOf]; omega
    · have hltz : ¬ (k : Int) < d := by omega
      obtain rfl : k = d := by omega
      have hrt := HRT.out
      rw [List.take_of_length_le (by have := HD.out; omega)] at hrt
      have HRR := Lib.hid ((rtB_iff ns).2 hrt)
      clear hrt
      go_wp2
      go_ret
      exact ⟨retb (by rw [HR.out, HRR.out]), HTR.out.2.2⟩
end Go.Proofs.Ytjobfpnlpfjoeaa
