/-
  The document's Right, Roots, Height of nodes. No condition but those typed at each theorem.
-/
import Derived.Test.YtjobfpnlpfjoeaaRefA
import Derived.Test.YtjobfpnlpfjoeaaRight
namespace Go.Proofs.Ytjobfpnlpfjoeaa
open Go.RowKit

theorem slN_to (X : World) (p : Option Addr) (n c h : Nat) (hm : h ≤ c) : (Instr.slice 22 (.slice p n c) none (some (.int .i64 h)) none).run Try.prog X = .ok (.slice p h c) X := by
  obtain ⟨i0, hi, hz0, hz1, hz2⟩ := info_parts Try.info36
  simp [Instr.slice, run_underlying Try.underlying22, Instr.sliceBounds, Instr.sliceBound, asIntOf, sizeOf, typeInfo, hi, hm]
  cases p <;> simp [Addr.add_zero']

set_option maxRecDepth 100000 in
set_option maxHeartbeats 3200000 in
theorem RRight (w : World) (p : Option Addr) (c : Nat) (N : List Nd) (hx : NdS w p N) (hl : N.length ≤ 8192) (hc : N.length ≤ c) :
    Calls Try.prog 37 #[.slice p N.length c] w fun e w' => e = .returned (.bool (rtB N)) ∧ Below w.heap.size w w' := by
  have HX := Lib.hid hx
  obtain ⟨d, hd⟩ : ∃ d, d = N.length := ⟨_, rfl⟩
  have HD := Lib.hid hd
  obtain ⟨res, hres⟩ : ∃ r, r = rtB N := ⟨_, rfl⟩
  have HR := Lib.hid hres
  rw [← hd] at hl hc
  rw [← hd, ← hres]
  clear hd hx hres
  go_enter Try.func37, Try.ntmps37
  go_wp2
  go_loopw [3] (fun v wr => ∃ k : Nat, k ≤ d ∧ v = .int .i64 k ∧ Hid (Rt (N.take k)) ∧ Hid (Below w.heap.size w wr)) (fun v _ => d - (intOf v).toNat)
  case atStart => exact ⟨0, Nat.zero_le _, rfl, Lib.hid (by rw [List.take_zero]; exact Rt.nil), Lib.hid (Below.refl _ w)⟩
  case round =>
    obtain ⟨k, hk, rfl, HRT, HB⟩ := hrel
    by_cases hlt : k < d
    · have hltz : (k : Int) < d := by omega
      obtain ⟨n, hne⟩ : ∃ n, N[k]? = some n := ⟨_, List.getElem?_eq_getElem (by have := HD.out; omega)⟩
      have hlk : (N.take k).length = k := by rw [List.length_take]; have := HD.out; omega
      have HM := Lib.hid (fun X (hX : Below w.heap.size w X) => by
        have := RMay X p c (N.take k) n ((HX.out.keep hX).take k) (by omega)
        rw [hlk] at this
        exact this)
      obtain ⟨b, off, rfl, h1⟩ := HX.out.at hne
      have h2 := h1.keep HB.out h1.lt
      have n0 := h2.c0
      have n1 := h2.c1
      have n2 := h2.c2
      have n3 := h2.c3
      have n4 := h2.c4
      have n5 := h2.c5
      have n6 := h2.c6
      have hsl : ∀ X : World, (Instr.slice 22 (.slice (some ⟨b, off, none⟩) d c) none (some (.int .i64 k)) none).run Try.prog X = .ok (.slice (some ⟨b, off, none⟩) k c) X := fun X => slN_to X _ d c k (by omega)
      have HRN : Hid (mayB (N.take k) n = true → Rt (N.take (k + 1))) := Lib.hid (fun hm => rt_step hne HRT.out hm)
      have HRF : Hid (mayB (N.take k) n = false → rtB N = false) := Lib.hid (fun hm => rt_not hne hm)
      clear h1 h2 hne hlk
      obtain ⟨kk, L, R, f, t, a, q⟩ := n
      simp only at n0 n1 n2 n3 n4 n5 n6
      unfold nv at HM
      dsimp only at HM
      cases hm : mayB (N.take k) (kk, L, R, f, t, a, q)
      · have hres := HRF.out hm
        rw [hm] at HM
        clear hm HRN HRF
        go_upto_region 4 with fail
        refine wp_region_tail 7 (by kernel_rfl) (by kernel_rfl) ?_
        simp only [List.take_succ_cons, List.take_zero, List.drop_succ_cons, List.drop_zero]
        repeat still_step
        refine wpStill_nil ?_
        go_wp2_with (go_at_call 40; (with_reducible refine (HM.out _ HB.out.drew).mono ?_); rintro e w3 ⟨rfl, hb⟩; have HB3 := Lib.hid (undrew hb); clear hb)
        go_ret
        exact ⟨retb (by rw [HR.out, hres]), HB.out.trans (HB3.out.mono HB.out.size)⟩
      · have hrt := Lib.hid (HRN.out hm)
        rw [hm] at HM
        clear hm HRN HRF
        go_upto_region 4 with fail
        refine wp_region_tail 7 (by kernel_rfl) (by kernel_rfl) ?_
        simp only [List.take_succ_cons, List.take_zero, List.drop_succ_cons, List.drop_zero]
        repeat still_step
        refine wpStill_nil ?_
        go_wp2_with (go_at_call 40; (with_reducible refine (HM.out _ HB.out.drew).mono ?_); rintro e w3 ⟨rfl, hb⟩; have HB3 := Lib.hid (undrew hb); clear hb)
        go_roundw
        case rel => exact ⟨k + 1, by omega, by go_num, hrt, Lib.hid (HB.out.trans (HB3.out.mono HB.out.size))⟩
        case measure => simp [intOf]; omega
    · obtain rfl : k = d := by omega
      have hltz : ¬ (k : Int) < k := by omega
      go_wp2
      go_ret
      refine ⟨retb ?_, HB.out⟩
      have h := HRT.out
      rw [HD.out, List.take_length] at h
      rw [HR.out, (rtB_iff N).2 h]

end Go.Proofs.Ytjobfpnlpfjoeaa
