/-
  gridironlow's Nodes: whether two lists of nodes are the same; the law's leaf, inner, kids. No condition but those typed at each theorem.
-/
import Derived.Test.YtaandlehildcdaaHeight
namespace Go.Proofs.Ytaandlehildcdaa
open Go.RowKit

def leafN : Nd := (1, -1, -1, 0, 0, 0, 0)
def innerN (l r : Int) : Nd := (2, l, r, 0, 0, 0, 0)

set_option maxRecDepth 100000 in
theorem leaf_any (w : World) : Calls Try.prog 26 #[] w fun e w' => e = .returned (nv leafN) ∧ Off [] w w' := by
  unfold leafN nv
  go_enter Try.func26, Try.ntmps26
  go_wp2
  refine bodyPost_ret (v := .agg #[.int .u8 1, .int .i64 (-1), .int .i64 (-1), .int .i64 0, .int .i64 0, .int .i64 0, .int .i64 0]) ?_ rfl ⟨rfl, (Off.refl _ w).all _⟩
  simp [results, Try.f26, go_sem]
set_option maxRecDepth 100000 in
theorem inner_any (w : World) (l r : Int) : Calls Try.prog 27 #[.int .i64 l, .int .i64 r] w fun e w' => e = .returned (nv (innerN l r)) ∧ Off [] w w' := by
  unfold innerN nv
  go_enter Try.func27, Try.ntmps27
  go_wp2
  refine bodyPost_ret (v := .agg #[.int .u8 2, .int .i64 l, .int .i64 r, .int .i64 0, .int .i64 0, .int .i64 0, .int .i64 0]) ?_ rfl ⟨rfl, (Off.refl _ w).all _⟩
  simp [results, Try.f27, go_sem]

/-- the kids' places, as far as the first, or both, are gone through -/
def ksP (L R : Int) : Nat → List Int
  | 0 => []
  | 1 => if L = -1 then [] else [L]
  | _ => (if L = -1 then [] else [L]) ++ (if R = -1 then [] else [R])
theorem ksP_len (L R : Int) (k : Nat) : (ksP L R k).length ≤ 2 := by
  match k with
  | 0 => simp [ksP]
  | 1 => by_cases h : L = -1 <;> simp [ksP, h]
  | k + 2 => by_cases h : L = -1 <;> by_cases h2 : R = -1 <;> simp [ksP, h, h2]

theorem ix0 (X : World) (a b : Int) : (Instr.index 66 (.agg #[.int .i64 a, .int .i64 b]) (.int .i64 0)).run Try.prog X = .ok (.int .i64 a) X := by
  obtain ⟨i0, hi, hz0, hz1, hz2⟩ := info_parts Try.info3
  simp [Instr.index, asIntOf, run_underlying Try.underlying66, part, sizeOf, typeInfo, hi, hz1]
theorem ix1 (X : World) (a b : Int) : (Instr.index 66 (.agg #[.int .i64 a, .int .i64 b]) (.int .i64 1)).run Try.prog X = .ok (.int .i64 b) X := by
  obtain ⟨i0, hi, hz0, hz1, hz2⟩ := info_parts Try.info3
  simp [Instr.index, asIntOf, run_underlying Try.underlying66, part, sizeOf, typeInfo, hi, hz1]

set_option maxRecDepth 100000 in
set_option maxHeartbeats 1600000 in
theorem lkids_any (w : World) (n : Nd) : Calls Try.prog 25 #[nv n] w fun e w' => ∃ v, e = .returned v ∧ w'.ownsRow w.heap.size 3 1 v (ksL n).length ((ksL n).map (Value.int .i64)) ∧ Below w.heap.size w w' := by
  obtain ⟨k, L, R, f, t, a, q⟩ := n
  unfold nv
  obtain ⟨ks, hks⟩ : ∃ ks, ks = ksL (k, L, R, f, t, a, q) := ⟨_, rfl⟩
  have HKS := Lib.hid hks
  rw [← hks]
  clear hks
  have q0 := ix0
  have q1 := ix1
  go_enter Try.func25, Try.ntmps25
  go_wp2
  go_loopw [3, 11] (fun v i wr => ∃ k : Int, (k = 0 ∨ k = 1 ∨ k = 2) ∧ i = .int .i64 k ∧ Hid (wr.ownsRow w.heap.size 3 1 v (ksP L R k.toNat).length ((ksP L R k.toNat).map (Value.int .i64))) ∧ Hid (Below w.heap.size w wr)) (fun _ i _ => 2 - (intOf i).toNat)
  case atStart => exact ⟨0, .inl rfl, rfl, Lib.hid (World.ownsRow_nil _ _ _ _), Lib.hid ((Below.refl _ w).alloc (Nat.le_refl _) _)⟩
  case round =>
    rename_i v i
    obtain ⟨k2, hk3, rfl, HR, HB⟩ := hrel
    rcases hk3 with rfl | rfl | rfl
    · by_cases hL : L = -1
      · subst hL
        go_wp2
        go_roundw
        case rel => exact ⟨1, .inr (.inl rfl), by go_num, Lib.hid (by simpa [ksP] using HR.out), HB⟩
        case measure => simp [intOf]
      · have HA := Lib.hid (HR.out.alloc (.cells #[.int .i64 L] 3))
        go_wp2_with (at_builtin; refine wpList_list Try.info3 rfl (by decide) (by decide) Try.underlying43 _ rfl (.tmp 16) (.tmp 18) rfl w.heap.size _ _ _ rfl HA.out (some ⟨wr.heap.size, 0, none⟩) 1 1 [.int .i64 L] rfl rfl (.inr ⟨_, rfl, one_at _ _ _⟩) (by simp [Value.oneCell']) (Nat.le_trans (Nat.add_le_add_right (ksP_len L R _) 1) (by decide)) (by have := HB.out.size; simp; omega) ?_; intro v' w' h1 h2 _; have H1 := Lib.hid h1; have H2 := Lib.hid h2; clear h1 h2)
        go_roundw
        case rel =>
          refine ⟨1, .inr (.inl rfl), by go_num, Lib.hid ?_, Lib.hid ?_⟩
          · simpa [ksP, hL] using H1.out
          · exact (HB.out.trans ((Below.refl _ wr).alloc HB.out.size (.cells #[.int .i64 L] 3))).grown H2.out (by have := HB.out.size; simp; omega) (fun q hq => (HR.out.lt q hq).1)
        case measure => simp [intOf]
    · by_cases hR : R = -1
      · subst hR
        go_wp2
        go_roundw
        case rel => exact ⟨2, .inr (.inr rfl), by go_num, Lib.hid (by simpa [ksP] using HR.out), HB⟩
        case measure => simp [intOf]
      · have HA := Lib.hid (HR.out.alloc (.cells #[.int .i64 R] 3))
        go_wp2_with (at_builtin; refine wpList_list Try.info3 rfl (by decide) (by decide) Try.underlying43 _ rfl (.tmp 16) (.tmp 18) rfl w.heap.size _ _ _ rfl HA.out (some ⟨wr.heap.size, 0, none⟩) 1 1 [.int .i64 R] rfl rfl (.inr ⟨_, rfl, one_at _ _ _⟩) (by simp [Value.oneCell']) (Nat.le_trans (Nat.add_le_add_right (ksP_len L R _) 1) (by decide)) (by have := HB.out.size; simp; omega) ?_; intro v' w' h1 h2 _; have H1 := Lib.hid h1; have H2 := Lib.hid h2; clear h1 h2)
        go_roundw
        case rel =>
          refine ⟨2, .inr (.inr rfl), by go_num, Lib.hid ?_, Lib.hid ?_⟩
          · simpa [ksP, hR] using H1.out
          · exact (HB.out.trans ((Below.refl _ wr).alloc HB.out.size (.cells #[.int .i64 R] 3))).grown H2.out (by have := HB.out.size; simp; omega) (fun q hq => (HR.out.lt q hq).1)
        case measure => simp [intOf]
    · go_wp2
      go_ret
      exact ⟨_, rfl, by rw [HKS.out]; exact HR.out, HB.out⟩
end Go.Proofs.Ytaandlehildcdaa
