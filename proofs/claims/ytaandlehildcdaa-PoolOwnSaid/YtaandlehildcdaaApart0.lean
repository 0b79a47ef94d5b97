/-
  Two lists that are none lie apart; a pool without nodes has no roots. No condition but those typed at each theorem.
-/
import Derived.Test.YtaandlehildcdaaApart
namespace Go.Proofs.Ytaandlehildcdaa
open Go.RowKit

set_option maxRecDepth 100000 in
set_option maxHeartbeats 1600000 in
theorem Roots_none (w : World) (P : Nat) (v1 v2 : Value) (most : Int) (h : PO w P v1 v2 most []) :
    Calls Try.prog 23 #[.pointer (some ⟨P, 0, none⟩)] w fun e w' => e = .returned (.slice none 0 0) ∧ w' = w := by
  obtain ⟨-, p2, c2, rfl, -⟩ := row_yn h.ts
  have HM := Lib.hid (made_yes w P v1 _ most [] h)
  have k3 := h.c3
  clear h
  simp only [List.length_nil] at k3
  go_enter Try.func23, Try.ntmps23
  go_wp2_with (go_at_call 35; (with_reducible refine HM.out.mono ?_); rintro e w1 ⟨rfl, rfl⟩)
  go_loopw [3, 14] (fun v i wr => v = .slice none 0 0 ∧ i = .int .i64 0 ∧ wr = w1) (fun _ _ _ => 0)
  case atStart => exact ⟨rfl, rfl, rfl⟩
  case round =>
    obtain ⟨rfl, rfl, rfl⟩ := hrel
    go_wp2
    go_ret
    exact ⟨rfl, rfl⟩

set_option maxRecDepth 100000 in
set_option maxHeartbeats 3200000 in
theorem apart_nil (w : World) (S : Nat) (h0 : w.cell? ⟨S, 0, none⟩ = some (.slice none 0 0)) (h1 : w.cell? ⟨S, 1, none⟩ = some (.slice none 0 0)) :
    Calls Try.prog 29 #[.slice (some ⟨S, 0, none⟩) 2 2] w fun e w' => e = .returned (.bool true) ∧ Off [] w w' := by
  have hS : ∀ k, k < 2 → w.cell? ⟨S, k, none⟩ = some (.slice none 0 0) := fun k hk => by
    have : k = 0 ∨ k = 1 := by omega
    rcases this with rfl | rfl
    · exact h0
    · exact h1
  have HS := Lib.hid hS
  clear h0 h1 hS
  have hss : ∀ X, (Instr.slice 43 (.slice none 0 0) none (some (.int .i64 0)) none).run Try.prog X = .ok (.slice none 0 0) X := by
    intro X
    obtain ⟨j0, hj, hy0, hy1, hy2⟩ := info_parts Try.info3
    simp [Instr.slice, run_underlying Try.underlying43, Instr.sliceBounds, Instr.sliceBound, asIntOf, sizeOf, typeInfo, hj]
  go_enter Try.func29, Try.ntmps29
  go_upto_block 0 with fail
  go_cut [3] (fun v3 wx => Hid (wx.ownsRow 0 43 1 v3 2 (List.replicate 2 (.slice none 0 0))) ∧ Hid (Off [] w wx))
  case first =>
    go_wp2_with fail
    go_loopw [3, 4] (fun v3 v4 wr => ∃ k : Nat, k ≤ 2 ∧ v4 = .int .i64 k ∧ Hid (wr.ownsRow 0 43 1 v3 k (List.replicate k (.slice none 0 0))) ∧ Hid (Off [] w wr) ∧ Hid (∀ q, v3.ownBlock = some q → w.heap.size ≤ q)) (fun _ v4 _ => 2 - (intOf v4).toNat)
    case atStart => exact ⟨0, Nat.zero_le _, rfl, Lib.hid (World.ownsRow_nil _ _ _ _), Lib.hid (Off.refl _ _), Lib.hid (fun q hq => by cases hq)⟩
    case round =>
      rename_i v3 v4
      obtain ⟨k, hk, rfl, HR, HO, HV⟩ := hrel
      by_cases hlt : k < 2
      · have hltz : (k : Int) < 2 := by omega
        have hcS : wr.cell? ⟨S, k, none⟩ = some (.slice none 0 0) := HO.out.cell (HS.out k hlt) (by simp)
        go_upto_region 5 with fail
        go_cut [3] (fun v3 wx => ∃ g cap, v3 = .slice (some ⟨g, 0, none⟩) (k + 1) cap ∧ Hid (wx.ownsRow 0 43 1 (.slice (some ⟨g, 0, none⟩) (k + 1) cap) (k + 1) (List.replicate (k + 1) (.slice none 0 0))) ∧ Hid (Off [] w wx) ∧ Hid (w.heap.size ≤ g))
        case first =>
          have HOA := Lib.hid (HR.out.alloc (.cells #[.slice none 0 0] 43))
          have hsz : w.heap.size ≤ wr.heap.size := HO.out.size
          go_region_law ((refine step_more Try.info43 rfl (by decide) (by decide) Try.underlying67 rfl (.tmp 14) (.tmp 25) rfl u3 k (List.replicate k (.slice none 0 0)) (by simp [Act.eval]) (by exact HOA.out) ⟨wr.heap.size, 0, none⟩ 1 1 [.slice none 0 0] (by simp [Act.eval]) rfl (one_at wr _ _) (by simp [Value.oneCell']) (by omega) (by omega) ?_; intro g cap w' r1 r2 r3; have HG1 := Lib.hid r1; have HG2 := Lib.hid ((World.grownBy_alloc wr _ _).trans (grown_drew r2)); have HG3 := Lib.hid r3; clear r1 r2 r3))
          all_goals go_wp2_with fail
          all_goals go_meet
          all_goals (
            refine ⟨g, cap, rfl, Lib.hid ?_, Lib.hid (HO.out.grow HG2.out (fun q hq => .inr (HV.out q hq))), Lib.hid ?_⟩
            · rw [List.replicate_succ']
              exact HG1.out
            · rcases HG3.out with h | h
              · exact HV.out _ h
              · rw [h]; simp; omega)
        case rest =>
          obtain ⟨g, cap, rfl, HR2, HO2, HG⟩ := hcut
          have hrc := (row_cells HR2.out (j := k) (u := .slice none 0 0) (by rw [List.getElem?_replicate, if_pos (by omega)])).1
          clear HR HO hcS HV hss
          go_wp2_with fail
          go_loopw [5] (fun v5 wr2 => v5 = .int .i64 0 ∧ wr2 = wc) (fun _ _ => 0)
          case atStart => exact ⟨rfl, rfl⟩
          case round =>
            obtain ⟨rfl, rfl⟩ := hrel
            go_wp2
            go_roundw
            case rel => exact ⟨k + 1, by omega, by go_num, HR2, HO2, Lib.hid (fun q hq => by simp [Value.ownBlock] at hq; subst hq; exact HG.out)⟩
            case measure => simp [intOf]; omega
      · have hltz : ¬ (k : Int) < 2 := by omega
        obtain rfl : k = 2 := by omega
        go_wp2_with fail
        go_meet
        exact ⟨HR, HO⟩
  case rest =>
    obtain ⟨HR, HO⟩ := hcut
    have hvl : ∃ g c2, u3 = .slice (some ⟨g, 0, none⟩) 2 c2 := by
      rcases HR.out.2 with ⟨h1, h2⟩ | ⟨g, cap, cur, h1, -⟩
      · omega
      · exact ⟨_, _, h1⟩
    obtain ⟨g, c2, rfl⟩ := hvl
    clear hss
    go_wp2_with fail
    go_loopw [6] (fun v6 wr => ∃ k : Nat, k ≤ 2 ∧ v6 = .int .i64 k ∧ wr = wc) (fun v6 _ => 2 - (intOf v6).toNat)
    case atStart => exact ⟨0, Nat.zero_le _, rfl, rfl⟩
    case round =>
      obtain ⟨k, hk, rfl, rfl⟩ := hrel
      by_cases hlt : k < 2
      · have hltz : (k : Int) < 2 := by omega
        have hrc := (row_cells HR.out (j := k) (u := .slice none 0 0) (by rw [List.getElem?_replicate, if_pos (by omega)])).1
        go_wp2_with fail
        go_loopw [7] (fun v7 wx => v7 = .int .i64 0 ∧ wx = wr) (fun _ _ => 0)
        case atStart => exact ⟨rfl, rfl⟩
        case round =>
          obtain ⟨rfl, rfl⟩ := hrel
          go_wp2
          go_roundw
          case rel => exact ⟨k + 1, by omega, by go_num, by trivial⟩
          case measure => simp [intOf]; omega
      · have hltz : ¬ (k : Int) < 2 := by omega
        go_wp2
        go_ret
        exact ⟨rfl, HO.out⟩
end Go.Proofs.Ytaandlehildcdaa
