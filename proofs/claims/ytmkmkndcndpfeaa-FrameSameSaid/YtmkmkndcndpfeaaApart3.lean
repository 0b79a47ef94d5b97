/-
  Of an empty range nothing is told; three lists lie apart, whether or not they are none. No condition but those typed at each theorem.
-/
import Derived.Test.YtmkmkndcndpfeaaApart
import Derived.Test.YtmkmkndcndpfeaaFc
namespace Go.Proofs.Ytmkmkndcndpfeaa
open Go.RowKit

set_option maxRecDepth 100000 in
theorem FCanon_nil (w : World) (B n : Nat) (d : Int) (pp : Value) (h : FR w B n d pp) (x : Nat) (hx : x ≤ n) :
    Calls Try.prog 12 #[.pointer (some ⟨B, 0, none⟩), .int .i64 x, .int .i64 x] w fun e w' => e = .returned (.tuple #[.slice none 0 0, .int .i64 0, .int .i64 0]) ∧ w' = w := by
  have HM := Lib.hid (fmade_yes w B n d pp h)
  have c4 := h.c4
  have h1 : ¬ (x : Int) < 0 := by omega
  have h3 : ¬ (n : Int) < (x : Int) := by omega
  clear h
  go_enter Try.func12, Try.ntmps12
  go_wp2_with (go_at_call 30; (with_reducible refine HM.out.mono ?_); rintro e w1 ⟨rfl, rfl⟩)
  refine bodyPost_ret (v := .tuple #[.slice none 0 0, .int .i64 0, .int .i64 0]) ?_ rfl ⟨rfl, rfl⟩
  simp [results, Try.f12, go_sem]

theorem apart_3 (w : World) (g1 c1 g2 c2 g3 c3 r : Nat) (L1 L2 L3 : List Value) (h1 : EV 3 w g1 L1) (hl1 : L1.length = c1) (h2 : EV 3 w g2 L2) (hl2 : L2.length = c2) (h3 : EV 3 w g3 L3) (hl3 : L3.length = c3) (h12 : g1 < g2) (h23 : g2 < g3) (hr1 : r ≤ c1) (hr2 : r ≤ c2) (hr3 : r ≤ c3) (hm1 : c1 ≤ maxLen) (hm2 : c2 ≤ maxLen) (hm3 : c3 ≤ maxLen) :
    Calls Try.prog 28 #[.slice (some ⟨w.heap.size, 0, none⟩) 3 3] (w.alloc (.cells #[.slice (some ⟨g1, 0, none⟩) r c1, .slice (some ⟨g2, 0, none⟩) r c2, .slice (some ⟨g3, 0, none⟩) r c3] 29)) fun e w' => e = .returned (.bool true) ∧ Off [g1, g2, g3] w w' := by
  have hmx : maxLen = 9223372036854775807 := rfl
  have l1 := h1.lt
  have l2 := h2.lt
  have l3 := h3.lt
  refine (apart_any (w.alloc (.cells #[.slice (some ⟨g1, 0, none⟩) r c1, .slice (some ⟨g2, 0, none⟩) r c2, .slice (some ⟨g3, 0, none⟩) r c3] 29)) w.heap.size [(g1, c1), (g2, c2), (g3, c3)] [(g1, r, c1), (g2, r, c2), (g3, r, c3)] (by simp; omega) rfl ?_ (by simp; omega) ?_ (by simp) ?_).mono ?_
  · intro j b l e1 e2
    match j with
    | 0 => cases e1; cases e2; exact ⟨rfl, rfl, hr1, (World.cell?_alloc_new (w := w) _ _ 0).trans rfl⟩
    | 1 => cases e1; cases e2; exact ⟨rfl, rfl, hr2, (World.cell?_alloc_new (w := w) _ _ 1).trans rfl⟩
    | 2 => cases e1; cases e2; exact ⟨rfl, rfl, hr3, (World.cell?_alloc_new (w := w) _ _ 2).trans rfl⟩
    | j + 3 => simp at e1
  · intro j b e1
    match j with
    | 0 => cases e1; exact ⟨L1, hl1, h1.all _, fun h => by omega⟩
    | 1 => cases e1; exact ⟨L2, hl2, h2.all _, fun h => by omega⟩
    | 2 => cases e1; exact ⟨L3, hl3, h3.all _, fun h => by omega⟩
    | j + 3 => simp at e1
  · intro b hb
    simp at hb
    rcases hb with rfl | rfl | rfl <;> simp <;> omega
  · rintro e w' ⟨rfl, hO⟩
    exact ⟨rfl, ((Off.refl _ w).all _).trans hO⟩
set_option maxRecDepth 100000 in
set_option maxHeartbeats 3200000 in
theorem apart_nil3 (w : World) (S : Nat) (h0 : w.cell? ⟨S, 0, none⟩ = some (.slice none 0 0)) (h1 : w.cell? ⟨S, 1, none⟩ = some (.slice none 0 0)) (h2 : w.cell? ⟨S, 2, none⟩ = some (.slice none 0 0)) :
    Calls Try.prog 28 #[.slice (some ⟨S, 0, none⟩) 3 3] w fun e w' => e = .returned (.bool true) ∧ Off [] w w' := by
  have hS : ∀ k, k < 3 → w.cell? ⟨S, k, none⟩ = some (.slice none 0 0) := fun k hk => by
    have : k = 0 ∨ k = 1 ∨ k = 2 := by omega
    rcases this with rfl | rfl | rfl
    · exact h0
    · exact h1
    · exact h2
  have HS := Lib.hid hS
  clear h0 h1 h2 hS
  have hss : ∀ X, (Instr.slice 29 (.slice none 0 0) none (some (.int .i64 0)) none).run Try.prog X = .ok (.slice none 0 0) X := by
    intro X
    obtain ⟨j0, hj, hy0, hy1, hy2⟩ := info_parts Try.info3
    simp [Instr.slice, run_underlying Try.underlying29, Instr.sliceBounds, Instr.sliceBound, asIntOf, sizeOf, typeInfo, hj]
  go_enter Try.func28, Try.ntmps28
  go_upto_block 0 with fail
  go_cut [3] (fun v3 wx => Hid (wx.ownsRow 0 29 1 v3 3 (List.replicate 3 (.slice none 0 0))) ∧ Hid (Off [] w wx))
  case first =>
    go_wp2_with fail
    go_loopw [3, 4] (fun v3 v4 wr => ∃ k : Nat, k ≤ 3 ∧ v4 = .int .i64 k ∧ Hid (wr.ownsRow 0 29 1 v3 k (List.replicate k (.slice none 0 0))) ∧ Hid (Off [] w wr) ∧ Hid (∀ q, v3.ownBlock = some q → w.heap.size ≤ q)) (fun _ v4 _ => 3 - (intOf v4).toNat)
    case atStart => exact ⟨0, Nat.zero_le _, rfl, Lib.hid (World.ownsRow_nil _ _ _ _), Lib.hid (Off.refl _ _), Lib.hid (fun q hq => by cases hq)⟩
    case round =>
      rename_i v3 v4
      obtain ⟨k, hk, rfl, HR, HO, HV⟩ := hrel
      by_cases hlt : k < 3
      · have hltz : (k : Int) < 3 := by omega
        have hcS : wr.cell? ⟨S, k, none⟩ = some (.slice none 0 0) := HO.out.cell (HS.out k hlt) (by simp)
        go_upto_region 5 with fail
        go_cut [3] (fun v3 wx => ∃ g cap, v3 = .slice (some ⟨g, 0, none⟩) (k + 1) cap ∧ Hid (wx.ownsRow 0 29 1 (.slice (some ⟨g, 0, none⟩) (k + 1) cap) (k + 1) (List.replicate (k + 1) (.slice none 0 0))) ∧ Hid (Off [] w wx) ∧ Hid (w.heap.size ≤ g))
        case first =>
          have HOA := Lib.hid (HR.out.alloc (.cells #[.slice none 0 0] 29))
          have hsz : w.heap.size ≤ wr.heap.size := HO.out.size
          go_region_law ((refine step_more Try.info29 rfl (by decide) (by decide) Try.underlying99 rfl (.tmp 14) (.tmp 25) rfl u3 k (List.replicate k (.slice none 0 0)) (by simp [Act.eval]) (by exact HOA.out) ⟨wr.heap.size, 0, none⟩ 1 1 [.slice none 0 0] (by simp [Act.eval]) rfl (one_at wr _ _) (by simp [Value.oneCell']) (by omega) (by omega) ?_; intro g cap w' r1 r2 r3; have HG1 := Lib.hid r1; have HG2 := Lib.hid ((World.grownBy_alloc wr _ _).trans (grown_drew r2)); have HG3 := Lib.hid r3; clear r1 r2 r3))
          all_goals go_wp2_with fail
          all_goals go_meet
          all_goals (
            refine ⟨g, cap, rfl, Lib.hid ?_, Lib.hid (HO.out.grow HG2.out (fun q hq => .inr (HV.out q hq))), Lib.hid ?_⟩
            · rw [List.replicate_succ']
              exact HG1.out
            · rcases HG3.out with h | h
              · exact HV.out _ h
              · rw [h]; simp; omega)
        case rest =>
          obtain ⟨g, cap, rfl, HR2, HO2, HG⟩ := hcut
          have hrc := (row_cells HR2.out (j := k) (u := .slice none 0 0) (by rw [List.getElem?_replicate, if_pos (by omega)])).1
          clear HR HO hcS HV hss
          go_wp2_with fail
          go_loopw [5] (fun v5 wr2 => v5 = .int .i64 0 ∧ wr2 = wc) (fun _ _ => 0)
          case atStart => exact ⟨rfl, rfl⟩
          case round =>
            obtain ⟨rfl, rfl⟩ := hrel
            go_wp2
            go_roundw
            case rel => exact ⟨k + 1, by omega, by go_num, HR2, HO2, Lib.hid (fun q hq => by simp [Value.ownBlock] at hq; subst hq; exact HG.out)⟩
            case measure => simp [intOf]; omega
      · have hltz : ¬ (k : Int) < 3 := by omega
        obtain rfl : k = 3 := by omega
        go_wp2_with fail
        go_meet
        exact ⟨HR, HO⟩
  case rest =>
    obtain ⟨HR, HO⟩ := hcut
    have hvl : ∃ g c2, u3 = .slice (some ⟨g, 0, none⟩) 3 c2 := by
      rcases HR.out.2 with ⟨h1, h2⟩ | ⟨g, cap, cur, h1, -⟩
      · omega
      · exact ⟨_, _, h1⟩
    obtain ⟨g, c2, rfl⟩ := hvl
    clear hss
    go_wp2_with fail
    go_loopw [6] (fun v6 wr => ∃ k : Nat, k ≤ 3 ∧ v6 = .int .i64 k ∧ wr = wc) (fun v6 _ => 3 - (intOf v6).toNat)
    case atStart => exact ⟨0, Nat.zero_le _, rfl, rfl⟩
    case round =>
      obtain ⟨k, hk, rfl, rfl⟩ := hrel
      by_cases hlt : k < 3
      · have hltz : (k : Int) < 3 := by omega
        have hrc := (row_cells HR.out (j := k) (u := .slice none 0 0) (by rw [List.getElem?_replicate, if_pos (by omega)])).1
        go_wp2_with fail
        go_loopw [7] (fun v7 wx => v7 = .int .i64 0 ∧ wx = wr) (fun _ _ => 0)
        case atStart => exact ⟨rfl, rfl⟩
        case round =>
          obtain ⟨rfl, rfl⟩ := hrel
          go_wp2
          go_roundw
          case rel => exact ⟨k + 1, by omega, by go_num, by trivial⟩
          case measure => simp [intOf]; omega
      · have hltz : ¬ (k : Int) < 3 := by omega
        go_wp2
        go_ret
        exact ⟨rfl, HO.out⟩
end Go.Proofs.Ytmkmkndcndpfeaa
