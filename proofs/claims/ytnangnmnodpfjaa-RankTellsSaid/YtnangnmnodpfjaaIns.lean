/-
  Numbers put in order by Go's own insertion sort, at int64. No condition but those typed at each theorem.
-/
import Derived.Test.YtnangnmnodpfjaaSame
import Derived.Test.YtnangnmnodpfjaaShelf
import Derived.Sort.WalkA
import Derived.Sort.AssemblyPlain
import Derived.CellFam
namespace Go.Proofs.Ytnangnmnodpfjaa
open Go.RowKit Go.Sort

set_option maxRecDepth 100000 in
theorem nan_any (x : Int) (w : World) : Calls Try.prog 47 #[.int .i64 x] w fun e w' => e = .returned (.bool false) ∧ w' = w := by
  go_enter Try.func47, Try.ntmps47
  go_wp2
  go_ret
  exact ⟨by simp, rfl⟩
set_option maxRecDepth 100000 in
theorem less_any (x y : Int) (w : World) : Calls Try.prog 39 #[.int .i64 x, .int .i64 y] w fun e w' => e = .returned (.bool (ltInt x y)) ∧ w' = w := by
  go_enter Try.func39, Try.ntmps39
  go_wp2_with (go_at_call 47; refine (nan_any _ _).mono ?_; rintro e w' ⟨rfl, rfl⟩)
  all_goals (go_ret; exact ⟨rfl, rfl⟩)
abbrev encU : Int → Value := Value.int .i64
theorem holds_swp {w : World} {blk off : Nat} {d : Array Int} (hH : Holds encU w blk off d) {i j : Nat} (hi : i < d.size) (hj : j < d.size) :
    Holds encU ((w.setCell ⟨blk, off + i, none⟩ (encU d[j]!)).setCell ⟨blk, off + j, none⟩ (encU d[i]!)) blk off (swp d i j) := by
  have h := putRow_swp encU w blk off d i j hi hj
  rw [putRow_self _ _ _ _ _ hH] at h
  rw [h]
  exact holds_putRow _ _ _ _ d _ hH (size_swp _ _ _)
theorem Holds.keepB {w w' : World} {blk off : Nat} {d : Array Int} (hH : Holds encU w blk off d) (hb : Below w.heap.size w w') : Holds encU w' blk off d := fun t ht =>
  have hl := World.block_lt_of_cell? w _ (hH t ht).1
  ⟨(hb.cell hl).trans (hH t ht).1, (hb.frozen hl).trans (hH t ht).2⟩
set_option maxRecDepth 100000 in
set_option maxHeartbeats 3200000 in
theorem ins_any (blk off cap a b : Nat) (d : Array Int) (w : World) (hH : Holds encU w blk off d) (hab : a ≤ b) (hb : b ≤ d.size) (hsz : d.size < 4611686018427387904) :
    Calls Try.prog 33 #[.slice (some ⟨blk, off, none⟩) d.size cap, .int .i64 a, .int .i64 b] w fun e w' =>
      e = .returned (.tuple #[]) ∧ Holds encU w' blk off (Sort.insertionSort ltInt d a b) ∧ Off [blk] w w' := by
  have HH := Lib.hid hH
  clear hH
  go_enter Try.func33, Try.ntmps33
  go_wp2
  go_loopw [6] (fun vi wr => ∃ (i : Nat) (dk : Array Int), vi = .int .i64 i ∧ a < i ∧ i ≤ b + 1 ∧ dk.size = d.size ∧ Hid (Holds encU wr blk off dk) ∧ Hid (Off [blk] w wr) ∧ Hid (insOuter ltInt a b i dk = insOuter ltInt a b (a + 1) d)) (fun vi _ => b + 1 - (intOf vi).toNat)
  case atStart => exact ⟨a + 1, d, by go_num, by omega, by omega, rfl, HH, Lib.hid (Off.refl _ _), Lib.hid rfl⟩
  case round =>
    obtain ⟨i, dk, rfl, hai, hib, hsk, HHk, HOk, HO⟩ := hrel
    by_cases hlt : i < b
    · have hltz : (i : Int) < b := by omega
      go_wp2
      go_loopw [7] (fun vj wr2 => ∃ (j : Nat) (dj : Array Int), vj = .int .i64 j ∧ a ≤ j ∧ j ≤ i ∧ dj.size = d.size ∧ Hid (Holds encU wr2 blk off dj) ∧ Hid (Off [blk] w wr2) ∧ Hid (insInner ltInt a j dj = insInner ltInt a i dk)) (fun vj _ => (intOf vj).toNat)
      case atStart => exact ⟨i, dk, rfl, by omega, Nat.le_refl _, hsk, HHk, HOk, Lib.hid rfl⟩
      case round =>
        clear HHk HOk
        obtain ⟨j, dj, rfl, haj, hji, hsj, HHj, HOj, HI⟩ := hrel
        have inst : Nonempty (Wd (Bw wr)) := ⟨⟨wr, Below.refl _ _⟩⟩
        by_cases hja : a < j
        · have hjz : (a : Int) < j := by omega
          obtain ⟨x, hx⟩ : ∃ x, x = dj[j]! := ⟨_, rfl⟩
          obtain ⟨y, hy⟩ : ∃ y, y = dj[j - 1]! := ⟨_, rfl⟩
          have hj1 : j < dj.size := by omega
          have c1 : ∀ s : Wd (Bw wr), s.w.cell? ⟨blk, off + j, none⟩ = some (.int .i64 x) := fun s => Bw.cell s (by rw [hx]; exact (HHj.out j hj1).1)
          have c2 : ∀ s : Wd (Bw wr), s.w.cell? ⟨blk, off + (j - 1), none⟩ = some (.int .i64 y) := fun s => Bw.cell s (by rw [hy]; exact (HHj.out (j - 1) (by omega)).1)
          have HX := Lib.hid hx
          have HY := Lib.hid hy
          clear hx hy
          obtain ⟨q, hq⟩ : ∃ q, q = ltInt x y := ⟨_, rfl⟩
          have hc : ∀ X, Calls Try.prog 39 #[.int .i64 x, .int .i64 y] X fun e w' => e = .returned (.bool q) ∧ Below X.heap.size X w' := fun X => by
            rw [hq]; exact (less_any x y X).mono fun _ _ h => ⟨h.1, h.2 ▸ Below.refl _ _⟩
          have HC := Lib.hid hc
          have HQ := Lib.hid hq
          clear hc hq
          have hjd : j < d.size := by omega
          have hj1d : j - 1 < d.size := by omega
          have hsw : IntKind.i64.wrap ((j : Int) - 1) = ((j - 1 : Nat) : Int) := by rw [IntWalk.i64_in _ (by omega)]; omega
          have hsub : ((j : Int) - 1) = ((j - 1 : Nat) : Int) := by omega
          go_upto_region 4 with fail
          refine wp_region_wd (Bw wr) (by kernel_rfl) (by kernel_rfl) ((Below.refl _ wr).drew) ?_
          repeat (first
            | go_big_quiet_step (first | (go_at_call 39; with_reducible exact calls_wd (fun _ _ h hb => h.keep hb) _ (HC.out _)))
            | quiet_step (first | (go_at_call 39; with_reducible exact calls_wd (fun _ _ h hb => h.keep hb) _ (HC.out _))))
          refine wpQuiet_nil ?_
          rintro _ ⟨s, rfl⟩
          have d1 := c1 s
          have d2 := c2 s
          have HH2 := Lib.hid (Holds.keepB HHj.out s.h)
          have HO2 := Lib.hid (HOj.out.bel s.h)
          have f1 := (HH2.out j hj1).2
          have f2 := (HH2.out (j - 1) (by omega)).2
          generalize s.w = ws at *
          clear c1 c2 s
          cases q
          · go_wp2
            go_roundw
            case rel => exact ⟨i + 1, dj, by go_num, by omega, by omega, hsj, HH2, HO2, Lib.hid (by rw [← HO.out, insOuter_go _ _ _ _ _ hlt, ← HI.out, insInner_stop _ _ _ _ (.inr (by rw [← HX.out, ← HY.out, ← HQ.out]))])⟩
            case measure => simp [intOf]; omega
          · go_wp2_with fail
            have hS := holds_swp HH2.out hj1 (show j - 1 < dj.size by omega)
            rw [← HX.out, ← HY.out] at hS
            have HS := Lib.hid hS
            have HS2 := Lib.hid ((HO2.out.set ⟨blk, off + j, none⟩ (encU y) (.inl (by simp))).set ⟨blk, off + (j - 1), none⟩ (encU x) (.inl (by simp)))
            clear hS
            go_region
            all_goals go_wp2
            all_goals go_roundw
            case rel => exact ⟨j - 1, swp dj j (j - 1), by first | rfl | go_num, by omega, by omega, by rw [size_swp]; exact hsj, HS, Lib.hid HS2.out.drew, Lib.hid (by rw [← HI.out, insInner_go ltInt a j dj hja (by rw [← HX.out, ← HY.out, ← HQ.out])])⟩
            case measure => simp [intOf]; omega
        · have hjz : ¬ (a : Int) < j := by omega
          go_upto_region 4 with fail
          refine wp_region_wd (Bw wr) (by kernel_rfl) (by kernel_rfl) ((Below.refl _ wr).drew) ?_
          repeat (first | go_big_quiet_step (fail) | quiet_step (fail))
          refine wpQuiet_nil ?_
          rintro _ ⟨s, rfl⟩
          have HH2 := Lib.hid (Holds.keepB HHj.out s.h)
          have HO2 := Lib.hid (HOj.out.bel s.h)
          go_wp2
          go_roundw
          case rel => exact ⟨i + 1, dj, by go_num, by omega, by omega, hsj, HH2, HO2, Lib.hid (by rw [← HO.out, insOuter_go _ _ _ _ _ hlt, ← HI.out, insInner_stop _ _ _ _ (.inl (by omega))])⟩
          case measure => simp [intOf]; omega
    · have hge : ¬ (i : Int) < b := by omega
      go_wp2
      go_end0
      exact ⟨rfl, by unfold Sort.insertionSort; rw [← HO.out, insOuter_stop _ _ _ _ _ hlt]; exact HHk.out, HOk.out⟩
end Go.Proofs.Ytnangnmnodpfjaa
