/-
  Whether points are right: no two of one name. No condition but those typed at each theorem.
-/
import Derived.Test.YtldmajifkmcdcaaGreatP3
import Derived.Test.YtldmajifkmcdcaaGreatMn
namespace Go.Proofs.YtldmajifkmcdcaaGreat
open Go.RowKit
theorem rg_twiceP {L : List S3} {i : Nat} {s : S3} (e : L[i]? = some s) (h : s.2.2 ∈ (L.take i).map (·.2.2)) : ¬ Rg L := by
  intro hr
  have h1 : (L.take (i + 1)).Sublist L := List.take_sublist _ _
  have h2 := hr.sub h1
  unfold Rg at h2
  rw [List.take_add_one, e, show (some s).toList = [s] from rfl, List.map_append, List.nodup_append] at h2
  exact h2.2.2 _ h _ (by simp) rfl
set_option maxRecDepth 100000 in
set_option maxHeartbeats 1600000 in
theorem rightP_any (w : World) (p : Option Addr) (c : Nat) (L : List S3) (hx : TsS w p L) (hl : L.length ≤ 400) (hw : ∀ s ∈ L, Wf3 s) :
    Calls Tryz.prog 24 #[.slice p L.length c] w fun e w' => e = .returned (.bool (decide (Rg L))) ∧ Below w.heap.size w w' := by
  have HX := Lib.hid hx
  have HW := Lib.hid hw
  obtain ⟨d, hd⟩ : ∃ d, d = L.length := ⟨_, rfl⟩
  have HD := Lib.hid hd
  rw [← hd] at hl ⊢
  clear hd hx hw
  have eqN := eqNew
  go_enter Tryz.func24, Tryz.ntmps24
  go_wp2_with (go_at_call 46; (with_reducible refine (names_any _).mono ?_); rintro e w1 ⟨⟨B, mb, rfl, hN, hB, hm, hne⟩, hb⟩; have HN := Lib.hid hN; have HB := Lib.hid hb; have HNE := Lib.hid (show w.heap.size ≤ B ∧ w.heap.size ≤ mb ∧ B ≠ mb from ⟨hB, hm, hne⟩); clear hN hB hm hne hb)
  go_loopw [9] (fun v wr => ∃ i : Nat, i ≤ d ∧ v = .int .i64 i ∧ Hid (Rg (L.take i)) ∧ Hid (IsN wr B mb ((L.take i).map (·.2.2))) ∧ Hid (Below w.heap.size w wr)) (fun v _ => d - (intOf v).toNat)
  case atStart => exact ⟨0, Nat.zero_le _, rfl, Lib.hid (by rw [List.take_zero]; exact Rg.nil), HN, HB⟩
  case round =>
    clear HN HB
    obtain ⟨i, hi, rfl, HG, HM, HB⟩ := hrel
    by_cases hlt : i < d
    · have hltz : (i : Int) < d := by omega
      obtain ⟨s, hse⟩ : ∃ s, L[i]? = some s := ⟨_, List.getElem?_eq_getElem (by have := HD.out; omega)⟩
      obtain ⟨b, off, rfl, h1⟩ := (HX.out.keep HB.out).at hse
      have n0 := h1.c0
      have n1 := h1.c1
      have n2 := h1.c2
      have HSE := Lib.hid hse
      have HS := Lib.hid (HW.out s (List.mem_of_getElem? hse)).2.2
      have HL := Lib.hid (show ((L.take i).map (·.2.2)).length ≤ 8192 by simp; have := HD.out; omega)
      clear h1 hse
      go_upto_region 5 with fail
      obtain ⟨W, hWd⟩ : ∃ W, W = wr.alloc (.cells (tvs s).toArray 34) := ⟨_, rfl⟩
      change Code.wp _ _ _ _ (wr.alloc (.cells (tvs s).toArray 34))
      rw [← hWd]
      have hT : T1 W wr.heap.size 0 s := hWd ▸ T1.new wr s _
      have hBW : Below w.heap.size w W := hWd ▸ HB.out.alloc HB.out.size _
      have hMW : IsN W B mb ((L.take i).map (·.2.2)) := HM.out.keep (hWd ▸ (Below.refl _ wr).alloc (Nat.le_refl _) _)
      have m2 := hT.c2
      clear hWd hT n0 n1 n2
      by_cases hseen : s.2.2 ∈ (L.take i).map (·.2.2)
      · have HC := Lib.hid (isnew_no hMW s.2.2 HS.out hseen HL.out HNE.out.2.2)
        have HBW := Lib.hid hBW
        have HSEEN := Lib.hid hseen
        clear hMW hBW hseen
        obtain ⟨lo, hi2, id⟩ := s
        simp only [Nat.zero_add] at m2 HC
        go_wp2_with (go_at_fn 75; refine HC.out.mono ?_; rintro e w3 ⟨rfl, ho⟩; have HO := Lib.hid ho; clear ho)
        go_ret
        exact ⟨retb (by simp only [decide_eq_true_eq, Bool.false_eq_true, false_iff]; exact rg_twiceP HSE.out HSEEN.out), HBW.out.trans (HO.out.below HBW.out.size (by simpa using HNE.out.2.1))⟩
      · have HC := Lib.hid (isnew_yes hMW s.2.2 HS.out hseen HL.out HNE.out.2.2)
        have HBW := Lib.hid hBW
        have HSEEN := Lib.hid hseen
        clear hMW hBW hseen
        obtain ⟨lo, hi2, id⟩ := s
        simp only [Nat.zero_add] at m2 HC
        go_wp2_with (go_at_fn 75; refine HC.out.mono ?_; rintro e w3 ⟨rfl, hn, ho⟩; have HO := Lib.hid ho; have HN3 := Lib.hid hn; clear ho hn)
        go_roundw
        case rel =>
          refine ⟨i + 1, by omega, by go_num, Lib.hid ?_, Lib.hid ?_, Lib.hid (HBW.out.trans (HO.out.below HBW.out.size (by simpa using HNE.out.2.1)))⟩
          · rw [List.take_add_one, HSE.out]
            exact HG.out.snoc (fun y hy e => HSEEN.out (List.mem_map.2 ⟨y, hy, e⟩))
          · rw [List.take_add_one, HSE.out, List.map_append]
            exact HN3.out
        case measure => simp [intOf]; omega
    · have hid : i = d := by omega
      subst hid
      have hltz : ¬ (i : Int) < i := by omega
      go_wp2
      go_ret
      refine ⟨?_, HB.out⟩
      have := HG.out
      rw [List.take_of_length_le (by have := HD.out; omega)] at this
      simp [this]
end Go.Proofs.YtldmajifkmcdcaaGreat
