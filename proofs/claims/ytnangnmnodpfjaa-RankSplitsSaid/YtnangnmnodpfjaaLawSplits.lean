/-
  RankSplits: numbers that rise are parted by both places. For every list of numbers, however often each, and every number; no condition.
-/
import Derived.Test.YtnangnmnodpfjaaOnceMath
import Derived.Test.YtnangnmnodpfjaaLift
import Derived.Test.YtnangnmnodpfjaaRow
namespace Go.Proofs.Ytnangnmnodpfjaa
open Go.ChangeShapes Go.WideShapes Go.ChangeAt Go.RowKit Go.Joins

/-- the numbers so far rise, and none is more than one that is to come -/
def UP (A B : List Int) : Prop := A.Pairwise (· ≤ ·) ∧ ∀ a ∈ A, ∀ b ∈ B, a ≤ b
theorem UP.start (B : List Int) : UP [] B := ⟨List.Pairwise.nil, fun a ha => by cases ha⟩
theorem UP.more {A B : List Int} {y : Int} (h : UP A (y :: B)) (hB : ∀ b ∈ B, y ≤ b) : UP (A ++ [y]) (y :: B) := by
  refine ⟨?_, fun a ha b hb => ?_⟩
  · rw [List.pairwise_append]
    exact ⟨h.1, by simp, fun a ha b hb => h.2 a ha b (by simp at hb; simp [hb])⟩
  · rcases List.mem_append.1 ha with h1 | h1
    · exact h.2 a h1 b hb
    · simp at h1
      subst h1
      rcases List.mem_cons.1 hb with h2 | h2
      · omega
      · exact hB b h2
theorem UP.next {A B : List Int} {y : Int} (h : UP A (y :: B)) : UP A B := ⟨h.1, fun a ha b hb => h.2 a ha b (List.mem_cons.2 (.inr hb))⟩

theorem lkGo_in (so : Nat → Bool) : ∀ m f e c, e - f ≤ m → f ≤ e → f ≤ (lkGo so f e c).1 ∧ (lkGo so f e c).1 ≤ e := by
  intro m
  induction m with
  | zero =>
    intro f e c h1 h2
    rw [lkGo_end so c (by omega)]
    exact ⟨Nat.le_refl _, h2⟩
  | succ m ih =>
    intro f e c h1 h2
    by_cases h : f < e
    · cases hs : so (f + (e - f) / 2) with
      | true =>
        rw [lkGo_yes so c h hs]
        obtain ⟨h3, h4⟩ := ih f (f + (e - f) / 2) (c + 1) (by omega) (by omega)
        exact ⟨h3, by omega⟩
      | false =>
        rw [lkGo_no so c h hs]
        obtain ⟨h3, h4⟩ := ih (f + (e - f) / 2 + 1) e (c + 1) (by omega) (by omega)
        exact ⟨by omega, h4⟩
    · rw [lkGo_end so c h]
      exact ⟨Nat.le_refl _, h2⟩
/-- both places part numbers that rise -/
theorem splits (A : List Int) (hA : A.Pairwise (· ≤ ·)) (x : Int) : (firstP A x).1 ≤ (aboveP A x).1 ∧ (aboveP A x).1 ≤ A.length ∧ ∀ i n, A[i]? = some n → ((i < (firstP A x).1 ↔ n < x) ∧ (i < (aboveP A x).1 ↔ n ≤ x)) := by
  have hle : ∀ i j, i ≤ j → j < A.length → A.getD i 0 ≤ A.getD j 0 := by
    intro i j hij hj
    by_cases e : i = j
    · subst e; omega
    · have := List.pairwise_iff_getElem.1 hA i j (by omega) hj (by omega)
      have e1 := getD_num A i (by omega)
      have e2 := getD_num A j hj
      rw [List.getElem?_eq_getElem (by omega)] at e1
      rw [List.getElem?_eq_getElem hj] at e2
      injection e1 with e1
      injection e2 with e2
      omega
  obtain ⟨f1, f2⟩ := lk_parts (notLess A x) A.length (fun i j hij hj hi => by
    have := hle i j hij hj
    simp only [notLess, decide_eq_true_eq] at hi ⊢
    omega)
  obtain ⟨a1, a2⟩ := lk_parts (isMore A x) A.length (fun i j hij hj hi => by
    have := hle i j hij hj
    simp only [isMore, decide_eq_true_eq] at hi ⊢
    omega)
  have e1 : lk (notLess A x) A.length = firstP A x := rfl
  have e2 : lk (isMore A x) A.length = aboveP A x := rfl
  rw [e1] at f1 f2
  rw [e2] at a1 a2
  simp only [notLess, isMore, decide_eq_true_eq, decide_eq_false_iff_not] at f1 f2 a1 a2
  have hal : (aboveP A x).1 ≤ A.length := (lkGo_in (isMore A x) A.length 0 A.length 0 (by omega) (by omega)).2
  have hfl : (firstP A x).1 ≤ A.length := (lkGo_in (notLess A x) A.length 0 A.length 0 (by omega) (by omega)).2
  refine ⟨?_, hal, fun i n e => ?_⟩
  · by_cases h : (firstP A x).1 ≤ (aboveP A x).1
    · exact h
    · have h1 := f1 (aboveP A x).1 (by omega)
      have h2 := a2 (aboveP A x).1 (Nat.le_refl _) (by omega)
      omega
  · have hi := (List.getElem?_eq_some_iff.1 e).1
    have hn : A.getD i 0 = n := by
      have := getD_num A i hi
      rw [e] at this
      injection this with this
      exact this.symm
    constructor
    · constructor
      · intro h
        have := f1 i h
        omega
      · intro h
        by_cases h2 : i < (firstP A x).1
        · exact h2
        · have := f2 i (by omega) hi
          omega
    · constructor
      · intro h
        have := a1 i h
        omega
      · intro h
        by_cases h2 : i < (aboveP A x).1
        · exact h2
        · have := a2 i (by omega) hi
          omega

set_option maxRecDepth 100000 in
set_option maxHeartbeats 6400000 in
theorem splits_walk (p : Option Addr) (cap : Nat) (xs : List Int) (p1 : Option Addr) (cap1 : Nat) (os : List Int) (x : Int) (w : World) (hx : NS w p .i64 xs) (hp : p = none → cap = 0) (ho : NS w p1 .u8 os) (hl1 : os.length ≤ maxLen) (hwf : ∀ y ∈ os, (Lit.int .u8 y).wf = true) :
    Calls Try.prog 4 #[.slice p xs.length cap, .slice p1 os.length cap1, .int .i64 x] w fun e w' => e = .returned (.bool true) ∧ Below w.heap.size w w' := by
  by_cases hbig : 2000 < xs.length
  · have hbz : (2000 : Int) < xs.length := by omega
    clear hx
    go_enter Try.func4, Try.ntmps4
    go_wp2_with (go_at_call 9; (with_reducible refine (awake_any _).mono ?_); rintro e w1 ⟨rfl, hb⟩)
    go_ret
    exact ⟨rfl, hb⟩
  have C1 := Lib.hid (Squeeze_any w p cap xs hx (by omega) hp)
  have hoc : ∀ k, k < os.length → ∃ b off, p1 = some ⟨b, off, none⟩ ∧ ∃ y c : Nat, w.cell? ⟨b, off + k, none⟩ = some (.int .u8 (y : Int)) ∧ y ≤ 255 ∧ c = y % 4 := by
    intro k hk
    rcases ho with rfl | ⟨b, off, h1, h2⟩
    · simp at hk
    · obtain ⟨y, hy⟩ : ∃ y, os[k]? = some y := ⟨_, List.getElem?_eq_getElem hk⟩
      have hw := hwf y (List.mem_of_getElem? hy)
      simp [Lit.wf, IntKind.min, IntKind.max, IntKind.bits, IntKind.signed] at hw
      refine ⟨b, off, h1, y.toNat, y.toNat % 4, ?_, by omega, rfl⟩
      rw [show ((y.toNat : Nat) : Int) = y by omega]
      exact h2 k y hy
  have HOC := Lib.hid hoc
  have hpw := (once_spec xs).1
  have HPW := Lib.hid hpw
  obtain ⟨m, hm⟩ : ∃ m, m = (onceL xs).length := ⟨_, rfl⟩
  have hmn : m ≤ 2000 := by have := onceL_len xs; omega
  have HM := Lib.hid hm
  rw [← hm] at C1
  obtain ⟨n, hn⟩ : ∃ n, n = xs.length := ⟨_, rfl⟩
  obtain ⟨l1, hl⟩ : ∃ l1, l1 = os.length := ⟨_, rfl⟩
  rw [← hn] at hbig C1
  rw [← hl] at hl1 HOC
  rw [← hn, ← hl]
  have hl1' : (l1 : Int) ≤ 9223372036854775807 := by unfold maxLen at hl1; omega
  have hbz : ¬ (2000 : Int) < n := by omega
  clear hoc hpw hwf ho hx hm hp hn hl hl1
  go_enter Try.func4, Try.ntmps4
  go_wp2_with (go_at_call 16; (with_reducible refine C1.out.mono ?_); rintro e w1 ⟨q, c', rfl, hOS, hq0, hB1⟩; have HOS := Lib.hid hOS; have HB1 := Lib.hid hB1; clear hOS hq0 hB1)
  clear C1
  go_loopw [7, 24] (fun v7 i wr => ∃ (k : Nat) (A : List Int) (p7 : Option Addr) (al c7 : Nat), i = .int .i64 k ∧ v7 = .slice p7 al c7 ∧ k ≤ m ∧ al ≤ 3 * k ∧ Hid (wr.ownsRow w1.heap.size 2 1 (.slice p7 al c7) al (A.map encU)) ∧ Hid (UP A ((onceL xs).drop k)) ∧ Hid (Below w1.heap.size w1 wr)) (fun _ i _ => m - (intOf i).toNat)
  case atStart => exact ⟨0, [], none, 0, 0, rfl, rfl, Nat.zero_le _, Nat.zero_le _, Lib.hid ⟨rfl, .inl ⟨rfl, rfl⟩⟩, Lib.hid (UP.start _), Lib.hid (Below.refl _ _)⟩
  case round =>
    obtain ⟨k, A, p7, al, c7, rfl, rfl, hk, hal, HR, HU, HB⟩ := hrel
    by_cases hlt : k < m
    · have hltz : (k : Int) < m := by omega
      obtain ⟨y, hye⟩ : ∃ y, (onceL xs)[k]? = some y := ⟨_, List.getElem?_eq_getElem (by have := HM.out; omega)⟩
      obtain ⟨g0, rfl, hH⟩ : ∃ g, q = some ⟨g, 0, none⟩ ∧ Sort.Holds encU w1 g 0 (onceL xs).toArray := by
        rcases HOS.out with ⟨_, h0⟩ | ⟨g, h1, _, h2⟩
        · rw [h0] at hye; simp at hye
        · exact ⟨g, h1, h2⟩
      have hcy : wr.cell? ⟨g0, k, none⟩ = some (.int .i64 y) := by
        obtain ⟨h1, h2⟩ := List.getElem?_eq_some_iff.1 hye
        have h3 := (hH k (by simpa using h1)).1
        rw [Nat.zero_add] at h3
        refine (HB.out.cell (World.block_lt_of_cell? w1 _ h3)).trans ?_
        rw [h3]
        simp [getElem!_pos, h1, h2]
      have hdr : (onceL xs).drop k = y :: (onceL xs).drop (k + 1) := by
        obtain ⟨h1, h2⟩ := List.getElem?_eq_some_iff.1 hye
        rw [← h2]
        exact List.drop_eq_getElem_cons h1
      have hpy : ∀ b ∈ (onceL xs).drop (k + 1), y ≤ b := by
        have h1 := (HPW.out.sublist (List.drop_sublist k _))
        rw [hdr, List.pairwise_cons] at h1
        exact fun b hb => Int.le_of_lt (h1.1 b hb)
      rw [hdr] at HU
      have HPY := Lib.hid hpy
      clear hye hH hdr hpy
      by_cases hko : k < l1
      · have hkoz : (k : Int) < l1 := by omega
        obtain ⟨b, off, rfl, y8, c, hc8, hy8, hcc⟩ := HOC.out k hko
        have hc8' : wr.cell? ⟨b, off + k, none⟩ = some (.int .u8 (y8 : Int)) := (HB.out.cell (Nat.lt_of_lt_of_le (World.block_lt_of_cell? w _ hc8) HB1.out.size)).trans ((HB1.out.cell (World.block_lt_of_cell? w _ hc8)).trans hc8)
        have hr : (y8 : Int) % 4 = (c : Int) := by omega
        have hc3 : c ≤ 3 := by omega
        clear hc8 hcc
        go_wp2_with fail
        clear hr hc8' hcy
        go_loopw [7, 40] (fun v7 i wr2 => ∃ (t : Nat) (B : List Int) (p8 : Option Addr) (c8 : Nat), v7 = .slice p8 (al + t) c8 ∧ i = .int .i64 t ∧ t ≤ c ∧ Hid (wr2.ownsRow w1.heap.size 2 1 (.slice p8 (al + t) c8) (al + t) (B.map encU)) ∧ Hid (UP B (y :: (onceL xs).drop (k + 1))) ∧ Hid (Below w1.heap.size w1 wr2)) (fun _ i _ => c - (intOf i).toNat)
        case atStart => exact ⟨0, A, p7, c7, rfl, rfl, Nat.zero_le _, HR, HU, HB⟩
        case round =>
          clear HR HU HB
          obtain ⟨t, B, p8, c8, rfl, rfl, htc, HR, HU, HB⟩ := hrel
          by_cases hlt2 : t < c
          · have hlt2z : (t : Int) < c := by omega
            have hoA := HR.out.alloc (.cells #[.int .i64 y] 2)
            have HOA := Lib.hid hoA
            have hsz : w1.heap.size ≤ wr.heap.size := HB.out.size
            have HU2 := Lib.hid (HU.out.more HPY.out)
            clear hoA
            go_wp2_with (at_builtin; refine wpList_oneB rfl (.tmp 42) (.tmp 44) 22 2 .i64 (.int .i64 0) 8 Try.underlying22 Try.info2 rfl (by decide) rfl w1.heap.size _ (al + t) B wr.heap.size y rfl rfl (by simp) HOA.out (by omega) (by simp <;> omega) ?_; intro g cap w2 h1 h2 h3; have HG1 := Lib.hid h1; have HG2 := Lib.hid h2; have HG3 := Lib.hid (HB.out.grown ((World.grownBy_alloc wr _ _).trans h3) HB.out.size (own_ge' HR.out)); clear h1 h2 h3)
            go_roundw
            case rel => exact ⟨t + 1, B ++ [y], some ⟨g, 0, none⟩, cap, by first | rfl | (congr 1; omega), by go_num, by omega, Lib.hid (HG2.out.own HG1.out (by have := HR.out.1; simp at this ⊢; omega)), HU2, HG3⟩
            case measure => simp [intOf]; omega
          · have hlt2z : ¬ (t : Int) < c := by omega
            go_wp2_with fail
            go_roundw
            case rel => exact ⟨k + 1, B, p8, al + t, c8, by go_num, rfl, by omega, by omega, HR, Lib.hid HU.out.next, HB⟩
            case measure => simp [intOf]; omega
      · have hkoz : ¬ (k : Int) < l1 := by omega
        obtain ⟨c, hc1⟩ : ∃ c, c = 1 := ⟨_, rfl⟩
        have hc3 : c ≤ 3 := by omega
        go_wp2_with fail
        clear hcy
        go_loopw [7, 40] (fun v7 i wr2 => ∃ (t : Nat) (B : List Int) (p8 : Option Addr) (c8 : Nat), v7 = .slice p8 (al + t) c8 ∧ i = .int .i64 t ∧ t ≤ c ∧ Hid (wr2.ownsRow w1.heap.size 2 1 (.slice p8 (al + t) c8) (al + t) (B.map encU)) ∧ Hid (UP B (y :: (onceL xs).drop (k + 1))) ∧ Hid (Below w1.heap.size w1 wr2)) (fun _ i _ => c - (intOf i).toNat)
        case atStart => exact ⟨0, A, p7, c7, rfl, rfl, Nat.zero_le _, HR, HU, HB⟩
        case round =>
          clear HR HU HB
          obtain ⟨t, B, p8, c8, rfl, rfl, htc, HR, HU, HB⟩ := hrel
          by_cases hlt2 : t < c
          · have hlt2z : (t : Int) < c := by omega
            have hoA := HR.out.alloc (.cells #[.int .i64 y] 2)
            have HOA := Lib.hid hoA
            have hsz : w1.heap.size ≤ wr.heap.size := HB.out.size
            have HU2 := Lib.hid (HU.out.more HPY.out)
            clear hoA
            go_wp2_with (at_builtin; refine wpList_oneB rfl (.tmp 42) (.tmp 44) 22 2 .i64 (.int .i64 0) 8 Try.underlying22 Try.info2 rfl (by decide) rfl w1.heap.size _ (al + t) B wr.heap.size y rfl rfl (by simp) HOA.out (by omega) (by simp <;> omega) ?_; intro g cap w2 h1 h2 h3; have HG1 := Lib.hid h1; have HG2 := Lib.hid h2; have HG3 := Lib.hid (HB.out.grown ((World.grownBy_alloc wr _ _).trans h3) HB.out.size (own_ge' HR.out)); clear h1 h2 h3)
            go_roundw
            case rel => exact ⟨t + 1, B ++ [y], some ⟨g, 0, none⟩, cap, by first | rfl | (congr 1; omega), by go_num, by omega, Lib.hid (HG2.out.own HG1.out (by have := HR.out.1; simp at this ⊢; omega)), HU2, HG3⟩
            case measure => simp [intOf]; omega
          · have hlt2z : ¬ (t : Int) < c := by omega
            go_wp2_with fail
            go_roundw
            case rel => exact ⟨k + 1, B, p8, al + t, c8, by go_num, rfl, by omega, by omega, HR, Lib.hid HU.out.next, HB⟩
            case measure => simp [intOf]; omega
    · have hltz : ¬ (k : Int) < m := by omega
      have hA := HU.out.1
      have HS := Lib.hid (splits A hA x)
      obtain ⟨hAl, hNS⟩ : al = A.length ∧ NS wr p7 .i64 A := by
        obtain ⟨pp, cc, h1, h2, h3, _⟩ := NS.own HR.out
        injection h1 with h1 h4 h5
        subst h1
        exact ⟨h2.symm, h3⟩
      subst hAl
      have CF := First_any wr p7 c7 A x hNS (by omega)
      have CA := fun X (hX : NS X p7 .i64 A) => Above_any X p7 c7 A x hX (by omega)
      have hcell : ∀ i y, A[i]? = some y → ∃ b off, p7 = some ⟨b, off, none⟩ ∧ wr.cell? ⟨b, off + i, none⟩ = some (.int .i64 y) := by
        intro i y e
        rcases hNS with rfl | ⟨b, off, h1, h2⟩
        · simp at e
        · exact ⟨b, off, h1, h2 i y e⟩
      have HNS := Lib.hid hNS
      have HC := Lib.hid hcell
      unfold two at CF CA
      obtain ⟨f, hf⟩ : ∃ f, f = (firstP A x).1 := ⟨_, rfl⟩
      obtain ⟨f2, hf2⟩ : ∃ f, f = (firstP A x).2 := ⟨_, rfl⟩
      obtain ⟨a, ha⟩ : ∃ f, f = (aboveP A x).1 := ⟨_, rfl⟩
      obtain ⟨a2, ha2⟩ : ∃ f, f = (aboveP A x).2 := ⟨_, rfl⟩
      rw [← hf, ← ha] at HS
      rw [← hf, ← hf2] at CF
      simp only [← ha, ← ha2] at CA
      obtain ⟨hfa, haA, hs⟩ := HS.out
      have HSS := Lib.hid hs
      have HCF := Lib.hid CF
      have HCA := Lib.hid CA
      obtain ⟨z, hz⟩ : ∃ z, z = A.length := ⟨_, rfl⟩
      have HZ := Lib.hid hz
      rw [← hz] at HCF HCA haA hal
      rw [← hz]
      have z1 : ¬ (a : Int) < f := by omega
      have z2 : ¬ (z : Int) < a := by omega
      have HB2 := Lib.hid (HB1.out.trans (HB.out.mono HB1.out.size))
      clear hA hNS CF CA hcell hf hf2 ha ha2 hs HS hz HR HU
      go_wp2_with (first
        | (go_at_call 11; (with_reducible refine HCF.out.mono ?_); rintro e w2 ⟨rfl, hb⟩; have HN2 := Lib.hid (HNS.out.keep hb); have HB3 := Lib.hid hb; clear hb)
        | (go_at_call 13; (with_reducible refine (HCA.out w2 HN2.out).mono ?_); rintro e w3 ⟨rfl, hb⟩; have HB4 := Lib.hid (HB3.out.trans (hb.mono HB3.out.size)); clear hb))
      go_loopw [75] (fun i wr2 => ∃ j : Nat, j ≤ z ∧ i = .int .i64 j ∧ wr2 = w3) (fun i _ => z - (intOf i).toNat)
      case atStart => exact ⟨0, Nat.zero_le _, rfl, rfl⟩
      case round =>
        obtain ⟨i, hi, rfl, hw3⟩ := hrel
        subst hw3
        by_cases hlt3 : i < z
        · have hlt3z : (i : Int) < z := by omega
          obtain ⟨y, hye⟩ : ∃ y, A[i]? = some y := ⟨_, List.getElem?_eq_getElem (by have := HZ.out; omega)⟩
          obtain ⟨b, off, rfl, hc⟩ := HC.out i y hye
          have hcw := (HB4.out.cell (World.block_lt_of_cell? _ _ hc)).trans hc
          obtain ⟨s1, s2⟩ := HSS.out i y hye
          clear hye hc
          by_cases hif : i < f
          · have y1 : (i : Int) < f := by omega
            have y2 : (i : Int) < a := by omega
            have y3 : y < x := s1.1 hif
            have y4 : y ≤ x := by omega
            clear s1 s2
            go_wp2
            go_roundw
            case rel => exact ⟨i + 1, by omega, by go_num, by trivial⟩
            case measure => simp [intOf]; omega
          · have y1 : ¬ (i : Int) < f := by omega
            have y3 : ¬ y < x := fun h => hif (s1.2 h)
            by_cases hia : i < a
            · have y2 : (i : Int) < a := by omega
              have y4 : y ≤ x := s2.1 hia
              clear s1 s2
              go_wp2
              go_roundw
              case rel => exact ⟨i + 1, by omega, by go_num, by trivial⟩
              case measure => simp [intOf]; omega
            · have y2 : ¬ (i : Int) < a := by omega
              have y4 : ¬ y ≤ x := fun h => hia (s2.2 h)
              clear s1 s2
              go_wp2
              go_roundw
              case rel => exact ⟨i + 1, by omega, by go_num, by trivial⟩
              case measure => simp [intOf]; omega
        · have hlt3z : ¬ (i : Int) < z := by omega
          have HB5 := Lib.hid (HB2.out.trans (HB4.out.mono HB2.out.size))
          go_wp2_with (go_at_call 9; (with_reducible refine (awake_any _).mono ?_); rintro e w5 ⟨rfl, hb⟩; have HB6 := Lib.hid (HB5.out.trans (hb.mono HB5.out.size)); clear hb)
          go_ret
          exact ⟨rfl, HB6.out⟩

set_option maxRecDepth 100000 in
theorem splitslaw_lifted (os : Os) (started : os.Started) (H : Type) (enc : TypeId × Value → H) :
    ReturnsInHanded {} Try.checked os 4 .any (Rows.rankSplitsSpec.pre6 enc Try.prog Try.f4 Rows.rankSplitsRow.domain false) (Rows.rankSplitsSpec.post enc Try.prog Try.f4 false true false false) := by
  refine returnsInHanded_of_change (C := Try.checked) Try.own started (by kernel_rfl) Try.func4
    (ChangeSpec.witness6 (enc := enc) (C := Try.checked) false ⟨#[], #[.slice none 0 0, .slice none 0 0, .int .i64 0], []⟩ 8 (by kernel_rfl) (by kernel_rfl) (by kernel_rfl) (by kernel_rfl)) ?_
  intro W base args ds gs before hval0 hW hcnd _
  have hval : ∀ (j : Nat) t v, Try.f4.params[j]? = some t → args[j]? = some v → Value.okWide Try.prog W .any base t v := hval0
  have hW' := hW
  obtain ⟨p, q, hA0, hV, rfl, hfz, hnd⟩ := hW
  have hA : DataW.TrodAll enc Try.prog W 0 (fun _ => true) true Try.f4.params.toList args.toList ds p := hA0
  rw [Try.params4] at hA hval
  obtain ⟨v0, vs0, d0, ds0, p0, q0, hargs, rfl, rfl, h0, r0⟩ := trodAll_cons hA
  obtain ⟨v1, vs1, d1, ds1, p1, q1, rfl, rfl, rfl, h1, r1⟩ := trodAll_cons r0
  obtain ⟨v2, vs2, d2, ds2, p2, q2, rfl, rfl, rfl, h2, r2⟩ := trodAll_cons r1
  obtain ⟨rfl, rfl, rfl⟩ := trodAll_nil r2
  obtain rfl : args = #[v0, v1, v2] := by cases args; simp_all
  obtain ⟨rfl, rfl⟩ := trodVars_none hV
  obtain ⟨a0, len0, cap0, rfl⟩ := okWide_slice Try.underlying22 (hval 0 22 v0 rfl rfl)
  obtain ⟨xs0, rfl, hx0, hl0, hm0, hp0, hw0⟩ := open_nums2 h0
  obtain ⟨a1, len1, cap1, rfl⟩ := okWide_slice Try.underlying30 (hval 1 30 v1 rfl rfl)
  obtain ⟨xs1, rfl, hx1, hl1, hm1, hp1, hw1⟩ := open_bytes h1
  obtain ⟨a2, rfl, rfl, rfl, w2⟩ := open_int Try.underlying2 (hval 2 2 v2 rfl rfl) h2
  clear hA0 hval0
  simp only [List.append_nil] at hW'
  have hlt : ∀ x ∈ p0 ++ p1, x.block < W.heap.size := fun x hx => by simpa using hW'.lt x (by simpa using hx)
  refine (splits_walk _ _ _ _ _ _ _ W hx0 hp0 hx1 (Nat.le_trans hl1 hm1) hw1).mono fun e W' ⟨he, hb⟩ => ?_
  subst he
  have hR : DataW.TrodAll enc Try.prog W' 0 (fun b => decide (b < W.heap.size)) true _ _ _ _ := (trodAll_cons_mk (Below.trod Try.laidOut (by kernel_rfl) (of_decide_eq_true (by kernel_rfl)) h0 hb (fun x hx => hlt x (by simp [hx]))) (trodAll_cons_mk (Below.trod Try.laidOut (by kernel_rfl) (of_decide_eq_true (by kernel_rfl)) h1 hb (fun x hx => hlt x (by simp [hx]))) (trodAll_cons_mk (shut_int Try.underlying2 w2) trodAll_mk0)))
  simp only [List.append_nil] at hR
  exact ⟨_, rfl, law_post hW' (trodAll_cons_mk (shut_bool Try.underlying4 _) trodAll_mk0) hR rfl hb⟩

theorem splitslaw_holds : Rows.RankSplitsSaid :=
  OpenClaim.holds_of_wide 4 Try.f4 rfl rfl rfl rfl rfl rfl rfl ⟨rfl, rfl, rfl, rfl, rfl⟩ rfl rfl rfl rfl rfl (by kernel_rfl) Try.func4 (by kernel_rfl)
    (of_decide_eq_true (by kernel_rfl)) (by unfold Func.isWrapper; first | (rw [if_pos (by decide +kernel)]; kernel_rfl) | (rw [if_neg (by decide +kernel)]; exact ⟨rfl, rfl⟩))
    (fun os started H enc _ => splitslaw_lifted os started H enc)
end Go.Proofs.Ytnangnmnodpfjaa
