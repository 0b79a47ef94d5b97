/-
  Where a number stands among others: First, Above, and the search that they hand their question to. No condition but those typed at each theorem.
-/
import Derived.Test.YtnangnmnodpfjaaSame
import Derived.Test.YtnangnmnodpfjaaLookMath
namespace Go.Proofs.Ytnangnmnodpfjaa
open Go.RowKit

theorem getD_num (xs : List Int) (m : Nat) (h : m < xs.length) : xs[m]? = some (xs.getD m 0) := by
  rw [List.getD_eq_getElem?_getD, List.getElem?_eq_getElem h]
  rfl

set_option maxRecDepth 100000 in
set_option maxHeartbeats 800000 in
theorem fst1_any (w : World) (B C b off cap : Nat) (xs : List Int) (x : Int) (hbox : w.cell? ⟨B, 0, none⟩ = some (.slice (some ⟨b, off, none⟩) xs.length cap)) (hx : Ns w b off .i64 xs)
    (hnum : w.cell? ⟨C, 0, none⟩ = some (.int .i64 x)) (m : Nat) (hm : m < xs.length) :
    Calls Try.prog 22 #[.int .i64 m, .pointer (some ⟨B, 0, none⟩), .pointer (some ⟨C, 0, none⟩)] w fun e w' => e = .returned (.bool (notLess xs x m)) ∧ Below w.heap.size w w' := by
  obtain ⟨y, hy⟩ : ∃ y, y = xs.getD m 0 := ⟨_, rfl⟩
  have c0 : ∀ s : Wd (Bw w), s.w.cell? ⟨B, 0, none⟩ = some (.slice (some ⟨b, off, none⟩) xs.length cap) := fun s => Bw.cell s hbox
  have c1 : ∀ s : Wd (Bw w), s.w.cell? ⟨C, 0, none⟩ = some (.int .i64 x) := fun s => Bw.cell s hnum
  have c2 : ∀ s : Wd (Bw w), s.w.cell? ⟨b, off + m, none⟩ = some (.int .i64 y) := fun s => Bw.cell s (hx m y (by rw [hy]; exact getD_num xs m hm))
  have inst : Nonempty (Wd (Bw w)) := ⟨⟨w, Below.refl _ _⟩⟩
  have HY := Lib.hid hy
  clear hbox hx hnum hy
  go_enter Try.func22, Try.ntmps22
  go_upto_region 1 with fail
  refine wp_region_wd (Bw w) (by kernel_rfl) (by kernel_rfl) ((Below.refl _ w).drew) ?_
  repeat (first | go_big_quiet_step (fail) | quiet_step (fail))
  refine wpQuiet_nil ?_
  rintro _ ⟨s, rfl⟩
  go_wp2
  go_ret
  refine ⟨retb ?_, s.h⟩
  rw [notLess, ← HY.out]

set_option maxRecDepth 100000 in
set_option maxHeartbeats 800000 in
theorem abv1_any (w : World) (B C b off cap : Nat) (xs : List Int) (x : Int) (hbox : w.cell? ⟨B, 0, none⟩ = some (.slice (some ⟨b, off, none⟩) xs.length cap)) (hx : Ns w b off .i64 xs)
    (hnum : w.cell? ⟨C, 0, none⟩ = some (.int .i64 x)) (m : Nat) (hm : m < xs.length) :
    Calls Try.prog 24 #[.int .i64 m, .pointer (some ⟨B, 0, none⟩), .pointer (some ⟨C, 0, none⟩)] w fun e w' => e = .returned (.bool (isMore xs x m)) ∧ Below w.heap.size w w' := by
  obtain ⟨y, hy⟩ : ∃ y, y = xs.getD m 0 := ⟨_, rfl⟩
  have c0 : ∀ s : Wd (Bw w), s.w.cell? ⟨B, 0, none⟩ = some (.slice (some ⟨b, off, none⟩) xs.length cap) := fun s => Bw.cell s hbox
  have c1 : ∀ s : Wd (Bw w), s.w.cell? ⟨C, 0, none⟩ = some (.int .i64 x) := fun s => Bw.cell s hnum
  have c2 : ∀ s : Wd (Bw w), s.w.cell? ⟨b, off + m, none⟩ = some (.int .i64 y) := fun s => Bw.cell s (hx m y (by rw [hy]; exact getD_num xs m hm))
  have inst : Nonempty (Wd (Bw w)) := ⟨⟨w, Below.refl _ _⟩⟩
  have HY := Lib.hid hy
  clear hbox hx hnum hy
  go_enter Try.func24, Try.ntmps24
  go_upto_region 1 with fail
  refine wp_region_wd (Bw w) (by kernel_rfl) (by kernel_rfl) ((Below.refl _ w).drew) ?_
  repeat (first | go_big_quiet_step (fail) | quiet_step (fail))
  refine wpQuiet_nil ?_
  rintro _ ⟨s, rfl⟩
  go_wp2
  go_ret
  refine ⟨retb ?_, s.h⟩
  rw [isMore, ← HY.out]

set_option maxRecDepth 100000 in
set_option maxHeartbeats 1600000 in
theorem look_any (w : World) (g n : Nat) (lb : Array Value) (so : Nat → Bool) (eg : ∀ args w, (callFunc g args).run Try.prog w = .ok (.enter g args) w) (hn : n ≤ 17179869184)
    (hA : ∀ m, m < n → ∀ X, Below w.heap.size w X → Calls Try.prog g (#[.int .i64 (m : Nat)] ++ lb) X fun e w' => e = .returned (.bool (so m)) ∧ Below X.heap.size X w') :
    Calls Try.prog 21 #[.int .i64 n, .func (.func g) #[] lb] w fun e w' => e = .returned (.tuple #[.int .i64 (lk so n).1, .int .i64 (lk so n).2]) ∧ Below w.heap.size w w' := by
  obtain ⟨P, hP⟩ : ∃ P, P = lk so n := ⟨_, rfl⟩
  rw [← hP]
  have HP := Lib.hid (show lkGo so 0 n 0 = P from hP.symm)
  have HA := Lib.hid hA
  clear hP hA
  go_enter Try.func21, Try.ntmps21
  go_wp2
  go_loopw [6, 7, 8] (fun f e c wr => ∃ i j k : Nat, f = .int .i64 i ∧ e = .int .i64 j ∧ c = .int .i64 k ∧ i ≤ j ∧ j ≤ n ∧ k + j ≤ i + n ∧ Hid (lkGo so i j k = P) ∧ Hid (Below w.heap.size w wr)) (fun f e _ _ => (intOf e).toNat - (intOf f).toNat)
  case atStart => exact ⟨0, n, 0, rfl, rfl, rfl, by omega, by omega, by omega, HP, Lib.hid (Below.refl _ _)⟩
  case round =>
    obtain ⟨i, j, k, rfl, rfl, rfl, hij, hjn, hk, HL, HB⟩ := hrel
    by_cases h : i < j
    · have hz : (i : Int) < j := by omega
      obtain ⟨h2, hh2⟩ : ∃ h2, h2 = (j - i) / 2 := ⟨_, rfl⟩
      have e1 : ((j : Int) - i) / 2 = (h2 : Int) := by omega
      have hb : i + h2 < j := by omega
      have HC := Lib.hid (fun X hX => HA.out (i + h2) (by omega) X hX)
      have HH := Lib.hid hh2
      clear hh2
      cases hs : so (i + h2) with
      | true =>
        rw [hs] at HC
        have HL2 := Lib.hid (show lkGo so i (i + h2) (k + 1) = P by rw [← HL.out, HH.out]; rw [HH.out] at hs; exact (lkGo_yes so k h hs).symm)
        clear hs HL
        go_wp2_with (go_at_fn g; refine (HC.out _ HB.out).mono ?_; rintro e w1 ⟨rfl, hb1⟩; have HB1 := Lib.hid (HB.out.trans (hb1.mono HB.out.size)); clear hb1)
        go_roundw
        case rel => exact ⟨i, i + h2, k + 1, rfl, by go_num, by go_num, by omega, by omega, by omega, HL2, HB1⟩
        case measure => simp [intOf]; omega
      | false =>
        rw [hs] at HC
        have HL2 := Lib.hid (show lkGo so (i + h2 + 1) j (k + 1) = P by rw [← HL.out, HH.out]; rw [HH.out] at hs; exact (lkGo_no so k h hs).symm)
        clear hs HL
        go_wp2_with (go_at_fn g; refine (HC.out _ HB.out).mono ?_; rintro e w1 ⟨rfl, hb1⟩; have HB1 := Lib.hid (HB.out.trans (hb1.mono HB.out.size)); clear hb1)
        go_roundw
        case rel => exact ⟨i + h2 + 1, j, k + 1, by go_num, rfl, by go_num, by omega, by omega, by omega, HL2, HB1⟩
        case measure => simp [intOf]; omega
    · have hz : ¬ (i : Int) < j := by omega
      go_wp2
      go_ret2
      have h4 := HL.out
      rw [lkGo_end so k h] at h4
      subst h4
      exact ⟨rfl, HB.out⟩

theorem egF : ∀ args w, (callFunc 22 args).run Try.prog w = .ok (.enter 22 args) w := enters_of Try.func22 (by kernel_rfl) rfl
theorem egA : ∀ args w, (callFunc 24 args).run Try.prog w = .ok (.enter 24 args) w := enters_of Try.func24 (by kernel_rfl) rfl

/-- place and how many were looked at, as they are told -/
def two (P : Nat × Nat) : Value := .tuple #[.int .i64 P.1, .int .i64 P.2]

set_option maxRecDepth 100000 in
set_option maxHeartbeats 800000 in
theorem First_any (w : World) (p : Option Addr) (cap : Nat) (xs : List Int) (x : Int) (hx : NS w p .i64 xs) (hn : xs.length ≤ 100000) :
    Calls Try.prog 11 #[.slice p xs.length cap, .int .i64 x] w fun e w' => e = .returned (two (firstP xs x)) ∧ Below w.heap.size w w' := by
  have hmf : ∀ (fn : Fn) (first cap : Array Value) (w : World), (Instr.makeFunc fn first cap).run Try.prog w = .ok (.func fn first cap) w := fun _ _ _ _ => rfl
  obtain ⟨W, hW⟩ : ∃ W, W = (w.alloc (.cells #[.slice p xs.length cap] 22)).alloc (.cells #[.int .i64 x] 2) := ⟨_, rfl⟩
  have hWb : Below w.heap.size w W := by subst hW; exact ((Below.refl _ w).alloc (Nat.le_refl _) _).alloc (by simp) _
  have hbox : W.cell? ⟨w.heap.size, 0, none⟩ = some (.slice p xs.length cap) := by subst hW; rw [World.cell?_alloc_lt _ _ _ (by simp)]; simp
  have hnum : W.cell? ⟨w.heap.size + 1, 0, none⟩ = some (.int .i64 x) := by subst hW; simp
  have hxW := hx.keep hWb
  have HC := Lib.hid (look_any W 22 xs.length #[.pointer (some ⟨w.heap.size, 0, none⟩), .pointer (some ⟨w.heap.size + 1, 0, none⟩)] (notLess xs x) egF (by omega) (by
    intro m hm X hX
    rcases hxW with rfl | ⟨b, off, rfl, h⟩
    · simp at hm
    · exact fst1_any X w.heap.size (w.heap.size + 1) b off cap xs x ((hX.cell (World.block_lt_of_cell? W _ hbox)).trans hbox) (h.keep hX) ((hX.cell (World.block_lt_of_cell? W _ hnum)).trans hnum) m hm))
  have hP : firstP xs x = lk (notLess xs x) xs.length := rfl
  rw [← hP] at HC
  obtain ⟨P, hPP⟩ : ∃ P, P = firstP xs x := ⟨_, rfl⟩
  obtain ⟨n, hnn⟩ : ∃ n, n = xs.length := ⟨_, rfl⟩
  rw [← hPP, ← hnn] at HC
  rw [← hPP, ← hnn]
  rw [← hnn] at hbox hW
  have HWb := Lib.hid hWb
  clear hWb hP hPP hnn hnum hx hxW hn
  go_enter Try.func11, Try.ntmps11
  go_upto_region 1 with fail
  rw [← hW]
  clear hW
  go_wp2_with (go_at_call 21; (with_reducible refine HC.out.mono ?_); rintro e w1 ⟨rfl, hb1⟩; have HB1 := Lib.hid (HWb.out.trans (hb1.mono HWb.out.size)); clear hb1)
  go_ret2
  exact ⟨rfl, HB1.out⟩

set_option maxRecDepth 100000 in
set_option maxHeartbeats 800000 in
theorem Above_any (w : World) (p : Option Addr) (cap : Nat) (xs : List Int) (x : Int) (hx : NS w p .i64 xs) (hn : xs.length ≤ 100000) :
    Calls Try.prog 13 #[.slice p xs.length cap, .int .i64 x] w fun e w' => e = .returned (two (aboveP xs x)) ∧ Below w.heap.size w w' := by
  have hmf : ∀ (fn : Fn) (first cap : Array Value) (w : World), (Instr.makeFunc fn first cap).run Try.prog w = .ok (.func fn first cap) w := fun _ _ _ _ => rfl
  obtain ⟨W, hW⟩ : ∃ W, W = (w.alloc (.cells #[.slice p xs.length cap] 22)).alloc (.cells #[.int .i64 x] 2) := ⟨_, rfl⟩
  have hWb : Below w.heap.size w W := by subst hW; exact ((Below.refl _ w).alloc (Nat.le_refl _) _).alloc (by simp) _
  have hbox : W.cell? ⟨w.heap.size, 0, none⟩ = some (.slice p xs.length cap) := by subst hW; rw [World.cell?_alloc_lt _ _ _ (by simp)]; simp
  have hnum : W.cell? ⟨w.heap.size + 1, 0, none⟩ = some (.int .i64 x) := by subst hW; simp
  have hxW := hx.keep hWb
  have HC := Lib.hid (look_any W 24 xs.length #[.pointer (some ⟨w.heap.size, 0, none⟩), .pointer (some ⟨w.heap.size + 1, 0, none⟩)] (isMore xs x) egA (by omega) (by
    intro m hm X hX
    rcases hxW with rfl | ⟨b, off, rfl, h⟩
    · simp at hm
    · exact abv1_any X w.heap.size (w.heap.size + 1) b off cap xs x ((hX.cell (World.block_lt_of_cell? W _ hbox)).trans hbox) (h.keep hX) ((hX.cell (World.block_lt_of_cell? W _ hnum)).trans hnum) m hm))
  have hP : aboveP xs x = lk (isMore xs x) xs.length := rfl
  rw [← hP] at HC
  obtain ⟨P, hPP⟩ : ∃ P, P = aboveP xs x := ⟨_, rfl⟩
  obtain ⟨n, hnn⟩ : ∃ n, n = xs.length := ⟨_, rfl⟩
  rw [← hPP, ← hnn] at HC
  rw [← hPP, ← hnn]
  rw [← hnn] at hbox hW
  have HWb := Lib.hid hWb
  clear hWb hP hPP hnn hnum hx hxW hn
  go_enter Try.func13, Try.ntmps13
  go_upto_region 1 with fail
  rw [← hW]
  clear hW
  go_wp2_with (go_at_call 21; (with_reducible refine HC.out.mono ?_); rintro e w1 ⟨rfl, hb1⟩; have HB1 := Lib.hid (HWb.out.trans (hb1.mono HWb.out.size)); clear hb1)
  go_ret2
  exact ⟨rfl, HB1.out⟩
end Go.Proofs.Ytnangnmnodpfjaa
