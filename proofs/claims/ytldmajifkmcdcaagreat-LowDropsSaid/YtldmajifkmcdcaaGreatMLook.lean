/-
  Looking for a place by halves, and how often one is doubled, as plain functions. No condition but those typed at each theorem.
-/
import Derived.Lib.BitFns
import Derived.Lib.ItoaNum
import Derived.Shelf.Small.Bits
import Derived.Shelf.Strconv.Itoa0
import Derived.Ground.SlgnProg
import Derived.Test.YtldmajifkmcdcaaGreatProg
import Derived.Test.YtldmajifkmcdcaaGreatMGen
namespace Go.Proofs.YtldmajifkmcdcaaGreat
theorem bl_spec (x : Nat) (h0 : x ≠ 0) (h : x < 2 ^ 64) : 1 ≤ Lib.bitLen x ∧ 2 ^ (Lib.bitLen x - 1) ≤ x ∧ x < 2 ^ Lib.bitLen x := Lib.bitLenAux_bounds 64 x h h0
theorem bl_zero : Lib.bitLen 0 = 0 := Lib.bitLenAux_zero 64
theorem bl_mono {x y : Nat} (h : x ≤ y) (hy : y < 2 ^ 64) : Lib.bitLen x ≤ Lib.bitLen y := by
  by_cases hy0 : y = 0
  · subst hy0
    rw [show x = 0 by omega]
    exact Nat.le_refl _
  · have h1 := bl_spec y hy0 hy
    refine Lib.bitLen_le x _ ?_ (by omega)
    exact Lib.bitLen_le y 64 (Nat.le_refl _) hy
/-- how often 1 is doubled to be n at least -/
def lgN (n : Nat) : Nat := Lib.bitLen (n - 1)
theorem lg_small {n : Nat} (h : n < 2) : lgN n = 0 := by
  unfold lgN
  rw [show n - 1 = 0 by omega, bl_zero]
theorem lg_spec {n : Nat} (h : 2 ≤ n) (h2 : n ≤ 9223372036854775807) : 1 ≤ lgN n ∧ lgN n ≤ 63 ∧ n ≤ 2 ^ lgN n ∧ 2 ^ (lgN n - 1) < n := by
  obtain ⟨h3, h4, h5⟩ := bl_spec (n - 1) (by omega) (by omega)
  have h6 := Lib.bitLen_le (n - 1) 63 (by omega) (by omega)
  unfold lgN
  exact ⟨h3, h6, by omega, by omega⟩
/-- places are looked at by halves: those from f on, below e, are left, and c were looked at -/
def lkGo (so : Nat → Bool) (f e c : Nat) : Nat × Nat :=
  if f < e then (if so (f + (e - f) / 2) then lkGo so f (f + (e - f) / 2) (c + 1) else lkGo so (f + (e - f) / 2 + 1) e (c + 1)) else (f, c)
termination_by e - f
/-- the first of n places at which it is so, and how many were looked at -/
def lk (so : Nat → Bool) (n : Nat) : Nat × Nat := lkGo so 0 n 0
theorem lkGo_end (so : Nat → Bool) {f e : Nat} (c : Nat) (h : ¬ f < e) : lkGo so f e c = (f, c) := by rw [lkGo, if_neg h]
theorem lkGo_yes (so : Nat → Bool) {f e : Nat} (c : Nat) (h : f < e) (hs : so (f + (e - f) / 2) = true) : lkGo so f e c = lkGo so f (f + (e - f) / 2) (c + 1) := by rw [lkGo, if_pos h, if_pos hs]
theorem lkGo_no (so : Nat → Bool) {f e : Nat} (c : Nat) (h : f < e) (hs : so (f + (e - f) / 2) = false) : lkGo so f e c = lkGo so (f + (e - f) / 2 + 1) e (c + 1) := by rw [lkGo, if_pos h, if_neg (by simp [hs])]
/-- within its bounds, and about as many looked at as there are halves -/
theorem lkGo_looks (so : Nat → Bool) : ∀ m f e c, e - f ≤ m → f ≤ e → e - f + 1 < 2 ^ 64 →
    f ≤ (lkGo so f e c).1 ∧ (lkGo so f e c).1 ≤ e ∧ c + (Lib.bitLen (e - f + 1) - 1) ≤ (lkGo so f e c).2 ∧ (lkGo so f e c).2 ≤ c + Lib.bitLen (e - f) := by
  intro m
  induction m with
  | zero =>
    intro f e c h1 h2 h3
    rw [lkGo_end so c (by omega), show e - f = 0 by omega]
    have : Lib.bitLen (0 + 1) ≤ 1 := Lib.bitLen_le 1 1 (by decide) (by decide)
    exact ⟨Nat.le_refl _, h2, by omega, by omega⟩
  | succ m ih =>
    intro f e c h1 h2 h3
    by_cases h : f < e
    · have hu : Lib.bitLen (e - f) = 1 + Lib.bitLen ((e - f) / 2) := Lib.bitLen_half _ (by omega) (by omega)
      have hl : Lib.bitLen (e - f + 1) = 1 + Lib.bitLen ((e - f + 1) / 2) := Lib.bitLen_half _ (by omega) (by omega)
      have ho : 1 ≤ Lib.bitLen ((e - f + 1) / 2) := (bl_spec _ (by omega) (by omega)).1
      cases hs : so (f + (e - f) / 2) with
      | true =>
        rw [lkGo_yes so c h hs]
        obtain ⟨h4, h5, h6, h7⟩ := ih f (f + (e - f) / 2) (c + 1) (by omega) (by omega) (by omega)
        rw [show f + (e - f) / 2 - f = (e - f) / 2 by omega] at h6 h7
        have h8 := bl_mono (x := (e - f + 1) / 2) (y := (e - f) / 2 + 1) (by omega) (by omega)
        exact ⟨h4, by omega, by omega, by omega⟩
      | false =>
        rw [lkGo_no so c h hs]
        obtain ⟨h4, h5, h6, h7⟩ := ih (f + (e - f) / 2 + 1) e (c + 1) (by omega) (by omega) (by omega)
        have h8 := bl_mono (x := (e - f + 1) / 2) (y := e - (f + (e - f) / 2 + 1) + 1) (by omega) (by omega)
        have h9 := bl_mono (x := e - (f + (e - f) / 2 + 1)) (y := (e - f) / 2) (by omega) (by omega)
        exact ⟨by omega, h5, by omega, by omega⟩
    · rw [lkGo_end so c h, show e - f = 0 by omega]
      have : Lib.bitLen (0 + 1) ≤ 1 := Lib.bitLen_le 1 1 (by decide) (by decide)
      exact ⟨Nat.le_refl _, h2, by omega, by omega⟩
theorem lk_looks (so : Nat → Bool) {n : Nat} (h : n < 9223372036854775807) : (lk so n).1 ≤ n ∧ (lk so n).2 ≤ lgN (n + 1) ∧ lgN (n + 1) ≤ (lk so n).2 + 1 := by
  obtain ⟨_, h2, h3, h4⟩ := lkGo_looks so n 0 n 0 (by omega) (by omega) (by omega)
  have h5 := bl_mono (x := n) (y := n - 0 + 1) (by omega) (by omega)
  unfold lk lgN
  rw [Nat.add_sub_cancel]
  rw [Nat.sub_zero] at h3 h4 h5
  exact ⟨h2, by omega, by omega⟩
/-- where it begins to be so -/
theorem lkGo_parts (so : Nat → Bool) (n : Nat) (hmono : ∀ i j, i ≤ j → j < n → so i = true → so j = true) : ∀ m f e c, e - f ≤ m → f ≤ e → e ≤ n → (∀ i, i < f → so i = false) → (∀ i, e ≤ i → i < n → so i = true) →
    (∀ i, i < (lkGo so f e c).1 → so i = false) ∧ (∀ i, (lkGo so f e c).1 ≤ i → i < n → so i = true) := by
  intro m
  induction m with
  | zero =>
    intro f e c h1 h2 hn h3 h4
    rw [lkGo_end so c (by omega)]
    exact ⟨h3, fun i hi hin => h4 i (by simp at hi; omega) hin⟩
  | succ m ih =>
    intro f e c h1 h2 hn h3 h4
    by_cases h : f < e
    · cases hs : so (f + (e - f) / 2) with
      | true =>
        rw [lkGo_yes so c h hs]
        exact ih _ _ _ (by omega) (by omega) (by omega) h3 (fun i hi hin => hmono _ i hi hin hs)
      | false =>
        rw [lkGo_no so c h hs]
        refine ih _ _ _ (by omega) (by omega) hn (fun i hi => ?_) h4
        cases hi2 : so i with
        | false => rfl
        | true => have := hmono i (f + (e - f) / 2) (by omega) (by omega) hi2; rw [hs] at this; cases this
    · rw [lkGo_end so c h]
      exact ⟨h3, fun i hi hin => h4 i (by simp at hi; omega) hin⟩
theorem lk_parts (so : Nat → Bool) (n : Nat) (hmono : ∀ i j, i ≤ j → j < n → so i = true → so j = true) : (∀ i, i < (lk so n).1 → so i = false) ∧ (∀ i, (lk so n).1 ≤ i → i < n → so i = true) :=
  lkGo_parts so n hmono n 0 n 0 (by omega) (by omega) (by omega) (fun i hi => by omega) (fun i hi hin => by omega)
/-- what First asks, and what Above asks -/
def notLess (xs : List Int) (x : Int) (i : Nat) : Bool := decide (x ≤ xs.getD i 0)
def isMore (xs : List Int) (x : Int) (i : Nat) : Bool := decide (x < xs.getD i 0)
def firstP (xs : List Int) (x : Int) : Nat × Nat := lk (notLess xs x) xs.length
def aboveP (xs : List Int) (x : Int) : Nat × Nat := lk (isMore xs x) xs.length
end Go.Proofs.YtldmajifkmcdcaaGreat
/-
  Contracts of Go's own library that this seat's walks call, laid by the kit's program at this translation: a table of numbers and one application each. Conditions: those typed at each theorem.
-/
namespace Go.Proofs
open Go.Shelf
def Tryz.lays125_ren : Go.Shelf.Ren := ⟨fun | 125 => 32 | 128 => 60 | 129 => 61 | n => n, fun | 46 => 85 | 3 => 3 | 51 => 32 | 53 => 139 | 4 => 4 | 5 => 5 | 9 => 9 | n => n, fun | n => n⟩
theorem Tryz.lays125 : Go.Proofs.Lays.n125 Tryz.prog Tryz.lays125_ren := {
  mixed := by kernel_rfl
  f125 := Tryz.func32.trans (congrArg some (by kernel_rfl))
  f128 := Tryz.func60.trans (congrArg some (by kernel_rfl))
  f129 := Tryz.func61.trans (congrArg some (by kernel_rfl))
  t3 := Tryz.underlying3
  a3 := Tryz.isAgg3
  z3 := Tryz.sizeOf3
  v3 := Tryz.zeroValue3
  t4 := Tryz.underlying4
  a4 := Tryz.isAgg4
  z4 := Tryz.sizeOf4
  v4 := Tryz.zeroValue4
  t5 := Tryz.underlying5
  a5 := Tryz.isAgg5
  z5 := Tryz.sizeOf5
  v5 := Tryz.zeroValue5
  t9 := Tryz.underlying9
  a9 := Tryz.isAgg9
  z9 := Tryz.sizeOf9
  v9 := Tryz.zeroValue9
  t46 := Tryz.underlying85
  a46 := Tryz.isAgg85
  z46 := Tryz.sizeOf85
  v46 := Tryz.zeroValue85
  t51 := Tryz.underlying32
  a51 := Tryz.isAgg32
  z51 := Tryz.sizeOf32
  v51 := Tryz.zeroValue32
  t53 := Tryz.underlying139
  a53 := Tryz.isAgg139
  z53 := Tryz.sizeOf139
  v53 := Tryz.zeroValue139 }
theorem Tryz.bits_Len (x : Int) (w : World) (h0 : 0 ≤ x) (h1 : x ≤ 18446744073709551615) :
    Calls Tryz.prog 32 #[.int .u64 x] w fun e w' => e = .returned (.int .i64 (Lib.bitLen x.toNat)) ∧ w' = w := Any.bits_Len Tryz.lays125 x w h0 h1
end Go.Proofs
/-
  How often one is doubled: rank.Log, and the document's count. No condition but those typed at each theorem.
-/
namespace Go.Proofs.YtldmajifkmcdcaaGreat
open Go.RowKit
/-- how often 1 is doubled to be n at least, of any number -/
def lgI (n : Int) : Nat := lgN n.toNat
set_option maxRecDepth 100000 in
set_option maxHeartbeats 800000 in
theorem Log_any (n : Int) (w : World) (hn : n ≤ 9223372036854775807) :
    Calls Tryz.prog 16 #[.int .i64 n] w fun e w' => e = .returned (.int .i64 (lgI n)) ∧ w' = w := by
  by_cases h : n < 2
  · have h0 : lgI n = 0 := lg_small (by omega)
    rw [h0]
    clear h0
    go_enter Tryz.func16, Tryz.ntmps16
    go_wp2
    go_ret
    exact ⟨rfl, rfl⟩
  · obtain ⟨k, rfl⟩ : ∃ k : Nat, n = (k : Int) + 1 := ⟨(n - 1).toNat, by omega⟩
    have hL := fun X => Tryz.bits_Len k X (by omega) (by omega)
    have e1 : lgI ((k : Int) + 1) = Lib.bitLen k := by
      unfold lgI lgN
      rw [show ((k : Int) + 1).toNat - 1 = k by omega]
    rw [e1]
    have e2 : Lib.bitLen ((k : Int)).toNat = Lib.bitLen k := by rw [Int.toNat_natCast]
    rw [e2] at hL
    obtain ⟨b, hb⟩ : ∃ b, b = Lib.bitLen k := ⟨_, rfl⟩
    rw [← hb] at hL ⊢
    have HL := Lib.hid hL
    clear hL hb e1 e2
    have hk : (k : Int) ≤ 9223372036854775806 := by omega
    go_enter Tryz.func16, Tryz.ntmps16
    go_wp2_with (go_at_call 32; (with_reducible refine (HL.out _).mono ?_); rintro e w1 ⟨rfl, rfl⟩)
    go_ret
    exact ⟨rfl, rfl⟩
end Go.Proofs.YtldmajifkmcdcaaGreat
/-
  Where a number stands among others: First, and the search that it hands its question to. No condition but those typed at each theorem.
-/
namespace Go.Proofs.YtldmajifkmcdcaaGreat
open Go.RowKit
theorem getD_num (xs : List Int) (m : Nat) (h : m < xs.length) : xs[m]? = some (xs.getD m 0) := by
  rw [List.getD_eq_getElem?_getD, List.getElem?_eq_getElem h]
  rfl
set_option maxRecDepth 100000 in
set_option maxHeartbeats 800000 in
theorem fst1_any (w : World) (B C b off cap : Nat) (xs : List Int) (x : Int) (hbox : w.cell? ⟨B, 0, none⟩ = some (.slice (some ⟨b, off, none⟩) xs.length cap)) (hx : Ns w b off .i64 xs)
    (hnum : w.cell? ⟨C, 0, none⟩ = some (.int .i64 x)) (m : Nat) (hm : m < xs.length) :
    Calls Tryz.prog 92 #[.int .i64 m, .pointer (some ⟨B, 0, none⟩), .pointer (some ⟨C, 0, none⟩)] w fun e w' => e = .returned (.bool (notLess xs x m)) ∧ Below w.heap.size w w' := by
  obtain ⟨y, hy⟩ : ∃ y, y = xs.getD m 0 := ⟨_, rfl⟩
  have c0 : ∀ s : Wd (Bw w), s.w.cell? ⟨B, 0, none⟩ = some (.slice (some ⟨b, off, none⟩) xs.length cap) := fun s => Bw.cell s hbox
  have c1 : ∀ s : Wd (Bw w), s.w.cell? ⟨C, 0, none⟩ = some (.int .i64 x) := fun s => Bw.cell s hnum
  have c2 : ∀ s : Wd (Bw w), s.w.cell? ⟨b, off + m, none⟩ = some (.int .i64 y) := fun s => Bw.cell s (hx m y (by rw [hy]; exact getD_num xs m hm))
  have inst : Nonempty (Wd (Bw w)) := ⟨⟨w, Below.refl _ _⟩⟩
  have HY := Lib.hid hy
  clear hbox hx hnum hy
  go_enter Tryz.func92, Tryz.ntmps92
  go_upto_region 1 with fail
  refine wp_region_wd (Bw w) (by kernel_rfl) (by kernel_rfl) ((Below.refl _ w).drew) ?_
  repeat (first | go_big_quiet_step (fail) | quiet_step (fail))
  refine wpQuiet_nil ?_
  rintro _ ⟨s, rfl⟩
  go_wp2
  go_ret
  refine ⟨retb ?_, s.h⟩
  rw [notLess, ← HY.out]
set_option maxRecDepth 100000 in
set_option maxHeartbeats 1600000 in
theorem look_any (w : World) (g n : Nat) (lb : Array Value) (so : Nat → Bool) (eg : ∀ args w, (callFunc g args).run Tryz.prog w = .ok (.enter g args) w) (hn : n ≤ 17179869184)
    (hA : ∀ m, m < n → ∀ X, Below w.heap.size w X → Calls Tryz.prog g (#[.int .i64 (m : Nat)] ++ lb) X fun e w' => e = .returned (.bool (so m)) ∧ Below X.heap.size X w') :
    Calls Tryz.prog 91 #[.int .i64 n, .func (.func g) #[] lb] w fun e w' => e = .returned (.tuple #[.int .i64 (lk so n).1, .int .i64 (lk so n).2]) ∧ Below w.heap.size w w' := by
  obtain ⟨P, hP⟩ : ∃ P, P = lk so n := ⟨_, rfl⟩
  rw [← hP]
  have HP := Lib.hid (show lkGo so 0 n 0 = P from hP.symm)
  have HA := Lib.hid hA
  clear hP hA
  go_enter Tryz.func91, Tryz.ntmps91
  go_wp2
  go_loopw [6, 7, 8] (fun f e c wr => ∃ i j k : Nat, f = .int .i64 i ∧ e = .int .i64 j ∧ c = .int .i64 k ∧ i ≤ j ∧ j ≤ n ∧ k + j ≤ i + n ∧ Hid (lkGo so i j k = P) ∧ Hid (Below w.heap.size w wr)) (fun f e _ _ => (intOf e).toNat - (intOf f).toNat)
  case atStart => exact ⟨0, n, 0, rfl, rfl, rfl, by omega, by omega, by omega, HP, Lib.hid (Below.refl _ _)⟩
  case round =>
    obtain ⟨i, j, k, rfl, rfl, rfl, hij, hjn, hk, HL, HB⟩ := hrel
    by_cases h : i < j
    · have hz : (i : Int) < j := by omega
      obtain ⟨h2, hh2⟩ : ∃ h2, h2 = (j - i) / 2 := ⟨_, rfl⟩
      have e1 : ((j : Int) - i) / 2 = (h2 : Int) := by omega
      have hb : i + h2 < j := by omega
      have HC := Lib.hid (fun X hX => HA.out (i + h2) (by omega) X hX)
      have HH := Lib.hid hh2
      clear hh2
      cases hs : so (i + h2) with
      | true =>
        rw [hs] at HC
        have HL2 := Lib.hid (show lkGo so i (i + h2) (k + 1) = P by rw [← HL.out, HH.out]; rw [HH.out] at hs; exact (lkGo_yes so k h hs).symm)
        clear hs HL
        go_wp2_with (go_at_fn g; refine (HC.out _ HB.out).mono ?_; rintro e w1 ⟨rfl, hb1⟩; have HB1 := Lib.hid (HB.out.trans (hb1.mono HB.out.size)); clear hb1)
        go_roundw
        case rel => exact ⟨i, i + h2, k + 1, rfl, by go_num, by go_num, by omega, by omega, by omega, HL2, HB1⟩
        case measure => simp [intOf]; omega
      | false =>
        rw [hs] at HC
        have HL2 := Lib.hid (show lkGo so (i + h2 + 1) j (k + 1) = P by rw [← HL.out, HH.out]; rw [HH.out] at hs; exact (lkGo_no so k h hs).symm)
        clear hs HL
        go_wp2_with (go_at_fn g; refine (HC.out _ HB.out).mono ?_; rintro e w1 ⟨rfl, hb1⟩; have HB1 := Lib.hid (HB.out.trans (hb1.mono HB.out.size)); clear hb1)
        go_roundw
        case rel => exact ⟨i + h2 + 1, j, k + 1, by go_num, rfl, by go_num, by omega, by omega, by omega, HL2, HB1⟩
        case measure => simp [intOf]; omega
    · have hz : ¬ (i : Int) < j := by omega
      go_wp2
      go_ret2
      have h4 := HL.out
      rw [lkGo_end so k h] at h4
      subst h4
      exact ⟨rfl, HB.out⟩
theorem egF : ∀ args w, (callFunc 92 args).run Tryz.prog w = .ok (.enter 92 args) w := enters_of Tryz.func92 (by kernel_rfl) rfl
/-- place and how many were looked at, as they are told -/
def two (P : Nat × Nat) : Value := .tuple #[.int .i64 P.1, .int .i64 P.2]
set_option maxRecDepth 100000 in
set_option maxHeartbeats 800000 in
theorem First_any (w : World) (p : Option Addr) (cap : Nat) (xs : List Int) (x : Int) (hx : NS w p .i64 xs) (hn : xs.length ≤ 100000) :
    Calls Tryz.prog 62 #[.slice p xs.length cap, .int .i64 x] w fun e w' => e = .returned (two (firstP xs x)) ∧ Below w.heap.size w w' := by
  have hmf : ∀ (fn : Fn) (first cap : Array Value) (w : World), (Instr.makeFunc fn first cap).run Tryz.prog w = .ok (.func fn first cap) w := fun _ _ _ _ => rfl
  obtain ⟨W, hW⟩ : ∃ W, W = (w.alloc (.cells #[.slice p xs.length cap] 62)).alloc (.cells #[.int .i64 x] 2) := ⟨_, rfl⟩
  have hWb : Below w.heap.size w W := by subst hW; exact ((Below.refl _ w).alloc (Nat.le_refl _) _).alloc (by simp) _
  have hbox : W.cell? ⟨w.heap.size, 0, none⟩ = some (.slice p xs.length cap) := by subst hW; rw [World.cell?_alloc_lt _ _ _ (by simp)]; simp
  have hnum : W.cell? ⟨w.heap.size + 1, 0, none⟩ = some (.int .i64 x) := by subst hW; simp
  have hxW := hx.keep hWb
  have HC := Lib.hid (look_any W 92 xs.length #[.pointer (some ⟨w.heap.size, 0, none⟩), .pointer (some ⟨w.heap.size + 1, 0, none⟩)] (notLess xs x) egF (by omega) (by
    intro m hm X hX
    rcases hxW with rfl | ⟨b, off, rfl, h⟩
    · simp at hm
    · exact fst1_any X w.heap.size (w.heap.size + 1) b off cap xs x ((hX.cell (World.block_lt_of_cell? W _ hbox)).trans hbox) (h.keep hX) ((hX.cell (World.block_lt_of_cell? W _ hnum)).trans hnum) m hm))
  have hP : firstP xs x = lk (notLess xs x) xs.length := rfl
  rw [← hP] at HC
  obtain ⟨P, hPP⟩ : ∃ P, P = firstP xs x := ⟨_, rfl⟩
  obtain ⟨n, hnn⟩ : ∃ n, n = xs.length := ⟨_, rfl⟩
  rw [← hPP, ← hnn] at HC
  rw [← hPP, ← hnn]
  rw [← hnn] at hbox hW
  have HWb := Lib.hid hWb
  clear hWb hP hPP hnn hnum hx hxW hn
  go_enter Tryz.func62, Tryz.ntmps62
  go_upto_region 1 with fail
  rw [← hW]
  clear hW
  go_wp2_with (go_at_call 91; (with_reducible refine HC.out.mono ?_); rintro e w1 ⟨rfl, hb1⟩; have HB1 := Lib.hid (HWb.out.trans (hb1.mono HWb.out.size)); clear hb1)
  go_ret2
  exact ⟨rfl, HB1.out⟩
end Go.Proofs.YtldmajifkmcdcaaGreat
