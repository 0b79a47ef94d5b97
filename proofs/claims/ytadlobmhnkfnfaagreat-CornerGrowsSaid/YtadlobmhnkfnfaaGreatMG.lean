/-
  Corners, and what is over a point, or under it, as boxes; plain words. No condition but those typed at each theorem.
-/
import Derived.Test.YtadlobmhnkfnfaaGreatME
import Derived.Test.YtadlobmhnkfnfaaGreatMP
import Derived.Test.YtadlobmhnkfnfaaGreatMQ
import Derived.Test.YtadlobmhnkfnfaaGreatBd
import Derived.Test.YtadlobmhnkfnfaaGreatLt
import Derived.Test.YtadlobmhnkfnfaaGreatMBa
import Derived.Test.YtadlobmhnkfnfaaGreatAd
namespace Go.Proofs.YtadlobmhnkfnfaaGreat.Co
open Go.RowKit
theorem i64_in {x : Int} (h : (Lit.int .i64 x).wf = true) : -9223372036854775808 ≤ x ∧ x ≤ 9223372036854775807 := by
  simpa [Lit.wf, show IntKind.i64.min = -9223372036854775808 from rfl, show IntKind.i64.max = 9223372036854775807 from rfl] using h
theorem wf_lo : (Lit.int .i64 (-9223372036854775808)).wf = true := by decide
theorem wf_hi : (Lit.int .i64 9223372036854775807).wf = true := by decide
theorem wf_no : (Lit.int .u32 0).wf = true := by decide
/-- the numbers from n on, that way -/
def frS (n : Int) (up : Bool) : Int × Int := if up then (n, 9223372036854775807) else (-9223372036854775808, n)
/-- the same, but for n -/
def paS (n : Int) (up : Bool) : Int × Int :=
  if (frS n up).1 = (frS n up).2 then (1, 0) else if up then ((frS n up).1 + 1, (frS n up).2) else ((frS n up).1, (frS n up).2 - 1)
/-- the box of these sides -/
def bxS (x y : Int × Int) : B5 := ((x.1, x.2, y.1, y.2), 0)
/-- is a number of a side? -/
def inS (s : Int × Int) (n : Int) : Bool := decide (s.1 ≤ n) && decide (n ≤ s.2)
/-- a side's numbers are in range -/
def WfS (s : Int × Int) : Prop := (Lit.int .i64 s.1).wf = true ∧ (Lit.int .i64 s.2).wf = true
theorem in_fr {n : Int} (x : Int) (up : Bool) (h : (Lit.int .i64 n).wf = true) : inS (frS x up) n = onB n x up := by
  obtain ⟨h1, h2⟩ := i64_in h
  cases up
  · rw [onB_down]
    simp [inS, frS, h1]
  · rw [onB_up]
    simp only [inS, frS, if_true]
    rw [decide_eq_true (show n ≤ 9223372036854775807 by omega), Bool.and_true]
theorem in_pa {n : Int} (x : Int) (up : Bool) (h : (Lit.int .i64 n).wf = true) (hx : (Lit.int .i64 x).wf = true) : inS (paS x up) n = if up then decide (x < n) else decide (n < x) := by
  obtain ⟨h1, h2⟩ := i64_in h
  obtain ⟨x1, x2⟩ := i64_in hx
  rw [Bool.eq_iff_iff]
  cases up
  · simp only [Bool.false_eq_true, if_false, decide_eq_true_eq]
    unfold paS
    simp only [frS, Bool.false_eq_true, if_false]
    by_cases hm : -9223372036854775808 = x
    · rw [if_pos hm]
      simp only [inS, Bool.and_eq_true, decide_eq_true_eq]
      omega
    · rw [if_neg hm]
      simp only [inS, Bool.and_eq_true, decide_eq_true_eq]
      omega
  · simp only [if_true, decide_eq_true_eq]
    unfold paS
    simp only [frS, if_true]
    by_cases hm : x = 9223372036854775807
    · rw [if_pos hm]
      simp only [inS, Bool.and_eq_true, decide_eq_true_eq]
      omega
    · rw [if_neg hm]
      simp only [inS, Bool.and_eq_true, decide_eq_true_eq]
      omega
theorem fr_wf {n : Int} (up : Bool) (h : (Lit.int .i64 n).wf = true) : WfS (frS n up) := by
  cases up
  · exact ⟨wf_lo, h⟩
  · exact ⟨h, wf_hi⟩
theorem pa_wf {n : Int} (up : Bool) (h : (Lit.int .i64 n).wf = true) : WfS (paS n up) := by
  obtain ⟨x1, x2⟩ := i64_in h
  unfold paS
  cases up
  · simp only [frS, Bool.false_eq_true, if_false]
    by_cases hm : -9223372036854775808 = n
    · rw [if_pos hm]; exact ⟨by decide, by decide⟩
    · rw [if_neg hm]; exact ⟨wf_lo, WalkArith.wf_i64 (by omega)⟩
  · simp only [frS, if_true]
    by_cases hm : n = 9223372036854775807
    · rw [if_pos hm]; exact ⟨by decide, by decide⟩
    · rw [if_neg hm]; exact ⟨WalkArith.wf_i64 (by omega), wf_hi⟩
theorem bx_wf {x y : Int × Int} (hx : WfS x) (hy : WfS y) : Wf5 (bxS x y) := ⟨⟨hx.1, hx.2, hy.1, hy.2⟩, wf_no⟩
theorem hs_bx (x y : Int × Int) (s : S3) : hsB (bxS x y).1 s = (inS x s.1 && inS y s.2.1) := by
  unfold hsB bxS inS
  simp only [Bool.and_assoc]
/-- a corner's box -/
def coX (x y : Int) (way : Nat) : B5 := bxS (frS x (decide (way % 2 = 1))) (frS y (decide (2 ≤ way)))
theorem co_wf {x y : Int} (way : Nat) (hx : (Lit.int .i64 x).wf = true) (hy : (Lit.int .i64 y).wf = true) : Wf5 (coX x y way) := bx_wf (fr_wf _ hx) (fr_wf _ hy)
theorem co_is {A : List S3} (hA : ∀ s ∈ A, Wf3 s) (x y : Int) {way : Nat} (hw : way < 4) : hsS A (coX x y way).1 = nmS (coB x y way) A := by
  rw [hs_nm]
  refine nmS_congr (fun s hs => ?_)
  obtain ⟨h1, h2, -⟩ := hA s hs
  rw [coX, hs_bx, in_fr _ _ h1, in_fr _ _ h2, coB, decide_eq_true hw, Bool.true_and]
theorem co_not {A : List S3} (x y : Int) {way : Nat} (hw : ¬ way < 4) : nmS (coB x y way) A = [] :=
  nmS_none (fun s _ => by rw [coB, decide_eq_false hw, Bool.false_and, Bool.false_and])
/-- the two boxes of what is over a point (up), or under it -/
def byX (p : S3) (up : Bool) : List B5 := [bxS (paS p.1 up) (frS p.2.1 up), bxS (p.1, p.1) (paS p.2.1 up)]
/-- is a point over, or under it? -/
def byB (p : S3) (up : Bool) (q : S3) : Bool := if up then ovB q p else ovB p q
theorem by_wf {p : S3} (up : Bool) (h : Wf3 p) : ∀ b ∈ byX p up, Wf5 b := by
  intro b hb
  simp only [byX, List.mem_cons, List.not_mem_nil, or_false] at hb
  rcases hb with rfl | rfl
  · exact bx_wf (pa_wf _ h.1) (fr_wf _ h.2.1)
  · exact bx_wf ⟨h.1, h.1⟩ (pa_wf _ h.2.1)
/-- the names that some boxes have, box by box -/
def tot (A : List S3) (Bs : List B5) : List Int := Bs.flatMap (fun b => hsS A b.1)
theorem tot_snoc (A : List S3) (Bs : List B5) (b : B5) : tot A (Bs ++ [b]) = tot A Bs ++ hsS A b.1 := by simp [tot]
theorem tot_one (A : List S3) (b : B5) : tot A [b] = hsS A b.1 := by simp [tot]
theorem tot_len (A : List S3) : ∀ Bs : List B5, (tot A Bs).length ≤ Bs.length * A.length := by
  intro Bs
  induction Bs with
  | nil => simp [tot]
  | cons b Bs ih =>
    have h1 := hsS_len A b.1
    have e : tot A (b :: Bs) = hsS A b.1 ++ tot A Bs := by simp [tot]
    rw [e, List.length_append, List.length_cons, Nat.add_mul, Nat.one_mul]
    omega
theorem by_perm {A : List S3} (hA : ∀ s ∈ A, Wf3 s) {p : S3} (hp : Wf3 p) (up : Bool) : (tot A (byX p up)).Perm (nmS (byB p up) A) := by
  have e : tot A (byX p up) = hsS A (bxS (paS p.1 up) (frS p.2.1 up)).1 ++ hsS A (bxS (p.1, p.1) (paS p.2.1 up)).1 := by simp [tot, byX]
  rw [e]
  refine nmS_two (f := hsB (bxS (paS p.1 up) (frS p.2.1 up)).1) (g := hsB (bxS (p.1, p.1) (paS p.2.1 up)).1) (fun s hs => ?_) (List.Perm.refl _) (List.Perm.refl _)
  obtain ⟨h1, h2, -⟩ := hA s hs
  rw [hs_bx, hs_bx, in_pa _ _ h1 hp.1, in_fr _ _ h2, in_pa _ _ h2 hp.2.1]
  obtain ⟨px, py, pi⟩ := p
  obtain ⟨qx, qy, qi⟩ := s
  cases up
  · rw [onB_down]
    simp only [byB, ovB, inS, Bool.false_eq_true, if_false]
    rw [Bool.eq_iff_iff]
    simp only [Bool.and_eq_true, Bool.or_eq_true, decide_eq_true_eq]
    omega
  · rw [onB_up]
    simp only [byB, ovB, inS, if_true]
    rw [Bool.eq_iff_iff]
    simp only [Bool.and_eq_true, Bool.or_eq_true, decide_eq_true_eq]
    omega
theorem nsort_nmS (f : S3 → Bool) (A : List S3) : nsort (nmS f A) = nmS f A := sorted_unique (nsort_perm _) (nsort_sorted _) (nsort_sorted _)
theorem nsort_hsS (A : List S3) (b : B4) : nsort (hsS A b) = hsS A b := sorted_unique (nsort_perm _) (nsort_sorted _) (nsort_sorted _)
theorem by_is {A : List S3} (hA : ∀ s ∈ A, Wf3 s) {p : S3} (hp : Wf3 p) (up : Bool) : nsort (tot A (byX p up)) = nmS (byB p up) A := by
  rw [nsort_eq (by_perm hA hp up), nsort_nmS]
end Go.Proofs.YtadlobmhnkfnfaaGreat.Co
/-
  Sides and boxes of corners, as the program makes them. No condition but those typed at each theorem.
-/
namespace Go.Proofs.YtadlobmhnkfnfaaGreat.Co
open Go.RowKit
theorem wrapO {a : Int} (h : -9223372036854775808 ≤ a ∧ a ≤ 9223372036854775807) : IntKind.i64.wrap a = a := by
  exact IntWalk.i64_in _ (by omega)
/-- a side by value -/
def sv (s : Int × Int) : Value := .agg #[.int .i64 s.1, .int .i64 s.2]
set_option maxRecDepth 100000 in
theorem at_any (w : World) (n : Int) : Calls Tryz.prog 56 #[.int .i64 n] w fun e w' => e = .returned (sv (n, n)) ∧ Below w.heap.size w w' := by
  go_enter Tryz.func56, Tryz.ntmps56
  go_wp2
  refine bodyPost_ret (v := sv (n, n)) ?_ rfl ⟨rfl, ?_⟩
  · simp [results, Tryz.f56, go_sem, sv]
  · exact (Below.refl _ w).alloc (Nat.le_refl _) _
set_option maxRecDepth 100000 in
theorem from_any (w : World) (n : Int) (up : Bool) : Calls Tryz.prog 49 #[.int .i64 n, .bool up] w fun e w' => e = .returned (sv (frS n up)) ∧ Below w.heap.size w w' := by
  cases up
  · go_enter Tryz.func49, Tryz.ntmps49
    go_wp2
    refine bodyPost_ret (v := sv (frS n false)) ?_ rfl ⟨rfl, ?_⟩
    · simp [results, Tryz.f49, go_sem, sv, frS]
    · exact (Below.refl _ w).alloc (Nat.le_refl _) _
  · go_enter Tryz.func49, Tryz.ntmps49
    go_wp2
    refine bodyPost_ret (v := sv (frS n true)) ?_ rfl ⟨rfl, ?_⟩
    · simp [results, Tryz.f49, go_sem, sv, frS]
    · exact (Below.refl _ w).alloc (Nat.le_refl _) _
set_option maxRecDepth 100000 in
theorem box_any (w : World) (x y : Int × Int) : Calls Tryz.prog 48 #[sv x, sv y] w fun e w' => e = .returned (bv (bxS x y)) ∧ Below w.heap.size w w' := by
  obtain ⟨x1, x2⟩ := x
  obtain ⟨y1, y2⟩ := y
  unfold sv
  simp only
  go_enter Tryz.func48, Tryz.ntmps48
  go_wp2
  refine bodyPost_ret (v := bv (bxS (x1, x2) (y1, y2))) ?_ rfl ⟨rfl, ?_⟩
  · simp [results, Tryz.f48, go_sem, bv, bxS]
  · exact (((Below.refl _ w).alloc (Nat.le_refl _) _).alloc (by simp) _).alloc (by simp; omega) _
set_option maxRecDepth 100000 in
set_option maxHeartbeats 1600000 in
theorem past_any (w : World) (n : Int) (up : Bool) (hn : (Lit.int .i64 n).wf = true) : Calls Tryz.prog 55 #[.int .i64 n, .bool up] w fun e w' => e = .returned (sv (paS n up)) ∧ Below w.heap.size w w' := by
  obtain ⟨h1, h2⟩ := i64_in hn
  have HF := Lib.hid (fun X => from_any X n up)
  cases up
  · unfold frS sv at HF
    simp only [Bool.false_eq_true, if_false] at HF
    by_cases hm : -9223372036854775808 = n
    · have HP := Lib.hid (show paS n false = (1, 0) by unfold paS frS; simp [hm])
      have hmz : (-9223372036854775808 == n) = true := by simpa using hm
      rw [HP.out]
      clear hn hm
      go_enter Tryz.func55, Tryz.ntmps55
      have HE := Lib.hid (show EV 102 (w.alloc (.cells #[.int .i64 0, .int .i64 0] 102)) w.heap.size [.int .i64 0, .int .i64 0] from heap_alloc_new w _)
      go_wp2_with (go_at_call 49; (with_reducible refine (HF.out _).mono ?_); rintro e w1 ⟨rfl, hb⟩; have HB := Lib.hid (((Below.refl _ w).alloc (Nat.le_refl _) _).trans (hb.mono (by simp)) : Below w.heap.size w w1); have HE := Lib.hid (EV.keep HE.out hb (EV.lt HE.out)); have c0 := EV.cell HE.out (i := 0) rfl; have c1 := EV.cell HE.out (i := 1) rfl; have f0 := EV.free HE.out; have hs := EV.lt HE.out; clear hb)
      have e0 : ∀ a b o, (((w1.setCell ⟨w.heap.size, 0, none⟩ a).setCell ⟨w.heap.size, 1, none⟩ b).alloc o).cell? ⟨w.heap.size, 0, none⟩ = some a := fun a b o => EV.cell (EV.all (EV.set (EV.set HE.out 0 a) 1 b) o) (i := 0) rfl
      have e1 : ∀ a b o, (((w1.setCell ⟨w.heap.size, 0, none⟩ a).setCell ⟨w.heap.size, 1, none⟩ b).alloc o).cell? ⟨w.heap.size, 1, none⟩ = some b := fun a b o => EV.cell (EV.all (EV.set (EV.set HE.out 0 a) 1 b) o) (i := 1) rfl
      refine bodyPost_ret (v := sv (1, 0)) ?_ rfl ⟨rfl, ?_⟩
      · simp [results, Tryz.f55, go_sem, sv, e0, e1]
      · exact ((HB.out.setCell (Nat.le_refl _) _).setCell (Nat.le_refl _) _).alloc (by simp; omega) _
    · have HP := Lib.hid (show paS n false = (-9223372036854775808, n - 1) by unfold paS frS; simp [hm])
      have hmz : (-9223372036854775808 == n) = false := by simpa using hm
      have hw1 : IntKind.i64.wrap (n - 1) = n - 1 := wrapO (by omega)
      rw [HP.out]
      clear hn hm
      go_enter Tryz.func55, Tryz.ntmps55
      have HE := Lib.hid (show EV 102 (w.alloc (.cells #[.int .i64 0, .int .i64 0] 102)) w.heap.size [.int .i64 0, .int .i64 0] from heap_alloc_new w _)
      go_wp2_with (go_at_call 49; (with_reducible refine (HF.out _).mono ?_); rintro e w1 ⟨rfl, hb⟩; have HB := Lib.hid (((Below.refl _ w).alloc (Nat.le_refl _) _).trans (hb.mono (by simp)) : Below w.heap.size w w1); have HE := Lib.hid (EV.keep HE.out hb (EV.lt HE.out)); have c0 := EV.cell HE.out (i := 0) rfl; have c1 := EV.cell HE.out (i := 1) rfl; have f0 := EV.free HE.out; have hs := EV.lt HE.out; clear hb)
      have e0 : ∀ a b o, (((w1.setCell ⟨w.heap.size, 0, none⟩ a).setCell ⟨w.heap.size, 1, none⟩ b).alloc o).cell? ⟨w.heap.size, 0, none⟩ = some a := fun a b o => EV.cell (EV.all (EV.set (EV.set HE.out 0 a) 1 b) o) (i := 0) rfl
      have e1 : ∀ a b o, (((w1.setCell ⟨w.heap.size, 0, none⟩ a).setCell ⟨w.heap.size, 1, none⟩ b).alloc o).cell? ⟨w.heap.size, 1, none⟩ = some b := fun a b o => EV.cell (EV.all (EV.set (EV.set HE.out 0 a) 1 b) o) (i := 1) rfl
      refine bodyPost_ret (v := sv (-9223372036854775808, n - 1)) ?_ rfl ⟨rfl, ?_⟩
      · simp [results, Tryz.f55, go_sem, sv, e0, e1]
      · exact ((HB.out.setCell (Nat.le_refl _) _).setCell (Nat.le_refl _) _).alloc (by simp; omega) _
  · unfold frS sv at HF
    simp only [if_true] at HF
    by_cases hm : n = 9223372036854775807
    · have HP := Lib.hid (show paS n true = (1, 0) by unfold paS frS; simp [hm])
      have hmz : (n == 9223372036854775807) = true := by simpa using hm
      rw [HP.out]
      clear hn hm
      go_enter Tryz.func55, Tryz.ntmps55
      have HE := Lib.hid (show EV 102 (w.alloc (.cells #[.int .i64 0, .int .i64 0] 102)) w.heap.size [.int .i64 0, .int .i64 0] from heap_alloc_new w _)
      go_wp2_with (go_at_call 49; (with_reducible refine (HF.out _).mono ?_); rintro e w1 ⟨rfl, hb⟩; have HB := Lib.hid (((Below.refl _ w).alloc (Nat.le_refl _) _).trans (hb.mono (by simp)) : Below w.heap.size w w1); have HE := Lib.hid (EV.keep HE.out hb (EV.lt HE.out)); have c0 := EV.cell HE.out (i := 0) rfl; have c1 := EV.cell HE.out (i := 1) rfl; have f0 := EV.free HE.out; have hs := EV.lt HE.out; clear hb)
      have e0 : ∀ a b o, (((w1.setCell ⟨w.heap.size, 0, none⟩ a).setCell ⟨w.heap.size, 1, none⟩ b).alloc o).cell? ⟨w.heap.size, 0, none⟩ = some a := fun a b o => EV.cell (EV.all (EV.set (EV.set HE.out 0 a) 1 b) o) (i := 0) rfl
      have e1 : ∀ a b o, (((w1.setCell ⟨w.heap.size, 0, none⟩ a).setCell ⟨w.heap.size, 1, none⟩ b).alloc o).cell? ⟨w.heap.size, 1, none⟩ = some b := fun a b o => EV.cell (EV.all (EV.set (EV.set HE.out 0 a) 1 b) o) (i := 1) rfl
      refine bodyPost_ret (v := sv (1, 0)) ?_ rfl ⟨rfl, ?_⟩
      · simp [results, Tryz.f55, go_sem, sv, e0, e1]
      · exact ((HB.out.setCell (Nat.le_refl _) _).setCell (Nat.le_refl _) _).alloc (by simp; omega) _
    · have HP := Lib.hid (show paS n true = (n + 1, 9223372036854775807) by unfold paS frS; simp [hm])
      have hmz : (n == 9223372036854775807) = false := by simpa using hm
      have hw1 : IntKind.i64.wrap (n + 1) = n + 1 := wrapO (by omega)
      rw [HP.out]
      clear hn hm
      go_enter Tryz.func55, Tryz.ntmps55
      have HE := Lib.hid (show EV 102 (w.alloc (.cells #[.int .i64 0, .int .i64 0] 102)) w.heap.size [.int .i64 0, .int .i64 0] from heap_alloc_new w _)
      go_wp2_with (go_at_call 49; (with_reducible refine (HF.out _).mono ?_); rintro e w1 ⟨rfl, hb⟩; have HB := Lib.hid (((Below.refl _ w).alloc (Nat.le_refl _) _).trans (hb.mono (by simp)) : Below w.heap.size w w1); have HE := Lib.hid (EV.keep HE.out hb (EV.lt HE.out)); have c0 := EV.cell HE.out (i := 0) rfl; have c1 := EV.cell HE.out (i := 1) rfl; have f0 := EV.free HE.out; have hs := EV.lt HE.out; clear hb)
      have e0 : ∀ a b o, (((w1.setCell ⟨w.heap.size, 0, none⟩ a).setCell ⟨w.heap.size, 1, none⟩ b).alloc o).cell? ⟨w.heap.size, 0, none⟩ = some a := fun a b o => EV.cell (EV.all (EV.set (EV.set HE.out 0 a) 1 b) o) (i := 0) rfl
      have e1 : ∀ a b o, (((w1.setCell ⟨w.heap.size, 0, none⟩ a).setCell ⟨w.heap.size, 1, none⟩ b).alloc o).cell? ⟨w.heap.size, 1, none⟩ = some b := fun a b o => EV.cell (EV.all (EV.set (EV.set HE.out 0 a) 1 b) o) (i := 1) rfl
      refine bodyPost_ret (v := sv (n + 1, 9223372036854775807)) ?_ rfl ⟨rfl, ?_⟩
      · simp [results, Tryz.f55, go_sem, sv, e0, e1]
      · exact ((HB.out.setCell (Nat.le_refl _) _).setCell (Nat.le_refl _) _).alloc (by simp; omega) _
set_option maxRecDepth 100000 in
set_option maxHeartbeats 1600000 in
/-- a corner's box, and that there is such a way -/
theorem corner_any (w : World) (x y : Int) {way : Nat} (hw : way < 4) : Calls Tryz.prog 32 #[.int .i64 x, .int .i64 y, .int .u8 way] w fun e w' => e = .returned (.tuple #[bv (coX x y way), .bool true]) ∧ Below w.heap.size w w' := by
  obtain rfl | rfl | rfl | rfl : way = 0 ∨ way = 1 ∨ way = 2 ∨ way = 3 := by omega
  · have HF1 := Lib.hid (fun X => from_any X x false)
    have HF2 := Lib.hid (fun X => from_any X y false)
    have HBX := Lib.hid (fun X => box_any X (frS x false) (frS y false))
    have HC := Lib.hid (show coX x y 0 = bxS (frS x false) (frS y false) from rfl)
    rw [HC.out]
    generalize sv (frS x false) = s1 at *
    generalize sv (frS y false) = s2 at *
    generalize bxS (frS x false) (frS y false) = b at *
    obtain ⟨⟨b0, b1, b2, b3⟩, b4⟩ := b
    clear HC
    go_enter Tryz.func32, Tryz.ntmps32
    have HE := Lib.hid (show EV 65 (w.alloc (.cells (bvs ((0, 0, 0, 0), 0)).toArray 65)) w.heap.size (bvs ((0, 0, 0, 0), 0)) from heap_alloc_new w _)
    have HB := Lib.hid ((Below.refl _ w).alloc (Nat.le_refl _) (.cells (bvs ((0, 0, 0, 0), 0)).toArray 65))
    unfold bv at HBX ⊢
    simp only at HBX ⊢
    go_wp2_with (first
      | (go_at_call 49; (with_reducible refine (HF1.out _).mono ?_); rintro e w1 ⟨rfl, hb⟩; have HB := Lib.hid (HB.out.trans (hb.mono HB.out.size)); have HE := Lib.hid (EV.keep HE.out hb (EV.lt HE.out)); clear hb)
      | (go_at_call 49; (with_reducible refine (HF2.out _).mono ?_); rintro e w1 ⟨rfl, hb⟩; have HB := Lib.hid (HB.out.trans (hb.mono HB.out.size)); have HE := Lib.hid (EV.keep HE.out hb (EV.lt HE.out)); clear hb)
      | (go_at_call 48; (with_reducible refine (HBX.out _).mono ?_); rintro e w3 ⟨rfl, hb⟩; have HB := Lib.hid (HB.out.trans (hb.mono HB.out.size)); have HE := Lib.hid (EV.keep HE.out hb (EV.lt HE.out)); clear hb; have c0 := EV.cell HE.out (i := 0) rfl; have c1 := EV.cell HE.out (i := 1) rfl; have c2 := EV.cell HE.out (i := 2) rfl; have c3 := EV.cell HE.out (i := 3) rfl; have c4 := EV.cell HE.out (i := 4) rfl; have f0 := EV.free HE.out))
    have hf := EV.set (EV.set (EV.set (EV.set (EV.set HE.out 0 (.int .i64 b0)) 1 (.int .i64 b1)) 2 (.int .i64 b2)) 3 (.int .i64 b3)) 4 (.int .u32 b4)
    have e0 := EV.cell hf (i := 0) rfl
    have e1 := EV.cell hf (i := 1) rfl
    have e2 := EV.cell hf (i := 2) rfl
    have e3 := EV.cell hf (i := 3) rfl
    have e4 := EV.cell hf (i := 4) rfl
    refine bodyPost_ret (v := .tuple #[.agg #[.int .i64 b0, .int .i64 b1, .int .i64 b2, .int .i64 b3, .int .u32 b4], .bool true]) ?_ rfl ⟨rfl, ((((HB.out.setCell (Nat.le_refl _) _).setCell (Nat.le_refl _) _).setCell (Nat.le_refl _) _).setCell (Nat.le_refl _) _).setCell (Nat.le_refl _) _⟩
    simp only [results, show Tryz.f32.results = #[.cell 6 65, .tmp 7] from rfl]
    simp [go_sem, asAddr, e0, e1, e2, e3, e4]
  · have HF1 := Lib.hid (fun X => from_any X x true)
    have HF2 := Lib.hid (fun X => from_any X y false)
    have HBX := Lib.hid (fun X => box_any X (frS x true) (frS y false))
    have HC := Lib.hid (show coX x y 1 = bxS (frS x true) (frS y false) from rfl)
    rw [HC.out]
    generalize sv (frS x true) = s1 at *
    generalize sv (frS y false) = s2 at *
    generalize bxS (frS x true) (frS y false) = b at *
    obtain ⟨⟨b0, b1, b2, b3⟩, b4⟩ := b
    clear HC
    go_enter Tryz.func32, Tryz.ntmps32
    have HE := Lib.hid (show EV 65 (w.alloc (.cells (bvs ((0, 0, 0, 0), 0)).toArray 65)) w.heap.size (bvs ((0, 0, 0, 0), 0)) from heap_alloc_new w _)
    have HB := Lib.hid ((Below.refl _ w).alloc (Nat.le_refl _) (.cells (bvs ((0, 0, 0, 0), 0)).toArray 65))
    unfold bv at HBX ⊢
    simp only at HBX ⊢
    go_wp2_with (first
      | (go_at_call 49; (with_reducible refine (HF1.out _).mono ?_); rintro e w1 ⟨rfl, hb⟩; have HB := Lib.hid (HB.out.trans (hb.mono HB.out.size)); have HE := Lib.hid (EV.keep HE.out hb (EV.lt HE.out)); clear hb)
      | (go_at_call 49; (with_reducible refine (HF2.out _).mono ?_); rintro e w1 ⟨rfl, hb⟩; have HB := Lib.hid (HB.out.trans (hb.mono HB.out.size)); have HE := Lib.hid (EV.keep HE.out hb (EV.lt HE.out)); clear hb)
      | (go_at_call 48; (with_reducible refine (HBX.out _).mono ?_); rintro e w3 ⟨rfl, hb⟩; have HB := Lib.hid (HB.out.trans (hb.mono HB.out.size)); have HE := Lib.hid (EV.keep HE.out hb (EV.lt HE.out)); clear hb; have c0 := EV.cell HE.out (i := 0) rfl; have c1 := EV.cell HE.out (i := 1) rfl; have c2 := EV.cell HE.out (i := 2) rfl; have c3 := EV.cell HE.out (i := 3) rfl; have c4 := EV.cell HE.out (i := 4) rfl; have f0 := EV.free HE.out))
    have hf := EV.set (EV.set (EV.set (EV.set (EV.set HE.out 0 (.int .i64 b0)) 1 (.int .i64 b1)) 2 (.int .i64 b2)) 3 (.int .i64 b3)) 4 (.int .u32 b4)
    have e0 := EV.cell hf (i := 0) rfl
    have e1 := EV.cell hf (i := 1) rfl
    have e2 := EV.cell hf (i := 2) rfl
    have e3 := EV.cell hf (i := 3) rfl
    have e4 := EV.cell hf (i := 4) rfl
    refine bodyPost_ret (v := .tuple #[.agg #[.int .i64 b0, .int .i64 b1, .int .i64 b2, .int .i64 b3, .int .u32 b4], .bool true]) ?_ rfl ⟨rfl, ((((HB.out.setCell (Nat.le_refl _) _).setCell (Nat.le_refl _) _).setCell (Nat.le_refl _) _).setCell (Nat.le_refl _) _).setCell (Nat.le_refl _) _⟩
    simp only [results, show Tryz.f32.results = #[.cell 6 65, .tmp 7] from rfl]
    simp [go_sem, asAddr, e0, e1, e2, e3, e4]
  · have HF1 := Lib.hid (fun X => from_any X x false)
    have HF2 := Lib.hid (fun X => from_any X y true)
    have HBX := Lib.hid (fun X => box_any X (frS x false) (frS y true))
    have HC := Lib.hid (show coX x y 2 = bxS (frS x false) (frS y true) from rfl)
    rw [HC.out]
    generalize sv (frS x false) = s1 at *
    generalize sv (frS y true) = s2 at *
    generalize bxS (frS x false) (frS y true) = b at *
    obtain ⟨⟨b0, b1, b2, b3⟩, b4⟩ := b
    clear HC
    go_enter Tryz.func32, Tryz.ntmps32
    have HE := Lib.hid (show EV 65 (w.alloc (.cells (bvs ((0, 0, 0, 0), 0)).toArray 65)) w.heap.size (bvs ((0, 0, 0, 0), 0)) from heap_alloc_new w _)
    have HB := Lib.hid ((Below.refl _ w).alloc (Nat.le_refl _) (.cells (bvs ((0, 0, 0, 0), 0)).toArray 65))
    unfold bv at HBX ⊢
    simp only at HBX ⊢
    go_wp2_with (first
      | (go_at_call 49; (with_reducible refine (HF1.out _).mono ?_); rintro e w1 ⟨rfl, hb⟩; have HB := Lib.hid (HB.out.trans (hb.mono HB.out.size)); have HE := Lib.hid (EV.keep HE.out hb (EV.lt HE.out)); clear hb)
      | (go_at_call 49; (with_reducible refine (HF2.out _).mono ?_); rintro e w1 ⟨rfl, hb⟩; have HB := Lib.hid (HB.out.trans (hb.mono HB.out.size)); have HE := Lib.hid (EV.keep HE.out hb (EV.lt HE.out)); clear hb)
      | (go_at_call 48; (with_reducible refine (HBX.out _).mono ?_); rintro e w3 ⟨rfl, hb⟩; have HB := Lib.hid (HB.out.trans (hb.mono HB.out.size)); have HE := Lib.hid (EV.keep HE.out hb (EV.lt HE.out)); clear hb; have c0 := EV.cell HE.out (i := 0) rfl; have c1 := EV.cell HE.out (i := 1) rfl; have c2 := EV.cell HE.out (i := 2) rfl; have c3 := EV.cell HE.out (i := 3) rfl; have c4 := EV.cell HE.out (i := 4) rfl; have f0 := EV.free HE.out))
    have hf := EV.set (EV.set (EV.set (EV.set (EV.set HE.out 0 (.int .i64 b0)) 1 (.int .i64 b1)) 2 (.int .i64 b2)) 3 (.int .i64 b3)) 4 (.int .u32 b4)
    have e0 := EV.cell hf (i := 0) rfl
    have e1 := EV.cell hf (i := 1) rfl
    have e2 := EV.cell hf (i := 2) rfl
    have e3 := EV.cell hf (i := 3) rfl
    have e4 := EV.cell hf (i := 4) rfl
    refine bodyPost_ret (v := .tuple #[.agg #[.int .i64 b0, .int .i64 b1, .int .i64 b2, .int .i64 b3, .int .u32 b4], .bool true]) ?_ rfl ⟨rfl, ((((HB.out.setCell (Nat.le_refl _) _).setCell (Nat.le_refl _) _).setCell (Nat.le_refl _) _).setCell (Nat.le_refl _) _).setCell (Nat.le_refl _) _⟩
    simp only [results, show Tryz.f32.results = #[.cell 6 65, .tmp 7] from rfl]
    simp [go_sem, asAddr, e0, e1, e2, e3, e4]
  · have HF1 := Lib.hid (fun X => from_any X x true)
    have HF2 := Lib.hid (fun X => from_any X y true)
    have HBX := Lib.hid (fun X => box_any X (frS x true) (frS y true))
    have HC := Lib.hid (show coX x y 3 = bxS (frS x true) (frS y true) from rfl)
    rw [HC.out]
    generalize sv (frS x true) = s1 at *
    generalize sv (frS y true) = s2 at *
    generalize bxS (frS x true) (frS y true) = b at *
    obtain ⟨⟨b0, b1, b2, b3⟩, b4⟩ := b
    clear HC
    go_enter Tryz.func32, Tryz.ntmps32
    have HE := Lib.hid (show EV 65 (w.alloc (.cells (bvs ((0, 0, 0, 0), 0)).toArray 65)) w.heap.size (bvs ((0, 0, 0, 0), 0)) from heap_alloc_new w _)
    have HB := Lib.hid ((Below.refl _ w).alloc (Nat.le_refl _) (.cells (bvs ((0, 0, 0, 0), 0)).toArray 65))
    unfold bv at HBX ⊢
    simp only at HBX ⊢
    go_wp2_with (first
      | (go_at_call 49; (with_reducible refine (HF1.out _).mono ?_); rintro e w1 ⟨rfl, hb⟩; have HB := Lib.hid (HB.out.trans (hb.mono HB.out.size)); have HE := Lib.hid (EV.keep HE.out hb (EV.lt HE.out)); clear hb)
      | (go_at_call 49; (with_reducible refine (HF2.out _).mono ?_); rintro e w1 ⟨rfl, hb⟩; have HB := Lib.hid (HB.out.trans (hb.mono HB.out.size)); have HE := Lib.hid (EV.keep HE.out hb (EV.lt HE.out)); clear hb)
      | (go_at_call 48; (with_reducible refine (HBX.out _).mono ?_); rintro e w3 ⟨rfl, hb⟩; have HB := Lib.hid (HB.out.trans (hb.mono HB.out.size)); have HE := Lib.hid (EV.keep HE.out hb (EV.lt HE.out)); clear hb; have c0 := EV.cell HE.out (i := 0) rfl; have c1 := EV.cell HE.out (i := 1) rfl; have c2 := EV.cell HE.out (i := 2) rfl; have c3 := EV.cell HE.out (i := 3) rfl; have c4 := EV.cell HE.out (i := 4) rfl; have f0 := EV.free HE.out))
    have hf := EV.set (EV.set (EV.set (EV.set (EV.set HE.out 0 (.int .i64 b0)) 1 (.int .i64 b1)) 2 (.int .i64 b2)) 3 (.int .i64 b3)) 4 (.int .u32 b4)
    have e0 := EV.cell hf (i := 0) rfl
    have e1 := EV.cell hf (i := 1) rfl
    have e2 := EV.cell hf (i := 2) rfl
    have e3 := EV.cell hf (i := 3) rfl
    have e4 := EV.cell hf (i := 4) rfl
    refine bodyPost_ret (v := .tuple #[.agg #[.int .i64 b0, .int .i64 b1, .int .i64 b2, .int .i64 b3, .int .u32 b4], .bool true]) ?_ rfl ⟨rfl, ((((HB.out.setCell (Nat.le_refl _) _).setCell (Nat.le_refl _) _).setCell (Nat.le_refl _) _).setCell (Nat.le_refl _) _).setCell (Nat.le_refl _) _⟩
    simp only [results, show Tryz.f32.results = #[.cell 6 65, .tmp 7] from rfl]
    simp [go_sem, asAddr, e0, e1, e2, e3, e4]
set_option maxRecDepth 100000 in
/-- there is no such way -/
theorem corner_no (w : World) (x y : Int) {way : Nat} (hw : ¬ way < 4) : Calls Tryz.prog 32 #[.int .i64 x, .int .i64 y, .int .u8 way] w fun e w' => e = .returned (.tuple #[bv ((0, 0, 0, 0), 0), .bool false]) ∧ Below w.heap.size w w' := by
  have hz : (3 : Int) < way := by omega
  go_enter Tryz.func32, Tryz.ntmps32
  go_wp2
  refine bodyPost_ret (v := .tuple #[bv ((0, 0, 0, 0), 0), .bool false]) ?_ rfl ⟨rfl, (Below.refl _ w).alloc (Nat.le_refl _) _⟩
  simp only [results, show Tryz.f32.results = #[.cell 6 65, .tmp 7] from rfl]
  simp [go_sem, asAddr, bv]
end Go.Proofs.YtadlobmhnkfnfaaGreat.Co
/-
  A tree that tells corners in memory; Len, Drop, Count. No condition but those typed at each theorem.
-/
namespace Go.Proofs.YtadlobmhnkfnfaaGreat.Co
open Go.RowKit
/-- a tree that tells corners: the block B, over a tree u with bridges that was built of n points, of which those of A are there -/
structure CnM (TS : World → Value → Nat → List Nat → List S3 → Prop) (w : World) (B : Nat) (u : Value) (n : Nat) (S : List Nat) (A : List S3) : Prop where
  ev : EV 59 w B [.pointer (some ⟨B, 0, none⟩), u]
  tr : TS w u n S A
  ap : B ∉ S
  wf : ∀ s ∈ A, Wf3 s
/-- the trees that Build answers -/
def TSk (TS : World → Value → Nat → List Nat → List S3 → Prop) (X : World) (v : Value) (n : Nat) (S : List Nat) (A : List S3) : Prop :=
  (∃ B u S0, v = .pointer (some ⟨B, 0, none⟩) ∧ CnM TS X B u n S0 A ∧ S = B :: S0) ∨ (v = .pointer none ∧ n = 0 ∧ S = [] ∧ A = [])
section
variable {TS : World → Value → Nat → List Nat → List S3 → Prop} {w w' : World} {B n : Nat} {u : Value} {S : List Nat} {A : List S3}
theorem CnM.off (C : Ca.CascC TS) (h : CnM TS w B u n S A) {T : List Nat} (g : Off T w w') (hB : B ∉ T) (hS : ∀ k ∈ S, k ∉ T) : CnM TS w' B u n S A :=
  ⟨h.ev.off g hB, C.keep h.tr g hS, h.ap, h.wf⟩
theorem CnM.keep (C : Ca.CascC TS) (h : CnM TS w B u n S A) (g : Below w.heap.size w w') : CnM TS w' B u n S A := h.off C (Off.of (S := []) g (Nat.le_refl _)) (by simp) (by simp)
theorem eqSameO (a : Addr) (w : World) : (binOp .eql 24 (.pointer (some a)) (.pointer (some a))).run Tryz.prog w = .ok (.bool true) w := by
  obtain ⟨j, hj⟩ := Option.isSome_iff_exists.1 (show (Tryz.prog.info? 59).isSome = true by kernel_rfl)
  exact run_eql_ptr_same w a Tryz.underlying24 hj
set_option maxRecDepth 100000 in
theorem omade_yes (h : CnM TS w B u n S A) : Calls Tryz.prog 25 #[.pointer (some ⟨B, 0, none⟩)] w fun e w' => e = .returned (.bool true) ∧ w' = w := by
  have c0 := h.ev.cell (i := 0) rfl
  have q := @eqSameO
  clear h
  go_enter Tryz.func25, Tryz.ntmps25
  go_wp2
  go_ret
  exact ⟨rfl, rfl⟩
set_option maxRecDepth 100000 in
theorem omade_nil (w : World) : Calls Tryz.prog 25 #[.pointer none] w fun e w' => e = .returned (.bool false) ∧ w' = w := by
  go_enter Tryz.func25, Tryz.ntmps25
  go_wp2
  go_ret
  exact ⟨rfl, rfl⟩
set_option maxRecDepth 100000 in
theorem olen_any (C : Ca.CascC TS) (h : CnM TS w B u n S A) : Calls Tryz.prog 12 #[.pointer (some ⟨B, 0, none⟩)] w fun e w' => e = .returned (.int .i64 A.length) ∧ Below w.heap.size w w' := by
  have HM := Lib.hid (omade_yes h)
  have HL := Lib.hid (C.len h.tr)
  have c1 := h.ev.cell (i := 1) rfl
  clear h
  go_enter Tryz.func12, Tryz.ntmps12
  go_wp2_with (first
    | (go_at_call 25; (with_reducible refine HM.out.mono ?_); rintro e wM ⟨rfl, hM⟩; subst wM)
    | (go_at_call 26; (with_reducible refine HL.out.mono ?_); rintro e w1 ⟨rfl, hb⟩; have HB := Lib.hid hb; clear hb))
  go_ret
  exact ⟨rfl, HB.out⟩
theorem olen_nil (w : World) : Calls Tryz.prog 12 #[.pointer none] w fun e w' => e = .returned (.int .i64 0) ∧ Below w.heap.size w w' := by
  have HM := Lib.hid (omade_nil w)
  go_enter Tryz.func12, Tryz.ntmps12
  go_wp2_with (go_at_call 25; (with_reducible refine HM.out.mono ?_); rintro e wM ⟨rfl, hM⟩; subst wM)
  go_ret
  exact ⟨rfl, Below.refl _ _⟩
set_option maxRecDepth 100000 in
set_option maxHeartbeats 1600000 in
theorem odrop_yes (C : Ca.CascC TS) (h : CnM TS w B u n S A) (s : S3) (hw : Wf3 s) : Calls Tryz.prog 15 #[.pointer (some ⟨B, 0, none⟩), tv s] w fun e w' => e = .returned (.bool (decide (s ∈ A))) ∧ ∃ S', CnM TS w' B u n S' (drp A s) ∧ Off S w w' ∧ ∀ k ∈ S', k ∈ S ∨ w.heap.size ≤ k := by
  have HM := Lib.hid (fun X (hb : Below w.heap.size w X) => omade_yes (h.keep C hb))
  have HD := Lib.hid (fun X (hb : Below w.heap.size w X) => C.drop s (h.keep C hb).tr hw)
  have H := Lib.hid h
  obtain ⟨W, hW⟩ : ∃ W, W = w.alloc (.cells (tvs s).toArray 33) := ⟨_, rfl⟩
  have hT := T1.new w s 33
  rw [← hW] at hT
  have hWB : Below w.heap.size w W := hW ▸ (Below.refl _ w).alloc (Nat.le_refl _) _
  have HWB := Lib.hid hWB
  have k0 := hT.c0
  have k1 := hT.c1
  have k2 := hT.c2
  have e1 := (h.keep C hWB).ev.cell (i := 1) rfl
  generalize hdd : decide (s ∈ A) = dd at *
  obtain ⟨x, y, id⟩ := s
  have HS := Lib.hid (show (Off S W W → True) from fun _ => trivial)
  unfold tv at HD ⊢
  unfold tvs at hW
  simp only [Nat.zero_add] at k0 k1 k2 HD hW ⊢
  clear h hT hWB HS
  go_enter Tryz.func15, Tryz.ntmps15
  go_upto_region 1 with fail
  rw [← hW]
  clear hW
  have inst : Nonempty (Wd (Bw W)) := ⟨⟨W, Below.refl _ _⟩⟩
  have b0 : ∀ z : Wd (Bw W), z.w.cell? ⟨w.heap.size, 0, none⟩ = _ := fun z => Bw.cell z k0
  have b1 : ∀ z : Wd (Bw W), z.w.cell? ⟨w.heap.size, 1, none⟩ = _ := fun z => Bw.cell z k1
  have b2 : ∀ z : Wd (Bw W), z.w.cell? ⟨w.heap.size, 2, none⟩ = _ := fun z => Bw.cell z k2
  have b3 : ∀ z : Wd (Bw W), z.w.cell? ⟨B, 1, none⟩ = _ := fun z => Bw.cell z e1
  have HMZ := Lib.hid (fun z : Wd (Bw W) => show Calls Tryz.prog 25 #[.pointer (some ⟨B, 0, none⟩)] z.w (fun e w' => e = .returned (.bool true) ∧ Below z.w.heap.size z.w w') from (HM.out z.w (HWB.out.trans (Below.mono z.h HWB.out.size))).mono (fun e w' h => ⟨h.1, by rw [h.2]; exact Below.refl _ _⟩))
  refine wp_region_qc (Bw W) 8 (by kernel_rfl) (by kernel_rfl) ((Below.refl _ W).drew) ?_
  simp only [List.take_succ_cons, List.take_zero, List.drop_succ_cons, List.drop_zero]
  repeat (first
    | go_big_quiet_step (first | (go_at_call 25; with_reducible exact calls_wd (fun _ _ h hb => h.keep hb) _ (HMZ.out _)))
    | quiet_step (first | (go_at_call 25; with_reducible exact calls_wd (fun _ _ h hb => h.keep hb) _ (HMZ.out _))))
  refine wpQuiet_nil ?_
  rintro _ ⟨z, rfl⟩
  have HZB := Lib.hid (HWB.out.trans (Below.mono z.h HWB.out.size))
  refine Bd.wpOp_callW rfl rfl (f := 30) (args := #[u, .agg #[.int .i64 x, .int .i64 y, .int .u32 id]]) (by simp [execOp, resolve, invoke, Act.eval, Deferred.ofValue, go_sem]) ?_
  refine (HD.out z.w HZB.out).mono ?_
  rintro e w5 ⟨rfl, S', hT5, ho5, hs5⟩
  refine ⟨_, rfl, ?_⟩
  have HT5 := Lib.hid hT5
  have HO5 := Lib.hid ho5
  have HS5 := Lib.hid hs5
  clear hT5 ho5 hs5 b0 b1 b2 b3 inst
  repeat (first | go_big_quiet_step (fail) | quiet_step (fail))
  refine wpQuiet_nil ?_
  go_wp2
  go_ret
  have hsz := HZB.out.size
  refine ⟨rfl, S', ⟨(H.out.ev.keep HZB.out H.out.ev.lt).off HO5.out H.out.ap, HT5.out, fun hin => ?_, fun t ht => H.out.wf t (List.mem_filter.1 ht).1⟩, (Off.of (S := S) HZB.out (Nat.le_refl _)).trans HO5.out, fun k hk => (HS5.out k hk).imp (fun h => h) (fun h => by omega)⟩
  rcases HS5.out B hin with h | h
  · exact H.out.ap h
  · have := H.out.ev.lt
    omega
set_option maxRecDepth 100000 in
theorem odrop_nil (w : World) (s : S3) : Calls Tryz.prog 15 #[.pointer none, tv s] w fun e w' => e = .returned (.bool false) ∧ Below w.heap.size w w' := by
  have HM := Lib.hid (fun X => show Calls Tryz.prog 25 #[.pointer none] X (fun e w' => e = .returned (.bool false) ∧ Below X.heap.size X w') from (omade_nil X).mono (fun e w' h => ⟨h.1, by rw [h.2]; exact Below.refl _ _⟩))
  obtain ⟨W, hW⟩ : ∃ W, W = w.alloc (.cells (tvs s).toArray 33) := ⟨_, rfl⟩
  have hWB : Below w.heap.size w W := hW ▸ (Below.refl _ w).alloc (Nat.le_refl _) _
  have HWB := Lib.hid hWB
  obtain ⟨x, y, id⟩ := s
  unfold tv
  unfold tvs at hW
  simp only at hW ⊢
  clear hWB
  go_enter Tryz.func15, Tryz.ntmps15
  go_upto_region 1 with fail
  rw [← hW]
  clear hW
  have inst : Nonempty (Wd (Bw W)) := ⟨⟨W, Below.refl _ _⟩⟩
  have HMZ := Lib.hid (fun z : Wd (Bw W) => HM.out z.w)
  refine wp_region_wd (Bw W) (by kernel_rfl) (by kernel_rfl) ((Below.refl _ W).drew) ?_
  repeat (first
    | go_big_quiet_step (first | (go_at_call 25; with_reducible exact calls_wd (fun _ _ h hb => h.keep hb) _ (HMZ.out _)))
    | quiet_step (first | (go_at_call 25; with_reducible exact calls_wd (fun _ _ h hb => h.keep hb) _ (HMZ.out _))))
  refine wpQuiet_nil ?_
  rintro _ ⟨z, rfl⟩
  have HZB := Lib.hid (HWB.out.trans (Below.mono z.h HWB.out.size))
  go_wp2
  go_ret
  exact ⟨rfl, HZB.out⟩
end
end Go.Proofs.YtadlobmhnkfnfaaGreat.Co
/-
  What some boxes have, gathered. No condition but those typed at each theorem.
-/
namespace Go.Proofs.YtadlobmhnkfnfaaGreat.Co
open Go.RowKit Bd
/-- a slice's first place, and the boxes that it has -/
def BxS (w : World) (p : Option Addr) (ns : List B5) : Prop := ns = [] ∨ ∃ b off, p = some ⟨b, off, none⟩ ∧ ∀ j n, ns[j]? = some n → X1 w b (off + j * 5) n
theorem BxS.keep {w w' : World} {p : Option Addr} {ns : List B5} (h : BxS w p ns) (hb : Below w.heap.size w w') : BxS w' p ns := by
  rcases h with h | ⟨b, off, rfl, h⟩
  · exact .inl h
  · exact .inr ⟨b, off, rfl, fun j n e => (h j n e).keep hb (h j n e).lt⟩
theorem BxS.at {w : World} {p : Option Addr} {ns : List B5} (h : BxS w p ns) {j : Nat} {n : B5} (e : ns[j]? = some n) : ∃ b off, p = some ⟨b, off, none⟩ ∧ X1 w b (off + j * 5) n := by
  rcases h with rfl | ⟨b, off, hp, h⟩
  · simp at e
  · exact ⟨b, off, hp, h j n e⟩
section
variable {TS : World → Value → Nat → List Nat → List S3 → Prop} {w : World} {B n : Nat} {u : Value} {S : List Nat} {A : List S3}
set_option maxRecDepth 100000 in
set_option maxHeartbeats 3200000 in
theorem gather_any (C : Ca.CascC TS) (h : CnM TS w B u n S A) (Bs : List B5) (p : Option Addr) (c : Nat) (hp : BxS w p Bs) (hl : Bs.length ≤ 2) (hw : ∀ b ∈ Bs, Wf5 b) :
    Calls Tryz.prog 33 #[.pointer (some ⟨B, 0, none⟩), .slice p Bs.length c] w fun e w' => (∃ r, ∃ t : Nat, e = .returned (.tuple #[r, .int .i64 t]) ∧ RL w' r (nsort (tot A Bs)) ∧ (tot A Bs).length ≤ t ∧ t ≤ (tot A Bs).length + Bs.length * most n) ∧ Below w.heap.size w w' := by
  obtain ⟨f1, f2, -⟩ := C.few h.tr
  have hA : A.length ≤ 400 := Nat.le_trans f1 f2
  have hlg : most n ≤ 520 := by
    unfold most
    by_cases h0 : n + 1 < 2
    · rw [lg_small h0]
      omega
    · have := (lg_spec (by omega : 2 ≤ n + 1) (by omega)).2.1
      omega
  have HM := Lib.hid (omade_yes h)
  have HRE := Lib.hid (fun X (b : B5) (hb : Below w.heap.size w X) (hw : Wf5 b) => C.report b (h.keep C hb).tr hw)
  have HU := Lib.hid (fun X (hb : Below w.heap.size w X) => (h.keep C hb).ev.cell (i := 1) rfl)
  have HP := Lib.hid hp
  have HW := Lib.hid hw
  have HTL := Lib.hid (fun k => tot_len A (Bs.take k))
  obtain ⟨d, hd⟩ : ∃ d, d = Bs.length := ⟨_, rfl⟩
  have HD := Lib.hid hd
  rw [← hd] at hl ⊢
  clear h hp hw hd f1 f2
  go_enter Tryz.func33, Tryz.ntmps33
  go_wp2_with (go_at_call 25; (with_reducible refine HM.out.mono ?_); rintro e wM ⟨rfl, hM⟩; subst wM)
  go_loopw [6, 7, 17] (fun v6 v7 v17 wr => ∃ k t : Nat, k ≤ d ∧ v17 = .int .i64 k ∧ v7 = .int .i64 t ∧ t ≤ 4000 ∧ Hid ((tot A (Bs.take k)).length ≤ t ∧ t ≤ (tot A (Bs.take k)).length + k * most n) ∧ Hid (wr.ownsRow w.heap.size 31 1 v6 (tot A (Bs.take k)).length ((tot A (Bs.take k)).map (Value.int .u32))) ∧ Hid (Below w.heap.size w wr)) (fun _ _ v _ => d - (intOf v).toNat)
  case atStart => exact ⟨0, 0, Nat.zero_le _, rfl, rfl, by omega, Lib.hid ⟨by simp [tot], by simp⟩, Lib.hid (World.ownsRow_nil _ _ _ _), Lib.hid (Below.refl _ _)⟩
  case round =>
    obtain ⟨k, t, hk, rfl, rfl, ht, HTT, HR, HB⟩ := hrel
    by_cases hlt : k < d
    · have hltz : (k : Int) < d := by omega
      obtain ⟨b, hbe⟩ : ∃ b, Bs[k]? = some b := ⟨_, List.getElem?_eq_getElem (by have := HD.out; omega)⟩
      obtain ⟨bb, off, rfl, h1⟩ := (HP.out.keep HB.out).at hbe
      have HWB := Lib.hid (HW.out b (List.mem_of_getElem? hbe))
      have HST := Lib.hid (show tot A (Bs.take (k + 1)) = tot A (Bs.take k) ++ hsS A b.1 by rw [List.take_add_one, hbe]; exact tot_snoc _ _ _)
      have hsl := hsS_len A b.1
      have htl := HTL.out k
      have n0 := h1.c0
      have n1 := h1.c1
      have n2 := h1.c2
      have n3 := h1.c3
      have n4 := h1.c4
      obtain ⟨W, hW⟩ : ∃ W, W = wr.alloc (.cells (bvs b).toArray 65) := ⟨_, rfl⟩
      have hX := X1.new wr b 65
      rw [← hW] at hX
      have HWW := Lib.hid (show Below wr.heap.size wr W by rw [hW]; exact (Below.refl _ wr).alloc (Nat.le_refl _) _)
      have HBW := Lib.hid (HB.out.trans (HWW.out.mono HB.out.size))
      have m0 := hX.c0
      have m1 := hX.c1
      have m2 := hX.c2
      have m3 := hX.c3
      have m4 := hX.c4
      have mu := HU.out W HBW.out
      have HRX := Lib.hid (fun X (hb : Below W.heap.size W X) => HRE.out X b (HBW.out.trans (hb.mono HBW.out.size)) HWB.out)
      have htk : (Bs.take k).length ≤ 2 := by rw [List.length_take]; omega
      have hta : (tot A (Bs.take k)).length ≤ 800 := by
        have : (Bs.take k).length * A.length ≤ 2 * 400 := Nat.mul_le_mul htk hA
        omega
      simp only [Nat.zero_add] at m0 m1 m2 m3 m4
      obtain ⟨⟨x1, x2, y1, y2⟩, bi⟩ := b
      unfold bvs at hW
      unfold bv at HRX
      simp only at n0 n1 n2 n3 n4 m0 m1 m2 m3 m4 hW HRX hsl HST
      have HW2 := Lib.hid hW
      generalize hsS A (x1, x2, y1, y2) = Z at *
      generalize hTT : tot A (Bs.take k) = T at *
      obtain ⟨zl, hzl⟩ : ∃ zl, zl = Z.length := ⟨_, rfl⟩
      have HZL := Lib.hid hzl
      obtain ⟨tl, htle⟩ : ∃ tl, tl = T.length := ⟨_, rfl⟩
      have HTE := Lib.hid htle
      have HRR := Lib.hid (show ∀ (Y : World) r, RL Y r Z → ∃ q c, r = .slice q zl c ∧ NS Y q .u32 Z ∧ (q = none → c = 0) from fun Y r h => by obtain ⟨q, c, h1, h2, h3, -⟩ := h; exact ⟨q, c, by rw [h1, hzl], h2, h3⟩)
      rw [← hzl] at hsl HRX
      rw [← htle] at hta HTT
      have HTL2 := Lib.hid htl
      clear h1 hbe hW hX htk hzl htle htl
      go_upto_region 8 with fail
      rw [← HW2.out]
      clear HW2 n0 n1 n2 n3 n4
      have inst : Nonempty (Wd (Bw W)) := ⟨⟨W, Below.refl _ _⟩⟩
      have b0 : ∀ z : Wd (Bw W), z.w.cell? ⟨wr.heap.size, 0, none⟩ = _ := fun z => Bw.cell z m0
      have b1 : ∀ z : Wd (Bw W), z.w.cell? ⟨wr.heap.size, 1, none⟩ = _ := fun z => Bw.cell z m1
      have b2 : ∀ z : Wd (Bw W), z.w.cell? ⟨wr.heap.size, 2, none⟩ = _ := fun z => Bw.cell z m2
      have b3 : ∀ z : Wd (Bw W), z.w.cell? ⟨wr.heap.size, 3, none⟩ = _ := fun z => Bw.cell z m3
      have b4 : ∀ z : Wd (Bw W), z.w.cell? ⟨wr.heap.size, 4, none⟩ = _ := fun z => Bw.cell z m4
      have b5 : ∀ z : Wd (Bw W), z.w.cell? ⟨B, 1, none⟩ = _ := fun z => Bw.cell z mu
      refine wp_region_qc (Bw W) 5 (by kernel_rfl) (by kernel_rfl) ((Below.refl _ W).drew) ?_
      simp only [List.take_succ_cons, List.take_zero, List.drop_succ_cons, List.drop_zero]
      repeat (first | go_big_quiet_step (fail) | quiet_step (fail))
      refine wpQuiet_nil ?_
      rintro _ ⟨z, rfl⟩
      refine Bd.wpOp_callW rfl rfl (f := 50) (args := #[u, .agg #[.int .i64 x1, .int .i64 x2, .int .i64 y1, .int .i64 y2, .int .u32 bi]]) (by simp [execOp, resolve, invoke, Act.eval, Deferred.ofValue, go_sem]) ?_
      refine (HRX.out z.w z.h).mono ?_
      rintro e w5 ⟨⟨r, t5, rfl, hr, ht5, ht6⟩, hb5⟩
      obtain ⟨q, c5, rfl, hq, hq0⟩ := HRR.out _ _ hr
      refine ⟨_, rfl, ?_⟩
      have HB5 := Lib.hid (show Below W.heap.size W w5 from Below.trans z.h (hb5.mono (Below.size z.h)))
      have HB6 := Lib.hid (HWW.out.trans (HB5.out.mono HWW.out.size))
      have HSRC := Lib.hid (NS.src (c := c5) hq hq0)
      have HT5 := Lib.hid (show zl ≤ t5 ∧ t5 ≤ zl + most n from ⟨ht5, ht6⟩)
      have HR5 := Lib.hid (row_keep HR.out HB6.out)
      have hwr : IntKind.i64.wrap ((t : Int) + (t5 : Int)) = ((t + t5 : Nat) : Int) := by
        have ht7 : t5 ≤ zl + most n := ht6
        rw [wrapO (by omega)]
        omega
      clear hr hq hq0 hb5 b0 b1 b2 b3 b4 b5 inst m0 m1 m2 m3 m4 mu ht5 ht6
      repeat (first | go_big_quiet_step (fail) | quiet_step (fail))
      refine wpQuiet_nil ?_
      go_wp2_with (at_builtin; refine wpList_list info_u rfl (by decide) (by decide) under_u _ rfl (.tmp 30) (.tmp 31) rfl w.heap.size u6 tl (T.map (Value.int .u32)) (by simp [Act.eval]) (by rw [HTE.out]; exact HR5.out) q zl c5 (Z.map (Value.int .u32)) (by simp [Act.eval]) (by rw [List.length_map, HZL.out, Nat.mul_one]) (by rw [HZL.out]; exact HSRC.out) (ints_one _ _) (by omega) (by have := HB.out.size; have := HB6.out.size; omega) ?_; intro v' w' h1 h2 _; rw [← List.map_append] at h1; have H1 := Lib.hid h1; have HBG := Lib.hid ((HB.out.trans (HB6.out.mono HB.out.size)).grown h2 (by have := HB.out.size; have := HB6.out.size; omega) (fun k e => (HR5.out.lt k e).1)); clear h1 h2)
      go_roundw
      case rel =>
        refine ⟨k + 1, t + t5, by omega, by go_num, by go_num, ?_, Lib.hid ?_, Lib.hid ?_, HBG⟩
        · obtain ⟨g1, g2⟩ := HTT.out
          obtain ⟨g3, g4⟩ := HT5.out
          have : k * most n ≤ 1 * 520 := Nat.mul_le_mul (by omega) hlg
          omega
        · obtain ⟨g1, g2⟩ := HTT.out
          obtain ⟨g3, g4⟩ := HT5.out
          rw [HST.out, List.length_append, ← HTE.out, ← HZL.out, Nat.add_mul, Nat.one_mul]
          omega
        · rw [HST.out, List.length_append, ← HTE.out, ← HZL.out]
          exact H1.out
      case measure => simp [intOf]; omega
    · obtain rfl : k = d := by omega
      have hltz : ¬ (k : Int) < k := by omega
      have hR := HR.out
      have htl := HTL.out k
      have hT := HTT.out
      rw [List.take_of_length_le (by have := HD.out; omega)] at hR htl hT
      have hta : (tot A Bs).length ≤ 8192 := by
        have : Bs.length * A.length ≤ 2 * 400 := Nat.mul_le_mul (by have := HD.out; omega) hA
        omega
      have HC := Lib.hid (told_any wr w.heap.size u6 (tot A Bs) hR hta)
      have HR6 := Lib.hid hR
      have HT6 := Lib.hid hT
      clear hR htl hT HR HTT
      go_wp2_with (go_at_call 51; (with_reducible refine HC.out.mono ?_); rintro e w2 ⟨rfl, ht2, ho⟩; have HO2 := Lib.hid ho; have HT2 := Lib.hid ht2; clear ho ht2)
      go_ret2
      obtain ⟨g1, p2, c2, rfl, g2, g3, g4⟩ := HT2.out.u
      refine ⟨⟨_, t, rfl, ⟨p2, c2, by rw [g1]; rfl, g2, g3, by rw [g1]; exact g4⟩, HT6.out⟩, HB.out.trans (HO2.out.below HB.out.size (fun m hm => (row_lt HR6.out (by simpa using hm)).1))⟩
end
end Go.Proofs.YtadlobmhnkfnfaaGreat.Co
/-
  What a corner has, how many: Report, Count. No condition but those typed at each theorem.
-/
namespace Go.Proofs.YtadlobmhnkfnfaaGreat.Co
open Go.RowKit Bd
/-- what is told of some boxes, by whatever stands behind v -/
def GaC (w : World) (v : Value) (n : Nat) (A : List S3) : Prop :=
  ∀ X, Below w.heap.size w X → ∀ (Bs : List B5) (q : Option Addr) (c : Nat), BxS X q Bs → Bs.length ≤ 2 → (∀ b ∈ Bs, Wf5 b) →
    Calls Tryz.prog 33 #[v, .slice q Bs.length c] X fun e w' => (∃ r, ∃ t : Nat, e = .returned (.tuple #[r, .int .i64 t]) ∧ RL w' r (nsort (tot A Bs)) ∧ (tot A Bs).length ≤ t ∧ t ≤ (tot A Bs).length + Bs.length * most n) ∧ Below X.heap.size X w'
theorem rl_nil (w : World) : RL w (.slice none 0 0) [] := ⟨none, 0, rfl, .inl rfl, fun _ => rfl, Nat.le_refl _⟩
theorem tot_nil (Bs : List B5) : tot [] Bs = [] := by
  unfold tot
  rw [List.flatMap_eq_nil_iff]
  intro b _
  rfl
section
variable {TS : World → Value → Nat → List Nat → List S3 → Prop} {w : World} {B n : Nat} {u : Value} {S : List Nat} {A : List S3}
theorem gac_yes (C : Ca.CascC TS) (h : CnM TS w B u n S A) : GaC w (.pointer (some ⟨B, 0, none⟩)) n A :=
  fun _ hb Bs q c hx hl hw => gather_any C (h.keep C hb) Bs q c hx hl hw
theorem gac_nil (w : World) : GaC w (.pointer none) 0 [] := by
  intro X hb Bs q c _ _ _
  have HM := Lib.hid (omade_nil X)
  go_enter Tryz.func33, Tryz.ntmps33
  go_wp2_with (go_at_call 25; (with_reducible refine HM.out.mono ?_); rintro e wM ⟨rfl, hM⟩; subst wM)
  go_ret2
  rw [tot_nil]
  exact ⟨⟨_, 0, rfl, rl_nil _, Nat.le_refl _, Nat.zero_le _⟩, Below.refl _ _⟩
theorem bx_one (X : World) (b : B5) (o : Obj) : BxS ((X.alloc o).alloc (.cells (bvs b).toArray 65)) (some ⟨X.heap.size + 1, 0, none⟩) [b] := by
  refine .inr ⟨_, _, rfl, fun j n e => ?_⟩
  cases j with
  | zero =>
    cases e
    have := X1.new (X.alloc o) b 65
    rw [World.size_alloc] at this
    simpa using this
  | succ j => simp at e
set_option maxRecDepth 100000 in
set_option maxHeartbeats 1600000 in
theorem oreport_yes {v : Value} (hA : ∀ s ∈ A, Wf3 s) (HG0 : GaC w v n A) (x y : Int) {way : Nat} (hw : way < 4) (hx : (Lit.int .i64 x).wf = true) (hy : (Lit.int .i64 y).wf = true) :
    Calls Tryz.prog 17 #[v, .int .i64 x, .int .i64 y, .int .u8 way] w fun e X' => (∃ r, ∃ t : Nat, e = .returned (.tuple #[r, .int .i64 t]) ∧ RL X' r (nmS (coB x y way) A) ∧ (nmS (coB x y way) A).length ≤ t ∧ t ≤ (nmS (coB x y way) A).length + most n) ∧ Below w.heap.size w X' := by
  have HC := Lib.hid (fun X => corner_any X x y hw)
  have HG := Lib.hid (fun X (hb : Below w.heap.size w X) q c (hx0 : BxS X q [coX x y way]) => show Calls Tryz.prog 33 #[v, .slice q 1 c] X _ from HG0 X hb [coX x y way] q c hx0 (by simp) (fun b hb => by rw [List.mem_singleton.1 hb]; exact co_wf way hx hy))
  have HE := Lib.hid (show nsort (tot A [coX x y way]) = nmS (coB x y way) A ∧ (tot A [coX x y way]).length = (nmS (coB x y way) A).length by
    rw [tot_one, nsort_hsS, co_is hA x y hw]
    exact ⟨rfl, rfl⟩)
  rw [HE.out.1, HE.out.2] at HG
  clear HG0 HE
  generalize nmS (coB x y way) A = Z at *
  obtain ⟨b, hb0⟩ : ∃ b, b = coX x y way := ⟨_, rfl⟩
  rw [← hb0] at HC HG
  obtain ⟨⟨x1, x2, y1, y2⟩, bi⟩ := b
  unfold bv at HC
  simp only at HC
  clear hb0
  go_enter Tryz.func17, Tryz.ntmps17
  go_wp2_with (first
    | (go_at_call 32; (with_reducible refine (HC.out _).mono ?_); rintro e w1 ⟨rfl, hb⟩; have HB2 := Lib.hid (show Below w.heap.size w ((w1.alloc (.cells (bvs ((x1, x2, y1, y2), bi)).toArray 65)).alloc (.cells (bvs ((x1, x2, y1, y2), bi)).toArray 65)) from (hb.alloc hb.size _).alloc (by have := hb.size; simp; omega) _); have HX2 := Lib.hid (bx_one w1 ((x1, x2, y1, y2), bi) (.cells (bvs ((x1, x2, y1, y2), bi)).toArray 65)); unfold bvs at HB2 HX2; simp only at HB2 HX2; clear hb)
    | (go_at_call 33; (with_reducible refine (HG.out _ HB2.out _ _ HX2.out).mono ?_); rintro e w2 ⟨⟨r, t, rfl, hr, h1, h2⟩, hb⟩; have HR := Lib.hid hr; have H1 := Lib.hid h1; have H2 := Lib.hid h2; have HB := Lib.hid (HB2.out.trans (hb.mono HB2.out.size)); clear hr h1 h2 hb))
  go_ret2
  exact ⟨⟨r, t, rfl, HR.out, H1.out, by have := H2.out; simpa using this⟩, HB.out⟩
set_option maxRecDepth 100000 in
theorem oreport_no (v : Value) (x y : Int) {way : Nat} (hw : ¬ way < 4) :
    Calls Tryz.prog 17 #[v, .int .i64 x, .int .i64 y, .int .u8 way] w fun e X' => (∃ r, ∃ t : Nat, e = .returned (.tuple #[r, .int .i64 t]) ∧ RL X' r (nmS (coB x y way) A) ∧ (nmS (coB x y way) A).length ≤ t ∧ t ≤ (nmS (coB x y way) A).length + most n) ∧ Below w.heap.size w X' := by
  rw [co_not x y hw]
  have HC := Lib.hid (fun X => corner_no X x y hw)
  unfold bv at HC
  simp only at HC
  go_enter Tryz.func17, Tryz.ntmps17
  go_wp2_with (go_at_call 32; (with_reducible refine (HC.out _).mono ?_); rintro e w1 ⟨rfl, hb⟩; have HB1 := Lib.hid hb; clear hb)
  go_ret2
  exact ⟨⟨_, 0, rfl, rl_nil _, Nat.le_refl _, Nat.zero_le _⟩, HB1.out.alloc HB1.out.size _⟩
theorem oreport_of {v : Value} (hA : ∀ s ∈ A, Wf3 s) (HG0 : GaC w v n A) (x y : Int) (way : Nat) (hx : (Lit.int .i64 x).wf = true) (hy : (Lit.int .i64 y).wf = true) :
    Calls Tryz.prog 17 #[v, .int .i64 x, .int .i64 y, .int .u8 way] w fun e X' => (∃ r, ∃ t : Nat, e = .returned (.tuple #[r, .int .i64 t]) ∧ RL X' r (nmS (coB x y way) A) ∧ (nmS (coB x y way) A).length ≤ t ∧ t ≤ (nmS (coB x y way) A).length + most n) ∧ Below w.heap.size w X' := by
  by_cases hw : way < 4
  · exact oreport_yes hA HG0 x y hw hx hy
  · exact oreport_no v x y hw
set_option maxRecDepth 100000 in
set_option maxHeartbeats 1600000 in
theorem ocount_yes (C : Ca.CascC TS) (h : CnM TS w B u n S A) (x y : Int) {way : Nat} (hw : way < 4) (hx : (Lit.int .i64 x).wf = true) (hy : (Lit.int .i64 y).wf = true) :
    Calls Tryz.prog 18 #[.pointer (some ⟨B, 0, none⟩), .int .i64 x, .int .i64 y, .int .u8 way] w fun e X' => (∃ t : Nat, e = .returned (.tuple #[.int .i64 (nmS (coB x y way) A).length, .int .i64 t]) ∧ t ≤ most n) ∧ Below w.heap.size w X' := by
  have HC := Lib.hid (fun X => corner_any X x y hw)
  have HM := Lib.hid (fun X (hb : Below w.heap.size w X) => omade_yes (h.keep C hb))
  have HN := Lib.hid (fun X (hb : Below w.heap.size w X) => C.count (coX x y way) (h.keep C hb).tr (co_wf way hx hy))
  have HU := Lib.hid (fun X (hb : Below w.heap.size w X) => (h.keep C hb).ev.cell (i := 1) rfl)
  rw [co_is h.wf x y hw] at HN
  generalize nmS (coB x y way) A = Z at *
  obtain ⟨b, hb0⟩ : ∃ b, b = coX x y way := ⟨_, rfl⟩
  rw [← hb0] at HC HN
  obtain ⟨⟨x1, x2, y1, y2⟩, bi⟩ := b
  unfold bv at HC HN
  simp only at HC HN
  clear hb0 h
  go_enter Tryz.func18, Tryz.ntmps18
  go_upto_region 2 with (go_at_call 32; (with_reducible refine (HC.out _).mono ?_); rintro e w1 ⟨rfl, hb⟩; have HB1 := Lib.hid hb; clear hb)
  obtain ⟨W, hW⟩ : ∃ W, W = w1.alloc (.cells (bvs ((x1, x2, y1, y2), bi)).toArray 65) := ⟨_, rfl⟩
  have hX := X1.new w1 ((x1, x2, y1, y2), bi) 65
  rw [← hW] at hX
  have HBW := Lib.hid (show Below w.heap.size w W by rw [hW]; exact HB1.out.alloc HB1.out.size _)
  have m0 := hX.c0
  have m1 := hX.c1
  have m2 := hX.c2
  have m3 := hX.c3
  have m4 := hX.c4
  have mu := HU.out W HBW.out
  have HMW := Lib.hid (HM.out W HBW.out)
  have HRX := Lib.hid (fun X (hb : Below W.heap.size W X) => HN.out X (HBW.out.trans (hb.mono HBW.out.size)))
  simp only [Nat.zero_add] at m0 m1 m2 m3 m4
  unfold bvs at hW
  simp only at hW
  rw [← hW]
  clear hX hW
  go_upto_region 4 with (go_at_call 25; (with_reducible refine HMW.out.mono ?_); rintro e wM ⟨rfl, hM⟩; subst wM)
  have inst : Nonempty (Wd (Bw W)) := ⟨⟨W, Below.refl _ _⟩⟩
  have b0 : ∀ z : Wd (Bw W), z.w.cell? ⟨w1.heap.size, 0, none⟩ = _ := fun z => Bw.cell z m0
  have b1 : ∀ z : Wd (Bw W), z.w.cell? ⟨w1.heap.size, 1, none⟩ = _ := fun z => Bw.cell z m1
  have b2 : ∀ z : Wd (Bw W), z.w.cell? ⟨w1.heap.size, 2, none⟩ = _ := fun z => Bw.cell z m2
  have b3 : ∀ z : Wd (Bw W), z.w.cell? ⟨w1.heap.size, 3, none⟩ = _ := fun z => Bw.cell z m3
  have b4 : ∀ z : Wd (Bw W), z.w.cell? ⟨w1.heap.size, 4, none⟩ = _ := fun z => Bw.cell z m4
  have b5 : ∀ z : Wd (Bw W), z.w.cell? ⟨B, 1, none⟩ = _ := fun z => Bw.cell z mu
  refine wp_region_qc (Bw W) 5 (by kernel_rfl) (by kernel_rfl) ((Below.refl _ W).drew) ?_
  simp only [List.take_succ_cons, List.take_zero, List.drop_succ_cons, List.drop_zero]
  repeat (first | go_big_quiet_step (fail) | quiet_step (fail))
  refine wpQuiet_nil ?_
  rintro _ ⟨z, rfl⟩
  refine Bd.wpOp_callW rfl rfl (f := 34) (args := #[u, .agg #[.int .i64 x1, .int .i64 x2, .int .i64 y1, .int .i64 y2, .int .u32 bi]]) (by simp [execOp, resolve, invoke, Act.eval, Deferred.ofValue, go_sem]) ?_
  refine (HRX.out z.w z.h).mono ?_
  rintro e w5 ⟨⟨t5, rfl, ht5⟩, hb5⟩
  refine ⟨_, rfl, ?_⟩
  have HB5 := Lib.hid (show Below W.heap.size W w5 from Below.trans z.h (hb5.mono (Below.size z.h)))
  have HT5 := Lib.hid (show t5 ≤ most n from ht5)
  clear hb5 b0 b1 b2 b3 b4 b5 inst m0 m1 m2 m3 m4 mu ht5
  repeat (first | go_big_quiet_step (fail) | quiet_step (fail))
  refine wpQuiet_nil ?_
  go_wp2
  go_ret2
  exact ⟨⟨t5, rfl, HT5.out⟩, HBW.out.trans (HB5.out.mono HBW.out.size)⟩
set_option maxRecDepth 100000 in
theorem ocount_no (v : Value) (x y : Int) {way : Nat} (hw : ¬ way < 4) :
    Calls Tryz.prog 18 #[v, .int .i64 x, .int .i64 y, .int .u8 way] w fun e X' => (∃ t : Nat, e = .returned (.tuple #[.int .i64 (nmS (coB x y way) A).length, .int .i64 t]) ∧ t ≤ most n) ∧ Below w.heap.size w X' := by
  rw [co_not x y hw]
  have HC := Lib.hid (fun X => corner_no X x y hw)
  unfold bv at HC
  simp only at HC
  go_enter Tryz.func18, Tryz.ntmps18
  go_wp2_with (go_at_call 32; (with_reducible refine (HC.out _).mono ?_); rintro e w1 ⟨rfl, hb⟩; have HB1 := Lib.hid hb; clear hb)
  go_ret2
  exact ⟨⟨0, rfl, Nat.zero_le _⟩, HB1.out.alloc HB1.out.size _⟩
set_option maxRecDepth 100000 in
theorem ocount_nil (x y : Int) (way : Nat) :
    Calls Tryz.prog 18 #[.pointer none, .int .i64 x, .int .i64 y, .int .u8 way] w fun e X' => (∃ t : Nat, e = .returned (.tuple #[.int .i64 (nmS (coB x y way) []).length, .int .i64 t]) ∧ t ≤ most 0) ∧ Below w.heap.size w X' := by
  by_cases hw : way < 4
  · have HC := Lib.hid (fun X => corner_any X x y hw)
    have HM := Lib.hid (fun X => omade_nil X)
    generalize coX x y way = b at *
    obtain ⟨⟨x1, x2, y1, y2⟩, bi⟩ := b
    unfold bv at HC
    simp only at HC
    rw [nmS_nil]
    go_enter Tryz.func18, Tryz.ntmps18
    go_wp2_with (first
      | (go_at_call 32; (with_reducible refine (HC.out _).mono ?_); rintro e w1 ⟨rfl, hb⟩; have HB1 := Lib.hid hb; clear hb)
      | (go_at_call 25; (with_reducible refine (HM.out _).mono ?_); rintro e wM ⟨rfl, hM⟩; subst wM))
    go_ret2
    exact ⟨⟨0, rfl, Nat.zero_le _⟩, HB1.out.alloc HB1.out.size _⟩
  · exact ocount_no _ x y hw
end
end Go.Proofs.YtadlobmhnkfnfaaGreat.Co
/-
  What is over a point, or under it. No condition but those typed at each theorem.
-/
namespace Go.Proofs.YtadlobmhnkfnfaaGreat.Co
open Go.RowKit Bd
theorem bx_two (X : World) (b1 b2 : B5) : BxS (X.alloc (.cells (bvs b1 ++ bvs b2).toArray 65)) (some ⟨X.heap.size, 0, none⟩) [b1, b2] := by
  have k : ∀ i v, (bvs b1 ++ bvs b2)[i]? = some v → (X.alloc (.cells (bvs b1 ++ bvs b2).toArray 65)).cell? ⟨X.heap.size, i, none⟩ = some v := fun i v e => by
    rw [World.cell?_alloc_new]
    simpa using e
  refine .inr ⟨_, _, rfl, fun j n e => ?_⟩
  match j with
  | 0 => cases e; exact ⟨k 0 _ rfl, k 1 _ rfl, k 2 _ rfl, k 3 _ rfl, k 4 _ rfl⟩
  | 1 => cases e; exact ⟨k 5 _ rfl, k 6 _ rfl, k 7 _ rfl, k 8 _ rfl, k 9 _ rfl⟩
  | j + 2 => simp at e
section
variable {w : World} {n : Nat} {A : List S3}
set_option maxRecDepth 100000 in
set_option maxHeartbeats 3200000 in
theorem beyond_any {v : Value} (hA : ∀ s ∈ A, Wf3 s) (HG0 : GaC w v n A) (p : S3) (hp : Wf3 p) (up : Bool) :
    Calls Tryz.prog 35 #[v, tv p, .bool up] w fun e X' => (∃ r, ∃ t : Nat, e = .returned (.tuple #[r, .int .i64 t]) ∧ RL X' r (nmS (byB p up) A) ∧ (nmS (byB p up) A).length ≤ t ∧ t ≤ (nmS (byB p up) A).length + 2 * most n) ∧ Below w.heap.size w X' := by
  have HG := Lib.hid (fun X (hb : Below w.heap.size w X) q c (hx0 : BxS X q (byX p up)) => show Calls Tryz.prog 33 #[v, .slice q 2 c] X _ from HG0 X hb (byX p up) q c hx0 (by simp [byX]) (by_wf up hp))
  have HE := Lib.hid (show nsort (tot A (byX p up)) = nmS (byB p up) A ∧ (tot A (byX p up)).length = (nmS (byB p up) A).length from ⟨by_is hA hp up, (by_perm hA hp up).length_eq⟩)
  rw [HE.out.1, HE.out.2] at HG
  have HL := Lib.hid (show (byX p up).length = 2 from rfl)
  rw [HL.out] at HG
  clear HG0 HE HL
  generalize nmS (byB p up) A = Z at *
  have HP1 := Lib.hid (fun X => past_any X p.1 up hp.1)
  have HP2 := Lib.hid (fun X => past_any X p.2.1 up hp.2.1)
  have HF := Lib.hid (fun X => from_any X p.2.1 up)
  have HAT := Lib.hid (fun X => at_any X p.1)
  have HB1 := Lib.hid (fun X => box_any X (paS p.1 up) (frS p.2.1 up))
  have HB2 := Lib.hid (fun X => box_any X (p.1, p.1) (paS p.2.1 up))
  obtain ⟨c1, hc1⟩ : ∃ c, c = bxS (paS p.1 up) (frS p.2.1 up) := ⟨_, rfl⟩
  obtain ⟨c2, hc2⟩ : ∃ c, c = bxS (p.1, p.1) (paS p.2.1 up) := ⟨_, rfl⟩
  have HBY := Lib.hid (show byX p up = [c1, c2] by rw [hc1, hc2]; rfl)
  rw [HBY.out] at HG
  rw [← hc1] at HB1
  rw [← hc2] at HB2
  clear hc1 hc2 HBY
  obtain ⟨W, hW⟩ : ∃ W, W = w.alloc (.cells (tvs p).toArray 33) := ⟨_, rfl⟩
  have hT := T1.new w p 33
  rw [← hW] at hT
  have HWB := Lib.hid (show Below w.heap.size w W from hW ▸ (Below.refl _ w).alloc (Nat.le_refl _) _)
  have k0 := hT.c0
  have k1 := hT.c1
  have k2 := hT.c2
  obtain ⟨x, y, id⟩ := p
  unfold tv
  unfold tvs at hW
  simp only [Nat.zero_add] at k0 k1 k2 hW HP1 HP2 HF HAT HB1 HB2 ⊢
  generalize sv (paS x up) = s1 at *
  generalize sv (frS y up) = s2 at *
  generalize sv (x, x) = s3 at *
  generalize sv (paS y up) = s4 at *
  obtain ⟨⟨a1, a2, a3, a4⟩, a5⟩ := c1
  obtain ⟨⟨d1, d2, d3, d4⟩, d5⟩ := c2
  unfold bv at HB1 HB2
  simp only at HB1 HB2
  clear hT
  go_enter Tryz.func35, Tryz.ntmps35
  go_upto_region 1 with fail
  rw [← hW]
  clear hW
  have inst : Nonempty (Wd (Bw W)) := ⟨⟨W, Below.refl _ _⟩⟩
  have b0 : ∀ z : Wd (Bw W), z.w.cell? ⟨w.heap.size, 0, none⟩ = _ := fun z => Bw.cell z k0
  have b1 : ∀ z : Wd (Bw W), z.w.cell? ⟨w.heap.size, 1, none⟩ = _ := fun z => Bw.cell z k1
  have b2 : ∀ z : Wd (Bw W), z.w.cell? ⟨w.heap.size, 2, none⟩ = _ := fun z => Bw.cell z k2
  refine wp_region_any (by kernel_rfl) ?_
  refine wpAny_take (i := 0) (v := v) rfl (by kernel_rfl) (by kernel_rfl) (by kernel_rfl) (fun _ _ _ h => h) (Or.inl ⟨by rfl, fun X => by simp [execOp, Act.eval, go_sem]⟩) ?_
  refine wpAny_qf (Bw W) 1 18 1 (by kernel_rfl) (by kernel_rfl) (by kernel_rfl) ((Below.refl _ W).drew) ?_
  simp only [List.take_succ_cons, List.take_zero, List.drop_succ_cons, List.drop_zero, Nat.reduceSub]
  repeat (first
    | go_big_quiet_step (first
      | (go_at_call 55; with_reducible exact calls_wd (fun _ _ h hb => h.keep hb) _ (HP1.out _))
      | (go_at_call 55; with_reducible exact calls_wd (fun _ _ h hb => h.keep hb) _ (HP2.out _))
      | (go_at_call 49; with_reducible exact calls_wd (fun _ _ h hb => h.keep hb) _ (HF.out _))
      | (go_at_call 56; with_reducible exact calls_wd (fun _ _ h hb => h.keep hb) _ (HAT.out _))
      | (go_at_call 48; with_reducible exact calls_wd (fun _ _ h hb => h.keep hb) _ (HB1.out _))
      | (go_at_call 48; with_reducible exact calls_wd (fun _ _ h hb => h.keep hb) _ (HB2.out _)))
    | quiet_step (first
      | (go_at_call 55; with_reducible exact calls_wd (fun _ _ h hb => h.keep hb) _ (HP1.out _))
      | (go_at_call 55; with_reducible exact calls_wd (fun _ _ h hb => h.keep hb) _ (HP2.out _))
      | (go_at_call 49; with_reducible exact calls_wd (fun _ _ h hb => h.keep hb) _ (HF.out _))
      | (go_at_call 56; with_reducible exact calls_wd (fun _ _ h hb => h.keep hb) _ (HAT.out _))
      | (go_at_call 48; with_reducible exact calls_wd (fun _ _ h hb => h.keep hb) _ (HB1.out _))
      | (go_at_call 48; with_reducible exact calls_wd (fun _ _ h hb => h.keep hb) _ (HB2.out _))))
  refine wpQuiet_nil ?_
  rintro _ ⟨z, rfl⟩
  have HZ := Lib.hid (HWB.out.trans (Below.mono z.h HWB.out.size))
  have HX2 := Lib.hid (bx_two z.w ((a1, a2, a3, a4), a5) ((d1, d2, d3, d4), d5))
  have HZ2 := Lib.hid (HZ.out.alloc HZ.out.size (.cells (bvs ((a1, a2, a3, a4), a5) ++ bvs ((d1, d2, d3, d4), d5)).toArray 65))
  unfold forcedK
  refine wpOp_val rfl rfl (v := .slice (some ⟨z.w.heap.size, 0, none⟩) 2 2) (w' := z.w.alloc (.cells (bvs ((a1, a2, a3, a4), a5) ++ bvs ((d1, d2, d3, d4), d5)).toArray 65)) ?_ ?_
  · simp [execOp, Act.eval, go_sem, bvs]
  · unfold forcedK
    refine Bd.wpOp_callW rfl rfl (f := 33) (args := #[v, .slice (some ⟨z.w.heap.size, 0, none⟩) 2 2]) (by simp [execOp, resolve, invoke, Act.eval, Deferred.ofValue, go_sem]) ?_
    refine (HG.out _ HZ2.out _ _ HX2.out).mono ?_
    rintro e w5 ⟨⟨r, t, rfl, hr, h1, h2⟩, hb⟩
    refine ⟨_, rfl, ?_⟩
    have HR := Lib.hid hr
    have H1 := Lib.hid h1
    have H2 := Lib.hid h2
    have HB := Lib.hid (HZ2.out.trans (hb.mono HZ2.out.size))
    clear hr h1 h2 hb b0 b1 b2 inst
    repeat (first | go_big_quiet_step (fail) | quiet_step (fail))
    refine wpQuiet_nil ?_
    go_wp2
    go_ret2
    exact ⟨⟨r, t, rfl, HR.out, H1.out, H2.out⟩, HB.out⟩
end
end Go.Proofs.YtadlobmhnkfnfaaGreat.Co
