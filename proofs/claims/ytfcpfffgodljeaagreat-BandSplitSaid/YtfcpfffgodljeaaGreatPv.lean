/-
  The law's split: the two parts of a box. No condition but those typed at each theorem.
-/
import Derived.Test.YtfcpfffgodljeaaGreatPl
import Derived.Test.YtfcpfffgodljeaaGreatPaw
import Derived.Test.YtfcpfffgodljeaaGreatPm
namespace Go.Proofs.YtfcpfffgodljeaaGreat
open Go.ChangeShapes Go.WideShapes Go.ChangeAt Go.RowKit Go.Joins

/-- the part of a box up to x, and that above it -/
def lowB (b : B5) (x : Int) (wide : Bool) : B5 := if wide then ((b.1.1, x, b.1.2.2.1, b.1.2.2.2), b.2) else ((b.1.1, b.1.2.1, b.1.2.2.1, x), b.2)
def topB (b : B5) (x : Int) (wide : Bool) : B5 := if wide then ((x + 1, b.1.2.1, b.1.2.2.1, b.1.2.2.2), b.2) else ((b.1.1, b.1.2.1, x + 1, b.1.2.2.2), b.2)

theorem low_has {L : List S3} {b : B5} {x : Int} {wide : Bool} (h : if wide then b.1.1 ≤ x ∧ x < b.1.2.1 else b.1.2.2.1 ≤ x ∧ x < b.1.2.2.2) : (hsS L (lowB b x wide).1 ++ hsS L (topB b x wide).1).Perm (hsS L b.1) := by
  have h1 : (L.filter (hsB (lowB b x wide).1) ++ L.filter (hsB (topB b x wide).1)).Perm (L.filter (hsB b.1)) := filter_or _ _ _ L (fun s _ => by
    obtain ⟨⟨x1, x2, y1, y2⟩, bi⟩ := b
    obtain ⟨px, py, pi⟩ := s
    unfold lowB topB hsB
    cases wide with
    | true =>
      simp only [if_true] at h ⊢
      obtain ⟨h1, h2⟩ := h
      refine ⟨?_, fun ⟨a, c⟩ => ?_⟩
      · rw [Bool.eq_iff_iff]
        simp only [Bool.and_eq_true, Bool.or_eq_true, decide_eq_true_eq]
        omega
      · simp only [Bool.and_eq_true, decide_eq_true_eq] at a c
        omega
    | false =>
      simp only [Bool.false_eq_true, if_false] at h ⊢
      obtain ⟨h1, h2⟩ := h
      refine ⟨?_, fun ⟨a, c⟩ => ?_⟩
      · rw [Bool.eq_iff_iff]
        simp only [Bool.and_eq_true, Bool.or_eq_true, decide_eq_true_eq]
        omega
      · simp only [Bool.and_eq_true, decide_eq_true_eq] at a c
        omega)
  have h2 := h1.map (fun s : S3 => s.2.2)
  rw [List.map_append] at h2
  unfold hsS
  refine List.Perm.trans ?_ (nsort_perm _).symm
  exact ((nsort_perm _).append (nsort_perm _)).trans h2
theorem low_wf {b : B5} {x : Int} {wide : Bool} (hb : Wf5 b) (hx : (Lit.int .i64 x).wf = true) : Wf5 (lowB b x wide) := by
  unfold lowB
  cases wide with
  | true => exact ⟨⟨hb.1.1, hx, hb.1.2.2.1, hb.1.2.2.2⟩, hb.2⟩
  | false => exact ⟨⟨hb.1.1, hb.1.2.1, hb.1.2.2.1, hx⟩, hb.2⟩
theorem top_wf {b : B5} {x : Int} {wide : Bool} (hb : Wf5 b) (hx : (Lit.int .i64 (x + 1)).wf = true) : Wf5 (topB b x wide) := by
  unfold topB
  cases wide with
  | true => exact ⟨⟨hx, hb.1.2.1, hb.1.2.2.1, hb.1.2.2.2⟩, hb.2⟩
  | false => exact ⟨⟨hb.1.1, hb.1.2.1, hx, hb.1.2.2.2⟩, hb.2⟩

set_option maxRecDepth 100000 in
set_option maxHeartbeats 6400000 in
theorem split_wide (w : World) (b : B5) (x : Int) (hx : -9223372036854775808 ≤ x ∧ x < 9223372036854775807) :
    Calls Tryz.prog 26 #[bv b, .int .i64 x, .bool true] w fun e w' => e = .returned (.tuple #[bv (lowB b x true), bv (topB b x true)]) ∧ Below w.heap.size w w' := by
  obtain ⟨⟨x1, x2, y1, y2⟩, bi⟩ := b
  unfold bv lowB topB
  simp only [if_true]
  obtain ⟨hx1, hx2⟩ := hx
  have hxw : IntKind.i64.wrap (x + 1) = x + 1 := IntWalk.i64_in _ (by omega)
  go_enter Tryz.func26, Tryz.ntmps26
  go_upto_region 1 with fail
  go_region
  all_goals (
    go_upto_region 4 with fail
    go_region)
  all_goals (
    go_wp2
    (try simp only [Exit.inBlock, Exit.then])
    refine bodyPost_ret (v := .tuple #[_, _]) ?_ rfl ⟨rfl, ?_⟩
    · simp only [results, show Tryz.f26.results = #[.cell 6 42, .cell 7 42] from rfl]
      simp [go_sem, asAddr]
    repeat (first | exact Below.refl _ _ | refine Below.drew ?_ | refine Below.alloc ?_ (by simp <;> omega) _))
set_option maxRecDepth 100000 in
set_option maxHeartbeats 6400000 in
theorem split_tall (w : World) (b : B5) (x : Int) (hx : -9223372036854775808 ≤ x ∧ x < 9223372036854775807) :
    Calls Tryz.prog 26 #[bv b, .int .i64 x, .bool false] w fun e w' => e = .returned (.tuple #[bv (lowB b x false), bv (topB b x false)]) ∧ Below w.heap.size w w' := by
  obtain ⟨⟨x1, x2, y1, y2⟩, bi⟩ := b
  unfold bv lowB topB
  simp only [Bool.false_eq_true, if_false]
  obtain ⟨hx1, hx2⟩ := hx
  have hxw : IntKind.i64.wrap (x + 1) = x + 1 := IntWalk.i64_in _ (by omega)
  go_enter Tryz.func26, Tryz.ntmps26
  go_upto_region 1 with fail
  go_region
  all_goals (
    go_upto_region 6 with fail
    go_region)
  all_goals (
    go_wp2
    (try simp only [Exit.inBlock, Exit.then])
    refine bodyPost_ret (v := .tuple #[_, _]) ?_ rfl ⟨rfl, ?_⟩
    · simp only [results, show Tryz.f26.results = #[.cell 6 42, .cell 7 42] from rfl]
      simp [go_sem, asAddr]
    repeat (first | exact Below.refl _ _ | refine Below.drew ?_ | refine Below.alloc ?_ (by simp <;> omega) _))
end Go.Proofs.YtfcpfffgodljeaaGreat
