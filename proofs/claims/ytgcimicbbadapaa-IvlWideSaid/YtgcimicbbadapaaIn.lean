/-
  The knot of a span; how many are at knots ahead of each; spans laid knot by knot. No condition but those typed at each theorem.
-/
import Derived.Test.YtgcimicbbadapaaIk
import Derived.Test.YtgcimicbbadapaaSr
namespace Go.Proofs.Ytgcimicbbadapaa.Iv
open Go.RowKit

theorem egK : ∀ args w, (callFunc 117 args).run Try.prog w = .ok (.enter 117 args) w := enters_of Try.func117 (by kernel_rfl) rfl
set_option maxRecDepth 100000 in
set_option maxHeartbeats 1600000 in
theorem knot_any {w : World} {g : Nat} {E : List Int} {qe : Option Addr} {ce : Nat} (h : EnM w g E qe ce) (s : S3) (hs : s.1 ≤ s.2.1) :
    Calls Try.prog 101 #[.pointer (some ⟨g, 0, none⟩), tv s] w fun e w' => e = .returned (.int .i64 (kn (En E) E.length s : Nat)) ∧ Below w.heap.size w w' := by
  obtain ⟨lo, hi, id⟩ := s
  change Calls _ _ #[_, .agg #[.int .i64 lo, .int .i64 hi, .int .u32 id]] w _
  obtain ⟨X, hX⟩ : ∃ X, X = ((w.alloc (.cells #[.pointer (some ⟨g, 0, none⟩)] 53)).alloc (.cells #[.int .i64 lo, .int .i64 hi, .int .u32 id] 34)).alloc (.cells #[.int .i64 0] 3) := ⟨_, rfl⟩
  have hI : KnI w g E qe ce (lo, hi, id) (w.heap.size + 1 + 1) (w.heap.size + 1) w.heap.size [] X := by
    have hs1 : (w.alloc (.cells #[.pointer (some ⟨g, 0, none⟩)] 53)).heap.size = w.heap.size + 1 := by simp
    have hb1 : Below w.heap.size w (w.alloc (.cells #[.pointer (some ⟨g, 0, none⟩)] 53)) := (Below.refl _ w).alloc (Nat.le_refl _) _
    have hs2 : ((w.alloc (.cells #[.pointer (some ⟨g, 0, none⟩)] 53)).alloc (.cells #[.int .i64 lo, .int .i64 hi, .int .u32 id] 34)).heap.size = w.heap.size + 1 + 1 := by simp
    have hb : Below w.heap.size w X := by rw [hX]; exact (hb1.alloc (by rw [hs1]; omega) _).alloc (by rw [hs2]; omega) _
    refine ⟨?_, ?_, ?_, h.keep hb, ⟨by omega, by omega, Nat.le_refl _, by omega, by omega⟩, ⟨World.block_lt_of_cell? _ _ h.cell, fun b off e e0 => NS.ltF (e ▸ h.ns) e0⟩, hb⟩
    · rw [hX]
      have := Bx.new ((w.alloc (.cells #[.pointer (some ⟨g, 0, none⟩)] 53)).alloc (.cells #[.int .i64 lo, .int .i64 hi, .int .u32 id] 34)) (.int .i64 0) 3
      rw [hs2] at this
      exact this
    · rw [hX]
      have := T1.new (w.alloc (.cells #[.pointer (some ⟨g, 0, none⟩)] 53)) (lo, hi, id) 34
      rw [hs1] at this
      exact this.block (Below.heap_alloc _ _ _ (by rw [hs2]; omega))
    · rw [hX]
      exact cell_al _ (cell_al _ (one_new w (.pointer (some ⟨g, 0, none⟩)) 53).1)
  have hD := down_any X g qe E.length ce hI.en.cell h.few 117 #[.pointer (some ⟨w.heap.size + 1 + 1, 0, none⟩), .pointer (some ⟨w.heap.size + 1, 0, none⟩), .pointer (some ⟨w.heap.size, 0, none⟩)] (sds (En E) (lo, hi, id))
    (KnI w g E qe ce (lo, hi, id) (w.heap.size + 1 + 1) (w.heap.size + 1) w.heap.size) egK (fun _ _ _ hJ hb => hJ.keep hb) (fun ks k r Y _ hk hJ => knot1_any hJ hk hs) hI
  rw [hX] at hD
  have HD := Lib.hid hD
  clear hD hI hX h
  obtain ⟨r, hr⟩ : ∃ r : Nat, r = kn (En E) E.length (lo, hi, id) := ⟨_, rfl⟩
  have HR := Lib.hid hr
  rw [← hr]
  clear hr
  go_enter Try.func101, Try.ntmps101
  go_wp2_with (go_at_call 66; (with_reducible refine HD.out.mono ?_); rintro e w1 ⟨rfl, hJ⟩; have HJ := Lib.hid hJ; have c5 := hJ.last.cell; clear hJ)
  go_ret
  exact ⟨by rw [HR.out]; rfl, HJ.out.bel⟩
end Go.Proofs.Ytgcimicbbadapaa.Iv
