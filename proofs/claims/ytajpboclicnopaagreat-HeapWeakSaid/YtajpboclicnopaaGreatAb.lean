/-
  Where numbers begin to be more than another (rank.Above). No condition but those typed at each theorem.
-/
import Derived.Test.YtajpboclicnopaaGreatMLook
namespace Go.Proofs.YtajpboclicnopaaGreat
open Go.RowKit
set_option maxRecDepth 100000 in
set_option maxHeartbeats 800000 in
theorem abv1_any (w : World) (B C b off cap : Nat) (xs : List Int) (x : Int) (hbox : w.cell? ⟨B, 0, none⟩ = some (.slice (some ⟨b, off, none⟩) xs.length cap)) (hx : Ns w b off .i64 xs)
    (hnum : w.cell? ⟨C, 0, none⟩ = some (.int .i64 x)) (m : Nat) (hm : m < xs.length) :
    Calls Tryz.prog 120 #[.int .i64 m, .pointer (some ⟨B, 0, none⟩), .pointer (some ⟨C, 0, none⟩)] w fun e w' => e = .returned (.bool (isMore xs x m)) ∧ Below w.heap.size w w' := by
  obtain ⟨y, hy⟩ : ∃ y, y = xs.getD m 0 := ⟨_, rfl⟩
  have c0 : ∀ s : Wd (Bw w), s.w.cell? ⟨B, 0, none⟩ = some (.slice (some ⟨b, off, none⟩) xs.length cap) := fun s => Bw.cell s hbox
  have c1 : ∀ s : Wd (Bw w), s.w.cell? ⟨C, 0, none⟩ = some (.int .i64 x) := fun s => Bw.cell s hnum
  have c2 : ∀ s : Wd (Bw w), s.w.cell? ⟨b, off + m, none⟩ = some (.int .i64 y) := fun s => Bw.cell s (hx m y (by rw [hy]; exact getD_num xs m hm))
  have inst : Nonempty (Wd (Bw w)) := ⟨⟨w, Below.refl _ _⟩⟩
  have HY := Lib.hid hy
  clear hbox hx hnum hy
  go_enter Tryz.func120, Tryz.ntmps120
  go_upto_region 1 with fail
  refine wp_region_wd (Bw w) (by kernel_rfl) (by kernel_rfl) ((Below.refl _ w).drew) ?_
  repeat (first | go_big_quiet_step (fail) | quiet_step (fail))
  refine wpQuiet_nil ?_
  rintro _ ⟨s, rfl⟩
  go_wp2
  go_ret
  refine ⟨retb ?_, s.h⟩
  rw [isMore, ← HY.out]
theorem egA : ∀ args w, (callFunc 120 args).run Tryz.prog w = .ok (.enter 120 args) w := enters_of Tryz.func120 (by kernel_rfl) rfl
set_option maxRecDepth 100000 in
set_option maxHeartbeats 800000 in
theorem Above_any (w : World) (p : Option Addr) (cap : Nat) (xs : List Int) (x : Int) (hx : NS w p .i64 xs) (hn : xs.length ≤ 100000) :
    Calls Tryz.prog 87 #[.slice p xs.length cap, .int .i64 x] w fun e w' => e = .returned (two (aboveP xs x)) ∧ Below w.heap.size w w' := by
  have hmf : ∀ (fn : Fn) (first cap : Array Value) (w : World), (Instr.makeFunc fn first cap).run Tryz.prog w = .ok (.func fn first cap) w := fun _ _ _ _ => rfl
  obtain ⟨W, hW⟩ : ∃ W, W = (w.alloc (.cells #[.slice p xs.length cap] 64)).alloc (.cells #[.int .i64 x] 2) := ⟨_, rfl⟩
  have hWb : Below w.heap.size w W := by subst hW; exact ((Below.refl _ w).alloc (Nat.le_refl _) _).alloc (by simp) _
  have hbox : W.cell? ⟨w.heap.size, 0, none⟩ = some (.slice p xs.length cap) := by subst hW; rw [World.cell?_alloc_lt _ _ _ (by simp)]; simp
  have hnum : W.cell? ⟨w.heap.size + 1, 0, none⟩ = some (.int .i64 x) := by subst hW; simp
  have hxW := hx.keep hWb
  have HC := Lib.hid (look_any W 120 xs.length #[.pointer (some ⟨w.heap.size, 0, none⟩), .pointer (some ⟨w.heap.size + 1, 0, none⟩)] (isMore xs x) egA (by omega) (by
    intro m hm X hX
    rcases hxW with rfl | ⟨b, off, rfl, h⟩
    · simp at hm
    · exact abv1_any X w.heap.size (w.heap.size + 1) b off cap xs x ((hX.cell (World.block_lt_of_cell? W _ hbox)).trans hbox) (h.keep hX) ((hX.cell (World.block_lt_of_cell? W _ hnum)).trans hnum) m hm))
  have hP : aboveP xs x = lk (isMore xs x) xs.length := rfl
  rw [← hP] at HC
  obtain ⟨P, hPP⟩ : ∃ P, P = aboveP xs x := ⟨_, rfl⟩
  obtain ⟨n, hnn⟩ : ∃ n, n = xs.length := ⟨_, rfl⟩
  rw [← hPP, ← hnn] at HC
  rw [← hPP, ← hnn]
  rw [← hnn] at hbox hW
  have HWb := Lib.hid hWb
  clear hWb hP hPP hnn hnum hx hxW hn
  go_enter Tryz.func87, Tryz.ntmps87
  go_upto_region 1 with fail
  rw [← hW]
  clear hW
  go_wp2_with (go_at_call 118; (with_reducible refine HC.out.mono ?_); rintro e w1 ⟨rfl, hb1⟩; have HB1 := Lib.hid (HWb.out.trans (hb1.mono HWb.out.size)); clear hb1)
  go_ret2
  exact ⟨rfl, HB1.out⟩
end Go.Proofs.YtajpboclicnopaaGreat
