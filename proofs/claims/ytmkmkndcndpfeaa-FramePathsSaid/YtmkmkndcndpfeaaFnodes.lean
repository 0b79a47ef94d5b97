/-
  A frame's nodes: made once. No condition but those typed at each theorem.
-/
import Derived.Test.YtmkmkndcndpfeaaFrame
namespace Go.Proofs.Ytmkmkndcndpfeaa
open Go.RowKit

/-- a frame's cells while its lock is held -/
def FL (w : World) (B n : Nat) (pp : Value) : Prop := w.heap[B]? = some (.cells #[.pointer (some ⟨B, 0, none⟩), .int .u32 0, .int .i32 1, .int .u32 0, .int .i64 n, pp] 76 (0, 0))
section
variable {w w' : World} {B n : Nat} {pp : Value}
theorem FL.lt (h : FL w B n pp) : B < w.heap.size := lt_of_block h
theorem FL.c1 (h : FL w B n pp) : w.cell? ⟨B, 1, none⟩ = some (.int .u32 0) := by simp [World.cell?, show w.heap[B]? = _ from h]
theorem FL.c2 (h : FL w B n pp) : w.cell? ⟨B, 2, none⟩ = some (.int .i32 1) := by simp [World.cell?, show w.heap[B]? = _ from h]
theorem FL.c4 (h : FL w B n pp) : w.cell? ⟨B, 4, none⟩ = some (.int .i64 n) := by simp [World.cell?, show w.heap[B]? = _ from h]
theorem FL.c5 (h : FL w B n pp) : w.cell? ⟨B, 5, none⟩ = some pp := by simp [World.cell?, show w.heap[B]? = _ from h]
theorem FL.fr (h : FL w B n pp) (i : Nat) : w.frozen? ⟨B, i, none⟩ = false := by simp [World.frozen?, show w.heap[B]? = _ from h]
theorem FL.block (h : FL w B n pp) (hb : w'.heap[B]? = w.heap[B]?) : FL w' B n pp := hb.trans h
theorem FL.keep (h : FL w B n pp) (hb : Below w.heap.size w w') : FL w' B n pp := h.block (hb.block B h.lt)
theorem FR.locked (h : FR w B n 0 pp) : FL (w.setCell ⟨B, 2, none⟩ (.int .i32 1)) B n pp := by
  unfold FL
  rw [heap_setCell_same _ _ _ _ _ _ h]
  rfl
theorem FL.done (h : FL w B n pp) : FR ((w.drew.setCell ⟨B, 1, none⟩ (.int .u32 1)).setCell ⟨B, 2, none⟩ (.int .i32 0)) B n 1 pp := by
  have h1 : (w.drew.setCell ⟨B, 1, none⟩ (.int .u32 1)).heap[B]? = _ := heap_setCell_same w.drew _ _ _ _ _ h
  unfold FR
  rw [heap_setCell_same _ _ _ _ _ _ h1]
  rfl
theorem FL.set (h : FL w B n pp) (v : Value) : FL (w.setCell ⟨B, 5, none⟩ v) B n v := by
  unfold FL
  rw [heap_setCell_same _ _ _ _ _ _ h]
  rfl
end
/-- the whole part -/
def wv0 (n : Nat) : Value := .agg #[.int .i64 0, .int .i64 0, .int .i64 n]
theorem whole_held (w : World) (B n : Nat) (pp : Value) (h : FL w B n pp) :
    Calls Try.prog 31 #[.pointer (some ⟨B, 1, none⟩)] w fun e w' => e = .returned (.agg #[.int .i64 0, .int .i64 0, .int .i64 n]) ∧ Below w.heap.size w w' := by
  have c4 := fun o => (h.keep ((Below.refl _ w).alloc (Nat.le_refl _) o)).c4
  clear h
  go_enter Try.func31, Try.ntmps31
  go_wp2
  refine bodyPost_ret (v := .agg #[.int .i64 0, .int .i64 0, .int .i64 n]) ?_ rfl ⟨rfl, (Below.refl _ w).alloc (Nat.le_refl _) _⟩
  simp [results, Try.f31, go_sem]

/-- the nodes have been made -/
def GR (w w' : World) (B n : Nat) : Prop :=
  (n = 0 ∧ w' = w) ∨ ∃ P v1 v2, 1 ≤ n ∧ FL w' B n (.pointer (some ⟨P, 0, none⟩)) ∧ PO w' P v1 v2 ((2 * n - 1 : Nat) : Int) (nds 0 0 (tr n)) ∧ Off [B] w w' ∧ ∀ k ∈ pbl P v1 v2, w.heap.size ≤ k

theorem grow_end {w w2 w3 wq w5 : World} {B n z : Nat} {u1 u2 : Value} (hz : z = 2 * n - 1) (h : FL w B n (.pointer none)) (hn : 1 ≤ n) (hB : Below w.heap.size w w2) (hB3 : Below w2.heap.size w2 w3)
    (hq : Below (w3.setCell ⟨B, 5, none⟩ (.pointer (some ⟨w2.heap.size, 0, none⟩))).heap.size (w3.setCell ⟨B, 5, none⟩ (.pointer (some ⟨w2.heap.size, 0, none⟩))) wq)
    (g1 : PO w5 w2.heap.size u1 u2 (z : Int) (nds 0 0 (tr n))) (g2 : Off (pbl w2.heap.size (.slice none 0 0) (.slice none 0 0)) wq w5) (g3 : ∀ k ∈ pbl w2.heap.size u1 u2, k ∈ pbl w2.heap.size (.slice none 0 0) (.slice none 0 0) ∨ wq.heap.size ≤ k) : GR w w5 B n := by
  subst hz
  have hs := hB.size
  have hs3 := hB3.size
  have hsq := hq.size
  rw [World.size_setCell] at hsq
  have hlt := h.lt
  have hn0 : ∀ k ∈ pbl w2.heap.size (.slice none 0 0) (.slice none 0 0), w.heap.size ≤ k := by
    intro k hk
    rw [mem_pbl] at hk
    rcases hk with rfl | hk | hk
    · exact hs
    · cases hk
    · cases hk
  refine .inr ⟨w2.heap.size, u1, u2, hn, ?_, g1, ?_, fun k hk => ?_⟩
  · refine ((((h.keep hB).keep hB3).set _).keep hq).block (g2.block B ?_ ?_)
    · omega
    · intro e
      have := hn0 _ e
      omega
  · have h1 : Off [B] w (w3.setCell ⟨B, 5, none⟩ (.pointer (some ⟨w2.heap.size, 0, none⟩))) := (((Off.refl [B] w).bel hB).bel hB3).set _ _ (.inl (by simp))
    exact off_in (h1.bel hq) (fun k hk => .inr (hn0 k hk)) g2
  · rcases g3 k hk with g | g
    · exact hn0 k g
    · omega

set_option maxRecDepth 100000 in
set_option maxHeartbeats 1600000 in
theorem grow_any (w : World) (B n : Nat) (h : FL w B n (.pointer none)) (hm : n ≤ 1500) :
    Calls Try.prog 39 #[.pointer (some ⟨B, 1, none⟩)] w fun e w' => e = .returned (.tuple #[]) ∧ GR w w' B n := by
  by_cases h0 : n = 0
  · subst h0
    have c4 := h.c4
    have hz : (((0 : Nat) : Int) == 0) = true := rfl
    clear h
    go_enter Try.func39, Try.ntmps39
    go_wp2
    first | (go_end0; exact ⟨rfl, .inl ⟨rfl, rfl⟩⟩) | (refine bodyPost_ret (results_none rfl _ _ _) rfl ?_; exact ⟨rfl, .inl ⟨rfl, rfl⟩⟩) | (simp only [Exit.inBlock, Exit.then]; refine bodyPost_ret (results_none rfl _ _ _) rfl ?_; exact ⟨rfl, .inl ⟨rfl, rfl⟩⟩)
  · have hn : 1 ≤ n := by omega
    have c4 := h.c4
    have hz : ((n : Int) == 0) = false := by simp; omega
    have HWH := Lib.hid (whole_held w B n _ h)
    have HSZ : Hid (∀ X, Calls Try.prog 48 #[.agg #[.int .i64 0, .int .i64 0, .int .i64 n]] X fun e w' => e = .returned (.int .i64 ((2 * n - 1 : Nat) : Int)) ∧ w' = X.alloc (.cells #[.int .i64 0, .int .i64 0, .int .i64 n] 81)) := Lib.hid (fun X => by
      have := size_any 0 0 n (2 * n - 1) X hn (by omega) (by omega)
      rwa [Nat.zero_add] at this)
    have HNW := Lib.hid (fun X => New_any X ((2 * n - 1 : Nat) : Int) (by omega))
    have lvn : lv (tr n) = n := lv_tr hn
    have szn : sz (tr n) = 2 * n - 1 := by unfold sz; rw [lvn]
    have HPT : Hid (∀ X P, PO X P (.slice none 0 0) (.slice none 0 0) ((2 * n - 1 : Nat) : Int) [] → Calls Try.prog 52 #[.agg #[.int .i64 0, .int .i64 0, .int .i64 n], .pointer (some ⟨P, 0, none⟩)] X fun e w' => e = .returned (.tuple #[]) ∧ FP X w' P (.slice none 0 0) (.slice none 0 0) ((2 * n - 1 : Nat) : Int) (nds 0 0 (tr n))) := Lib.hid (fun X P hP =>
      put_part n 0 0 n X P _ _ _ [] hn (by omega) hP rfl (by rw [szn]; omega) (by rw [szn]; omega) (by omega))
    have HH := Lib.hid h
    have HFL := Lib.hid (fun X (hX : Below w.heap.size w X) => h.keep hX)
    clear h lvn szn
    obtain ⟨z, hz2⟩ : ∃ z, z = 2 * n - 1 := ⟨_, rfl⟩
    rw [← hz2] at HSZ HNW HPT
    have HZ := Lib.hid hz2
    clear hz2
    go_enter Try.func39, Try.ntmps39
    go_upto_region 2 with (go_at_call 31; (with_reducible refine HWH.out.mono ?_); rintro e w1 ⟨rfl, hb⟩; have HB1 := Lib.hid hb; clear hb)
    obtain ⟨w2, hw2⟩ : ∃ w2, w2 = (w1.alloc (.cells #[.int .i64 0, .int .i64 0, .int .i64 n] 81)).alloc (.cells #[.int .i64 0, .int .i64 0, .int .i64 n] 81) := ⟨_, rfl⟩
    have HB2 := Lib.hid (show Below w.heap.size w w2 by rw [hw2]; exact (HB1.out.alloc HB1.out.size _).alloc (by have := HB1.out.size; simp; omega) _)
    have hv : Row w2 w1.heap.size [.int .i64 0, .int .i64 0, .int .i64 n] := by rw [hw2]; exact (Row.new w1 [.int .i64 0, .int .i64 0, .int .i64 n] 81 rfl).all _
    have HV := Lib.hid hv
    have HBV : Hid (B < w1.heap.size) := Lib.hid (by have := HH.out.lt; have := HB1.out.size; omega)
    clear hv
    go_upto_region 3 with (first
      | (go_at_call 48; (with_reducible refine (HSZ.out _).mono ?_); rintro e x ⟨rfl, rfl⟩; rw [← hw2]; clear hw2)
      | (go_at_call 51; (with_reducible refine (HNW.out w2).mono ?_); rintro e w3 ⟨rfl, hP, hB3⟩; have f3 := ((HFL.out _ HB2.out).keep hB3).fr 5; have c3 := ((HFL.out _ HB2.out).keep hB3).c5; have HP := Lib.hid hP; have HB3 := Lib.hid hB3; clear hP hB3))
    obtain ⟨w4, hw4⟩ : ∃ w4, w4 = w3.setCell ⟨B, 5, none⟩ (.pointer (some ⟨w2.heap.size, 0, none⟩)) := ⟨_, rfl⟩
    rw [← hw4]
    have HP4 : Hid (PO w4 w2.heap.size (.slice none 0 0) (.slice none 0 0) z []) := Lib.hid (by
      rw [hw4]
      refine HP.out.block (fun k hk => Below.heap_setCell _ _ _ _ ?_)
      intro e
      have h1 := HBV.out
      have h2 : w1.heap.size ≤ w2.heap.size := by have := HV.out 0 _ rfl; have := World.block_lt_of_cell? w2 _ this; simp at this; omega
      rw [mem_pbl] at hk
      rcases hk with hk | hk | hk
      · simp at e; omega
      · cases hk
      · cases hk)
    have HF4 : Hid (FL w4 B n (.pointer (some ⟨w2.heap.size, 0, none⟩))) := Lib.hid (by rw [hw4]; exact ((HFL.out _ HB2.out).keep HB3.out).set _)
    have HV4 : Hid (Row w4 w1.heap.size [.int .i64 0, .int .i64 0, .int .i64 n]) := Lib.hid (by rw [hw4]; exact (HV.out.keep HB3.out).far _ _ (by have := HBV.out; simp; omega))
    have z0 := fun s : Wd (Bw w4) => (HV4.out.keep s.h) 0 _ rfl
    have z1 := fun s : Wd (Bw w4) => (HV4.out.keep s.h) 1 _ rfl
    have z2 := fun s : Wd (Bw w4) => (HV4.out.keep s.h) 2 _ rfl
    have z3 := fun s : Wd (Bw w4) => (HF4.out.keep s.h).c5
    have inst : Nonempty (Wd (Bw w4)) := ⟨⟨w4, Below.refl _ _⟩⟩
    have HEND := Lib.hid (fun wq w5 u1 u2 (hq : Below w4.heap.size w4 wq) => grow_end (w := w) (w2 := w2) (w3 := w3) (wq := wq) (w5 := w5) (u1 := u1) (u2 := u2) HZ.out HH.out hn HB2.out HB3.out (by rw [← hw4]; exact hq))
    clear hw4 f3 c3
    refine wp_region_qt (Bw w4) 5 (by kernel_rfl) (by kernel_rfl) ((Below.refl _ w4).drew) ?_
    simp only [List.take_succ_cons, List.take_zero, List.drop_succ_cons, List.drop_zero]
    repeat (first | go_big_quiet_step (fail) | quiet_step (fail))
    refine wpQuiet_nil ?_
    rintro _ ⟨s, rfl⟩
    have HS : Hid (Below w4.heap.size w4 s.w) := Lib.hid s.h
    clear z0 z1 z2 z3 inst
    go_wp2_with (go_at_call 52; (with_reducible refine (HPT.out s.w w2.heap.size (HP4.out.keep HS.out)).mono ?_); rintro e w5 ⟨rfl, u1, u2, g1, g2, g3⟩; have HG := Lib.hid (HEND.out s.w w5 u1 u2 HS.out g1 g2 g3); clear g1 g2 g3)
    first | (go_end0; exact ⟨rfl, HG.out⟩) | (refine bodyPost_ret (results_none rfl _ _ _) rfl ?_; exact ⟨rfl, HG.out⟩) | (simp only [Exit.inBlock, Exit.then]; refine bodyPost_ret (results_none rfl _ _ _) rfl ?_; exact ⟨rfl, HG.out⟩)

theorem row_base {w : World} {base base' n : Nat} {e : TypeId} {size : Nat} {v : Value} {xs : List Value} (h : w.ownsRow base e size v n xs) (hb : base' ≤ base) : w.ownsRow base' e size v n xs := by
  obtain ⟨h1, h2⟩ := h
  refine ⟨h1, ?_⟩
  rcases h2 with h2 | ⟨g, cap, cur, hv, hg, hr⟩
  · exact .inl h2
  · exact .inr ⟨g, cap, cur, hv, Nat.le_trans hb hg, hr⟩
/-- a frame's nodes have been told -/
def FNr (w w' : World) (B n : Nat) (bl : List Nat) (v : Value) : Prop :=
  ∃ bl', FS w' B n bl' ∧ Off bl w w' ∧ (∀ k ∈ bl', k ∈ bl ∨ w.heap.size ≤ k) ∧ w'.ownsRow w.heap.size 50 7 v (ndN n).length (flatN (ndN n)) ∧ ∀ k, v.ownBlock = some k → k ∉ bl'
/-- the frame behind the once -/
def FD (w w' : World) (B n : Nat) (bl' : List Nat) (pp : Value) : Prop :=
  (n = 0 ∧ FR w' B n 1 (.pointer none) ∧ pp = .pointer none ∧ bl' = [B] ∧ w.heap.size ≤ w'.heap.size) ∨
    ∃ P v1 v2, pp = .pointer (some ⟨P, 0, none⟩) ∧ FR w' B n 1 pp ∧ 1 ≤ n ∧ PO w' P v1 v2 ((2 * n - 1 : Nat) : Int) (nds 0 0 (tr n)) ∧ bl' = B :: pbl P v1 v2 ∧ w.heap.size ≤ w'.heap.size
theorem FD.fs {w w' : World} {B n : Nat} {bl' : List Nat} {pp : Value} (h : FD w w' B n bl' pp) : FS w' B n bl' := by
  rcases h with ⟨h0, h1, h2, h3, _⟩ | ⟨P, v1, v2, h0, h1, h2, h3, h4, _⟩
  · exact .inr (.inl ⟨h0, h1, h3⟩)
  · subst h0
    exact .inr (.inr ⟨P, v1, v2, h1, h2, h3, h4⟩)
theorem FD.cell {w w' : World} {B n : Nat} {bl' : List Nat} {pp : Value} (h : FD w w' B n bl' pp) : w'.cell? ⟨B, 5, none⟩ = some pp := by
  rcases h with ⟨h0, h1, h2, h3, _⟩ | ⟨P, v1, v2, h0, h1, h2, h3, h4, _⟩
  · subst h2; exact h1.c5
  · exact h1.c5
theorem FD.size {w w' : World} {B n : Nat} {bl' : List Nat} {pp : Value} (h : FD w w' B n bl' pp) : w.heap.size ≤ w'.heap.size := by
  rcases h with ⟨_, _, _, _, h⟩ | ⟨_, _, _, _, _, _, _, _, h⟩ <;> exact h
theorem FD.nodes {w w' : World} {B n : Nat} {bl' : List Nat} {pp : Value} (h : FD w w' B n bl' pp) (hn : n ≤ 1500) :
    Calls Try.prog 40 #[pp] w' fun e w2 => ∃ v, e = .returned v ∧ w2.ownsRow w'.heap.size 50 7 v (ndN n).length (flatN (ndN n)) ∧ Below w'.heap.size w' w2 := by
  rcases h with ⟨h0, h1, h2, h3, _⟩ | ⟨P, v1, v2, h0, h1, h2, h3, h4, _⟩
  · subst h0 h2
    exact (Nodes_nil w').mono (by rintro e w2 ⟨rfl, rfl⟩; exact ⟨_, rfl, World.ownsRow_nil _ _ _ _, Below.refl _ _⟩)
  · subst h0
    have e : ndN n = nds 0 0 (tr n) := by unfold ndN; rw [if_neg (by omega)]
    rw [e]
    exact Nodes_any w' P v1 v2 _ _ h3 (by rw [← e, ndN_len]; omega)
/-- the once, whether or not the nodes are there -/
theorem once_any (w : World) (B n : Nat) (bl : List Nat) (h : FS w B n bl) (hn : n ≤ 1500) :
    Calls Try.prog 38 #[.pointer (some ⟨B, 1, none⟩), .func (.func 39) #[.pointer (some ⟨B, 1, none⟩)] #[]] w fun e w' =>
      e = .returned (.tuple #[]) ∧ ∃ bl' pp, FD w w' B n bl' pp ∧ Off bl w w' ∧ ∀ k ∈ bl', k ∈ bl ∨ w.heap.size ≤ k := by
  rcases h with ⟨h, rfl⟩ | ⟨h0, h, rfl⟩ | ⟨P, v1, v2, h, h1, hP, rfl⟩
  · have hL := h.locked
    refine (do_first B (GR (w.setCell ⟨B, 2, none⟩ (.int .i32 1)) · B n ∧ True) w h.c1 h.c2 (h.fr 2) ((grow_any _ B n hL hn).mono (fun e w' hh => ⟨hh.1, hh.2, trivial⟩)) ?_).mono ?_
    · rintro w1 ⟨hg, -⟩
      rcases hg with ⟨h0, rfl⟩ | ⟨P, v1, v2, h1, h2, h3, h4, h5⟩
      · exact ⟨hL.c1, hL.c2, hL.fr 1, hL.fr 2⟩
      · exact ⟨h2.c1, h2.c2, h2.fr 1, h2.fr 2⟩
    · rintro e w' ⟨rfl, w1, ⟨hg, -⟩, rfl⟩
      refine ⟨rfl, ?_⟩
      have hsz : (w.setCell ⟨B, 2, none⟩ (.int .i32 1)).heap.size = w.heap.size := World.size_setCell _ _ _
      have ho : ∀ X, Off [B] w X → Off [B] w ((X.drew.setCell ⟨B, 1, none⟩ (.int .u32 1)).setCell ⟨B, 2, none⟩ (.int .i32 0)) := fun X hX => (hX.drew.set _ _ (.inl (by simp))).set _ _ (.inl (by simp))
      have ho1 : Off [B] w (w.setCell ⟨B, 2, none⟩ (.int .i32 1)) := (Off.refl [B] w).set _ _ (.inl (by simp))
      rcases hg with ⟨h0, rfl⟩ | ⟨P, v1, v2, h1, h2, h3, h4, h5⟩
      · exact ⟨[B], .pointer none, .inl ⟨h0, hL.done, rfl, rfl, (ho _ ho1).size⟩, ho _ ho1, fun k hk => .inl hk⟩
      · have hw := ho _ (ho1.trans h4)
        refine ⟨B :: pbl P v1 v2, _, .inr ⟨P, v1, v2, rfl, h2.done, h1, h3.off (((Off.refl [B] w1).drew.set ⟨B, 1, none⟩ (.int .u32 1) (.inl (by simp))).set ⟨B, 2, none⟩ (.int .i32 0) (.inl (by simp))) (fun k hk e => ?_), rfl, hw.size⟩, hw, fun k hk => ?_⟩
        · simp at e
          have := h5 k hk
          have := h.lt
          omega
        · rcases List.mem_cons.1 hk with rfl | hk
          · exact .inl (by simp)
          · exact .inr (by have := h5 k hk; omega)
  · exact (do_done ⟨B, 1, none⟩ _ w h.c1).mono (by rintro e w' ⟨rfl, rfl⟩; exact ⟨rfl, [B], .pointer none, .inl ⟨h0, h, rfl, rfl, Nat.le_refl _⟩, Off.refl _ _, fun k hk => .inl hk⟩)
  · exact (do_done ⟨B, 1, none⟩ _ w h.c1).mono (by rintro e w' ⟨rfl, rfl⟩; exact ⟨rfl, _, _, .inr ⟨P, v1, v2, rfl, h, h1, hP, rfl, Nat.le_refl _⟩, Off.refl _ _, fun k hk => .inl hk⟩)

set_option maxRecDepth 100000 in
set_option maxHeartbeats 1600000 in
theorem FNodes_any (w : World) (B n : Nat) (bl : List Nat) (h : FS w B n bl) (hn : n ≤ 1500) :
    Calls Try.prog 20 #[.pointer (some ⟨B, 0, none⟩)] w fun e w' => ∃ v, e = .returned v ∧ FNr w w' B n bl v := by
  obtain ⟨d, pp0, hf⟩ := h.fr
  have HM := Lib.hid (fmade_yes w B n d pp0 hf)
  have HO := Lib.hid (once_any w.drew B n bl (h.block (fun k _ => rfl)) hn)
  have HN := Lib.hid (fun w' bl' pp (hd : FD w.drew w' B n bl' pp) => hd.nodes hn)
  have hmf : ∀ (fn : Fn) (first cap : Array Value) (w : World), (Instr.makeFunc fn first cap).run Try.prog w = .ok (.func fn first cap) w := fun _ _ _ _ => rfl
  clear hf h hn
  go_enter Try.func20, Try.ntmps20
  go_upto_region 3 with (go_at_call 30; (with_reducible refine HM.out.mono ?_); rintro e w1 ⟨rfl, rfl⟩)
  refine wp_region_tail 8 (by kernel_rfl) (by kernel_rfl) ?_
  simp only [List.take_succ_cons, List.take_zero, List.drop_succ_cons, List.drop_zero]
  repeat still_step
  refine wpStill_nil ?_
  go_wp2_with (first
    | (go_at_call 38; (with_reducible refine HO.out.mono ?_); rintro e w2 ⟨rfl, bl', pp, h1, h2, h3⟩; have c5 := h1.cell; have H1 := Lib.hid h1; have H2 := Lib.hid h2; have H3 := Lib.hid h3; clear h1 h2 h3)
    | (go_at_call 40; (with_reducible refine (HN.out w2 bl' pp H1.out).mono ?_); rintro e w3 ⟨v, rfl, h4, h5⟩; have H4 := Lib.hid h4; have H5 := Lib.hid h5; clear h4 h5))
  go_ret
  have hsz : w1.heap.size ≤ w2.heap.size := H1.out.size
  have hfs := H1.out.fs
  refine ⟨_, rfl, bl', hfs.keep H5.out, ?_, H3.out, row_base H4.out hsz, fun k hk hkb => ?_⟩
  · exact Off.bel (w := w1) ⟨H2.out.os, H2.out.tape, H2.out.output, H2.out.size, H2.out.block⟩ H5.out
  · have h1 := hfs.lt k hkb
    have h2 := (H4.out.lt k hk).1
    omega
end Go.Proofs.Ytmkmkndcndpfeaa
