/-
  From the root down: one node is entered: it turns back, it is told and no more is asked for, a leaf, a node over two kids. No condition but those typed at each theorem.
-/
import Derived.Test.YtldmajifkmcdcaaGreatMHc
import Derived.Test.YtldmajifkmcdcaaGreatMQ
import Derived.Test.YtldmajifkmcdcaaGreatBd
import Derived.Test.YtldmajifkmcdcaaGreatMHd
import Derived.Laws.EntriesVeiled
import Derived.Test.YtldmajifkmcdcaaGreatLt
namespace Go.Proofs.YtldmajifkmcdcaaGreat.Hp
open Go.RowKit Go.Sort Bd
/-- what goes down -/
def askL (kv : Value) (a b : Nat) (x1 x2 y : Int) (fv : Value) (c : Nat) : List Value := [kv, .int .i64 a, .int .i64 b, .int .i64 x1, .int .i64 x2, .int .i64 (-9223372036854775808), .int .i64 y, .int .u32 0, fv, .int .i64 c]
/-- one more was touched -/
def tick (w : World) (ab c : Nat) : World := w.setCell ⟨ab, 9, none⟩ (.int .i64 ((c + 1 : Nat) : Int))
theorem tick_size (w : World) (ab c : Nat) : (tick w ab c).heap.size = w.heap.size := World.size_setCell _ _ _
section
variable {w : World} {k m cap a b f e ab kb c : Nat} {x1 x2 y : Int} {qb : S3 → Nat}
theorem tick_cell {q : Nat} {v : Value} (hkb : kb ≠ ab) (h : w.cell? ⟨kb, q, none⟩ = some v) : (tick w ab c).cell? ⟨kb, q, none⟩ = some v :=
  ((Off.refl [ab] w).set ⟨ab, 9, none⟩ (.int .i64 ((c + 1 : Nat) : Int)) (.inl (by simp))).cell h (by simpa using hkb)
set_option maxRecDepth 100000 in
set_option maxHeartbeats 1600000 in
theorem out_l {fv : Value} {o : Option S3} (hE : EV 156 w ab (askL (.slice (some ⟨kb, 0, none⟩) m cap) a b x1 x2 y fv c)) (n3 : w.cell? ⟨kb, k * 8 + 3, none⟩ = some (.int .i64 f)) (n4 : w.cell? ⟨kb, k * 8 + 4, none⟩ = some (.int .i64 e)) (nh : w.cell? ⟨kb, k * 8 + 7, none⟩ = some (hv qb o)) (hkb : kb ≠ ab) (hk : k < m) (hc : c ≤ 100000)
    (h : e ≤ a) :
    Calls Tryz.prog 72 #[.pointer (some ⟨ab, 0, none⟩), .int .i64 k] w fun e' w' => e' = .returned (.bool true) ∧ Below (tick w ab c).heap.size (tick w ab c) w' := by
  have h1 : (e : Int) ≤ a := by omega
  have c0 := hE.cell (i := 0) rfl
  have c9 := hE.cell (i := 9) rfl
  have f9 := hE.free 9
  have HE := Lib.hid (show EV 156 (tick w ab c) ab (askL (.slice (some ⟨kb, 0, none⟩) m cap) a b x1 x2 y fv (c + 1)) from hE.set 9 _)
  have HN : Hid ((tick w ab c).cell? ⟨kb, k * 8 + 3, none⟩ = some (.int .i64 f) ∧ (tick w ab c).cell? ⟨kb, k * 8 + 4, none⟩ = some (.int .i64 e) ∧ (tick w ab c).cell? ⟨kb, k * 8 + 7, none⟩ = some (hv qb o)) := Lib.hid ⟨tick_cell hkb n3, tick_cell hkb n4, tick_cell hkb nh⟩
  have HW := Lib.hid (show tick w ab c = w.setCell ⟨ab, 9, none⟩ (.int .i64 ((c : Int) + 1)) from rfl)
  have HS := Lib.hid (show (tick w ab c).heap.size = w.heap.size from tick_size w ab c)
  unfold askL at c0 c9
  generalize tick w ab c = W at *
  clear hE n3 n4 nh hkb
  go_enter Tryz.func72, Tryz.ntmps72
  go_upto_region 2 with fail
  rw [← HW.out]
  have a0 := HE.out.cell (i := 0) rfl
  have a1 := HE.out.cell (i := 1) rfl
  have a2 := HE.out.cell (i := 2) rfl
  have a6 := HE.out.cell (i := 6) rfl
  clear c0 c9 f9
  go_upto_region 3 with fail
  obtain ⟨n3, n4, nh⟩ := HN.out
  have inst : Nonempty (Wd (Bw W)) := ⟨⟨W, Below.refl _ _⟩⟩
  have b1 : ∀ z : Wd (Bw W), z.w.cell? ⟨ab, 1, none⟩ = _ := fun z => Bw.cell z a1
  have b2 : ∀ z : Wd (Bw W), z.w.cell? ⟨ab, 2, none⟩ = _ := fun z => Bw.cell z a2
  have b6 : ∀ z : Wd (Bw W), z.w.cell? ⟨ab, 6, none⟩ = _ := fun z => Bw.cell z a6
  have m3 : ∀ z : Wd (Bw W), z.w.cell? ⟨kb, k * 8 + 3, none⟩ = _ := fun z => Bw.cell z n3
  have m4 : ∀ z : Wd (Bw W), z.w.cell? ⟨kb, k * 8 + 4, none⟩ = _ := fun z => Bw.cell z n4
  refine wp_region_wd (Bw W) (by kernel_rfl) (by kernel_rfl) ((Below.refl _ W).drew) ?_
  repeat (first | go_big_quiet_step (fail) | quiet_step (fail))
  refine wpQuiet_nil ?_
  rintro _ ⟨z, rfl⟩
  have HB := Lib.hid (show Below W.heap.size W z.w from z.h)
  clear b1 b2 b6 m3 m4 inst
  go_wp2
  go_ret
  exact ⟨rfl, HB.out⟩
set_option maxRecDepth 100000 in
set_option maxHeartbeats 1600000 in
theorem out_r {fv : Value} {o : Option S3} (hE : EV 156 w ab (askL (.slice (some ⟨kb, 0, none⟩) m cap) a b x1 x2 y fv c)) (n3 : w.cell? ⟨kb, k * 8 + 3, none⟩ = some (.int .i64 f)) (n4 : w.cell? ⟨kb, k * 8 + 4, none⟩ = some (.int .i64 e)) (nh : w.cell? ⟨kb, k * 8 + 7, none⟩ = some (hv qb o)) (hkb : kb ≠ ab) (hk : k < m) (hc : c ≤ 100000)
    (h : ¬ e ≤ a ∧ b ≤ f) :
    Calls Tryz.prog 72 #[.pointer (some ⟨ab, 0, none⟩), .int .i64 k] w fun e' w' => e' = .returned (.bool true) ∧ Below (tick w ab c).heap.size (tick w ab c) w' := by
  have h1 : ¬ (e : Int) ≤ a := by omega
  have h2 : (b : Int) ≤ f := by omega
  have c0 := hE.cell (i := 0) rfl
  have c9 := hE.cell (i := 9) rfl
  have f9 := hE.free 9
  have HE := Lib.hid (show EV 156 (tick w ab c) ab (askL (.slice (some ⟨kb, 0, none⟩) m cap) a b x1 x2 y fv (c + 1)) from hE.set 9 _)
  have HN : Hid ((tick w ab c).cell? ⟨kb, k * 8 + 3, none⟩ = some (.int .i64 f) ∧ (tick w ab c).cell? ⟨kb, k * 8 + 4, none⟩ = some (.int .i64 e) ∧ (tick w ab c).cell? ⟨kb, k * 8 + 7, none⟩ = some (hv qb o)) := Lib.hid ⟨tick_cell hkb n3, tick_cell hkb n4, tick_cell hkb nh⟩
  have HW := Lib.hid (show tick w ab c = w.setCell ⟨ab, 9, none⟩ (.int .i64 ((c : Int) + 1)) from rfl)
  have HS := Lib.hid (show (tick w ab c).heap.size = w.heap.size from tick_size w ab c)
  unfold askL at c0 c9
  generalize tick w ab c = W at *
  clear hE n3 n4 nh hkb
  go_enter Tryz.func72, Tryz.ntmps72
  go_upto_region 2 with fail
  rw [← HW.out]
  have a0 := HE.out.cell (i := 0) rfl
  have a1 := HE.out.cell (i := 1) rfl
  have a2 := HE.out.cell (i := 2) rfl
  have a6 := HE.out.cell (i := 6) rfl
  clear c0 c9 f9
  go_upto_region 3 with fail
  obtain ⟨n3, n4, nh⟩ := HN.out
  have inst : Nonempty (Wd (Bw W)) := ⟨⟨W, Below.refl _ _⟩⟩
  have b1 : ∀ z : Wd (Bw W), z.w.cell? ⟨ab, 1, none⟩ = _ := fun z => Bw.cell z a1
  have b2 : ∀ z : Wd (Bw W), z.w.cell? ⟨ab, 2, none⟩ = _ := fun z => Bw.cell z a2
  have b6 : ∀ z : Wd (Bw W), z.w.cell? ⟨ab, 6, none⟩ = _ := fun z => Bw.cell z a6
  have m3 : ∀ z : Wd (Bw W), z.w.cell? ⟨kb, k * 8 + 3, none⟩ = _ := fun z => Bw.cell z n3
  have m4 : ∀ z : Wd (Bw W), z.w.cell? ⟨kb, k * 8 + 4, none⟩ = _ := fun z => Bw.cell z n4
  refine wp_region_wd (Bw W) (by kernel_rfl) (by kernel_rfl) ((Below.refl _ W).drew) ?_
  repeat (first | go_big_quiet_step (fail) | quiet_step (fail))
  refine wpQuiet_nil ?_
  rintro _ ⟨z, rfl⟩
  have HB := Lib.hid (show Below W.heap.size W z.w from z.h)
  clear b1 b2 b6 m3 m4 inst
  go_wp2
  go_ret
  exact ⟨rfl, HB.out⟩
set_option maxRecDepth 100000 in
set_option maxHeartbeats 1600000 in
theorem out_n {fv : Value} (hE : EV 156 w ab (askL (.slice (some ⟨kb, 0, none⟩) m cap) a b x1 x2 y fv c)) (n3 : w.cell? ⟨kb, k * 8 + 3, none⟩ = some (.int .i64 f)) (n4 : w.cell? ⟨kb, k * 8 + 4, none⟩ = some (.int .i64 e)) (nh : w.cell? ⟨kb, k * 8 + 7, none⟩ = some (hv qb none)) (hkb : kb ≠ ab) (hk : k < m) (hc : c ≤ 100000)
    (h : ¬ e ≤ a ∧ ¬ b ≤ f) :
    Calls Tryz.prog 72 #[.pointer (some ⟨ab, 0, none⟩), .int .i64 k] w fun e' w' => e' = .returned (.bool true) ∧ Below (tick w ab c).heap.size (tick w ab c) w' := by
  have h1 : ¬ (e : Int) ≤ a := by omega
  have h2 : ¬ (b : Int) ≤ f := by omega
  have c0 := hE.cell (i := 0) rfl
  have c9 := hE.cell (i := 9) rfl
  have f9 := hE.free 9
  have HE := Lib.hid (show EV 156 (tick w ab c) ab (askL (.slice (some ⟨kb, 0, none⟩) m cap) a b x1 x2 y fv (c + 1)) from hE.set 9 _)
  have HN : Hid ((tick w ab c).cell? ⟨kb, k * 8 + 3, none⟩ = some (.int .i64 f) ∧ (tick w ab c).cell? ⟨kb, k * 8 + 4, none⟩ = some (.int .i64 e) ∧ (tick w ab c).cell? ⟨kb, k * 8 + 7, none⟩ = some (hv qb none)) := Lib.hid ⟨tick_cell hkb n3, tick_cell hkb n4, tick_cell hkb nh⟩
  have HW := Lib.hid (show tick w ab c = w.setCell ⟨ab, 9, none⟩ (.int .i64 ((c : Int) + 1)) from rfl)
  have HS := Lib.hid (show (tick w ab c).heap.size = w.heap.size from tick_size w ab c)
  unfold askL at c0 c9
  generalize tick w ab c = W at *
  clear hE n3 n4 nh hkb
  go_enter Tryz.func72, Tryz.ntmps72
  go_upto_region 2 with fail
  rw [← HW.out]
  have a0 := HE.out.cell (i := 0) rfl
  have a1 := HE.out.cell (i := 1) rfl
  have a2 := HE.out.cell (i := 2) rfl
  have a6 := HE.out.cell (i := 6) rfl
  clear c0 c9 f9
  go_upto_region 3 with fail
  obtain ⟨n3, n4, nh⟩ := HN.out
  have inst : Nonempty (Wd (Bw W)) := ⟨⟨W, Below.refl _ _⟩⟩
  have b1 : ∀ z : Wd (Bw W), z.w.cell? ⟨ab, 1, none⟩ = _ := fun z => Bw.cell z a1
  have b2 : ∀ z : Wd (Bw W), z.w.cell? ⟨ab, 2, none⟩ = _ := fun z => Bw.cell z a2
  have b6 : ∀ z : Wd (Bw W), z.w.cell? ⟨ab, 6, none⟩ = _ := fun z => Bw.cell z a6
  have m3 : ∀ z : Wd (Bw W), z.w.cell? ⟨kb, k * 8 + 3, none⟩ = _ := fun z => Bw.cell z n3
  have m4 : ∀ z : Wd (Bw W), z.w.cell? ⟨kb, k * 8 + 4, none⟩ = _ := fun z => Bw.cell z n4
  have m7 : ∀ z : Wd (Bw W), z.w.cell? ⟨kb, k * 8 + 7, none⟩ = some (.pointer none) := fun z => Bw.cell z nh
  refine wp_region_wd (Bw W) (by kernel_rfl) (by kernel_rfl) ((Below.refl _ W).drew) ?_
  repeat (first | go_big_quiet_step (fail) | quiet_step (fail))
  refine wpQuiet_nil ?_
  rintro _ ⟨z, rfl⟩
  have HB := Lib.hid (show Below W.heap.size W z.w from z.h)
  clear b1 b2 b6 m3 m4 m7 inst
  go_wp2
  go_ret
  exact ⟨rfl, HB.out⟩
set_option maxRecDepth 100000 in
set_option maxHeartbeats 1600000 in
theorem out_y {fv : Value} {s : S3} (hp : T1 w (qb s) 0 s) (hqa : qb s ≠ ab) (hE : EV 156 w ab (askL (.slice (some ⟨kb, 0, none⟩) m cap) a b x1 x2 y fv c)) (n3 : w.cell? ⟨kb, k * 8 + 3, none⟩ = some (.int .i64 f)) (n4 : w.cell? ⟨kb, k * 8 + 4, none⟩ = some (.int .i64 e)) (nh : w.cell? ⟨kb, k * 8 + 7, none⟩ = some (hv qb (some s))) (hkb : kb ≠ ab) (hk : k < m) (hc : c ≤ 100000)
    (h : ¬ e ≤ a ∧ ¬ b ≤ f ∧ y < s.2.1) :
    Calls Tryz.prog 72 #[.pointer (some ⟨ab, 0, none⟩), .int .i64 k] w fun e' w' => e' = .returned (.bool true) ∧ Below (tick w ab c).heap.size (tick w ab c) w' := by
  have h1 : ¬ (e : Int) ≤ a := by omega
  have h2 : ¬ (b : Int) ≤ f := by omega
  have h3 : y < s.2.1 := h.2.2
  have c0 := hE.cell (i := 0) rfl
  have c9 := hE.cell (i := 9) rfl
  have f9 := hE.free 9
  have HE := Lib.hid (show EV 156 (tick w ab c) ab (askL (.slice (some ⟨kb, 0, none⟩) m cap) a b x1 x2 y fv (c + 1)) from hE.set 9 _)
  have HN : Hid ((tick w ab c).cell? ⟨kb, k * 8 + 3, none⟩ = some (.int .i64 f) ∧ (tick w ab c).cell? ⟨kb, k * 8 + 4, none⟩ = some (.int .i64 e) ∧ (tick w ab c).cell? ⟨kb, k * 8 + 7, none⟩ = some (hv qb (some s))) := Lib.hid ⟨tick_cell hkb n3, tick_cell hkb n4, tick_cell hkb nh⟩
  have HW := Lib.hid (show tick w ab c = w.setCell ⟨ab, 9, none⟩ (.int .i64 ((c : Int) + 1)) from rfl)
  have HS := Lib.hid (show (tick w ab c).heap.size = w.heap.size from tick_size w ab c)
  have HP := Lib.hid (show T1 (tick w ab c) (qb s) 0 s from hp.off ((Off.refl [ab] w).set ⟨ab, 9, none⟩ (.int .i64 ((c + 1 : Nat) : Int)) (.inl (by simp))) (by simpa using hqa))
  unfold askL at c0 c9
  generalize tick w ab c = W at *
  clear hE n3 n4 nh hkb
  go_enter Tryz.func72, Tryz.ntmps72
  go_upto_region 2 with fail
  rw [← HW.out]
  have a0 := HE.out.cell (i := 0) rfl
  have a1 := HE.out.cell (i := 1) rfl
  have a2 := HE.out.cell (i := 2) rfl
  have a6 := HE.out.cell (i := 6) rfl
  clear c0 c9 f9
  go_upto_region 3 with fail
  obtain ⟨n3, n4, nh⟩ := HN.out
  have inst : Nonempty (Wd (Bw W)) := ⟨⟨W, Below.refl _ _⟩⟩
  have b1 : ∀ z : Wd (Bw W), z.w.cell? ⟨ab, 1, none⟩ = _ := fun z => Bw.cell z a1
  have b2 : ∀ z : Wd (Bw W), z.w.cell? ⟨ab, 2, none⟩ = _ := fun z => Bw.cell z a2
  have b6 : ∀ z : Wd (Bw W), z.w.cell? ⟨ab, 6, none⟩ = _ := fun z => Bw.cell z a6
  have m3 : ∀ z : Wd (Bw W), z.w.cell? ⟨kb, k * 8 + 3, none⟩ = _ := fun z => Bw.cell z n3
  have m4 : ∀ z : Wd (Bw W), z.w.cell? ⟨kb, k * 8 + 4, none⟩ = _ := fun z => Bw.cell z n4
  have m7 : ∀ z : Wd (Bw W), z.w.cell? ⟨kb, k * 8 + 7, none⟩ = some (.pointer (some ⟨qb s, 0, none⟩)) := fun z => Bw.cell z nh
  have p1 : ∀ z : Wd (Bw W), z.w.cell? ⟨qb s, 1, none⟩ = some (.int .i64 s.2.1) := fun z => Bw.cell z (HP.out.c1)
  refine wp_region_wd (Bw W) (by kernel_rfl) (by kernel_rfl) ((Below.refl _ W).drew) ?_
  repeat (first | go_big_quiet_step (fail) | quiet_step (fail))
  refine wpQuiet_nil ?_
  rintro _ ⟨z, rfl⟩
  have HB := Lib.hid (show Below W.heap.size W z.w from z.h)
  clear b1 b2 b6 m3 m4 m7 p1 inst
  go_wp2
  go_ret
  exact ⟨rfl, HB.out⟩
set_option maxRecDepth 100000 in
set_option maxHeartbeats 3200000 in
theorem in_stop {gf : Nat} {lb : Array Value} {s : S3} (hp : T1 w (qb s) 0 s) (hqa : qb s ≠ ab) (R1 : World → Prop) (eg : ∀ args w, (callFunc gf args).run Tryz.prog w = .ok (.enter gf args) w) (hin : inD s (x1, x2, -9223372036854775808, y) = true) (hC : ∀ X, Below (tick w ab c).heap.size (tick w ab c) X → Calls Tryz.prog gf (#[tv s] ++ lb) X fun e' X' => e' = .returned (.bool false) ∧ R1 X') (hE : EV 156 w ab (askL (.slice (some ⟨kb, 0, none⟩) m cap) a b x1 x2 y (.func (.func gf) #[] lb) c)) (n3 : w.cell? ⟨kb, k * 8 + 3, none⟩ = some (.int .i64 f)) (n4 : w.cell? ⟨kb, k * 8 + 4, none⟩ = some (.int .i64 e)) (nh : w.cell? ⟨kb, k * 8 + 7, none⟩ = some (hv qb (some s))) (hkb : kb ≠ ab) (hk : k < m) (hc : c ≤ 100000)
    (h : ¬ e ≤ a ∧ ¬ b ≤ f ∧ s.2.1 ≤ y) :
    Calls Tryz.prog 72 #[.pointer (some ⟨ab, 0, none⟩), .int .i64 k] w fun e' w' => e' = .returned (.bool false) ∧ R1 w' := by
  have h1 : ¬ (e : Int) ≤ a := by omega
  have h2 : ¬ (b : Int) ≤ f := by omega
  have h3 : ¬ y < s.2.1 := by omega
  have HIN : Hid (∀ X, Calls Tryz.prog 97 #[.agg #[.int .i64 s.1, .int .i64 s.2.1, .int .u32 s.2.2], .agg #[.int .i64 x1, .int .i64 x2, .int .i64 (-9223372036854775808), .int .i64 y, .int .u32 0]] X fun e' X' => e' = .returned (.bool true) ∧ Below X.heap.size X X') := Lib.hid (fun X => by have := in_any s ((x1, x2, -9223372036854775808, y), 0) X; rw [hin] at this; exact this)
  have HC := Lib.hid hC
  unfold tv at HC
  have c0 := hE.cell (i := 0) rfl
  have c9 := hE.cell (i := 9) rfl
  have f9 := hE.free 9
  have HE := Lib.hid (show EV 156 (tick w ab c) ab (askL (.slice (some ⟨kb, 0, none⟩) m cap) a b x1 x2 y (.func (.func gf) #[] lb) (c + 1)) from hE.set 9 _)
  have HN : Hid ((tick w ab c).cell? ⟨kb, k * 8 + 3, none⟩ = some (.int .i64 f) ∧ (tick w ab c).cell? ⟨kb, k * 8 + 4, none⟩ = some (.int .i64 e) ∧ (tick w ab c).cell? ⟨kb, k * 8 + 7, none⟩ = some (hv qb (some s))) := Lib.hid ⟨tick_cell hkb n3, tick_cell hkb n4, tick_cell hkb nh⟩
  have HW := Lib.hid (show tick w ab c = w.setCell ⟨ab, 9, none⟩ (.int .i64 ((c : Int) + 1)) from rfl)
  have HS := Lib.hid (show (tick w ab c).heap.size = w.heap.size from tick_size w ab c)
  have HP := Lib.hid (show T1 (tick w ab c) (qb s) 0 s from hp.off ((Off.refl [ab] w).set ⟨ab, 9, none⟩ (.int .i64 ((c + 1 : Nat) : Int)) (.inl (by simp))) (by simpa using hqa))
  unfold askL at c0 c9
  generalize tick w ab c = W at *
  clear hE n3 n4 nh hkb hp hqa h hin hC
  go_enter Tryz.func72, Tryz.ntmps72
  go_upto_region 2 with fail
  rw [← HW.out]
  have a0 := HE.out.cell (i := 0) rfl
  have a1 := HE.out.cell (i := 1) rfl
  have a2 := HE.out.cell (i := 2) rfl
  have a6 := HE.out.cell (i := 6) rfl
  clear c0 c9 f9
  go_upto_region 3 with fail
  obtain ⟨n3, n4, nh⟩ := HN.out
  have inst : Nonempty (Wd (Bw W)) := ⟨⟨W, Below.refl _ _⟩⟩
  have b1 : ∀ z : Wd (Bw W), z.w.cell? ⟨ab, 1, none⟩ = _ := fun z => Bw.cell z a1
  have b2 : ∀ z : Wd (Bw W), z.w.cell? ⟨ab, 2, none⟩ = _ := fun z => Bw.cell z a2
  have b6 : ∀ z : Wd (Bw W), z.w.cell? ⟨ab, 6, none⟩ = _ := fun z => Bw.cell z a6
  have m3 : ∀ z : Wd (Bw W), z.w.cell? ⟨kb, k * 8 + 3, none⟩ = _ := fun z => Bw.cell z n3
  have m4 : ∀ z : Wd (Bw W), z.w.cell? ⟨kb, k * 8 + 4, none⟩ = _ := fun z => Bw.cell z n4
  have m7 : ∀ z : Wd (Bw W), z.w.cell? ⟨kb, k * 8 + 7, none⟩ = some (.pointer (some ⟨qb s, 0, none⟩)) := fun z => Bw.cell z nh
  have p1 : ∀ z : Wd (Bw W), z.w.cell? ⟨qb s, 1, none⟩ = some (.int .i64 s.2.1) := fun z => Bw.cell z (HP.out.c1)
  refine wp_region_wd (Bw W) (by kernel_rfl) (by kernel_rfl) ((Below.refl _ W).drew) ?_
  repeat (first | go_big_quiet_step (fail) | quiet_step (fail))
  refine wpQuiet_nil ?_
  rintro _ ⟨z, rfl⟩
  have HB := Lib.hid (show Below W.heap.size W z.w from z.h)
  have HC0 : Hid (T1 z.w (qb s) 0 s) := Lib.hid (HP.out.keep HB.out HP.out.lt)
  have HEZ := Lib.hid (HE.out.keep HB.out HE.out.lt)
  have HHZ := Lib.hid (m7 z)
  generalize z.w = w2 at *
  clear b1 b2 b6 m3 m4 m7 p1 inst a0 a1 a2 a6 n3 n4 nh HN HP HE
  go_upto_region 5 with fail
  have q0 := HC0.out.c0
  have q1 := HC0.out.c1
  have q2 := HC0.out.c2
  simp only [Nat.zero_add] at q0 q1 q2
  have inst : Nonempty (Wd (Bw w2)) := ⟨⟨w2, Below.refl _ _⟩⟩
  have d0 : ∀ z : Wd (Bw w2), z.w.cell? ⟨qb s, 0, none⟩ = _ := fun z => Bw.cell z q0
  have d1 : ∀ z : Wd (Bw w2), z.w.cell? ⟨qb s, 1, none⟩ = _ := fun z => Bw.cell z q1
  have d2 : ∀ z : Wd (Bw w2), z.w.cell? ⟨qb s, 2, none⟩ = _ := fun z => Bw.cell z q2
  have d7 : ∀ z : Wd (Bw w2), z.w.cell? ⟨kb, k * 8 + 7, none⟩ = some (.pointer (some ⟨qb s, 0, none⟩)) := fun z => Bw.cell z HHZ.out
  have e3 : ∀ z : Wd (Bw w2), z.w.cell? ⟨ab, 3, none⟩ = some (.int .i64 x1) := fun z => Bw.cell z (HEZ.out.cell (i := 3) rfl)
  have e4 : ∀ z : Wd (Bw w2), z.w.cell? ⟨ab, 4, none⟩ = some (.int .i64 x2) := fun z => Bw.cell z (HEZ.out.cell (i := 4) rfl)
  have e5 : ∀ z : Wd (Bw w2), z.w.cell? ⟨ab, 5, none⟩ = some (.int .i64 (-9223372036854775808)) := fun z => Bw.cell z (HEZ.out.cell (i := 5) rfl)
  have e6 : ∀ z : Wd (Bw w2), z.w.cell? ⟨ab, 6, none⟩ = some (.int .i64 y) := fun z => Bw.cell z (HEZ.out.cell (i := 6) rfl)
  have e7 : ∀ z : Wd (Bw w2), z.w.cell? ⟨ab, 7, none⟩ = some (.int .u32 0) := fun z => Bw.cell z (HEZ.out.cell (i := 7) rfl)
  have e8 : ∀ z : Wd (Bw w2), z.w.cell? ⟨ab, 8, none⟩ = some (.func (.func gf) #[] lb) := fun z => Bw.cell z (HEZ.out.cell (i := 8) rfl)
  have HFC := Lib.hid (fun z : Wd (Bw w2) => HIN.out z.w)
  generalize hqq : qb s = sb at *
  refine wp_region_qc (Bw w2) 22 (by kernel_rfl) (by kernel_rfl) ((Below.refl _ w2).drew) ?_
  simp only [List.take_succ_cons, List.take_zero, List.drop_succ_cons, List.drop_zero]
  repeat (first | go_big_quiet_step (first | (go_at_call 97; with_reducible exact calls_wd (fun _ _ h hb => h.keep hb) _ (HFC.out _))) | quiet_step (first | (go_at_call 97; with_reducible exact calls_wd (fun _ _ h hb => h.keep hb) _ (HFC.out _))))
  refine wpQuiet_nil ?_
  rintro _ ⟨z, rfl⟩
  refine wpOp_callW rfl rfl (f := gf) (args := #[.agg #[.int .i64 s.1, .int .i64 s.2.1, .int .u32 s.2.2]] ++ lb) (by simp [execOp, resolve, invoke, Act.eval, Deferred.ofValue, go_sem, eg]) ?_
  refine (HC.out z.w (HB.out.trans (Below.mono z.h HB.out.size))).mono ?_
  rintro e' w5 ⟨rfl, hr⟩
  refine ⟨_, rfl, ?_⟩
  have HR := Lib.hid hr
  clear hr d0 d1 d2 d7 e3 e4 e5 e6 e7 e8 inst HFC q0 q1 q2
  repeat (first | go_big_quiet_step (fail) | quiet_step (fail))
  refine wpQuiet_nil ?_
  go_wp2
  go_ret
  exact ⟨rfl, HR.out⟩
set_option maxRecDepth 100000 in
set_option maxHeartbeats 3200000 in
theorem in_leafA {gf : Nat} {lb : Array Value} {s : S3} (hp : T1 w (qb s) 0 s) (hqa : qb s ≠ ab) (R1 : World → Prop) (eg : ∀ args w, (callFunc gf args).run Tryz.prog w = .ok (.enter gf args) w) (hin : inD s (x1, x2, -9223372036854775808, y) = true) (hC : ∀ X, Below (tick w ab c).heap.size (tick w ab c) X → Calls Tryz.prog gf (#[tv s] ++ lb) X fun e' X' => e' = .returned (.bool true) ∧ R1 X') (hK : ∀ X, R1 X → X.cell? ⟨kb, k * 8, none⟩ = some (.int .u8 1)) (hE : EV 156 w ab (askL (.slice (some ⟨kb, 0, none⟩) m cap) a b x1 x2 y (.func (.func gf) #[] lb) c)) (n3 : w.cell? ⟨kb, k * 8 + 3, none⟩ = some (.int .i64 f)) (n4 : w.cell? ⟨kb, k * 8 + 4, none⟩ = some (.int .i64 e)) (nh : w.cell? ⟨kb, k * 8 + 7, none⟩ = some (hv qb (some s))) (hkb : kb ≠ ab) (hk : k < m) (hc : c ≤ 100000)
    (h : ¬ e ≤ a ∧ ¬ b ≤ f ∧ s.2.1 ≤ y) :
    Calls Tryz.prog 72 #[.pointer (some ⟨ab, 0, none⟩), .int .i64 k] w fun e' w' => e' = .returned (.bool true) ∧ R1 w' := by
  have h1 : ¬ (e : Int) ≤ a := by omega
  have h2 : ¬ (b : Int) ≤ f := by omega
  have h3 : ¬ y < s.2.1 := by omega
  have HIN : Hid (∀ X, Calls Tryz.prog 97 #[.agg #[.int .i64 s.1, .int .i64 s.2.1, .int .u32 s.2.2], .agg #[.int .i64 x1, .int .i64 x2, .int .i64 (-9223372036854775808), .int .i64 y, .int .u32 0]] X fun e' X' => e' = .returned (.bool true) ∧ Below X.heap.size X X') := Lib.hid (fun X => by have := in_any s ((x1, x2, -9223372036854775808, y), 0) X; rw [hin] at this; exact this)
  have HC := Lib.hid hC
  have HK := Lib.hid hK
  unfold tv at HC
  have c0 := hE.cell (i := 0) rfl
  have c9 := hE.cell (i := 9) rfl
  have f9 := hE.free 9
  have HE := Lib.hid (show EV 156 (tick w ab c) ab (askL (.slice (some ⟨kb, 0, none⟩) m cap) a b x1 x2 y (.func (.func gf) #[] lb) (c + 1)) from hE.set 9 _)
  have HN : Hid ((tick w ab c).cell? ⟨kb, k * 8 + 3, none⟩ = some (.int .i64 f) ∧ (tick w ab c).cell? ⟨kb, k * 8 + 4, none⟩ = some (.int .i64 e) ∧ (tick w ab c).cell? ⟨kb, k * 8 + 7, none⟩ = some (hv qb (some s))) := Lib.hid ⟨tick_cell hkb n3, tick_cell hkb n4, tick_cell hkb nh⟩
  have HW := Lib.hid (show tick w ab c = w.setCell ⟨ab, 9, none⟩ (.int .i64 ((c : Int) + 1)) from rfl)
  have HS := Lib.hid (show (tick w ab c).heap.size = w.heap.size from tick_size w ab c)
  have HP := Lib.hid (show T1 (tick w ab c) (qb s) 0 s from hp.off ((Off.refl [ab] w).set ⟨ab, 9, none⟩ (.int .i64 ((c + 1 : Nat) : Int)) (.inl (by simp))) (by simpa using hqa))
  unfold askL at c0 c9
  generalize tick w ab c = W at *
  clear hE n3 n4 nh hkb hp hqa h hin hC hK
  go_enter Tryz.func72, Tryz.ntmps72
  go_upto_region 2 with fail
  rw [← HW.out]
  have a0 := HE.out.cell (i := 0) rfl
  have a1 := HE.out.cell (i := 1) rfl
  have a2 := HE.out.cell (i := 2) rfl
  have a6 := HE.out.cell (i := 6) rfl
  clear c0 c9 f9
  go_upto_region 3 with fail
  obtain ⟨n3, n4, nh⟩ := HN.out
  have inst : Nonempty (Wd (Bw W)) := ⟨⟨W, Below.refl _ _⟩⟩
  have b1 : ∀ z : Wd (Bw W), z.w.cell? ⟨ab, 1, none⟩ = _ := fun z => Bw.cell z a1
  have b2 : ∀ z : Wd (Bw W), z.w.cell? ⟨ab, 2, none⟩ = _ := fun z => Bw.cell z a2
  have b6 : ∀ z : Wd (Bw W), z.w.cell? ⟨ab, 6, none⟩ = _ := fun z => Bw.cell z a6
  have m3 : ∀ z : Wd (Bw W), z.w.cell? ⟨kb, k * 8 + 3, none⟩ = _ := fun z => Bw.cell z n3
  have m4 : ∀ z : Wd (Bw W), z.w.cell? ⟨kb, k * 8 + 4, none⟩ = _ := fun z => Bw.cell z n4
  have m7 : ∀ z : Wd (Bw W), z.w.cell? ⟨kb, k * 8 + 7, none⟩ = some (.pointer (some ⟨qb s, 0, none⟩)) := fun z => Bw.cell z nh
  have p1 : ∀ z : Wd (Bw W), z.w.cell? ⟨qb s, 1, none⟩ = some (.int .i64 s.2.1) := fun z => Bw.cell z (HP.out.c1)
  refine wp_region_wd (Bw W) (by kernel_rfl) (by kernel_rfl) ((Below.refl _ W).drew) ?_
  repeat (first | go_big_quiet_step (fail) | quiet_step (fail))
  refine wpQuiet_nil ?_
  rintro _ ⟨z, rfl⟩
  have HB := Lib.hid (show Below W.heap.size W z.w from z.h)
  have HC0 : Hid (T1 z.w (qb s) 0 s) := Lib.hid (HP.out.keep HB.out HP.out.lt)
  have HEZ := Lib.hid (HE.out.keep HB.out HE.out.lt)
  have HHZ := Lib.hid (m7 z)
  generalize z.w = w2 at *
  clear b1 b2 b6 m3 m4 m7 p1 inst a0 a1 a2 a6 n3 n4 nh HN HP HE
  go_upto_region 5 with fail
  have q0 := HC0.out.c0
  have q1 := HC0.out.c1
  have q2 := HC0.out.c2
  simp only [Nat.zero_add] at q0 q1 q2
  have inst : Nonempty (Wd (Bw w2)) := ⟨⟨w2, Below.refl _ _⟩⟩
  have d0 : ∀ z : Wd (Bw w2), z.w.cell? ⟨qb s, 0, none⟩ = _ := fun z => Bw.cell z q0
  have d1 : ∀ z : Wd (Bw w2), z.w.cell? ⟨qb s, 1, none⟩ = _ := fun z => Bw.cell z q1
  have d2 : ∀ z : Wd (Bw w2), z.w.cell? ⟨qb s, 2, none⟩ = _ := fun z => Bw.cell z q2
  have d7 : ∀ z : Wd (Bw w2), z.w.cell? ⟨kb, k * 8 + 7, none⟩ = some (.pointer (some ⟨qb s, 0, none⟩)) := fun z => Bw.cell z HHZ.out
  have e3 : ∀ z : Wd (Bw w2), z.w.cell? ⟨ab, 3, none⟩ = some (.int .i64 x1) := fun z => Bw.cell z (HEZ.out.cell (i := 3) rfl)
  have e4 : ∀ z : Wd (Bw w2), z.w.cell? ⟨ab, 4, none⟩ = some (.int .i64 x2) := fun z => Bw.cell z (HEZ.out.cell (i := 4) rfl)
  have e5 : ∀ z : Wd (Bw w2), z.w.cell? ⟨ab, 5, none⟩ = some (.int .i64 (-9223372036854775808)) := fun z => Bw.cell z (HEZ.out.cell (i := 5) rfl)
  have e6 : ∀ z : Wd (Bw w2), z.w.cell? ⟨ab, 6, none⟩ = some (.int .i64 y) := fun z => Bw.cell z (HEZ.out.cell (i := 6) rfl)
  have e7 : ∀ z : Wd (Bw w2), z.w.cell? ⟨ab, 7, none⟩ = some (.int .u32 0) := fun z => Bw.cell z (HEZ.out.cell (i := 7) rfl)
  have e8 : ∀ z : Wd (Bw w2), z.w.cell? ⟨ab, 8, none⟩ = some (.func (.func gf) #[] lb) := fun z => Bw.cell z (HEZ.out.cell (i := 8) rfl)
  have HFC := Lib.hid (fun z : Wd (Bw w2) => HIN.out z.w)
  generalize hqq : qb s = sb at *
  refine wp_region_qc (Bw w2) 22 (by kernel_rfl) (by kernel_rfl) ((Below.refl _ w2).drew) ?_
  simp only [List.take_succ_cons, List.take_zero, List.drop_succ_cons, List.drop_zero]
  repeat (first | go_big_quiet_step (first | (go_at_call 97; with_reducible exact calls_wd (fun _ _ h hb => h.keep hb) _ (HFC.out _))) | quiet_step (first | (go_at_call 97; with_reducible exact calls_wd (fun _ _ h hb => h.keep hb) _ (HFC.out _))))
  refine wpQuiet_nil ?_
  rintro _ ⟨z, rfl⟩
  refine wpOp_callW rfl rfl (f := gf) (args := #[.agg #[.int .i64 s.1, .int .i64 s.2.1, .int .u32 s.2.2]] ++ lb) (by simp [execOp, resolve, invoke, Act.eval, Deferred.ofValue, go_sem, eg]) ?_
  refine (HC.out z.w (HB.out.trans (Below.mono z.h HB.out.size))).mono ?_
  rintro e' w5 ⟨rfl, hr⟩
  refine ⟨_, rfl, ?_⟩
  have HR := Lib.hid hr
  clear hr d0 d1 d2 d7 e3 e4 e5 e6 e7 e8 inst HFC q0 q1 q2
  repeat (first | go_big_quiet_step (fail) | quiet_step (fail))
  refine wpQuiet_nil ?_
  have k0 := HK.out _ HR.out
  go_wp2
  go_ret
  exact ⟨rfl, HR.out⟩
set_option maxRecDepth 100000 in
set_option maxHeartbeats 3200000 in
theorem in_leafB {gf : Nat} {lb : Array Value} {s : S3} (hp : T1 w (qb s) 0 s) (hqa : qb s ≠ ab) (R1 : World → Prop) (hin : inD s (x1, x2, -9223372036854775808, y) = false) (hR0 : ∀ X, Below (tick w ab c).heap.size (tick w ab c) X → R1 X) (hK : ∀ X, R1 X → X.cell? ⟨kb, k * 8, none⟩ = some (.int .u8 1)) (hE : EV 156 w ab (askL (.slice (some ⟨kb, 0, none⟩) m cap) a b x1 x2 y (.func (.func gf) #[] lb) c)) (n3 : w.cell? ⟨kb, k * 8 + 3, none⟩ = some (.int .i64 f)) (n4 : w.cell? ⟨kb, k * 8 + 4, none⟩ = some (.int .i64 e)) (nh : w.cell? ⟨kb, k * 8 + 7, none⟩ = some (hv qb (some s))) (hkb : kb ≠ ab) (hk : k < m) (hc : c ≤ 100000)
    (h : ¬ e ≤ a ∧ ¬ b ≤ f ∧ s.2.1 ≤ y) :
    Calls Tryz.prog 72 #[.pointer (some ⟨ab, 0, none⟩), .int .i64 k] w fun e' w' => e' = .returned (.bool true) ∧ R1 w' := by
  have h1 : ¬ (e : Int) ≤ a := by omega
  have h2 : ¬ (b : Int) ≤ f := by omega
  have h3 : ¬ y < s.2.1 := by omega
  have HIN : Hid (∀ X, Calls Tryz.prog 97 #[.agg #[.int .i64 s.1, .int .i64 s.2.1, .int .u32 s.2.2], .agg #[.int .i64 x1, .int .i64 x2, .int .i64 (-9223372036854775808), .int .i64 y, .int .u32 0]] X fun e' X' => e' = .returned (.bool false) ∧ Below X.heap.size X X') := Lib.hid (fun X => by have := in_any s ((x1, x2, -9223372036854775808, y), 0) X; rw [hin] at this; exact this)
  have HR0 := Lib.hid hR0
  have HK := Lib.hid hK
  have c0 := hE.cell (i := 0) rfl
  have c9 := hE.cell (i := 9) rfl
  have f9 := hE.free 9
  have HE := Lib.hid (show EV 156 (tick w ab c) ab (askL (.slice (some ⟨kb, 0, none⟩) m cap) a b x1 x2 y (.func (.func gf) #[] lb) (c + 1)) from hE.set 9 _)
  have HN : Hid ((tick w ab c).cell? ⟨kb, k * 8 + 3, none⟩ = some (.int .i64 f) ∧ (tick w ab c).cell? ⟨kb, k * 8 + 4, none⟩ = some (.int .i64 e) ∧ (tick w ab c).cell? ⟨kb, k * 8 + 7, none⟩ = some (hv qb (some s))) := Lib.hid ⟨tick_cell hkb n3, tick_cell hkb n4, tick_cell hkb nh⟩
  have HW := Lib.hid (show tick w ab c = w.setCell ⟨ab, 9, none⟩ (.int .i64 ((c : Int) + 1)) from rfl)
  have HS := Lib.hid (show (tick w ab c).heap.size = w.heap.size from tick_size w ab c)
  have HP := Lib.hid (show T1 (tick w ab c) (qb s) 0 s from hp.off ((Off.refl [ab] w).set ⟨ab, 9, none⟩ (.int .i64 ((c + 1 : Nat) : Int)) (.inl (by simp))) (by simpa using hqa))
  unfold askL at c0 c9
  generalize tick w ab c = W at *
  clear hE n3 n4 nh hkb hp hqa h hin hR0 hK
  go_enter Tryz.func72, Tryz.ntmps72
  go_upto_region 2 with fail
  rw [← HW.out]
  have a0 := HE.out.cell (i := 0) rfl
  have a1 := HE.out.cell (i := 1) rfl
  have a2 := HE.out.cell (i := 2) rfl
  have a6 := HE.out.cell (i := 6) rfl
  clear c0 c9 f9
  go_upto_region 3 with fail
  obtain ⟨n3, n4, nh⟩ := HN.out
  have inst : Nonempty (Wd (Bw W)) := ⟨⟨W, Below.refl _ _⟩⟩
  have b1 : ∀ z : Wd (Bw W), z.w.cell? ⟨ab, 1, none⟩ = _ := fun z => Bw.cell z a1
  have b2 : ∀ z : Wd (Bw W), z.w.cell? ⟨ab, 2, none⟩ = _ := fun z => Bw.cell z a2
  have b6 : ∀ z : Wd (Bw W), z.w.cell? ⟨ab, 6, none⟩ = _ := fun z => Bw.cell z a6
  have m3 : ∀ z : Wd (Bw W), z.w.cell? ⟨kb, k * 8 + 3, none⟩ = _ := fun z => Bw.cell z n3
  have m4 : ∀ z : Wd (Bw W), z.w.cell? ⟨kb, k * 8 + 4, none⟩ = _ := fun z => Bw.cell z n4
  have m7 : ∀ z : Wd (Bw W), z.w.cell? ⟨kb, k * 8 + 7, none⟩ = some (.pointer (some ⟨qb s, 0, none⟩)) := fun z => Bw.cell z nh
  have p1 : ∀ z : Wd (Bw W), z.w.cell? ⟨qb s, 1, none⟩ = some (.int .i64 s.2.1) := fun z => Bw.cell z (HP.out.c1)
  refine wp_region_wd (Bw W) (by kernel_rfl) (by kernel_rfl) ((Below.refl _ W).drew) ?_
  repeat (first | go_big_quiet_step (fail) | quiet_step (fail))
  refine wpQuiet_nil ?_
  rintro _ ⟨z, rfl⟩
  have HB := Lib.hid (show Below W.heap.size W z.w from z.h)
  have HC0 : Hid (T1 z.w (qb s) 0 s) := Lib.hid (HP.out.keep HB.out HP.out.lt)
  have HEZ := Lib.hid (HE.out.keep HB.out HE.out.lt)
  have HHZ := Lib.hid (m7 z)
  generalize z.w = w2 at *
  clear b1 b2 b6 m3 m4 m7 p1 inst a0 a1 a2 a6 n3 n4 nh HN HP HE
  go_upto_region 5 with fail
  have q0 := HC0.out.c0
  have q1 := HC0.out.c1
  have q2 := HC0.out.c2
  simp only [Nat.zero_add] at q0 q1 q2
  have inst : Nonempty (Wd (Bw w2)) := ⟨⟨w2, Below.refl _ _⟩⟩
  have d0 : ∀ z : Wd (Bw w2), z.w.cell? ⟨qb s, 0, none⟩ = _ := fun z => Bw.cell z q0
  have d1 : ∀ z : Wd (Bw w2), z.w.cell? ⟨qb s, 1, none⟩ = _ := fun z => Bw.cell z q1
  have d2 : ∀ z : Wd (Bw w2), z.w.cell? ⟨qb s, 2, none⟩ = _ := fun z => Bw.cell z q2
  have d7 : ∀ z : Wd (Bw w2), z.w.cell? ⟨kb, k * 8 + 7, none⟩ = some (.pointer (some ⟨qb s, 0, none⟩)) := fun z => Bw.cell z HHZ.out
  have e3 : ∀ z : Wd (Bw w2), z.w.cell? ⟨ab, 3, none⟩ = some (.int .i64 x1) := fun z => Bw.cell z (HEZ.out.cell (i := 3) rfl)
  have e4 : ∀ z : Wd (Bw w2), z.w.cell? ⟨ab, 4, none⟩ = some (.int .i64 x2) := fun z => Bw.cell z (HEZ.out.cell (i := 4) rfl)
  have e5 : ∀ z : Wd (Bw w2), z.w.cell? ⟨ab, 5, none⟩ = some (.int .i64 (-9223372036854775808)) := fun z => Bw.cell z (HEZ.out.cell (i := 5) rfl)
  have e6 : ∀ z : Wd (Bw w2), z.w.cell? ⟨ab, 6, none⟩ = some (.int .i64 y) := fun z => Bw.cell z (HEZ.out.cell (i := 6) rfl)
  have e7 : ∀ z : Wd (Bw w2), z.w.cell? ⟨ab, 7, none⟩ = some (.int .u32 0) := fun z => Bw.cell z (HEZ.out.cell (i := 7) rfl)
  have e8 : ∀ z : Wd (Bw w2), z.w.cell? ⟨ab, 8, none⟩ = some (.func (.func gf) #[] lb) := fun z => Bw.cell z (HEZ.out.cell (i := 8) rfl)
  have HFC := Lib.hid (fun z : Wd (Bw w2) => HIN.out z.w)
  generalize hqq : qb s = sb at *
  refine wp_region_wd (Bw w2) (by kernel_rfl) (by kernel_rfl) ((Below.refl _ w2).drew) ?_
  repeat (first | go_big_quiet_step (first | (go_at_call 97; with_reducible exact calls_wd (fun _ _ h hb => h.keep hb) _ (HFC.out _))) | quiet_step (first | (go_at_call 97; with_reducible exact calls_wd (fun _ _ h hb => h.keep hb) _ (HFC.out _))))
  refine wpQuiet_nil ?_
  rintro _ ⟨z, rfl⟩
  have HR := Lib.hid (HR0.out z.w (HB.out.trans (Below.mono z.h HB.out.size)))
  generalize z.w = w5 at *
  clear d0 d1 d2 d7 e3 e4 e5 e6 e7 e8 inst HFC q0 q1 q2
  have k0 := HK.out _ HR.out
  go_wp2
  go_ret
  exact ⟨rfl, HR.out⟩
end
end Go.Proofs.YtldmajifkmcdcaaGreat.Hp
/-
  From the root down: one node over two kids is entered. No condition but those typed at each theorem.
-/
namespace Go.Proofs.YtldmajifkmcdcaaGreat.Hp
open Go.RowKit Go.Sort Bd
section
variable {w : World} {k m cap a b f e ab kb c : Nat} {x1 x2 y : Int} {qb : S3 → Nat}
set_option maxRecDepth 100000 in
set_option maxHeartbeats 3200000 in
theorem in_nodeA {gf : Nat} {lb : Array Value} {s : S3} (hp : T1 w (qb s) 0 s) (hqa : qb s ≠ ab) (R1 : World → Prop) (eg : ∀ args w, (callFunc gf args).run Tryz.prog w = .ok (.enter gf args) w) (hin : inD s (x1, x2, -9223372036854775808, y) = true) (hC : ∀ X, Below (tick w ab c).heap.size (tick w ab c) X → Calls Tryz.prog gf (#[tv s] ++ lb) X fun e' X' => e' = .returned (.bool true) ∧ R1 X') {rl rr : Nat} {m1 m2 : Bool} (R2 R3 : World → Prop) (hK : ∀ X, R1 X → X.cell? ⟨kb, k * 8, none⟩ = some (.int .u8 2) ∧ X.cell? ⟨kb, k * 8 + 1, none⟩ = some (.int .i64 rl)) (hK2 : ∀ X, R2 X → X.cell? ⟨kb, k * 8 + 2, none⟩ = some (.int .i64 rr)) (hL : ∀ X, R1 X → Calls Tryz.prog 72 #[.pointer (some ⟨ab, 0, none⟩), .int .i64 rl] X fun e' X' => e' = .returned (.bool m1) ∧ R2 X') (hR : ∀ X, R2 X → Calls Tryz.prog 72 #[.pointer (some ⟨ab, 0, none⟩), .int .i64 rr] X fun e' X' => e' = .returned (.bool m2) ∧ R3 X') (hE : EV 156 w ab (askL (.slice (some ⟨kb, 0, none⟩) m cap) a b x1 x2 y (.func (.func gf) #[] lb) c)) (n3 : w.cell? ⟨kb, k * 8 + 3, none⟩ = some (.int .i64 f)) (n4 : w.cell? ⟨kb, k * 8 + 4, none⟩ = some (.int .i64 e)) (nh : w.cell? ⟨kb, k * 8 + 7, none⟩ = some (hv qb (some s))) (hkb : kb ≠ ab) (hk : k < m) (hc : c ≤ 100000)
    (h : ¬ e ≤ a ∧ ¬ b ≤ f ∧ s.2.1 ≤ y) :
    Calls Tryz.prog 72 #[.pointer (some ⟨ab, 0, none⟩), .int .i64 k] w fun e' w' => e' = .returned (.bool (m1 && m2)) ∧ (if m1 = true then R3 w' else R2 w') := by
  have h1 : ¬ (e : Int) ≤ a := by omega
  have h2 : ¬ (b : Int) ≤ f := by omega
  have h3 : ¬ y < s.2.1 := by omega
  have HIN : Hid (∀ X, Calls Tryz.prog 97 #[.agg #[.int .i64 s.1, .int .i64 s.2.1, .int .u32 s.2.2], .agg #[.int .i64 x1, .int .i64 x2, .int .i64 (-9223372036854775808), .int .i64 y, .int .u32 0]] X fun e' X' => e' = .returned (.bool true) ∧ Below X.heap.size X X') := Lib.hid (fun X => by have := in_any s ((x1, x2, -9223372036854775808, y), 0) X; rw [hin] at this; exact this)
  have HC := Lib.hid hC
  have HK := Lib.hid hK
  have HK2 := Lib.hid hK2
  have HL := Lib.hid hL
  have HRR := Lib.hid hR
  unfold tv at HC
  have c0 := hE.cell (i := 0) rfl
  have c9 := hE.cell (i := 9) rfl
  have f9 := hE.free 9
  have HE := Lib.hid (show EV 156 (tick w ab c) ab (askL (.slice (some ⟨kb, 0, none⟩) m cap) a b x1 x2 y (.func (.func gf) #[] lb) (c + 1)) from hE.set 9 _)
  have HN : Hid ((tick w ab c).cell? ⟨kb, k * 8 + 3, none⟩ = some (.int .i64 f) ∧ (tick w ab c).cell? ⟨kb, k * 8 + 4, none⟩ = some (.int .i64 e) ∧ (tick w ab c).cell? ⟨kb, k * 8 + 7, none⟩ = some (hv qb (some s))) := Lib.hid ⟨tick_cell hkb n3, tick_cell hkb n4, tick_cell hkb nh⟩
  have HW := Lib.hid (show tick w ab c = w.setCell ⟨ab, 9, none⟩ (.int .i64 ((c : Int) + 1)) from rfl)
  have HS := Lib.hid (show (tick w ab c).heap.size = w.heap.size from tick_size w ab c)
  have HP := Lib.hid (show T1 (tick w ab c) (qb s) 0 s from hp.off ((Off.refl [ab] w).set ⟨ab, 9, none⟩ (.int .i64 ((c + 1 : Nat) : Int)) (.inl (by simp))) (by simpa using hqa))
  unfold askL at c0 c9
  generalize tick w ab c = W at *
  clear hE n3 n4 nh hkb hp hqa h hin hC hK hK2 hL hR
  go_enter Tryz.func72, Tryz.ntmps72
  go_upto_region 2 with fail
  rw [← HW.out]
  have a0 := HE.out.cell (i := 0) rfl
  have a1 := HE.out.cell (i := 1) rfl
  have a2 := HE.out.cell (i := 2) rfl
  have a6 := HE.out.cell (i := 6) rfl
  clear c0 c9 f9
  go_upto_region 3 with fail
  obtain ⟨n3, n4, nh⟩ := HN.out
  have inst : Nonempty (Wd (Bw W)) := ⟨⟨W, Below.refl _ _⟩⟩
  have b1 : ∀ z : Wd (Bw W), z.w.cell? ⟨ab, 1, none⟩ = _ := fun z => Bw.cell z a1
  have b2 : ∀ z : Wd (Bw W), z.w.cell? ⟨ab, 2, none⟩ = _ := fun z => Bw.cell z a2
  have b6 : ∀ z : Wd (Bw W), z.w.cell? ⟨ab, 6, none⟩ = _ := fun z => Bw.cell z a6
  have m3 : ∀ z : Wd (Bw W), z.w.cell? ⟨kb, k * 8 + 3, none⟩ = _ := fun z => Bw.cell z n3
  have m4 : ∀ z : Wd (Bw W), z.w.cell? ⟨kb, k * 8 + 4, none⟩ = _ := fun z => Bw.cell z n4
  have m7 : ∀ z : Wd (Bw W), z.w.cell? ⟨kb, k * 8 + 7, none⟩ = some (.pointer (some ⟨qb s, 0, none⟩)) := fun z => Bw.cell z nh
  have p1 : ∀ z : Wd (Bw W), z.w.cell? ⟨qb s, 1, none⟩ = some (.int .i64 s.2.1) := fun z => Bw.cell z (HP.out.c1)
  refine wp_region_wd (Bw W) (by kernel_rfl) (by kernel_rfl) ((Below.refl _ W).drew) ?_
  repeat (first | go_big_quiet_step (fail) | quiet_step (fail))
  refine wpQuiet_nil ?_
  rintro _ ⟨z, rfl⟩
  have HB := Lib.hid (show Below W.heap.size W z.w from z.h)
  have HC0 : Hid (T1 z.w (qb s) 0 s) := Lib.hid (HP.out.keep HB.out HP.out.lt)
  have HEZ := Lib.hid (HE.out.keep HB.out HE.out.lt)
  have HHZ := Lib.hid (m7 z)
  generalize z.w = w2 at *
  clear b1 b2 b6 m3 m4 m7 p1 inst a0 a1 a2 a6 n3 n4 nh HN HP HE
  go_upto_region 5 with fail
  have q0 := HC0.out.c0
  have q1 := HC0.out.c1
  have q2 := HC0.out.c2
  simp only [Nat.zero_add] at q0 q1 q2
  have inst : Nonempty (Wd (Bw w2)) := ⟨⟨w2, Below.refl _ _⟩⟩
  have d0 : ∀ z : Wd (Bw w2), z.w.cell? ⟨qb s, 0, none⟩ = _ := fun z => Bw.cell z q0
  have d1 : ∀ z : Wd (Bw w2), z.w.cell? ⟨qb s, 1, none⟩ = _ := fun z => Bw.cell z q1
  have d2 : ∀ z : Wd (Bw w2), z.w.cell? ⟨qb s, 2, none⟩ = _ := fun z => Bw.cell z q2
  have d7 : ∀ z : Wd (Bw w2), z.w.cell? ⟨kb, k * 8 + 7, none⟩ = some (.pointer (some ⟨qb s, 0, none⟩)) := fun z => Bw.cell z HHZ.out
  have e3 : ∀ z : Wd (Bw w2), z.w.cell? ⟨ab, 3, none⟩ = some (.int .i64 x1) := fun z => Bw.cell z (HEZ.out.cell (i := 3) rfl)
  have e4 : ∀ z : Wd (Bw w2), z.w.cell? ⟨ab, 4, none⟩ = some (.int .i64 x2) := fun z => Bw.cell z (HEZ.out.cell (i := 4) rfl)
  have e5 : ∀ z : Wd (Bw w2), z.w.cell? ⟨ab, 5, none⟩ = some (.int .i64 (-9223372036854775808)) := fun z => Bw.cell z (HEZ.out.cell (i := 5) rfl)
  have e6 : ∀ z : Wd (Bw w2), z.w.cell? ⟨ab, 6, none⟩ = some (.int .i64 y) := fun z => Bw.cell z (HEZ.out.cell (i := 6) rfl)
  have e7 : ∀ z : Wd (Bw w2), z.w.cell? ⟨ab, 7, none⟩ = some (.int .u32 0) := fun z => Bw.cell z (HEZ.out.cell (i := 7) rfl)
  have e8 : ∀ z : Wd (Bw w2), z.w.cell? ⟨ab, 8, none⟩ = some (.func (.func gf) #[] lb) := fun z => Bw.cell z (HEZ.out.cell (i := 8) rfl)
  have HFC := Lib.hid (fun z : Wd (Bw w2) => HIN.out z.w)
  generalize hqq : qb s = sb at *
  refine wp_region_qc (Bw w2) 22 (by kernel_rfl) (by kernel_rfl) ((Below.refl _ w2).drew) ?_
  simp only [List.take_succ_cons, List.take_zero, List.drop_succ_cons, List.drop_zero]
  repeat (first | go_big_quiet_step (first | (go_at_call 97; with_reducible exact calls_wd (fun _ _ h hb => h.keep hb) _ (HFC.out _))) | quiet_step (first | (go_at_call 97; with_reducible exact calls_wd (fun _ _ h hb => h.keep hb) _ (HFC.out _))))
  refine wpQuiet_nil ?_
  rintro _ ⟨z, rfl⟩
  refine wpOp_callW rfl rfl (f := gf) (args := #[.agg #[.int .i64 s.1, .int .i64 s.2.1, .int .u32 s.2.2]] ++ lb) (by simp [execOp, resolve, invoke, Act.eval, Deferred.ofValue, go_sem, eg]) ?_
  refine (HC.out z.w (HB.out.trans (Below.mono z.h HB.out.size))).mono ?_
  rintro e' w5 ⟨rfl, hr⟩
  refine ⟨_, rfl, ?_⟩
  have HR := Lib.hid hr
  clear hr d0 d1 d2 d7 e3 e4 e5 e6 e7 e8 inst HFC q0 q1 q2
  repeat (first | go_big_quiet_step (fail) | quiet_step (fail))
  refine wpQuiet_nil ?_
  obtain ⟨k0, k1⟩ := HK.out _ HR.out
  cases m1 with
  | false =>
    go_wp2_with (go_at_call 72; (with_reducible refine (HL.out _ HR.out).mono ?_); rintro e' w6 ⟨rfl, hr⟩; have HR2 := Lib.hid hr; clear hr)
    go_ret
    exact ⟨rfl, HR2.out⟩
  | true =>
    go_wp2_with (first
      | (go_at_call 72; (with_reducible refine (HL.out _ HR.out).mono ?_); rintro e' w6 ⟨rfl, hr⟩; have k2 := HK2.out _ hr; have HR2 := Lib.hid hr; clear hr)
      | (go_at_call 72; (with_reducible refine (HRR.out _ HR2.out).mono ?_); rintro e' w7 ⟨rfl, hr⟩; have HR3 := Lib.hid hr; clear hr))
    go_ret
    exact ⟨by simp, HR3.out⟩
set_option maxRecDepth 100000 in
set_option maxHeartbeats 3200000 in
theorem in_nodeB {gf : Nat} {lb : Array Value} {s : S3} (hp : T1 w (qb s) 0 s) (hqa : qb s ≠ ab) (R1 : World → Prop) (hin : inD s (x1, x2, -9223372036854775808, y) = false) (hR0 : ∀ X, Below (tick w ab c).heap.size (tick w ab c) X → R1 X) {rl rr : Nat} {m1 m2 : Bool} (R2 R3 : World → Prop) (hK : ∀ X, R1 X → X.cell? ⟨kb, k * 8, none⟩ = some (.int .u8 2) ∧ X.cell? ⟨kb, k * 8 + 1, none⟩ = some (.int .i64 rl)) (hK2 : ∀ X, R2 X → X.cell? ⟨kb, k * 8 + 2, none⟩ = some (.int .i64 rr)) (hL : ∀ X, R1 X → Calls Tryz.prog 72 #[.pointer (some ⟨ab, 0, none⟩), .int .i64 rl] X fun e' X' => e' = .returned (.bool m1) ∧ R2 X') (hR : ∀ X, R2 X → Calls Tryz.prog 72 #[.pointer (some ⟨ab, 0, none⟩), .int .i64 rr] X fun e' X' => e' = .returned (.bool m2) ∧ R3 X') (hE : EV 156 w ab (askL (.slice (some ⟨kb, 0, none⟩) m cap) a b x1 x2 y (.func (.func gf) #[] lb) c)) (n3 : w.cell? ⟨kb, k * 8 + 3, none⟩ = some (.int .i64 f)) (n4 : w.cell? ⟨kb, k * 8 + 4, none⟩ = some (.int .i64 e)) (nh : w.cell? ⟨kb, k * 8 + 7, none⟩ = some (hv qb (some s))) (hkb : kb ≠ ab) (hk : k < m) (hc : c ≤ 100000)
    (h : ¬ e ≤ a ∧ ¬ b ≤ f ∧ s.2.1 ≤ y) :
    Calls Tryz.prog 72 #[.pointer (some ⟨ab, 0, none⟩), .int .i64 k] w fun e' w' => e' = .returned (.bool (m1 && m2)) ∧ (if m1 = true then R3 w' else R2 w') := by
  have h1 : ¬ (e : Int) ≤ a := by omega
  have h2 : ¬ (b : Int) ≤ f := by omega
  have h3 : ¬ y < s.2.1 := by omega
  have HIN : Hid (∀ X, Calls Tryz.prog 97 #[.agg #[.int .i64 s.1, .int .i64 s.2.1, .int .u32 s.2.2], .agg #[.int .i64 x1, .int .i64 x2, .int .i64 (-9223372036854775808), .int .i64 y, .int .u32 0]] X fun e' X' => e' = .returned (.bool false) ∧ Below X.heap.size X X') := Lib.hid (fun X => by have := in_any s ((x1, x2, -9223372036854775808, y), 0) X; rw [hin] at this; exact this)
  have HR0 := Lib.hid hR0
  have HK := Lib.hid hK
  have HK2 := Lib.hid hK2
  have HL := Lib.hid hL
  have HRR := Lib.hid hR
  have c0 := hE.cell (i := 0) rfl
  have c9 := hE.cell (i := 9) rfl
  have f9 := hE.free 9
  have HE := Lib.hid (show EV 156 (tick w ab c) ab (askL (.slice (some ⟨kb, 0, none⟩) m cap) a b x1 x2 y (.func (.func gf) #[] lb) (c + 1)) from hE.set 9 _)
  have HN : Hid ((tick w ab c).cell? ⟨kb, k * 8 + 3, none⟩ = some (.int .i64 f) ∧ (tick w ab c).cell? ⟨kb, k * 8 + 4, none⟩ = some (.int .i64 e) ∧ (tick w ab c).cell? ⟨kb, k * 8 + 7, none⟩ = some (hv qb (some s))) := Lib.hid ⟨tick_cell hkb n3, tick_cell hkb n4, tick_cell hkb nh⟩
  have HW := Lib.hid (show tick w ab c = w.setCell ⟨ab, 9, none⟩ (.int .i64 ((c : Int) + 1)) from rfl)
  have HS := Lib.hid (show (tick w ab c).heap.size = w.heap.size from tick_size w ab c)
  have HP := Lib.hid (show T1 (tick w ab c) (qb s) 0 s from hp.off ((Off.refl [ab] w).set ⟨ab, 9, none⟩ (.int .i64 ((c + 1 : Nat) : Int)) (.inl (by simp))) (by simpa using hqa))
  unfold askL at c0 c9
  generalize tick w ab c = W at *
  clear hE n3 n4 nh hkb hp hqa h hin hR0 hK hK2 hL hR
  go_enter Tryz.func72, Tryz.ntmps72
  go_upto_region 2 with fail
  rw [← HW.out]
  have a0 := HE.out.cell (i := 0) rfl
  have a1 := HE.out.cell (i := 1) rfl
  have a2 := HE.out.cell (i := 2) rfl
  have a6 := HE.out.cell (i := 6) rfl
  clear c0 c9 f9
  go_upto_region 3 with fail
  obtain ⟨n3, n4, nh⟩ := HN.out
  have inst : Nonempty (Wd (Bw W)) := ⟨⟨W, Below.refl _ _⟩⟩
  have b1 : ∀ z : Wd (Bw W), z.w.cell? ⟨ab, 1, none⟩ = _ := fun z => Bw.cell z a1
  have b2 : ∀ z : Wd (Bw W), z.w.cell? ⟨ab, 2, none⟩ = _ := fun z => Bw.cell z a2
  have b6 : ∀ z : Wd (Bw W), z.w.cell? ⟨ab, 6, none⟩ = _ := fun z => Bw.cell z a6
  have m3 : ∀ z : Wd (Bw W), z.w.cell? ⟨kb, k * 8 + 3, none⟩ = _ := fun z => Bw.cell z n3
  have m4 : ∀ z : Wd (Bw W), z.w.cell? ⟨kb, k * 8 + 4, none⟩ = _ := fun z => Bw.cell z n4
  have m7 : ∀ z : Wd (Bw W), z.w.cell? ⟨kb, k * 8 + 7, none⟩ = some (.pointer (some ⟨qb s, 0, none⟩)) := fun z => Bw.cell z nh
  have p1 : ∀ z : Wd (Bw W), z.w.cell? ⟨qb s, 1, none⟩ = some (.int .i64 s.2.1) := fun z => Bw.cell z (HP.out.c1)
  refine wp_region_wd (Bw W) (by kernel_rfl) (by kernel_rfl) ((Below.refl _ W).drew) ?_
  repeat (first | go_big_quiet_step (fail) | quiet_step (fail))
  refine wpQuiet_nil ?_
  rintro _ ⟨z, rfl⟩
  have HB := Lib.hid (show Below W.heap.size W z.w from z.h)
  have HC0 : Hid (T1 z.w (qb s) 0 s) := Lib.hid (HP.out.keep HB.out HP.out.lt)
  have HEZ := Lib.hid (HE.out.keep HB.out HE.out.lt)
  have HHZ := Lib.hid (m7 z)
  generalize z.w = w2 at *
  clear b1 b2 b6 m3 m4 m7 p1 inst a0 a1 a2 a6 n3 n4 nh HN HP HE
  go_upto_region 5 with fail
  have q0 := HC0.out.c0
  have q1 := HC0.out.c1
  have q2 := HC0.out.c2
  simp only [Nat.zero_add] at q0 q1 q2
  have inst : Nonempty (Wd (Bw w2)) := ⟨⟨w2, Below.refl _ _⟩⟩
  have d0 : ∀ z : Wd (Bw w2), z.w.cell? ⟨qb s, 0, none⟩ = _ := fun z => Bw.cell z q0
  have d1 : ∀ z : Wd (Bw w2), z.w.cell? ⟨qb s, 1, none⟩ = _ := fun z => Bw.cell z q1
  have d2 : ∀ z : Wd (Bw w2), z.w.cell? ⟨qb s, 2, none⟩ = _ := fun z => Bw.cell z q2
  have d7 : ∀ z : Wd (Bw w2), z.w.cell? ⟨kb, k * 8 + 7, none⟩ = some (.pointer (some ⟨qb s, 0, none⟩)) := fun z => Bw.cell z HHZ.out
  have e3 : ∀ z : Wd (Bw w2), z.w.cell? ⟨ab, 3, none⟩ = some (.int .i64 x1) := fun z => Bw.cell z (HEZ.out.cell (i := 3) rfl)
  have e4 : ∀ z : Wd (Bw w2), z.w.cell? ⟨ab, 4, none⟩ = some (.int .i64 x2) := fun z => Bw.cell z (HEZ.out.cell (i := 4) rfl)
  have e5 : ∀ z : Wd (Bw w2), z.w.cell? ⟨ab, 5, none⟩ = some (.int .i64 (-9223372036854775808)) := fun z => Bw.cell z (HEZ.out.cell (i := 5) rfl)
  have e6 : ∀ z : Wd (Bw w2), z.w.cell? ⟨ab, 6, none⟩ = some (.int .i64 y) := fun z => Bw.cell z (HEZ.out.cell (i := 6) rfl)
  have e7 : ∀ z : Wd (Bw w2), z.w.cell? ⟨ab, 7, none⟩ = some (.int .u32 0) := fun z => Bw.cell z (HEZ.out.cell (i := 7) rfl)
  have e8 : ∀ z : Wd (Bw w2), z.w.cell? ⟨ab, 8, none⟩ = some (.func (.func gf) #[] lb) := fun z => Bw.cell z (HEZ.out.cell (i := 8) rfl)
  have HFC := Lib.hid (fun z : Wd (Bw w2) => HIN.out z.w)
  generalize hqq : qb s = sb at *
  refine wp_region_wd (Bw w2) (by kernel_rfl) (by kernel_rfl) ((Below.refl _ w2).drew) ?_
  repeat (first | go_big_quiet_step (first | (go_at_call 97; with_reducible exact calls_wd (fun _ _ h hb => h.keep hb) _ (HFC.out _))) | quiet_step (first | (go_at_call 97; with_reducible exact calls_wd (fun _ _ h hb => h.keep hb) _ (HFC.out _))))
  refine wpQuiet_nil ?_
  rintro _ ⟨z, rfl⟩
  have HR := Lib.hid (HR0.out z.w (HB.out.trans (Below.mono z.h HB.out.size)))
  generalize z.w = w5 at *
  clear d0 d1 d2 d7 e3 e4 e5 e6 e7 e8 inst HFC q0 q1 q2
  obtain ⟨k0, k1⟩ := HK.out _ HR.out
  cases m1 with
  | false =>
    go_wp2_with (go_at_call 72; (with_reducible refine (HL.out _ HR.out).mono ?_); rintro e' w6 ⟨rfl, hr⟩; have HR2 := Lib.hid hr; clear hr)
    go_ret
    exact ⟨rfl, HR2.out⟩
  | true =>
    go_wp2_with (first
      | (go_at_call 72; (with_reducible refine (HL.out _ HR.out).mono ?_); rintro e' w6 ⟨rfl, hr⟩; have k2 := HK2.out _ hr; have HR2 := Lib.hid hr; clear hr)
      | (go_at_call 72; (with_reducible refine (HRR.out _ HR2.out).mono ?_); rintro e' w7 ⟨rfl, hr⟩; have HR3 := Lib.hid hr; clear hr))
    go_ret
    exact ⟨by simp, HR3.out⟩
end
end Go.Proofs.YtldmajifkmcdcaaGreat.Hp
/-
  From the root down: who is told, how many nodes are entered. No condition but those typed at each theorem.
-/
namespace Go.Proofs.YtldmajifkmcdcaaGreat.Hp
open Go.RowKit Go.Sort Bd
section
variable {RX : List S3} {qb : S3 → Nat} {kb n ab cap a b gf : Nat} {x1 x2 y : Int} {lb : Array Value} {g : Nat → Option S3}
theorem in_is {s : S3} (hpl : a ≤ RX.idxOf s ∧ RX.idxOf s < b ↔ x1 ≤ s.1 ∧ s.1 ≤ x2) (hw : Wf3 s) (hy : s.2.1 ≤ y) : inD s (x1, x2, -9223372036854775808, y) = decide (a ≤ RX.idxOf s ∧ RX.idxOf s < b) := by
  have h2 : -9223372036854775808 ≤ s.2.1 ∧ s.2.1 ≤ 9223372036854775807 := by simpa [Lit.wf, show IntKind.i64.min = -9223372036854775808 from rfl, show IntKind.i64.max = 9223372036854775807 from rfl] using hw.2.1
  unfold inD
  rw [decide_eq_decide.2 hpl, Bool.decide_and]
  simp [h2, hy]
set_option maxHeartbeats 1600000 in
theorem enter_any (more : Bool) (eg : ∀ args w, (callFunc gf args).run Tryz.prog w = .ok (.enter gf args) w) (J : Nat → List S3 → World → Prop)
    (hJb : ∀ c T X X', J c T X → Below X.heap.size X X' → J c T X')
    (hJa : ∀ c T X, J c T X → EV 156 X ab (askL (.slice (some ⟨kb, 0, none⟩) (2 * n - 1) cap) a b x1 x2 y (.func (.func gf) #[] lb) c) ∧ KnM X kb n qb RX g)
    (hJs : ∀ c T X, J c T X → J (c + 1) T (tick X ab c)) (M : Nat)
    (hC : ∀ c T s X, J c T X → T.length + 1 ≤ M → s ∈ RX → Calls Tryz.prog gf (#[tv s] ++ lb) X fun e X' => e = .returned (.bool more) ∧ J c (T ++ [s]) X')
    (hpl : ∀ s ∈ RX, (a ≤ RX.idxOf s ∧ RX.idxOf s < b ↔ x1 ≤ s.1 ∧ s.1 ≤ x2)) (hwf : ∀ s ∈ RX, Wf3 s) :
    ∀ (t : Tr) (b0 f : Nat), SG (ndN n) b0 f t → b0 + sz t ≤ 2 * n - 1 → ∀ c T X, J c T X → c + 2 * lv t ≤ 100000 → T.length + 2 * lv t ≤ M →
    Calls Tryz.prog 72 #[.pointer (some ⟨ab, 0, none⟩), .int .i64 (rt b0 t : Nat)] X fun e X' =>
      e = .returned (.bool (goT (fun s => RX.idxOf s) a b y more f (rd g b0 t)).2.1) ∧ J (c + (goT (fun s => RX.idxOf s) a b y more f (rd g b0 t)).2.2) (T ++ (goT (fun s => RX.idxOf s) a b y more f (rd g b0 t)).1) X' := by
  intro t
  induction t with
  | lf =>
    intro b0 f hS hb c T X hJ hc hM
    have hn := hS 0 _ rfl
    rw [Nat.add_zero] at hn
    have hrt : rt b0 .lf = b0 := by simp [rt, lv]
    have hsz : sz .lf = 1 := rfl
    have hlv : lv .lf = 1 := rfl
    have hk : b0 < 2 * n - 1 := by omega
    obtain ⟨hE, hKn⟩ := hJa c T X hJ
    have hN := hKn.nd hn
    have n3 : X.cell? ⟨kb, b0 * 8 + 3, none⟩ = some (.int .i64 (f : Nat)) := hN.c3
    have n4 : X.cell? ⟨kb, b0 * 8 + 4, none⟩ = some (.int .i64 ((f + 1 : Nat) : Int)) := hN.c4
    have nh := hKn.hc hk
    have hkb : kb ≠ ab := by obtain ⟨cc, e⟩ := hKn.ty; exact types_ne e hE (by decide)
    have hJ1 := hJs c T X hJ
    have back : ∀ X', Below (tick X ab c).heap.size (tick X ab c) X' → J (c + 1) T X' := fun X' hb => hJb _ _ _ _ hJ1 hb
    rw [hrt]
    obtain ⟨G, hG⟩ : ∃ G, G = goT (fun s => RX.idxOf s) a b y more f (rd g b0 .lf) := ⟨_, rfl⟩
    rw [← hG]
    rw [rd] at hG
    have none_told : G = ([], true, 1) → Calls Tryz.prog 72 #[.pointer (some ⟨ab, 0, none⟩), .int .i64 b0] X (fun e' w' => e' = .returned (.bool true) ∧ Below (tick X ab c).heap.size (tick X ab c) w') → Calls Tryz.prog 72 #[.pointer (some ⟨ab, 0, none⟩), .int .i64 b0] X fun e X' => e = .returned (.bool G.2.1) ∧ J (c + G.2.2) (T ++ G.1) X' := fun hg h => h.mono (fun e w' hh => by
      subst hg
      rw [List.append_nil]
      exact ⟨hh.1, back _ hh.2⟩)
    by_cases hout : b ≤ f ∨ f + 1 ≤ a
    · rw [go_lf_out hout] at hG
      refine none_told hG ?_
      by_cases hl : f + 1 ≤ a
      · exact out_l hE n3 n4 nh hkb hk (by omega) hl
      · exact out_r hE n3 n4 nh hkb hk (by omega) ⟨hl, hout.resolve_right hl⟩
    · skip
      have hl : ¬ f + 1 ≤ a ∧ ¬ b ≤ f := ⟨fun h => hout (.inr h), fun h => hout (.inl h)⟩
      cases hg : g b0 with
      | none =>
        rw [hg] at hG nh
        rw [go_lf_none] at hG
        exact none_told hG (out_n hE n3 n4 nh hkb hk (by omega) hl)
      | some s =>
        rw [hg] at hG nh
        rw [go_lf_some hout] at hG
        have hs := hKn.gm b0 s hk hg
        have hp := hKn.p1 hs
        have hqa : qb s ≠ ab := types_ne (hKn.pt s hs) hE (by decide)
        by_cases hy : s.2.1 ≤ y
        · rw [if_pos hy] at hG
          have hin := in_is (hpl s hs) (hwf s hs) hy
          have hK : ∀ T' X', J (c + 1) T' X' → X'.cell? ⟨kb, b0 * 8, none⟩ = some (.int .u8 1) := fun T' X' hj => ((hJa _ _ _ hj).2.nd hn).c0
          by_cases hi : a ≤ RX.idxOf s ∧ RX.idxOf s < b
          · rw [if_pos hi] at hG
            rw [decide_eq_true hi] at hin
            have hCs : ∀ X', Below (tick X ab c).heap.size (tick X ab c) X' → Calls Tryz.prog gf (#[tv s] ++ lb) X' fun e X' => e = .returned (.bool more) ∧ J (c + 1) (T ++ [s]) X' := fun X' hb => hC _ _ _ _ (back X' hb) (by omega) hs
            subst hG
            cases more with
            | true => exact in_leafA hp hqa (J (c + 1) (T ++ [s])) eg hin hCs (hK _) hE n3 n4 nh hkb hk (by omega) ⟨hl.1, hl.2, hy⟩
            | false => exact in_stop hp hqa (J (c + 1) (T ++ [s])) eg hin hCs hE n3 n4 nh hkb hk (by omega) ⟨hl.1, hl.2, hy⟩
          · rw [if_neg hi] at hG
            rw [decide_eq_false hi] at hin
            subst hG
            rw [List.append_nil]
            exact in_leafB hp hqa (J (c + 1) T) hin back (hK _) hE n3 n4 nh hkb hk (by omega) ⟨hl.1, hl.2, hy⟩
        · rw [if_neg hy] at hG
          exact none_told hG (out_y hp hqa hE n3 n4 nh hkb hk (by omega) ⟨hl.1, hl.2, by omega⟩)
  | nd l r ihl ihr =>
    intro b0 f hS hb c T X hJ hc hM
    have hn := hS.root
    have e1 := sz_nd l r
    have e2 := rt_nd b0 l r
    have hlv : lv (.nd l r) = lv l + lv r := rfl
    have hk : rt b0 (.nd l r) < 2 * n - 1 := by omega
    have vl := lv_rd (g := g) l b0
    have vr := lv_rd (g := g) r (b0 + sz l)
    have gl := go_len (pl := fun s => RX.idxOf s) (a := a) (b := b) (y := y) (more := more) (rd g b0 l) f
    rw [vl] at gl
    obtain ⟨hE, hKn⟩ := hJa c T X hJ
    have hN := hKn.nd hn
    have n3 : X.cell? ⟨kb, rt b0 (.nd l r) * 8 + 3, none⟩ = some (.int .i64 (f : Nat)) := hN.c3
    have n4 : X.cell? ⟨kb, rt b0 (.nd l r) * 8 + 4, none⟩ = some (.int .i64 ((f + (lv l + lv r) : Nat) : Int)) := hN.c4
    have nh := hKn.hc hk
    have hkb : kb ≠ ab := by obtain ⟨cc, e⟩ := hKn.ty; exact types_ne e hE (by decide)
    have hJ1 := hJs c T X hJ
    have back : ∀ X', Below (tick X ab c).heap.size (tick X ab c) X' → J (c + 1) T X' := fun X' hb => hJb _ _ _ _ hJ1 hb
    have vlr : lvT (rd g b0 l) + lvT (rd g (b0 + sz l) r) = lv l + lv r := by rw [vl, vr]
    obtain ⟨G, hG⟩ : ∃ G, G = goT (fun s => RX.idxOf s) a b y more f (rd g b0 (.nd l r)) := ⟨_, rfl⟩
    rw [← hG]
    rw [rd] at hG
    have IL : ∀ T' X', J (c + 1) T' X' → T'.length ≤ T.length + 1 → Calls Tryz.prog 72 #[.pointer (some ⟨ab, 0, none⟩), .int .i64 (rt b0 l : Nat)] X' fun e X' =>
      e = .returned (.bool (goT (fun s => RX.idxOf s) a b y more f (rd g b0 l)).2.1) ∧ J (c + 1 + (goT (fun s => RX.idxOf s) a b y more f (rd g b0 l)).2.2) (T' ++ (goT (fun s => RX.idxOf s) a b y more f (rd g b0 l)).1) X' := fun T' X' hj hl => ihl b0 f hS.left (by omega) (c + 1) T' X' hj (by have := lv_pos r; omega) (by have := lv_pos r; omega)
    have IR : ∀ T' X', J (c + 1 + (goT (fun s => RX.idxOf s) a b y more f (rd g b0 l)).2.2) (T' ++ (goT (fun s => RX.idxOf s) a b y more f (rd g b0 l)).1) X' → T'.length ≤ T.length + 1 → Calls Tryz.prog 72 #[.pointer (some ⟨ab, 0, none⟩), .int .i64 (rt (b0 + sz l) r : Nat)] X' fun e X' =>
      e = .returned (.bool (goT (fun s => RX.idxOf s) a b y more (f + lv l) (rd g (b0 + sz l) r)).2.1) ∧ J (c + 1 + (goT (fun s => RX.idxOf s) a b y more f (rd g b0 l)).2.2 + (goT (fun s => RX.idxOf s) a b y more (f + lv l) (rd g (b0 + sz l) r)).2.2) (T' ++ (goT (fun s => RX.idxOf s) a b y more f (rd g b0 l)).1 ++ (goT (fun s => RX.idxOf s) a b y more (f + lv l) (rd g (b0 + sz l) r)).1) X' := fun T' X' hj hl => ihr (b0 + sz l) (f + lv l) hS.right (by omega) _ _ X' hj (by omega) (by rw [List.length_append]; omega)
    obtain ⟨GL, hGL⟩ : ∃ GL, GL = goT (fun s => RX.idxOf s) a b y more f (rd g b0 l) := ⟨_, rfl⟩
    obtain ⟨GR, hGR⟩ : ∃ GR, GR = goT (fun s => RX.idxOf s) a b y more (f + lv l) (rd g (b0 + sz l) r) := ⟨_, rfl⟩
    rw [← hGL, ← hGR] at IR
    rw [← hGL] at IL gl
    have HGL := Lib.hid hGL.symm
    have HGR := Lib.hid hGR.symm
    clear hGL hGR
    clear ihl ihr
    have none_told : G = ([], true, 1) → Calls Tryz.prog 72 #[.pointer (some ⟨ab, 0, none⟩), .int .i64 (rt b0 (.nd l r) : Nat)] X (fun e' w' => e' = .returned (.bool true) ∧ Below (tick X ab c).heap.size (tick X ab c) w') → Calls Tryz.prog 72 #[.pointer (some ⟨ab, 0, none⟩), .int .i64 (rt b0 (.nd l r) : Nat)] X fun e X' => e = .returned (.bool G.2.1) ∧ J (c + G.2.2) (T ++ G.1) X' := fun hg h => h.mono (fun e w' hh => by
      subst hg
      rw [List.append_nil]
      exact ⟨hh.1, back _ hh.2⟩)
    by_cases hout : b ≤ f ∨ f + (lv l + lv r) ≤ a
    · rw [go_nd_out (by rw [vlr]; exact hout)] at hG
      refine none_told hG ?_
      by_cases hl : f + (lv l + lv r) ≤ a
      · exact out_l hE n3 n4 nh hkb hk (by omega) hl
      · exact out_r hE n3 n4 nh hkb hk (by omega) ⟨hl, hout.resolve_right hl⟩
    · skip
      have hl : ¬ f + (lv l + lv r) ≤ a ∧ ¬ b ≤ f := ⟨fun h => hout (.inr h), fun h => hout (.inl h)⟩
      cases hg : g (rt b0 (.nd l r)) with
      | none =>
        rw [hg] at hG nh
        rw [go_nd_none] at hG
        exact none_told hG (out_n hE n3 n4 nh hkb hk (by omega) hl)
      | some s =>
        rw [hg] at hG nh
        rw [go_nd_some (by rw [vlr]; exact hout), vl] at hG
        rw [HGL.out, HGR.out] at hG
        have hs := hKn.gm _ s hk hg
        have hp := hKn.p1 hs
        have hqa : qb s ≠ ab := types_ne (hKn.pt s hs) hE (by decide)
        by_cases hy : s.2.1 ≤ y
        · rw [if_pos hy] at hG
          have hin := in_is (hpl s hs) (hwf s hs) hy
          have hK : ∀ T' X', J (c + 1) T' X' → X'.cell? ⟨kb, rt b0 (.nd l r) * 8, none⟩ = some (.int .u8 2) ∧ X'.cell? ⟨kb, rt b0 (.nd l r) * 8 + 1, none⟩ = some (.int .i64 (rt b0 l : Nat)) := fun T' X' hj => ⟨((hJa _ _ _ hj).2.nd hn).c0, ((hJa _ _ _ hj).2.nd hn).c1⟩
          have hK2 : ∀ c' T' X', J c' T' X' → X'.cell? ⟨kb, rt b0 (.nd l r) * 8 + 2, none⟩ = some (.int .i64 (rt (b0 + sz l) r : Nat)) := fun c' T' X' hj => ((hJa _ _ _ hj).2.nd hn).c2
          by_cases hi : a ≤ RX.idxOf s ∧ RX.idxOf s < b
          · rw [decide_eq_true hi] at hin
            have hCs : ∀ X', Below (tick X ab c).heap.size (tick X ab c) X' → Calls Tryz.prog gf (#[tv s] ++ lb) X' fun e X' => e = .returned (.bool more) ∧ J (c + 1) (T ++ [s]) X' := fun X' hb => hC _ _ _ _ (back X' hb) (by have := lv_pos r; omega) hs
            cases more with
            | false =>
              rw [if_pos ⟨hi, rfl⟩] at hG
              subst hG
              exact in_stop hp hqa (J (c + 1) (T ++ [s])) eg hin hCs hE n3 n4 nh hkb hk (by omega) ⟨hl.1, hl.2, hy⟩
            | true =>
              rw [if_neg (by simp), if_pos hi] at hG
              refine (in_nodeA hp hqa (J (c + 1) (T ++ [s])) eg hin hCs (J (c + 1 + GL.2.2) (T ++ [s] ++ GL.1)) (J (c + 1 + GL.2.2 + GR.2.2) (T ++ [s] ++ GL.1 ++ GR.1)) (hK _) (hK2 _ _) (fun X' hj => IL _ X' hj (by simp)) (fun X' hj => IR _ X' hj (by simp)) hE n3 n4 nh hkb hk (by omega) ⟨hl.1, hl.2, hy⟩).mono (fun e w' hh => ?_)
              obtain ⟨rfl, hj⟩ := hh
              cases hm : GL.2.1 with
              | true =>
                rw [hm, if_pos rfl] at hG hj
                subst hG
                exact ⟨by simp, by simpa [Nat.add_assoc] using hj⟩
              | false =>
                rw [hm, if_neg (by simp)] at hG hj
                subst hG
                exact ⟨by simp, by simpa [Nat.add_assoc] using hj⟩
          · rw [if_neg (fun h => hi h.1), if_neg hi] at hG
            rw [decide_eq_false hi] at hin
            refine (in_nodeB hp hqa (J (c + 1) T) hin back (J (c + 1 + GL.2.2) (T ++ GL.1)) (J (c + 1 + GL.2.2 + GR.2.2) (T ++ GL.1 ++ GR.1)) (hK _) (hK2 _ _) (fun X' hj => IL _ X' hj (by simp)) (fun X' hj => IR _ X' hj (by simp)) hE n3 n4 nh hkb hk (by omega) ⟨hl.1, hl.2, hy⟩).mono (fun e w' hh => ?_)
            obtain ⟨rfl, hj⟩ := hh
            cases hm : GL.2.1 with
            | true =>
              rw [hm, if_pos rfl] at hG hj
              subst hG
              exact ⟨by simp, by simpa [Nat.add_assoc] using hj⟩
            | false =>
              rw [hm, if_neg (by simp)] at hG hj
              subst hG
              exact ⟨by simp, by simpa [Nat.add_assoc] using hj⟩
        · rw [if_neg hy] at hG
          exact none_told hG (out_y hp hqa hE n3 n4 nh hkb hk (by omega) ⟨hl.1, hl.2, by omega⟩)
end
end Go.Proofs.YtldmajifkmcdcaaGreat.Hp
/-
  What three sides have is handed on, point by point (each). No condition but those typed at each theorem.
-/
namespace Go.Proofs.YtldmajifkmcdcaaGreat.Hp
open Go.RowKit Go.Sort Bd
/-- a tree, and what its nodes hold -/
structure HpG (w : World) (P : HpP) (RX A : List S3) (g : Nat → Option S3) : Prop where
  m : HpM w P RX A
  k : RX.length ≠ 0 → KnM w P.kb RX.length P.qb RX g ∧ HpI RX A g
section
variable {w w' : World} {P : HpP} {RX A : List S3} {g : Nat → Option S3}
theorem HpM.held (h : HpM w P RX A) : ∃ g, HpG w P RX A g := by
  by_cases h0 : RX.length = 0
  · exact ⟨fun _ => none, h, fun hn => absurd h0 hn⟩
  · obtain ⟨g, h1, h2⟩ := h.kn h0
    exact ⟨g, h, fun _ => ⟨h1, h2⟩⟩
theorem HpM.sub' (h : HpM w P RX A) : ∀ s ∈ A, s ∈ RX := fun s hs => by
  by_cases h0 : RX.length = 0
  · rw [(h.z0 h0).2] at hs
    cases hs
  · obtain ⟨g, -, h2⟩ := h.kn h0
    exact h2.sub s hs
theorem HpM.le (h : HpM w P RX A) : A.length ≤ 400 := by
  by_cases h0 : RX.length = 0
  · rw [(h.z0 h0).2]; simp
  · obtain ⟨g, -, h2⟩ := h.kn h0
    exact Nat.le_trans (List.Nodup.length_le_of_subset h2.rga.once h2.sub) h.few
theorem hblk_pt {s : S3} (hs : s ∈ RX) : P.qb s ∈ hblk P RX := by
  simp only [hblk, List.mem_cons, List.mem_append, List.mem_map]
  exact .inr (.inr (.inr (.inr ⟨s, hs, rfl⟩)))
theorem HpG.off (h : HpG w P RX A g) {S : List Nat} (o : Off S w w') (hS : ∀ k ∈ hblk P RX, k ∉ S) : HpG w' P RX A g :=
  ⟨h.m.off o hS, fun h0 => ⟨(h.k h0).1.off o (hS _ (by simp [hblk])) (fun s hs => hS _ (hblk_pt hs)), (h.k h0).2⟩⟩
theorem HpG.keep (h : HpG w P RX A g) (o : Below w.heap.size w w') : HpG w' P RX A g := h.off (Off.of (S := []) o (Nat.le_refl _)) (by simp)
/-- who is told of the places from a on, ahead of b; how many nodes are entered -/
def resT (RX : List S3) (g : Nat → Option S3) (a b : Nat) (y : Int) (more : Bool) : List S3 × Nat :=
  if a = b then ([], 0) else ((goT (fun s => RX.idxOf s) a b y more 0 (rd g 0 (tr RX.length))).1, (goT (fun s => RX.idxOf s) a b y more 0 (rd g 0 (tr RX.length))).2.2)
/-- where the points of these sides begin, where they end -/
def iA (RX : List S3) (x1 : Int) : Nat := (firstP (RX.map kx) x1).1
def iB (RX : List S3) (x2 : Int) : Nat := (aboveP (RX.map kx) x2).1
theorem places (hO : Ord kx RX) (hf : RX.length ≤ 400) (x1 x2 : Int) : ∀ s ∈ RX, (iA RX x1 ≤ RX.idxOf s ∧ RX.idxOf s < iB RX x2 ↔ x1 ≤ s.1 ∧ s.1 ≤ x2) := fun s hs => by
  have hl : RX.length ≤ 8192 := by omega
  obtain ⟨-, -, a3⟩ := fst_parts hO hl x1
  obtain ⟨-, -, b3⟩ := abv_parts hO hl x2
  have hi : RX[RX.idxOf s]? = some s := List.getElem?_eq_some_iff.2 ⟨List.idxOf_lt_length_of_mem hs, List.getElem_idxOf _⟩
  have h1 := a3 _ _ hi
  have h2 := b3 _ _ hi
  unfold iA iB
  unfold kx at *
  omega
set_option maxRecDepth 100000 in
set_option maxHeartbeats 6400000 in
theorem heach_any (more : Bool) (h : HpG w P RX A g) (x1 x2 y : Int) (hx : x1 ≤ x2) (gf : Nat) (lb : Array Value) (eg : ∀ args w, (callFunc gf args).run Tryz.prog w = .ok (.enter gf args) w) (J : List S3 → World → Prop)
    (hJ0 : ∀ X, Below w.heap.size w X → J [] X) (hJb : ∀ T X X', J T X → Below X.heap.size X X' → J T X') (hJt : ∀ T X, J T X → HpG X P RX A g)
    (hJo : ∀ T X ab v cs, J T X → w.heap.size ≤ ab → X.heap[ab]? = some (.cells cs 156 (0, 0)) → J T (X.setCell ⟨ab, 9, none⟩ v))
    (hC : ∀ T s X, J T X → T.length + 1 ≤ 1000 → w.heap.size ≤ X.heap.size → s ∈ RX → Calls Tryz.prog gf (#[tv s] ++ lb) X fun e X' => e = .returned (.bool more) ∧ J (T ++ [s]) X' ∧ ∃ S, Off S X X' ∧ ∀ m ∈ S, m < w.heap.size ∨ ∃ c, X.heap[m]? = some (.cells c 32 (0, 0))) :
    Calls Tryz.prog 43 #[.pointer (some ⟨P.B, 0, none⟩), .int .i64 x1, .int .i64 x2, .int .i64 y, .func (.func gf) #[] lb] w fun e w' => e = .returned (.int .i64 (btN kx RX x1 x2 + (resT RX g (iA RX x1) (iB RX x2) y more).2 : Nat)) ∧ J (resT RX g (iA RX x1) (iB RX x2) y more).1 w' := by
  have hf : RX.length ≤ 8192 := Nat.le_trans h.m.few (by decide)
  have hfw := h.m.few
  have hlg : lgN (RX.length + 1) ≤ 100 := Nat.le_trans (lgM (by omega) (by omega) : lgN (RX.length + 1) ≤ lgN 401) (by decide)
  have hbx := btN_few h.m.ord hf x1 x2
  obtain ⟨aa1, -, -⟩ := abv_parts h.m.ord hf x2
  have hle := fst_abv h.m.ord hf hx
  have HM := Lib.hid (fun X (hb : Below w.heap.size w X) => hmade_yes (h.m.keep hb))
  have HBT := Lib.hid (fun X (hb : Below w.heap.size w X) => rbetw_any (o := 1) ((h.m.keep hb).ev.cell (i := 1) rfl) (h.m.keep hb).row h.m.ord hf x1 x2)
  have HPL := Lib.hid (places h.m.ord hfw x1 x2)
  have HRES : Hid (∀ a b, resT RX g a b y more = if a = b then ([], 0) else ((goT (fun s => RX.idxOf s) a b y more 0 (rd g 0 (tr RX.length))).1, (goT (fun s => RX.idxOf s) a b y more 0 (rd g 0 (tr RX.length))).2.2)) := Lib.hid (fun _ _ => rfl)
  have HH := Lib.hid h
  have c3 := h.m.ev.cell (i := 3) rfl
  have c4 := h.m.ev.cell (i := 4) rfl
  unfold tup4 at HBT
  change iA RX x1 ≤ iB RX x2 at hle
  change iB RX x2 ≤ RX.length at aa1
  have HBT : Hid (∀ X, Below w.heap.size w X → Calls Tryz.prog 33 #[.pointer (some ⟨P.B, 1, none⟩), .int .i64 x1, .int .i64 x2] X fun e w' => e = .returned (.tuple #[.int .i64 (iA RX x1), .int .i64 (iB RX x2), .int .i64 (btN kx RX x1 x2)]) ∧ Below X.heap.size X w') := HBT
  generalize iA RX x1 = i0 at *
  generalize iB RX x2 = j0 at *
  generalize btN kx RX x1 x2 = bt at *
  have HC := Lib.hid hC
  have HJ0 := Lib.hid hJ0
  have HJb := Lib.hid hJb
  have HJt := Lib.hid hJt
  have HJo := Lib.hid hJo
  have hxz : ¬ x2 < x1 := by omega
  have hb1 : bt ≤ 1000 := by omega
  clear hC hJ0 hJb hJt hJo h hbx hlg hx
  go_enter Tryz.func43, Tryz.ntmps43
  have HMW := Lib.hid (HM.out w (Below.refl _ _))
  go_upto_region 4 with (first
    | (go_at_call 40; (with_reducible refine HMW.out.mono ?_); rintro e wM ⟨rfl, hM⟩; subst wM)
    | (go_at_call 33; (with_reducible refine (HBT.out _ (Below.refl _ _)).mono ?_); rintro e w3 ⟨rfl, hb⟩; have HB3 := Lib.hid hb; clear hb))
  by_cases hij : i0 = j0
  · subst hij
    go_wp2
    go_ret
    refine ⟨?_, ?_⟩
    · rw [HRES.out, if_pos rfl]
      rfl
    · rw [HRES.out, if_pos rfl]
      exact HJ0.out _ HB3.out
  · have hijz : ¬ (i0 : Int) = j0 := by omega
    have hijb : ((i0 : Int) == (j0 : Int)) = false := by rw [beq_eq_false_iff_ne]; omega
    have hn : RX.length ≠ 0 := by omega
    obtain ⟨cap, hcap⟩ := HH.out.m.kv1 hn
    rw [hcap] at c4
    go_upto_region 7 with fail
    obtain ⟨Y, hY⟩ : ∃ Y, Y = w3.alloc (.cells #[.int .i64 x1, .int .i64 x2, .int .i64 (-9223372036854775808), .int .i64 y, .int .u32 0] 154) := ⟨_, rfl⟩
    rw [← hY]
    have hX1 : X1 Y w3.heap.size 0 ((x1, x2, -9223372036854775808, y), 0) := hY ▸ X1.new w3 ((x1, x2, -9223372036854775808, y), 0) _
    have hYB : Below w.heap.size w Y := hY ▸ HB3.out.alloc HB3.out.size _
    clear hY
    have k0 := hX1.c0
    have k1 := hX1.c1
    have k2 := hX1.c2
    have k3 := hX1.c3
    have k4 := hX1.c4
    have kl := hX1.lt
    have d4 := (hYB.cell (World.block_lt_of_cell? _ _ c4)).trans c4
    have dl : P.B < Y.heap.size := World.block_lt_of_cell? _ _ d4
    simp only [Nat.zero_add] at k0 k1 k2 k3 k4
    go_region
    obtain ⟨ab, hab⟩ : ∃ ab, ab = Y.heap.size := ⟨_, rfl⟩
    obtain ⟨X, hXd⟩ : ∃ X, X = (Y.alloc (.cells #[.slice (some ⟨P.kb, 0, none⟩) (2 * RX.length - 1) cap, .int .i64 i0, .int .i64 j0, .int .i64 x1, .int .i64 x2, .int .i64 (-9223372036854775808), .int .i64 y, .int .u32 0, .func (.func gf) #[] lb, .int .i64 bt] 156)).drew := ⟨_, rfl⟩
    rw [← hXd, ← hab]
    have HEA : Hid (EV 156 X ab (askL (.slice (some ⟨P.kb, 0, none⟩) (2 * RX.length - 1) cap) i0 j0 x1 x2 y (.func (.func gf) #[] lb) bt)) := Lib.hid (by rw [hXd, hab]; exact heap_alloc_new Y _)
    have HBX : Hid (Below w.heap.size w X) := Lib.hid (hXd ▸ (hYB.alloc hYB.size _).drew)
    have HAB : Hid (w.heap.size ≤ ab) := Lib.hid (by rw [hab]; exact hYB.size)
    have HSX : Hid (w.heap.size ≤ X.heap.size) := Lib.hid HBX.out.size
    clear hXd hab hX1 hYB k0 k1 k2 k3 k4 kl d4 dl c4
    have d3 := (HBX.out.cell (World.block_lt_of_cell? _ _ c3)).trans c3
    have HRT : Hid (Calls Tryz.prog 73 #[.pointer (some ⟨P.F, 0, none⟩)] X fun e w' => e = .returned (.int .i64 (rt 0 (tr RX.length) : Nat)) ∧ Below X.heap.size X w') := Lib.hid (by
      obtain ⟨d, pp, hF⟩ := (HH.out.m.keep HBX.out).fr
      exact Root_any X P.F RX.length _ d pp hF (by omega) (by unfold rt; rw [lv_tr (by omega)]; omega) (by omega))
    have HGO := Lib.hid (fun X5 (hb5 : Below X.heap.size X X5) =>
      enter_any (RX := RX) (qb := P.qb) (kb := P.kb) (n := RX.length) (ab := ab) (cap := cap) (a := i0) (b := j0) (gf := gf) (x1 := x1) (x2 := x2) (y := y) (lb := lb) (g := g) more eg
        (fun c T X => J T X ∧ EV 156 X ab (askL (.slice (some ⟨P.kb, 0, none⟩) (2 * RX.length - 1) cap) i0 j0 x1 x2 y (.func (.func gf) #[] lb) c) ∧ w.heap.size ≤ X.heap.size)
        (fun c T X X' hh hb => ⟨HJb.out T X X' hh.1 hb, hh.2.1.keep hb hh.2.1.lt, Nat.le_trans hh.2.2 hb.size⟩)
        (fun c T X hh => ⟨hh.2.1, ((HJt.out T X hh.1).k hn).1⟩)
        (fun c T X hh => ⟨HJo.out T X ab _ _ hh.1 HAB.out hh.2.1, hh.2.1.set 9 _, by rw [tick_size]; exact hh.2.2⟩) 1000
        (fun c T s X hh hM hs => (HC.out T s X hh.1 hM hh.2.2 hs).mono (fun e X' r => by
          obtain ⟨r1, r2, S, r3, r4⟩ := r
          refine ⟨r1, r2, hh.2.1.off r3 (fun hm => ?_), Nat.le_trans hh.2.2 r3.size⟩
          rcases r4 _ hm with c | ⟨c, e⟩
          · have := HAB.out; omega
          · exact types_ne hh.2.1 e (by decide) rfl))
        HPL.out HH.out.m.wf (tr RX.length) 0 0 (SG.all _ (by omega)) (by unfold sz; rw [lv_tr (by omega)]; omega) bt [] X5
        ⟨HJ0.out _ (HBX.out.trans (hb5.mono HSX.out)), HEA.out.keep hb5 HEA.out.lt, Nat.le_trans HSX.out hb5.size⟩ (by rw [lv_tr (by omega)]; omega) (by rw [lv_tr (by omega)]; simp only [List.length_nil]; omega))
    have HRES2 := Lib.hid (HRES.out i0 j0)
    rw [if_neg hij] at HRES2
    have hgl := (go_len (pl := fun s => RX.idxOf s) (a := i0) (b := j0) (y := y) (more := more) (rd g 0 (tr RX.length)) 0).2
    rw [lv_rd, lv_tr (by omega)] at hgl
    generalize goT (fun s => RX.idxOf s) i0 j0 y more 0 (rd g 0 (tr RX.length)) = G at *
    generalize rt 0 (tr RX.length) = rtn at *
    obtain ⟨G1, G2, G3⟩ := G
    simp only at HGO HRES2 hgl
    simp only [List.nil_append] at HGO
    go_wp2_with (first
      | (go_at_call 73; (with_reducible refine HRT.out.mono ?_); rintro e w5 ⟨rfl, hb⟩; have HB5 := Lib.hid hb; clear hb)
      | (go_at_call 72; (with_reducible refine (HGO.out w5 HB5.out).mono ?_); rintro e w6 ⟨rfl, hj⟩; have m9 := hj.2.1.cell (i := 9) rfl; have HJ6 := Lib.hid hj.1; clear hj))
    go_ret
    refine ⟨?_, ?_⟩
    · rw [HRES2.out]
      first | rfl | go_num
    · rw [HRES2.out]
      exact HJ6.out
end
end Go.Proofs.YtldmajifkmcdcaaGreat.Hp
/-
  Three and Any: who is told, how many things are touched. No condition but those typed at each theorem.
-/
namespace Go.Proofs.YtldmajifkmcdcaaGreat.Hp
open Go.RowKit Go.Sort Bd
theorem egT3 : ∀ args w, (callFunc 44 args).run Tryz.prog w = .ok (.enter 44 args) w := enters_of Tryz.func44 (by kernel_rfl) rfl
/-- while it is told: the names so far, the tree -/
structure ReJ (W X : World) (P : HpP) (RX A : List S3) (g : Nat → Option S3) (nb : Nat) (T : List S3) : Prop where
  box : ∃ v, Bx 54 X nb v ∧ X.ownsRow W.heap.size 32 1 v (ids T).length ((ids T).map (Value.int .u32))
  tr : HpG X P RX A g
  off : Off [nb] W X
section
variable {W X : World} {P : HpP} {RX A T : List S3} {g : Nat → Option S3} {nb : Nat}
theorem ReJ.keep {X' : World} (h : ReJ W X P RX A g nb T) (b : Below X.heap.size X X') : ReJ W X' P RX A g nb T := by
  obtain ⟨v, h1, h2⟩ := h.box
  exact ⟨⟨v, h1.keep b, row_keep h2 b⟩, h.tr.keep b, h.off.bel b⟩
theorem ReJ.ask {ab : Nat} {v : Value} {cs : Array Value} (h : ReJ W X P RX A g nb T) (hnb : nb < W.heap.size) (hbk : ∀ x ∈ hblk P RX, x < W.heap.size) (hab : W.heap.size ≤ ab) (he : X.heap[ab]? = some (.cells cs 156 (0, 0))) : ReJ W (X.setCell ⟨ab, 9, none⟩ v) P RX A g nb T := by
  obtain ⟨u, h1, h2⟩ := h.box
  have ho := (Off.refl [ab] X).set ⟨ab, 9, none⟩ v (.inl (by simp))
  refine ⟨⟨u, (ho.block _ h1.lt (by simp; omega)).trans h1, row_offS h2 ho (fun k hk hm => ?_)⟩, h.tr.off ho (fun k hk hm => ?_), h.off.via ho (fun k hk hm => ?_)⟩
  · obtain ⟨c, e⟩ := row_type h2 hk
    exact types_ne e he (by decide) (List.mem_singleton.1 hm)
  · have := hbk k hk
    have := List.mem_singleton.1 hm
    omega
  · have := List.mem_singleton.1 hm
    omega
set_option maxRecDepth 100000 in
set_option maxHeartbeats 1600000 in
theorem three1_any (h : ReJ W X P RX A g nb T) (hT : T.length + 1 ≤ 8192) (s : S3) (hnb : nb < W.heap.size) (hbk : ∀ x ∈ hblk P RX, x ≠ nb ∧ x < W.heap.size) :
    Calls Tryz.prog 44 #[tv s, .pointer (some ⟨nb, 0, none⟩)] X fun e X' => e = .returned (.bool true) ∧ ReJ W X' P RX A g nb (T ++ [s]) ∧ ∃ S, Off S X X' ∧ ∀ m ∈ S, m < W.heap.size ∨ ∃ c, X.heap[m]? = some (.cells c 32 (0, 0)) := by
  obtain ⟨v, hbx, hrow⟩ := h.box
  have H := Lib.hid h
  have HBX := Lib.hid hbx
  have HROW := Lib.hid hrow
  have HBK := Lib.hid hbk
  have HS := Lib.hid (show W.heap.size ≤ X.heap.size ∧ nb < W.heap.size from ⟨h.off.size, hnb⟩)
  have n0 := hbx.cell
  have htl : (ids T).length + 1 ≤ 8192 := by rw [ids_len]; exact hT
  have HIS : Hid (ids (T ++ [s]) = ids T ++ [s.2.2]) := Lib.hid (ids_snoc T s)
  obtain ⟨x, y, id⟩ := s
  simp only at HIS
  unfold tv
  simp only
  generalize ids T = I at *
  clear h hbx hrow hnb hbk hT
  go_enter Tryz.func44, Tryz.ntmps44
  obtain ⟨Y, hY⟩ : ∃ Y, Y = X.alloc (.cells #[.int .i64 x, .int .i64 y, .int .u32 id] 34) := ⟨_, rfl⟩
  have hT1 : T1 Y X.heap.size 0 (x, y, id) := hY ▸ T1.new X (x, y, id) _
  have hYB : Below X.heap.size X Y := hY ▸ (Below.refl _ X).alloc (Nat.le_refl _) _
  go_upto_region 1 with fail
  rw [← hY]
  clear hY
  have k2 := hT1.c2
  simp only [Nat.zero_add] at k2
  have d0 := (hYB.cell (World.block_lt_of_cell? _ _ n0)).trans n0
  have HYB := Lib.hid hYB
  have HBY := Lib.hid (HBX.out.keep hYB)
  have HRY := Lib.hid (row_keep HROW.out hYB)
  have HR0 : Hid (Y.ownsRow 0 32 1 v I.length (I.map (Value.int .u32))) := Lib.hid (row_up HRY.out (fun _ _ => Nat.zero_le _))
  have k2' := cell_al (.cells #[.int .u32 id] 32) k2
  clear hT1 hYB n0
  go_wp2_with (at_builtin; refine wpList_more info_u rfl (by decide) (by decide) under_u _ rfl (.tmp 4) (.tmp 7) rfl v I.length _ (by simp [Act.eval]) (HR0.out.alloc _) ⟨Y.heap.size, 0, none⟩ 1 1 [.int .u32 id] (by simp [Act.eval]) rfl (one_at Y (.int .u32 id) 32) (by simp [Value.oneCell']) (by omega) (by decide) ?_; intro g1 cap w1 r1 r2 r3; have hbx1 : Bx 54 w1 nb v := (r2.block nb (by have := HBY.out.lt; simp; omega) (fun e => by have := (row_lt HRY.out e.symm).1; have := HS.out.2; omega)).trans ((Below.heap_alloc _ _ _ HBY.out.lt).trans HBY.out); have c1 := hbx1.cell; have f1 := hbx1.free; have HBX1 := Lib.hid hbx1; have R1 := Lib.hid r1; have R3 := Lib.hid r3; have HO1 := Lib.hid (((Off.of (S := v.ownBlock.toList) HYB.out (Nat.le_refl _)).all (.cells #[.int .u32 id] 32)).grow r2 (fun k e => .inl (by simp [e]))); clear r1 r2 r3 hbx1)
  go_ret
  obtain ⟨s1, s2⟩ := HS.out
  have hset := (Off.refl [nb] w1).set ⟨nb, 0, none⟩ (.slice (some ⟨g1, 0, none⟩) (I.length + 1) cap) (.inl (by simp))
  have hown : ∀ m, v.ownBlock = some m → W.heap.size ≤ m ∧ ∃ c, X.heap[m]? = some (.cells c 32 (0, 0)) := fun m hm => ⟨(row_lt HROW.out hm).1, row_type HROW.out hm⟩
  have hg1 : W.heap.size ≤ g1 := R3.out.elim (fun e => (hown g1 e).1) (fun e => by have := HYB.out.size; simp at e; omega)
  have hoff : Off (nb :: v.ownBlock.toList) X (w1.setCell ⟨nb, 0, none⟩ (.slice (some ⟨g1, 0, none⟩) (I.length + 1) cap)) := (HO1.out.mono (T := nb :: v.ownBlock.toList) (fun k _ hk => List.mem_cons_of_mem _ hk)).set _ _ (.inl (by simp))
  have hne : ∀ m, m ∈ (nb :: v.ownBlock.toList) → m = nb ∨ W.heap.size ≤ m := fun m hm => by
    rcases List.mem_cons.1 hm with rfl | hm
    · exact .inl rfl
    · exact .inr (hown m (by simpa using hm)).1
  refine ⟨rfl, ⟨⟨_, HBX1.out.set _, ?_⟩, H.out.tr.off hoff (fun k hk hm => (hne _ hm).elim (HBK.out k hk).1 (fun h => by have := (HBK.out k hk).2; omega)), H.out.off.via hoff (fun m hm hin => (hne m hin).elim (fun e => by simp [e]) (fun e => by omega))⟩, _, hoff, fun m hm => ?_⟩
  · rw [HIS.out, List.length_append, List.map_append]
    exact row_offS (row_up R1.out (fun k hk => by simp [Value.ownBlock] at hk; omega)) hset (fun k hk hm => by simp [Value.ownBlock] at hk; simp at hm; omega)
  · rcases List.mem_cons.1 hm with rfl | hm
    · exact .inl s2
    · exact .inr (hown m (by simpa using hm)).2
end
end Go.Proofs.YtldmajifkmcdcaaGreat.Hp
/-
  Three and Any of a tree. No condition but those typed at each theorem.
-/
namespace Go.Proofs.YtldmajifkmcdcaaGreat.Hp
open Go.RowKit Go.Sort Bd
section
variable {w : World} {P : HpP} {RX A : List S3} {g : Nat → Option S3}
set_option maxRecDepth 100000 in
set_option maxHeartbeats 1600000 in
theorem heach_bad (h : HpM w P RX A) (x1 x2 y : Int) (hx : ¬ x1 ≤ x2) (fv : Value) :
    Calls Tryz.prog 43 #[.pointer (some ⟨P.B, 0, none⟩), .int .i64 x1, .int .i64 x2, .int .i64 y, fv] w fun e w' => e = .returned (.int .i64 0) ∧ Below w.heap.size w w' := by
  have HM := Lib.hid (hmade_yes h)
  have hxz : x2 < x1 := by omega
  clear h hx
  go_enter Tryz.func43, Tryz.ntmps43
  go_wp2_with (go_at_call 40; (with_reducible refine HM.out.mono ?_); rintro e wM ⟨rfl, hM⟩; subst wM)
  go_ret
  exact ⟨rfl, Below.refl _ _⟩
theorem heach_nil (w : World) (x1 x2 y : Int) (fv : Value) :
    Calls Tryz.prog 43 #[.pointer none, .int .i64 x1, .int .i64 x2, .int .i64 y, fv] w fun e w' => e = .returned (.int .i64 0) ∧ Below w.heap.size w w' := by
  have HM := Lib.hid (hmade_nil w)
  go_enter Tryz.func43, Tryz.ntmps43
  go_wp2_with (go_at_call 40; (with_reducible refine HM.out.mono ?_); rintro e wM ⟨rfl, hM⟩; subst wM)
  go_ret
  exact ⟨rfl, Below.refl _ _⟩
set_option maxRecDepth 100000 in
set_option maxHeartbeats 1600000 in
theorem hthree_of (w : World) (v : Value) (x1 x2 y : Int) (T : List S3) (t : Nat) (hT : T.length ≤ 8192)
    (hE : ∀ W, Below w.heap.size w W → w.heap.size < W.heap.size → Bx 54 W w.heap.size (.slice none 0 0) →
      Calls Tryz.prog 43 #[v, .int .i64 x1, .int .i64 x2, .int .i64 y, .func (.func 44) #[] #[.pointer (some ⟨w.heap.size, 0, none⟩)]] W fun e w' => e = .returned (.int .i64 t) ∧ (∃ u, Bx 54 w' w.heap.size u ∧ w'.ownsRow W.heap.size 32 1 u (ids T).length ((ids T).map (Value.int .u32))) ∧ Off [w.heap.size] W w') :
    Calls Tryz.prog 22 #[v, .int .i64 x1, .int .i64 x2, .int .i64 y] w fun e w' => (∃ r, e = .returned (.tuple #[r, .int .i64 t]) ∧ RL w' r (nsort (ids T))) ∧ Below w.heap.size w w' := by
  have hmf : ∀ (fn : Fn) (first cap : Array Value) (w : World), (Instr.makeFunc fn first cap).run Tryz.prog w = .ok (.func fn first cap) w := fun _ _ _ _ => rfl
  obtain ⟨W, hW⟩ : ∃ W, W = w.alloc (.cells #[.slice none 0 0] 54) := ⟨_, rfl⟩
  have hWB : Below w.heap.size w W := hW ▸ (Below.refl _ w).alloc (Nat.le_refl _) _
  have hWs : w.heap.size < W.heap.size := by rw [hW]; simp
  have hnb : Bx 54 W w.heap.size (.slice none 0 0) := hW ▸ Bx.new w (.slice none 0 0) 54
  have HE := Lib.hid (hE W hWB hWs hnb)
  have HWB := Lib.hid hWB
  have HWS := Lib.hid hWs
  have HTL := Lib.hid hT
  clear hE hWB hWs hnb hT
  go_enter Tryz.func22, Tryz.ntmps22
  go_upto_region 2 with fail
  rw [← hW]
  clear hW
  go_wp2_with (first
    | (go_at_call 43; (with_reducible refine HE.out.mono ?_); rintro e w1 ⟨rfl, ⟨u, hu, hr⟩, ho⟩; have HO := Lib.hid ho; have m0 := hu.cell; have HU := Lib.hid hu; have HR := Lib.hid hr; have HC := Lib.hid (told_any w1 W.heap.size u (ids T) hr (by rw [ids_len]; exact HTL.out)); clear hu hr ho)
    | (go_at_call 45; (with_reducible refine HC.out.mono ?_); rintro e w2 ⟨rfl, ht2, ho⟩; have HO2 := Lib.hid ho; have HT2 := Lib.hid ht2; have m1 := ho.cell m0 (by simp only [Option.mem_toList]; intro hc; have := (row_lt HR.out hc).1; have := HWS.out; omega); clear ho ht2))
  go_ret2
  obtain ⟨g1, p, c, rfl, g2, g3, g4⟩ := HT2.out.u
  have hb1 := HWB.out.trans (HO.out.below HWB.out.size (by simp))
  refine ⟨⟨_, rfl, p, c, by rw [g1]; rfl, g2, g3, by rw [g1]; exact g4⟩, hb1.trans (HO2.out.below hb1.size (fun k hk => ?_))⟩
  have := (row_lt HR.out (by simpa using hk)).1
  have := HWB.out.size
  omega
/-- of a tree's places: who is told, how many things are touched -/
theorem res_all (h : HpG w P RX A g) {x1 x2 : Int} (hx : x1 ≤ x2) (y : Int) :
    nsort (ids (resT RX g (iA RX x1) (iB RX x2) y true).1) = nmS (thB x1 x2 y) A ∧ (resT RX g (iA RX x1) (iB RX x2) y true).1.length ≤ btN kx RX x1 x2 + (resT RX g (iA RX x1) (iB RX x2) y true).2 ∧ btN kx RX x1 x2 + (resT RX g (iA RX x1) (iB RX x2) y true).2 ≤ 2 * (resT RX g (iA RX x1) (iB RX x2) y true).1.length + most RX.length ∧
      btN kx RX x1 x2 + (resT RX g (iA RX x1) (iB RX x2) y false).2 ≤ most RX.length ∧ (!(resT RX g (iA RX x1) (iB RX x2) y false).1.isEmpty) = decide (0 < (nmS (thB x1 x2 y) A).length) := by
  have hf : RX.length ≤ 8192 := Nat.le_trans h.m.few (by decide)
  have hbx := btN_few h.m.ord hf x1 x2
  have hpl := places h.m.ord h.m.few x1 x2
  unfold resT most
  by_cases hij : iA RX x1 = iB RX x2
  · rw [if_pos hij, if_pos hij]
    have hno : nmS (thB x1 x2 y) A = [] := nmS_none (fun s hs => by
      have := hpl s (h.m.sub' s hs)
      unfold thB
      by_cases h1 : x1 ≤ s.1 <;> by_cases h2 : s.1 ≤ x2
      · have := this.2 ⟨h1, h2⟩; omega
      all_goals simp [h1, h2])
    rw [hno]
    refine ⟨rfl, by simp, ?_, ?_, by simp⟩
    · simp only [List.length_nil]; omega
    · show btN kx RX x1 x2 + 0 ≤ _
      omega
  · rw [if_neg hij, if_neg hij]
    obtain ⟨b1, -, -⟩ := abv_parts h.m.ord hf x2
    change iB RX x2 ≤ RX.length at b1
    have hle : iA RX x1 ≤ iB RX x2 := fst_abv h.m.ord hf hx
    have hn : RX.length ≠ 0 := by omega
    obtain ⟨-, hI⟩ := h.k hn
    have hlg : lgN RX.length ≤ lgN (RX.length + 1) := lgM (by have := h.m.few; omega) (by omega)
    have hgo := go_all (pl := fun s => RX.idxOf s) (a := iA RX x1) (b := iB RX x2) (y := y) (rd g 0 (tr RX.length)) 0
    obtain ⟨g1, g2, g3⟩ := go_one (pl := fun s => RX.idxOf s) (a := iA RX x1) (b := iB RX x2) (y := y) (rd g 0 (tr RX.length)) 0
    have hany := any_is (pl := fun s => RX.idxOf s) (a := iA RX x1) (b := iB RX x2) (y := y) (rd g 0 (tr RX.length)) 0
    have hfew := ent_few (a := iA RX x1) (b := iB RX x2) (y := y) hI.ok
    have hafew := any_few (a := iA RX x1) (b := iB RX x2) (y := y) hI.ok
    have hte := told_ent (pl := fun s => RX.idxOf s) (a := iA RX x1) (b := iB RX x2) (y := y) (rd g 0 (tr RX.length)) 0
    have hnm := hI.three (y := y) hpl
    rw [hI.high] at hfew hafew
    rw [hgo]
    simp only
    have hlen : (nmS (thB x1 x2 y) A).length = (toldT (fun s => RX.idxOf s) (iA RX x1) (iB RX x2) y 0 (rd g 0 (tr RX.length))).length := by rw [← hnm, nsort_len, List.length_map]
    refine ⟨hnm, by omega, by omega, by omega, ?_⟩
    rw [hlen, ← hany]
    cases ha : (anyT (fun s => RX.idxOf s) (iA RX x1) (iB RX x2) y 0 (rd g 0 (tr RX.length))).1 with
    | false => rw [g3.2 ha]; rfl
    | true =>
      cases hg : (goT (fun s => RX.idxOf s) (iA RX x1) (iB RX x2) y false 0 (rd g 0 (tr RX.length))).1 with
      | nil => rw [g3.1 hg] at ha; cases ha
      | cons s k => rfl
theorem no_sides {x1 x2 : Int} (hx : ¬ x1 ≤ x2) (y : Int) (A : List S3) : nmS (thB x1 x2 y) A = [] := nmS_none (fun s _ => by
  unfold thB
  by_cases h1 : x1 ≤ s.1
  · have : ¬ s.1 ≤ x2 := by omega
    simp [this]
  · simp [h1])
theorem hthree_any (h : HpM w P RX A) (x1 x2 y : Int) :
    Calls Tryz.prog 22 #[.pointer (some ⟨P.B, 0, none⟩), .int .i64 x1, .int .i64 x2, .int .i64 y] w fun e w' => (∃ r, ∃ t : Nat, e = .returned (.tuple #[r, .int .i64 t]) ∧ RL w' r (nmS (thB x1 x2 y) A) ∧ (nmS (thB x1 x2 y) A).length ≤ t ∧ t ≤ 2 * (nmS (thB x1 x2 y) A).length + most RX.length) ∧ Below w.heap.size w w' := by
  by_cases hx : x1 ≤ x2
  · obtain ⟨g, hG⟩ := h.held
    obtain ⟨r1, r2, r3, -, -⟩ := res_all hG hx y
    have hlen : (nmS (thB x1 x2 y) A).length = (resT RX g (iA RX x1) (iB RX x2) y true).1.length := by rw [← r1, nsort_len, ids_len]
    have hnl := nmS_len (thB x1 x2 y) A
    have hal : A.length ≤ 400 := h.le
    refine (hthree_of w _ x1 x2 y (resT RX g (iA RX x1) (iB RX x2) y true).1 (btN kx RX x1 x2 + (resT RX g (iA RX x1) (iB RX x2) y true).2) (by omega) (fun W hb hsz hnb => ?_)).mono ?_
    · have hl := h.lies
      refine (heach_any true (hG.keep hb) x1 x2 y hx 44 #[.pointer (some ⟨w.heap.size, 0, none⟩)] egT3 (fun T X => ReJ W X P RX A g w.heap.size T)
        (fun X hX => ⟨⟨_, hnb.keep hX, World.ownsRow_nil ..⟩, (hG.keep hb).keep hX, Off.of hX (Nat.le_refl _)⟩) (fun _ _ _ hJ hb => hJ.keep hb) (fun _ _ hJ => hJ.tr)
        (fun _ _ _ _ _ hJ ha he => hJ.ask hsz (fun x hx => Nat.lt_of_lt_of_le (hl x hx) hb.size) ha he)
        (fun _ s _ hJ hT _ _ => three1_any hJ (by omega) s hsz (fun x hx => ⟨by have := hl x hx; omega, Nat.lt_of_lt_of_le (hl x hx) hb.size⟩))).mono ?_
      rintro e w' ⟨h1, h2⟩
      exact ⟨h1, h2.box, h2.off⟩
    · rintro e w' ⟨⟨r, rfl, hr⟩, hb⟩
      rw [r1] at hr
      exact ⟨⟨r, _, rfl, hr, by omega, by omega⟩, hb⟩
  · refine (hthree_of w _ x1 x2 y [] 0 (by simp) (fun W hb hsz hnb => ?_)).mono ?_
    · refine (heach_bad (h.keep hb) x1 x2 y hx _).mono ?_
      rintro e w' ⟨h1, h2⟩
      exact ⟨h1, ⟨_, hnb.keep h2, World.ownsRow_nil ..⟩, Off.of h2 (Nat.le_refl _)⟩
    · rintro e w' ⟨⟨r, rfl, hr⟩, hb⟩
      rw [no_sides hx]
      exact ⟨⟨r, 0, rfl, hr, by simp, by simp⟩, hb⟩
theorem hthree_nil (w : World) (x1 x2 y : Int) :
    Calls Tryz.prog 22 #[.pointer none, .int .i64 x1, .int .i64 x2, .int .i64 y] w fun e w' => (∃ r, ∃ t : Nat, e = .returned (.tuple #[r, .int .i64 t]) ∧ RL w' r (nmS (thB x1 x2 y) []) ∧ (nmS (thB x1 x2 y) []).length ≤ t ∧ t ≤ 2 * (nmS (thB x1 x2 y) []).length + most 0) ∧ Below w.heap.size w w' := by
  refine (hthree_of w _ x1 x2 y [] 0 (by simp) (fun W hb hsz hnb => ?_)).mono ?_
  · refine (heach_nil W x1 x2 y _).mono ?_
    rintro e w' ⟨h1, h2⟩
    exact ⟨h1, ⟨_, hnb.keep h2, World.ownsRow_nil ..⟩, Off.of h2 (Nat.le_refl _)⟩
  · rintro e w' ⟨⟨r, rfl, hr⟩, hb⟩
    exact ⟨⟨r, 0, rfl, hr, by rw [show nmS (thB x1 x2 y) [] = [] from rfl]; simp, by simp⟩, hb⟩
end
end Go.Proofs.YtldmajifkmcdcaaGreat.Hp
