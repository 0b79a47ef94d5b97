/-
  What wide.putDigit tells: ten times a and the digit, or nothing and false, for every wide number and every digit; conditions: those typed at each theorem.
-/
import Derived.Test.YtdlijnkbpnhpoaaDoorParse
namespace Go.Proofs.YtdlijnkbpnhpoaaDoor
open Go.RowKit

def addR (a b : Nat) : Nat := if a + b < B128 then a + b else 0
def addK (a b : Nat) : Bool := decide (a + b < B128)
theorem addR_yes {a b : Nat} (h : a + b < B128) : addR a b = a + b := if_pos h
theorem addR_no {a b : Nat} (h : ¬ a + b < B128) : addR a b = 0 := if_neg h
theorem addK_yes {a b : Nat} (h : a + b < B128) : addK a b = true := decide_eq_true h
theorem addK_no {a b : Nat} (h : ¬ a + b < B128) : addK a b = false := decide_eq_false h
theorem up_lt (a : Nat) (h : a * 10 < B128) : (hi a).toNat * 10 < B64 := by unfold hi B64; unfold B128 at h; omega
theorem small_hi (u : Nat) (h : u < B64) : hi u = 0 := by unfold hi B64; unfold B64 at h; omega
theorem small_lo (u : Nat) (h : u < B64) : lo u = (u : Int) := by unfold lo B64; unfold B64 at h; omega

theorem add_gen (a b : Nat) (w : World) :
    Calls Tryd.prog 10 #[.agg #[.int .u64 (hi a), .int .u64 (lo a)], .agg #[.int .u64 (hi b), .int .u64 (lo b)]] w fun e w' => e = .returned (.tuple #[.agg #[.int .u64 (hi (addR a b)), .int .u64 (lo (addR a b))], .bool (addK a b)]) ∧ Below w.heap.size w w' := by
  by_cases h : a + b < B128
  · rw [addR_yes h, addK_yes h]; exact add_yes a b w h
  · rw [addR_no h, addK_no h, hi_zero, lo_zero]; exact add_no a b w (by omega)
theorem add_at (x1 x0 y1 y0 : Int) (a b : Nat) (e1 : x1 = hi a) (e2 : x0 = lo a) (e3 : y1 = hi b) (e4 : y0 = lo b) (w : World) :
    Calls Tryd.prog 10 #[.agg #[.int .u64 x1, .int .u64 x0], .agg #[.int .u64 y1, .int .u64 y0]] w fun e w' => e = .returned (.tuple #[.agg #[.int .u64 (hi (addR a b)), .int .u64 (lo (addR a b))], .bool (addK a b)]) ∧ Below w.heap.size w w' := by
  subst e1 e2 e3 e4
  exact add_gen a b w
theorem mul10 (x : Int) (w : World) (hx : 0 ≤ x) (hx' : x < 18446744073709551616) :
    Calls Tryd.prog 19 #[.int .u64 x, .int .u64 10] w fun e w' => e = .returned (.agg #[.int .u64 (hi (x.toNat * 10)), .int .u64 (lo (x.toNat * 10))]) ∧ Below w.heap.size w w' :=
  mul_int x 10 w hx hx' (by decide) (by decide)
theorem keepc {X w' : World} (hb : Below X.heap.size X w') {p : Addr} {v : Value} (h : X.cell? p = some v) : w'.cell? p = some v :=
  (hb.cell (World.block_lt_of_cell? X _ h)).trans h
theorem allc {w : World} {o : Obj} {p : Addr} {v : Value} (h : w.cell? p = some v) : (w.alloc o).cell? p = some v :=
  (World.cell?_alloc_lt _ _ _ (World.block_lt_of_cell? w _ h)).trans h
theorem new0 (w : World) (x y : Value) {n : Nat} (h : n = w.heap.size) : (w.alloc (.cells #[x, y] 24)).cell? ⟨n, 0, none⟩ = some x := by subst h; simp
theorem new1 (w : World) (x y : Value) {n : Nat} (h : n = w.heap.size) : (w.alloc (.cells #[x, y] 24)).cell? ⟨n, 1, none⟩ = some y := by subst h; simp
theorem newf (w : World) (x y : Value) (k : Nat) {n : Nat} (h : n = w.heap.size) : (w.alloc (.cells #[x, y] 24)).frozen? ⟨n, k, none⟩ = false := by subst h; simp
theorem setc {w : World} {p q : Addr} {v x : Value} (h : q.block ≠ p.block) (hc : w.cell? p = some x) : (w.setCell q v).cell? p = some x :=
  (World.cell?_of_block (w := w) (Below.heap_setCell w q v p.block (fun e => h e.symm))).trans hc
theorem set20 {w : World} {n : Nat} {x y u : Value} (h : w.cell? ⟨n, 0, none⟩ = some u) : ((w.setCell ⟨n, 0, none⟩ x).setCell ⟨n, 1, none⟩ y).cell? ⟨n, 0, none⟩ = some x :=
  (World.cell?_setCell_other _ _ _ _ (by simp)).trans (World.cell?_setCell_same' _ _ _ (by rw [h]; rfl))
theorem set21 {w : World} {n : Nat} {x y u : Value} (h : w.cell? ⟨n, 1, none⟩ = some u) : ((w.setCell ⟨n, 0, none⟩ x).setCell ⟨n, 1, none⟩ y).cell? ⟨n, 1, none⟩ = some y :=
  World.cell?_setCell_same' _ _ _ (by rw [World.cell?_setCell_other _ _ _ _ (by simp), h]; rfl)
theorem keepc' {B : Nat} {X w' : World} (hb : Below B X w') {p : Addr} {v : Value} (hp : p.block < B) (h : X.cell? p = some v) : w'.cell? p = some v := (hb.cell hp).trans h
theorem keepf' {B : Nat} {X w' : World} (hb : Below B X w') {p : Addr} (hp : p.block < B) (h : X.frozen? p = false) : w'.frozen? p = false := (hb.frozen hp).trans h
theorem allf {w : World} {o : Obj} {p : Addr} {v : Value} (h : w.cell? p = some v) (hf : w.frozen? p = false) : (w.alloc o).frozen? p = false :=
  (World.frozen?_of_block (w := w) (Below.heap_alloc w o p.block (World.block_lt_of_cell? w _ h))).trans hf
theorem keepf {X w' : World} (hb : Below X.heap.size X w') {p : Addr} {v : Value} (h : X.cell? p = some v) (hf : X.frozen? p = false) : w'.frozen? p = false :=
  (hb.frozen (World.block_lt_of_cell? X _ h)).trans hf

def putR (a d : Nat) : Nat := if a * 10 + d < B128 then a * 10 + d else 0
def putK (a d : Nat) : Bool := decide (a * 10 + d < B128)
theorem put_fail (a d : Nat) (h : ¬ a * 10 < B128) : putR a d = 0 ∧ putK a d = false := by
  unfold putR putK
  exact ⟨if_neg (by omega), decide_eq_false (by omega)⟩
theorem put_fits (a t d : Nat) (h : t = a * 10) : putR a d = addR t d ∧ putK a d = addK t d := by subst h; exact ⟨rfl, rfl⟩
theorem up_split (a : Nat) : (hi a).toNat * 10 * B64 + (lo a).toNat * 10 = a * 10 := by unfold hi lo B64; omega
theorem up_hi (u : Nat) : hi (u * B64) = (u : Int) := by unfold hi B64; omega
theorem up_lo (u : Nat) : lo (u * B64) = 0 := by unfold lo B64; omega
theorem dig_hi (d : Int) (h0 : 0 ≤ d) (h : d ≤ 9) : (0 : Int) = hi d.toNat ∧ IntKind.u64.wrap d = lo d.toNat := by
  rw [IntWalk.u64_in d (by omega)]; unfold hi lo B64; omega

set_option maxRecDepth 100000 in
set_option maxHeartbeats 1000000 in
/-- ten times a is told, and the digit: all that follows the first product. -/
theorem put_small (a : Nat) (d : Int) (w : World) (ha : a < B128) (hd0 : 0 ≤ d) (hd : d ≤ 9) (hu : (hi a).toNat * 10 < B64) :
    Calls Tryd.prog 35 #[.agg #[.int .u64 (hi a), .int .u64 (lo a)], .int .u8 d] w fun e w' => e = .returned (.tuple #[.agg #[.int .u64 (hi (putR a d.toNat)), .int .u64 (lo (putR a d.toNat))], .bool (putK a d.toNat)]) ∧ Below w.heap.size w w' := by
  have U0 := Lib.hid (small_hi _ hu)
  have U1 := Lib.hid (small_lo _ hu)
  have A1 := Lib.hid (hi_nn a)
  have A2 := Lib.hid (hi_lt a ha)
  have A3 := Lib.hid (lo_nn a)
  have A4 := Lib.hid (lo_lt a)
  have HS := Lib.hid (up_split a)
  clear ha hu
  go_enter Tryd.func35, Tryd.ntmps35
  go_wp2_with fail
  refine (mul10 (hi a) _ A1.out A2.out).mono ?_
  rw [U0.out, U1.out]
  clear U0 U1
  generalize (hi a).toNat * 10 = u at HS ⊢
  have HU1 := Lib.hid (up_hi u)
  have HU2 := Lib.hid (up_lo u)
  rintro e w1 ⟨rfl, hb1⟩
  obtain ⟨hc1, hf1⟩ := bcell hb1
  have hz1 := hb1.size
  simp only [World.size_alloc] at hz1 hc1 hf1
  have c0 : w1.cell? ⟨w.heap.size, 1, none⟩ = some (.int .u64 (lo a)) := by rw [hc1 _ _ (by omega)]; simp
  have c2 : w1.cell? ⟨w.heap.size + 1, 0, none⟩ = some (.int .u64 0) := by rw [hc1 _ _ (by omega)]; simp
  have c3 : w1.cell? ⟨w.heap.size + 1, 1, none⟩ = some (.int .u64 0) := by rw [hc1 _ _ (by omega)]; simp
  have f2 : w1.frozen? ⟨w.heap.size + 1, 0, none⟩ = false := by rw [hf1 _ _ (by omega)]; simp
  have f3 : w1.frozen? ⟨w.heap.size + 1, 1, none⟩ = false := by rw [hf1 _ _ (by omega)]; simp
  replace hb1 : Below w.heap.size w w1 := ((((Below.refl _ _).alloc (Nat.le_refl _) _).alloc (by simp) _).trans (hb1.mono (by simp; omega)))
  clear hc1 hf1
  obtain ⟨t, ht⟩ : ∃ t, t = addR (u * B64) ((lo a).toNat * 10) := ⟨_, rfl⟩
  obtain ⟨ok, hok⟩ : ∃ ok, ok = addK (u * B64) ((lo a).toNat * 10) := ⟨_, rfl⟩
  have HT := Lib.hid ht
  have HK := Lib.hid hok
  clear ht hok
  go_upto_region 4 with fail
  go_cut [7, 8] (fun s7 s8 wx => s8 = .bool ok ∧ ∃ g : Nat, s7 = .pointer (some ⟨g, 0, none⟩) ∧ w1.heap.size + 1 ≤ g ∧ wx.cell? ⟨g, 0, none⟩ = some (.int .u64 (hi t)) ∧ wx.cell? ⟨g, 1, none⟩ = some (.int .u64 (lo t)) ∧ Below (w1.heap.size + 1) (w1.alloc (Obj.cells #[Value.int IntKind.u64 0, Value.int IntKind.u64 ↑u] 24)) wx)
  case first =>
    clear hb1 c2 c3 f2 f3
    have d0 := allc (o := Obj.cells #[Value.int IntKind.u64 0, Value.int IntKind.u64 ↑u] 24) c0
    have d1 := World.cell?_alloc_new (w := w1) #[Value.int IntKind.u64 0, Value.int IntKind.u64 ↑u] 24 1
    replace d1 : (w1.alloc (Obj.cells #[Value.int IntKind.u64 0, Value.int IntKind.u64 ↑u] 24)).cell? ⟨w1.heap.size, 1, none⟩ = some (.int .u64 u) := d1
    go_region_held3 (fun w' => w'.cell? ⟨w.heap.size, 1, none⟩ = some (.int .u64 (lo a)) ∧ w'.cell? ⟨w1.heap.size, 1, none⟩ = some (.int .u64 u)) (first | exact ⟨setc (by dsimp only; omega) (setc (by dsimp only; omega) k3), setc (by dsimp only; omega) (setc (by dsimp only; omega) k4)⟩ | go_keep)
      (first
        | (go_at_call 19; refine (mul10 (lo a) _ A3.out A4.out).mono ?_; rintro e w2 ⟨rfl, hb2⟩; have k1 := keepc hb2 (p := ⟨w.heap.size, 1, none⟩) (v := .int .u64 (lo a)) (by first | exact d0 | exact allc d0); have k2 := keepc hb2 (p := ⟨w1.heap.size, 1, none⟩) (v := .int .u64 u) (by first | exact d1 | exact allc d1); have hz2 : w1.heap.size + 1 ≤ w2.heap.size := Nat.le_trans (by simp) hb2.size;
            (try (have z0 := keepc hb2 (p := ⟨w1.heap.size + 1, 0, none⟩) (v := .int .u64 0) (new0 _ _ _ (by simp)); have z1 := keepc hb2 (p := ⟨w1.heap.size + 1, 1, none⟩) (v := .int .u64 0) (new1 _ _ _ (by simp)); have z2 := keepf hb2 (p := ⟨w1.heap.size + 1, 0, none⟩) (v := .int .u64 0) (new0 _ _ _ (by simp)) (newf _ _ _ _ (by simp)); have z3 := keepf hb2 (p := ⟨w1.heap.size + 1, 1, none⟩) (v := .int .u64 0) (new1 _ _ _ (by simp)) (newf _ _ _ _ (by simp)))))
        | (go_at_call 10; refine (add_at _ _ _ _ (u * B64) ((lo a).toNat * 10) HU1.out.symm HU2.out.symm rfl rfl _).mono ?_; rw [← HT.out, ← HK.out]; rintro e w3 ⟨rfl, hb3⟩; have k3 := keepc hb3 (p := ⟨w.heap.size, 1, none⟩) (v := .int .u64 (lo a)) (by first | exact k1 | exact allc k1); have k4 := keepc hb3 (p := ⟨w1.heap.size, 1, none⟩) (v := .int .u64 u) (by first | exact k2 | exact allc k2); have hz3 : w2.heap.size ≤ w3.heap.size := Nat.le_trans (by simp) hb3.size;
            (try (have y0 := keepc hb3 (p := ⟨w2.heap.size, 0, none⟩) (v := .int .u64 0) (new0 _ _ _ (by simp)); have y1 := keepc hb3 (p := ⟨w2.heap.size, 1, none⟩) (v := .int .u64 0) (new1 _ _ _ (by simp)); have y2 := keepf hb3 (p := ⟨w2.heap.size, 0, none⟩) (v := .int .u64 0) (new0 _ _ _ (by simp)) (newf _ _ _ _ (by simp)); have y3 := keepf hb3 (p := ⟨w2.heap.size, 1, none⟩) (v := .int .u64 0) (new1 _ _ _ (by simp)) (newf _ _ _ _ (by simp))));
            (try (have y0 := keepc hb3 z0; have y1 := keepc hb3 z1; have y2 := keepf hb3 z0 z2; have y3 := keepf hb3 z1 z3))))
    all_goals (go_wp2_with fail; go_meet)
    · exact ⟨rfl, w3.heap.size, rfl, by omega, new0 _ _ _ rfl, new1 _ _ _ rfl, (((Below.refl _ _).drew.trans (hb2.mono (by simp))).trans (hb3.mono (by omega))).alloc (by omega) _⟩
    · exact ⟨rfl, w2.heap.size, rfl, by omega, set20 y0, set21 y1, (((((Below.refl _ _).drew.trans (hb2.mono (by simp))).alloc (by omega) _).trans (hb3.mono (by simp; omega))).setCell (by dsimp only; omega) _).setCell (by dsimp only; omega) _⟩
    · exact ⟨rfl, w1.heap.size + 1, rfl, by omega, set20 y0, set21 y1, ((((((Below.refl _ _).alloc (by simp) _).drew).trans (hb2.mono (by simp))).trans (hb3.mono (by omega))).setCell (by dsimp only; omega) _).setCell (by dsimp only; omega) _⟩
  case rest =>
    obtain ⟨rfl, g, rfl, hg, g0, g1, hB⟩ := hcut
    have hzw : w1.heap.size + 1 ≤ wc.heap.size := Nat.le_trans (by simp) hB.size
    have m0 := keepc' hB (p := ⟨w.heap.size + 1, 0, none⟩) (by dsimp only; omega) (allc c2)
    have m1 := keepc' hB (p := ⟨w.heap.size + 1, 1, none⟩) (by dsimp only; omega) (allc c3)
    have m2 := keepf' hB (p := ⟨w.heap.size + 1, 0, none⟩) (by dsimp only; omega) (allf c2 f2)
    have m3 := keepf' hB (p := ⟨w.heap.size + 1, 1, none⟩) (by dsimp only; omega) (allf c3 f3)
    have HB := (hb1.alloc (Nat.le_trans (by omega) hz1) (Obj.cells #[Value.int IntKind.u64 0, Value.int IntKind.u64 ↑u] 24)).trans (hB.mono (by omega))
    clear hB hb1 c0 c2 c3 f2 f3
    cases ok with
    | false =>
      have HP := Lib.hid (put_fail a d.toNat (by have := HK.out; rw [addK, HS.out] at this; exact of_decide_eq_false this.symm))
      go_wp2
      refine bodyPost_ret (v := .tuple #[.agg #[.int .u64 0, .int .u64 0], .bool false]) (by simp [results, Tryd.results35, go_sem, *]) rfl ⟨by rw [HP.out.1, HP.out.2, hi_zero, lo_zero], ?_⟩
      exact (HB.setCell (by dsimp only; omega) _).setCell (by dsimp only; omega) _
    | true =>
      have hfit : a * 10 < B128 := by have := HK.out; rw [addK, HS.out] at this; exact of_decide_eq_true this.symm
      have HP := Lib.hid (put_fits a t d.toNat (by rw [HT.out, addR, HS.out, if_pos hfit]))
      clear hfit
      obtain ⟨q1, q2⟩ := dig_hi d hd0 hd
      have Q1 := Lib.hid q1
      have Q2 := Lib.hid q2
      clear q1 q2
      go_wp2_with fail
      go_region_held3 (fun w' => w'.cell? ⟨g, 0, none⟩ = some (.int .u64 (hi t)) ∧ w'.cell? ⟨g, 1, none⟩ = some (.int .u64 (lo t))) (first | exact ⟨setc (by dsimp only; omega) (setc (by dsimp only; omega) n3), setc (by dsimp only; omega) (setc (by dsimp only; omega) n4)⟩ | go_keep)
        (first
          | (go_at_call 16; refine (of_any _ _).mono ?_; rintro e w2 ⟨rfl, hb2⟩; have n0 := keepc hb2 g0; have n1 := keepc hb2 g1; have p0 := keepc hb2 m0; have p1 := keepc hb2 m1; have p2 := keepf hb2 m0 m2; have p3 := keepf hb2 m1 m3; have hz2 : wc.heap.size ≤ w2.heap.size := hb2.size)
          | (go_at_call 10; refine (add_at _ _ _ _ t d.toNat rfl rfl Q1.out Q2.out _).mono ?_; rintro e w3 ⟨rfl, hb3⟩; have n3 := keepc hb3 n0; have n4 := keepc hb3 n1; have r0 := keepc hb3 p0; have r1 := keepc hb3 p1; have r2 := keepf hb3 p0 p2; have r3 := keepf hb3 p1 p3; have hz3 : w2.heap.size ≤ w3.heap.size := hb3.size))
      go_wp2_with fail
      have s0 := set20 (x := .int .u64 (hi (addR t d.toNat))) (y := .int .u64 (lo (addR t d.toNat))) r0
      have s1 := set21 (x := .int .u64 (hi (addR t d.toNat))) (y := .int .u64 (lo (addR t d.toNat))) r1
      refine bodyPost_ret (v := .tuple #[.agg #[.int .u64 (hi (addR t d.toNat)), .int .u64 (lo (addR t d.toNat))], .bool (addK t d.toNat)]) (by simp [results, Tryd.results35, go_sem, s0, s1]) rfl ⟨by rw [HP.out.1, HP.out.2], ?_⟩
      exact ((((HB.drew.trans (hb2.mono (by simp; omega))).trans (hb3.mono (by omega))).setCell (by dsimp only; omega) _).setCell (by dsimp only; omega) _)

set_option maxRecDepth 100000 in
set_option maxHeartbeats 1000000 in
theorem put_big (a : Nat) (d : Int) (w : World) (ha : a < B128) (hu : ¬ (hi a).toNat * 10 < B64) :
    Calls Tryd.prog 35 #[.agg #[.int .u64 (hi a), .int .u64 (lo a)], .int .u8 d] w fun e w' => e = .returned (.tuple #[.agg #[.int .u64 (hi (putR a d.toNat)), .int .u64 (lo (putR a d.toNat))], .bool (putK a d.toNat)]) ∧ Below w.heap.size w w' := by
  have HP := Lib.hid (put_fail a d.toNat (by unfold hi B64 at hu; unfold B128; omega))
  have A1 := Lib.hid (hi_nn a)
  have A2 := Lib.hid (hi_lt a ha)
  have tH : (hi ((hi a).toNat * 10) != 0) = true := by
    rw [bne_iff_ne]; unfold hi B64 at *; omega
  clear ha hu
  go_enter Tryd.func35, Tryd.ntmps35
  go_wp2_with fail
  refine (mul10 (hi a) _ A1.out A2.out).mono ?_
  generalize (hi a).toNat * 10 = u at tH ⊢
  rintro e w1 ⟨rfl, hb1⟩
  have c2 := keepc hb1 (p := ⟨w.heap.size + 1, 0, none⟩) (v := .int .u64 0) (new0 _ _ _ (by simp))
  have c3 := keepc hb1 (p := ⟨w.heap.size + 1, 1, none⟩) (v := .int .u64 0) (new1 _ _ _ (by simp))
  have f2 := keepf hb1 (p := ⟨w.heap.size + 1, 0, none⟩) (v := .int .u64 0) (new0 _ _ _ (by simp)) (newf _ _ _ _ (by simp))
  have f3 := keepf hb1 (p := ⟨w.heap.size + 1, 1, none⟩) (v := .int .u64 0) (new1 _ _ _ (by simp)) (newf _ _ _ _ (by simp))
  have hz : w.heap.size + 1 < w1.heap.size := Nat.le_trans (by simp) hb1.size
  have HB1 := Lib.hid hb1
  clear hb1
  go_wp2
  refine bodyPost_ret (v := .tuple #[.agg #[.int .u64 0, .int .u64 0], .bool false]) (by simp [results, Tryd.results35, go_sem, *]) rfl ⟨by rw [HP.out.1, HP.out.2, hi_zero, lo_zero], ?_⟩
  exact (((((((Below.refl _ _).alloc (Nat.le_refl _) _).alloc (by simp) _).trans (HB1.out.mono (by simp; omega))).setCell (p := ⟨w.heap.size + 1, 0, none⟩) (Nat.le_succ _) _).setCell (p := ⟨w.heap.size + 1, 1, none⟩) (Nat.le_succ _) _).alloc (by simp; omega) _)

theorem put_any (a : Nat) (d : Int) (w : World) (ha : a < B128) (hd0 : 0 ≤ d) (hd : d ≤ 9) :
    Calls Tryd.prog 35 #[.agg #[.int .u64 (hi a), .int .u64 (lo a)], .int .u8 d] w fun e w' => e = .returned (.tuple #[.agg #[.int .u64 (hi (putR a d.toNat)), .int .u64 (lo (putR a d.toNat))], .bool (putK a d.toNat)]) ∧ Below w.heap.size w w' := by
  by_cases hu : (hi a).toNat * 10 < B64
  · exact put_small a d w ha hd0 hd hu
  · exact put_big a d w ha hu
end Go.Proofs.YtdlijnkbpnhpoaaDoor
