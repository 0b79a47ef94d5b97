/-
  What the document-side function Sub tells: what wide.Sub tells; conditions: those typed at each theorem.
-/
import Derived.Test.YtdlijnkbpnhpoaaDoorRefRow
import Derived.Deep.AppendLies
namespace Go.Proofs.YtdlijnkbpnhpoaaDoor
open Go.RowKit

theorem own_mono {w : World} {B C : Nat} {v : Value} {n : Nat} {xs : List Value} (h : w.ownsRow B 3 1 v n xs) (hb : C ≤ B) : w.ownsRow C 3 1 v n xs := by
  refine ⟨h.1, ?_⟩
  rcases h.2 with hn | ⟨g, cap, cur, e, hb', rest⟩
  · exact .inl hn
  · exact .inr ⟨g, cap, cur, e, Nat.le_trans hb hb', rest⟩
theorem lt_top (Y m : Nat) (h1 : 1 ≤ Y / 2 ^ m) (h2 : Y / 2 ^ 128 = 0) : m < 128 := by
  by_cases q : m < 128
  · exact q
  · have e : (2 : Nat) ^ 128 ≤ 2 ^ m := Nat.pow_le_pow_right (by decide) (by omega)
    have := Nat.div_le_div_left (a := Y) e (pow_pos2 128)
    rw [h2] at this; omega
/-- what stands in the rounds of Sub: the two rows, the row of what is told, the result's own cells. -/
structure SubSt (w wr : World) (ga gb gd ca cb X b D k : Nat) : Prop where
  x : wr.ownsRow w.heap.size 3 1 (.slice (some ⟨ga, 0, none⟩) 128 ca) 128 (bitsL X 128)
  y : wr.ownsRow w.heap.size 3 1 (.slice (some ⟨gb, 0, none⟩) 128 cb) 128 (bitsL b 128)
  o : wr.ownsRow w.heap.size 3 1 (.slice (some ⟨gd, 0, none⟩) 128 128) 128 (outL D k)
  r0 : wr.cell? ⟨w.heap.size + 1 + 1, 0, none⟩ = some (.int .u64 0)
  r1 : wr.cell? ⟨w.heap.size + 1 + 1, 1, none⟩ = some (.int .u64 0)
  q0 : wr.frozen? ⟨w.heap.size + 1 + 1, 0, none⟩ = false
  q1 : wr.frozen? ⟨w.heap.size + 1 + 1, 1, none⟩ = false
  n1 : ga ≠ gb
  n2 : ga ≠ gd
  n3 : gb ≠ gd
  m1 : w.heap.size + 1 + 1 < ga
  m2 : w.heap.size + 1 + 1 < gd
  bl : Below w.heap.size w wr
theorem SubSt.drewN {w wr : World} {ga gb gd ca cb X b D k : Nat} (h : SubSt w wr ga gb gd ca cb X b D k) (n : Nat) : SubSt w (wr.drewN n) ga gb gd ca cb X b D k :=
  ⟨h.x, h.y, h.o, h.r0, h.r1, h.q0, h.q1, h.n1, h.n2, h.n3, h.m1, h.m2, bdrewN h.bl⟩
theorem own_ne {g g' n cap : Nat} (h : g ≠ g') : (Value.slice (some ⟨g, 0, none⟩) n cap).ownBlock ≠ some g' := by
  simpa [Value.ownBlock] using h
theorem SubSt.setx {w wr : World} {ga gb gd ca cb X b D k : Nat} (h : SubSt w wr ga gb gd ca cb X b D k) (j : Nat) (u : Value) (X' : Nat) (e : (bitsL X 128).set j u = bitsL X' 128) : SubSt w (wr.setCell ⟨ga, j, none⟩ u) ga gb gd ca cb X' b D k := by
  have hm := h.m1
  refine ⟨by rw [← e]; exact (h.x.stored j u).1, ownsRow_setCell_other h.y (own_ne (Ne.symm h.n1)) u, ownsRow_setCell_other h.o (own_ne (Ne.symm h.n2)) u, setc (by dsimp only; omega) h.r0, setc (by dsimp only; omega) h.r1, by simpa using h.q0, by simpa using h.q1, h.n1, h.n2, h.n3, h.m1, h.m2, h.bl.setCell (p := ⟨ga, j, none⟩) (by dsimp only; omega) _⟩
theorem SubSt.seto {w wr : World} {ga gb gd ca cb X b D k : Nat} (h : SubSt w wr ga gb gd ca cb X b D k) (u : Value) (e : u = bitV D k) : SubSt w (wr.setCell ⟨gd, k, none⟩ u) ga gb gd ca cb X b D (k + 1) := by
  have hm := h.m2
  refine ⟨ownsRow_setCell_other h.x (own_ne h.n2) u, ownsRow_setCell_other h.y (own_ne h.n3) u, by rw [← outL_step, e]; exact (h.o.stored k _).1, setc (by dsimp only; omega) h.r0, setc (by dsimp only; omega) h.r1, by simpa using h.q0, by simpa using h.q1, h.n1, h.n2, h.n3, h.m1, h.m2, h.bl.setCell (p := ⟨gd, k, none⟩) (by dsimp only; omega) _⟩
theorem SubSt.xc {w wr : World} {ga gb gd ca cb X b D k : Nat} (h : SubSt w wr ga gb gd ca cb X b D k) (j : Nat) (hj : j < 128) : wr.cell? ⟨ga, j, none⟩ = some (.int .i64 (bitN X j : Int)) := own_cell h.x j hj
theorem SubSt.yc {w wr : World} {ga gb gd ca cb X b D k : Nat} (h : SubSt w wr ga gb gd ca cb X b D k) (j : Nat) (hj : j < 128) : wr.cell? ⟨gb, j, none⟩ = some (.int .i64 (bitN b j : Int)) := own_cell h.y j hj
theorem SubSt.oc {w wr : World} {ga gb gd ca cb X b D k : Nat} (h : SubSt w wr ga gb gd ca cb X b D k) (j : Nat) (hj : j < 128) : ∃ o, wr.cell? ⟨gd, j, none⟩ = some o := ⟨_, (h.o.cellAt j (by omega)).trans (List.getElem?_eq_getElem (by rw [outL_len]; omega))⟩
theorem two_le (x : Nat) (h : 1 ≤ 2 * x + 0) : 1 ≤ x := by omega
theorem step_pow (X Y k m : Nat) (h : Y + 2 ^ (k + 1) = X + 2 ^ m) : Y + 2 ^ m + 2 ^ (k + 1) = X + 2 ^ (m + 1) := by rw [Nat.pow_succ 2 m]; omega
theorem drop_one {x y z u : Nat} (h1 : x + 1 = y) (h2 : y = z + u + 1) : x = z + u := by omega
theorem div_less {Y Z m : Nat} (h : Y = Z + 2 ^ m) (h2 : Y / 2 ^ 128 = 0) : Z / 2 ^ 128 = 0 := by
  have := Nat.div_le_div_right (c := 2 ^ 128) (show Z ≤ Y by rw [h]; exact Nat.le_add_right _ _)
  rw [h2] at this; exact Nat.le_zero.1 this
theorem sub_hold (X Y Z k m : Nat) (h : Y + 2 ^ (k + 1) = X + 2 ^ m) (hz : Y = Z + 2 ^ m) : Z / 2 ^ (k + 1) + 1 = X / 2 ^ (k + 1) := by
  rw [show X = Z + 2 ^ (k + 1) by omega, up_at]

set_option maxRecDepth 100000 in
set_option maxHeartbeats 1000000 in
/-- the reference's Sub, where there is nothing to tell. -/
theorem rsub_no (a b : Nat) (w : World) (ha : a < B128) (hb : b < B128) (h : a < b) :
    Calls Tryd.prog 13 #[.agg #[.int .u64 (hi a), .int .u64 (lo a)], .agg #[.int .u64 (hi b), .int .u64 (lo b)]] w fun e w' => e = .returned (.tuple #[.agg #[.int .u64 0, .int .u64 0], .bool false]) ∧ Below w.heap.size w w' := by
  have LA := Lib.hid ha
  have LB := Lib.hid hb
  have LH := Lib.hid h
  clear ha hb h
  have a0 := allc (o := .cells #[.int .u64 0, .int .u64 0] 24) (allc (o := .cells #[.int .u64 (hi b), .int .u64 (lo b)] 24) (new0 w (.int .u64 (hi a)) (.int .u64 (lo a)) rfl))
  have a1 := allc (o := .cells #[.int .u64 0, .int .u64 0] 24) (allc (o := .cells #[.int .u64 (hi b), .int .u64 (lo b)] 24) (new1 w (.int .u64 (hi a)) (.int .u64 (lo a)) rfl))
  have b0 := allc (o := .cells #[.int .u64 0, .int .u64 0] 24) (new0 (w.alloc (.cells #[.int .u64 (hi a), .int .u64 (lo a)] 24)) (.int .u64 (hi b)) (.int .u64 (lo b)) (n := w.heap.size + 1) (by simp))
  have b1 := allc (o := .cells #[.int .u64 0, .int .u64 0] 24) (new1 (w.alloc (.cells #[.int .u64 (hi a), .int .u64 (lo a)] 24)) (.int .u64 (hi b)) (.int .u64 (lo b)) (n := w.heap.size + 1) (by simp))
  have r0 := new0 ((w.alloc (.cells #[.int .u64 (hi a), .int .u64 (lo a)] 24)).alloc (.cells #[.int .u64 (hi b), .int .u64 (lo b)] 24)) (.int .u64 0) (.int .u64 0) (n := w.heap.size + 1 + 1) (by simp)
  have r1 := new1 ((w.alloc (.cells #[.int .u64 (hi a), .int .u64 (lo a)] 24)).alloc (.cells #[.int .u64 (hi b), .int .u64 (lo b)] 24)) (.int .u64 0) (.int .u64 0) (n := w.heap.size + 1 + 1) (by simp)
  have q0 := newf ((w.alloc (.cells #[.int .u64 (hi a), .int .u64 (lo a)] 24)).alloc (.cells #[.int .u64 (hi b), .int .u64 (lo b)] 24)) (.int .u64 0) (.int .u64 0) 0 (n := w.heap.size + 1 + 1) (by simp)
  have q1 := newf ((w.alloc (.cells #[.int .u64 (hi a), .int .u64 (lo a)] 24)).alloc (.cells #[.int .u64 (hi b), .int .u64 (lo b)] 24)) (.int .u64 0) (.int .u64 0) 1 (n := w.heap.size + 1 + 1) (by simp)
  have HB0 := (((Below.refl w.heap.size w).alloc (Nat.le_refl _) (.cells #[.int .u64 (hi a), .int .u64 (lo a)] 24)).alloc (by simp) (.cells #[.int .u64 (hi b), .int .u64 (lo b)] 24)).alloc (by simp; omega) (.cells #[.int .u64 0, .int .u64 0] 24)
  have HZ0 : (((w.alloc (.cells #[.int .u64 (hi a), .int .u64 (lo a)] 24)).alloc (.cells #[.int .u64 (hi b), .int .u64 (lo b)] 24)).alloc (.cells #[.int .u64 0, .int .u64 0] 24)).heap.size = w.heap.size + 3 := by simp
  go_enter Tryd.func13, Tryd.ntmps13
  go_upto_region 1 with fail
  generalize ((w.alloc (.cells #[.int .u64 (hi a), .int .u64 (lo a)] 24)).alloc (.cells #[.int .u64 (hi b), .int .u64 (lo b)] 24)).alloc (.cells #[.int .u64 0, .int .u64 0] 24) = X at *
  have hzX : w.heap.size + 1 + 1 < X.heap.size := by omega
  clear HZ0
  go_wp2_with (go_at_call 15; refine (rcmp_lt a b _ LA.out LB.out LH.out).mono ?_; rintro e w1 ⟨rfl, hb1⟩; replace q0 := keepf hb1 r0 q0; replace q1 := keepf hb1 r1 q1; replace r0 := keepc hb1 r0; replace r1 := keepc hb1 r1)
  have s0 := set20 (x := .int .u64 0) (y := .int .u64 0) r0
  have s1 := set21 (x := .int .u64 0) (y := .int .u64 0) r1
  refine bodyPost_ret (v := .tuple #[.agg #[.int .u64 0, .int .u64 0], .bool false]) (by simp [results, Tryd.results13, go_sem, s0, s1]) rfl ⟨rfl, ?_⟩
  exact ((HB0.trans (hb1.mono (by omega))).setCell (p := ⟨w.heap.size + 1 + 1, 0, none⟩) (by dsimp only; omega) _).setCell (p := ⟨w.heap.size + 1 + 1, 1, none⟩) (by dsimp only; omega) _

set_option maxRecDepth 100000 in
set_option maxHeartbeats 2000000 in
/-- the reference's Sub, where there is something to tell. -/
theorem rsub_yes (a b : Nat) (w : World) (ha : a < B128) (hb : b < B128) (h : b ≤ a) :
    Calls Tryd.prog 13 #[.agg #[.int .u64 (hi a), .int .u64 (lo a)], .agg #[.int .u64 (hi b), .int .u64 (lo b)]] w fun e w' => e = .returned (.tuple #[.agg #[.int .u64 (hi (addR (a - b) 0)), .int .u64 (lo (addR (a - b) 0))], .bool (addK (a - b) 0)]) ∧ Below w.heap.size w w' := by
  obtain ⟨i0, hi0, hz0, hz1, hz2⟩ := info_parts Tryd.info3
  have LA := Lib.hid ha
  have LB := Lib.hid hb
  have LH := Lib.hid h
  clear ha hb h
  have a0 := allc (o := .cells #[.int .u64 0, .int .u64 0] 24) (allc (o := .cells #[.int .u64 (hi b), .int .u64 (lo b)] 24) (new0 w (.int .u64 (hi a)) (.int .u64 (lo a)) rfl))
  have a1 := allc (o := .cells #[.int .u64 0, .int .u64 0] 24) (allc (o := .cells #[.int .u64 (hi b), .int .u64 (lo b)] 24) (new1 w (.int .u64 (hi a)) (.int .u64 (lo a)) rfl))
  have b0 := allc (o := .cells #[.int .u64 0, .int .u64 0] 24) (new0 (w.alloc (.cells #[.int .u64 (hi a), .int .u64 (lo a)] 24)) (.int .u64 (hi b)) (.int .u64 (lo b)) (n := w.heap.size + 1) (by simp))
  have b1 := allc (o := .cells #[.int .u64 0, .int .u64 0] 24) (new1 (w.alloc (.cells #[.int .u64 (hi a), .int .u64 (lo a)] 24)) (.int .u64 (hi b)) (.int .u64 (lo b)) (n := w.heap.size + 1) (by simp))
  have r0 := new0 ((w.alloc (.cells #[.int .u64 (hi a), .int .u64 (lo a)] 24)).alloc (.cells #[.int .u64 (hi b), .int .u64 (lo b)] 24)) (.int .u64 0) (.int .u64 0) (n := w.heap.size + 1 + 1) (by simp)
  have r1 := new1 ((w.alloc (.cells #[.int .u64 (hi a), .int .u64 (lo a)] 24)).alloc (.cells #[.int .u64 (hi b), .int .u64 (lo b)] 24)) (.int .u64 0) (.int .u64 0) (n := w.heap.size + 1 + 1) (by simp)
  have q0 := newf ((w.alloc (.cells #[.int .u64 (hi a), .int .u64 (lo a)] 24)).alloc (.cells #[.int .u64 (hi b), .int .u64 (lo b)] 24)) (.int .u64 0) (.int .u64 0) 0 (n := w.heap.size + 1 + 1) (by simp)
  have q1 := newf ((w.alloc (.cells #[.int .u64 (hi a), .int .u64 (lo a)] 24)).alloc (.cells #[.int .u64 (hi b), .int .u64 (lo b)] 24)) (.int .u64 0) (.int .u64 0) 1 (n := w.heap.size + 1 + 1) (by simp)
  have HB0 := (((Below.refl w.heap.size w).alloc (Nat.le_refl _) (.cells #[.int .u64 (hi a), .int .u64 (lo a)] 24)).alloc (by simp) (.cells #[.int .u64 (hi b), .int .u64 (lo b)] 24)).alloc (by simp; omega) (.cells #[.int .u64 0, .int .u64 0] 24)
  have HZ0 : (((w.alloc (.cells #[.int .u64 (hi a), .int .u64 (lo a)] 24)).alloc (.cells #[.int .u64 (hi b), .int .u64 (lo b)] 24)).alloc (.cells #[.int .u64 0, .int .u64 0] 24)).heap.size = w.heap.size + 3 := by simp
  go_enter Tryd.func13, Tryd.ntmps13
  go_upto_region 1 with fail
  generalize ((w.alloc (.cells #[.int .u64 (hi a), .int .u64 (lo a)] 24)).alloc (.cells #[.int .u64 (hi b), .int .u64 (lo b)] 24)).alloc (.cells #[.int .u64 0, .int .u64 0] 24) = X at *
  have hzX : w.heap.size + 1 + 1 < X.heap.size := by omega
  clear HZ0
  go_upto_region 3 with (go_at_call 15; refine (rcmp_ge a b _ LA.out LB.out LH.out).mono ?_; rintro e w1 ⟨c, hc0, hc1, rfl, hb1⟩; replace q0 := keepf hb1 r0 q0; replace q1 := keepf hb1 r1 q1; replace r0 := keepc hb1 r0; replace r1 := keepc hb1 r1; replace a0 := keepc hb1 a0; replace a1 := keepc hb1 a1; replace b0 := keepc hb1 b0; replace b1 := keepc hb1 b1)
  replace HB0 := HB0.trans (hb1.mono (by omega))
  replace hzX := Nat.lt_of_lt_of_le hzX hb1.size
  clear hb1
  go_cut [6, 7] (fun s6 s7 wx => ∃ ga gb ca cb : Nat, s6 = .slice (some ⟨ga, 0, none⟩) 128 ca ∧ s7 = .slice (some ⟨gb, 0, none⟩) 128 cb ∧ w1.heap.size < ga ∧ ga < gb ∧ gb < wx.heap.size ∧ Hid (wx.ownsRow w.heap.size 3 1 (.slice (some ⟨ga, 0, none⟩) 128 ca) 128 (bitsL a 128)) ∧ Hid (wx.ownsRow w.heap.size 3 1 (.slice (some ⟨gb, 0, none⟩) 128 cb) 128 (bitsL b 128)) ∧ Below w1.heap.size w1 wx)
  case first =>
    go_region_held3 (fun w' => w'.cell? ⟨w.heap.size, 0, none⟩ = some (.int .u64 (hi a)) ∧ w'.cell? ⟨w.heap.size, 1, none⟩ = some (.int .u64 (lo a)) ∧ w'.cell? ⟨w.heap.size + 1, 0, none⟩ = some (.int .u64 (hi b)) ∧ w'.cell? ⟨w.heap.size + 1, 1, none⟩ = some (.int .u64 (lo b))) (first | exact ⟨a0, a1, b0, b1⟩ | exact ⟨k1, k2, k3, k4⟩ | exact ⟨l1, l2, l3, l4⟩)
      (first
        | (go_at_call 31; ((with_reducible refine (bits_at a _ LA.out).mono ?_); rintro e w2 ⟨ga, ca, rfl, ha1, ha2, _, ha3, hb2⟩; have k1 := keepc hb2 (p := ⟨w.heap.size, 0, none⟩) (by exact a0); have k2 := keepc hb2 (p := ⟨w.heap.size, 1, none⟩) (by exact a1); have k3 := keepc hb2 (p := ⟨w.heap.size + 1, 0, none⟩) (by exact b0); have k4 := keepc hb2 (p := ⟨w.heap.size + 1, 1, none⟩) (by exact b1); have HA3 := Lib.hid ha3; clear ha3))
        | (go_at_call 31; ((with_reducible refine (bits_at b _ LB.out).mono ?_); rintro e w3 ⟨gb, cb, rfl, hb1', hb2', _, hb3', hb3⟩; have l1 := keepc hb3 k1; have l2 := keepc hb3 k2; have l3 := keepc hb3 k3; have l4 := keepc hb3 k4; have HB3 := Lib.hid hb3'; clear hb3')))
    all_goals (go_wp2_with fail; go_meet)
    all_goals exact ⟨ga, gb, ca, cb, rfl, rfl, ha1, by omega, hb2', Lib.hid (own_mono (own_below HA3.out hb3 ha2) (show w.heap.size ≤ w1.heap.size + 1 by omega)), Lib.hid (own_mono HB3.out (by have : w1.heap.size ≤ w2.heap.size := hb2.size; omega)), ((Below.refl _ _).drew.trans (show Below w1.heap.size w1.drew w2 from hb2)).trans (hb3.mono (show w1.heap.size ≤ w2.heap.size from hb2.size))⟩
  case rest =>
    obtain ⟨ga, gb, ca, cb, rfl, rfl, hga, hgab, hgb, HA, HB, hbx⟩ := hcut
    have hsz := hbx.size
    replace HB0 := HB0.trans (hbx.mono (by omega))
    replace q0 := keepf' hbx (by dsimp only; omega) q0
    replace q1 := keepf' hbx (by dsimp only; omega) q1
    replace r0 := keepc' hbx (by dsimp only; omega) r0
    replace r1 := keepc' hbx (by dsimp only; omega) r1
    clear a0 a1 b0 b1 hbx
    go_wp2_with (at_make; refine wpList_make_full _ rfl _ _ 52 rfl w.heap.size 3 i0 (.int .i64 0) 1 Tryd.underlying52 hi0 hz0 hz1 .i64 .i64 _ _ 128 rfl rfl rfl rfl (by rw [hz2]; decide) (by decide) (by omega) ?_; intro w0 hown0 hgrow0)
    have HS : Hid (SubSt w w0 ga gb wc.heap.size ca cb a b (a - b) 0) := Lib.hid (by
      refine ⟨HA.out.kept hgrow0 (.inr (by simp [Value.ownBlock])), HB.out.kept hgrow0 (.inr (by simp [Value.ownBlock])), by rw [outL_zero, ← made128]; exact hown0, hgrow0.cell r0 (by simp), hgrow0.cell r1 (by simp), ?_, ?_, by omega, by omega, by omega, by omega, by omega, HB0.grown hgrow0 (by omega) (fun k e => by cases e)⟩
      · exact (hgrow0.frozen_far ⟨w.heap.size + 1 + 1, 0, none⟩ (by dsimp only; omega) (by simp)).trans q0
      · exact (hgrow0.frozen_far ⟨w.heap.size + 1 + 1, 1, none⟩ (by dsimp only; omega) (by simp)).trans q1)
    clear hown0 hgrow0 HA HB HB0 q0 q1 r0 r1
    generalize wc.heap.size = gd at *
    go_loopw [9] (fun i wr => ∃ k X : Nat, k ≤ 128 ∧ i = .int .i64 k ∧ Hid (X / 2 ^ k = (a - b) / 2 ^ k + b / 2 ^ k) ∧ Hid (X / 2 ^ 128 = 0) ∧ Hid (SubSt w wr ga gb gd ca cb X b (a - b) k)) (fun i _ => 128 - (intOf i).toNat)
    case atStart => exact ⟨0, a, by omega, rfl, Lib.hid (by have := LH.out; simp; omega), Lib.hid (by rw [pow128, Nat.div_eq_of_lt LA.out]), HS⟩
    case round =>
      clear HS
      obtain ⟨k, X, hk, rfl, hE, hT, HS⟩ := hrel
      by_cases hlt : k < 128
      · have hlt' : (k : Int) < 128 := by omega
        have cA := HS.out.xc k hlt
        have cB := HS.out.yc k hlt
        obtain ⟨o0, cO⟩ := HS.out.oc k hlt
        have fO := HS.out.o.frozenAt k
        have hA1 := bit01 X k
        have hB1 := bit01 b k
        by_cases hle : bitN b k ≤ bitN X k
        · have hP := sub_plain X (a - b) b k hE.out hle
          have HP1 := Lib.hid hP.1
          have HP2 := Lib.hid hP.2
          clear hP
          obtain ⟨xb, hxb⟩ : ∃ xb : Nat, xb = bitN X k := ⟨_, rfl⟩
          obtain ⟨yb, hyb⟩ : ∃ yb : Nat, yb = bitN b k := ⟨_, rfl⟩
          rw [← hxb] at cA hA1 hle HP1
          rw [← hyb] at cB hB1 hle HP1
          clear hxb hyb
          have hx1 : xb ≤ 1 := by omega
          have hy1 : yb ≤ 1 := by omega
          clear hA1 hB1
          go_wp2_with fail
          go_quiet (fail)
          replace HS := Lib.hid (HS.out.drewN nq)
          replace cO : (wr.drewN nq).cell? ⟨gd, k, none⟩ = some o0 := cO
          replace fO : (wr.drewN nq).frozen? ⟨gd, k, none⟩ = false := fO
          clear cA cB
          generalize wr.drewN nq = wr at *
          go_wp2_with fail
          exact ⟨⟨k + 1, X, by omega, by go_num, HP2, hT, Lib.hid (HS.out.seto _ (by rw [bitV, ← HP1.out]; exact congrArg (Value.int .i64) (by omega)))⟩, by simp [intOf]; omega⟩
        · have hP := sub_borrow X (a - b) b k hE.out (by omega)
          have hx0 := hP.1
          have hy1 := hP.2.1
          have HD := Lib.hid hP.2.2.1
          have HX := Lib.hid hP.2.2.2
          clear hP hA1 hB1 hle
          rw [hx0] at cA
          rw [hy1] at cB
          clear hx0 hy1
          go_wp2_with fail
          go_quiet (fail)
          replace HS := Lib.hid (HS.out.drewN nq)
          clear cA cB cO fO
          generalize wr.drewN nq = wr at *
          go_wp2_with fail
          go_loopw [11] (fun i wr => ∃ m Y : Nat, m < 128 ∧ i = .int .i64 m ∧ Hid (Y + 2 ^ (k + 1) = X + 2 ^ m) ∧ Hid (1 ≤ Y / 2 ^ m) ∧ Hid (Y / 2 ^ 128 = 0) ∧ Hid (SubSt w wr ga gb gd ca cb Y b (a - b) k)) (fun i _ => 128 - (intOf i).toNat)
          case atStart => exact ⟨k + 1, X, lt_top X (k + 1) (by rw [HX.out]; exact Nat.le_add_left 1 _) hT.out, by go_num, Lib.hid rfl, Lib.hid (by rw [HX.out]; exact Nat.le_add_left 1 _), hT, HS⟩
          case round =>
            clear HS
            obtain ⟨m, Y, hm, rfl, hY, hY1, hYT, HS⟩ := hrel
            have hm' : (m : Int) < 128 := by omega
            have cA := HS.out.xc m hm
            have fA := HS.out.x.frozenAt m
            rcases bit01 Y m with hb0 | hb0
            · rw [hb0] at cA
              have HB0 := Lib.hid hb0
              clear hb0
              go_wp2_with fail
              have hv := up_div Y m (m + 1) HB0.out (by omega)
              have h1 : 1 ≤ (Y + 2 ^ m) / 2 ^ (m + 1) := by
                rw [hv]
                have d := div_succ Y m
                rw [HB0.out] at d
                have := hY1.out
                rw [d] at this
                exact two_le _ this
              have h2 : (Y + 2 ^ m) / 2 ^ 128 = 0 := by rw [up_div Y m 128 HB0.out hm]; exact hYT.out
              exact ⟨⟨m + 1, Y + 2 ^ m, lt_top _ _ h1 h2, by go_num, Lib.hid (step_pow X Y k m hY.out), Lib.hid h1, Lib.hid h2, Lib.hid (HS.out.setx m _ _ (row_up Y m 128 HB0.out))⟩, by simp [intOf]; omega⟩
            · rw [hb0] at cA
              obtain ⟨Z, hZ, hZ0, _⟩ := drop_bit Y m hb0
              have HZ := Lib.hid hZ
              have HZ0 := Lib.hid hZ0
              have HH := Lib.hid (sub_hold X Y Z k m hY.out hZ)
              clear hb0 hZ hZ0
              go_upto_region 16 with fail
              have HS2 := Lib.hid (HS.out.setx m (.int .i64 0) Z (by rw [HZ.out]; exact row_dn Z m 128 HZ0.out))
              clear cA fA HS
              generalize wr.setCell ⟨ga, m, none⟩ (.int .i64 0) = wr at *
              obtain ⟨o0, cO⟩ := HS2.out.oc k hlt
              have fO := HS2.out.o.frozenAt k
              go_wp2_with fail
              exact ⟨⟨k + 1, Z, by omega, by go_num, Lib.hid (drop_one HH.out HX.out), Lib.hid (div_less HZ.out hYT.out), Lib.hid (HS2.out.seto _ (by rw [bitV, HD.out]; rfl))⟩, by simp [intOf]; omega⟩
      · obtain rfl : k = 128 := by omega
        have z0 := HS.out.o.lt gd rfl
        have hgd : gd < wr.heap.size := z0.2
        clear z0
        have r0 := HS.out.r0
        have r1 := HS.out.r1
        have q0 := HS.out.q0
        have q1 := HS.out.q1
        go_wp2_with (go_at_call 29; refine (number_any (a - b) 128 gd 128 _ (by omega) (by rw [pow128]; exact Nat.lt_of_le_of_lt (Nat.sub_le a b) LA.out) hgd (by have h := HS.out.o; rw [outL_full] at h; exact bits_cells h)).mono ?_; rintro e w5 ⟨rfl, hb5⟩; replace q0 := keepf hb5 r0 q0; replace q1 := keepf hb5 r1 q1; replace r0 := keepc hb5 r0; replace r1 := keepc hb5 r1)
        have s0 := set20 (x := .int .u64 (hi (addR (a - b) 0))) (y := .int .u64 (lo (addR (a - b) 0))) r0
        have s1 := set21 (x := .int .u64 (hi (addR (a - b) 0))) (y := .int .u64 (lo (addR (a - b) 0))) r1
        have zb := HS.out.bl
        refine bodyPost_ret (v := .tuple #[.agg #[.int .u64 (hi (addR (a - b) 0)), .int .u64 (lo (addR (a - b) 0))], .bool (addK (a - b) 0)]) (by simp [results, Tryd.results13, go_sem, s0, s1]) rfl ⟨rfl, ?_⟩
        exact ((zb.trans (hb5.mono zb.size)).setCell (p := ⟨w.heap.size + 1 + 1, 0, none⟩) (by dsimp only; omega) _).setCell (p := ⟨w.heap.size + 1 + 1, 1, none⟩) (by dsimp only; omega) _

/-- Sub, as its callers take it. -/
theorem rsub_at (x1 x0 y1 y0 : Int) (a b : Nat) (e1 : x1 = hi a) (e2 : x0 = lo a) (e3 : y1 = hi b) (e4 : y0 = lo b) (w : World) (ha : a < B128) (hb : b < B128) :
    Calls Tryd.prog 13 #[.agg #[.int .u64 x1, .int .u64 x0], .agg #[.int .u64 y1, .int .u64 y0]] w fun e w' => e = .returned (.tuple #[.agg #[.int .u64 (hi (a - b)), .int .u64 (lo (a - b))], .bool (decide (b ≤ a))]) ∧ Below w.heap.size w w' := by
  subst e1 e2 e3 e4
  by_cases h : b ≤ a
  · refine (rsub_yes a b w ha hb h).mono ?_
    rintro e w' ⟨rfl, hw⟩
    have hl : a - b + 0 < B128 := by omega
    exact ⟨by rw [addR_yes hl, addK_yes hl, decide_eq_true h, Nat.add_zero], hw⟩
  · refine (rsub_no a b w ha hb (by omega)).mono ?_
    rintro e w' ⟨rfl, hw⟩
    exact ⟨by rw [show a - b = 0 by omega, hi_zero, lo_zero, decide_eq_false h], hw⟩
end Go.Proofs.YtdlijnkbpnhpoaaDoor
