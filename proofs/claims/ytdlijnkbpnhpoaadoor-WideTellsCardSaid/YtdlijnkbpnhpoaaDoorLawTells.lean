/-
  WideTells is proved: for every two wide numbers and every asked five things the law answers true and changes nothing that was there; condition: the three listed tables start as the program's text lays them (the card ties them to it).
-/
import Derived.Test.YtdlijnkbpnhpoaaDoorRefMul
import Derived.Test.YtdlijnkbpnhpoaaDoorTellsLift
namespace Go.Proofs.YtdlijnkbpnhpoaaDoor
open Go.RowKit
/-- a box of the five asked things. -/
def box26 (n m : Nat) (i j : Int) (s : ByteArray) : Obj := .cells #[.int .u64 (lo n), .int .u64 (lo m), .int .i64 i, .int .i64 j, .string s] 26
structure TSt (w wr : World) (a b n m : Nat) (i j : Int) (s : ByteArray) : Prop where
  a0 : wr.cell? ⟨w.heap.size, 0, none⟩ = some (.int .u64 (hi a))
  a1 : wr.cell? ⟨w.heap.size, 1, none⟩ = some (.int .u64 (lo a))
  b0 : wr.cell? ⟨w.heap.size + 1, 0, none⟩ = some (.int .u64 (hi b))
  b1 : wr.cell? ⟨w.heap.size + 1, 1, none⟩ = some (.int .u64 (lo b))
  x0 : wr.cell? ⟨w.heap.size + 1 + 1, 0, none⟩ = some (.int .u64 (lo n))
  x1 : wr.cell? ⟨w.heap.size + 1 + 1, 1, none⟩ = some (.int .u64 (lo m))
  x2 : wr.cell? ⟨w.heap.size + 1 + 1, 2, none⟩ = some (.int .i64 i)
  x3 : wr.cell? ⟨w.heap.size + 1 + 1, 3, none⟩ = some (.int .i64 j)
  x4 : wr.cell? ⟨w.heap.size + 1 + 1, 4, none⟩ = some (.string s)
  bl : Below w.heap.size w wr
theorem TSt.step {w wr wx : World} {a b n m : Nat} {i j : Int} {s : ByteArray} (h : TSt w wr a b n m i j s) (hb : Below wr.heap.size wr wx) : TSt w wx a b n m i j s :=
  ⟨keepc hb h.a0, keepc hb h.a1, keepc hb h.b0, keepc hb h.b1, keepc hb h.x0, keepc hb h.x1, keepc hb h.x2, keepc hb h.x3, keepc hb h.x4, h.bl.trans (hb.mono h.bl.size)⟩
theorem TSt.all {w wr : World} {a b n m : Nat} {i j : Int} {s : ByteArray} (h : TSt w wr a b n m i j s) (o : Obj) : TSt w (wr.alloc o) a b n m i j s := h.step ((Below.refl wr.heap.size wr).alloc (Nat.le_refl _) o)
theorem box_c (w : World) (n m : Nat) (i j : Int) (s : ByteArray) {k : Nat} (h : k = w.heap.size) : (w.alloc (box26 n m i j s)).cell? ⟨k, 0, none⟩ = some (.int .u64 (lo n)) ∧ (w.alloc (box26 n m i j s)).cell? ⟨k, 1, none⟩ = some (.int .u64 (lo m)) ∧ (w.alloc (box26 n m i j s)).cell? ⟨k, 2, none⟩ = some (.int .i64 i) ∧ (w.alloc (box26 n m i j s)).cell? ⟨k, 3, none⟩ = some (.int .i64 j) ∧ (w.alloc (box26 n m i j s)).cell? ⟨k, 4, none⟩ = some (.string s) := by
  subst h; unfold box26; simp
theorem TSt.start (w : World) (a b n m : Nat) (i j : Int) (s : ByteArray) : TSt w (((w.alloc (.cells #[.int .u64 (hi a), .int .u64 (lo a)] 24)).alloc (.cells #[.int .u64 (hi b), .int .u64 (lo b)] 24)).alloc (box26 n m i j s)) a b n m i j s := by
  obtain ⟨h0, h1, h2, h3, h4⟩ := box_c ((w.alloc (.cells #[.int .u64 (hi a), .int .u64 (lo a)] 24)).alloc (.cells #[.int .u64 (hi b), .int .u64 (lo b)] 24)) n m i j s (k := w.heap.size + 1 + 1) (by simp)
  exact ⟨allc (allc (new0 _ _ _ rfl)), allc (allc (new1 _ _ _ rfl)), allc (new0 _ _ _ (by simp)), allc (new1 _ _ _ (by simp)), h0, h1, h2, h3, h4, (((Below.refl _ _).alloc (Nat.le_refl _) _).alloc (by simp) _).alloc (by simp; omega) _⟩
theorem wsub_at (a b : Nat) (w : World) (ha : a < B128) (hb : b < B128) :
    Calls Tryd.prog 12 #[.agg #[.int .u64 (hi a), .int .u64 (lo a)], .agg #[.int .u64 (hi b), .int .u64 (lo b)]] w fun e w' => e = .returned (.tuple #[.agg #[.int .u64 (hi (a - b)), .int .u64 (lo (a - b))], .bool (decide (b ≤ a))]) ∧ Below w.heap.size w w' := by
  by_cases h : b ≤ a
  · exact (sub_yes a b w ha h).mono fun _ _ ⟨he, hw⟩ => ⟨by rw [he, decide_eq_true h], hw⟩
  · exact (sub_no a b w hb (by omega)).mono fun _ _ ⟨he, hw⟩ => ⟨by rw [he, show a - b = 0 by omega, hi_zero, lo_zero, decide_eq_false h], hw⟩
theorem both_diff (i j : Int) (hi0 : -9223372036854775808 ≤ i) (hi1 : i < 9223372036854775808) (hj0 : -9223372036854775808 ≤ j) (hj1 : j < 9223372036854775808) : ∃ dv : Int, (∀ W, Calls Tryd.prog 21 #[.int .i64 i, .int .i64 j] W fun e w' => e = .returned (.int .u64 dv) ∧ Below W.heap.size W w') ∧ (∀ W, Calls Tryd.prog 22 #[.int .i64 i, .int .i64 j] W fun e w' => e = .returned (.int .u64 dv) ∧ Below W.heap.size W w') := by
  by_cases h : i < j
  · exact ⟨j - i, fun W => (diff_yes i j W h hi0 hj1).mono fun _ _ ⟨he, hw⟩ => ⟨he, hw ▸ Below.refl _ _⟩, fun W => rdiff_yes i j W hi0 hi1 hj0 hj1 h⟩
  · exact ⟨0, fun W => (diff_no i j W (by omega)).mono fun _ _ ⟨he, hw⟩ => ⟨he, hw ▸ Below.refl _ _⟩, fun W => rdiff_no i j W hi0 hi1 hj0 hj1 (by omega)⟩
theorem both_text (a : Nat) (ha : a < B128) : ∃ tx : ByteArray, (∀ W, Lib.TabIs Tryd.prog W "internal/strconv.uint64pow10" .u64 Lib.pow10Tab → Calls Tryd.prog 23 #[.agg #[.int .u64 (hi a), .int .u64 (lo a)]] W fun e w' => e = .returned (.string tx) ∧ Below W.heap.size W w') ∧ (∀ W, Calls Tryd.prog 24 #[.agg #[.int .u64 (hi a), .int .u64 (lo a)]] W fun e w' => e = .returned (.string tx) ∧ Below W.heap.size W w') := by
  refine ⟨⟨(Lib.decDigits a).toArray⟩, fun W h => text_to a _ W ha (by simp) h, fun W => (rtext_any a W ha).mono ?_⟩
  rintro e w' ⟨s, rfl, hs, hw⟩
  exact ⟨by rw [ba_eq s _ hs.symm], hw⟩
theorem both_mul (n m : Nat) (hn : n < B64) (hm : m < B64) : ∃ mu : Nat, (∀ W, Calls Tryd.prog 19 #[.int .u64 (lo n), .int .u64 (lo m)] W fun e w' => e = .returned (.agg #[.int .u64 (hi mu), .int .u64 (lo mu)]) ∧ Below W.heap.size W w') ∧ (∀ W, Calls Tryd.prog 20 #[.int .u64 (lo n), .int .u64 (lo m)] W fun e w' => e = .returned (.agg #[.int .u64 (hi mu), .int .u64 (lo mu)]) ∧ Below W.heap.size W w') := by
  refine ⟨n * m, fun W => ?_, fun W => rmul_any n m W hn hm⟩
  rw [small_lo n hn, small_lo m hm]
  exact mul_any n m W hn hm
/-- a wide number in a box of its own, and all below. -/
theorem newbox {w w1 : World} {x : Nat} (h : Below w.heap.size w w1) : Below w.heap.size w (w1.alloc (.cells #[.int .u64 (hi x), .int .u64 (lo x)] 24)) := h.alloc h.size _

set_option maxRecDepth 100000 in
set_option maxHeartbeats 2000000 in
theorem tells_walk (a b n m : Nat) (i j : Int) (s : ByteArray) (w : World) (ha : a < B128) (hb : b < B128) (hn : n < B64) (hm : m < B64) (hi0 : -9223372036854775808 ≤ i) (hi1 : i < 9223372036854775808) (hj0 : -9223372036854775808 ≤ j) (hj1 : j < 9223372036854775808)
    (htab : Lib.TabIs Tryd.prog w "internal/strconv.uint64pow10" .u64 Lib.pow10Tab) :
    Calls Tryd.prog 3 #[.agg #[.int .u64 (hi a), .int .u64 (lo a)], .agg #[.int .u64 (hi b), .int .u64 (lo b)], .agg #[.int .u64 (lo n), .int .u64 (lo m), .int .i64 i, .int .i64 j, .string s]] w fun e w' => e = .returned (.bool true) ∧ Below w.heap.size w w' := by
  have HT := Lib.hid htab
  have LA := Lib.hid ha
  have LB := Lib.hid hb
  have LN := Lib.hid hn
  have LM := Lib.hid hm
  clear htab ha hb hn hm
  have HS := Lib.hid (TSt.start w a b n m i j s)
  unfold box26 at HS
  go_enter Tryd.func3, Tryd.ntmps3
  go_upto_region 1 with fail
  generalize ((w.alloc (.cells #[.int .u64 (hi a), .int .u64 (lo a)] 24)).alloc (.cells #[.int .u64 (hi b), .int .u64 (lo b)] 24)).alloc (.cells #[.int .u64 (lo n), .int .u64 (lo m), .int .i64 i, .int .i64 j, .string s] 26) = X at *
  have x4 := HS.out.x4
  by_cases h60 : 60 < s.size
  · have h60' : (60 : Int) < (s.size : Int) := by omega
    go_wp2_with fail
    refine (awake_any _ (tab_below HT.out HS.out.bl)).mono ?_
    rintro e w6 ⟨rfl, hb6⟩
    go_wp2
    go_ret
    exact ⟨rfl, HS.out.bl.trans (hb6.mono HS.out.bl.size)⟩
  · have h60' : (s.size : Int) ≤ 60 := by omega
    go_upto_region 3 with fail
    clear x4
    have a0 := HS.out.a0
    have a1 := HS.out.a1
    have b0 := HS.out.b0
    have b1 := HS.out.b1
    go_upto_region 4 with (go_at_call 10; refine (add_gen a b _).mono ?_; rintro e w1 ⟨rfl, hb1⟩)
    have p0 := new0 w1 (.int .u64 (hi (addR a b))) (.int .u64 (lo (addR a b))) rfl
    have p1 := new1 w1 (.int .u64 (hi (addR a b))) (.int .u64 (lo (addR a b))) rfl
    replace HS := Lib.hid (HS.out.step (newbox (x := addR a b) hb1))
    clear hb1 a0 a1 b0 b1
    generalize w1.alloc (.cells #[.int .u64 (hi (addR a b)), .int .u64 (lo (addR a b))] 24) = X1 at *
    generalize w1.heap.size = gp at *
    have a0 := HS.out.a0
    have a1 := HS.out.a1
    have b0 := HS.out.b0
    have b1 := HS.out.b1
    go_upto_region 5 with (go_at_call 11; refine (radd_any a b _ LA.out LB.out).mono ?_; rintro e w2 ⟨rfl, hb2⟩)
    have q0 := new0 w2 (.int .u64 (hi (addR a b))) (.int .u64 (lo (addR a b))) rfl
    have q1 := new1 w2 (.int .u64 (hi (addR a b))) (.int .u64 (lo (addR a b))) rfl
    replace p0 := keepc (newbox (x := addR a b) hb2) p0
    replace p1 := keepc (newbox (x := addR a b) hb2) p1
    replace HS := Lib.hid (HS.out.step (newbox (x := addR a b) hb2))
    clear hb2 a0 a1 b0 b1
    generalize w2.alloc (.cells #[.int .u64 (hi (addR a b)), .int .u64 (lo (addR a b))] 24) = X2 at *
    generalize w2.heap.size = gq at *
    generalize addR a b = ab at *
    generalize addK a b = kk at *
    have a0 := HS.out.a0
    have a1 := HS.out.a1
    have b0 := HS.out.b0
    have b1 := HS.out.b1
    go_upto_region 6 with (go_at_call 12; refine (wsub_at a b _ LA.out LB.out).mono ?_; rintro e w3 ⟨rfl, hb3⟩)
    have r0 := new0 w3 (.int .u64 (hi (a - b))) (.int .u64 (lo (a - b))) rfl
    have r1 := new1 w3 (.int .u64 (hi (a - b))) (.int .u64 (lo (a - b))) rfl
    replace p0 := keepc (newbox (x := a - b) hb3) p0
    replace p1 := keepc (newbox (x := a - b) hb3) p1
    replace q0 := keepc (newbox (x := a - b) hb3) q0
    replace q1 := keepc (newbox (x := a - b) hb3) q1
    replace HS := Lib.hid (HS.out.step (newbox (x := a - b) hb3))
    clear hb3 a0 a1 b0 b1
    generalize w3.alloc (.cells #[.int .u64 (hi (a - b)), .int .u64 (lo (a - b))] 24) = X3 at *
    generalize w3.heap.size = gr at *
    have a0 := HS.out.a0
    have a1 := HS.out.a1
    have b0 := HS.out.b0
    have b1 := HS.out.b1
    go_upto_region 7 with (go_at_call 13; refine (rsub_at _ _ _ _ a b rfl rfl rfl rfl _ LA.out LB.out).mono ?_; rintro e w4 ⟨rfl, hb4⟩)
    have s0 := new0 w4 (.int .u64 (hi (a - b))) (.int .u64 (lo (a - b))) rfl
    have s1 := new1 w4 (.int .u64 (hi (a - b))) (.int .u64 (lo (a - b))) rfl
    replace p0 := keepc (newbox (x := a - b) hb4) p0
    replace p1 := keepc (newbox (x := a - b) hb4) p1
    replace q0 := keepc (newbox (x := a - b) hb4) q0
    replace q1 := keepc (newbox (x := a - b) hb4) q1
    replace r0 := keepc (newbox (x := a - b) hb4) r0
    replace r1 := keepc (newbox (x := a - b) hb4) r1
    replace HS := Lib.hid (HS.out.step (newbox (x := a - b) hb4))
    clear hb4 a0 a1 b0 b1
    generalize w4.alloc (.cells #[.int .u64 (hi (a - b)), .int .u64 (lo (a - b))] 24) = X4 at *
    generalize w4.heap.size = gs at *
    generalize a - b = ba at *
    generalize decide (b ≤ a) = kb at *
    have a0 := HS.out.a0
    have a1 := HS.out.a1
    have b0 := HS.out.b0
    have b1 := HS.out.b1
    have x0 := HS.out.x0
    go_cut [83] (fun s83 wx => s83 = .bool false ∧ Hid (TSt w wx a b n m i j s))
    case first =>
      go_region_held3 (fun w' => w'.cell? ⟨w.heap.size, 0, none⟩ = some (.int .u64 (hi a)) ∧ w'.cell? ⟨w.heap.size, 1, none⟩ = some (.int .u64 (lo a)) ∧ w'.cell? ⟨w.heap.size + 1, 0, none⟩ = some (.int .u64 (hi b)) ∧ w'.cell? ⟨w.heap.size + 1, 1, none⟩ = some (.int .u64 (lo b)) ∧ w'.cell? ⟨w.heap.size + 1 + 1, 0, none⟩ = some (.int .u64 (lo n)) ∧ w'.cell? ⟨gp, 0, none⟩ = some (.int .u64 (hi ab)) ∧ w'.cell? ⟨gp, 1, none⟩ = some (.int .u64 (lo ab)) ∧ w'.cell? ⟨gq, 0, none⟩ = some (.int .u64 (hi ab)) ∧ w'.cell? ⟨gq, 1, none⟩ = some (.int .u64 (lo ab)) ∧ w'.cell? ⟨gr, 0, none⟩ = some (.int .u64 (hi ba)) ∧ w'.cell? ⟨gr, 1, none⟩ = some (.int .u64 (lo ba)) ∧ w'.cell? ⟨gs, 0, none⟩ = some (.int .u64 (hi ba)) ∧ w'.cell? ⟨gs, 1, none⟩ = some (.int .u64 (lo ba))) (first | exact ⟨a0, a1, b0, b1, x0, p0, p1, q0, q1, r0, r1, s0, s1⟩ | exact ⟨k0, k1, k2, k3, k4, k5, k6, k7, k8, k9, k10, k11, k12⟩ | exact ⟨l0, l1, l2, l3, l4, l5, l6, l7, l8, l9, l10, l11, l12⟩ | exact ⟨m0, m1, m2, m3, m4, m5, m6, m7, m8, m9, m10, m11, m12⟩)
        (first
          | (go_at_call 14; refine (cmp_any a b _).mono ?_; rintro e w5 ⟨rfl, hb5⟩; have k0 := keepc hb5 (p := ⟨w.heap.size, 0, none⟩) (by exact a0); have k1 := keepc hb5 (p := ⟨w.heap.size, 1, none⟩) (by exact a1); have k2 := keepc hb5 (p := ⟨w.heap.size + 1, 0, none⟩) (by exact b0); have k3 := keepc hb5 (p := ⟨w.heap.size + 1, 1, none⟩) (by exact b1); have k4 := keepc hb5 (p := ⟨w.heap.size + 1 + 1, 0, none⟩) (by exact x0); have k5 := keepc hb5 (p := ⟨gp, 0, none⟩) (by exact p0); have k6 := keepc hb5 (p := ⟨gp, 1, none⟩) (by exact p1); have k7 := keepc hb5 (p := ⟨gq, 0, none⟩) (by exact q0); have k8 := keepc hb5 (p := ⟨gq, 1, none⟩) (by exact q1); have k9 := keepc hb5 (p := ⟨gr, 0, none⟩) (by exact r0); have k10 := keepc hb5 (p := ⟨gr, 1, none⟩) (by exact r1); have k11 := keepc hb5 (p := ⟨gs, 0, none⟩) (by exact s0); have k12 := keepc hb5 (p := ⟨gs, 1, none⟩) (by exact s1))
          | (go_at_call 15; refine (rcmp_any a b _ LA.out LB.out).mono ?_; rintro e w6 ⟨rfl, hb6⟩; have l0 := keepc hb6 k0; have l1 := keepc hb6 k1; have l2 := keepc hb6 k2; have l3 := keepc hb6 k3; have l4 := keepc hb6 k4; have l5 := keepc hb6 k5; have l6 := keepc hb6 k6; have l7 := keepc hb6 k7; have l8 := keepc hb6 k8; have l9 := keepc hb6 k9; have l10 := keepc hb6 k10; have l11 := keepc hb6 k11; have l12 := keepc hb6 k12)
          | (go_at_call 16; refine (of_any (lo n) _).mono ?_; rintro e w7 ⟨rfl, hb7⟩; have m0 := keepc hb7 l0; have m1 := keepc hb7 l1; have m2 := keepc hb7 l2; have m3 := keepc hb7 l3; have m4 := keepc hb7 l4; have m5 := keepc hb7 l5; have m6 := keepc hb7 l6; have m7 := keepc hb7 l7; have m8 := keepc hb7 l8; have m9 := keepc hb7 l9; have m10 := keepc hb7 l10; have m11 := keepc hb7 l11; have m12 := keepc hb7 l12))
      all_goals (go_wp2_with fail; go_meet)
      all_goals exact ⟨rfl, Lib.hid (((HS.out.step ((Below.refl _ _).drew.trans (show Below X4.heap.size X4.drew w5 from hb5))).step hb6).step hb7)⟩
    case rest =>
      obtain ⟨rfl, HS'⟩ := hcut
      clear HS a0 a1 b0 b1 x0 p0 p1 q0 q1 r0 r1 s0 s1
      have x4 := HS'.out.x4
      go_upto_region 10 with (go_at_call 17; refine (parse_any s _ (by omega)).mono ?_; rintro e w8 ⟨rfl, hb8⟩)
      have u0' := new0 w8 (.int .u64 (hi (parR s.data.toList))) (.int .u64 (lo (parR s.data.toList))) rfl
      have u1' := new1 w8 (.int .u64 (hi (parR s.data.toList))) (.int .u64 (lo (parR s.data.toList))) rfl
      replace HS' := Lib.hid (HS'.out.step (newbox (x := parR s.data.toList) hb8))
      clear hb8 x4
      generalize w8.alloc (.cells #[.int .u64 (hi (parR s.data.toList)), .int .u64 (lo (parR s.data.toList))] 24) = X5 at *
      generalize w8.heap.size = gu at *
      have x4 := HS'.out.x4
      go_upto_region 11 with (go_at_call 18; refine (rparse_any s _ (by omega)).mono ?_; rintro e w9 ⟨rfl, hb9⟩)
      have v0' := new0 w9 (.int .u64 (hi (parR s.data.toList))) (.int .u64 (lo (parR s.data.toList))) rfl
      have v1' := new1 w9 (.int .u64 (hi (parR s.data.toList))) (.int .u64 (lo (parR s.data.toList))) rfl
      replace u0' := keepc (newbox (x := parR s.data.toList) hb9) u0'
      replace u1' := keepc (newbox (x := parR s.data.toList) hb9) u1'
      replace HS' := Lib.hid (HS'.out.step (newbox (x := parR s.data.toList) hb9))
      clear hb9 x4
      generalize w9.alloc (.cells #[.int .u64 (hi (parR s.data.toList)), .int .u64 (lo (parR s.data.toList))] 24) = X6 at *
      generalize w9.heap.size = gv at *
      generalize parR s.data.toList = pr at *
      generalize parE s.data.toList = pe at *
      obtain ⟨dv, hD1, hD2⟩ := both_diff i j hi0 hi1 hj0 hj1
      obtain ⟨tx, hT1, hT2⟩ := both_text a LA.out
      obtain ⟨mu, hM1, hM2⟩ := both_mul n m LN.out LM.out
      have D1 := Lib.hid hD1
      have D2 := Lib.hid hD2
      have T1 := Lib.hid hT1
      have T2 := Lib.hid hT2
      have M1 := Lib.hid hM1
      have M2 := Lib.hid hM2
      clear hD1 hD2 hT1 hT2 hM1 hM2
      have a0 := HS'.out.a0
      have a1 := HS'.out.a1
      have x0 := HS'.out.x0
      have x1 := HS'.out.x1
      have x2 := HS'.out.x2
      have x3 := HS'.out.x3
      go_region_held3 (fun w' => w'.cell? ⟨w.heap.size, 0, none⟩ = some (.int .u64 (hi a)) ∧ w'.cell? ⟨w.heap.size, 1, none⟩ = some (.int .u64 (lo a)) ∧ w'.cell? ⟨w.heap.size + 1 + 1, 0, none⟩ = some (.int .u64 (lo n)) ∧ w'.cell? ⟨w.heap.size + 1 + 1, 1, none⟩ = some (.int .u64 (lo m)) ∧ w'.cell? ⟨w.heap.size + 1 + 1, 2, none⟩ = some (.int .i64 i) ∧ w'.cell? ⟨w.heap.size + 1 + 1, 3, none⟩ = some (.int .i64 j) ∧ w'.cell? ⟨gu, 0, none⟩ = some (.int .u64 (hi pr)) ∧ w'.cell? ⟨gu, 1, none⟩ = some (.int .u64 (lo pr)) ∧ w'.cell? ⟨gv, 0, none⟩ = some (.int .u64 (hi pr)) ∧ w'.cell? ⟨gv, 1, none⟩ = some (.int .u64 (lo pr))) (first | exact ⟨a0, a1, x0, x1, x2, x3, u0', u1', v0', v1'⟩ | exact ⟨cc0, cc1, cc2, cc3, cc4, cc5, cc6, cc7, cc8, cc9⟩ | exact ⟨dd0, dd1, dd2, dd3, dd4, dd5, dd6, dd7, dd8, dd9⟩ | exact ⟨ee0, ee1, ee2, ee3, ee4, ee5, ee6, ee7, ee8, ee9⟩ | exact ⟨ff0, ff1, ff2, ff3, ff4, ff5, ff6, ff7, ff8, ff9⟩ | exact ⟨gg0, gg1, gg2, gg3, gg4, gg5, gg6, gg7, gg8, gg9⟩ | exact ⟨hh0, hh1, hh2, hh3, hh4, hh5, hh6, hh7, hh8, hh9⟩ | exact ⟨kk0, kk1, kk2, kk3, kk4, kk5, kk6, kk7, kk8, kk9⟩)
        (first
          | (go_at_call 19; refine (M1.out _).mono ?_; rintro e y0 ⟨rfl, hy0⟩; have HSa := Lib.hid (HS'.out.step ((Below.refl _ _).drew.trans (show Below X6.heap.size X6.drew y0 from hy0))); have cc0 := keepc hy0 (p := ⟨w.heap.size, 0, none⟩) (by exact a0); have cc1 := keepc hy0 (p := ⟨w.heap.size, 1, none⟩) (by exact a1); have cc2 := keepc hy0 (p := ⟨w.heap.size + 1 + 1, 0, none⟩) (by exact x0); have cc3 := keepc hy0 (p := ⟨w.heap.size + 1 + 1, 1, none⟩) (by exact x1); have cc4 := keepc hy0 (p := ⟨w.heap.size + 1 + 1, 2, none⟩) (by exact x2); have cc5 := keepc hy0 (p := ⟨w.heap.size + 1 + 1, 3, none⟩) (by exact x3); have cc6 := keepc hy0 (p := ⟨gu, 0, none⟩) (by exact u0'); have cc7 := keepc hy0 (p := ⟨gu, 1, none⟩) (by exact u1'); have cc8 := keepc hy0 (p := ⟨gv, 0, none⟩) (by exact v0'); have cc9 := keepc hy0 (p := ⟨gv, 1, none⟩) (by exact v1'))
          | (go_at_call 20; refine (M2.out _).mono ?_; rintro e y1 ⟨rfl, hy1⟩; have HSb := Lib.hid (HSa.out.step hy1); have dd0 := keepc hy1 cc0; have dd1 := keepc hy1 cc1; have dd2 := keepc hy1 cc2; have dd3 := keepc hy1 cc3; have dd4 := keepc hy1 cc4; have dd5 := keepc hy1 cc5; have dd6 := keepc hy1 cc6; have dd7 := keepc hy1 cc7; have dd8 := keepc hy1 cc8; have dd9 := keepc hy1 cc9)
          | (go_at_call 21; refine (D1.out _).mono ?_; rintro e y2 ⟨rfl, hy2⟩; have HSc := Lib.hid (HSb.out.step hy2); have ee0 := keepc hy2 dd0; have ee1 := keepc hy2 dd1; have ee2 := keepc hy2 dd2; have ee3 := keepc hy2 dd3; have ee4 := keepc hy2 dd4; have ee5 := keepc hy2 dd5; have ee6 := keepc hy2 dd6; have ee7 := keepc hy2 dd7; have ee8 := keepc hy2 dd8; have ee9 := keepc hy2 dd9)
          | (go_at_call 22; refine (D2.out _).mono ?_; rintro e y3 ⟨rfl, hy3⟩; have HSd := Lib.hid (HSc.out.step hy3); have ff0 := keepc hy3 ee0; have ff1 := keepc hy3 ee1; have ff2 := keepc hy3 ee2; have ff3 := keepc hy3 ee3; have ff4 := keepc hy3 ee4; have ff5 := keepc hy3 ee5; have ff6 := keepc hy3 ee6; have ff7 := keepc hy3 ee7; have ff8 := keepc hy3 ee8; have ff9 := keepc hy3 ee9)
          | (go_at_call 23; refine (T1.out _ (tab_below HT.out HSd.out.bl)).mono ?_; rintro e y4 ⟨rfl, hy4⟩; have HSe := Lib.hid (HSd.out.step hy4); have gg0 := keepc hy4 ff0; have gg1 := keepc hy4 ff1; have gg2 := keepc hy4 ff2; have gg3 := keepc hy4 ff3; have gg4 := keepc hy4 ff4; have gg5 := keepc hy4 ff5; have gg6 := keepc hy4 ff6; have gg7 := keepc hy4 ff7; have gg8 := keepc hy4 ff8; have gg9 := keepc hy4 ff9)
          | (go_at_call 24; refine (T2.out _).mono ?_; rintro e y5 ⟨rfl, hy5⟩; have HSf := Lib.hid (HSe.out.step hy5); have hh0 := keepc hy5 gg0; have hh1 := keepc hy5 gg1; have hh2 := keepc hy5 gg2; have hh3 := keepc hy5 gg3; have hh4 := keepc hy5 gg4; have hh5 := keepc hy5 gg5; have hh6 := keepc hy5 gg6; have hh7 := keepc hy5 gg7; have hh8 := keepc hy5 gg8; have hh9 := keepc hy5 gg9)
          | (go_at_call 9; refine (awake_any _ (tab_below HT.out HSf.out.bl)).mono ?_; rintro e y6 ⟨rfl, hy6⟩; have HSg := Lib.hid (HSf.out.step hy6); have kk0 := keepc hy6 hh0; have kk1 := keepc hy6 hh1; have kk2 := keepc hy6 hh2; have kk3 := keepc hy6 hh3; have kk4 := keepc hy6 hh4; have kk5 := keepc hy6 hh5; have kk6 := keepc hy6 hh6; have kk7 := keepc hy6 hh7; have kk8 := keepc hy6 hh8; have kk9 := keepc hy6 hh9))
      all_goals (go_wp2_with fail; go_ret)
      all_goals exact ⟨rfl, HSg.out.bl⟩
theorem tells_card : Rows.WideTellsCardSaid := tells_card_of tells_walk
end Go.Proofs.YtdlijnkbpnhpoaaDoor
