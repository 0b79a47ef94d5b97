/-
  Rows of cells; what the document's Meet tells; that the statements' own examples hold (awake): for every world, no condition.
-/
import Derived.Test.YtpbghgmaikmneaaOrd
namespace Go.Proofs.Ytpbghgmaikmneaa
open Go.RowKit
/-- the block n holds these values, one behind the other -/
def Row (W : World) (n : Nat) (vs : List Value) : Prop := ∀ k v, vs[k]? = some v → W.cell? ⟨n, k, none⟩ = some v
theorem Row.keep {X w' : World} {n : Nat} {vs : List Value} (h : Row X n vs) (hb : Below X.heap.size X w') : Row w' n vs :=
  fun k v e => (hb.cell (World.block_lt_of_cell? X _ (h k v e))).trans (h k v e)
theorem Row.all {X : World} {n : Nat} {vs : List Value} (h : Row X n vs) (o : Obj) : Row (X.alloc o) n vs :=
  fun k v e => (World.cell?_alloc_lt _ _ _ (World.block_lt_of_cell? X _ (h k v e))).trans (h k v e)
theorem Row.drew {X : World} {n : Nat} {vs : List Value} (h : Row X n vs) : Row X.drew n vs := h
theorem Row.new (X : World) {n : Nat} (vs : List Value) (t : TypeId) (hn : n = X.heap.size) : Row (X.alloc (.cells vs.toArray t)) n vs := by
  subst hn
  intro k v e
  have := World.cell?_alloc_new (w := X) vs.toArray t k
  rw [this]
  simpa using e
theorem Bl {w X w' : World} (h : Hid (Below w.heap.size w X)) (hb : Below X.heap.size X w') : Hid (Below w.heap.size w w') :=
  Lib.hid (h.out.trans (hb.mono h.out.size))
theorem BlA {w X : World} (h : Hid (Below w.heap.size w X)) (o : Obj) : Hid (Below w.heap.size w (X.alloc o)) := Lib.hid (h.out.alloc h.out.size o)
theorem BlS {w X w' : World} (h : Hid (Below w.heap.size w X)) (e : w' = X) : Hid (Below w.heap.size w w') := e ▸ h

theorem meet_split (a b x y : Int) : meetD a b x y = (stabD a b x && stabD x y x || stabD a b a && stabD x y a) := by
  rw [Bool.eq_iff_iff]; simp [meetD, stabD]; omega

set_option maxRecDepth 100000 in
set_option maxHeartbeats 600000 in
theorem rmeet_any (a b i x y : Int) (w : World) :
    Calls Try.prog 20 #[.agg #[.int .i64 a, .int .i64 b, .int .u32 i], .int .i64 x, .int .i64 y] w fun e w' => e = .returned (.bool (meetD a b x y)) ∧ Below w.heap.size w w' := by
  rw [meet_split]
  go_enter Try.func20, Try.ntmps20
  go_wp2_with fail
  have R0 := (Row.new w [.int .i64 a, .int .i64 b, .int .u32 i] 26 rfl).all (.cells #[.int .i64 x, .int .i64 y, .int .u32 0] 26)
  have R1 := Row.new (w.alloc (.cells #[.int .i64 a, .int .i64 b, .int .u32 i] 26)) (n := w.heap.size + 1) [.int .i64 x, .int .i64 y, .int .u32 0] 26 (by simp)
  have HB := BlA (BlA (Lib.hid (Below.refl w.heap.size w)) (.cells #[.int .i64 a, .int .i64 b, .int .u32 i] 26)) (.cells #[.int .i64 x, .int .i64 y, .int .u32 0] 26)
  generalize (w.alloc (.cells #[.int .i64 a, .int .i64 b, .int .u32 i] 26)).alloc (.cells #[.int .i64 x, .int .i64 y, .int .u32 0] 26) = W at *
  refine (rstab_any a b i x _).mono ?_
  obtain ⟨p1, hp1⟩ : ∃ p, p = stabD a b x := ⟨_, rfl⟩
  rw [← hp1]
  have Hp1 := Lib.hid hp1
  clear hp1
  rintro e w1 ⟨rfl, hb⟩
  replace R0 := R0.keep hb
  replace R1 := R1.keep hb
  replace HB := Bl HB hb
  clear hb
  have R0c0 := R0 0 _ rfl
  have R0c1 := R0 1 _ rfl
  have R0c2 := R0 2 _ rfl
  have R1c0 := R1 0 _ rfl
  have R1c1 := R1 1 _ rfl
  have R1c2 := R1 2 _ rfl
  cases p1
  ·
    go_wp2_with fail
    clear R0c0 R0c1 R0c2 R1c0 R1c1 R1c2
    refine (rstab_any a b i a _).mono ?_
    obtain ⟨p3, hp3⟩ : ∃ p, p = stabD a b a := ⟨_, rfl⟩
    rw [← hp3]
    have Hp3 := Lib.hid hp3
    clear hp3
    rintro e w2 ⟨rfl, hb⟩
    replace R0 := R0.keep hb
    replace R1 := R1.keep hb
    replace HB := Bl HB hb
    clear hb
    have R0c0 := R0 0 _ rfl
    have R0c1 := R0 1 _ rfl
    have R0c2 := R0 2 _ rfl
    have R1c0 := R1 0 _ rfl
    have R1c1 := R1 1 _ rfl
    have R1c2 := R1 2 _ rfl
    cases p3
    ·
      go_wp2
      go_ret
      exact ⟨retb (by simp [← Hp1.out, ← Hp3.out]), HB.out⟩
    ·
      go_wp2_with fail
      clear R0c0 R0c1 R0c2 R1c0 R1c1 R1c2
      refine (rstab_any x y 0 a _).mono ?_
      obtain ⟨p4, hp4⟩ : ∃ p, p = stabD x y a := ⟨_, rfl⟩
      rw [← hp4]
      have Hp4 := Lib.hid hp4
      clear hp4
      rintro e w3 ⟨rfl, hb⟩
      replace R0 := R0.keep hb
      replace R1 := R1.keep hb
      replace HB := Bl HB hb
      clear hb
      have R0c0 := R0 0 _ rfl
      have R0c1 := R0 1 _ rfl
      have R0c2 := R0 2 _ rfl
      have R1c0 := R1 0 _ rfl
      have R1c1 := R1 1 _ rfl
      have R1c2 := R1 2 _ rfl
      go_wp2
      go_ret
      exact ⟨retb (by simp [← Hp1.out, ← Hp3.out, ← Hp4.out]), HB.out⟩
  ·
    go_wp2_with fail
    clear R0c0 R0c1 R0c2 R1c0 R1c1 R1c2
    refine (rstab_any x y 0 x _).mono ?_
    obtain ⟨p2, hp2⟩ : ∃ p, p = stabD x y x := ⟨_, rfl⟩
    rw [← hp2]
    have Hp2 := Lib.hid hp2
    clear hp2
    rintro e w4 ⟨rfl, hb⟩
    replace R0 := R0.keep hb
    replace R1 := R1.keep hb
    replace HB := Bl HB hb
    clear hb
    have R0c0 := R0 0 _ rfl
    have R0c1 := R0 1 _ rfl
    have R0c2 := R0 2 _ rfl
    have R1c0 := R1 0 _ rfl
    have R1c1 := R1 1 _ rfl
    have R1c2 := R1 2 _ rfl
    cases p2
    ·
      go_wp2_with fail
      clear R0c0 R0c1 R0c2 R1c0 R1c1 R1c2
      refine (rstab_any a b i a _).mono ?_
      obtain ⟨p3, hp3⟩ : ∃ p, p = stabD a b a := ⟨_, rfl⟩
      rw [← hp3]
      have Hp3 := Lib.hid hp3
      clear hp3
      rintro e w5 ⟨rfl, hb⟩
      replace R0 := R0.keep hb
      replace R1 := R1.keep hb
      replace HB := Bl HB hb
      clear hb
      have R0c0 := R0 0 _ rfl
      have R0c1 := R0 1 _ rfl
      have R0c2 := R0 2 _ rfl
      have R1c0 := R1 0 _ rfl
      have R1c1 := R1 1 _ rfl
      have R1c2 := R1 2 _ rfl
      cases p3
      ·
        go_wp2
        go_ret
        exact ⟨retb (by simp [← Hp1.out, ← Hp2.out, ← Hp3.out]), HB.out⟩
      ·
        go_wp2_with fail
        clear R0c0 R0c1 R0c2 R1c0 R1c1 R1c2
        refine (rstab_any x y 0 a _).mono ?_
        obtain ⟨p4, hp4⟩ : ∃ p, p = stabD x y a := ⟨_, rfl⟩
        rw [← hp4]
        have Hp4 := Lib.hid hp4
        clear hp4
        rintro e w6 ⟨rfl, hb⟩
        replace R0 := R0.keep hb
        replace R1 := R1.keep hb
        replace HB := Bl HB hb
        clear hb
        have R0c0 := R0 0 _ rfl
        have R0c1 := R0 1 _ rfl
        have R0c2 := R0 2 _ rfl
        have R1c0 := R1 0 _ rfl
        have R1c1 := R1 1 _ rfl
        have R1c2 := R1 2 _ rfl
        go_wp2
        go_ret
        exact ⟨retb (by simp [← Hp1.out, ← Hp2.out, ← Hp3.out, ← Hp4.out]), HB.out⟩
    ·
      go_wp2
      go_ret
      exact ⟨retb (by simp [← Hp1.out, ← Hp2.out]), HB.out⟩

def cc (x z : Int) : Int := 2 * (min (max x 0) 2) + (if 0 ≤ x ∧ x < 2 then min (max z 0) 2 else 0)
theorem cc_yes {x z c : Int} (h : c = cc x z) (hc : cellD 0 2 0 2 x z = true) : c + 1 = cc x (z + 1) ∧ c ≤ 3 := by
  simp [cellD] at hc
  subst h
  unfold cc
  rw [if_pos (by omega), if_pos (by omega)]
  omega
theorem cc_no {x z c : Int} (h : c = cc x z) (hc : cellD 0 2 0 2 x z = false) (hz : z ≤ 3) (hz1 : -1 ≤ z) : c = cc x (z + 1) := by
  simp [cellD] at hc
  subst h
  unfold cc
  by_cases hx : 0 ≤ x ∧ x < 2
  · rw [if_pos hx, if_pos hx]; omega
  · rw [if_neg hx, if_neg hx]
theorem cc_next {x c : Int} (h : c = cc x 4) : c = cc (x + 1) (-1) := by
  subst h
  unfold cc
  by_cases hx : 0 ≤ x ∧ x < 2
  · rw [if_pos hx]; by_cases hy : 0 ≤ x + 1 ∧ x + 1 < 2
    · rw [if_pos hy]; omega
    · rw [if_neg hy]; omega
  · rw [if_neg hx]; by_cases hy : 0 ≤ x + 1 ∧ x + 1 < 2
    · rw [if_pos hy]; omega
    · rw [if_neg hy]; omega
set_option maxRecDepth 100000 in
set_option maxHeartbeats 800000 in
theorem awake_any (w : World) :
    Calls Try.prog 31 #[] w fun e w' => e = .returned (.bool true) ∧ Below w.heap.size w w' := by
  go_enter Try.func31, Try.ntmps31
  go_wp2_with fail
  have R0 := ((Row.new w [.int .i64 3, .int .i64 4, .int .u32 9] 24 rfl).all (.cells #[.int .i64 3, .int .i64 1, .int .u32 2] 24)).all (.cells #[.int .i64 0, .int .i64 2, .int .i64 0, .int .i64 2, .int .u32 0] 28)
  have R1 := (Row.new (w.alloc (.cells #[.int .i64 3, .int .i64 4, .int .u32 9] 24)) (n := w.heap.size + 1) [.int .i64 3, .int .i64 1, .int .u32 2] 24 (by simp)).all (.cells #[.int .i64 0, .int .i64 2, .int .i64 0, .int .i64 2, .int .u32 0] 28)
  have R2 := Row.new ((w.alloc (.cells #[.int .i64 3, .int .i64 4, .int .u32 9] 24)).alloc (.cells #[.int .i64 3, .int .i64 1, .int .u32 2] 24)) (n := w.heap.size + 1 + 1) [.int .i64 0, .int .i64 2, .int .i64 0, .int .i64 2, .int .u32 0] 28 (by simp)
  have HB := BlA (BlA (BlA (Lib.hid (Below.refl w.heap.size w)) (.cells #[.int .i64 3, .int .i64 4, .int .u32 9] 24)) (.cells #[.int .i64 3, .int .i64 1, .int .u32 2] 24)) (.cells #[.int .i64 0, .int .i64 2, .int .i64 0, .int .i64 2, .int .u32 0] 28)
  generalize ((w.alloc (.cells #[.int .i64 3, .int .i64 4, .int .u32 9] 24)).alloc (.cells #[.int .i64 3, .int .i64 1, .int .u32 2] 24)).alloc (.cells #[.int .i64 0, .int .i64 2, .int .i64 0, .int .i64 2, .int .u32 0] 28) = W at *
  go_loopw [4, 5] (fun c x wr => ∃ n z : Int, c = .int .i64 n ∧ x = .int .i64 z ∧ -1 ≤ z ∧ z ≤ 4 ∧ 0 ≤ n ∧ n ≤ 4 ∧ Hid (n = cc z (-1)) ∧ Row wr w.heap.size [.int .i64 3, .int .i64 4, .int .u32 9] ∧ Row wr (w.heap.size + 1) [.int .i64 3, .int .i64 1, .int .u32 2] ∧ Row wr (w.heap.size + 1 + 1) [.int .i64 0, .int .i64 2, .int .i64 0, .int .i64 2, .int .u32 0] ∧ Hid (Below w.heap.size w wr)) (fun _ x _ => (4 - intOf x).toNat)
  case atStart => exact ⟨0, -1, rfl, rfl, by omega, by omega, by omega, by omega, Lib.hid rfl, R0, R1, R2, HB⟩
  case round =>
    clear R0 R1 R2 HB
    obtain ⟨n, x, rfl, rfl, hx0, hx1, hn0, hn1, HN, R0, R1, R2, HB⟩ := hrel
    by_cases hx : x < 4
    · go_wp2_with fail
      go_loopw [4, 6] (fun c y wr => ∃ n z : Int, c = .int .i64 n ∧ y = .int .i64 z ∧ -1 ≤ z ∧ z ≤ 4 ∧ 0 ≤ n ∧ n ≤ 4 ∧ Hid (n = cc x z) ∧ Row wr w.heap.size [.int .i64 3, .int .i64 4, .int .u32 9] ∧ Row wr (w.heap.size + 1) [.int .i64 3, .int .i64 1, .int .u32 2] ∧ Row wr (w.heap.size + 1 + 1) [.int .i64 0, .int .i64 2, .int .i64 0, .int .i64 2, .int .u32 0] ∧ Hid (Below w.heap.size w wr)) (fun _ y _ => (4 - intOf y).toNat)
      case atStart => exact ⟨n, -1, rfl, rfl, by omega, by omega, hn0, hn1, HN, R0, R1, R2, HB⟩
      case round =>
        clear R0 R1 R2 HB HN hn0 hn1
        obtain ⟨n, z, rfl, rfl, hz0, hz1, hn0, hn1, HN, R0, R1, R2, HB⟩ := hrel
        by_cases hz : z < 4
        · have b0 := R2 0 _ rfl
          have b1 := R2 1 _ rfl
          have b2 := R2 2 _ rfl
          have b3 := R2 3 _ rfl
          have b4 := R2 4 _ rfl
          go_wp2_with fail
          refine (cell_any 0 2 0 2 0 x z _).mono ?_
          rintro e w2 ⟨rfl, hb⟩
          clear b0 b1 b2 b3 b4
          replace R0 := R0.keep hb
          replace R1 := R1.keep hb
          replace R2 := R2.keep hb
          replace HB := Bl HB hb
          clear hb
          cases hC : cellD 0 2 0 2 x z with
          | false =>
            have HN' := Lib.hid (cc_no HN.out hC (by omega) hz0)
            clear hC HN
            go_wp2
            go_roundw
            case rel => exact ⟨n, z + 1, rfl, by go_num, by omega, by omega, hn0, hn1, HN', R0, R1, R2, HB⟩
            case measure => simp [intOf]; omega
          | true =>
            have h3 := (cc_yes HN.out hC).2
            have HN' := Lib.hid (cc_yes HN.out hC).1
            clear hC HN
            go_wp2
            go_roundw
            case rel => exact ⟨n + 1, z + 1, by go_num, by go_num, by omega, by omega, by omega, by omega, HN', R0, R1, R2, HB⟩
            case measure => simp [intOf]; omega
        · obtain rfl : z = 4 := by omega
          have HN' := Lib.hid (cc_next HN.out)
          clear HN
          go_wp2
          go_roundw
          case rel => exact ⟨n, x + 1, rfl, by go_num, by omega, by omega, hn0, hn1, HN', R0, R1, R2, HB⟩
          case measure => simp [intOf]; omega
    · obtain rfl : x = 4 := by omega
      obtain rfl : n = 4 := HN.out
      clear HN
      have R0c0 := R0 0 _ rfl
      have R0c1 := R0 1 _ rfl
      have R0c2 := R0 2 _ rfl
      have R1c0 := R1 0 _ rfl
      have R1c1 := R1 1 _ rfl
      have R1c2 := R1 2 _ rfl
      have R2c0 := R2 0 _ rfl
      have R2c1 := R2 1 _ rfl
      have R2c2 := R2 2 _ rfl
      have R2c3 := R2 3 _ rfl
      have R2c4 := R2 4 _ rfl
      go_wp2_with fail
      clear R0c0 R0c1 R0c2 R1c0 R1c1 R1c2 R2c0 R2c1 R2c2 R2c3 R2c4
      refine (byx_any 3 4 9 3 1 2 _).mono ?_
      rw [show ordD 3 9 3 2 = 1 from rfl]
      rintro e w7 ⟨rfl, hb⟩
      replace R0 := R0.keep hb
      replace R1 := R1.keep hb
      replace R2 := R2.keep hb
      replace HB := Bl HB hb
      clear hb
      have R0c0 := R0 0 _ rfl
      have R0c1 := R0 1 _ rfl
      have R0c2 := R0 2 _ rfl
      have R1c0 := R1 0 _ rfl
      have R1c1 := R1 1 _ rfl
      have R1c2 := R1 2 _ rfl
      have R2c0 := R2 0 _ rfl
      have R2c1 := R2 1 _ rfl
      have R2c2 := R2 2 _ rfl
      have R2c3 := R2 3 _ rfl
      have R2c4 := R2 4 _ rfl
      go_wp2_with fail
      clear R0c0 R0c1 R0c2 R1c0 R1c1 R1c2 R2c0 R2c1 R2c2 R2c3 R2c4
      refine (byx_any 3 1 2 3 4 9 _).mono ?_
      rw [show ordD 3 2 3 9 = -1 from rfl]
      rintro e w8 ⟨rfl, hb⟩
      replace R0 := R0.keep hb
      replace R1 := R1.keep hb
      replace R2 := R2.keep hb
      replace HB := Bl HB hb
      clear hb
      have R0c0 := R0 0 _ rfl
      have R0c1 := R0 1 _ rfl
      have R0c2 := R0 2 _ rfl
      have R1c0 := R1 0 _ rfl
      have R1c1 := R1 1 _ rfl
      have R1c2 := R1 2 _ rfl
      have R2c0 := R2 0 _ rfl
      have R2c1 := R2 1 _ rfl
      have R2c2 := R2 2 _ rfl
      have R2c3 := R2 3 _ rfl
      have R2c4 := R2 4 _ rfl
      go_wp2_with fail
      clear R0c0 R0c1 R0c2 R1c0 R1c1 R1c2 R2c0 R2c1 R2c2 R2c3 R2c4
      refine (byy_any 3 4 9 3 1 2 _).mono ?_
      rw [show ordD 4 9 1 2 = 1 from rfl]
      rintro e w9 ⟨rfl, hb⟩
      replace R0 := R0.keep hb
      replace R1 := R1.keep hb
      replace R2 := R2.keep hb
      replace HB := Bl HB hb
      clear hb
      have R0c0 := R0 0 _ rfl
      have R0c1 := R0 1 _ rfl
      have R0c2 := R0 2 _ rfl
      have R1c0 := R1 0 _ rfl
      have R1c1 := R1 1 _ rfl
      have R1c2 := R1 2 _ rfl
      have R2c0 := R2 0 _ rfl
      have R2c1 := R2 1 _ rfl
      have R2c2 := R2 2 _ rfl
      have R2c3 := R2 3 _ rfl
      have R2c4 := R2 4 _ rfl
      go_wp2_with fail
      clear R0c0 R0c1 R0c2 R1c0 R1c1 R1c2 R2c0 R2c1 R2c2 R2c3 R2c4
      refine (over_any 3 4 9 3 1 2 _).mono ?_
      rw [show overD 3 4 3 1 = true from rfl]
      rintro e w10 ⟨rfl, hb⟩
      replace R0 := R0.keep hb
      replace R1 := R1.keep hb
      replace R2 := R2.keep hb
      replace HB := Bl HB hb
      clear hb
      have R0c0 := R0 0 _ rfl
      have R0c1 := R0 1 _ rfl
      have R0c2 := R0 2 _ rfl
      have R1c0 := R1 0 _ rfl
      have R1c1 := R1 1 _ rfl
      have R1c2 := R1 2 _ rfl
      have R2c0 := R2 0 _ rfl
      have R2c1 := R2 1 _ rfl
      have R2c2 := R2 2 _ rfl
      have R2c3 := R2 3 _ rfl
      have R2c4 := R2 4 _ rfl
      go_wp2_with fail
      clear R0c0 R0c1 R0c2 R1c0 R1c1 R1c2 R2c0 R2c1 R2c2 R2c3 R2c4
      refine (over_any 3 1 2 3 4 9 _).mono ?_
      rw [show overD 3 1 3 4 = false from rfl]
      rintro e w11 ⟨rfl, hb⟩
      replace R0 := R0.keep hb
      replace R1 := R1.keep hb
      replace R2 := R2.keep hb
      replace HB := Bl HB hb
      clear hb
      have R0c0 := R0 0 _ rfl
      have R0c1 := R0 1 _ rfl
      have R0c2 := R0 2 _ rfl
      have R1c0 := R1 0 _ rfl
      have R1c1 := R1 1 _ rfl
      have R1c2 := R1 2 _ rfl
      have R2c0 := R2 0 _ rfl
      have R2c1 := R2 1 _ rfl
      have R2c2 := R2 2 _ rfl
      have R2c3 := R2 3 _ rfl
      have R2c4 := R2 4 _ rfl
      go_wp2_with fail
      clear R0c0 R0c1 R0c2 R1c0 R1c1 R1c2 R2c0 R2c1 R2c2 R2c3 R2c4
      refine (stab_any 2 2 0 2 _).mono ?_
      rw [show stabD 2 2 2 = true from rfl]
      rintro e w12 ⟨rfl, hb⟩
      replace R0 := R0.keep hb
      replace R1 := R1.keep hb
      replace R2 := R2.keep hb
      replace HB := Bl HB hb
      clear hb
      have R0c0 := R0 0 _ rfl
      have R0c1 := R0 1 _ rfl
      have R0c2 := R0 2 _ rfl
      have R1c0 := R1 0 _ rfl
      have R1c1 := R1 1 _ rfl
      have R1c2 := R1 2 _ rfl
      have R2c0 := R2 0 _ rfl
      have R2c1 := R2 1 _ rfl
      have R2c2 := R2 2 _ rfl
      have R2c3 := R2 3 _ rfl
      have R2c4 := R2 4 _ rfl
      go_wp2_with fail
      clear R0c0 R0c1 R0c2 R1c0 R1c1 R1c2 R2c0 R2c1 R2c2 R2c3 R2c4
      refine (stab_any 2 1 0 2 _).mono ?_
      rw [show stabD 2 1 2 = false from rfl]
      rintro e w13 ⟨rfl, hb⟩
      replace R0 := R0.keep hb
      replace R1 := R1.keep hb
      replace R2 := R2.keep hb
      replace HB := Bl HB hb
      clear hb
      have R0c0 := R0 0 _ rfl
      have R0c1 := R0 1 _ rfl
      have R0c2 := R0 2 _ rfl
      have R1c0 := R1 0 _ rfl
      have R1c1 := R1 1 _ rfl
      have R1c2 := R1 2 _ rfl
      have R2c0 := R2 0 _ rfl
      have R2c1 := R2 1 _ rfl
      have R2c2 := R2 2 _ rfl
      have R2c3 := R2 3 _ rfl
      have R2c4 := R2 4 _ rfl
      go_wp2_with fail
      clear R0c0 R0c1 R0c2 R1c0 R1c1 R1c2 R2c0 R2c1 R2c2 R2c3 R2c4
      refine (meet_any 2 1 0 0 9 _).mono ?_
      rw [show meetD 2 1 0 9 = false from rfl]
      rintro e w14 ⟨rfl, hb⟩
      replace R0 := R0.keep hb
      replace R1 := R1.keep hb
      replace R2 := R2.keep hb
      replace HB := Bl HB hb
      clear hb
      have R0c0 := R0 0 _ rfl
      have R0c1 := R0 1 _ rfl
      have R0c2 := R0 2 _ rfl
      have R1c0 := R1 0 _ rfl
      have R1c1 := R1 1 _ rfl
      have R1c2 := R1 2 _ rfl
      have R2c0 := R2 0 _ rfl
      have R2c1 := R2 1 _ rfl
      have R2c2 := R2 2 _ rfl
      have R2c3 := R2 3 _ rfl
      have R2c4 := R2 4 _ rfl
      go_wp2_with fail
      clear R0c0 R0c1 R0c2 R1c0 R1c1 R1c2 R2c0 R2c1 R2c2 R2c3 R2c4
      refine (in_any 2 2 0 0 2 0 2 0 _).mono ?_
      rw [show inD 2 2 0 2 0 2 = true from rfl]
      rintro e w15 ⟨rfl, hb⟩
      replace R0 := R0.keep hb
      replace R1 := R1.keep hb
      replace R2 := R2.keep hb
      replace HB := Bl HB hb
      clear hb
      have R0c0 := R0 0 _ rfl
      have R0c1 := R0 1 _ rfl
      have R0c2 := R0 2 _ rfl
      have R1c0 := R1 0 _ rfl
      have R1c1 := R1 1 _ rfl
      have R1c2 := R1 2 _ rfl
      have R2c0 := R2 0 _ rfl
      have R2c1 := R2 1 _ rfl
      have R2c2 := R2 2 _ rfl
      have R2c3 := R2 3 _ rfl
      have R2c4 := R2 4 _ rfl
      go_wp2_with fail
      clear R0c0 R0c1 R0c2 R1c0 R1c1 R1c2 R2c0 R2c1 R2c2 R2c3 R2c4
      refine (cell_any 0 0 0 5 0 0 0 _).mono ?_
      rw [show cellD 0 0 0 5 0 0 = false from rfl]
      rintro e w16 ⟨rfl, hb⟩
      replace R0 := R0.keep hb
      replace R1 := R1.keep hb
      replace R2 := R2.keep hb
      replace HB := Bl HB hb
      clear hb
      have R0c0 := R0 0 _ rfl
      have R0c1 := R0 1 _ rfl
      have R0c2 := R0 2 _ rfl
      have R1c0 := R1 0 _ rfl
      have R1c1 := R1 1 _ rfl
      have R1c2 := R1 2 _ rfl
      have R2c0 := R2 0 _ rfl
      have R2c1 := R2 1 _ rfl
      have R2c2 := R2 2 _ rfl
      have R2c3 := R2 3 _ rfl
      have R2c4 := R2 4 _ rfl
      go_wp2
      go_ret
      exact ⟨rfl, HB.out⟩
end Go.Proofs.Ytpbghgmaikmneaa
