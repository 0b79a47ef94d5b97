/-
  ItemMeet is proved: for every span and every two numbers the law answers true and changes nothing that was there; no condition.
-/
import Derived.Test.YtpbghgmaikmneaaLift
namespace Go.Proofs.Ytpbghgmaikmneaa
open Go.ChangeShapes Go.WideShapes Go.ChangeAt Go.RowKit Go.Joins
theorem meet_one (a b x : Int) : meetD a b x x = stabD a b x := by rw [Bool.eq_iff_iff]; simp [meetD, stabD]; omega
theorem meet_self (a b : Int) : meetD a b a b = rsD a b := by rw [Bool.eq_iff_iff]; simp [meetD, rsD]
theorem meet_at (a b i x : Int) (w : World) :
    Calls Try.prog 19 #[.agg #[.int .i64 a, .int .i64 b, .int .u32 i], .int .i64 x, .int .i64 x] w fun e w' => e = .returned (.bool (stabD a b x)) ∧ Below w.heap.size w w' := by
  rw [← meet_one]; exact meet_any a b i x x w
theorem meet_all (a b i : Int) (w : World) :
    Calls Try.prog 19 #[.agg #[.int .i64 a, .int .i64 b, .int .u32 i], .int .i64 a, .int .i64 b] w fun e w' => e = .returned (.bool (rsD a b)) ∧ Below w.heap.size w w' := by
  rw [← meet_self]; exact meet_any a b i a b w
/-- how the greater lower end decides -/
theorem meet_lo {a b x y : Int} (h : a < x) : meetD a b x y = (stabD a b x && decide (x ≤ y)) := by rw [Bool.eq_iff_iff]; simp [meetD, stabD]; omega
theorem meet_hi {a b x y : Int} (h : x ≤ a) : meetD a b x y = (stabD a b a && decide (a ≤ y)) := by rw [Bool.eq_iff_iff]; simp [meetD, stabD]; omega
theorem meet_rs {a b x y : Int} (h : meetD a b x y = true) : rsD a b = true ∧ x ≤ y := by simp [meetD, rsD] at *; omega

set_option maxRecDepth 100000 in
set_option maxHeartbeats 1000000 in
theorem meet_walk (a b i x y : Int) (w : World) :
    Calls Try.prog 6 #[.agg #[.int .i64 a, .int .i64 b, .int .u32 i], .int .i64 x, .int .i64 y] w fun e w' => e = .returned (.bool true) ∧ Below w.heap.size w w' := by
  by_cases h : a < x
  ·
    have HM := Lib.hid (meet_lo (b := b) (y := y) h)
    have HX : x ≤ x := by omega
    go_enter Try.func6, Try.ntmps6
    go_wp2_with fail
    have R0 := Row.new w [.int .i64 a, .int .i64 b, .int .u32 i] 26 rfl
    have HB := BlA (Lib.hid (Below.refl w.heap.size w)) (.cells #[.int .i64 a, .int .i64 b, .int .u32 i] 26)
    generalize w.alloc (.cells #[.int .i64 a, .int .i64 b, .int .u32 i] 26) = W at *
    have R0c0 := R0 0 _ rfl
    have R0c1 := R0 1 _ rfl
    have R0c2 := R0 2 _ rfl
    refine (meet_any a b i x y _).mono ?_
    rw [HM.out]
    rintro e w1 ⟨rfl, hb⟩
    replace R0 := R0.keep hb
    replace HB := Bl HB hb
    clear hb
    have R0c0 := R0 0 _ rfl
    have R0c1 := R0 1 _ rfl
    have R0c2 := R0 2 _ rfl
    cases hS : stabD a b x with
    | false =>
      have HS := Lib.hid hS
      clear hS
      rw [Bool.false_and]
      go_wp2_with fail
      clear R0c0 R0c1 R0c2
      refine (stab_any a b i x _).mono ?_
      rw [HS.out]
      rintro e w2 ⟨rfl, hb⟩
      replace R0 := R0.keep hb
      replace HB := Bl HB hb
      clear hb
      have R0c0 := R0 0 _ rfl
      have R0c1 := R0 1 _ rfl
      have R0c2 := R0 2 _ rfl
      go_wp2_with fail
      go_region_held3 (fun w' => w'.cell? ⟨w.heap.size, 0, none⟩ = some (.int .i64 a) ∧ w'.cell? ⟨w.heap.size, 1, none⟩ = some (.int .i64 b) ∧ w'.cell? ⟨w.heap.size, 2, none⟩ = some (.int .u32 i)) (first | exact ⟨R0 0 _ rfl, R0 1 _ rfl, R0 2 _ rfl⟩ | exact ⟨R0a 0 _ rfl, R0a 1 _ rfl, R0a 2 _ rfl⟩ | exact ⟨R0b 0 _ rfl, R0b 1 _ rfl, R0b 2 _ rfl⟩ | exact ⟨R0c 0 _ rfl, R0c 1 _ rfl, R0c 2 _ rfl⟩ | exact ⟨R0d 0 _ rfl, R0d 1 _ rfl, R0d 2 _ rfl⟩ | exact ⟨R0e 0 _ rfl, R0e 1 _ rfl, R0e 2 _ rfl⟩)
        (first
          | (go_at_call 19; with_reducible refine (meet_at a b i x _).mono ?_; rintro e ya ⟨rfl, hya⟩; have R0a := R0.keepD hya; have HBa := BlD HB hya)
          | (go_at_call 17; with_reducible refine (stab_any a b i x _).mono ?_; rintro e yb ⟨rfl, hyb⟩; have R0b := R0a.keep hyb; have HBb := Bl HBa hyb)
          | (go_at_call 19; with_reducible refine (meet_all a b i _).mono ?_; rintro e yc ⟨rfl, hyc⟩; have R0c := R0b.keep hyc; have HBc := Bl HBb hyc)
          | (go_at_call 23; with_reducible refine (rs_any a b i _).mono ?_; rintro e yd ⟨rfl, hyd⟩; have R0d := R0c.keep hyd; have HBd := Bl HBc hyd)
          | (go_at_call 31; with_reducible refine (awake_any _).mono ?_; rintro e ye ⟨rfl, hye⟩; have R0e := R0d.keep hye; have HBe := Bl HBd hye))
      all_goals (go_wp2_with fail; go_ret)
      all_goals exact ⟨rfl, HBe.out⟩
    | true =>
      have HS := Lib.hid hS
      by_cases hy : x ≤ y
      ·
        have hr := meet_rs (HM.out.trans (by rw [hS, decide_eq_true hy]; rfl))
        have HR := Lib.hid hr.1
        have hxy := hr.2
        clear hr hS
        rw [Bool.true_and, decide_eq_true hy]
        go_wp2_with fail
        clear R0c0 R0c1 R0c2
        refine (stab_any a b i x _).mono ?_
        rw [HS.out]
        rintro e w3 ⟨rfl, hb⟩
        replace R0 := R0.keep hb
        replace HB := Bl HB hb
        clear hb
        have R0c0 := R0 0 _ rfl
        have R0c1 := R0 1 _ rfl
        have R0c2 := R0 2 _ rfl
        go_wp2_with fail
        clear R0c0 R0c1 R0c2
        refine (rs_any a b i _).mono ?_
        rw [HR.out]
        rintro e w4 ⟨rfl, hb⟩
        replace R0 := R0.keep hb
        replace HB := Bl HB hb
        clear hb
        have R0c0 := R0 0 _ rfl
        have R0c1 := R0 1 _ rfl
        have R0c2 := R0 2 _ rfl
        go_wp2_with fail
        go_region_held3 (fun w' => w'.cell? ⟨w.heap.size, 0, none⟩ = some (.int .i64 a) ∧ w'.cell? ⟨w.heap.size, 1, none⟩ = some (.int .i64 b) ∧ w'.cell? ⟨w.heap.size, 2, none⟩ = some (.int .u32 i)) (first | exact ⟨R0 0 _ rfl, R0 1 _ rfl, R0 2 _ rfl⟩ | exact ⟨R0a 0 _ rfl, R0a 1 _ rfl, R0a 2 _ rfl⟩ | exact ⟨R0b 0 _ rfl, R0b 1 _ rfl, R0b 2 _ rfl⟩ | exact ⟨R0c 0 _ rfl, R0c 1 _ rfl, R0c 2 _ rfl⟩ | exact ⟨R0d 0 _ rfl, R0d 1 _ rfl, R0d 2 _ rfl⟩ | exact ⟨R0e 0 _ rfl, R0e 1 _ rfl, R0e 2 _ rfl⟩)
          (first
            | (go_at_call 19; with_reducible refine (meet_at a b i x _).mono ?_; rintro e ya ⟨rfl, hya⟩; have R0a := R0.keepD hya; have HBa := BlD HB hya)
            | (go_at_call 17; with_reducible refine (stab_any a b i x _).mono ?_; rintro e yb ⟨rfl, hyb⟩; have R0b := R0a.keep hyb; have HBb := Bl HBa hyb)
            | (go_at_call 19; with_reducible refine (meet_all a b i _).mono ?_; rintro e yc ⟨rfl, hyc⟩; have R0c := R0b.keep hyc; have HBc := Bl HBb hyc)
            | (go_at_call 23; with_reducible refine (rs_any a b i _).mono ?_; rintro e yd ⟨rfl, hyd⟩; have R0d := R0c.keep hyd; have HBd := Bl HBc hyd)
            | (go_at_call 31; with_reducible refine (awake_any _).mono ?_; rintro e ye ⟨rfl, hye⟩; have R0e := R0d.keep hye; have HBe := Bl HBd hye))
        all_goals (go_wp2_with fail; go_ret)
        all_goals exact ⟨rfl, HBe.out⟩
      ·
        clear hS
        rw [Bool.true_and, decide_eq_false hy]
        have hy' := decide_eq_false hy
        clear hy
        go_wp2_with fail
        clear R0c0 R0c1 R0c2
        refine (stab_any a b i x _).mono ?_
        rw [HS.out]
        rintro e w5 ⟨rfl, hb⟩
        replace R0 := R0.keep hb
        replace HB := Bl HB hb
        clear hb
        have R0c0 := R0 0 _ rfl
        have R0c1 := R0 1 _ rfl
        have R0c2 := R0 2 _ rfl
        go_wp2_with fail
        go_region_held3 (fun w' => w'.cell? ⟨w.heap.size, 0, none⟩ = some (.int .i64 a) ∧ w'.cell? ⟨w.heap.size, 1, none⟩ = some (.int .i64 b) ∧ w'.cell? ⟨w.heap.size, 2, none⟩ = some (.int .u32 i)) (first | exact ⟨R0 0 _ rfl, R0 1 _ rfl, R0 2 _ rfl⟩ | exact ⟨R0a 0 _ rfl, R0a 1 _ rfl, R0a 2 _ rfl⟩ | exact ⟨R0b 0 _ rfl, R0b 1 _ rfl, R0b 2 _ rfl⟩ | exact ⟨R0c 0 _ rfl, R0c 1 _ rfl, R0c 2 _ rfl⟩ | exact ⟨R0d 0 _ rfl, R0d 1 _ rfl, R0d 2 _ rfl⟩ | exact ⟨R0e 0 _ rfl, R0e 1 _ rfl, R0e 2 _ rfl⟩)
          (first
            | (go_at_call 19; with_reducible refine (meet_at a b i x _).mono ?_; rintro e ya ⟨rfl, hya⟩; have R0a := R0.keepD hya; have HBa := BlD HB hya)
            | (go_at_call 17; with_reducible refine (stab_any a b i x _).mono ?_; rintro e yb ⟨rfl, hyb⟩; have R0b := R0a.keep hyb; have HBb := Bl HBa hyb)
            | (go_at_call 19; with_reducible refine (meet_all a b i _).mono ?_; rintro e yc ⟨rfl, hyc⟩; have R0c := R0b.keep hyc; have HBc := Bl HBb hyc)
            | (go_at_call 23; with_reducible refine (rs_any a b i _).mono ?_; rintro e yd ⟨rfl, hyd⟩; have R0d := R0c.keep hyd; have HBd := Bl HBc hyd)
            | (go_at_call 31; with_reducible refine (awake_any _).mono ?_; rintro e ye ⟨rfl, hye⟩; have R0e := R0d.keep hye; have HBe := Bl HBd hye))
        all_goals (go_wp2_with fail; go_ret)
        all_goals exact ⟨rfl, HBe.out⟩
  ·
    have HM := Lib.hid (meet_hi (b := b) (y := y) (Int.not_lt.1 h))
    have HX : x ≤ a := by omega
    go_enter Try.func6, Try.ntmps6
    go_wp2_with fail
    have R0 := Row.new w [.int .i64 a, .int .i64 b, .int .u32 i] 26 rfl
    have HB := BlA (Lib.hid (Below.refl w.heap.size w)) (.cells #[.int .i64 a, .int .i64 b, .int .u32 i] 26)
    generalize w.alloc (.cells #[.int .i64 a, .int .i64 b, .int .u32 i] 26) = W at *
    have R0c0 := R0 0 _ rfl
    have R0c1 := R0 1 _ rfl
    have R0c2 := R0 2 _ rfl
    refine (meet_any a b i x y _).mono ?_
    rw [HM.out]
    rintro e w6 ⟨rfl, hb⟩
    replace R0 := R0.keep hb
    replace HB := Bl HB hb
    clear hb
    have R0c0 := R0 0 _ rfl
    have R0c1 := R0 1 _ rfl
    have R0c2 := R0 2 _ rfl
    cases hS : stabD a b a with
    | false =>
      have HS := Lib.hid hS
      clear hS
      rw [Bool.false_and]
      go_wp2_with fail
      clear R0c0 R0c1 R0c2
      refine (stab_any a b i a _).mono ?_
      rw [HS.out]
      rintro e w7 ⟨rfl, hb⟩
      replace R0 := R0.keep hb
      replace HB := Bl HB hb
      clear hb
      have R0c0 := R0 0 _ rfl
      have R0c1 := R0 1 _ rfl
      have R0c2 := R0 2 _ rfl
      go_wp2_with fail
      go_region_held3 (fun w' => w'.cell? ⟨w.heap.size, 0, none⟩ = some (.int .i64 a) ∧ w'.cell? ⟨w.heap.size, 1, none⟩ = some (.int .i64 b) ∧ w'.cell? ⟨w.heap.size, 2, none⟩ = some (.int .u32 i)) (first | exact ⟨R0 0 _ rfl, R0 1 _ rfl, R0 2 _ rfl⟩ | exact ⟨R0a 0 _ rfl, R0a 1 _ rfl, R0a 2 _ rfl⟩ | exact ⟨R0b 0 _ rfl, R0b 1 _ rfl, R0b 2 _ rfl⟩ | exact ⟨R0c 0 _ rfl, R0c 1 _ rfl, R0c 2 _ rfl⟩ | exact ⟨R0d 0 _ rfl, R0d 1 _ rfl, R0d 2 _ rfl⟩ | exact ⟨R0e 0 _ rfl, R0e 1 _ rfl, R0e 2 _ rfl⟩)
        (first
          | (go_at_call 19; with_reducible refine (meet_at a b i x _).mono ?_; rintro e ya ⟨rfl, hya⟩; have R0a := R0.keepD hya; have HBa := BlD HB hya)
          | (go_at_call 17; with_reducible refine (stab_any a b i x _).mono ?_; rintro e yb ⟨rfl, hyb⟩; have R0b := R0a.keep hyb; have HBb := Bl HBa hyb)
          | (go_at_call 19; with_reducible refine (meet_all a b i _).mono ?_; rintro e yc ⟨rfl, hyc⟩; have R0c := R0b.keep hyc; have HBc := Bl HBb hyc)
          | (go_at_call 23; with_reducible refine (rs_any a b i _).mono ?_; rintro e yd ⟨rfl, hyd⟩; have R0d := R0c.keep hyd; have HBd := Bl HBc hyd)
          | (go_at_call 31; with_reducible refine (awake_any _).mono ?_; rintro e ye ⟨rfl, hye⟩; have R0e := R0d.keep hye; have HBe := Bl HBd hye))
      all_goals (go_wp2_with fail; go_ret)
      all_goals exact ⟨rfl, HBe.out⟩
    | true =>
      have HS := Lib.hid hS
      by_cases hy : a ≤ y
      ·
        have hr := meet_rs (HM.out.trans (by rw [hS, decide_eq_true hy]; rfl))
        have HR := Lib.hid hr.1
        have hxy := hr.2
        clear hr hS
        rw [Bool.true_and, decide_eq_true hy]
        go_wp2_with fail
        clear R0c0 R0c1 R0c2
        refine (stab_any a b i a _).mono ?_
        rw [HS.out]
        rintro e w8 ⟨rfl, hb⟩
        replace R0 := R0.keep hb
        replace HB := Bl HB hb
        clear hb
        have R0c0 := R0 0 _ rfl
        have R0c1 := R0 1 _ rfl
        have R0c2 := R0 2 _ rfl
        go_wp2_with fail
        clear R0c0 R0c1 R0c2
        refine (rs_any a b i _).mono ?_
        rw [HR.out]
        rintro e w9 ⟨rfl, hb⟩
        replace R0 := R0.keep hb
        replace HB := Bl HB hb
        clear hb
        have R0c0 := R0 0 _ rfl
        have R0c1 := R0 1 _ rfl
        have R0c2 := R0 2 _ rfl
        go_wp2_with fail
        go_region_held3 (fun w' => w'.cell? ⟨w.heap.size, 0, none⟩ = some (.int .i64 a) ∧ w'.cell? ⟨w.heap.size, 1, none⟩ = some (.int .i64 b) ∧ w'.cell? ⟨w.heap.size, 2, none⟩ = some (.int .u32 i)) (first | exact ⟨R0 0 _ rfl, R0 1 _ rfl, R0 2 _ rfl⟩ | exact ⟨R0a 0 _ rfl, R0a 1 _ rfl, R0a 2 _ rfl⟩ | exact ⟨R0b 0 _ rfl, R0b 1 _ rfl, R0b 2 _ rfl⟩ | exact ⟨R0c 0 _ rfl, R0c 1 _ rfl, R0c 2 _ rfl⟩ | exact ⟨R0d 0 _ rfl, R0d 1 _ rfl, R0d 2 _ rfl⟩ | exact ⟨R0e 0 _ rfl, R0e 1 _ rfl, R0e 2 _ rfl⟩)
          (first
            | (go_at_call 19; with_reducible refine (meet_at a b i x _).mono ?_; rintro e ya ⟨rfl, hya⟩; have R0a := R0.keepD hya; have HBa := BlD HB hya)
            | (go_at_call 17; with_reducible refine (stab_any a b i x _).mono ?_; rintro e yb ⟨rfl, hyb⟩; have R0b := R0a.keep hyb; have HBb := Bl HBa hyb)
            | (go_at_call 19; with_reducible refine (meet_all a b i _).mono ?_; rintro e yc ⟨rfl, hyc⟩; have R0c := R0b.keep hyc; have HBc := Bl HBb hyc)
            | (go_at_call 23; with_reducible refine (rs_any a b i _).mono ?_; rintro e yd ⟨rfl, hyd⟩; have R0d := R0c.keep hyd; have HBd := Bl HBc hyd)
            | (go_at_call 31; with_reducible refine (awake_any _).mono ?_; rintro e ye ⟨rfl, hye⟩; have R0e := R0d.keep hye; have HBe := Bl HBd hye))
        all_goals (go_wp2_with fail; go_ret)
        all_goals exact ⟨rfl, HBe.out⟩
      ·
        clear hS
        rw [Bool.true_and, decide_eq_false hy]
        have hy' := decide_eq_false hy
        clear hy
        go_wp2_with fail
        clear R0c0 R0c1 R0c2
        refine (stab_any a b i a _).mono ?_
        rw [HS.out]
        rintro e w10 ⟨rfl, hb⟩
        replace R0 := R0.keep hb
        replace HB := Bl HB hb
        clear hb
        have R0c0 := R0 0 _ rfl
        have R0c1 := R0 1 _ rfl
        have R0c2 := R0 2 _ rfl
        go_wp2_with fail
        go_region_held3 (fun w' => w'.cell? ⟨w.heap.size, 0, none⟩ = some (.int .i64 a) ∧ w'.cell? ⟨w.heap.size, 1, none⟩ = some (.int .i64 b) ∧ w'.cell? ⟨w.heap.size, 2, none⟩ = some (.int .u32 i)) (first | exact ⟨R0 0 _ rfl, R0 1 _ rfl, R0 2 _ rfl⟩ | exact ⟨R0a 0 _ rfl, R0a 1 _ rfl, R0a 2 _ rfl⟩ | exact ⟨R0b 0 _ rfl, R0b 1 _ rfl, R0b 2 _ rfl⟩ | exact ⟨R0c 0 _ rfl, R0c 1 _ rfl, R0c 2 _ rfl⟩ | exact ⟨R0d 0 _ rfl, R0d 1 _ rfl, R0d 2 _ rfl⟩ | exact ⟨R0e 0 _ rfl, R0e 1 _ rfl, R0e 2 _ rfl⟩)
          (first
            | (go_at_call 19; with_reducible refine (meet_at a b i x _).mono ?_; rintro e ya ⟨rfl, hya⟩; have R0a := R0.keepD hya; have HBa := BlD HB hya)
            | (go_at_call 17; with_reducible refine (stab_any a b i x _).mono ?_; rintro e yb ⟨rfl, hyb⟩; have R0b := R0a.keep hyb; have HBb := Bl HBa hyb)
            | (go_at_call 19; with_reducible refine (meet_all a b i _).mono ?_; rintro e yc ⟨rfl, hyc⟩; have R0c := R0b.keep hyc; have HBc := Bl HBb hyc)
            | (go_at_call 23; with_reducible refine (rs_any a b i _).mono ?_; rintro e yd ⟨rfl, hyd⟩; have R0d := R0c.keep hyd; have HBd := Bl HBc hyd)
            | (go_at_call 31; with_reducible refine (awake_any _).mono ?_; rintro e ye ⟨rfl, hye⟩; have R0e := R0d.keep hye; have HBe := Bl HBd hye))
        all_goals (go_wp2_with fail; go_ret)
        all_goals exact ⟨rfl, HBe.out⟩

set_option maxRecDepth 100000 in
theorem meet_lifted (os : Os) (started : os.Started) (H : Type) (enc : TypeId × Value → H) :
    ReturnsInHanded {} Try.checked os 6 .any (Rows.itemMeetSpec.pre6 enc Try.prog Try.f6 Rows.itemMeetRow.domain false) (Rows.itemMeetSpec.post enc Try.prog Try.f6 false true false false) := by
  refine returnsInHanded_of_change (C := Try.checked) Try.own started (by kernel_rfl) Try.func6
    (ChangeSpec.witness6 (enc := enc) (C := Try.checked) false ⟨#[], #[.agg #[.int .i64 0, .int .i64 0, .int .u32 0], .int .i64 0, .int .i64 0], []⟩ 8 (by kernel_rfl) (by kernel_rfl) (by kernel_rfl) (by kernel_rfl)) ?_
  intro W base args ds gs before hval0 hW hcnd _
  have hval : ∀ (j : Nat) t v, Try.f6.params[j]? = some t → args[j]? = some v → Value.okWide Try.prog W .any base t v := hval0
  have hW' := hW
  obtain ⟨p, q, hA0, hV, rfl, hfz, hnd⟩ := hW
  have hA : DataW.TrodAll enc Try.prog W 0 (fun _ => true) true Try.f6.params.toList args.toList ds p := hA0
  rw [Try.params6] at hA hval
  obtain ⟨v0, vs0, d0, ds0, p0, q0, hargs, rfl, rfl, h0, r0⟩ := trodAll_cons hA
  obtain ⟨v1, vs1, d1, ds1, p1, q1, rfl, rfl, rfl, h1, r1⟩ := trodAll_cons r0
  obtain ⟨v2, vs2, d2, ds2, p2, q2, rfl, rfl, rfl, h2, r2⟩ := trodAll_cons r1
  obtain ⟨rfl, rfl, rfl⟩ := trodAll_nil r2
  obtain rfl : args = #[v0, v1, v2] := by cases args; simp_all
  obtain ⟨rfl, rfl⟩ := trodVars_none hV
  obtain ⟨a0, b0, c0, rfl, rfl, rfl, wa0, wb0, wc0⟩ := open26 (hval 0 26 v0 rfl rfl) h0
  obtain ⟨a1, rfl, rfl, rfl, w1⟩ := open_int Try.underlying2 (hval 1 2 v1 rfl rfl) h1
  obtain ⟨a2, rfl, rfl, rfl, w2⟩ := open_int Try.underlying2 (hval 2 2 v2 rfl rfl) h2
  clear hA0 hval0
  simp only [List.append_nil] at hW'
  refine (meet_walk a0 b0 c0 a1 a2 W).mono fun e W' ⟨he, hb⟩ => ?_
  subst he
  exact ⟨_, rfl, law_post hW' (trodAll_cons_mk (shut_bool Try.underlying4 _) trodAll_mk0) (trodAll_cons_mk (read26 wa0 wb0 wc0 W' _) (trodAll_cons_mk (shut_int Try.underlying2 w1) (trodAll_cons_mk (shut_int Try.underlying2 w2) trodAll_mk0))) rfl hb⟩

theorem meet_holds : Rows.ItemMeetSaid :=
  OpenClaim.holds_of_wide 6 Try.f6 rfl rfl rfl rfl rfl rfl rfl ⟨rfl, rfl, rfl, rfl, rfl⟩ rfl rfl rfl rfl rfl (by kernel_rfl) Try.func6 (by kernel_rfl)
    (of_decide_eq_true (by kernel_rfl)) (by unfold Func.isWrapper; first | (rw [if_pos (by decide +kernel)]; kernel_rfl) | (rw [if_neg (by decide +kernel)]; exact ⟨rfl, rfl⟩))
    (fun os started H enc _ => meet_lifted os started H enc)
end Go.Proofs.Ytpbghgmaikmneaa
