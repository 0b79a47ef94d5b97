/-
  ItemTells is proved: for every two points, two spans, box and two numbers the law answers true and changes nothing that was there; no condition.
-/
import Derived.Test.YtpbghgmaikmneaaOpenAsked
namespace Go.Proofs.Ytpbghgmaikmneaa
open Go.ChangeShapes Go.WideShapes Go.ChangeAt Go.RowKit Go.Joins

set_option maxRecDepth 100000 in
set_option maxHeartbeats 2000000 in
theorem tells_walk (px py pi qx qy qi sa sb si ta tb ti b1 b2 b3 b4 bj x y : Int) (w : World) :
    Calls Try.prog 3 #[.agg #[.int .i64 px, .int .i64 py, .int .u32 pi, .int .i64 qx, .int .i64 qy, .int .u32 qi, .int .i64 sa, .int .i64 sb, .int .u32 si, .int .i64 ta, .int .i64 tb, .int .u32 ti, .int .i64 b1, .int .i64 b2, .int .i64 b3, .int .i64 b4, .int .u32 bj, .int .i64 x, .int .i64 y]] w fun e w' => e = .returned (.bool true) ∧ Below w.heap.size w w' := by
  go_enter Try.func3, Try.ntmps3
  go_wp2_with fail
  have R0 := Row.new w [.int .i64 px, .int .i64 py, .int .u32 pi, .int .i64 qx, .int .i64 qy, .int .u32 qi, .int .i64 sa, .int .i64 sb, .int .u32 si, .int .i64 ta, .int .i64 tb, .int .u32 ti, .int .i64 b1, .int .i64 b2, .int .i64 b3, .int .i64 b4, .int .u32 bj, .int .i64 x, .int .i64 y] 30 rfl
  have HB := BlA (Lib.hid (Below.refl w.heap.size w)) (.cells #[.int .i64 px, .int .i64 py, .int .u32 pi, .int .i64 qx, .int .i64 qy, .int .u32 qi, .int .i64 sa, .int .i64 sb, .int .u32 si, .int .i64 ta, .int .i64 tb, .int .u32 ti, .int .i64 b1, .int .i64 b2, .int .i64 b3, .int .i64 b4, .int .u32 bj, .int .i64 x, .int .i64 y] 30)
  generalize w.alloc (.cells #[.int .i64 px, .int .i64 py, .int .u32 pi, .int .i64 qx, .int .i64 qy, .int .u32 qi, .int .i64 sa, .int .i64 sb, .int .u32 si, .int .i64 ta, .int .i64 tb, .int .u32 ti, .int .i64 b1, .int .i64 b2, .int .i64 b3, .int .i64 b4, .int .u32 bj, .int .i64 x, .int .i64 y] 30) = W at *
  go_region_held3 (fun w' => w'.cell? ⟨w.heap.size, 0, none⟩ = some (.int .i64 px) ∧ w'.cell? ⟨w.heap.size, 1, none⟩ = some (.int .i64 py) ∧ w'.cell? ⟨w.heap.size, 2, none⟩ = some (.int .u32 pi) ∧ w'.cell? ⟨w.heap.size, 3, none⟩ = some (.int .i64 qx) ∧ w'.cell? ⟨w.heap.size, 4, none⟩ = some (.int .i64 qy) ∧ w'.cell? ⟨w.heap.size, 5, none⟩ = some (.int .u32 qi) ∧ w'.cell? ⟨w.heap.size, 6, none⟩ = some (.int .i64 sa) ∧ w'.cell? ⟨w.heap.size, 7, none⟩ = some (.int .i64 sb) ∧ w'.cell? ⟨w.heap.size, 8, none⟩ = some (.int .u32 si) ∧ w'.cell? ⟨w.heap.size, 9, none⟩ = some (.int .i64 ta) ∧ w'.cell? ⟨w.heap.size, 10, none⟩ = some (.int .i64 tb) ∧ w'.cell? ⟨w.heap.size, 11, none⟩ = some (.int .u32 ti)) (first | exact ⟨R0 0 _ rfl, R0 1 _ rfl, R0 2 _ rfl, R0 3 _ rfl, R0 4 _ rfl, R0 5 _ rfl, R0 6 _ rfl, R0 7 _ rfl, R0 8 _ rfl, R0 9 _ rfl, R0 10 _ rfl, R0 11 _ rfl⟩ | exact ⟨R0a 0 _ rfl, R0a 1 _ rfl, R0a 2 _ rfl, R0a 3 _ rfl, R0a 4 _ rfl, R0a 5 _ rfl, R0a 6 _ rfl, R0a 7 _ rfl, R0a 8 _ rfl, R0a 9 _ rfl, R0a 10 _ rfl, R0a 11 _ rfl⟩ | exact ⟨R0b 0 _ rfl, R0b 1 _ rfl, R0b 2 _ rfl, R0b 3 _ rfl, R0b 4 _ rfl, R0b 5 _ rfl, R0b 6 _ rfl, R0b 7 _ rfl, R0b 8 _ rfl, R0b 9 _ rfl, R0b 10 _ rfl, R0b 11 _ rfl⟩ | exact ⟨R0c 0 _ rfl, R0c 1 _ rfl, R0c 2 _ rfl, R0c 3 _ rfl, R0c 4 _ rfl, R0c 5 _ rfl, R0c 6 _ rfl, R0c 7 _ rfl, R0c 8 _ rfl, R0c 9 _ rfl, R0c 10 _ rfl, R0c 11 _ rfl⟩ | exact ⟨R0d 0 _ rfl, R0d 1 _ rfl, R0d 2 _ rfl, R0d 3 _ rfl, R0d 4 _ rfl, R0d 5 _ rfl, R0d 6 _ rfl, R0d 7 _ rfl, R0d 8 _ rfl, R0d 9 _ rfl, R0d 10 _ rfl, R0d 11 _ rfl⟩ | exact ⟨R0e 0 _ rfl, R0e 1 _ rfl, R0e 2 _ rfl, R0e 3 _ rfl, R0e 4 _ rfl, R0e 5 _ rfl, R0e 6 _ rfl, R0e 7 _ rfl, R0e 8 _ rfl, R0e 9 _ rfl, R0e 10 _ rfl, R0e 11 _ rfl⟩ | exact ⟨R0f 0 _ rfl, R0f 1 _ rfl, R0f 2 _ rfl, R0f 3 _ rfl, R0f 4 _ rfl, R0f 5 _ rfl, R0f 6 _ rfl, R0f 7 _ rfl, R0f 8 _ rfl, R0f 9 _ rfl, R0f 10 _ rfl, R0f 11 _ rfl⟩ | exact ⟨R0g 0 _ rfl, R0g 1 _ rfl, R0g 2 _ rfl, R0g 3 _ rfl, R0g 4 _ rfl, R0g 5 _ rfl, R0g 6 _ rfl, R0g 7 _ rfl, R0g 8 _ rfl, R0g 9 _ rfl, R0g 10 _ rfl, R0g 11 _ rfl⟩ | exact ⟨R0h 0 _ rfl, R0h 1 _ rfl, R0h 2 _ rfl, R0h 3 _ rfl, R0h 4 _ rfl, R0h 5 _ rfl, R0h 6 _ rfl, R0h 7 _ rfl, R0h 8 _ rfl, R0h 9 _ rfl, R0h 10 _ rfl, R0h 11 _ rfl⟩)
    (first
      | (go_at_call 9; with_reducible refine (byx_any px py pi qx qy qi _).mono ?_; rintro e ya ⟨rfl, hya⟩; have R0a := R0.keepD hya; have HBa := BlD HB hya)
      | (go_at_call 10; with_reducible refine (rbyx_any px py pi qx qy qi _).mono ?_; rintro e yb ⟨rfl, hyb⟩; have R0b := R0a.keep hyb; have HBb := Bl HBa hyb)
      | (go_at_call 11; with_reducible refine (byy_any px py pi qx qy qi _).mono ?_; rintro e yc ⟨rfl, hyc⟩; have R0c := R0b.keep hyc; have HBc := Bl HBb hyc)
      | (go_at_call 12; with_reducible refine (rbyy_any px py pi qx qy qi _).mono ?_; rintro e yd ⟨rfl, hyd⟩; have R0d := R0c.keep hyd; have HBd := Bl HBc hyd)
      | (go_at_call 13; with_reducible refine (bylo_any sa sb si ta tb ti _).mono ?_; rintro e ye ⟨rfl, hye⟩; have R0e := R0d.keep hye; have HBe := Bl HBd hye)
      | (go_at_call 14; with_reducible refine (rbylo_any sa sb si ta tb ti _).mono ?_; rintro e yf ⟨rfl, hyf⟩; have R0f := R0e.keep hyf; have HBf := Bl HBe hyf)
      | (go_at_call 15; with_reducible refine (byhi_any sa sb si ta tb ti _).mono ?_; rintro e yg ⟨rfl, hyg⟩; have R0g := R0f.keep hyg; have HBg := Bl HBf hyg)
      | (go_at_call 16; with_reducible refine (rbyhi_any sa sb si ta tb ti _).mono ?_; rintro e yh ⟨rfl, hyh⟩; have R0h := R0g.keep hyh; have HBh := Bl HBg hyh))
  replace R0 := R0h
  replace HB := HBh
  clear R0a R0b R0c R0d R0e R0f R0g R0h HBa HBb HBc HBd HBe HBf HBg HBh hya hyb hyc hyd hye hyf hyg hyh
  go_wp2_with fail
  go_region_held3 (fun w' => w'.cell? ⟨w.heap.size, 0, none⟩ = some (.int .i64 px) ∧ w'.cell? ⟨w.heap.size, 1, none⟩ = some (.int .i64 py) ∧ w'.cell? ⟨w.heap.size, 2, none⟩ = some (.int .u32 pi) ∧ w'.cell? ⟨w.heap.size, 6, none⟩ = some (.int .i64 sa) ∧ w'.cell? ⟨w.heap.size, 7, none⟩ = some (.int .i64 sb) ∧ w'.cell? ⟨w.heap.size, 8, none⟩ = some (.int .u32 si) ∧ w'.cell? ⟨w.heap.size, 12, none⟩ = some (.int .i64 b1) ∧ w'.cell? ⟨w.heap.size, 13, none⟩ = some (.int .i64 b2) ∧ w'.cell? ⟨w.heap.size, 14, none⟩ = some (.int .i64 b3) ∧ w'.cell? ⟨w.heap.size, 15, none⟩ = some (.int .i64 b4) ∧ w'.cell? ⟨w.heap.size, 16, none⟩ = some (.int .u32 bj) ∧ w'.cell? ⟨w.heap.size, 17, none⟩ = some (.int .i64 x) ∧ w'.cell? ⟨w.heap.size, 18, none⟩ = some (.int .i64 y)) (first | exact ⟨R0 0 _ rfl, R0 1 _ rfl, R0 2 _ rfl, R0 6 _ rfl, R0 7 _ rfl, R0 8 _ rfl, R0 12 _ rfl, R0 13 _ rfl, R0 14 _ rfl, R0 15 _ rfl, R0 16 _ rfl, R0 17 _ rfl, R0 18 _ rfl⟩ | exact ⟨R0a 0 _ rfl, R0a 1 _ rfl, R0a 2 _ rfl, R0a 6 _ rfl, R0a 7 _ rfl, R0a 8 _ rfl, R0a 12 _ rfl, R0a 13 _ rfl, R0a 14 _ rfl, R0a 15 _ rfl, R0a 16 _ rfl, R0a 17 _ rfl, R0a 18 _ rfl⟩ | exact ⟨R0b 0 _ rfl, R0b 1 _ rfl, R0b 2 _ rfl, R0b 6 _ rfl, R0b 7 _ rfl, R0b 8 _ rfl, R0b 12 _ rfl, R0b 13 _ rfl, R0b 14 _ rfl, R0b 15 _ rfl, R0b 16 _ rfl, R0b 17 _ rfl, R0b 18 _ rfl⟩ | exact ⟨R0c 0 _ rfl, R0c 1 _ rfl, R0c 2 _ rfl, R0c 6 _ rfl, R0c 7 _ rfl, R0c 8 _ rfl, R0c 12 _ rfl, R0c 13 _ rfl, R0c 14 _ rfl, R0c 15 _ rfl, R0c 16 _ rfl, R0c 17 _ rfl, R0c 18 _ rfl⟩ | exact ⟨R0d 0 _ rfl, R0d 1 _ rfl, R0d 2 _ rfl, R0d 6 _ rfl, R0d 7 _ rfl, R0d 8 _ rfl, R0d 12 _ rfl, R0d 13 _ rfl, R0d 14 _ rfl, R0d 15 _ rfl, R0d 16 _ rfl, R0d 17 _ rfl, R0d 18 _ rfl⟩ | exact ⟨R0e 0 _ rfl, R0e 1 _ rfl, R0e 2 _ rfl, R0e 6 _ rfl, R0e 7 _ rfl, R0e 8 _ rfl, R0e 12 _ rfl, R0e 13 _ rfl, R0e 14 _ rfl, R0e 15 _ rfl, R0e 16 _ rfl, R0e 17 _ rfl, R0e 18 _ rfl⟩ | exact ⟨R0f 0 _ rfl, R0f 1 _ rfl, R0f 2 _ rfl, R0f 6 _ rfl, R0f 7 _ rfl, R0f 8 _ rfl, R0f 12 _ rfl, R0f 13 _ rfl, R0f 14 _ rfl, R0f 15 _ rfl, R0f 16 _ rfl, R0f 17 _ rfl, R0f 18 _ rfl⟩ | exact ⟨R0g 0 _ rfl, R0g 1 _ rfl, R0g 2 _ rfl, R0g 6 _ rfl, R0g 7 _ rfl, R0g 8 _ rfl, R0g 12 _ rfl, R0g 13 _ rfl, R0g 14 _ rfl, R0g 15 _ rfl, R0g 16 _ rfl, R0g 17 _ rfl, R0g 18 _ rfl⟩ | exact ⟨R0h 0 _ rfl, R0h 1 _ rfl, R0h 2 _ rfl, R0h 6 _ rfl, R0h 7 _ rfl, R0h 8 _ rfl, R0h 12 _ rfl, R0h 13 _ rfl, R0h 14 _ rfl, R0h 15 _ rfl, R0h 16 _ rfl, R0h 17 _ rfl, R0h 18 _ rfl⟩ | exact ⟨R0i 0 _ rfl, R0i 1 _ rfl, R0i 2 _ rfl, R0i 6 _ rfl, R0i 7 _ rfl, R0i 8 _ rfl, R0i 12 _ rfl, R0i 13 _ rfl, R0i 14 _ rfl, R0i 15 _ rfl, R0i 16 _ rfl, R0i 17 _ rfl, R0i 18 _ rfl⟩ | exact ⟨R0j 0 _ rfl, R0j 1 _ rfl, R0j 2 _ rfl, R0j 6 _ rfl, R0j 7 _ rfl, R0j 8 _ rfl, R0j 12 _ rfl, R0j 13 _ rfl, R0j 14 _ rfl, R0j 15 _ rfl, R0j 16 _ rfl, R0j 17 _ rfl, R0j 18 _ rfl⟩)
    (first
      | (go_at_call 17; with_reducible refine (stab_any sa sb si x _).mono ?_; rintro e ya ⟨rfl, hya⟩; have R0a := R0.keepD hya; have HBa := BlD HB hya)
      | (go_at_call 18; with_reducible refine (rstab_any sa sb si x _).mono ?_; rintro e yb ⟨rfl, hyb⟩; have R0b := R0a.keep hyb; have HBb := Bl HBa hyb)
      | (go_at_call 19; with_reducible refine (meet_any sa sb si x y _).mono ?_; rintro e yc ⟨rfl, hyc⟩; have R0c := R0b.keep hyc; have HBc := Bl HBb hyc)
      | (go_at_call 20; with_reducible refine (rmeet_any sa sb si x y _).mono ?_; rintro e yd ⟨rfl, hyd⟩; have R0d := R0c.keep hyd; have HBd := Bl HBc hyd)
      | (go_at_call 21; with_reducible refine (in_any px py pi b1 b2 b3 b4 bj _).mono ?_; rintro e ye ⟨rfl, hye⟩; have R0e := R0d.keep hye; have HBe := Bl HBd hye)
      | (go_at_call 22; with_reducible refine (rin_any px py pi b1 b2 b3 b4 bj _).mono ?_; rintro e yf ⟨rfl, hyf⟩; have R0f := R0e.keep hyf; have HBf := Bl HBe hyf)
      | (go_at_call 23; with_reducible refine (rs_any sa sb si _).mono ?_; rintro e yg ⟨rfl, hyg⟩; have R0g := R0f.keep hyg; have HBg := Bl HBf hyg)
      | (go_at_call 24; with_reducible refine (rrs_any sa sb si _).mono ?_; rintro e yh ⟨rfl, hyh⟩; have R0h := R0g.keep hyh; have HBh := Bl HBg hyh)
      | (go_at_call 25; with_reducible refine (rb_any b1 b2 b3 b4 bj _).mono ?_; rintro e yi ⟨rfl, hyi⟩; have R0i := R0h.keep hyi; have HBi := Bl HBh hyi)
      | (go_at_call 26; with_reducible refine (rrb_any b1 b2 b3 b4 bj _).mono ?_; rintro e yj ⟨rfl, hyj⟩; have R0j := R0i.keep hyj; have HBj := Bl HBi hyj))
  replace R0 := R0j
  replace HB := HBj
  clear R0a R0b R0c R0d R0e R0f R0g R0h R0i R0j HBa HBb HBc HBd HBe HBf HBg HBh HBi HBj hya hyb hyc hyd hye hyf hyg hyh hyi hyj
  go_wp2_with fail
  go_region_held3 (fun w' => w'.cell? ⟨w.heap.size, 0, none⟩ = some (.int .i64 px) ∧ w'.cell? ⟨w.heap.size, 1, none⟩ = some (.int .i64 py) ∧ w'.cell? ⟨w.heap.size, 2, none⟩ = some (.int .u32 pi) ∧ w'.cell? ⟨w.heap.size, 3, none⟩ = some (.int .i64 qx) ∧ w'.cell? ⟨w.heap.size, 4, none⟩ = some (.int .i64 qy) ∧ w'.cell? ⟨w.heap.size, 5, none⟩ = some (.int .u32 qi) ∧ w'.cell? ⟨w.heap.size, 12, none⟩ = some (.int .i64 b1) ∧ w'.cell? ⟨w.heap.size, 13, none⟩ = some (.int .i64 b2) ∧ w'.cell? ⟨w.heap.size, 14, none⟩ = some (.int .i64 b3) ∧ w'.cell? ⟨w.heap.size, 15, none⟩ = some (.int .i64 b4) ∧ w'.cell? ⟨w.heap.size, 16, none⟩ = some (.int .u32 bj) ∧ w'.cell? ⟨w.heap.size, 17, none⟩ = some (.int .i64 x) ∧ w'.cell? ⟨w.heap.size, 18, none⟩ = some (.int .i64 y)) (first | exact ⟨R0 0 _ rfl, R0 1 _ rfl, R0 2 _ rfl, R0 3 _ rfl, R0 4 _ rfl, R0 5 _ rfl, R0 12 _ rfl, R0 13 _ rfl, R0 14 _ rfl, R0 15 _ rfl, R0 16 _ rfl, R0 17 _ rfl, R0 18 _ rfl⟩ | exact ⟨R0a 0 _ rfl, R0a 1 _ rfl, R0a 2 _ rfl, R0a 3 _ rfl, R0a 4 _ rfl, R0a 5 _ rfl, R0a 12 _ rfl, R0a 13 _ rfl, R0a 14 _ rfl, R0a 15 _ rfl, R0a 16 _ rfl, R0a 17 _ rfl, R0a 18 _ rfl⟩ | exact ⟨R0b 0 _ rfl, R0b 1 _ rfl, R0b 2 _ rfl, R0b 3 _ rfl, R0b 4 _ rfl, R0b 5 _ rfl, R0b 12 _ rfl, R0b 13 _ rfl, R0b 14 _ rfl, R0b 15 _ rfl, R0b 16 _ rfl, R0b 17 _ rfl, R0b 18 _ rfl⟩ | exact ⟨R0c 0 _ rfl, R0c 1 _ rfl, R0c 2 _ rfl, R0c 3 _ rfl, R0c 4 _ rfl, R0c 5 _ rfl, R0c 12 _ rfl, R0c 13 _ rfl, R0c 14 _ rfl, R0c 15 _ rfl, R0c 16 _ rfl, R0c 17 _ rfl, R0c 18 _ rfl⟩ | exact ⟨R0d 0 _ rfl, R0d 1 _ rfl, R0d 2 _ rfl, R0d 3 _ rfl, R0d 4 _ rfl, R0d 5 _ rfl, R0d 12 _ rfl, R0d 13 _ rfl, R0d 14 _ rfl, R0d 15 _ rfl, R0d 16 _ rfl, R0d 17 _ rfl, R0d 18 _ rfl⟩ | exact ⟨R0e 0 _ rfl, R0e 1 _ rfl, R0e 2 _ rfl, R0e 3 _ rfl, R0e 4 _ rfl, R0e 5 _ rfl, R0e 12 _ rfl, R0e 13 _ rfl, R0e 14 _ rfl, R0e 15 _ rfl, R0e 16 _ rfl, R0e 17 _ rfl, R0e 18 _ rfl⟩)
    (first
      | (go_at_call 27; with_reducible refine (over_any px py pi qx qy qi _).mono ?_; rintro e ya ⟨rfl, hya⟩; have R0a := R0.keepD hya; have HBa := BlD HB hya)
      | (go_at_call 28; with_reducible refine (rover_any px py pi qx qy qi _).mono ?_; rintro e yb ⟨rfl, hyb⟩; have R0b := R0a.keep hyb; have HBb := Bl HBa hyb)
      | (go_at_call 29; with_reducible refine (cell_any b1 b2 b3 b4 bj x y _).mono ?_; rintro e yc ⟨rfl, hyc⟩; have R0c := R0b.keep hyc; have HBc := Bl HBb hyc)
      | (go_at_call 30; with_reducible refine (rcell_any b1 b2 b3 b4 bj x y _).mono ?_; rintro e yd ⟨rfl, hyd⟩; have R0d := R0c.keep hyd; have HBd := Bl HBc hyd)
      | (go_at_call 31; with_reducible refine (awake_any _).mono ?_; rintro e ye ⟨rfl, hye⟩; have R0e := R0d.keep hye; have HBe := Bl HBd hye))
  all_goals (go_wp2_with fail; go_ret)
  all_goals exact ⟨rfl, HBe.out⟩

set_option maxRecDepth 100000 in
theorem tells_lifted (os : Os) (started : os.Started) (H : Type) (enc : TypeId × Value → H) :
    ReturnsInHanded {} Try.checked os 3 .any (Rows.itemTellsSpec.pre6 enc Try.prog Try.f3 Rows.itemTellsRow.domain false) (Rows.itemTellsSpec.post enc Try.prog Try.f3 false true false false) := by
  refine returnsInHanded_of_change (C := Try.checked) Try.own started (by kernel_rfl) Try.func3
    (ChangeSpec.witness6 (enc := enc) (C := Try.checked) false ⟨#[], #[.agg #[.int .i64 0, .int .i64 0, .int .u32 0, .int .i64 0, .int .i64 0, .int .u32 0, .int .i64 0, .int .i64 0, .int .u32 0, .int .i64 0, .int .i64 0, .int .u32 0, .int .i64 0, .int .i64 0, .int .i64 0, .int .i64 0, .int .u32 0, .int .i64 0, .int .i64 0]], []⟩ 8 (by kernel_rfl) (by kernel_rfl) (by kernel_rfl) (by kernel_rfl)) ?_
  intro W base args ds gs before hval0 hW hcnd _
  have hval : ∀ (j : Nat) t v, Try.f3.params[j]? = some t → args[j]? = some v → Value.okWide Try.prog W .any base t v := hval0
  have hW' := hW
  obtain ⟨p, q, hA0, hV, rfl, hfz, hnd⟩ := hW
  have hA : DataW.TrodAll enc Try.prog W 0 (fun _ => true) true Try.f3.params.toList args.toList ds p := hA0
  rw [Try.params3] at hA hval
  obtain ⟨v0, vs0, d0, ds0, p0, q0, hargs, rfl, rfl, h0, r0⟩ := trodAll_cons hA
  obtain ⟨rfl, rfl, rfl⟩ := trodAll_nil r0
  obtain rfl : args = #[v0] := by cases args; simp_all
  obtain ⟨rfl, rfl⟩ := trodVars_none hV
  obtain ⟨px, py, pi, qx, qy, qi, sa, sb, si, ta, tb, ti, b1, b2, b3, b4, bj, x, y, rfl, rfl, rfl, wpx, wpy, wpi, wqx, wqy, wqi, wsa, wsb, wsi, wta, wtb, wti, wb1, wb2, wb3, wb4, wbj, wx, wy⟩ := open30 (hval 0 30 v0 rfl rfl) h0
  clear hA0 hval0
  simp only [List.append_nil] at hW'
  refine (tells_walk px py pi qx qy qi sa sb si ta tb ti b1 b2 b3 b4 bj x y W).mono fun e W' ⟨he, hb⟩ => ?_
  subst he
  exact ⟨_, rfl, law_post hW' (trodAll_cons_mk (shut_bool Try.underlying4 _) trodAll_mk0) (trodAll_cons_mk (read30 wpx wpy wpi wqx wqy wqi wsa wsb wsi wta wtb wti wb1 wb2 wb3 wb4 wbj wx wy W' _) trodAll_mk0) rfl hb⟩

theorem tells_holds : Rows.ItemTellsSaid :=
  OpenClaim.holds_of_wide 3 Try.f3 rfl rfl rfl rfl rfl rfl rfl ⟨rfl, rfl, rfl, rfl, rfl⟩ rfl rfl rfl rfl rfl (by kernel_rfl) Try.func3 (by kernel_rfl)
    (of_decide_eq_true (by kernel_rfl)) (by unfold Func.isWrapper; first | (rw [if_pos (by decide +kernel)]; kernel_rfl) | (rw [if_neg (by decide +kernel)]; exact ⟨rfl, rfl⟩))
    (fun os started H enc _ => tells_lifted os started H enc)
end Go.Proofs.Ytpbghgmaikmneaa
