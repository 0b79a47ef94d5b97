/-
  A frame's Canon and Path. No condition but those typed at each theorem.
-/
import Derived.Test.YtmkmkndcndpfeaaFpath
namespace Go.Proofs.Ytmkmkndcndpfeaa
open Go.RowKit

theorem row_up {w : World} {base base' n : Nat} {e : TypeId} {size : Nat} {v : Value} {xs : List Value} (h : w.ownsRow base e size v n xs) (hb : ∀ k, v.ownBlock = some k → base' ≤ k) : w.ownsRow base' e size v n xs := by
  obtain ⟨h1, h2⟩ := h
  refine ⟨h1, ?_⟩
  rcases h2 with h2 | ⟨g, cap, cur, hv, hg, hr⟩
  · exact .inl h2
  · exact .inr ⟨g, cap, cur, hv, hb g (by rw [hv]; rfl), hr⟩
/-- the canonical nodes of a range of a frame's leaves, and how many are entered -/
def cnF (n x y : Nat) : List Nat × Nat := if x = y then ([], 0) else cn x y (tr n) 0 0
def tup3 (v : Value) (k e : Int) : Value := .tuple #[v, .int .i64 k, .int .i64 e]
def tupP (v : Value) (e : Int) : Value := .tuple #[v, .int .i64 e]

set_option maxRecDepth 100000 in
set_option maxHeartbeats 1600000 in
theorem FCanon_any (w : World) (B n : Nat) (d : Int) (pp : Value) (h : FR w B n d pp) (x y : Nat) (hxy : x ≤ y) (hy : y ≤ n) (hn : n ≤ 1500) :
    Calls Try.prog 12 #[.pointer (some ⟨B, 0, none⟩), .int .i64 x, .int .i64 y] w fun e w' => ∃ v, e = .returned (tup3 v ((cnF n x y).2 : Nat) 0) ∧ w'.ownsRow w.heap.size 3 1 v (cnF n x y).1.length ((ints (cnF n x y).1).map (Value.int .i64)) ∧ Below w.heap.size w w' := by
  have HM := Lib.hid (fmade_yes w B n d pp h)
  have HW := Lib.hid (whole_any w B n d pp h)
  have c4 := h.c4
  have h1 : ¬ (x : Int) < 0 := by omega
  have h2 : ¬ (y : Int) < (x : Int) := by omega
  have h3 : ¬ (n : Int) < (y : Int) := by omega
  clear h
  unfold tup3
  by_cases e : x = y
  · have e2 : cnF n x y = ([], 0) := by unfold cnF; rw [if_pos e]
    rw [e2]
    subst e
    go_enter Try.func12, Try.ntmps12
    go_wp2_with (go_at_call 30; (with_reducible refine HM.out.mono ?_); rintro e w1 ⟨rfl, rfl⟩)
    refine bodyPost_ret (v := .tuple #[.slice none 0 0, .int .i64 0, .int .i64 0]) ?_ rfl ⟨_, rfl, World.ownsRow_nil _ _ _ _, Below.refl _ _⟩
    simp [results, Try.f12, go_sem]
  · have e2 : cnF n x y = cn x y (tr n) 0 0 := by unfold cnF; rw [if_neg e]
    have h4 : ((x : Int) == (y : Int)) = false := by simp; omega
    have HC : Hid (∀ X, Calls Try.prog 32 #[.agg #[.int .i64 0, .int .i64 0, .int .i64 n], .int .i64 x, .int .i64 y, .slice none 0 0] X fun e w' => ∃ v, e = .returned (.tuple #[v, .int .i64 ((cnF n x y).2 : Nat)]) ∧ w'.ownsRow X.heap.size 3 1 v (cnF n x y).1.length ((ints (cnF n x y).1).map (Value.int .i64)) ∧ Below X.heap.size X w') := Lib.hid (fun X => by
      rw [e2]
      refine (canon_part x y (by omega) (by omega) n 0 0 n X (.slice none 0 0) [] (by omega) (by omega) (World.ownsRow_nil _ _ _ _) (by simp; omega) (by omega) (by omega)).mono ?_
      rintro e w' ⟨v, rfl, hc⟩
      refine ⟨v, rfl, ?_, ⟨hc.off.os, hc.off.tape, hc.off.output, hc.off.size, fun k hk => hc.off.block k hk (by simp [Value.ownBlock])⟩⟩
      have h1 := hc.row
      rw [List.nil_append, ints_len] at h1
      refine row_up h1 (fun k hk => ?_)
      rcases hc.own k hk with g | g
      · cases g
      · exact g)
    clear e2 e
    generalize cnF n x y = c at *
    go_enter Try.func12, Try.ntmps12
    go_wp2_with (first
      | (go_at_call 30; (with_reducible refine HM.out.mono ?_); rintro e w1 ⟨rfl, rfl⟩)
      | (go_at_call 31; (with_reducible refine HW.out.mono ?_); rintro e w2 ⟨rfl, hb⟩; have HB1 := Lib.hid hb; clear hb)
      | (go_at_call 32; (with_reducible refine (HC.out _).mono ?_); rintro e w3 ⟨v, rfl, hr, hb⟩; have HR := Lib.hid hr; have HB := Lib.hid (HB1.out.trans (hb.mono HB1.out.size)); clear hb hr))
    have hs := HB1.out.size
    refine bodyPost_ret (v := .tuple #[v, .int .i64 (c.2 : Nat), .int .i64 0]) ?_ rfl ⟨v, rfl, row_up HR.out (fun k hk => Nat.le_trans hs (HR.out.lt k hk).1), HB.out⟩
    simp [results, Try.f12, go_sem]

set_option maxRecDepth 100000 in
set_option maxHeartbeats 1600000 in
theorem FCanon_bad (w : World) (B n : Nat) (d : Int) (pp : Value) (h : FR w B n d pp) (x y : Int) (hxy : ¬ (0 ≤ x ∧ x ≤ y ∧ y ≤ n)) :
    Calls Try.prog 12 #[.pointer (some ⟨B, 0, none⟩), .int .i64 x, .int .i64 y] w fun e w' => e = .returned (tup3 (.slice none 0 0) 0 2) ∧ w' = w := by
  have HM := Lib.hid (fmade_yes w B n d pp h)
  have c4 := h.c4
  clear h
  unfold tup3
  by_cases h1 : x < 0
  · go_enter Try.func12, Try.ntmps12
    go_wp2_with (go_at_call 30; (with_reducible refine HM.out.mono ?_); rintro e w1 ⟨rfl, rfl⟩)
    refine bodyPost_ret (v := .tuple #[.slice none 0 0, .int .i64 0, .int .i64 2]) ?_ rfl ⟨rfl, rfl⟩
    simp [results, Try.f12, go_sem]
  · by_cases h2 : y < x
    · go_enter Try.func12, Try.ntmps12
      go_wp2_with (go_at_call 30; (with_reducible refine HM.out.mono ?_); rintro e w1 ⟨rfl, rfl⟩)
      refine bodyPost_ret (v := .tuple #[.slice none 0 0, .int .i64 0, .int .i64 2]) ?_ rfl ⟨rfl, rfl⟩
      simp [results, Try.f12, go_sem]
    · have h3 : (n : Int) < y := by omega
      go_enter Try.func12, Try.ntmps12
      go_wp2_with (go_at_call 30; (with_reducible refine HM.out.mono ?_); rintro e w1 ⟨rfl, rfl⟩)
      refine bodyPost_ret (v := .tuple #[.slice none 0 0, .int .i64 0, .int .i64 2]) ?_ rfl ⟨rfl, rfl⟩
      simp [results, Try.f12, go_sem]

set_option maxRecDepth 100000 in
set_option maxHeartbeats 1600000 in
theorem FPath_any (w : World) (B n : Nat) (d : Int) (pp : Value) (h : FR w B n d pp) (leaf : Nat) (hl : leaf < n) (hn : n ≤ 1500) :
    Calls Try.prog 15 #[.pointer (some ⟨B, 0, none⟩), .int .i64 leaf] w fun e w' => ∃ v, e = .returned (tupP v 0) ∧ w'.ownsRow w.heap.size 3 1 v (pt leaf (tr n) 0 0).length ((ints (pt leaf (tr n) 0 0)).map (Value.int .i64)) ∧ Below w.heap.size w w' := by
  have HM := Lib.hid (fmade_yes w B n d pp h)
  have HW := Lib.hid (whole_any w B n d pp h)
  have HP := Lib.hid (fun X => path_part X n leaf (by omega) hl)
  have c4 := h.c4
  have h1 : ¬ (leaf : Int) < 0 := by omega
  have h2 : ¬ (n : Int) ≤ (leaf : Int) := by omega
  clear h
  unfold tupP
  generalize pt leaf (tr n) 0 0 = p at *
  go_enter Try.func15, Try.ntmps15
  go_wp2_with (first
    | (go_at_call 30; (with_reducible refine HM.out.mono ?_); rintro e w1 ⟨rfl, rfl⟩)
    | (go_at_call 31; (with_reducible refine HW.out.mono ?_); rintro e w2 ⟨rfl, hb⟩; have HB1 := Lib.hid hb; clear hb)
    | (go_at_call 36; (with_reducible refine (HP.out _).mono ?_); rintro e w3 ⟨v, rfl, hr, hb⟩; have HR := Lib.hid hr; have HB := Lib.hid (HB1.out.trans (hb.mono HB1.out.size)); clear hb hr))
  have hs := HB1.out.size
  go_ret2
  exact ⟨v, rfl, row_up HR.out (fun k hk => Nat.le_trans hs (HR.out.lt k hk).1), HB.out⟩
set_option maxRecDepth 100000 in
theorem FPath_bad (w : World) (B n : Nat) (d : Int) (pp : Value) (h : FR w B n d pp) (leaf : Int) (hl : ¬ (0 ≤ leaf ∧ leaf < n)) :
    Calls Try.prog 15 #[.pointer (some ⟨B, 0, none⟩), .int .i64 leaf] w fun e w' => e = .returned (tupP (.slice none 0 0) 2) ∧ w' = w := by
  have HM := Lib.hid (fmade_yes w B n d pp h)
  have c4 := h.c4
  clear h
  unfold tupP
  by_cases h1 : leaf < 0
  · go_enter Try.func15, Try.ntmps15
    go_wp2_with (go_at_call 30; (with_reducible refine HM.out.mono ?_); rintro e w1 ⟨rfl, rfl⟩)
    go_ret2
    exact ⟨rfl, rfl⟩
  · have h2 : (n : Int) ≤ leaf := by omega
    go_enter Try.func15, Try.ntmps15
    go_wp2_with (go_at_call 30; (with_reducible refine HM.out.mono ?_); rintro e w1 ⟨rfl, rfl⟩)
    go_ret2
    exact ⟨rfl, rfl⟩
end Go.Proofs.Ytmkmkndcndpfeaa
