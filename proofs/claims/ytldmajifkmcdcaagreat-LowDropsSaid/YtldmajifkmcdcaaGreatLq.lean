/-
  LowParts: the lowest of two parts beside one another is the lower one of both their lowest; over any tree that tells the lowest.
-/
import Derived.Test.YtldmajifkmcdcaaGreatMLs
import Derived.Test.YtldmajifkmcdcaaGreatLaw
namespace Go.Proofs.YtldmajifkmcdcaaGreat.Lw
open Go.ChangeShapes Go.WideShapes Go.ChangeAt Go.RowKit Go.Joins
set_option maxRecDepth 100000 in
set_option maxHeartbeats 1600000 in
theorem eqT (X : World) (a b c a' b' c' : Int) :
    (binOp .eql 34 (.agg #[.int .i64 a, .int .i64 b, .int .u32 c]) (.agg #[.int .i64 a', .int .i64 b', .int .u32 c'])).run Tryz.prog X = .ok (.bool (decide ((a, b, c) = (a', b', c')))) X := by
  rw [run_eql_struct, run_equalIn_agg (ht := by kernel_rfl) (hp := by kernel_rfl)]
  simp [go_sem, Program.fieldsOf, Op.eqFields]
  by_cases h0 : a = a'
  · by_cases h1 : b = b'
    · by_cases h2 : c = c'
      · simp [h0, h1, h2]
      · simp [h0, h1, h2]
    · simp [h0, h1]
  · simp [h0]
theorem lw_head {A : List S3} (hr : Rg A) {x1 x2 : Int} {s : S3} {k : List S3} (h : lwL x1 x2 A = s :: k) : (s ∈ A ∧ x1 ≤ s.1 ∧ s.1 ≤ x2) ∧ ∀ x ∈ A, x1 ≤ x.1 → x.1 ≤ x2 → x = s ∨ ltL s x = true := by
  refine ⟨mem_lwL.1 (by rw [h]; exact List.mem_cons_self), fun x hx h1 h2 => ?_⟩
  have hm : x ∈ lwL x1 x2 A := mem_lwL.2 ⟨hx, h1, h2⟩
  have hs := lwL_strict (x1 := x1) (x2 := x2) hr
  rw [h] at hm hs
  rcases List.mem_cons.1 hm with rfl | hm
  · exact .inl rfl
  · exact .inr ((List.pairwise_cons.1 hs).1 x hm)
theorem lw_none {A : List S3} {x1 x2 : Int} (h : lwL x1 x2 A = []) : ∀ x ∈ A, ¬ (x1 ≤ x.1 ∧ x.1 ≤ x2) := fun x hx h2 => by
  have : x ∈ lwL x1 x2 A := mem_lwL.2 ⟨hx, h2⟩
  rw [h] at this
  cases this
theorem lw_same {A : List S3} {x1 x2 y1 y2 : Int} (h : ∀ x ∈ A, (x1 ≤ x.1 ∧ x.1 ≤ x2) ↔ (y1 ≤ x.1 ∧ x.1 ≤ y2)) : lwL x1 x2 A = lwL y1 y2 A := by
  unfold lwL
  congr 1
  refine List.filter_congr (fun x hx => ?_)
  unfold inX
  rw [← Bool.decide_and, ← Bool.decide_and]
  exact decide_eq_decide.2 (h x hx)
theorem lw_left {A : List S3} {x1 x2 at_ : Int} (h1 : x1 ≤ at_) (h : lwL x1 at_ A = []) : lwL x1 x2 A = lwL (at_ + 1) x2 A := lw_same (fun x hx => by have := lw_none h x hx; omega)
theorem lw_right {A : List S3} {x1 x2 at_ : Int} (h2 : at_ < x2) (h : lwL (at_ + 1) x2 A = []) : lwL x1 x2 A = lwL x1 at_ A := lw_same (fun x hx => by have := lw_none h x hx; omega)
theorem lw_both {A : List S3} (hr : Rg A) {x1 x2 at_ : Int} (h1 : x1 ≤ at_) (_h2 : at_ < x2) {a b : S3} {l m : List S3} (ha : lwL x1 at_ A = a :: l) (hb : lwL (at_ + 1) x2 A = b :: m) : ∃ k, lwL x1 x2 A = (if ltL b a = true then b else a) :: k := by
  obtain ⟨⟨a1, a2, a3⟩, a4⟩ := lw_head hr ha
  obtain ⟨⟨b1, b2, b3⟩, b4⟩ := lw_head hr hb
  cases hw : lwL x1 x2 A with
  | nil => exact absurd ⟨a2, by omega⟩ (lw_none hw a a1)
  | cons s k =>
    obtain ⟨⟨s1, s2, s3⟩, s4⟩ := lw_head hr hw
    have ea := s4 a a1 (by omega) (by omega)
    have eb := s4 b b1 (by omega) (by omega)
    have hne : b.2.2 ≠ a.2.2 := fun e => by have := hr.names b1 a1 e; subst this; omega
    refine ⟨k, ?_⟩
    congr 1
    by_cases hs : s.1 ≤ at_
    · rcases a4 s s1 s2 hs with e | e
      · subst e
        rcases eb with e | e
        · subst e; omega
        · rw [if_neg (fun h => by rw [ltL_iff] at h e; omega)]
      · rcases ea with e2 | e2
        · subst e2; rw [ltL_iff] at e; omega
        · rw [ltL_iff] at e e2; omega
    · rcases b4 s s1 (by omega) s3 with e | e
      · subst e
        rcases ea with e | e
        · subst e; omega
        · rw [if_pos e]
      · rcases eb with e2 | e2
        · subst e2; rw [ltL_iff] at e; omega
        · rw [ltL_iff] at e e2; omega
/-- what Lowest answers -/
theorem lowest_is {TS : World → Value → Nat → List Nat → List S3 → Prop} {X : World} {v : Value} {n : Nat} {S : List Nat} {A : List S3} (C : LowC TS) (h : TS X v n S A) (x1 x2 : Int) (h1 : (Lit.int .i64 x1).wf = true) (h2 : (Lit.int .i64 x2).wf = true) {p0 p1 p2 : Int} {pb : Bool} (hf : fstL (lwL x1 x2 A) = (.agg #[.int .i64 p0, .int .i64 p1, .int .u32 p2], pb)) :
    Calls Tryz.prog 17 #[v, .int .i64 x1, .int .i64 x2] X fun e X' => (∃ t : Nat, e = .returned (.tuple #[.agg #[.int .i64 p0, .int .i64 p1, .int .u32 p2], .bool pb, .int .i64 t])) ∧ Below X.heap.size X X' := by
  have := C.lowest x1 x2 h h1 h2
  rw [hf] at this
  refine this.mono ?_
  rintro e X' ⟨⟨t, he, -⟩, hb⟩
  exact ⟨⟨t, he⟩, hb⟩
theorem fst_some (L : List S3) : ∃ (p0 p1 p2 : Int) (pb : Bool), fstL L = (.agg #[.int .i64 p0, .int .i64 p1, .int .u32 p2], pb) := by
  cases L with
  | nil => exact ⟨0, 0, 0, false, rfl⟩
  | cons s l => exact ⟨s.1, s.2.1, s.2.2, true, rfl⟩
set_option maxRecDepth 100000 in
set_option maxHeartbeats 12800000 in
theorem parts_walk {TS : World → Value → Nat → List Nat → List S3 → Prop} (C : LowC TS) (w : World) (p : Option Addr) (c : Nat) (L : List S3) (x1 x2 at_ : Int) (hx : TsS w p L) (hc : L.length ≤ c) (hp : p = none → c = 0) (hw : ∀ s ∈ L, Wf3 s) (hw1 : (Lit.int .i64 x1).wf = true) (hw2 : (Lit.int .i64 x2).wf = true) (hw3 : (Lit.int .i64 at_).wf = true) :
    Calls Tryz.prog 6 #[.slice p L.length c, .int .i64 x1, .int .i64 x2, .int .i64 at_] w fun e w' => e = .returned (.bool true) ∧ Below w.heap.size w w' := by
  have HAW := Lib.hid (awake_any C)
  by_cases hgo : L.length ≤ 80 ∧ x1 ≤ at_ ∧ at_ < x2
  · obtain ⟨hbig, hg1, hg2⟩ := hgo
    have hbz : ¬ (80 : Int) < L.length := by omega
    have hg1' : ¬ at_ < x1 := by omega
    have hg2' : ¬ x2 ≤ at_ := by omega
    have HBU := Lib.hid (C.build w p c L hx (by omega) hc hp hw)
    have r1 := i64_range hw1
    have r2 := i64_range hw2
    have r3 := i64_range hw3
    have hw4 : (Lit.int .i64 (at_ + 1)).wf = true := by simp [Lit.wf, show IntKind.i64.min = -9223372036854775808 from rfl, show IntKind.i64.max = 9223372036854775807 from rfl]; omega
    have haw : IntKind.i64.wrap (at_ + 1) = at_ + 1 := IntWalk.i64_in _ (by omega)
    obtain ⟨m, hmm⟩ : ∃ m, m = L.length := ⟨_, rfl⟩
    have HM := Lib.hid hmm
    rw [← hmm] at HBU hbz hbig ⊢
    clear hx hc hp hw hmm
    by_cases hrg : Rg L
    · have HL1 := Lib.hid (fun X v S (h : TS X v m S L) p0 p1 p2 pb (hf : fstL (lwL x1 x2 L) = (.agg #[.int .i64 p0, .int .i64 p1, .int .u32 p2], pb)) => lowest_is C h x1 x2 hw1 hw2 hf)
      have HL2 := Lib.hid (fun X v S (h : TS X v m S L) p0 p1 p2 pb (hf : fstL (lwL x1 at_ L) = (.agg #[.int .i64 p0, .int .i64 p1, .int .u32 p2], pb)) => lowest_is C h x1 at_ hw1 hw3 hf)
      have HL3 := Lib.hid (fun X v S (h : TS X v m S L) p0 p1 p2 pb (hf : fstL (lwL (at_ + 1) x2 L) = (.agg #[.int .i64 p0, .int .i64 p1, .int .u32 p2], pb)) => lowest_is C h (at_ + 1) x2 hw4 hw2 hf)
      have heT := eqT
      cases hA : lwL x1 at_ L with
      | nil =>
        obtain ⟨p0, p1, p2, pb, hf⟩ := fst_some (lwL (at_ + 1) x2 L)
        have HP := Lib.hid (show fstL (lwL x1 x2 L) = _ from (congrArg fstL (lw_left hg1 hA)).trans hf)
        have HQ := Lib.hid (show fstL (lwL x1 at_ L) = (.agg #[.int .i64 0, .int .i64 0, .int .u32 0], false) from congrArg fstL hA)
        have HR := Lib.hid hf
        clear hf hA hw1 hw2 hw3 hw4 r1 r2 r3
        go_enter Tryz.func6, Tryz.ntmps6
        go_upto_region 6 with (go_at_call 10; (with_reducible refine HBU.out.mono ?_); rintro e w1 ⟨hb, hor⟩; rcases hor with ⟨-, v, S, rfl, hT, hS⟩ | ⟨hn', -⟩; rotate_left; (exact absurd hrg hn'); rw [← HM.out] at hT; have HT := Lib.hid hT; have HB := Lib.hid hb; clear hb hT hS)
        go_upto_region 9 with (first
          | (go_at_call 17; (with_reducible refine (HL1.out _ _ _ HT.out _ _ _ _ HP.out).mono ?_); rintro e w2 ⟨⟨t2, rfl⟩, hb⟩; have HN := Lib.hid (T1.new w2 (p0, p1, p2) 34); have hb := hb.alloc (Below.size hb) (.cells #[.int .i64 p0, .int .i64 p1, .int .u32 p2] 34); have HT := Lib.hid (C.bel HT.out hb); have HB := Lib.hid (HB.out.trans (hb.mono HB.out.size)); clear hb HL1)
          | (go_at_call 17; (with_reducible refine (HL2.out _ _ _ HT.out _ _ _ _ HQ.out).mono ?_); rintro e w3 ⟨⟨t3, rfl⟩, hb⟩; have HN2 := Lib.hid (T1.new w3 (0, 0, 0) 34); have hb := hb.alloc (Below.size hb) (.cells #[.int .i64 0, .int .i64 0, .int .u32 0] 34); have HN := Lib.hid (HN.out.keep hb HN.out.lt); have HT := Lib.hid (C.bel HT.out hb); have HB := Lib.hid (HB.out.trans (hb.mono HB.out.size)); clear hb HL2)
          | (go_at_call 17; (with_reducible refine (HL3.out _ _ _ HT.out _ _ _ _ HR.out).mono ?_); rintro e w4 ⟨⟨t4, rfl⟩, hb⟩; have HN3 := Lib.hid (T1.new w4 (p0, p1, p2) 34); have hb := hb.alloc (Below.size hb) (.cells #[.int .i64 p0, .int .i64 p1, .int .u32 p2] 34); have HN := Lib.hid (HN.out.keep hb HN.out.lt); have HN2 := Lib.hid (HN2.out.keep hb HN2.out.lt); have HB := Lib.hid (HB.out.trans (hb.mono HB.out.size)); clear hb HL3))
        have i0 := HN.out.c0
        have i1 := HN.out.c1
        have i2 := HN.out.c2
        have j0 := HN2.out.c0
        have j1 := HN2.out.c1
        have j2 := HN2.out.c2
        have k0 := HN3.out.c0
        have k1 := HN3.out.c1
        have k2 := HN3.out.c2
        obtain ⟨X4, hX4⟩ : ∃ X, X = w4.alloc (.cells #[.int .i64 p0, .int .i64 p1, .int .u32 p2] 34) := ⟨_, rfl⟩
        simp only [Nat.zero_add] at i0 i1 i2 j0 j1 j2 k0 k1 k2
        rw [show w4.alloc (.cells (tvs (p0, p1, p2)).toArray 34) = X4 from hX4.symm] at k0 k1 k2
        rw [← hX4] at i0 i1 i2 j0 j1 j2 HB ⊢
        clear hX4 HN HN2 HN3 HT
        go_wp2_with (go_at_call 9; (with_reducible refine (HAW.out _).mono ?_); rintro e w9 ⟨rfl, hb⟩; have HB := Lib.hid (HB.out.trans (hb.mono HB.out.size)); clear hb)
        go_ret
        exact ⟨rfl, HB.out⟩
      | cons a l =>
        obtain ⟨a0, a1, a2⟩ := a
        have HQ := Lib.hid (show fstL (lwL x1 at_ L) = (.agg #[.int .i64 a0, .int .i64 a1, .int .u32 a2], true) from congrArg fstL hA)
        cases hB : lwL (at_ + 1) x2 L with
        | nil =>
          have HP := Lib.hid (show fstL (lwL x1 x2 L) = (.agg #[.int .i64 a0, .int .i64 a1, .int .u32 a2], true) from (congrArg fstL (lw_right hg2 hB)).trans (congrArg fstL hA))
          have HR := Lib.hid (show fstL (lwL (at_ + 1) x2 L) = (.agg #[.int .i64 0, .int .i64 0, .int .u32 0], false) from congrArg fstL hB)
          clear hA hB hw1 hw2 hw3 hw4 r1 r2 r3
          go_enter Tryz.func6, Tryz.ntmps6
          go_upto_region 6 with (go_at_call 10; (with_reducible refine HBU.out.mono ?_); rintro e w1 ⟨hb, hor⟩; rcases hor with ⟨-, v, S, rfl, hT, hS⟩ | ⟨hn', -⟩; rotate_left; (exact absurd hrg hn'); rw [← HM.out] at hT; have HT := Lib.hid hT; have HB := Lib.hid hb; clear hb hT hS)
          go_upto_region 9 with (first
            | (go_at_call 17; (with_reducible refine (HL1.out _ _ _ HT.out _ _ _ _ HP.out).mono ?_); rintro e w2 ⟨⟨t2, rfl⟩, hb⟩; have HN := Lib.hid (T1.new w2 (a0, a1, a2) 34); have hb := hb.alloc (Below.size hb) (.cells #[.int .i64 a0, .int .i64 a1, .int .u32 a2] 34); have HT := Lib.hid (C.bel HT.out hb); have HB := Lib.hid (HB.out.trans (hb.mono HB.out.size)); clear hb HL1)
            | (go_at_call 17; (with_reducible refine (HL2.out _ _ _ HT.out _ _ _ _ HQ.out).mono ?_); rintro e w3 ⟨⟨t3, rfl⟩, hb⟩; have HN2 := Lib.hid (T1.new w3 (a0, a1, a2) 34); have hb := hb.alloc (Below.size hb) (.cells #[.int .i64 a0, .int .i64 a1, .int .u32 a2] 34); have HN := Lib.hid (HN.out.keep hb HN.out.lt); have HT := Lib.hid (C.bel HT.out hb); have HB := Lib.hid (HB.out.trans (hb.mono HB.out.size)); clear hb HL2)
            | (go_at_call 17; (with_reducible refine (HL3.out _ _ _ HT.out _ _ _ _ HR.out).mono ?_); rintro e w4 ⟨⟨t4, rfl⟩, hb⟩; have HN3 := Lib.hid (T1.new w4 (0, 0, 0) 34); have hb := hb.alloc (Below.size hb) (.cells #[.int .i64 0, .int .i64 0, .int .u32 0] 34); have HN := Lib.hid (HN.out.keep hb HN.out.lt); have HN2 := Lib.hid (HN2.out.keep hb HN2.out.lt); have HB := Lib.hid (HB.out.trans (hb.mono HB.out.size)); clear hb HL3))
          have i0 := HN.out.c0
          have i1 := HN.out.c1
          have i2 := HN.out.c2
          have j0 := HN2.out.c0
          have j1 := HN2.out.c1
          have j2 := HN2.out.c2
          have k0 := HN3.out.c0
          have k1 := HN3.out.c1
          have k2 := HN3.out.c2
          obtain ⟨X4, hX4⟩ : ∃ X, X = w4.alloc (.cells #[.int .i64 0, .int .i64 0, .int .u32 0] 34) := ⟨_, rfl⟩
          simp only [Nat.zero_add] at i0 i1 i2 j0 j1 j2 k0 k1 k2
          rw [show w4.alloc (.cells (tvs (0, 0, 0)).toArray 34) = X4 from hX4.symm] at k0 k1 k2
          rw [← hX4] at i0 i1 i2 j0 j1 j2 HB ⊢
          clear hX4 HN HN2 HN3 HT
          go_wp2_with (go_at_call 9; (with_reducible refine (HAW.out _).mono ?_); rintro e w9 ⟨rfl, hb⟩; have HB := Lib.hid (HB.out.trans (hb.mono HB.out.size)); clear hb)
          go_ret
          exact ⟨rfl, HB.out⟩
        | cons b k =>
          obtain ⟨b0, b1, b2⟩ := b
          have HR := Lib.hid (show fstL (lwL (at_ + 1) x2 L) = (.agg #[.int .i64 b0, .int .i64 b1, .int .u32 b2], true) from congrArg fstL hB)
          obtain ⟨u, hu⟩ := lw_both hrg hg1 hg2 hA hB
          by_cases hlt : ltL (b0, b1, b2) (a0, a1, a2) = true
          · rw [if_pos hlt] at hu
            have HP := Lib.hid (show fstL (lwL x1 x2 L) = (.agg #[.int .i64 b0, .int .i64 b1, .int .u32 b2], true) from congrArg fstL hu)
            rw [ltL_iff] at hlt
            simp only at hlt
            clear hA hB hu hw1 hw2 hw3 hw4 r1 r2 r3
            by_cases hy : b1 < a1
            · clear hlt
              go_enter Tryz.func6, Tryz.ntmps6
              go_upto_region 6 with (go_at_call 10; (with_reducible refine HBU.out.mono ?_); rintro e w1 ⟨hb, hor⟩; rcases hor with ⟨-, v, S, rfl, hT, hS⟩ | ⟨hn', -⟩; rotate_left; (exact absurd hrg hn'); rw [← HM.out] at hT; have HT := Lib.hid hT; have HB := Lib.hid hb; clear hb hT hS)
              go_upto_region 9 with (first
                | (go_at_call 17; (with_reducible refine (HL1.out _ _ _ HT.out _ _ _ _ HP.out).mono ?_); rintro e w2 ⟨⟨t2, rfl⟩, hb⟩; have HN := Lib.hid (T1.new w2 (b0, b1, b2) 34); have hb := hb.alloc (Below.size hb) (.cells #[.int .i64 b0, .int .i64 b1, .int .u32 b2] 34); have HT := Lib.hid (C.bel HT.out hb); have HB := Lib.hid (HB.out.trans (hb.mono HB.out.size)); clear hb HL1)
                | (go_at_call 17; (with_reducible refine (HL2.out _ _ _ HT.out _ _ _ _ HQ.out).mono ?_); rintro e w3 ⟨⟨t3, rfl⟩, hb⟩; have HN2 := Lib.hid (T1.new w3 (a0, a1, a2) 34); have hb := hb.alloc (Below.size hb) (.cells #[.int .i64 a0, .int .i64 a1, .int .u32 a2] 34); have HN := Lib.hid (HN.out.keep hb HN.out.lt); have HT := Lib.hid (C.bel HT.out hb); have HB := Lib.hid (HB.out.trans (hb.mono HB.out.size)); clear hb HL2)
                | (go_at_call 17; (with_reducible refine (HL3.out _ _ _ HT.out _ _ _ _ HR.out).mono ?_); rintro e w4 ⟨⟨t4, rfl⟩, hb⟩; have HN3 := Lib.hid (T1.new w4 (b0, b1, b2) 34); have hb := hb.alloc (Below.size hb) (.cells #[.int .i64 b0, .int .i64 b1, .int .u32 b2] 34); have HN := Lib.hid (HN.out.keep hb HN.out.lt); have HN2 := Lib.hid (HN2.out.keep hb HN2.out.lt); have HB := Lib.hid (HB.out.trans (hb.mono HB.out.size)); clear hb HL3))
              have i0 := HN.out.c0
              have i1 := HN.out.c1
              have i2 := HN.out.c2
              have j0 := HN2.out.c0
              have j1 := HN2.out.c1
              have j2 := HN2.out.c2
              have k0 := HN3.out.c0
              have k1 := HN3.out.c1
              have k2 := HN3.out.c2
              obtain ⟨X4, hX4⟩ : ∃ X, X = w4.alloc (.cells #[.int .i64 b0, .int .i64 b1, .int .u32 b2] 34) := ⟨_, rfl⟩
              simp only [Nat.zero_add] at i0 i1 i2 j0 j1 j2 k0 k1 k2
              rw [show w4.alloc (.cells (tvs (b0, b1, b2)).toArray 34) = X4 from hX4.symm] at k0 k1 k2
              rw [← hX4] at i0 i1 i2 j0 j1 j2 HB ⊢
              clear hX4 HN HN2 HN3 HT
              go_wp2_with (go_at_call 9; (with_reducible refine (HAW.out _).mono ?_); rintro e w9 ⟨rfl, hb⟩; have HB := Lib.hid (HB.out.trans (hb.mono HB.out.size)); clear hb)
              go_ret
              exact ⟨rfl, HB.out⟩
            · obtain ⟨rfl, hid⟩ : b1 = a1 ∧ b2 < a2 := by omega
              clear hlt
              go_enter Tryz.func6, Tryz.ntmps6
              go_upto_region 6 with (go_at_call 10; (with_reducible refine HBU.out.mono ?_); rintro e w1 ⟨hb, hor⟩; rcases hor with ⟨-, v, S, rfl, hT, hS⟩ | ⟨hn', -⟩; rotate_left; (exact absurd hrg hn'); rw [← HM.out] at hT; have HT := Lib.hid hT; have HB := Lib.hid hb; clear hb hT hS)
              go_upto_region 9 with (first
                | (go_at_call 17; (with_reducible refine (HL1.out _ _ _ HT.out _ _ _ _ HP.out).mono ?_); rintro e w2 ⟨⟨t2, rfl⟩, hb⟩; have HN := Lib.hid (T1.new w2 (b0, b1, b2) 34); have hb := hb.alloc (Below.size hb) (.cells #[.int .i64 b0, .int .i64 b1, .int .u32 b2] 34); have HT := Lib.hid (C.bel HT.out hb); have HB := Lib.hid (HB.out.trans (hb.mono HB.out.size)); clear hb HL1)
                | (go_at_call 17; (with_reducible refine (HL2.out _ _ _ HT.out _ _ _ _ HQ.out).mono ?_); rintro e w3 ⟨⟨t3, rfl⟩, hb⟩; have HN2 := Lib.hid (T1.new w3 (a0, b1, a2) 34); have hb := hb.alloc (Below.size hb) (.cells #[.int .i64 a0, .int .i64 b1, .int .u32 a2] 34); have HN := Lib.hid (HN.out.keep hb HN.out.lt); have HT := Lib.hid (C.bel HT.out hb); have HB := Lib.hid (HB.out.trans (hb.mono HB.out.size)); clear hb HL2)
                | (go_at_call 17; (with_reducible refine (HL3.out _ _ _ HT.out _ _ _ _ HR.out).mono ?_); rintro e w4 ⟨⟨t4, rfl⟩, hb⟩; have HN3 := Lib.hid (T1.new w4 (b0, b1, b2) 34); have hb := hb.alloc (Below.size hb) (.cells #[.int .i64 b0, .int .i64 b1, .int .u32 b2] 34); have HN := Lib.hid (HN.out.keep hb HN.out.lt); have HN2 := Lib.hid (HN2.out.keep hb HN2.out.lt); have HB := Lib.hid (HB.out.trans (hb.mono HB.out.size)); clear hb HL3))
              have i0 := HN.out.c0
              have i1 := HN.out.c1
              have i2 := HN.out.c2
              have j0 := HN2.out.c0
              have j1 := HN2.out.c1
              have j2 := HN2.out.c2
              have k0 := HN3.out.c0
              have k1 := HN3.out.c1
              have k2 := HN3.out.c2
              obtain ⟨X4, hX4⟩ : ∃ X, X = w4.alloc (.cells #[.int .i64 b0, .int .i64 b1, .int .u32 b2] 34) := ⟨_, rfl⟩
              simp only [Nat.zero_add] at i0 i1 i2 j0 j1 j2 k0 k1 k2
              rw [show w4.alloc (.cells (tvs (b0, b1, b2)).toArray 34) = X4 from hX4.symm] at k0 k1 k2
              rw [← hX4] at i0 i1 i2 j0 j1 j2 HB ⊢
              clear hX4 HN HN2 HN3 HT
              go_wp2_with (go_at_call 9; (with_reducible refine (HAW.out _).mono ?_); rintro e w9 ⟨rfl, hb⟩; have HB := Lib.hid (HB.out.trans (hb.mono HB.out.size)); clear hb)
              go_ret
              exact ⟨rfl, HB.out⟩
          · rw [if_neg hlt] at hu
            have HP := Lib.hid (show fstL (lwL x1 x2 L) = (.agg #[.int .i64 a0, .int .i64 a1, .int .u32 a2], true) from congrArg fstL hu)
            rw [Bool.not_eq_true, ltL_not] at hlt
            simp only at hlt
            clear hA hB hu hw1 hw2 hw3 hw4 r1 r2 r3
            have hy : ¬ b1 < a1 := by omega
            by_cases he : b1 = a1
            · subst he
              have hid : ¬ b2 < a2 := by omega
              clear hlt
              go_enter Tryz.func6, Tryz.ntmps6
              go_upto_region 6 with (go_at_call 10; (with_reducible refine HBU.out.mono ?_); rintro e w1 ⟨hb, hor⟩; rcases hor with ⟨-, v, S, rfl, hT, hS⟩ | ⟨hn', -⟩; rotate_left; (exact absurd hrg hn'); rw [← HM.out] at hT; have HT := Lib.hid hT; have HB := Lib.hid hb; clear hb hT hS)
              go_upto_region 9 with (first
                | (go_at_call 17; (with_reducible refine (HL1.out _ _ _ HT.out _ _ _ _ HP.out).mono ?_); rintro e w2 ⟨⟨t2, rfl⟩, hb⟩; have HN := Lib.hid (T1.new w2 (a0, b1, a2) 34); have hb := hb.alloc (Below.size hb) (.cells #[.int .i64 a0, .int .i64 b1, .int .u32 a2] 34); have HT := Lib.hid (C.bel HT.out hb); have HB := Lib.hid (HB.out.trans (hb.mono HB.out.size)); clear hb HL1)
                | (go_at_call 17; (with_reducible refine (HL2.out _ _ _ HT.out _ _ _ _ HQ.out).mono ?_); rintro e w3 ⟨⟨t3, rfl⟩, hb⟩; have HN2 := Lib.hid (T1.new w3 (a0, b1, a2) 34); have hb := hb.alloc (Below.size hb) (.cells #[.int .i64 a0, .int .i64 b1, .int .u32 a2] 34); have HN := Lib.hid (HN.out.keep hb HN.out.lt); have HT := Lib.hid (C.bel HT.out hb); have HB := Lib.hid (HB.out.trans (hb.mono HB.out.size)); clear hb HL2)
                | (go_at_call 17; (with_reducible refine (HL3.out _ _ _ HT.out _ _ _ _ HR.out).mono ?_); rintro e w4 ⟨⟨t4, rfl⟩, hb⟩; have HN3 := Lib.hid (T1.new w4 (b0, b1, b2) 34); have hb := hb.alloc (Below.size hb) (.cells #[.int .i64 b0, .int .i64 b1, .int .u32 b2] 34); have HN := Lib.hid (HN.out.keep hb HN.out.lt); have HN2 := Lib.hid (HN2.out.keep hb HN2.out.lt); have HB := Lib.hid (HB.out.trans (hb.mono HB.out.size)); clear hb HL3))
              have i0 := HN.out.c0
              have i1 := HN.out.c1
              have i2 := HN.out.c2
              have j0 := HN2.out.c0
              have j1 := HN2.out.c1
              have j2 := HN2.out.c2
              have k0 := HN3.out.c0
              have k1 := HN3.out.c1
              have k2 := HN3.out.c2
              obtain ⟨X4, hX4⟩ : ∃ X, X = w4.alloc (.cells #[.int .i64 b0, .int .i64 b1, .int .u32 b2] 34) := ⟨_, rfl⟩
              simp only [Nat.zero_add] at i0 i1 i2 j0 j1 j2 k0 k1 k2
              rw [show w4.alloc (.cells (tvs (b0, b1, b2)).toArray 34) = X4 from hX4.symm] at k0 k1 k2
              rw [← hX4] at i0 i1 i2 j0 j1 j2 HB ⊢
              clear hX4 HN HN2 HN3 HT
              go_wp2_with (go_at_call 9; (with_reducible refine (HAW.out _).mono ?_); rintro e w9 ⟨rfl, hb⟩; have HB := Lib.hid (HB.out.trans (hb.mono HB.out.size)); clear hb)
              go_ret
              exact ⟨rfl, HB.out⟩
            · clear hlt
              go_enter Tryz.func6, Tryz.ntmps6
              go_upto_region 6 with (go_at_call 10; (with_reducible refine HBU.out.mono ?_); rintro e w1 ⟨hb, hor⟩; rcases hor with ⟨-, v, S, rfl, hT, hS⟩ | ⟨hn', -⟩; rotate_left; (exact absurd hrg hn'); rw [← HM.out] at hT; have HT := Lib.hid hT; have HB := Lib.hid hb; clear hb hT hS)
              go_upto_region 9 with (first
                | (go_at_call 17; (with_reducible refine (HL1.out _ _ _ HT.out _ _ _ _ HP.out).mono ?_); rintro e w2 ⟨⟨t2, rfl⟩, hb⟩; have HN := Lib.hid (T1.new w2 (a0, a1, a2) 34); have hb := hb.alloc (Below.size hb) (.cells #[.int .i64 a0, .int .i64 a1, .int .u32 a2] 34); have HT := Lib.hid (C.bel HT.out hb); have HB := Lib.hid (HB.out.trans (hb.mono HB.out.size)); clear hb HL1)
                | (go_at_call 17; (with_reducible refine (HL2.out _ _ _ HT.out _ _ _ _ HQ.out).mono ?_); rintro e w3 ⟨⟨t3, rfl⟩, hb⟩; have HN2 := Lib.hid (T1.new w3 (a0, a1, a2) 34); have hb := hb.alloc (Below.size hb) (.cells #[.int .i64 a0, .int .i64 a1, .int .u32 a2] 34); have HN := Lib.hid (HN.out.keep hb HN.out.lt); have HT := Lib.hid (C.bel HT.out hb); have HB := Lib.hid (HB.out.trans (hb.mono HB.out.size)); clear hb HL2)
                | (go_at_call 17; (with_reducible refine (HL3.out _ _ _ HT.out _ _ _ _ HR.out).mono ?_); rintro e w4 ⟨⟨t4, rfl⟩, hb⟩; have HN3 := Lib.hid (T1.new w4 (b0, b1, b2) 34); have hb := hb.alloc (Below.size hb) (.cells #[.int .i64 b0, .int .i64 b1, .int .u32 b2] 34); have HN := Lib.hid (HN.out.keep hb HN.out.lt); have HN2 := Lib.hid (HN2.out.keep hb HN2.out.lt); have HB := Lib.hid (HB.out.trans (hb.mono HB.out.size)); clear hb HL3))
              have i0 := HN.out.c0
              have i1 := HN.out.c1
              have i2 := HN.out.c2
              have j0 := HN2.out.c0
              have j1 := HN2.out.c1
              have j2 := HN2.out.c2
              have k0 := HN3.out.c0
              have k1 := HN3.out.c1
              have k2 := HN3.out.c2
              obtain ⟨X4, hX4⟩ : ∃ X, X = w4.alloc (.cells #[.int .i64 b0, .int .i64 b1, .int .u32 b2] 34) := ⟨_, rfl⟩
              simp only [Nat.zero_add] at i0 i1 i2 j0 j1 j2 k0 k1 k2
              rw [show w4.alloc (.cells (tvs (b0, b1, b2)).toArray 34) = X4 from hX4.symm] at k0 k1 k2
              rw [← hX4] at i0 i1 i2 j0 j1 j2 HB ⊢
              clear hX4 HN HN2 HN3 HT
              go_wp2_with (go_at_call 9; (with_reducible refine (HAW.out _).mono ?_); rintro e w9 ⟨rfl, hb⟩; have HB := Lib.hid (HB.out.trans (hb.mono HB.out.size)); clear hb)
              go_ret
              exact ⟨rfl, HB.out⟩
    · go_enter Tryz.func6, Tryz.ntmps6
      go_wp2_with (first
        | (go_at_call 10; (with_reducible refine HBU.out.mono ?_); rintro e w1 ⟨hb, hor⟩; rcases hor with ⟨hn, -⟩ | ⟨-, v, S, rfl, -, -⟩; (exact absurd hn hrg); have HB := Lib.hid hb; clear hb)
        | (go_at_call 9; (with_reducible refine (HAW.out _).mono ?_); rintro e w9 ⟨rfl, hb⟩; have HB := Lib.hid (HB.out.trans (hb.mono HB.out.size)); clear hb))
      go_ret
      exact ⟨rfl, HB.out⟩
  · clear hx hc hw hp
    generalize L.length = m at *
    by_cases hbz : (80 : Int) < m
    · clear hgo
      go_enter Tryz.func6, Tryz.ntmps6
      go_wp2_with (go_at_call 9; (with_reducible refine (HAW.out _).mono ?_); rintro e w9 ⟨rfl, hb⟩; have HB := Lib.hid hb; clear hb)
      go_ret
      exact ⟨rfl, HB.out⟩
    · by_cases hg1 : at_ < x1
      · clear hgo
        go_enter Tryz.func6, Tryz.ntmps6
        go_wp2_with (go_at_call 9; (with_reducible refine (HAW.out _).mono ?_); rintro e w9 ⟨rfl, hb⟩; have HB := Lib.hid hb; clear hb)
        go_ret
        exact ⟨rfl, HB.out⟩
      · have hg2 : x2 ≤ at_ := by omega
        clear hgo
        go_enter Tryz.func6, Tryz.ntmps6
        go_wp2_with (go_at_call 9; (with_reducible refine (HAW.out _).mono ?_); rintro e w9 ⟨rfl, hb⟩; have HB := Lib.hid hb; clear hb)
        go_ret
        exact ⟨rfl, HB.out⟩
end Go.Proofs.YtldmajifkmcdcaaGreat.Lw
