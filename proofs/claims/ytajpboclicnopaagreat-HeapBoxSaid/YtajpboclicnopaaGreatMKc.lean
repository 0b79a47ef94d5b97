/-
  From the root down: which nodes are entered with two places of their lists, what is told of those that make up the leaves. No condition but those typed at each theorem.
-/
import Derived.Test.YtajpboclicnopaaGreatMKa
import Derived.Test.YtajpboclicnopaaGreatMQ
import Derived.Test.YtajpboclicnopaaGreatMBb
import Derived.Laws.EntriesVeiled
import Derived.Test.YtajpboclicnopaaGreatMP
namespace Go.Proofs.YtajpboclicnopaaGreat.Ca
open Go.RowKit Go.Sort Bd
section
variable {ab kb : Nat} {RX LY A : List S3} {ps : Nat → KtP}
/-- what goes down -/
structure AsK (w : World) (ab kb m cap x y g : Nat) (lb : Array Value) : Prop where
  c0 : w.cell? ⟨ab, 0, none⟩ = some (.slice (some ⟨kb, 0, none⟩) m cap)
  c1 : w.cell? ⟨ab, 1, none⟩ = some (.int .i64 x)
  c2 : w.cell? ⟨ab, 2, none⟩ = some (.int .i64 y)
  c3 : w.cell? ⟨ab, 3, none⟩ = some (.func (.func g) #[] lb)
theorem AsK.keep {w w' : World} {m cap x y g : Nat} {lb : Array Value} (h : AsK w ab kb m cap x y g lb) (hb : Below w.heap.size w w') : AsK w' ab kb m cap x y g lb :=
  have hl := World.block_lt_of_cell? _ _ h.c0
  ⟨(hb.cell (p := ⟨ab, 0, none⟩) hl).trans h.c0, (hb.cell (p := ⟨ab, 1, none⟩) hl).trans h.c1, (hb.cell (p := ⟨ab, 2, none⟩) hl).trans h.c2, (hb.cell (p := ⟨ab, 3, none⟩) hl).trans h.c3⟩
set_option maxRecDepth 100000 in
set_option maxHeartbeats 1600000 in
theorem enter_out {w : World} {m cap x y g k f e p q : Nat} {lb : Array Value} (ha : AsK w ab kb m cap x y g lb) (n3 : w.cell? ⟨kb, k * 14 + 3, none⟩ = some (.int .i64 f)) (n4 : w.cell? ⟨kb, k * 14 + 4, none⟩ = some (.int .i64 e)) (hk : k < m) (h : p = q ∨ e ≤ x ∨ y ≤ f) :
    Calls Tryz.prog 71 #[.pointer (some ⟨ab, 0, none⟩), .int .i64 k, .int .i64 p, .int .i64 q] w fun e' w' => e' = .returned (.int .i64 (1 : Nat)) ∧ Below w.heap.size w w' := by
  have a0 := ha.c0
  have a1 := ha.c1
  have a2 := ha.c2
  clear ha
  by_cases hpq : p = q
  · subst hpq
    go_enter Tryz.func71, Tryz.ntmps71
    go_upto_region 2 with fail
    go_quiet (fail)
    go_wp2
    go_ret
    exact ⟨rfl, drewP (Below.refl _ _)⟩
  · have hpqz : ¬ (p : Int) = q := by omega
    by_cases hex : e ≤ x
    · have hexz : (e : Int) ≤ x := by omega
      go_enter Tryz.func71, Tryz.ntmps71
      go_upto_region 2 with fail
      have inst : Nonempty (Wd (Bw w)) := ⟨⟨w, Below.refl _ _⟩⟩
      have d1 : ∀ z : Wd (Bw w), z.w.cell? ⟨ab, 1, none⟩ = _ := fun z => Bw.cell z a1
      have d2 : ∀ z : Wd (Bw w), z.w.cell? ⟨ab, 2, none⟩ = _ := fun z => Bw.cell z a2
      have d3 : ∀ z : Wd (Bw w), z.w.cell? ⟨kb, k * 14 + 3, none⟩ = _ := fun z => Bw.cell z n3
      have d4 : ∀ z : Wd (Bw w), z.w.cell? ⟨kb, k * 14 + 4, none⟩ = _ := fun z => Bw.cell z n4
      refine wp_region_wd (Bw w) (by kernel_rfl) (by kernel_rfl) ((Below.refl _ w).drew) ?_
      repeat (first | go_big_quiet_step (fail) | quiet_step (fail))
      refine wpQuiet_nil ?_
      rintro _ ⟨z, rfl⟩
      have HB := Lib.hid (show Below w.heap.size w z.w from z.h)
      go_wp2
      go_ret
      exact ⟨rfl, HB.out⟩
    · have hexz : ¬ (e : Int) ≤ x := by omega
      have hyf : (y : Int) ≤ f := by omega
      go_enter Tryz.func71, Tryz.ntmps71
      go_upto_region 2 with fail
      have inst : Nonempty (Wd (Bw w)) := ⟨⟨w, Below.refl _ _⟩⟩
      have d1 : ∀ z : Wd (Bw w), z.w.cell? ⟨ab, 1, none⟩ = _ := fun z => Bw.cell z a1
      have d2 : ∀ z : Wd (Bw w), z.w.cell? ⟨ab, 2, none⟩ = _ := fun z => Bw.cell z a2
      have d3 : ∀ z : Wd (Bw w), z.w.cell? ⟨kb, k * 14 + 3, none⟩ = _ := fun z => Bw.cell z n3
      have d4 : ∀ z : Wd (Bw w), z.w.cell? ⟨kb, k * 14 + 4, none⟩ = _ := fun z => Bw.cell z n4
      refine wp_region_wd (Bw w) (by kernel_rfl) (by kernel_rfl) ((Below.refl _ w).drew) ?_
      repeat (first | go_big_quiet_step (fail) | quiet_step (fail))
      refine wpQuiet_nil ?_
      rintro _ ⟨z, rfl⟩
      have HB := Lib.hid (show Below w.heap.size w z.w from z.h)
      go_wp2
      go_ret
      exact ⟨rfl, HB.out⟩
set_option maxRecDepth 100000 in
set_option maxHeartbeats 1600000 in
theorem enter_tell {w : World} {m cap x y g k f e p q c : Nat} {lb : Array Value} (eg : ∀ args w, (callFunc g args).run Tryz.prog w = .ok (.enter g args) w) (ha : AsK w ab kb m cap x y g lb) (n3 : w.cell? ⟨kb, k * 14 + 3, none⟩ = some (.int .i64 f)) (n4 : w.cell? ⟨kb, k * 14 + 4, none⟩ = some (.int .i64 e)) (hk : k < m)
    (h1 : ¬ (p = q ∨ e ≤ x ∨ y ≤ f)) (h2 : x ≤ f ∧ e ≤ y) (hc : c ≤ 100000) (R : World → Prop)
    (hC : ∀ X, Below w.heap.size w X → Calls Tryz.prog g (#[.pointer (some ⟨kb, k * 14 + 7, none⟩), .int .i64 p, .int .i64 q] ++ lb) X fun e' X' => e' = .returned (.int .i64 c) ∧ R X') :
    Calls Tryz.prog 71 #[.pointer (some ⟨ab, 0, none⟩), .int .i64 k, .int .i64 p, .int .i64 q] w fun e' w' => e' = .returned (.int .i64 (1 + c : Nat)) ∧ R w' := by
  have HA := Lib.hid ha
  have HC := Lib.hid hC
  have a0 := ha.c0
  have a1 := ha.c1
  have a2 := ha.c2
  have hpqz : ¬ (p : Int) = q := by omega
  have hexz : ¬ (e : Int) ≤ x := by omega
  have hyfz : ¬ (y : Int) ≤ f := by omega
  have hxf : (x : Int) ≤ f := by omega
  have hey : (e : Int) ≤ y := by omega
  clear ha hC h1 h2
  go_enter Tryz.func71, Tryz.ntmps71
  go_upto_region 2 with fail
  have inst : Nonempty (Wd (Bw w)) := ⟨⟨w, Below.refl _ _⟩⟩
  have d1 : ∀ z : Wd (Bw w), z.w.cell? ⟨ab, 1, none⟩ = _ := fun z => Bw.cell z a1
  have d2 : ∀ z : Wd (Bw w), z.w.cell? ⟨ab, 2, none⟩ = _ := fun z => Bw.cell z a2
  have d3 : ∀ z : Wd (Bw w), z.w.cell? ⟨kb, k * 14 + 3, none⟩ = _ := fun z => Bw.cell z n3
  have d4 : ∀ z : Wd (Bw w), z.w.cell? ⟨kb, k * 14 + 4, none⟩ = _ := fun z => Bw.cell z n4
  refine wp_region_wd (Bw w) (by kernel_rfl) (by kernel_rfl) ((Below.refl _ w).drew) ?_
  repeat (first | go_big_quiet_step (fail) | quiet_step (fail))
  refine wpQuiet_nil ?_
  rintro _ ⟨z, rfl⟩
  have HB := Lib.hid (show Below w.heap.size w z.w from z.h)
  have HZ := Lib.hid (show z.w.cell? ⟨ab, 1, none⟩ = some (.int .i64 x) ∧ z.w.cell? ⟨ab, 2, none⟩ = some (.int .i64 y) ∧ z.w.cell? ⟨kb, k * 14 + 3, none⟩ = some (.int .i64 f) ∧ z.w.cell? ⟨kb, k * 14 + 4, none⟩ = some (.int .i64 e) from ⟨d1 z, d2 z, d3 z, d4 z⟩)
  generalize z.w = w2 at *
  clear d1 d2 d3 d4 inst a0 a1 a2 n3 n4
  obtain ⟨a1, a2, n3, n4⟩ := HZ.out
  go_upto_region 4 with fail
  have inst : Nonempty (Wd (Bw w2)) := ⟨⟨w2, Below.refl _ _⟩⟩
  have d1 : ∀ z : Wd (Bw w2), z.w.cell? ⟨ab, 1, none⟩ = _ := fun z => Bw.cell z a1
  have d2 : ∀ z : Wd (Bw w2), z.w.cell? ⟨ab, 2, none⟩ = _ := fun z => Bw.cell z a2
  have d3 : ∀ z : Wd (Bw w2), z.w.cell? ⟨kb, k * 14 + 3, none⟩ = _ := fun z => Bw.cell z n3
  have d4 : ∀ z : Wd (Bw w2), z.w.cell? ⟨kb, k * 14 + 4, none⟩ = _ := fun z => Bw.cell z n4
  refine wp_region_wd (Bw w2) (by kernel_rfl) (by kernel_rfl) ((Below.refl _ w2).drew) ?_
  repeat (first | go_big_quiet_step (fail) | quiet_step (fail))
  refine wpQuiet_nil ?_
  rintro _ ⟨z, rfl⟩
  have HB := Lib.hid (HB.out.trans (Below.mono z.h HB.out.size))
  generalize z.w = W at *
  clear d1 d2 d3 d4 inst a1 a2 n3 n4
  go_upto_region 5 with fail
  have a3 := (HA.out.keep HB.out).c3
  have inst : Nonempty (Wd (Bw W)) := ⟨⟨W, Below.refl _ _⟩⟩
  have b3 : ∀ z : Wd (Bw W), z.w.cell? ⟨ab, 3, none⟩ = _ := fun z => Bw.cell z a3
  refine wp_region_qc (Bw W) 9 (by kernel_rfl) (by kernel_rfl) ((Below.refl _ W).drew) ?_
  simp only [List.take_succ_cons, List.take_zero, List.drop_succ_cons, List.drop_zero]
  repeat (first | go_big_quiet_step (fail) | quiet_step (fail))
  refine wpQuiet_nil ?_
  rintro _ ⟨z3, rfl⟩
  refine wpOp_callW rfl rfl (f := g) (args := #[.pointer (some ⟨kb, k * 14 + 7, none⟩), .int .i64 p, .int .i64 q] ++ lb) (by simp [execOp, resolve, invoke, Act.eval, Deferred.ofValue, go_sem, eg]) ?_
  refine (HC.out z3.w (HB.out.trans (Below.mono z3.h HB.out.size))).mono ?_
  rintro e' w5 ⟨rfl, hr⟩
  refine ⟨_, rfl, ?_⟩
  have HR := Lib.hid hr
  clear hr b3 inst
  repeat (first | go_big_quiet_step (fail) | quiet_step (fail))
  refine wpQuiet_nil ?_
  go_wp2
  go_ret
  refine ⟨?_, HR.out⟩
  show Ending.returned (.int .i64 (IntKind.i64.wrap (1 + (c : Int)))) = _
  rw [wrapP (by omega)]
end
end Go.Proofs.YtajpboclicnopaaGreat.Ca
/-
  From the root down: a node over leaves of which some alone are asked for: both kids are entered. No condition but those typed at each theorem.
-/
namespace Go.Proofs.YtajpboclicnopaaGreat.Ca
open Go.RowKit Go.Sort Bd
section
variable {ab kb : Nat} {RX LY A : List S3} {ps : Nat → KtP}
theorem left_bel {w : World} {k : Nat} {n : Nd} {SP : List S3} {kp : KtP} {mid q bq : Nat} (h : KtM w kb k n RX SP A kp (some mid)) (hq : q ≤ SP.length) (hb : brg RX mid SP q = bq) :
    Calls Tryz.prog 68 #[.pointer (some ⟨kb, k * 14, none⟩), .int .i64 q] w fun e w' => e = .returned (.int .i64 (bq : Nat)) ∧ Below w.heap.size w w' :=
  (left_any h hq).mono (fun e w' hh => ⟨by rw [hh.1, hb], by rw [hh.2]; exact Below.refl _ _⟩)
theorem right_bel {w : World} {k : Nat} {n : Nd} {SP : List S3} {kp : KtP} {mid q bq : Nat} (h : KtM w kb k n RX SP A kp (some mid)) (hq : q ≤ SP.length) (hb : q - brg RX mid SP q = bq) :
    Calls Tryz.prog 69 #[.pointer (some ⟨kb, k * 14, none⟩), .int .i64 q] w fun e w' => e = .returned (.int .i64 (bq : Nat)) ∧ Below w.heap.size w w' :=
  (right_any h hq).mono (fun e w' hh => ⟨by rw [hh.1, hb], by rw [hh.2]; exact Below.refl _ _⟩)
set_option maxRecDepth 100000 in
set_option maxHeartbeats 6400000 in
theorem enter_cut {w : World} {m cap x y g k f e p q rl rr mid c1 c2 : Nat} {lb : Array Value} {n : Nd} {SP : List S3} {kp : KtP} (ha : AsK w ab kb m cap x y g lb) (hK : KtM w kb k n RX SP A kp (some mid)) (hn1 : n.2.1 = (rl : Int)) (hn2 : n.2.2.1 = (rr : Int)) (hn3 : n.2.2.2.1 = (f : Int)) (hn4 : n.2.2.2.2.1 = (e : Int)) (hk : k < m)
    (h1 : ¬ (p = q ∨ e ≤ x ∨ y ≤ f)) (h2 : ¬ (x ≤ f ∧ e ≤ y)) (hp : p ≤ SP.length) (hq : q ≤ SP.length) (hc1 : c1 ≤ 1000000) (hc2 : c2 ≤ 1000000) (R1 R2 : World → Prop)
    (hC1 : ∀ X, Below w.heap.size w X → Calls Tryz.prog 71 #[.pointer (some ⟨ab, 0, none⟩), .int .i64 rl, .int .i64 (brg RX mid SP p : Nat), .int .i64 (brg RX mid SP q : Nat)] X fun e' X' => e' = .returned (.int .i64 c1) ∧ R1 X')
    (hR1 : ∀ X, R1 X → KtM X kb k n RX SP A kp (some mid))
    (hC2 : ∀ X, R1 X → ∀ X', Below X.heap.size X X' → Calls Tryz.prog 71 #[.pointer (some ⟨ab, 0, none⟩), .int .i64 rr, .int .i64 (p - brg RX mid SP p : Nat), .int .i64 (q - brg RX mid SP q : Nat)] X' fun e' X'' => e' = .returned (.int .i64 c2) ∧ R2 X'') :
    Calls Tryz.prog 71 #[.pointer (some ⟨ab, 0, none⟩), .int .i64 k, .int .i64 p, .int .i64 q] w fun e' w' => e' = .returned (.int .i64 (1 + c1 + c2 : Nat)) ∧ R2 w' := by
  have HK := Lib.hid hK
  have HR1 := Lib.hid hR1
  have a0 := ha.c0
  have a1 := ha.c1
  have a2 := ha.c2
  have n3 := hK.nd.c3
  have n4 := hK.nd.c4
  rw [hn3] at n3
  rw [hn4] at n4
  have N1 := Lib.hid hn1
  have N2 := Lib.hid hn2
  have hpqz : ¬ (p : Int) = q := by omega
  have hexz : ¬ (e : Int) ≤ x := by omega
  have hyfz : ¬ (y : Int) ≤ f := by omega
  obtain ⟨bp, hbp⟩ : ∃ b, brg RX mid SP p = b := ⟨_, rfl⟩
  obtain ⟨bq, hbq⟩ : ∃ b, brg RX mid SP q = b := ⟨_, rfl⟩
  obtain ⟨sp, hsp⟩ : ∃ b, p - brg RX mid SP p = b := ⟨_, rfl⟩
  obtain ⟨sq, hsq⟩ : ∃ b, q - brg RX mid SP q = b := ⟨_, rfl⟩
  have HLP := Lib.hid (fun X (h : KtM X kb k n RX SP A kp (some mid)) => left_bel h hp hbp)
  have HLQ := Lib.hid (fun X (h : KtM X kb k n RX SP A kp (some mid)) => left_bel h hq hbq)
  have HRP := Lib.hid (fun X (h : KtM X kb k n RX SP A kp (some mid)) => right_bel h hp hsp)
  have HRQ := Lib.hid (fun X (h : KtM X kb k n RX SP A kp (some mid)) => right_bel h hq hsq)
  rw [hbp, hbq] at hC1
  rw [hsp, hsq] at hC2
  have HC1 := Lib.hid hC1
  have HC2 := Lib.hid hC2
  clear hC1 hC2 hR1 hbp hbq hsp hsq hp hq hK ha hn1 hn2 hn3 hn4 h1
  by_cases hxf : x ≤ f
  · have hxfz : (x : Int) ≤ f := by omega
    have heyz : ¬ (e : Int) ≤ y := by omega
    clear h2
    go_enter Tryz.func71, Tryz.ntmps71
    go_upto_region 2 with fail
    have inst : Nonempty (Wd (Bw w)) := ⟨⟨w, Below.refl _ _⟩⟩
    have d1 : ∀ z : Wd (Bw w), z.w.cell? ⟨ab, 1, none⟩ = _ := fun z => Bw.cell z a1
    have d2 : ∀ z : Wd (Bw w), z.w.cell? ⟨ab, 2, none⟩ = _ := fun z => Bw.cell z a2
    have d3 : ∀ z : Wd (Bw w), z.w.cell? ⟨kb, k * 14 + 3, none⟩ = _ := fun z => Bw.cell z n3
    have d4 : ∀ z : Wd (Bw w), z.w.cell? ⟨kb, k * 14 + 4, none⟩ = _ := fun z => Bw.cell z n4
    refine wp_region_wd (Bw w) (by kernel_rfl) (by kernel_rfl) ((Below.refl _ w).drew) ?_
    repeat (first | go_big_quiet_step (fail) | quiet_step (fail))
    refine wpQuiet_nil ?_
    rintro _ ⟨z, rfl⟩
    have HB := Lib.hid (show Below w.heap.size w z.w from z.h)
    have HZ := Lib.hid (show z.w.cell? ⟨ab, 1, none⟩ = some (.int .i64 x) ∧ z.w.cell? ⟨ab, 2, none⟩ = some (.int .i64 y) ∧ z.w.cell? ⟨kb, k * 14 + 3, none⟩ = some (.int .i64 f) ∧ z.w.cell? ⟨kb, k * 14 + 4, none⟩ = some (.int .i64 e) from ⟨d1 z, d2 z, d3 z, d4 z⟩)
    generalize z.w = w2 at *
    clear d1 d2 d3 d4 inst a0 a1 a2 n3 n4
    obtain ⟨a1, a2, n3, n4⟩ := HZ.out
    go_upto_region 4 with fail
    have inst : Nonempty (Wd (Bw w2)) := ⟨⟨w2, Below.refl _ _⟩⟩
    have d1 : ∀ z : Wd (Bw w2), z.w.cell? ⟨ab, 1, none⟩ = _ := fun z => Bw.cell z a1
    have d2 : ∀ z : Wd (Bw w2), z.w.cell? ⟨ab, 2, none⟩ = _ := fun z => Bw.cell z a2
    have d3 : ∀ z : Wd (Bw w2), z.w.cell? ⟨kb, k * 14 + 3, none⟩ = _ := fun z => Bw.cell z n3
    have d4 : ∀ z : Wd (Bw w2), z.w.cell? ⟨kb, k * 14 + 4, none⟩ = _ := fun z => Bw.cell z n4
    refine wp_region_wd (Bw w2) (by kernel_rfl) (by kernel_rfl) ((Below.refl _ w2).drew) ?_
    repeat (first | go_big_quiet_step (fail) | quiet_step (fail))
    refine wpQuiet_nil ?_
    rintro _ ⟨z, rfl⟩
    have HB := Lib.hid (HB.out.trans (Below.mono z.h HB.out.size))
    generalize z.w = W at *
    clear d1 d2 d3 d4 inst a1 a2 n3 n4 HZ
    go_upto_region 6 with fail
    have HKW := Lib.hid (HK.out.keep HB.out)
    have n1 := HKW.out.nd.c1
    rw [N1.out] at n1
    have inst : Nonempty (Wd (Bw W)) := ⟨⟨W, Below.refl _ _⟩⟩
    have b1 : ∀ z : Wd (Bw W), z.w.cell? ⟨kb, k * 14 + 1, none⟩ = _ := fun z => Bw.cell z n1
    have HLP1 := Lib.hid (fun z : Wd (Bw W) => HLP.out z.w (HKW.out.keep z.h))
    have HLQ1 := Lib.hid (fun z : Wd (Bw W) => HLQ.out z.w (HKW.out.keep z.h))
    refine wp_region_qc (Bw W) 12 (by kernel_rfl) (by kernel_rfl) ((Below.refl _ W).drew) ?_
    simp only [List.take_succ_cons, List.take_zero, List.drop_succ_cons, List.drop_zero]
    repeat (first
      | go_big_quiet_step (first | (go_at_call 68; with_reducible exact calls_wd (fun _ _ h hb => h.keep hb) _ (HLP1.out _)) | (go_at_call 68; with_reducible exact calls_wd (fun _ _ h hb => h.keep hb) _ (HLQ1.out _)))
      | quiet_step (first | (go_at_call 68; with_reducible exact calls_wd (fun _ _ h hb => h.keep hb) _ (HLP1.out _)) | (go_at_call 68; with_reducible exact calls_wd (fun _ _ h hb => h.keep hb) _ (HLQ1.out _))))
    refine wpQuiet_nil ?_
    rintro _ ⟨z3, rfl⟩
    refine wpOp_callW rfl rfl (f := 71) (args := #[.pointer (some ⟨ab, 0, none⟩), .int .i64 rl, .int .i64 bp, .int .i64 bq]) (by simp [execOp, resolve, invoke, Act.eval, Deferred.ofValue, go_sem]) ?_
    refine (HC1.out z3.w (HB.out.trans (Below.mono z3.h HB.out.size))).mono ?_
    rintro e' w5 ⟨rfl, hr⟩
    refine ⟨_, rfl, ?_⟩
    have HR := Lib.hid hr
    clear hr b1 n1 inst HLP1 HLQ1 HKW
    repeat (first | go_big_quiet_step (fail) | quiet_step (fail))
    refine wpQuiet_nil ?_
    go_upto_region 7 with fail
    have hw1 : IntKind.i64.wrap (1 + (c1 : Int)) = 1 + (c1 : Int) := wrapP (by omega)
    have HKW := Lib.hid (HR1.out _ HR.out)
    have n2 := HKW.out.nd.c2
    rw [N2.out] at n2
    have inst : Nonempty (Wd (Bw w5)) := ⟨⟨w5, Below.refl _ _⟩⟩
    have b1 : ∀ z : Wd (Bw w5), z.w.cell? ⟨kb, k * 14 + 2, none⟩ = _ := fun z => Bw.cell z n2
    have HLP1 := Lib.hid (fun z : Wd (Bw w5) => HRP.out z.w (HKW.out.keep z.h))
    have HLQ1 := Lib.hid (fun z : Wd (Bw w5) => HRQ.out z.w (HKW.out.keep z.h))
    refine wp_region_any (by kernel_rfl) ?_
    refine wpAny_take (i := 0) (v := .int .i64 c1) rfl (by kernel_rfl) (by kernel_rfl) (by kernel_rfl) (fun _ _ _ h => h) (Or.inl ⟨by rfl, fun X => by simp [execOp, Act.eval, go_sem]⟩) ?_
    refine wpAny_take (i := 1) (v := .int .i64 (1 + (c1 : Int))) rfl (by kernel_rfl) (by kernel_rfl) (by kernel_rfl) (fun _ _ _ h => h) (Or.inl ⟨by rfl, fun X => by simp [execOp, Act.eval, go_sem, hw1]⟩) ?_
    refine wpAny_q2 (Bw w5) 2 14 (by kernel_rfl) (by kernel_rfl) (by kernel_rfl) ((Below.refl _ w5).drew) ?_
    simp only [List.take_succ_cons, List.take_zero, List.drop_succ_cons, List.drop_zero, Nat.reduceSub]
    repeat (first
      | go_big_quiet_step (first | (go_at_call 69; with_reducible exact calls_wd (fun _ _ h hb => h.keep hb) _ (HLP1.out _)) | (go_at_call 69; with_reducible exact calls_wd (fun _ _ h hb => h.keep hb) _ (HLQ1.out _)))
      | quiet_step (first | (go_at_call 69; with_reducible exact calls_wd (fun _ _ h hb => h.keep hb) _ (HLP1.out _)) | (go_at_call 69; with_reducible exact calls_wd (fun _ _ h hb => h.keep hb) _ (HLQ1.out _))))
    refine wpQuiet_nil ?_
    rintro _ ⟨z4, rfl⟩
    refine wpOp_callW rfl rfl (f := 71) (args := #[.pointer (some ⟨ab, 0, none⟩), .int .i64 rr, .int .i64 sp, .int .i64 sq]) (by simp [execOp, resolve, invoke, Act.eval, Deferred.ofValue, go_sem]) ?_
    refine (HC2.out _ HR.out z4.w z4.h).mono ?_
    rintro e' w6 ⟨rfl, hr⟩
    refine ⟨_, rfl, ?_⟩
    have HR2 := Lib.hid hr
    clear hr b1 n2 inst HLP1 HLQ1 HKW
    repeat (first | go_big_quiet_step (fail) | quiet_step (fail))
    refine wpQuiet_nil ?_
    go_wp2
    go_ret
    refine ⟨?_, HR2.out⟩
    have hw2 : IntKind.i64.wrap (1 + (c1 : Int) + (c2 : Int)) = 1 + (c1 : Int) + (c2 : Int) := wrapP (by omega)
    first
      | (show Ending.returned (.int .i64 (IntKind.i64.wrap (1 + (c1 : Int) + (c2 : Int)))) = _; rw [hw2])
      | (show Ending.returned (.int .i64 (IntKind.i64.wrap (IntKind.i64.wrap (1 + (c1 : Int)) + (c2 : Int)))) = _; rw [hw1, hw2])
  · have hxfz : ¬ (x : Int) ≤ f := by omega
    clear h2
    go_enter Tryz.func71, Tryz.ntmps71
    go_upto_region 2 with fail
    have inst : Nonempty (Wd (Bw w)) := ⟨⟨w, Below.refl _ _⟩⟩
    have d1 : ∀ z : Wd (Bw w), z.w.cell? ⟨ab, 1, none⟩ = _ := fun z => Bw.cell z a1
    have d2 : ∀ z : Wd (Bw w), z.w.cell? ⟨ab, 2, none⟩ = _ := fun z => Bw.cell z a2
    have d3 : ∀ z : Wd (Bw w), z.w.cell? ⟨kb, k * 14 + 3, none⟩ = _ := fun z => Bw.cell z n3
    have d4 : ∀ z : Wd (Bw w), z.w.cell? ⟨kb, k * 14 + 4, none⟩ = _ := fun z => Bw.cell z n4
    refine wp_region_wd (Bw w) (by kernel_rfl) (by kernel_rfl) ((Below.refl _ w).drew) ?_
    repeat (first | go_big_quiet_step (fail) | quiet_step (fail))
    refine wpQuiet_nil ?_
    rintro _ ⟨z, rfl⟩
    have HB := Lib.hid (show Below w.heap.size w z.w from z.h)
    have HZ := Lib.hid (show z.w.cell? ⟨ab, 1, none⟩ = some (.int .i64 x) ∧ z.w.cell? ⟨ab, 2, none⟩ = some (.int .i64 y) ∧ z.w.cell? ⟨kb, k * 14 + 3, none⟩ = some (.int .i64 f) ∧ z.w.cell? ⟨kb, k * 14 + 4, none⟩ = some (.int .i64 e) from ⟨d1 z, d2 z, d3 z, d4 z⟩)
    generalize z.w = w2 at *
    clear d1 d2 d3 d4 inst a0 a1 a2 n3 n4
    obtain ⟨a1, a2, n3, n4⟩ := HZ.out
    go_upto_region 4 with fail
    have inst : Nonempty (Wd (Bw w2)) := ⟨⟨w2, Below.refl _ _⟩⟩
    have d1 : ∀ z : Wd (Bw w2), z.w.cell? ⟨ab, 1, none⟩ = _ := fun z => Bw.cell z a1
    have d2 : ∀ z : Wd (Bw w2), z.w.cell? ⟨ab, 2, none⟩ = _ := fun z => Bw.cell z a2
    have d3 : ∀ z : Wd (Bw w2), z.w.cell? ⟨kb, k * 14 + 3, none⟩ = _ := fun z => Bw.cell z n3
    have d4 : ∀ z : Wd (Bw w2), z.w.cell? ⟨kb, k * 14 + 4, none⟩ = _ := fun z => Bw.cell z n4
    refine wp_region_wd (Bw w2) (by kernel_rfl) (by kernel_rfl) ((Below.refl _ w2).drew) ?_
    repeat (first | go_big_quiet_step (fail) | quiet_step (fail))
    refine wpQuiet_nil ?_
    rintro _ ⟨z, rfl⟩
    have HB := Lib.hid (HB.out.trans (Below.mono z.h HB.out.size))
    generalize z.w = W at *
    clear d1 d2 d3 d4 inst a1 a2 n3 n4 HZ
    go_upto_region 6 with fail
    have HKW := Lib.hid (HK.out.keep HB.out)
    have n1 := HKW.out.nd.c1
    rw [N1.out] at n1
    have inst : Nonempty (Wd (Bw W)) := ⟨⟨W, Below.refl _ _⟩⟩
    have b1 : ∀ z : Wd (Bw W), z.w.cell? ⟨kb, k * 14 + 1, none⟩ = _ := fun z => Bw.cell z n1
    have HLP1 := Lib.hid (fun z : Wd (Bw W) => HLP.out z.w (HKW.out.keep z.h))
    have HLQ1 := Lib.hid (fun z : Wd (Bw W) => HLQ.out z.w (HKW.out.keep z.h))
    refine wp_region_qc (Bw W) 12 (by kernel_rfl) (by kernel_rfl) ((Below.refl _ W).drew) ?_
    simp only [List.take_succ_cons, List.take_zero, List.drop_succ_cons, List.drop_zero]
    repeat (first
      | go_big_quiet_step (first | (go_at_call 68; with_reducible exact calls_wd (fun _ _ h hb => h.keep hb) _ (HLP1.out _)) | (go_at_call 68; with_reducible exact calls_wd (fun _ _ h hb => h.keep hb) _ (HLQ1.out _)))
      | quiet_step (first | (go_at_call 68; with_reducible exact calls_wd (fun _ _ h hb => h.keep hb) _ (HLP1.out _)) | (go_at_call 68; with_reducible exact calls_wd (fun _ _ h hb => h.keep hb) _ (HLQ1.out _))))
    refine wpQuiet_nil ?_
    rintro _ ⟨z3, rfl⟩
    refine wpOp_callW rfl rfl (f := 71) (args := #[.pointer (some ⟨ab, 0, none⟩), .int .i64 rl, .int .i64 bp, .int .i64 bq]) (by simp [execOp, resolve, invoke, Act.eval, Deferred.ofValue, go_sem]) ?_
    refine (HC1.out z3.w (HB.out.trans (Below.mono z3.h HB.out.size))).mono ?_
    rintro e' w5 ⟨rfl, hr⟩
    refine ⟨_, rfl, ?_⟩
    have HR := Lib.hid hr
    clear hr b1 n1 inst HLP1 HLQ1 HKW
    repeat (first | go_big_quiet_step (fail) | quiet_step (fail))
    refine wpQuiet_nil ?_
    go_upto_region 7 with fail
    have hw1 : IntKind.i64.wrap (1 + (c1 : Int)) = 1 + (c1 : Int) := wrapP (by omega)
    have HKW := Lib.hid (HR1.out _ HR.out)
    have n2 := HKW.out.nd.c2
    rw [N2.out] at n2
    have inst : Nonempty (Wd (Bw w5)) := ⟨⟨w5, Below.refl _ _⟩⟩
    have b1 : ∀ z : Wd (Bw w5), z.w.cell? ⟨kb, k * 14 + 2, none⟩ = _ := fun z => Bw.cell z n2
    have HLP1 := Lib.hid (fun z : Wd (Bw w5) => HRP.out z.w (HKW.out.keep z.h))
    have HLQ1 := Lib.hid (fun z : Wd (Bw w5) => HRQ.out z.w (HKW.out.keep z.h))
    refine wp_region_any (by kernel_rfl) ?_
    refine wpAny_take (i := 0) (v := .int .i64 c1) rfl (by kernel_rfl) (by kernel_rfl) (by kernel_rfl) (fun _ _ _ h => h) (Or.inl ⟨by rfl, fun X => by simp [execOp, Act.eval, go_sem]⟩) ?_
    refine wpAny_take (i := 1) (v := .int .i64 (1 + (c1 : Int))) rfl (by kernel_rfl) (by kernel_rfl) (by kernel_rfl) (fun _ _ _ h => h) (Or.inl ⟨by rfl, fun X => by simp [execOp, Act.eval, go_sem, hw1]⟩) ?_
    refine wpAny_q2 (Bw w5) 2 14 (by kernel_rfl) (by kernel_rfl) (by kernel_rfl) ((Below.refl _ w5).drew) ?_
    simp only [List.take_succ_cons, List.take_zero, List.drop_succ_cons, List.drop_zero, Nat.reduceSub]
    repeat (first
      | go_big_quiet_step (first | (go_at_call 69; with_reducible exact calls_wd (fun _ _ h hb => h.keep hb) _ (HLP1.out _)) | (go_at_call 69; with_reducible exact calls_wd (fun _ _ h hb => h.keep hb) _ (HLQ1.out _)))
      | quiet_step (first | (go_at_call 69; with_reducible exact calls_wd (fun _ _ h hb => h.keep hb) _ (HLP1.out _)) | (go_at_call 69; with_reducible exact calls_wd (fun _ _ h hb => h.keep hb) _ (HLQ1.out _))))
    refine wpQuiet_nil ?_
    rintro _ ⟨z4, rfl⟩
    refine wpOp_callW rfl rfl (f := 71) (args := #[.pointer (some ⟨ab, 0, none⟩), .int .i64 rr, .int .i64 sp, .int .i64 sq]) (by simp [execOp, resolve, invoke, Act.eval, Deferred.ofValue, go_sem]) ?_
    refine (HC2.out _ HR.out z4.w z4.h).mono ?_
    rintro e' w6 ⟨rfl, hr⟩
    refine ⟨_, rfl, ?_⟩
    have HR2 := Lib.hid hr
    clear hr b1 n2 inst HLP1 HLQ1 HKW
    repeat (first | go_big_quiet_step (fail) | quiet_step (fail))
    refine wpQuiet_nil ?_
    go_wp2
    go_ret
    refine ⟨?_, HR2.out⟩
    have hw2 : IntKind.i64.wrap (1 + (c1 : Int) + (c2 : Int)) = 1 + (c1 : Int) + (c2 : Int) := wrapP (by omega)
    first
      | (show Ending.returned (.int .i64 (IntKind.i64.wrap (1 + (c1 : Int) + (c2 : Int)))) = _; rw [hw2])
      | (show Ending.returned (.int .i64 (IntKind.i64.wrap (IntKind.i64.wrap (1 + (c1 : Int)) + (c2 : Int)))) = _; rw [hw1, hw2])
end
end Go.Proofs.YtajpboclicnopaaGreat.Ca
/-
  From the root down: what is touched, and what is told. No condition but those typed at each theorem.
-/
namespace Go.Proofs.YtajpboclicnopaaGreat.Ca
open Go.RowKit Go.Sort Bd
section
variable {RX LY A : List S3} {P Q : S3 → Bool} {x y : Nat}
theorem en_len : ∀ t b f, (en RX LY P Q x y t b f).1.length ≤ lv t ∧ (en RX LY P Q x y t b f).2 ≤ sz t
  | .lf, b, f => by
    unfold en
    split <;> simp [lv, sz]
  | .nd l r, b, f => by
    have h1 := en_len l b f
    have h2 := en_len r (b + sz l) (f + lv l)
    have h3 := lv_pos l
    have h4 := sz_nd l r
    unfold en
    split
    · simp only [List.length_nil, lv]; omega
    · split
      · simp only [List.length_singleton, lv]; omega
      · simp only [List.length_append, lv]; omega
theorem en_few1 : ∀ t b f, (en RX LY P Q x y t b f).1.length ≤ (cn x y t b f).1.length
  | .lf, b, f => by
    unfold en
    rw [cn]
    split
    · exact Nat.zero_le _
    · rename_i g
      rw [if_neg (fun c => g (.inr c))]
      simp
  | .nd l r, b, f => by
    have h1 := en_few1 l b f
    have h2 := en_few1 r (b + sz l) (f + lv l)
    unfold en
    split
    · exact Nat.zero_le _
    · rename_i g
      split
      · rename_i g2
        rw [cn_in (by simpa only [lv] using g2)]
        simp
      · rename_i g2
        rw [cn_cut (fun c => g (.inr c)) g2]
        simp only [List.length_append]
        omega
/-- how many things are touched: nodes entered, and what is told of them -/
def enS (cost : Nat × Nat × Nat → Nat) (r : List (Nat × Nat × Nat) × Nat) : Nat := r.2 + (r.1.map cost).sum
theorem enS_few {cost : Nat × Nat × Nat → Nat} (hc : ∀ k, cost k ≤ 400) {t : Tr} {b f : Nat} (ht : lv t ≤ 400) : enS cost (en RX LY P Q x y t b f) ≤ 1000000 := by
  have h1 := en_len (RX := RX) (LY := LY) (P := P) (Q := Q) (x := x) (y := y) t b f
  have h2 := sum_cap cost 400 hc (en RX LY P Q x y t b f).1
  have h3 : (en RX LY P Q x y t b f).1.length * 400 ≤ 400 * 400 := Nat.mul_le_mul_right _ (by omega)
  have h4 : sz t = 2 * lv t - 1 := rfl
  unfold enS
  omega
variable {ab kb m cap g : Nat} {lb : Array Value} {ps : Nat → KtP}
theorem enter_any (hDP : ∀ f e, Dn P (SR RX LY f e)) (hDQ : ∀ f e, Dn Q (SR RX LY f e)) (eg : ∀ args w, (callFunc g args).run Tryz.prog w = .ok (.enter g args) w) (J : List (Nat × Nat × Nat) → World → Prop) (cost : Nat × Nat × Nat → Nat)
    (hJb : ∀ T X X', J T X → Below X.heap.size X X' → J T X') (hJa : ∀ T X, J T X → AsK X ab kb m cap x y g lb) (hcost : ∀ k, cost k ≤ 400)
    (M : Nat) (hC : ∀ T kk X, J T X → T.length + 1 ≤ M → NmM X kb (kk.1 * 14 + 7) (SR RX LY kk.2.1 kk.2.2) A (ps kk.1).np → Calls Tryz.prog g (#[.pointer (some ⟨kb, kk.1 * 14 + 7, none⟩), .int .i64 (pre P (SR RX LY kk.2.1 kk.2.2) : Nat), .int .i64 (pre Q (SR RX LY kk.2.1 kk.2.2) : Nat)] ++ lb) X fun e X' => e = .returned (.int .i64 (cost kk : Nat)) ∧ J (T ++ [kk]) X')
    : ∀ (t : Tr) (b f : Nat), rt b t < m → lv t ≤ 400 → (∀ T X, J T X → KnT X kb RX LY A ps t b f) → ∀ T w, J T w → T.length + (en RX LY P Q x y t b f).1.length ≤ M →
    Calls Tryz.prog 71 #[.pointer (some ⟨ab, 0, none⟩), .int .i64 (rt b t : Nat), .int .i64 (pre P (SR RX LY f (f + lv t)) : Nat), .int .i64 (pre Q (SR RX LY f (f + lv t)) : Nat)] w fun e w' => e = .returned (.int .i64 (enS cost (en RX LY P Q x y t b f) : Nat)) ∧ J (T ++ (en RX LY P Q x y t b f).1) w' := by
  intro t
  induction t with
  | lf =>
    intro b f hrm hlv hT T w hJ hM
    have hrb : rt b .lf = b := by simp [rt, lv]
    have hK : KtM w kb b (lfN f) RX (SR RX LY f (f + 1)) A (ps b) none := hT T w hJ
    rw [hrb] at hrm ⊢
    have n3 : w.cell? ⟨kb, b * 14 + 3, none⟩ = some (.int .i64 (f : Nat)) := hK.nd.c3
    have n4 : w.cell? ⟨kb, b * 14 + 4, none⟩ = some (.int .i64 ((f + 1 : Nat) : Int)) := hK.nd.c4
    have ha := hJa T w hJ
    show Calls Tryz.prog 71 #[.pointer (some ⟨ab, 0, none⟩), .int .i64 b, .int .i64 (pre P (SR RX LY f (f + 1)) : Nat), .int .i64 (pre Q (SR RX LY f (f + 1)) : Nat)] w _
    unfold en at hM ⊢
    by_cases h1 : pre P (SR RX LY f (f + 1)) = pre Q (SR RX LY f (f + 1)) ∨ f + 1 ≤ x ∨ y ≤ f
    · rw [if_pos h1]
      refine (enter_out ha n3 n4 hrm h1).mono (fun e w' hh => ⟨by rw [hh.1]; rfl, ?_⟩)
      rw [List.append_nil]
      exact hJb T w w' hJ hh.2
    · rw [if_neg h1] at hM ⊢
      refine (enter_tell eg ha n3 n4 hrm h1 (by omega) (Nat.le_trans (hcost (b, f, f + 1)) (by decide)) (fun X => J (T ++ [(b, f, f + 1)]) X) (fun X hb => hC T (b, f, f + 1) X (hJb T w X hJ hb) (by simpa using hM) (hK.keep hb).nm)).mono (fun e w' hh => ⟨by rw [hh.1]; rfl, hh.2⟩)
  | nd l r ihl ihr =>
    intro b f hrm hlv hT T w hJ hM
    have hlv2 : lv l + lv r ≤ 400 := hlv
    have e2 := rt_nd b l r
    have e3 := rt_lt b l
    have e4 := rt_lt (b + sz l) r
    have p1 := sz_pos l
    have p2 := sz_pos r
    have hK : KtM w kb (b + sz l + sz r) (inN b f l r) RX (SR RX LY f (f + (lv l + lv r))) A (ps (b + sz l + sz r)) (some (f + lv l)) := (hT T w hJ).2.2
    rw [e2] at hrm ⊢
    have n3 : w.cell? ⟨kb, (b + sz l + sz r) * 14 + 3, none⟩ = some (.int .i64 (f : Nat)) := hK.nd.c3
    have n4 : w.cell? ⟨kb, (b + sz l + sz r) * 14 + 4, none⟩ = some (.int .i64 ((f + (lv l + lv r) : Nat) : Int)) := hK.nd.c4
    have ha := hJa T w hJ
    show Calls Tryz.prog 71 #[.pointer (some ⟨ab, 0, none⟩), .int .i64 ((b + sz l + sz r : Nat) : Int), .int .i64 (pre P (SR RX LY f (f + (lv l + lv r))) : Nat), .int .i64 (pre Q (SR RX LY f (f + (lv l + lv r))) : Nat)] w _
    unfold en at hM ⊢
    by_cases h1 : pre P (SR RX LY f (f + (lv l + lv r))) = pre Q (SR RX LY f (f + (lv l + lv r))) ∨ f + (lv l + lv r) ≤ x ∨ y ≤ f
    · rw [if_pos h1]
      refine (enter_out ha n3 n4 hrm h1).mono (fun e w' hh => ⟨by rw [hh.1]; rfl, ?_⟩)
      rw [List.append_nil]
      exact hJb T w w' hJ hh.2
    · rw [if_neg h1] at hM ⊢
      by_cases h2 : x ≤ f ∧ f + (lv l + lv r) ≤ y
      · rw [if_pos h2] at hM ⊢
        refine (enter_tell eg ha n3 n4 hrm h1 h2 (Nat.le_trans (hcost (b + sz l + sz r, f, f + (lv l + lv r))) (by decide)) (fun X => J (T ++ [(b + sz l + sz r, f, f + (lv l + lv r))]) X) (fun X hb => hC T (b + sz l + sz r, f, f + (lv l + lv r)) X (hJb T w X hJ hb) (by simpa using hM) (hK.keep hb).nm)).mono (fun e w' hh => ⟨by rw [hh.1]; rfl, hh.2⟩)
      · rw [if_neg h2] at hM ⊢
        simp only [List.length_append] at hM
        have bP := brg_pre (RX := RX) (LY := LY) (f := f) (m := f + lv l) (e := f + (lv l + lv r)) (hDP _ _) (by omega) (by omega)
        have bQ := brg_pre (RX := RX) (LY := LY) (f := f) (m := f + lv l) (e := f + (lv l + lv r)) (hDQ _ _) (by omega) (by omega)
        have cP := pre_cut (RX := RX) (LY := LY) (f := f) (m := f + lv l) (e := f + (lv l + lv r)) P (by omega) (by omega)
        have cQ := pre_cut (RX := RX) (LY := LY) (f := f) (m := f + lv l) (e := f + (lv l + lv r)) Q (by omega) (by omega)
        have s1 := enS_few (RX := RX) (LY := LY) (P := P) (Q := Q) (x := x) (y := y) hcost (t := l) (b := b) (f := f) (by omega)
        have s2 := enS_few (RX := RX) (LY := LY) (P := P) (Q := Q) (x := x) (y := y) hcost (t := r) (b := b + sz l) (f := f + lv l) (by omega)
        refine (enter_cut (c1 := enS cost (en RX LY P Q x y l b f)) (c2 := enS cost (en RX LY P Q x y r (b + sz l) (f + lv l))) ha hK rfl rfl rfl rfl hrm h1 h2 (pre_le _ _) (pre_le _ _) s1 s2 (fun X => J (T ++ (en RX LY P Q x y l b f).1) X) (fun X => J (T ++ (en RX LY P Q x y l b f).1 ++ (en RX LY P Q x y r (b + sz l) (f + lv l)).1) X) (fun X hb => ?_) (fun X hJX => (hT _ X hJX).2.2) (fun X hJX X' hb => ?_)).mono (fun e w' hh => ⟨?_, ?_⟩)
        · rw [bP, bQ]
          exact ihl b f (by omega) (by omega) (fun T X h => (hT T X h).1) T X (hJb T w X hJ hb) (by omega)
        · rw [bP, bQ, show pre P (SR RX LY f (f + (lv l + lv r))) - pre P (SR RX LY f (f + lv l)) = pre P (SR RX LY (f + lv l) (f + lv l + lv r)) by rw [cP, ← Nat.add_assoc]; omega, show pre Q (SR RX LY f (f + (lv l + lv r))) - pre Q (SR RX LY f (f + lv l)) = pre Q (SR RX LY (f + lv l) (f + lv l + lv r)) by rw [cQ, ← Nat.add_assoc]; omega]
          exact ihr (b + sz l) (f + lv l) (by omega) (by omega) (fun T X h => (hT T X h).2.1) _ X' (hJb _ X X' hJX hb) (by rw [List.length_append]; omega)
        · rw [hh.1]
          congr 2
          unfold enS
          simp only [List.map_append, List.sum_append]
          omega
        · rw [← List.append_assoc]
          exact hh.2
end
end Go.Proofs.YtajpboclicnopaaGreat.Ca
/-
  A tree of points with bridges in memory. No condition but those typed at each theorem.
-/
namespace Go.Proofs.YtajpboclicnopaaGreat.Ca
open Go.RowKit Go.Sort Bd
/-- where a tree lies -/
structure CaP where
  B : Nat
  kb : Nat
  rva : Value
  rvn : Value
  lva : Value
  lvn : Value
  kv : Value
  ps : Nat → KtP
/-- a tree: built of the points RX (by X; LY by Y), of which those of A are there -/
structure CaM (w : World) (P : CaP) (RX LY A : List S3) : Prop where
  ev : EV 82 w P.B [.pointer (some ⟨P.B, 0, none⟩), P.rva, P.rvn, P.lva, P.lvn, P.kv, .int .i64 A.length]
  row : OrR w kx RX P.rva P.rvn
  lst : OrR w ky LY P.lva P.lvn
  kv0 : RX.length = 0 → P.kv = .slice none 0 0
  kv1 : RX.length ≠ 0 → ∃ cap, P.kv = .slice (some ⟨P.kb, 0, none⟩) (2 * RX.length - 1) cap
  kn : RX.length ≠ 0 → KnT w P.kb RX LY A P.ps (tr RX.length) 0 0
  kt : RX.length ≠ 0 → ∃ c, w.heap[P.kb]? = some (.cells c 95 (0, 0))
  dj : Dj P.ps 0 (2 * RX.length - 1)
  pl : PlI RX LY
/-- the blocks of a tree -/
def cblk (P : CaP) (n : Nat) : List Nat := P.B :: (P.rva.ownBlock.toList ++ P.rvn.ownBlock.toList ++ (P.lva.ownBlock.toList ++ P.lvn.ownBlock.toList) ++ (List.range (2 * n - 1)).flatMap (fun k => P.kb :: (mbl (P.ps k).np ++ rol (P.ps k))))
theorem cblk_k {P : CaP} {n k : Nat} (hk : k < 2 * n - 1) {x : Nat} (hx : x = P.kb ∨ x ∈ mbl (P.ps k).np ∨ x ∈ rol (P.ps k)) : x ∈ cblk P n := by
  unfold cblk
  simp only [List.mem_cons, List.mem_append, List.mem_flatMap]
  exact .inr (.inr ⟨k, List.mem_range.2 hk, hx⟩)
section
variable {w w' : World} {P : CaP} {RX LY A : List S3}
theorem sz_tr {n : Nat} (h : n ≠ 0) : sz (tr n) = 2 * n - 1 := by unfold sz; rw [lv_tr (by omega)]
theorem CaM.off (h : CaM w P RX LY A) {S : List Nat} (g : Off S w w') (hS : ∀ k ∈ cblk P RX.length, k ∉ S) : CaM w' P RX LY A := by
  refine ⟨h.ev.off g (hS _ (by simp [cblk])), h.row.off g (fun k hk => hS k (by simp [cblk, hk])) (fun k hk => hS k (by simp [cblk, hk])), h.lst.off g (fun k hk => hS k (by simp [cblk, hk])) (fun k hk => hS k (by simp [cblk, hk])), h.kv0, h.kv1, fun h0 => (h.kn h0).off g (hS _ (cblk_k (k := 0) (by omega) (.inl rfl))) (fun k _ hk => ?_), fun h0 => ?_, h.dj, h.pl⟩
  · rw [sz_tr h0] at hk
    exact ⟨fun x hx => hS x (cblk_k (k := k) (by omega) (.inr (.inl hx))), fun x hx => hS x (cblk_k (k := k) (by omega) (.inr (.inr hx)))⟩
  · obtain ⟨c, e⟩ := h.kt h0
    exact ⟨c, (g.block _ (lt_of_block e) (hS _ (cblk_k (k := 0) (by omega) (.inl rfl)))).trans e⟩
theorem CaM.keep (h : CaM w P RX LY A) (g : Below w.heap.size w w') : CaM w' P RX LY A := h.off (Off.of (S := []) g (Nat.le_refl _)) (by simp)
theorem CaM.lies (h : CaM w P RX LY A) : ∀ k ∈ cblk P RX.length, k < w.heap.size := by
  intro k hk
  unfold cblk at hk
  simp only [List.mem_cons, List.mem_append, List.mem_flatMap, Option.mem_toList, List.mem_range] at hk
  rcases hk with rfl | ((hk | hk) | (hk | hk)) | ⟨j, hj, hk⟩
  · exact h.ev.lt
  · exact (row_lt h.row.ra hk).2
  · exact (row_lt h.row.rn hk).2
  · exact (row_lt h.lst.ra hk).2
  · exact (row_lt h.lst.rn hk).2
  · obtain ⟨n, SP, om, hK⟩ := (h.kn (by omega)).each j (Nat.zero_le _) (by rw [sz_tr (by omega)]; omega)
    rcases hk with rfl | hk | hk
    · exact hK.lt.1
    · exact hK.lt.2.1 k hk
    · exact hK.lt.2.2 k hk
theorem eqSameC (a : Addr) (w : World) : (binOp .eql 49 (.pointer (some a)) (.pointer (some a))).run Tryz.prog w = .ok (.bool true) w := by
  obtain ⟨j, hj⟩ := Option.isSome_iff_exists.1 (show (Tryz.prog.info? 82).isSome = true by kernel_rfl)
  exact run_eql_ptr_same w a Tryz.underlying49 hj
set_option maxRecDepth 100000 in
theorem cmade_yes (h : CaM w P RX LY A) : Calls Tryz.prog 38 #[.pointer (some ⟨P.B, 0, none⟩)] w fun e w' => e = .returned (.bool true) ∧ w' = w := by
  have c0 := h.ev.cell (i := 0) rfl
  have q := @eqSameC
  clear h
  go_enter Tryz.func38, Tryz.ntmps38
  go_wp2
  go_ret
  exact ⟨rfl, rfl⟩
set_option maxRecDepth 100000 in
theorem cmade_nil (w : World) : Calls Tryz.prog 38 #[.pointer none] w fun e w' => e = .returned (.bool false) ∧ w' = w := by
  go_enter Tryz.func38, Tryz.ntmps38
  go_wp2
  go_ret
  exact ⟨rfl, rfl⟩
set_option maxRecDepth 100000 in
theorem root_any (h : CaM w P RX LY A) (h0 : RX.length ≠ 0) : Calls Tryz.prog 40 #[.pointer (some ⟨P.B, 0, none⟩)] w fun e w' => e = .returned (.int .i64 (rt 0 (tr RX.length) : Nat)) ∧ w' = w := by
  obtain ⟨cap, hcap⟩ := h.kv1 h0
  have c5 := h.ev.cell (i := 5) rfl
  rw [hcap] at c5
  have hf := h.pl.few
  have hr : rt 0 (tr RX.length) = 2 * RX.length - 1 - 1 := by unfold rt; rw [lv_tr (by omega)]; omega
  obtain ⟨m, hm⟩ : ∃ m, m = 2 * RX.length - 1 := ⟨_, rfl⟩
  rw [← hm] at c5 hr
  rw [hr]
  have hz : (m : Int) - 1 = (m - 1 : Nat) := by omega
  have hm2 : m ≤ 1000 := by omega
  clear h hcap hr hm
  go_enter Tryz.func40, Tryz.ntmps40
  go_wp2
  go_ret
  exact ⟨by go_num, rfl⟩
set_option maxRecDepth 100000 in
theorem clen_any (h : CaM w P RX LY A) : Calls Tryz.prog 23 #[.pointer (some ⟨P.B, 0, none⟩)] w fun e w' => e = .returned (.int .i64 A.length) ∧ Below w.heap.size w w' := by
  have HM := Lib.hid (cmade_yes h)
  have c6 := h.ev.cell (i := 6) rfl
  clear h
  go_enter Tryz.func23, Tryz.ntmps23
  go_wp2_with (go_at_call 38; (with_reducible refine HM.out.mono ?_); rintro e wM ⟨rfl, hM⟩; subst wM)
  go_ret
  exact ⟨rfl, Below.refl _ _⟩
theorem clen_nil (w : World) : Calls Tryz.prog 23 #[.pointer none] w fun e w' => e = .returned (.int .i64 0) ∧ Below w.heap.size w w' := by
  have HM := Lib.hid (cmade_nil w)
  go_enter Tryz.func23, Tryz.ntmps23
  go_wp2_with (go_at_call 38; (with_reducible refine HM.out.mono ?_); rintro e wM ⟨rfl, hM⟩; subst wM)
  go_ret
  exact ⟨rfl, Below.refl _ _⟩
end
end Go.Proofs.YtajpboclicnopaaGreat.Ca
/-
  What a box has is handed on, node by node (each). No condition but those typed at each theorem.
-/
namespace Go.Proofs.YtajpboclicnopaaGreat.Ca
open Go.RowKit Go.Sort Bd
/-- how many things are touched in all -/
def touT (RX LY : List S3) (b : B4) (cost : Nat × Nat × Nat → Nat) : Nat :=
  btN kx RX b.1 b.2.1 + (if (firstP (RX.map kx) b.1).1 = (aboveP (RX.map kx) b.2.1).1 then 0 else btN ky LY b.2.2.1 b.2.2.2 + enS cost (enB RX LY b))
section
variable {w w' : World} {P : CaP} {RX LY A : List S3}
set_option maxRecDepth 100000 in
set_option maxHeartbeats 6400000 in
theorem ceach_any (h : CaM w P RX LY A) (b : B5) (hx : b.1.1 ≤ b.1.2.1) (hy : b.1.2.2.1 ≤ b.1.2.2.2) (g : Nat) (lb : Array Value) (eg : ∀ args w, (callFunc g args).run Tryz.prog w = .ok (.enter g args) w) (J : List (Nat × Nat × Nat) → World → Prop) (cost : Nat × Nat × Nat → Nat) (hcost : ∀ k, cost k ≤ 400)
    (hJ0 : ∀ X, Below w.heap.size w X → J [] X) (hJb : ∀ T X X', J T X → Below X.heap.size X X' → J T X') (hJt : ∀ T X, J T X → CaM X P RX LY A)
    (hC : ∀ T kk X, J T X → T.length + 1 ≤ 200 → w.heap.size ≤ X.heap.size → NmM X P.kb (kk.1 * 14 + 7) (SR RX LY kk.2.1 kk.2.2) A (P.ps kk.1).np → Calls Tryz.prog g (#[.pointer (some ⟨P.kb, kk.1 * 14 + 7, none⟩), .int .i64 (pre (lo b.1.2.2.1) (SR RX LY kk.2.1 kk.2.2) : Nat), .int .i64 (pre (up b.1.2.2.2) (SR RX LY kk.2.1 kk.2.2) : Nat)] ++ lb) X fun e X' => e = .returned (.int .i64 (cost kk : Nat)) ∧ J (T ++ [kk]) X' ∧ ∃ S, Off S X X' ∧ ∀ m ∈ S, m < w.heap.size ∨ ∃ c, X.heap[m]? = some (.cells c 32 (0, 0))) :
    Calls Tryz.prog 43 #[.pointer (some ⟨P.B, 0, none⟩), bv b, .func (.func g) #[] lb] w fun e w' => e = .returned (.int .i64 (touT RX LY b.1 cost : Nat)) ∧ J (enB RX LY b.1).1 w' := by
  have hf : RX.length ≤ 8192 := Nat.le_trans h.pl.few (by decide)
  have hfl : LY.length ≤ 8192 := by rw [← h.pl.pm.length_eq]; exact hf
  have hlg : lgN (RX.length + 1) ≤ 100 := Nat.le_trans (lgM (by have := h.pl.few; omega) (by omega) : lgN (RX.length + 1) ≤ lgN 401) (by decide)
  have hbx := btN_few h.pl.ox hf b.1.1 b.1.2.1
  have hby := btN_few h.pl.oy hfl b.1.2.2.1 b.1.2.2.2
  rw [← h.pl.pm.length_eq] at hby
  have hle := fst_abv h.pl.ox hf hx
  obtain ⟨aa1, -, -⟩ := abv_parts h.pl.ox hf b.1.2.1
  have HM := Lib.hid (fun X (hb : Below w.heap.size w X) => cmade_yes (h.keep hb))
  have HBT := Lib.hid (fun X (hb : Below w.heap.size w X) => rbetw_any (o := 1) ((h.keep hb).ev.cell (i := 1) rfl) (h.keep hb).row h.pl.ox hf b.1.1 b.1.2.1)
  have HLT := Lib.hid (fun X (hb : Below w.heap.size w X) => rbetw_any (o := 3) ((h.keep hb).ev.cell (i := 3) rfl) (h.keep hb).lst h.pl.oy hfl b.1.2.2.1 b.1.2.2.2)
  have HFP : Hid ((firstP (LY.map ky) b.1.2.2.1).1 = pre (lo b.1.2.2.1) LY) := Lib.hid (fst_pre h.pl.oy hfl _)
  have HAP : Hid ((aboveP (LY.map ky) b.1.2.2.2).1 = pre (up b.1.2.2.2) LY) := Lib.hid (abv_pre h.pl.oy hfl _)
  have HTT : Hid (∀ c, touT RX LY b.1 c = btN kx RX b.1.1 b.1.2.1 + (if (firstP (RX.map kx) b.1.1).1 = (aboveP (RX.map kx) b.1.2.1).1 then 0 else btN ky LY b.1.2.2.1 b.1.2.2.2 + enS c (enB RX LY b.1))) := Lib.hid (fun _ => rfl)
  have HEN : Hid (enB RX LY b.1 = if (firstP (RX.map kx) b.1.1).1 = (aboveP (RX.map kx) b.1.2.1).1 then ([], 0) else en RX LY (lo b.1.2.2.1) (up b.1.2.2.2) (firstP (RX.map kx) b.1.1).1 (aboveP (RX.map kx) b.1.2.1).1 (tr RX.length) 0 0) := Lib.hid rfl
  have H := Lib.hid h
  have c5 := h.ev.cell (i := 5) rfl
  rw [HFP.out, HAP.out] at HLT
  have HRB : Hid (∀ X, Calls Tryz.prog 70 #[bv b] X fun e w' => e = .returned (.bool true) ∧ Below X.heap.size X w') := Lib.hid (fun X => by have := rbox_any X b; rw [decide_eq_true (show b.1.1 ≤ b.1.2.1 ∧ b.1.2.2.1 ≤ b.1.2.2.2 from ⟨hx, hy⟩)] at this; exact this)
  unfold tup4 at HBT HLT
  generalize (firstP (RX.map kx) b.1.1).1 = i0 at *
  generalize (aboveP (RX.map kx) b.1.2.1).1 = j0 at *
  generalize btN kx RX b.1.1 b.1.2.1 = bt at *
  generalize btN ky LY b.1.2.2.1 b.1.2.2.2 = bu at *
  obtain ⟨p0, hp0⟩ : ∃ p, p = pre (lo b.1.2.2.1) LY := ⟨_, rfl⟩
  obtain ⟨q0, hq0⟩ : ∃ q, q = pre (up b.1.2.2.2) LY := ⟨_, rfl⟩
  rw [← hp0, ← hq0] at HLT
  have HP0 := Lib.hid hp0
  have HQ0 := Lib.hid hq0
  have HC := Lib.hid hC
  have HJ0 := Lib.hid hJ0
  have HJb := Lib.hid hJb
  have HJt := Lib.hid hJt
  have HCO := Lib.hid hcost
  have hb1 : bt ≤ 1000 ∧ bu ≤ 1000 := ⟨by omega, by omega⟩
  obtain ⟨hb1, hb2⟩ := hb1
  clear hC hJ0 hJb hJt hcost h hbx hby hlg hp0 hq0 HFP HAP
  obtain ⟨⟨x1, x2, y1, y2⟩, bi⟩ := b
  unfold bv at HRB ⊢
  simp only at hx hy HBT HLT HRB HTT HEN HP0 HQ0 HC ⊢
  go_enter Tryz.func43, Tryz.ntmps43
  obtain ⟨W, hW⟩ : ∃ W, W = w.alloc (.cells #[.int .i64 x1, .int .i64 x2, .int .i64 y1, .int .i64 y2, .int .u32 bi] 54) := ⟨_, rfl⟩
  have hX1 : X1 W w.heap.size 0 ((x1, x2, y1, y2), bi) := hW ▸ X1.new w ((x1, x2, y1, y2), bi) _
  have hWB : Below w.heap.size w W := hW ▸ (Below.refl _ w).alloc (Nat.le_refl _) _
  go_upto_region 1 with fail
  rw [← hW]
  clear hW
  have HWB := Lib.hid hWB
  have k0 := hX1.c0
  have k1 := hX1.c1
  have k2 := hX1.c2
  have k3 := hX1.c3
  have k4 := hX1.c4
  simp only [Nat.zero_add] at k0 k1 k2 k3 k4
  have HMW := Lib.hid (HM.out W hWB)
  go_upto_region 3 with (first
    | (go_at_call 38; (with_reducible refine HMW.out.mono ?_); rintro e wM ⟨rfl, hM⟩; subst wM)
    | (go_at_call 70; (with_reducible refine (HRB.out _).mono ?_); rintro e w1 ⟨rfl, hb⟩; have HB1 := Lib.hid (HWB.out.trans (hb.mono HWB.out.size)); have HBW1 := Lib.hid hb; clear hb))
  have q0' := (HBW1.out.cell (World.block_lt_of_cell? _ _ k0)).trans k0
  have q1' := (HBW1.out.cell (World.block_lt_of_cell? _ _ k1)).trans k1
  have q2' := (HBW1.out.cell (World.block_lt_of_cell? _ _ k2)).trans k2
  have q3' := (HBW1.out.cell (World.block_lt_of_cell? _ _ k3)).trans k3
  clear k0 k1 k2 k3 k4 HMW HWB HBW1 hX1
  have HS1 := Lib.hid HB1.out.size
  have inst : Nonempty (Wd (Bw w1)) := ⟨⟨w1, Below.refl _ _⟩⟩
  have b0 : ∀ z : Wd (Bw w1), z.w.cell? ⟨w.heap.size, 0, none⟩ = _ := fun z => Bw.cell z q0'
  have b1 : ∀ z : Wd (Bw w1), z.w.cell? ⟨w.heap.size, 1, none⟩ = _ := fun z => Bw.cell z q1'
  have HFC := Lib.hid (fun z : Wd (Bw w1) => HBT.out z.w (HB1.out.trans (z.h.mono HS1.out)))
  refine wp_region_wd (Bw w1) (by kernel_rfl) (by kernel_rfl) ((Below.refl _ w1).drew) ?_
  repeat (first
    | go_big_quiet_step (first | (go_at_call 59; with_reducible exact calls_wd (fun _ _ h hb => h.keep hb) _ (HFC.out _)))
    | quiet_step (first | (go_at_call 59; with_reducible exact calls_wd (fun _ _ h hb => h.keep hb) _ (HFC.out _))))
  refine wpQuiet_nil ?_
  rintro _ ⟨z2, rfl⟩
  have HB3 := Lib.hid (HB1.out.trans (z2.h.mono HS1.out))
  have s2 := Bw.cell z2 q2'
  have s3 := Bw.cell z2 q3'
  generalize z2.w = w3 at *
  clear b0 b1 HFC inst q0' q1' q2' q3' HS1
  by_cases hij : i0 = j0
  · subst hij
    go_wp2
    go_ret
    refine ⟨?_, ?_⟩
    · have := HTT.out cost
      simp only [if_true, Nat.add_zero] at this
      rw [this]
      rfl
    · have := HEN.out
      simp only [if_true] at this
      rw [this]
      exact HJ0.out _ HB3.out
  · have hijz : ¬ (i0 : Int) = j0 := by omega
    have hijb : ((i0 : Int) == (j0 : Int)) = false := by rw [beq_eq_false_iff_ne]; omega
    have hn : RX.length ≠ 0 := by omega
    obtain ⟨cap, hcap⟩ := H.out.kv1 hn
    rw [hcap] at c5
    go_upto_region 6 with fail
    have HS3 := Lib.hid HB3.out.size
    have inst : Nonempty (Wd (Bw w3)) := ⟨⟨w3, Below.refl _ _⟩⟩
    have b0 : ∀ z : Wd (Bw w3), z.w.cell? ⟨w.heap.size, 2, none⟩ = _ := fun z => Bw.cell z s2
    have b1 : ∀ z : Wd (Bw w3), z.w.cell? ⟨w.heap.size, 3, none⟩ = _ := fun z => Bw.cell z s3
    have HFC := Lib.hid (fun z : Wd (Bw w3) => HLT.out z.w (HB3.out.trans (z.h.mono HS3.out)))
    refine wp_region_wd (Bw w3) (by kernel_rfl) (by kernel_rfl) ((Below.refl _ w3).drew) ?_
    repeat (first
      | go_big_quiet_step (first | (go_at_call 59; with_reducible exact calls_wd (fun _ _ h hb => h.keep hb) _ (HFC.out _)))
      | quiet_step (first | (go_at_call 59; with_reducible exact calls_wd (fun _ _ h hb => h.keep hb) _ (HFC.out _))))
    refine wpQuiet_nil ?_
    rintro _ ⟨z4, rfl⟩
    have HB4 := Lib.hid (HB3.out.trans (z4.h.mono HS3.out))
    generalize z4.w = w4 at *
    clear b0 b1 HFC inst s2 s3 HS3
    have d5 := (HB4.out.cell (World.block_lt_of_cell? _ _ c5)).trans c5
    generalize hmm : 2 * RX.length - 1 = m at *
    have HMM := Lib.hid hmm
    have hfew := H.out.pl.few
    clear hmm
    go_upto_region 8 with fail
    obtain ⟨X, hXd⟩ : ∃ X, X = w4.alloc (.cells #[.slice (some ⟨P.kb, 0, none⟩) m cap, .int .i64 i0, .int .i64 j0, .func (.func g) #[] lb] 140) := ⟨_, rfl⟩
    have HEA : Hid (EV 140 X w4.heap.size [.slice (some ⟨P.kb, 0, none⟩) m cap, .int .i64 i0, .int .i64 j0, .func (.func g) #[] lb]) := Lib.hid (hXd ▸ heap_alloc_new w4 _)
    have HBX : Hid (Below w.heap.size w X) := Lib.hid (hXd ▸ HB4.out.alloc HB4.out.size _)
    have HAB : Hid (w.heap.size ≤ w4.heap.size) := Lib.hid HB4.out.size
    rw [← hXd]
    obtain ⟨ab, hab⟩ : ∃ ab, ab = w4.heap.size := ⟨_, rfl⟩
    rw [← hab] at HEA HAB ⊢
    clear hXd d5 hab
    have HRT := Lib.hid (root_any (H.out.keep HBX.out) hn)
    have hall : SR RX LY 0 (0 + lv (tr RX.length)) = LY := by rw [lv_tr (by omega), Nat.zero_add]; exact SR_all H.out.pl
    have HGO := Lib.hid (fun w5 (hJ : J [] w5 ∧ EV 140 w5 ab [.slice (some ⟨P.kb, 0, none⟩) m cap, .int .i64 i0, .int .i64 j0, .func (.func g) #[] lb] ∧ w.heap.size ≤ w5.heap.size) => by
      have := enter_any (RX := RX) (LY := LY) (A := A) (P := lo y1) (Q := up y2) (x := i0) (y := j0) (ab := ab) (kb := P.kb) (m := m) (cap := cap) (g := g) (lb := lb) (ps := P.ps) (fun f e => Dn_lo (SR_ord H.out.pl f e) y1) (fun f e => Dn_up (SR_ord H.out.pl f e) y2) eg
        (fun T X => J T X ∧ EV 140 X ab [.slice (some ⟨P.kb, 0, none⟩) m cap, .int .i64 i0, .int .i64 j0, .func (.func g) #[] lb] ∧ w.heap.size ≤ X.heap.size) cost
        (fun T X X' hh hb => ⟨HJb.out T X X' hh.1 hb, hh.2.1.keep hb hh.2.1.lt, Nat.le_trans hh.2.2 hb.size⟩)
        (fun T X hh => ⟨hh.2.1.cell (i := 0) rfl, hh.2.1.cell (i := 1) rfl, hh.2.1.cell (i := 2) rfl, hh.2.1.cell (i := 3) rfl⟩) HCO.out
        200 (fun T kk X hh hM hN => (HC.out T kk X hh.1 hM hh.2.2 hN).mono (fun e X' r => by
          obtain ⟨r1, r2, S, r3, r4⟩ := r
          refine ⟨r1, r2, hh.2.1.off r3 (fun hm => ?_), Nat.le_trans hh.2.2 r3.size⟩
          rcases r4 _ hm with c | ⟨c, e⟩
          · have := HAB.out; omega
          · exact types_ne hh.2.1 e (by decide) rfl))
        (tr RX.length) 0 0 (by have := HMM.out; unfold rt; rw [lv_tr (by omega)]; omega) (by rw [lv_tr (by omega)]; exact hfew) (fun T X hh => (HJt.out T X hh.1).kn hn) [] w5 hJ (by
          have h1 := en_few1 (RX := RX) (LY := LY) (P := lo y1) (Q := up y2) (x := i0) (y := j0) (tr RX.length) 0 0
          have h2 := (cn_few i0 j0 (tr RX.length) 0 0).2.1
          rw [ht_tr (by omega) (by omega)] at h2
          have h3 : lgN RX.length ≤ 9 := Nat.le_trans (lgM (by omega) (by omega) : lgN RX.length ≤ lgN 401) (by decide)
          simp only [List.length_nil]
          omega)
      rw [hall, ← HP0.out, ← HQ0.out, List.nil_append] at this
      exact this)
    have hes := enS_few (RX := RX) (LY := LY) (P := lo y1) (Q := up y2) (x := i0) (y := j0) HCO.out (t := tr RX.length) (b := 0) (f := 0) (by rw [lv_tr (by omega)]; exact hfew)
    have HE2 : Hid (enB RX LY (x1, x2, y1, y2) = en RX LY (lo y1) (up y2) i0 j0 (tr RX.length) 0 0) := Lib.hid (by rw [HEN.out, if_neg hij])
    clear hall
    generalize en RX LY (lo y1) (up y2) i0 j0 (tr RX.length) 0 0 = EN at *
    generalize rt 0 (tr RX.length) = rtn at *
    go_wp2_with (first
      | (go_at_call 40; (with_reducible refine HRT.out.mono ?_); rintro e wR ⟨rfl, hR⟩; subst wR)
      | (go_at_call 71; (with_reducible refine (HGO.out _ ⟨HJ0.out _ HBX.out, HEA.out, HBX.out.size⟩).mono ?_); rintro e w6 ⟨rfl, hj⟩; have HJ6 := Lib.hid hj; clear hj))
    go_ret
    refine ⟨?_, ?_⟩
    · rw [HTT.out, if_neg hij, HE2.out]
      go_num
    · rw [HE2.out]
      exact HJ6.out.1
end
end Go.Proofs.YtajpboclicnopaaGreat.Ca
/-
  Report and Count of a tree with bridges. No condition but those typed at each theorem.
-/
namespace Go.Proofs.YtajpboclicnopaaGreat.Ca
open Go.RowKit Go.Sort Bd
theorem egRc : ∀ args w, (callFunc 44 args).run Tryz.prog w = .ok (.enter 44 args) w := enters_of Tryz.func44 (by kernel_rfl) rfl
/-- who is told at these nodes -/
def tolK (RX LY A : List S3) (b : B4) (T : List (Nat × Nat × Nat)) : List S3 := T.flatMap (btk RX LY A b)
theorem tolK_snoc (RX LY A : List S3) (b : B4) (T : List (Nat × Nat × Nat)) (k : Nat × Nat × Nat) : tolK RX LY A b (T ++ [k]) = tolK RX LY A b T ++ btk RX LY A b k := by
  unfold tolK; rw [List.flatMap_append]; simp
theorem btk_len {RX LY : List S3} (h : PlI RX LY) (A : List S3) (b : B4) (k : Nat × Nat × Nat) : (btk RX LY A b k).length ≤ 400 := Nat.le_trans (sg_len _ _ _ _) (SR_few h _ _)
theorem tolK_len {RX LY : List S3} (h : PlI RX LY) (A : List S3) (b : B4) {T : List (Nat × Nat × Nat)} (hT : T.length ≤ 200) : (tolK RX LY A b T).length ≤ 80000 := by
  unfold tolK
  rw [List.length_flatMap]
  have h1 := sum_cap (fun k => (btk RX LY A b k).length) 400 (btk_len h A b) T
  have h2 : T.length * 400 ≤ 200 * 400 := Nat.mul_le_mul_right _ hT
  omega
/-- while it is reported: the names told so far, the tree -/
structure RcJ (W X : World) (P : CaP) (RX LY A : List S3) (b : B4) (nb : Nat) (T : List (Nat × Nat × Nat)) : Prop where
  box : ∃ v, Bx 43 X nb v ∧ X.ownsRow W.heap.size 32 1 v (ids (tolK RX LY A b T)).length ((ids (tolK RX LY A b T)).map (Value.int .u32))
  tr : CaM X P RX LY A
  off : Off [nb] W X
section
variable {W X : World} {P : CaP} {RX LY A : List S3} {b : B4} {nb : Nat} {T : List (Nat × Nat × Nat)}
theorem RcJ.keep {X' : World} (h : RcJ W X P RX LY A b nb T) (g : Below X.heap.size X X') : RcJ W X' P RX LY A b nb T := by
  obtain ⟨v, h1, h2⟩ := h.box
  exact ⟨⟨v, h1.keep g, row_keep h2 g⟩, h.tr.keep g, h.off.bel g⟩
set_option maxRecDepth 100000 in
set_option maxHeartbeats 1600000 in
theorem rep1c_any (h : RcJ W X P RX LY A b nb T) (hT : T.length + 1 ≤ 200) {kk : Nat × Nat × Nat} {o : Nat} {np : NmP} (hN : NmM X P.kb o (SR RX LY kk.2.1 kk.2.2) A np) (hnb : nb < W.heap.size) (hbk : ∀ x ∈ cblk P RX.length, x ≠ nb ∧ x < W.heap.size) :
    Calls Tryz.prog 44 #[.pointer (some ⟨P.kb, o, none⟩), .int .i64 (pre (lo b.2.2.1) (SR RX LY kk.2.1 kk.2.2) : Nat), .int .i64 (pre (up b.2.2.2) (SR RX LY kk.2.1 kk.2.2) : Nat), .pointer (some ⟨nb, 0, none⟩)] X fun e X' => e = .returned (.int .i64 ((btk RX LY A b kk).length : Nat)) ∧ RcJ W X' P RX LY A b nb (T ++ [kk]) ∧ ∃ S, Off S X X' ∧ ∀ m ∈ S, m < W.heap.size ∨ ∃ c, X.heap[m]? = some (.cells c 32 (0, 0)) := by
  obtain ⟨v, hbx, hrow⟩ := h.box
  have hB := nbetween_any hN (i := pre (lo b.2.2.1) (SR RX LY kk.2.1 kk.2.2)) (j := pre (up b.2.2.2) (SR RX LY kk.2.1 kk.2.2)) (pre_le _ _) (pre_le _ _)
  change Calls _ _ _ _ (fun e w' => (∃ v, e = .returned v ∧ w'.ownsRow X.heap.size 32 1 v (btk RX LY A b kk).length ((ids (btk RX LY A b kk)).map (Value.int .u32))) ∧ Below X.heap.size X w') at hB
  have HB := Lib.hid hB
  have hbl := btk_len h.tr.pl A b kk
  have htl := tolK_len h.tr.pl A b (T := T) (by omega)
  have HTS := Lib.hid (tolK_snoc RX LY A b T kk)
  have H := Lib.hid h
  have HBX := Lib.hid hbx
  have HROW := Lib.hid hrow
  have HBK := Lib.hid hbk
  have HS := Lib.hid (show W.heap.size ≤ X.heap.size ∧ nb < W.heap.size from ⟨h.off.size, hnb⟩)
  have n0 := hbx.cell
  generalize btk RX LY A b kk = U at *
  generalize hTT : tolK RX LY A b T = TT at *
  generalize pre (lo b.2.2.1) (SR RX LY kk.2.1 kk.2.2) = i at *
  generalize pre (up b.2.2.2) (SR RX LY kk.2.1 kk.2.2) = j at *
  obtain ⟨ul, hul⟩ : ∃ ul, ul = U.length := ⟨_, rfl⟩
  have HUL := Lib.hid hul
  rw [← hul] at HB hbl ⊢
  clear h hbx hrow hnb hbk hN hB hul
  go_enter Tryz.func44, Tryz.ntmps44
  go_wp2_with (first
    | (go_at_call 45; (with_reducible refine HB.out.mono ?_); rintro e w1 ⟨⟨v2, rfl, hr2⟩, hb⟩; obtain ⟨hl2, p2, c2, rfl, hn2, hp2, hc2⟩ := row_u (k := .u32) (xs := ids U) hr2; have HB1 := Lib.hid hb; have HSRC := Lib.hid (NS.src (c := c2) hn2 hp2); have m0 := (hb.cell (World.block_lt_of_cell? _ _ n0)).trans n0; have HR1 := Lib.hid (row_keep HROW.out hb); clear hb hr2 hn2 hp2)
    | (at_builtin; refine wpList_list info_u rfl (by decide) (by decide) under_u _ rfl (.tmp 13) (.tmp 14) rfl W.heap.size v (ids TT).length _ (by simp [Act.eval]) HR1.out p2 ul c2 ((ids U).map (Value.int .u32)) (by simp [Act.eval]) (by rw [List.length_map, ids_len, HUL.out]; simp) (by have := HSRC.out; rw [ids_len, ← HUL.out] at this; exact this) (ints_one _ _) (by simp only [ids_len]; omega) (by have := HS.out.1; have := HB1.out.size; omega) ?_; intro v' w' h1 h2 _; rw [← List.map_append] at h1; have h1' := h1; rw [show (ids TT).length + ul = (ids (TT ++ U)).length by rw [ids_app, List.length_append, ids_len U, HUL.out], ← ids_app] at h1'; obtain ⟨-, p3, c3, rfl, -, -, -⟩ := row_u h1'; have hbx2 : Bx 43 w' nb v := (h2.block nb (HBX.out.keep HB1.out).lt (fun e => by have := (row_lt HR1.out e.symm).1; have := HS.out.2; omega)).trans (HBX.out.keep HB1.out); have c1 := hbx2.cell; have c2' := hbx2.free; have HBX2 := Lib.hid hbx2; have H1 := Lib.hid h1'; have HO2 := Lib.hid ((Off.of (S := v.ownBlock.toList) HB1.out (Nat.le_refl _)).grow h2 (fun k e => .inl (by simp [e]))); clear h1 h1' h2 hbx2))
  go_ret
  obtain ⟨s1, s2⟩ := HS.out
  have hset := (Off.refl [nb] w').set ⟨nb, 0, none⟩ (.slice p3 (ids (TT ++ U)).length c3) (.inl (by simp))
  have hown : ∀ m, v.ownBlock = some m → W.heap.size ≤ m ∧ ∃ c, X.heap[m]? = some (.cells c 32 (0, 0)) := fun m hm => ⟨(row_lt HROW.out hm).1, row_type HROW.out hm⟩
  have hoff : Off (nb :: v.ownBlock.toList) X (w'.setCell ⟨nb, 0, none⟩ (.slice p3 (ids (TT ++ U)).length c3)) := (HO2.out.mono (T := nb :: v.ownBlock.toList) (fun k _ hk => List.mem_cons_of_mem _ hk)).set _ _ (.inl (by simp))
  have hne : ∀ m, m ∈ (nb :: v.ownBlock.toList) → m = nb ∨ W.heap.size ≤ m := fun m hm => by
    rcases List.mem_cons.1 hm with rfl | hm
    · exact .inl rfl
    · exact .inr (hown m (by simpa using hm)).1
  refine ⟨rfl, ⟨⟨_, HBX2.out.set _, ?_⟩, H.out.tr.off hoff (fun k hk hm => (hne _ hm).elim (HBK.out k hk).1 (fun h => by have := (HBK.out k hk).2; omega)), H.out.off.via hoff (fun m hm hin => (hne m hin).elim (fun e => by simp [e]) (fun e => by omega))⟩, _, hoff, fun m hm => ?_⟩
  · rw [HTS.out]
    exact row_off H1.out hset (by simp; exact s2)
  · rcases List.mem_cons.1 hm with rfl | hm
    · exact .inl s2
    · exact .inr (hown m (by simpa using hm)).2
end
end Go.Proofs.YtajpboclicnopaaGreat.Ca
/-
  Report and Count of a tree with bridges: what is told, and how many things are touched. No condition but those typed at each theorem.
-/
namespace Go.Proofs.YtajpboclicnopaaGreat.Ca
open Go.RowKit Go.Sort Bd
section
variable {w : World} {P : CaP} {RX LY A : List S3}
/-- what is touched to report, and to count -/
theorem tou_few (h : PlI RX LY) (hA : A.Nodup) (hs : ∀ s ∈ A, s ∈ RX) {b : B4} (hx : b.1 ≤ b.2.1) (hy : b.2.2.1 ≤ b.2.2.2) :
    ((hsS A b).length ≤ touT RX LY b (fun k => (btk RX LY A b k).length) ∧ touT RX LY b (fun k => (btk RX LY A b k).length) ≤ (hsS A b).length + most RX.length) ∧ touT RX LY b (fun _ => 0) ≤ most RX.length := by
  have hf : RX.length ≤ 8192 := Nat.le_trans h.few (by decide)
  have hfl : LY.length ≤ 8192 := by rw [← h.pm.length_eq]; exact hf
  have hbx := btN_few h.ox hf b.1 b.2.1
  have hby := btN_few h.oy hfl b.2.2.1 b.2.2.2
  rw [← h.pm.length_eq] at hby
  have h1 := (enB_names h hA hs hy).2
  rw [List.length_flatMap] at h1
  have h2 := enB_few h b hx
  have h3 := sum_nil (enB RX LY b).1
  unfold touT most
  by_cases g : (firstP (RX.map kx) b.1).1 = (aboveP (RX.map kx) b.2.1).1
  · rw [if_pos g, if_pos g]
    have : enB RX LY b = ([], 0) := by unfold enB; rw [if_pos g]
    rw [this] at h1
    simp at h1
    omega
  · rw [if_neg g, if_neg g]
    unfold enS
    rw [h1, h3]
    omega
theorem ceachR_any {W : World} (h : CaM W P RX LY A) {b : B5} {nb : Nat} (hx : b.1.1 ≤ b.1.2.1) (hy : b.1.2.2.1 ≤ b.1.2.2.2) (hnb : Bx 43 W nb (.slice none 0 0)) (hbk : ∀ x ∈ cblk P RX.length, x ≠ nb) :
    Calls Tryz.prog 43 #[.pointer (some ⟨P.B, 0, none⟩), bv b, .func (.func 44) #[] #[.pointer (some ⟨nb, 0, none⟩)]] W fun e w' => e = .returned (.int .i64 (touT RX LY b.1 (fun k => (btk RX LY A b.1 k).length) : Nat)) ∧ RcJ W w' P RX LY A b.1 nb (enB RX LY b.1).1 :=
  ceach_any h b hx hy 44 #[.pointer (some ⟨nb, 0, none⟩)] egRc (fun T X => RcJ W X P RX LY A b.1 nb T) (fun k => (btk RX LY A b.1 k).length) (btk_len h.pl A b.1)
    (fun _ hX => ⟨⟨_, hnb.keep hX, World.ownsRow_nil ..⟩, h.keep hX, Off.of hX (Nat.le_refl _)⟩) (fun _ _ _ hJ hb => hJ.keep hb) (fun _ _ hJ => hJ.tr)
    (fun _ _ _ hJ hT _ hN => rep1c_any hJ hT hN hnb.lt (fun x hx => ⟨hbk x hx, h.lies x hx⟩))
theorem ceach_bad {W : World} (h : CaM W P RX LY A) (b : B5) (hb : ¬ (b.1.1 ≤ b.1.2.1 ∧ b.1.2.2.1 ≤ b.1.2.2.2)) (fv : Value) :
    Calls Tryz.prog 43 #[.pointer (some ⟨P.B, 0, none⟩), bv b, fv] W fun e w' => e = .returned (.int .i64 0) ∧ Below W.heap.size W w' := by
  have HM := Lib.hid (fun X (hb : Below W.heap.size W X) => cmade_yes (h.keep hb))
  have HRB := Lib.hid (fun X => by have := rbox_any X b; rw [decide_eq_false hb] at this; exact this)
  obtain ⟨⟨x1, x2, y1, y2⟩, bi⟩ := b
  unfold bv at HRB ⊢
  simp only at HRB ⊢
  clear h hb
  go_enter Tryz.func43, Tryz.ntmps43
  obtain ⟨Y, hY⟩ : ∃ Y, Y = W.alloc (.cells #[.int .i64 x1, .int .i64 x2, .int .i64 y1, .int .i64 y2, .int .u32 bi] 54) := ⟨_, rfl⟩
  have hX1 : X1 Y W.heap.size 0 ((x1, x2, y1, y2), bi) := hY ▸ X1.new W ((x1, x2, y1, y2), bi) _
  have hYB : Below W.heap.size W Y := hY ▸ (Below.refl _ W).alloc (Nat.le_refl _) _
  go_upto_region 1 with fail
  rw [← hY]
  clear hY
  have HYB := Lib.hid hYB
  have k0 := hX1.c0
  have k1 := hX1.c1
  have k2 := hX1.c2
  have k3 := hX1.c3
  have k4 := hX1.c4
  simp only [Nat.zero_add] at k0 k1 k2 k3 k4
  have HMW := Lib.hid (HM.out Y hYB)
  clear hX1 hYB
  go_wp2_with (first
    | (go_at_call 38; (with_reducible refine HMW.out.mono ?_); rintro e wM ⟨rfl, hM⟩; subst wM)
    | (go_at_call 70; (with_reducible refine (HRB.out _).mono ?_); rintro e w1 ⟨rfl, hb⟩; have HB1 := Lib.hid (HYB.out.trans (hb.mono HYB.out.size)); clear hb))
  go_ret
  exact ⟨rfl, HB1.out⟩
theorem ceach_nil (w : World) (b : B5) (fv : Value) :
    Calls Tryz.prog 43 #[.pointer none, bv b, fv] w fun e w' => e = .returned (.int .i64 0) ∧ Below w.heap.size w w' := by
  have HM := Lib.hid (fun X => cmade_nil X)
  unfold bv
  go_enter Tryz.func43, Tryz.ntmps43
  go_wp2_with (go_at_call 38; (with_reducible refine (HM.out _).mono ?_); rintro e wM ⟨rfl, hM⟩; subst wM)
  go_ret
  exact ⟨rfl, (Below.refl _ w).alloc (Nat.le_refl _) _⟩
set_option maxRecDepth 100000 in
set_option maxHeartbeats 1600000 in
theorem creport_of (w : World) (v : Value) (b : B5) (T : List S3) (t : Nat) (hT : T.length ≤ 8192)
    (hE : ∀ W, Below w.heap.size w W → w.heap.size + 1 < W.heap.size → Bx 43 W (w.heap.size + 1) (.slice none 0 0) →
      Calls Tryz.prog 43 #[v, bv b, .func (.func 44) #[] #[.pointer (some ⟨w.heap.size + 1, 0, none⟩)]] W fun e w' => e = .returned (.int .i64 t) ∧ (∃ u, Bx 43 w' (w.heap.size + 1) u ∧ w'.ownsRow W.heap.size 32 1 u (ids T).length ((ids T).map (Value.int .u32))) ∧ Off [w.heap.size + 1] W w') :
    Calls Tryz.prog 21 #[v, bv b] w fun e w' => (∃ r, e = .returned (.tuple #[r, .int .i64 t]) ∧ RL w' r (nsort (ids T))) ∧ Below w.heap.size w w' := by
  have hmf : ∀ (fn : Fn) (first cap : Array Value) (w : World), (Instr.makeFunc fn first cap).run Tryz.prog w = .ok (.func fn first cap) w := fun _ _ _ _ => rfl
  obtain ⟨W, hW⟩ : ∃ W, W = (w.alloc (.cells (bvs b).toArray 54)).alloc (.cells #[.slice none 0 0] 43) := ⟨_, rfl⟩
  have hX1 : X1 W w.heap.size 0 b := hW ▸ (X1.new w b _).keep ((Below.refl _ _).alloc (Nat.le_refl _) _) (by simp)
  have hWB : Below w.heap.size w W := hW ▸ ((Below.refl _ w).alloc (Nat.le_refl _) _).alloc (by simp) _
  have hWs : w.heap.size + 1 < W.heap.size := by rw [hW]; simp
  have hnb : Bx 43 W (w.heap.size + 1) (.slice none 0 0) := by
    have := Bx.new (w.alloc (.cells (bvs b).toArray 54)) (.slice none 0 0) 43
    rw [World.size_alloc] at this
    exact hW ▸ this
  have HE := Lib.hid (hE W hWB hWs hnb)
  have k0 := hX1.c0
  have k1 := hX1.c1
  have k2 := hX1.c2
  have k3 := hX1.c3
  have k4 := hX1.c4
  have HWB := Lib.hid hWB
  have HWS := Lib.hid hWs
  have HTL := Lib.hid hT
  simp only [Nat.zero_add] at k0 k1 k2 k3 k4
  obtain ⟨⟨x1, x2, y1, y2⟩, bi⟩ := b
  unfold bv at HE ⊢
  unfold bvs at hW
  simp only at HE hW k0 k1 k2 k3 k4 ⊢
  clear hE hX1 hWB hWs hnb hT
  go_enter Tryz.func21, Tryz.ntmps21
  go_upto_region 2 with fail
  rw [← hW]
  clear hW
  go_wp2_with (first
    | (go_at_call 43; (with_reducible refine HE.out.mono ?_); rintro e w1 ⟨rfl, ⟨u, hu, hr⟩, ho⟩; have HO := Lib.hid ho; have m0 := hu.cell; have HU := Lib.hid hu; have HR := Lib.hid hr; have HC := Lib.hid (told_any w1 W.heap.size u (ids T) hr (by rw [ids_len]; exact HTL.out)); clear hu hr ho)
    | (go_at_call 35; (with_reducible refine HC.out.mono ?_); rintro e w2 ⟨rfl, ht2, ho⟩; have HO2 := Lib.hid ho; have HT2 := Lib.hid ht2; have m1 := ho.cell m0 (by simp only [Option.mem_toList]; intro hc; have := (row_lt HR.out hc).1; have := HWS.out; omega); clear ho ht2))
  go_ret2
  obtain ⟨g1, p, c, rfl, g2, g3, g4⟩ := HT2.out.u
  have hb1 := HWB.out.trans (HO.out.below HWB.out.size (by simp))
  refine ⟨⟨_, rfl, p, c, by rw [g1]; rfl, g2, g3, by rw [g1]; exact g4⟩, hb1.trans (HO2.out.below hb1.size (fun k hk => ?_))⟩
  have := (row_lt HR.out (by simpa using hk)).1
  have := HWB.out.size
  omega
/-- Report of a tree -/
theorem creport_any (h : CaM w P RX LY A) (hA : A.Nodup) (hs : ∀ s ∈ A, s ∈ RX) (b : B5) :
    Calls Tryz.prog 21 #[.pointer (some ⟨P.B, 0, none⟩), bv b] w fun e w' => (∃ r, ∃ t : Nat, e = .returned (.tuple #[r, .int .i64 t]) ∧ RL w' r (hsS A b.1) ∧ (hsS A b.1).length ≤ t ∧ t ≤ (hsS A b.1).length + most RX.length) ∧ Below w.heap.size w w' := by
  by_cases hg : b.1.1 ≤ b.1.2.1 ∧ b.1.2.2.1 ≤ b.1.2.2.2
  · obtain ⟨⟨r1, r2⟩, -⟩ := tou_few h.pl hA hs hg.1 hg.2
    obtain ⟨n1, n2⟩ := enB_names h.pl hA hs hg.2
    have hal : A.length ≤ 400 := Nat.le_trans (List.Nodup.length_le_of_subset hA hs) h.pl.few
    have hsl := hsS_len A b.1
    refine (creport_of w _ b (tolK RX LY A b.1 (enB RX LY b.1).1) (touT RX LY b.1 (fun k => (btk RX LY A b.1 k).length)) (by unfold tolK; omega) (fun W hb hsz hnb => ?_)).mono ?_
    · refine (ceachR_any (h.keep hb) hg.1 hg.2 hnb (fun x hx => by have := h.lies x hx; omega)).mono ?_
      rintro e w' ⟨h1, h2⟩
      exact ⟨h1, h2.box, h2.off⟩
    · rintro e w' ⟨⟨r, rfl, hr⟩, hb⟩
      unfold tolK at hr
      rw [n1] at hr
      exact ⟨⟨r, _, rfl, hr, r1, r2⟩, hb⟩
  · refine (creport_of w _ b [] 0 (by simp) (fun W hb hsz hnb => ?_)).mono ?_
    · refine (ceach_bad (h.keep hb) b hg _).mono ?_
      rintro e w' ⟨h1, h2⟩
      exact ⟨h1, ⟨_, hnb.keep h2, World.ownsRow_nil ..⟩, Off.of h2 (Nat.le_refl _)⟩
    · rintro e w' ⟨⟨r, rfl, hr⟩, hb⟩
      rw [hsS_bad hg]
      exact ⟨⟨r, 0, rfl, hr, by simp, by simp⟩, hb⟩
theorem creport_nil (w : World) (b : B5) :
    Calls Tryz.prog 21 #[.pointer none, bv b] w fun e w' => (∃ r, ∃ t : Nat, e = .returned (.tuple #[r, .int .i64 t]) ∧ RL w' r (hsS [] b.1) ∧ (hsS [] b.1).length ≤ t ∧ t ≤ (hsS [] b.1).length + most 0) ∧ Below w.heap.size w w' := by
  refine (creport_of w _ b [] 0 (by simp) (fun W hb hsz hnb => ?_)).mono ?_
  · refine (ceach_nil W b _).mono ?_
    rintro e w' ⟨h1, h2⟩
    exact ⟨h1, ⟨_, hnb.keep h2, World.ownsRow_nil ..⟩, Off.of h2 (Nat.le_refl _)⟩
  · rintro e w' ⟨⟨r, rfl, hr⟩, hb⟩
    exact ⟨⟨r, 0, rfl, hr, by simp [hsS_nil], by simp⟩, hb⟩
end
end Go.Proofs.YtajpboclicnopaaGreat.Ca
/-
  A point is dropped out of a tree with bridges. No condition but those typed at each theorem.
-/
namespace Go.Proofs.YtajpboclicnopaaGreat.Ca
open Go.RowKit Go.Sort Bd
section
variable {w : World} {P : CaP} {RX LY A : List S3}
/-- what is there of the same place and name -/
theorem both_same (h : PlI RX LY) (hR : Rg RX) {x y id : Int} {i q : Nat} {t u : S3} (h1 : RX[i]? = some t) (h2 : t.1 = x ∧ t.2.2 = id) (h3 : LY[q]? = some u) (h4 : u.2.1 = y ∧ u.2.2 = id) : u = (x, y, id) := by
  have e := hR.names (List.mem_of_getElem? h1) (h.pm.mem_iff.2 (List.mem_of_getElem? h3)) (h2.2.trans h4.2.symm)
  subst e
  obtain ⟨a, b, c⟩ := t
  simp only at h2 h4
  obtain ⟨rfl, rfl⟩ := h2
  obtain ⟨rfl, -⟩ := h4
  rfl
theorem KtM.far {kb k : Nat} {n : Nd} {SP : List S3} {p : KtP} {om : Option Nat} (h : KtM w kb k n RX SP A p om) {x : Nat} {c : Array Value} {t : TypeId} (hx : w.heap[x]? = some (.cells c t (0, 0))) (h1 : t ≠ 189) (h2 : t ≠ 3) (h3 : t ≠ 32) : x ∉ mbl p.np ∧ x ∉ rol p := by
  refine ⟨h.nm.apart hx h1 h2, fun hm => ?_⟩
  simp only [rol, List.mem_append, Option.mem_toList] at hm
  rcases hm with hm | hm
  · obtain ⟨c', e⟩ := row_type h.nm.rn hm
    exact types_ne hx e h3 rfl
  · cases om with
    | none => rw [h.b0 rfl] at hm; cases hm
    | some m =>
      obtain ⟨c', e⟩ := row_type (h.bg m rfl) hm
      exact types_ne hx e h2 rfl
/-- nothing of this place and name is there -/
theorem none_x (h : PlI RX LY) (hs : ∀ s ∈ A, s ∈ RX) {s : S3} {i : Nat} (hf : fnd kx RX s.1 s.2.2 = (i, false)) : s ∉ A := fun hA => by
  obtain ⟨j, hj⟩ := List.mem_iff_getElem?.1 (hs s hA)
  rw [fnd_yes h.ox (Nat.le_trans h.few (by decide)) hj (v := s.1) (x := s.2.2) rfl rfl] at hf
  simp at hf
theorem none_y (h : PlI RX LY) (hs : ∀ s ∈ A, s ∈ RX) {s : S3} {i : Nat} (hf : fnd ky LY s.2.1 s.2.2 = (i, false)) : s ∉ A := fun hA => by
  obtain ⟨j, hj⟩ := List.mem_iff_getElem?.1 (h.pm.mem_iff.1 (hs s hA))
  rw [fnd_yes h.oy (by rw [← h.pm.length_eq]; exact Nat.le_trans h.few (by decide)) hj (v := s.2.1) (x := s.2.2) rfl rfl] at hf
  simp at hf
theorem both_at (h : PlI RX LY) (hR : Rg RX) {s : S3} {i q : Nat} (hf : fnd kx RX s.1 s.2.2 = (i, true)) (hg : fnd ky LY s.2.1 s.2.2 = (q, true)) : LY[q]? = some s := by
  obtain ⟨t, t1, t2, t3⟩ := fnd_true h.ox (Nat.le_trans h.few (by decide)) (by rw [hf])
  obtain ⟨u, u1, u2, u3⟩ := fnd_true h.oy (by rw [← h.pm.length_eq]; exact Nat.le_trans h.few (by decide)) (by rw [hg])
  have := both_same h hR (x := s.1) (y := s.2.1) (id := s.2.2) t1 ⟨t2, t3⟩ u1 ⟨u2, u3⟩
  rw [hg] at u1
  rw [u1, this]
set_option maxRecDepth 100000 in
set_option maxHeartbeats 6400000 in
theorem cdrop_x (h : CaM w P RX LY A) (s : S3) {i : Nat} (hx : fnd kx RX s.1 s.2.2 = (i, false)) :
    Calls Tryz.prog 20 #[.pointer (some ⟨P.B, 0, none⟩), tv s] w fun e w' => e = .returned (.bool false) ∧ Below w.heap.size w w' := by
  have hf : RX.length ≤ 8192 := Nat.le_trans h.pl.few (by decide)
  have hfl : LY.length ≤ 8192 := by rw [← h.pl.pm.length_eq]; exact hf
  have HM := Lib.hid (fun X (hb : Below w.heap.size w X) => cmade_yes (h.keep hb))
  have HFX := Lib.hid (fun X (hb : Below w.heap.size w X) => find_any (o := 1) ((h.keep hb).ev.cell (i := 1) rfl) ((h.keep hb).ev.cell (i := 2) rfl) (h.keep hb).row h.pl.ox hf s.1 s.2.2)
  have HFY := Lib.hid (fun X (hb : Below w.heap.size w X) => find_any (o := 3) ((h.keep hb).ev.cell (i := 3) rfl) ((h.keep hb).ev.cell (i := 4) rfl) (h.keep hb).lst h.pl.oy hfl s.2.1 s.2.2)
  have H := Lib.hid h
  rw [hx] at HFX
  generalize fnd ky LY s.2.1 s.2.2 = fy at *
  obtain ⟨q, hy⟩ := fy
  obtain ⟨x, y, id⟩ := s
  unfold tv
  simp only at HFX HFY ⊢
  clear h hx
  go_enter Tryz.func20, Tryz.ntmps20
  obtain ⟨Y, hY⟩ : ∃ Y, Y = w.alloc (.cells #[.int .i64 x, .int .i64 y, .int .u32 id] 34) := ⟨_, rfl⟩
  have hT1 : T1 Y w.heap.size 0 (x, y, id) := hY ▸ T1.new w (x, y, id) _
  have hYB : Below w.heap.size w Y := hY ▸ (Below.refl _ w).alloc (Nat.le_refl _) _
  go_upto_region 1 with fail
  rw [← hY]
  clear hY
  have HYB := Lib.hid hYB
  have HT1 := Lib.hid hT1
  have HMW := Lib.hid (HM.out Y hYB)
  clear hT1 hYB
  go_upto_region 3 with (go_at_call 38; (with_reducible refine HMW.out.mono ?_); rintro e wM ⟨rfl, hM⟩; subst wM)
  have inst : Nonempty (Wd (Bw Y)) := ⟨⟨Y, Below.refl _ _⟩⟩
  have b0 : ∀ z : Wd (Bw Y), z.w.cell? ⟨w.heap.size, 0, none⟩ = _ := fun z => Bw.cell z HT1.out.c0
  have b2 : ∀ z : Wd (Bw Y), z.w.cell? ⟨w.heap.size, 2, none⟩ = _ := fun z => Bw.cell z HT1.out.c2
  have HFC := Lib.hid (fun z : Wd (Bw Y) => HFX.out z.w (HYB.out.trans (z.h.mono HYB.out.size)))
  refine wp_region_wd (Bw Y) (by kernel_rfl) (by kernel_rfl) ((Below.refl _ Y).drew) ?_
  repeat (first
    | go_big_quiet_step (first | (go_at_call 39; with_reducible exact calls_wd (fun _ _ h hb => h.keep hb) _ (HFC.out _)))
    | quiet_step (first | (go_at_call 39; with_reducible exact calls_wd (fun _ _ h hb => h.keep hb) _ (HFC.out _))))
  refine wpQuiet_nil ?_
  rintro _ ⟨z, rfl⟩
  have HB2 := Lib.hid (HYB.out.trans (z.h.mono HYB.out.size))
  have HT2 := Lib.hid (HT1.out.keep z.h HT1.out.lt)
  generalize z.w = w2 at *
  clear b0 b2 HFC inst HYB HT1 HMW
  go_upto_region 4 with fail
  have inst : Nonempty (Wd (Bw w2)) := ⟨⟨w2, Below.refl _ _⟩⟩
  have b0 : ∀ z : Wd (Bw w2), z.w.cell? ⟨w.heap.size, 1, none⟩ = _ := fun z => Bw.cell z HT2.out.c1
  have b2 : ∀ z : Wd (Bw w2), z.w.cell? ⟨w.heap.size, 2, none⟩ = _ := fun z => Bw.cell z HT2.out.c2
  have HFC := Lib.hid (fun z : Wd (Bw w2) => HFY.out z.w (HB2.out.trans (z.h.mono HB2.out.size)))
  refine wp_region_wd (Bw w2) (by kernel_rfl) (by kernel_rfl) ((Below.refl _ w2).drew) ?_
  repeat (first
    | go_big_quiet_step (first | (go_at_call 39; with_reducible exact calls_wd (fun _ _ h hb => h.keep hb) _ (HFC.out _)))
    | quiet_step (first | (go_at_call 39; with_reducible exact calls_wd (fun _ _ h hb => h.keep hb) _ (HFC.out _))))
  refine wpQuiet_nil ?_
  rintro _ ⟨z, rfl⟩
  have HB3 := Lib.hid (HB2.out.trans (z.h.mono HB2.out.size))
  generalize z.w = w3 at *
  clear b0 b2 HFC inst HB2 HT2
  go_upto_region 5 with fail
  have inst : Nonempty (Wd (Bw w3)) := ⟨⟨w3, Below.refl _ _⟩⟩
  refine wp_region_wd (Bw w3) (by kernel_rfl) (by kernel_rfl) ((Below.refl _ w3).drew) ?_
  repeat (first | go_big_quiet_step (fail) | quiet_step (fail))
  refine wpQuiet_nil ?_
  rintro _ ⟨z, rfl⟩
  have HB4 := Lib.hid (HB3.out.trans (z.h.mono HB3.out.size))
  go_wp2
  go_ret
  exact ⟨rfl, HB4.out⟩
set_option maxRecDepth 100000 in
set_option maxHeartbeats 6400000 in
theorem cdrop_y (h : CaM w P RX LY A) (s : S3) {i q : Nat} (hx : fnd kx RX s.1 s.2.2 = (i, true)) (hy : fnd ky LY s.2.1 s.2.2 = (q, false)) :
    Calls Tryz.prog 20 #[.pointer (some ⟨P.B, 0, none⟩), tv s] w fun e w' => e = .returned (.bool false) ∧ Below w.heap.size w w' := by
  have hf : RX.length ≤ 8192 := Nat.le_trans h.pl.few (by decide)
  have hfl : LY.length ≤ 8192 := by rw [← h.pl.pm.length_eq]; exact hf
  have HM := Lib.hid (fun X (hb : Below w.heap.size w X) => cmade_yes (h.keep hb))
  have HFX := Lib.hid (fun X (hb : Below w.heap.size w X) => find_any (o := 1) ((h.keep hb).ev.cell (i := 1) rfl) ((h.keep hb).ev.cell (i := 2) rfl) (h.keep hb).row h.pl.ox hf s.1 s.2.2)
  have HFY := Lib.hid (fun X (hb : Below w.heap.size w X) => find_any (o := 3) ((h.keep hb).ev.cell (i := 3) rfl) ((h.keep hb).ev.cell (i := 4) rfl) (h.keep hb).lst h.pl.oy hfl s.2.1 s.2.2)
  have H := Lib.hid h
  rw [hx] at HFX
  rw [hy] at HFY
  obtain ⟨x, y, id⟩ := s
  unfold tv
  simp only at HFX HFY ⊢
  clear h hx hy
  go_enter Tryz.func20, Tryz.ntmps20
  obtain ⟨Y, hY⟩ : ∃ Y, Y = w.alloc (.cells #[.int .i64 x, .int .i64 y, .int .u32 id] 34) := ⟨_, rfl⟩
  have hT1 : T1 Y w.heap.size 0 (x, y, id) := hY ▸ T1.new w (x, y, id) _
  have hYB : Below w.heap.size w Y := hY ▸ (Below.refl _ w).alloc (Nat.le_refl _) _
  go_upto_region 1 with fail
  rw [← hY]
  clear hY
  have HYB := Lib.hid hYB
  have HT1 := Lib.hid hT1
  have HMW := Lib.hid (HM.out Y hYB)
  clear hT1 hYB
  go_upto_region 3 with (go_at_call 38; (with_reducible refine HMW.out.mono ?_); rintro e wM ⟨rfl, hM⟩; subst wM)
  have inst : Nonempty (Wd (Bw Y)) := ⟨⟨Y, Below.refl _ _⟩⟩
  have b0 : ∀ z : Wd (Bw Y), z.w.cell? ⟨w.heap.size, 0, none⟩ = _ := fun z => Bw.cell z HT1.out.c0
  have b2 : ∀ z : Wd (Bw Y), z.w.cell? ⟨w.heap.size, 2, none⟩ = _ := fun z => Bw.cell z HT1.out.c2
  have HFC := Lib.hid (fun z : Wd (Bw Y) => HFX.out z.w (HYB.out.trans (z.h.mono HYB.out.size)))
  refine wp_region_wd (Bw Y) (by kernel_rfl) (by kernel_rfl) ((Below.refl _ Y).drew) ?_
  repeat (first
    | go_big_quiet_step (first | (go_at_call 39; with_reducible exact calls_wd (fun _ _ h hb => h.keep hb) _ (HFC.out _)))
    | quiet_step (first | (go_at_call 39; with_reducible exact calls_wd (fun _ _ h hb => h.keep hb) _ (HFC.out _))))
  refine wpQuiet_nil ?_
  rintro _ ⟨z, rfl⟩
  have HB2 := Lib.hid (HYB.out.trans (z.h.mono HYB.out.size))
  have HT2 := Lib.hid (HT1.out.keep z.h HT1.out.lt)
  generalize z.w = w2 at *
  clear b0 b2 HFC inst HYB HT1 HMW
  go_upto_region 4 with fail
  have inst : Nonempty (Wd (Bw w2)) := ⟨⟨w2, Below.refl _ _⟩⟩
  have b0 : ∀ z : Wd (Bw w2), z.w.cell? ⟨w.heap.size, 1, none⟩ = _ := fun z => Bw.cell z HT2.out.c1
  have b2 : ∀ z : Wd (Bw w2), z.w.cell? ⟨w.heap.size, 2, none⟩ = _ := fun z => Bw.cell z HT2.out.c2
  have HFC := Lib.hid (fun z : Wd (Bw w2) => HFY.out z.w (HB2.out.trans (z.h.mono HB2.out.size)))
  refine wp_region_wd (Bw w2) (by kernel_rfl) (by kernel_rfl) ((Below.refl _ w2).drew) ?_
  repeat (first
    | go_big_quiet_step (first | (go_at_call 39; with_reducible exact calls_wd (fun _ _ h hb => h.keep hb) _ (HFC.out _)))
    | quiet_step (first | (go_at_call 39; with_reducible exact calls_wd (fun _ _ h hb => h.keep hb) _ (HFC.out _))))
  refine wpQuiet_nil ?_
  rintro _ ⟨z, rfl⟩
  have HB3 := Lib.hid (HB2.out.trans (z.h.mono HB2.out.size))
  generalize z.w = w3 at *
  clear b0 b2 HFC inst HB2 HT2
  go_upto_region 5 with fail
  have inst : Nonempty (Wd (Bw w3)) := ⟨⟨w3, Below.refl _ _⟩⟩
  refine wp_region_wd (Bw w3) (by kernel_rfl) (by kernel_rfl) ((Below.refl _ w3).drew) ?_
  repeat (first | go_big_quiet_step (fail) | quiet_step (fail))
  refine wpQuiet_nil ?_
  rintro _ ⟨z, rfl⟩
  have HB4 := Lib.hid (HB3.out.trans (z.h.mono HB3.out.size))
  go_wp2
  go_ret
  exact ⟨rfl, HB4.out⟩
set_option maxRecDepth 100000 in
set_option maxHeartbeats 6400000 in
theorem cdrop_n (h : CaM w P RX LY A) (s : S3) (hR : Rg RX) {i q : Nat} (hx : fnd kx RX s.1 s.2.2 = (i, true)) (hy : fnd ky LY s.2.1 s.2.2 = (q, true)) (hA : s ∉ A) :
    Calls Tryz.prog 20 #[.pointer (some ⟨P.B, 0, none⟩), tv s] w fun e w' => e = .returned (.bool false) ∧ Below w.heap.size w w' := by
  have hf : RX.length ≤ 8192 := Nat.le_trans h.pl.few (by decide)
  have hfl : LY.length ≤ 8192 := by rw [← h.pl.pm.length_eq]; exact hf
  have HM := Lib.hid (fun X (hb : Below w.heap.size w X) => cmade_yes (h.keep hb))
  have HFX := Lib.hid (fun X (hb : Below w.heap.size w X) => find_any (o := 1) ((h.keep hb).ev.cell (i := 1) rfl) ((h.keep hb).ev.cell (i := 2) rfl) (h.keep hb).row h.pl.ox hf s.1 s.2.2)
  have HFY := Lib.hid (fun X (hb : Below w.heap.size w X) => find_any (o := 3) ((h.keep hb).ev.cell (i := 3) rfl) ((h.keep hb).ev.cell (i := 4) rfl) (h.keep hb).lst h.pl.oy hfl s.2.1 s.2.2)
  have H := Lib.hid h
  rw [hx] at HFX
  rw [hy] at HFY
  have hqs := both_at h.pl hR hx hy
  have hql := (List.getElem?_eq_some_iff.1 hqs).1
  have hn : RX.length ≠ 0 := by rw [h.pl.pm.length_eq]; omega
  obtain ⟨cap, hcap⟩ := h.kv1 hn
  have c5 := h.ev.cell (i := 5) rfl
  rw [hcap] at c5
  have hall : SR RX LY 0 (0 + lv (tr RX.length)) = LY := by rw [lv_tr (by omega), Nat.zero_add]; exact SR_all h.pl
  obtain ⟨nn, om, hK, -, -⟩ := (h.kn hn).top
  rw [hall] at hK
  have hal : alA LY A q = decide (s ∈ A) := alA_at hqs
  have HRT := Lib.hid (fun X (hb : Below w.heap.size w X) => root_any (h.keep hb) hn)
  have HH := Lib.hid (fun X (hb : Below w.heap.size w X) => nhas_any (hK.nm.keep hb) (q := q) (by omega))
  rw [hal, decide_eq_false hA] at HH
  have hrl : rt 0 (tr RX.length) < 2 * RX.length - 1 := by unfold rt; rw [lv_tr (by omega)]; omega
  have hm2 : 2 * RX.length - 1 ≤ 1000 := by have := h.pl.few; omega
  obtain ⟨m, hmm⟩ : ∃ m, m = 2 * RX.length - 1 := ⟨_, rfl⟩
  rw [← hmm] at c5 hrl hm2
  generalize rt 0 (tr RX.length) = rtn at *
  obtain ⟨x, y, id⟩ := s
  unfold tv
  simp only at HFX HFY ⊢
  clear h hx hy hK hal hall hmm hcap
  go_enter Tryz.func20, Tryz.ntmps20
  obtain ⟨Y, hY⟩ : ∃ Y, Y = w.alloc (.cells #[.int .i64 x, .int .i64 y, .int .u32 id] 34) := ⟨_, rfl⟩
  have hT1 : T1 Y w.heap.size 0 (x, y, id) := hY ▸ T1.new w (x, y, id) _
  have hYB : Below w.heap.size w Y := hY ▸ (Below.refl _ w).alloc (Nat.le_refl _) _
  go_upto_region 1 with fail
  rw [← hY]
  clear hY
  have HYB := Lib.hid hYB
  have HT1 := Lib.hid hT1
  have HMW := Lib.hid (HM.out Y hYB)
  clear hT1 hYB
  go_upto_region 3 with (go_at_call 38; (with_reducible refine HMW.out.mono ?_); rintro e wM ⟨rfl, hM⟩; subst wM)
  have inst : Nonempty (Wd (Bw Y)) := ⟨⟨Y, Below.refl _ _⟩⟩
  have b0 : ∀ z : Wd (Bw Y), z.w.cell? ⟨w.heap.size, 0, none⟩ = _ := fun z => Bw.cell z HT1.out.c0
  have b2 : ∀ z : Wd (Bw Y), z.w.cell? ⟨w.heap.size, 2, none⟩ = _ := fun z => Bw.cell z HT1.out.c2
  have HFC := Lib.hid (fun z : Wd (Bw Y) => HFX.out z.w (HYB.out.trans (z.h.mono HYB.out.size)))
  refine wp_region_wd (Bw Y) (by kernel_rfl) (by kernel_rfl) ((Below.refl _ Y).drew) ?_
  repeat (first
    | go_big_quiet_step (first | (go_at_call 39; with_reducible exact calls_wd (fun _ _ h hb => h.keep hb) _ (HFC.out _)))
    | quiet_step (first | (go_at_call 39; with_reducible exact calls_wd (fun _ _ h hb => h.keep hb) _ (HFC.out _))))
  refine wpQuiet_nil ?_
  rintro _ ⟨z, rfl⟩
  have HB2 := Lib.hid (HYB.out.trans (z.h.mono HYB.out.size))
  have HT2 := Lib.hid (HT1.out.keep z.h HT1.out.lt)
  generalize z.w = w2 at *
  clear b0 b2 HFC inst HYB HT1 HMW
  go_upto_region 4 with fail
  have inst : Nonempty (Wd (Bw w2)) := ⟨⟨w2, Below.refl _ _⟩⟩
  have b0 : ∀ z : Wd (Bw w2), z.w.cell? ⟨w.heap.size, 1, none⟩ = _ := fun z => Bw.cell z HT2.out.c1
  have b2 : ∀ z : Wd (Bw w2), z.w.cell? ⟨w.heap.size, 2, none⟩ = _ := fun z => Bw.cell z HT2.out.c2
  have HFC := Lib.hid (fun z : Wd (Bw w2) => HFY.out z.w (HB2.out.trans (z.h.mono HB2.out.size)))
  refine wp_region_wd (Bw w2) (by kernel_rfl) (by kernel_rfl) ((Below.refl _ w2).drew) ?_
  repeat (first
    | go_big_quiet_step (first | (go_at_call 39; with_reducible exact calls_wd (fun _ _ h hb => h.keep hb) _ (HFC.out _)))
    | quiet_step (first | (go_at_call 39; with_reducible exact calls_wd (fun _ _ h hb => h.keep hb) _ (HFC.out _))))
  refine wpQuiet_nil ?_
  rintro _ ⟨z, rfl⟩
  have HB3 := Lib.hid (HB2.out.trans (z.h.mono HB2.out.size))
  generalize z.w = w3 at *
  clear b0 b2 HFC inst HB2 HT2
  go_upto_region 5 with fail
  have d5 := (HB3.out.cell (World.block_lt_of_cell? _ _ c5)).trans c5
  have inst : Nonempty (Wd (Bw w3)) := ⟨⟨w3, Below.refl _ _⟩⟩
  have b5 : ∀ z : Wd (Bw w3), z.w.cell? ⟨P.B, 5, none⟩ = _ := fun z => Bw.cell z d5
  have HRC := Lib.hid (fun z : Wd (Bw w3) => (HRT.out z.w (HB3.out.trans (z.h.mono HB3.out.size))).mono (R' := fun e w' => e = .returned (.int .i64 (rtn : Nat)) ∧ Below z.w.heap.size z.w w') (fun e w' hh => ⟨hh.1, by rw [hh.2]; exact Below.refl _ _⟩))
  have HHC := Lib.hid (fun z : Wd (Bw w3) => HH.out z.w (HB3.out.trans (z.h.mono HB3.out.size)))
  refine wp_region_wd (Bw w3) (by kernel_rfl) (by kernel_rfl) ((Below.refl _ w3).drew) ?_
  repeat (first
    | go_big_quiet_step (first | (go_at_call 40; with_reducible exact calls_wd (fun _ _ h hb => h.keep hb) _ (HRC.out _)) | (go_at_call 41; with_reducible exact calls_wd (fun _ _ h hb => h.keep hb) _ (HHC.out _)))
    | quiet_step (first | (go_at_call 40; with_reducible exact calls_wd (fun _ _ h hb => h.keep hb) _ (HRC.out _)) | (go_at_call 41; with_reducible exact calls_wd (fun _ _ h hb => h.keep hb) _ (HHC.out _))))
  refine wpQuiet_nil ?_
  rintro _ ⟨z, rfl⟩
  have HB4 := Lib.hid (HB3.out.trans (z.h.mono HB3.out.size))
  go_wp2
  go_ret
  exact ⟨rfl, HB4.out⟩
/-- blocks of other kinds are none that a drop writes -/
theorem drop_far (h : CaM w P RX LY A) (hn : RX.length ≠ 0) {x : Nat} {c : Array Value} {t : TypeId} (hx : w.heap[x]? = some (.cells c t (0, 0))) (h1 : t ≠ 189) (h2 : t ≠ 3) : x ∉ mbs P.ps 0 (2 * RX.length - 1) := fun hm => by
  obtain ⟨k, a1, a2, a3⟩ := mem_mbs.1 hm
  obtain ⟨n1, SP, om1, hk1⟩ := (h.kn hn).each k a1 (by rw [sz_tr hn]; exact a2)
  exact hk1.nm.apart hx h1 h2 a3
theorem drop_out (h : CaM w P RX LY A) (hn : RX.length ≠ 0) : P.B ∉ mbs P.ps 0 (2 * RX.length - 1) := drop_far h hn h.ev (by decide) (by decide)
theorem drop_end {w5 : World} {s : S3} {a : Nat} (h : CaM w P RX LY A) (hn : RX.length ≠ 0) (hk : KnT w5 P.kb RX LY (drp A s) P.ps (tr RX.length) 0 0) (ho : Off (mbs P.ps 0 (2 * RX.length - 1)) w w5) (hE : EV 82 w5 P.B [.pointer (some ⟨P.B, 0, none⟩), P.rva, P.rvn, P.lva, P.lvn, P.kv, .int .i64 a]) :
    CaM (w5.setCell ⟨P.B, 6, none⟩ (.int .i64 ((drp A s).length : Nat))) P RX LY (drp A s) := by
  have hset := (Off.refl [P.B] w5).set ⟨P.B, 6, none⟩ (.int .i64 ((drp A s).length : Nat)) (.inl (by simp))
  have hrow := h.row.off ho (fun x hx => by obtain ⟨c, e⟩ := row_type h.row.ra hx; exact drop_far h hn e (by decide) (by decide)) (fun x hx => by obtain ⟨c, e⟩ := row_type h.row.rn hx; exact drop_far h hn e (by decide) (by decide))
  have hlst := h.lst.off ho (fun x hx => by obtain ⟨c, e⟩ := row_type h.lst.ra hx; exact drop_far h hn e (by decide) (by decide)) (fun x hx => by obtain ⟨c, e⟩ := row_type h.lst.rn hx; exact drop_far h hn e (by decide) (by decide))
  obtain ⟨c, hkt⟩ := h.kt hn
  have hkt5 : w5.heap[P.kb]? = some (.cells c 95 (0, 0)) := (ho.block _ (lt_of_block hkt) (drop_far h hn hkt (by decide) (by decide))).trans hkt
  have tB : ∀ {t : TypeId} {c : Array Value} {x : Nat}, w5.heap[x]? = some (.cells c t (0, 0)) → t ≠ 82 → x ∉ [P.B] := fun {t c x} e ht => by
    simp
    exact types_ne e hE ht
  refine ⟨hE.set 6 _, hrow.off hset (fun x hx => by obtain ⟨c, e⟩ := row_type hrow.ra hx; exact tB e (by decide)) (fun x hx => by obtain ⟨c, e⟩ := row_type hrow.rn hx; exact tB e (by decide)), hlst.off hset (fun x hx => by obtain ⟨c, e⟩ := row_type hlst.ra hx; exact tB e (by decide)) (fun x hx => by obtain ⟨c, e⟩ := row_type hlst.rn hx; exact tB e (by decide)), h.kv0, h.kv1, fun _ => hk.off hset (tB hkt5 (by decide)) (fun k a1 a2 => ?_), fun _ => ⟨c, (hset.block _ (lt_of_block hkt5) (tB hkt5 (by decide))).trans hkt5⟩, h.dj, h.pl⟩
  obtain ⟨n1, SP, om1, hk1⟩ := hk.each k a1 a2
  have := hk1.far hE (by decide) (by decide) (by decide)
  exact ⟨fun x hx hm => this.1 ((List.mem_singleton.1 hm) ▸ hx), fun x hx hm => this.2 ((List.mem_singleton.1 hm) ▸ hx)⟩
set_option maxRecDepth 100000 in
set_option maxHeartbeats 6400000 in
theorem cdrop_yes (h : CaM w P RX LY A) (s : S3) (hR : Rg RX) (hAn : A.Nodup) {i q : Nat} (hx : fnd kx RX s.1 s.2.2 = (i, true)) (hy : fnd ky LY s.2.1 s.2.2 = (q, true)) (hA : s ∈ A) (hsub : ∀ s ∈ A, s ∈ RX) :
    Calls Tryz.prog 20 #[.pointer (some ⟨P.B, 0, none⟩), tv s] w fun e w' => e = .returned (.bool true) ∧ CaM w' P RX LY (drp A s) ∧ Off (P.B :: mbs P.ps 0 (2 * RX.length - 1)) w w' := by
  have hf : RX.length ≤ 8192 := Nat.le_trans h.pl.few (by decide)
  have hfl : LY.length ≤ 8192 := by rw [← h.pl.pm.length_eq]; exact hf
  have HM := Lib.hid (fun X (hb : Below w.heap.size w X) => cmade_yes (h.keep hb))
  have HFX := Lib.hid (fun X (hb : Below w.heap.size w X) => find_any (o := 1) ((h.keep hb).ev.cell (i := 1) rfl) ((h.keep hb).ev.cell (i := 2) rfl) (h.keep hb).row h.pl.ox hf s.1 s.2.2)
  have HFY := Lib.hid (fun X (hb : Below w.heap.size w X) => find_any (o := 3) ((h.keep hb).ev.cell (i := 3) rfl) ((h.keep hb).ev.cell (i := 4) rfl) (h.keep hb).lst h.pl.oy hfl s.2.1 s.2.2)
  have H := Lib.hid h
  rw [hx] at HFX
  rw [hy] at HFY
  have hqs := both_at h.pl hR hx hy
  have hql := (List.getElem?_eq_some_iff.1 hqs).1
  have hn : RX.length ≠ 0 := by rw [h.pl.pm.length_eq]; omega
  obtain ⟨cap, hcap⟩ := h.kv1 hn
  have c5 := h.ev.cell (i := 5) rfl
  rw [hcap] at c5
  have hall : SR RX LY 0 (0 + lv (tr RX.length)) = LY := by rw [lv_tr (by omega), Nat.zero_add]; exact SR_all h.pl
  obtain ⟨nn, om, hK, -, -⟩ := (h.kn hn).top
  rw [hall] at hK
  have hal : alA LY A q = decide (s ∈ A) := alA_at hqs
  have HRT := Lib.hid (fun X (hb : Below w.heap.size w X) => root_any (h.keep hb) hn)
  have HH := Lib.hid (fun X (hb : Below w.heap.size w X) => nhas_any (hK.nm.keep hb) (q := q) (by omega))
  rw [hal, decide_eq_true hA] at HH
  have hrl : rt 0 (tr RX.length) < 2 * RX.length - 1 := by unfold rt; rw [lv_tr (by omega)]; omega
  have hm2 : 2 * RX.length - 1 ≤ 1000 := by have := h.pl.few; omega
  have hlen := drp_one hAn hA
  have hAl : A.length ≤ 400 := Nat.le_trans (List.Nodup.length_le_of_subset hAn hsub) h.pl.few
  have HQS := Lib.hid (show (SR RX LY 0 (0 + lv (tr RX.length)))[q]? = some s by rw [hall]; exact hqs)
  have HSZ := Lib.hid (sz_tr hn)
  have HKD := Lib.hid (fun X (hb : Below w.heap.size w X) => by
    have hX := h.keep hb
    have := kdrop_any (kb := P.kb) (B := P.B) (A := A) (ps := P.ps) h.pl (tr RX.length) 0 0 X q s (2 * RX.length - 1) cap (hX.kn hn) (by rw [sz_tr hn, Nat.zero_add]; exact h.dj) (by have := hX.ev.cell (i := 5) rfl; rw [hcap] at this; exact this) hrl hm2 (fun k a1 a2 => by
      obtain ⟨n1, SP, om1, hk1⟩ := (hX.kn hn).each k a1 a2
      exact (hk1.far hX.ev (by decide) (by decide) (by decide)).1) HQS.out hA
    rw [sz_tr hn] at this
    exact this)
  have HLEN := Lib.hid hlen
  obtain ⟨m, hmm⟩ : ∃ m, m = 2 * RX.length - 1 := ⟨_, rfl⟩
  rw [← hmm] at c5 hrl hm2
  generalize rt 0 (tr RX.length) = rtn at *
  obtain ⟨x, y, id⟩ := s
  unfold tv
  simp only at HFX HFY ⊢
  clear h hx hy hK hal hall hmm hcap
  go_enter Tryz.func20, Tryz.ntmps20
  obtain ⟨Y, hY⟩ : ∃ Y, Y = w.alloc (.cells #[.int .i64 x, .int .i64 y, .int .u32 id] 34) := ⟨_, rfl⟩
  have hT1 : T1 Y w.heap.size 0 (x, y, id) := hY ▸ T1.new w (x, y, id) _
  have hYB : Below w.heap.size w Y := hY ▸ (Below.refl _ w).alloc (Nat.le_refl _) _
  go_upto_region 1 with fail
  rw [← hY]
  clear hY
  have HYB := Lib.hid hYB
  have HT1 := Lib.hid hT1
  have HMW := Lib.hid (HM.out Y hYB)
  clear hT1 hYB
  go_upto_region 3 with (go_at_call 38; (with_reducible refine HMW.out.mono ?_); rintro e wM ⟨rfl, hM⟩; subst wM)
  have inst : Nonempty (Wd (Bw Y)) := ⟨⟨Y, Below.refl _ _⟩⟩
  have b0 : ∀ z : Wd (Bw Y), z.w.cell? ⟨w.heap.size, 0, none⟩ = _ := fun z => Bw.cell z HT1.out.c0
  have b2 : ∀ z : Wd (Bw Y), z.w.cell? ⟨w.heap.size, 2, none⟩ = _ := fun z => Bw.cell z HT1.out.c2
  have HFC := Lib.hid (fun z : Wd (Bw Y) => HFX.out z.w (HYB.out.trans (z.h.mono HYB.out.size)))
  refine wp_region_wd (Bw Y) (by kernel_rfl) (by kernel_rfl) ((Below.refl _ Y).drew) ?_
  repeat (first
    | go_big_quiet_step (first | (go_at_call 39; with_reducible exact calls_wd (fun _ _ h hb => h.keep hb) _ (HFC.out _)))
    | quiet_step (first | (go_at_call 39; with_reducible exact calls_wd (fun _ _ h hb => h.keep hb) _ (HFC.out _))))
  refine wpQuiet_nil ?_
  rintro _ ⟨z, rfl⟩
  have HB2 := Lib.hid (HYB.out.trans (z.h.mono HYB.out.size))
  have HT2 := Lib.hid (HT1.out.keep z.h HT1.out.lt)
  generalize z.w = w2 at *
  clear b0 b2 HFC inst HYB HT1 HMW
  go_upto_region 4 with fail
  have inst : Nonempty (Wd (Bw w2)) := ⟨⟨w2, Below.refl _ _⟩⟩
  have b0 : ∀ z : Wd (Bw w2), z.w.cell? ⟨w.heap.size, 1, none⟩ = _ := fun z => Bw.cell z HT2.out.c1
  have b2 : ∀ z : Wd (Bw w2), z.w.cell? ⟨w.heap.size, 2, none⟩ = _ := fun z => Bw.cell z HT2.out.c2
  have HFC := Lib.hid (fun z : Wd (Bw w2) => HFY.out z.w (HB2.out.trans (z.h.mono HB2.out.size)))
  refine wp_region_wd (Bw w2) (by kernel_rfl) (by kernel_rfl) ((Below.refl _ w2).drew) ?_
  repeat (first
    | go_big_quiet_step (first | (go_at_call 39; with_reducible exact calls_wd (fun _ _ h hb => h.keep hb) _ (HFC.out _)))
    | quiet_step (first | (go_at_call 39; with_reducible exact calls_wd (fun _ _ h hb => h.keep hb) _ (HFC.out _))))
  refine wpQuiet_nil ?_
  rintro _ ⟨z, rfl⟩
  have HB3 := Lib.hid (HB2.out.trans (z.h.mono HB2.out.size))
  generalize z.w = w3 at *
  clear b0 b2 HFC inst HB2 HT2
  go_upto_region 5 with fail
  have d5 := (HB3.out.cell (World.block_lt_of_cell? _ _ c5)).trans c5
  have inst : Nonempty (Wd (Bw w3)) := ⟨⟨w3, Below.refl _ _⟩⟩
  have b5 : ∀ z : Wd (Bw w3), z.w.cell? ⟨P.B, 5, none⟩ = _ := fun z => Bw.cell z d5
  have HRC := Lib.hid (fun z : Wd (Bw w3) => (HRT.out z.w (HB3.out.trans (z.h.mono HB3.out.size))).mono (R' := fun e w' => e = .returned (.int .i64 (rtn : Nat)) ∧ Below z.w.heap.size z.w w') (fun e w' hh => ⟨hh.1, by rw [hh.2]; exact Below.refl _ _⟩))
  have HHC := Lib.hid (fun z : Wd (Bw w3) => HH.out z.w (HB3.out.trans (z.h.mono HB3.out.size)))
  refine wp_region_wd (Bw w3) (by kernel_rfl) (by kernel_rfl) ((Below.refl _ w3).drew) ?_
  repeat (first
    | go_big_quiet_step (first | (go_at_call 40; with_reducible exact calls_wd (fun _ _ h hb => h.keep hb) _ (HRC.out _)) | (go_at_call 41; with_reducible exact calls_wd (fun _ _ h hb => h.keep hb) _ (HHC.out _)))
    | quiet_step (first | (go_at_call 40; with_reducible exact calls_wd (fun _ _ h hb => h.keep hb) _ (HRC.out _)) | (go_at_call 41; with_reducible exact calls_wd (fun _ _ h hb => h.keep hb) _ (HHC.out _))))
  refine wpQuiet_nil ?_
  rintro _ ⟨z, rfl⟩
  have HB4 := Lib.hid (HB3.out.trans (z.h.mono HB3.out.size))
  generalize z.w = w4 at *
  clear b5 inst HRC HHC d5 HB3
  have HR4 := Lib.hid (HRT.out w4 HB4.out)
  have HK4 := Lib.hid (HKD.out w4 HB4.out)
  have HC4 := Lib.hid (H.out.keep HB4.out)
  have hz : (A.length : Int) - 1 = ((drp A (x, y, id)).length : Nat) := by omega
  go_wp2_with (first
    | (go_at_call 40; (with_reducible refine HR4.out.mono ?_); rintro e wR ⟨rfl, hR'⟩; subst wR)
    | (go_at_call 42; (with_reducible refine HK4.out.mono ?_); rintro e w5 ⟨rfl, hk5, ho5⟩; have HK5 := Lib.hid hk5; have HO5 := Lib.hid ho5; have HE5 := Lib.hid (HC4.out.ev.off ho5 (drop_out HC4.out hn)); have m6 := HE5.out.cell (i := 6) rfl; have f6 := HE5.out.free 6; clear hk5 ho5))
  go_ret
  have hset := (Off.refl [P.B] w5).set ⟨P.B, 6, none⟩ (.int .i64 ((drp A (x, y, id)).length : Nat)) (.inl (by simp))
  exact ⟨rfl, drop_end HC4.out hn HK5.out HO5.out HE5.out, ((Off.of (S := P.B :: mbs P.ps 0 (2 * RX.length - 1)) HB4.out (Nat.le_refl _)).trans (HO5.out.mono (fun x _ hx => List.mem_cons_of_mem _ hx))).trans (hset.mono (fun x _ hx => by simp at hx; simp [hx]))⟩
end
end Go.Proofs.YtajpboclicnopaaGreat.Ca
