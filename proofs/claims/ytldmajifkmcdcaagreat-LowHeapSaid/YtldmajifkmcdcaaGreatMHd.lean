/-
  What a node holds is taken out of it, what its kids hold goes up (lift). No condition but those typed at each theorem.
-/
import Derived.Test.YtldmajifkmcdcaaGreatMHc
import Derived.Test.YtldmajifkmcdcaaGreatMO
import Derived.Test.YtldmajifkmcdcaaGreatBd
namespace Go.Proofs.YtldmajifkmcdcaaGreat.Hp
open Go.RowKit Go.Sort Bd
/-- is what the one holds ahead of what the other one does? -/
def ahB : Option S3 → Option S3 → Bool
  | none, _ => false
  | some _, none => true
  | some s, some t => ltY s t
theorem cY_lt (s t : S3) : decide (Ln.cY s t < 0) = ltY s t := by
  unfold ltY
  exact decide_eq_decide.2 Ln.cY_neg
set_option maxRecDepth 100000 in
set_option maxHeartbeats 1600000 in
theorem hahead_any {w : World} {kb n : Nat} {qb : S3 → Nat} {D : List S3} {g : Nat → Option S3} (h : KnM w kb n qb D g) (o p : Option S3) (ho : ∀ s, o = some s → s ∈ D) (hp : ∀ s, p = some s → s ∈ D) :
    Calls Tryz.prog 71 #[hv qb o, hv qb p] w fun e w' => e = .returned (.bool (ahB o p)) ∧ Below w.heap.size w w' := by
  cases o with
  | none =>
    clear h ho hp
    rw [show ahB none p = false from rfl, show hv qb none = Value.pointer none from rfl]
    generalize hv qb p = vp
    go_enter Tryz.func71, Tryz.ntmps71
    go_upto_region 1 with fail
    go_quiet (fail)
    go_wp2
    go_ret
    exact ⟨rfl, drewB (Below.refl _ _)⟩
  | some s =>
    cases p with
    | none =>
      clear h ho hp
      simp only [hv, ahB]
      generalize qb s = b
      go_enter Tryz.func71, Tryz.ntmps71
      go_upto_region 1 with fail
      go_quiet (fail)
      go_wp2
      go_ret
      exact ⟨rfl, drewB (Below.refl _ _)⟩
    | some t =>
      have hs := h.p1 (ho s rfl)
      have ht := h.p1 (hp t rfl)
      have HC := Lib.hid (fun X => Ln.cY_any s t X)
      have HL := Lib.hid (cY_lt s t)
      have s0 := hs.c0
      have s1 := hs.c1
      have s2 := hs.c2
      have t0 := ht.c0
      have t1 := ht.c1
      have t2 := ht.c2
      simp only [hv, ahB]
      generalize qb s = b at *
      generalize qb t = c at *
      generalize ltY s t = y at *
      generalize Ln.cY s t = cc at *
      obtain ⟨x1, y1, i1⟩ := s
      obtain ⟨x2, y2, i2⟩ := t
      unfold tv at HC
      simp only [Nat.zero_add] at s0 s1 s2 t0 t1 t2 HC
      clear h ho hp hs ht
      have inst : Nonempty (Wd (Bw w)) := ⟨⟨w, Below.refl _ _⟩⟩
      go_enter Tryz.func71, Tryz.ntmps71
      go_upto_region 1 with fail
      have b0 : ∀ z : Wd (Bw w), z.w.cell? ⟨b, 0, none⟩ = _ := fun z => Bw.cell z s0
      have b1 : ∀ z : Wd (Bw w), z.w.cell? ⟨b, 1, none⟩ = _ := fun z => Bw.cell z s1
      have b2 : ∀ z : Wd (Bw w), z.w.cell? ⟨b, 2, none⟩ = _ := fun z => Bw.cell z s2
      have d0 : ∀ z : Wd (Bw w), z.w.cell? ⟨c, 0, none⟩ = _ := fun z => Bw.cell z t0
      have d1 : ∀ z : Wd (Bw w), z.w.cell? ⟨c, 1, none⟩ = _ := fun z => Bw.cell z t1
      have d2 : ∀ z : Wd (Bw w), z.w.cell? ⟨c, 2, none⟩ = _ := fun z => Bw.cell z t2
      have HFC := Lib.hid (fun z : Wd (Bw w) => (HC.out z.w).mono (R' := fun e w' => e = .returned (.int .i64 cc) ∧ Below z.w.heap.size z.w w') (fun e w' hh => ⟨hh.1, hh.2.below⟩))
      refine wp_region_wd (Bw w) (by kernel_rfl) (by kernel_rfl) ((Below.refl _ w).drew) ?_
      repeat (first
        | go_big_quiet_step (first | (go_at_call 68; with_reducible exact calls_wd (fun _ _ h hb => h.keep hb) _ (HFC.out _)))
        | quiet_step (first | (go_at_call 68; with_reducible exact calls_wd (fun _ _ h hb => h.keep hb) _ (HFC.out _))))
      refine wpQuiet_nil ?_
      rintro _ ⟨z, rfl⟩
      have HB := Lib.hid (show Below w.heap.size w z.w from z.h)
      clear b0 b1 b2 d0 d1 d2 HFC
      go_wp2
      go_ret
      exact ⟨retb (by rw [← HL.out]), HB.out⟩
theorem upG_up (g : Nat → Option S3) (k : Nat) (x y : Option S3) : upG (upG g k x) k y = upG g k y := by
  funext i
  by_cases h : i = k
  · subst h; rw [upG_at, upG_at]
  · rw [upG_ne h, upG_ne h, upG_ne h]
section
variable {B kb n cap : Nat} {qb : S3 → Nat} {D : List S3}
/-- a part is lifted -/
def Lft (w : World) (kb n : Nat) (qb : S3 → Nat) (D : List S3) (b : Nat) (t : Tr) (g : Nat → Option S3) (w' : World) : Prop :=
  ∃ g', KnM w' kb n qb D g' ∧ rd g' b t = pull ltY (rd g b t) ∧ Same b t g g' ∧ Off [kb] w w'
set_option maxRecDepth 100000 in
set_option maxHeartbeats 1600000 in
theorem lift_lf {w : World} {g : Nat → Option S3} {b f : Nat} (h : KnM w kb n qb D g) (hn : (ndN n)[b]? = some (1, -1, -1, (f : Int), ((f + 1 : Nat) : Int), 0, (f : Int))) (c4 : w.cell? ⟨B, 4, none⟩ = some (.slice (some ⟨kb, 0, none⟩) (2 * n - 1) cap)) (hm : n ≤ 400) :
    Calls Tryz.prog 42 #[.pointer (some ⟨B, 0, none⟩), .int .i64 b] w fun e w' => e = .returned (.tuple #[]) ∧ Lft w kb n qb D b .lf g w' := by
  have hk : b < 2 * n - 1 := by have := (List.getElem?_eq_some_iff.1 hn).1; rwa [ndN_len] at this
  have nh := h.hc hk
  have f7 := h.free (b * 8 + 7)
  obtain ⟨W, hW⟩ : ∃ W, W = w.setCell ⟨kb, b * 8 + 7, none⟩ (.pointer none) := ⟨_, rfl⟩
  have hU : KnM W kb n qb D (upG g b none) := hW ▸ h.up (o := none) hk (by simp)
  have hO : Off [kb] w W := hW ▸ (Off.refl [kb] w).set _ _ (.inl (by simp))
  have n0 := (hU.nd hn).c0
  have HU := Lib.hid hU
  have HO := Lib.hid hO
  have HK := Lib.hid hk
  obtain ⟨m, hmm⟩ : ∃ m, m = 2 * n - 1 := ⟨_, rfl⟩
  rw [← hmm] at c4 hk
  have hm2 : m ≤ 1000 := by omega
  clear h hn hU hO hmm
  simp only at n0
  go_enter Tryz.func42, Tryz.ntmps42
  go_upto_region 2 with fail
  rw [← hW]
  clear hW
  go_wp2
  (try simp only [Exit.inBlock, Exit.then])
  refine bodyPost_ret (results_none rfl _ _ _) rfl ?_
  refine ⟨rfl, upG g b none, HU.out, by rw [rd_up_lf, rd, pull], same_up (Nat.le_refl _) (by simp [sz, lv]) none, HO.out⟩
set_option maxRecDepth 100000 in
set_option maxHeartbeats 3200000 in
theorem lift_nd {w : World} {g : Nat → Option S3} {b f : Nat} {l r : Tr} (h : KnM w kb n qb D g) (hS : SG (ndN n) b f (.nd l r)) (hb : b + sz (.nd l r) ≤ 2 * n - 1) (c4 : w.cell? ⟨B, 4, none⟩ = some (.slice (some ⟨kb, 0, none⟩) (2 * n - 1) cap)) (hB : B ≠ kb) (hm : n ≤ 400)
    (ihl : ∀ w g, KnM w kb n qb D g → w.cell? ⟨B, 4, none⟩ = some (.slice (some ⟨kb, 0, none⟩) (2 * n - 1) cap) → Calls Tryz.prog 42 #[.pointer (some ⟨B, 0, none⟩), .int .i64 (rt b l : Nat)] w fun e w' => e = .returned (.tuple #[]) ∧ Lft w kb n qb D b l g w')
    (ihr : ∀ w g, KnM w kb n qb D g → w.cell? ⟨B, 4, none⟩ = some (.slice (some ⟨kb, 0, none⟩) (2 * n - 1) cap) → Calls Tryz.prog 42 #[.pointer (some ⟨B, 0, none⟩), .int .i64 (rt (b + sz l) r : Nat)] w fun e w' => e = .returned (.tuple #[]) ∧ Lft w kb n qb D (b + sz l) r g w') :
    Calls Tryz.prog 42 #[.pointer (some ⟨B, 0, none⟩), .int .i64 (rt b (.nd l r) : Nat)] w fun e w' => e = .returned (.tuple #[]) ∧ Lft w kb n qb D b (.nd l r) g w' := by
  have hn := hS.root
  have e1 := sz_nd l r
  have e2 := rt_nd b l r
  have e3 := rt_lt b l
  have e4 := rt_lt (b + sz l) r
  have p1 := sz_pos l
  have p2 := sz_pos r
  have hk : rt b (.nd l r) < 2 * n - 1 := by omega
  have hkl : rt b l < 2 * n - 1 := by omega
  have hkr : rt (b + sz l) r < 2 * n - 1 := by omega
  have hlk : rt b l ≠ rt b (.nd l r) := by omega
  have hrk : rt (b + sz l) r ≠ rt b (.nd l r) := by omega
  have nh := h.hc hk
  have f7 := h.free (rt b (.nd l r) * 8 + 7)
  obtain ⟨W, hW⟩ : ∃ W, W = w.setCell ⟨kb, rt b (.nd l r) * 8 + 7, none⟩ (.pointer none) := ⟨_, rfl⟩
  have hU : KnM W kb n qb D (upG g (rt b (.nd l r)) none) := hW ▸ h.up (o := none) hk (by simp)
  have hO : Off [kb] w W := hW ▸ (Off.refl [kb] w).set _ _ (.inl (by simp))
  have d4 := hO.cell c4 (by simpa using hB)
  have HN := Lib.hid (fun X (hb : Below W.heap.size W X) => (hU.keep hb).nd hn)
  have vl := fun X (hb : Below W.heap.size W X) => (hU.keep hb).hc hkl
  have vr := fun X (hb : Below W.heap.size W X) => (hU.keep hb).hc hkr
  simp only [upG_ne hlk, upG_ne hrk] at vl vr
  have HVL := Lib.hid vl
  have HVR := Lib.hid vr
  have ol : ∀ s, g (rt b l) = some s → s ∈ D := fun s e => h.gm _ s hkl e
  have or' : ∀ s, g (rt (b + sz l) r) = some s → s ∈ D := fun s e => h.gm _ s hkr e
  have HA := Lib.hid (fun X (hb : Below W.heap.size W X) => hahead_any (hU.keep hb) (g (rt b l)) (g (rt (b + sz l) r)) ol or')
  have HU := Lib.hid hU
  have HO := Lib.hid hO
  have HIL := Lib.hid ihl
  have HIR := Lib.hid ihr
  have HOL := Lib.hid ol
  have HOR := Lib.hid or'
  -- what is left behind it, each way
  have PL : ∀ a g3, g (rt b l) = some a → ahB (g (rt b l)) (g (rt (b + sz l) r)) = true → rd g3 b l = pull ltY (rd (upG g (rt b (.nd l r)) (some a)) b l) → Same b l (upG g (rt b (.nd l r)) (some a)) g3 → rd g3 b (.nd l r) = pull ltY (rd g b (.nd l r)) ∧ Same b (.nd l r) g g3 := fun a g3 ha hah h1 h2 => by
    refine pull_up h2 ?_ ha (fun c hc => ?_)
    · rw [h1]
      congr 1
      exact rd_congr (fun i _ q2 => upG_ne (by omega) _ _)
    · rw [ha, hc] at hah
      exact hah
  have PR : ∀ c g3, g (rt (b + sz l) r) = some c → ahB (g (rt b l)) (g (rt (b + sz l) r)) = false → rd g3 (b + sz l) r = pull ltY (rd (upG g (rt b (.nd l r)) (some c)) (b + sz l) r) → Same (b + sz l) r (upG g (rt b (.nd l r)) (some c)) g3 → rd g3 b (.nd l r) = pull ltY (rd g b (.nd l r)) ∧ Same b (.nd l r) g g3 := fun c g3 hc hah h1 h2 => by
    refine pull_up2 h2 ?_ hc (fun a ha => ?_)
    · rw [h1]
      congr 1
      exact rd_congr (fun i _ q2 => upG_ne (by omega) _ _)
    · rw [ha, hc] at hah
      exact hah
  have PE : g (rt (b + sz l) r) = none → ahB (g (rt b l)) (g (rt (b + sz l) r)) = false → rd (upG g (rt b (.nd l r)) none) b (.nd l r) = pull ltY (rd g b (.nd l r)) := fun hr hah => by
    refine pull_end ?_ hr
    cases hl : g (rt b l) with
    | none => rfl
    | some a => rw [hl, hr] at hah; cases hah
  have HPL := Lib.hid PL
  have HPR := Lib.hid PR
  have HPE := Lib.hid PE
  have HSU := Lib.hid (same_up (g := g) (b := b) (t := .nd l r) (k := rt b (.nd l r)) (by omega) (by omega) none)
  obtain ⟨m, hmm⟩ : ∃ m, m = 2 * n - 1 := ⟨_, rfl⟩
  have HMM := Lib.hid hmm
  have HKK := Lib.hid hk
  have HLL := Lib.hid hkl
  have hm2 : m ≤ 1000 := by omega
  rw [← hmm] at c4 d4 hk hkl hkr HIL HIR
  generalize hkk : rt b (.nd l r) = k at *
  generalize hrl : rt b l = rl at *
  generalize hrr : rt (b + sz l) r = rr at *
  generalize hgl : g rl = gl at *
  generalize hgr : g rr = gr at *
  clear h hn hU hO hmm hS hb ihl ihr vl vr ol or' PL PR PE e1 e2 e3 e4 p1 p2 hlk hrk
  go_enter Tryz.func42, Tryz.ntmps42
  go_upto_region 2 with fail
  rw [← hW]
  clear hW
  have hN0 := HN.out W (Below.refl _ _)
  have n0 : W.cell? ⟨kb, k * 8, none⟩ = some (.int .u8 2) := hN0.c0
  have n2 : W.cell? ⟨kb, k * 8 + 2, none⟩ = some (.int .i64 rr) := hN0.c2
  have n1 : W.cell? ⟨kb, k * 8 + 1, none⟩ = some (.int .i64 rl) := hN0.c1
  clear hN0 nh f7
  go_upto_region 4 with fail
  have inst : Nonempty (Wd (Bw W)) := ⟨⟨W, Below.refl _ _⟩⟩
  have b4 : ∀ z : Wd (Bw W), z.w.cell? ⟨B, 4, none⟩ = _ := fun z => Bw.cell z d4
  have b1 : ∀ z : Wd (Bw W), z.w.cell? ⟨kb, k * 8 + 1, none⟩ = _ := fun z => Bw.cell z n1
  have b2 : ∀ z : Wd (Bw W), z.w.cell? ⟨kb, k * 8 + 2, none⟩ = _ := fun z => Bw.cell z n2
  have bl : ∀ z : Wd (Bw W), z.w.cell? ⟨kb, rl * 8 + 7, none⟩ = some (hv qb gl) := fun z => HVL.out z.w z.h
  have br : ∀ z : Wd (Bw W), z.w.cell? ⟨kb, rr * 8 + 7, none⟩ = some (hv qb gr) := fun z => HVR.out z.w z.h
  have HFC := Lib.hid (fun z : Wd (Bw W) => HA.out z.w z.h)
  refine wp_region_wd (Bw W) (by kernel_rfl) (by kernel_rfl) ((Below.refl _ W).drew) ?_
  repeat (first
    | go_big_quiet_step (first | (go_at_call 71; with_reducible exact calls_wd (fun _ _ h hb => h.keep hb) _ (HFC.out _)))
    | quiet_step (first | (go_at_call 71; with_reducible exact calls_wd (fun _ _ h hb => h.keep hb) _ (HFC.out _))))
  refine wpQuiet_nil ?_
  rintro _ ⟨z, rfl⟩
  have HB := Lib.hid (show Below W.heap.size W z.w from z.h)
  have m4 := b4 z
  have m1 := b1 z
  have ml := bl z
  have mr := br z
  generalize z.w = w2 at *
  clear b4 b1 b2 bl br HFC inst n0 n1 n2 d4
  have HU2 := Lib.hid (HU.out.keep HB.out)
  have HO2 := Lib.hid (HO.out.bel HB.out)
  have f7 := HU2.out.free (k * 8 + 7)
  have u7 := HU2.out.hc HKK.out
  rw [upG_at] at u7
  cases hah : ahB gl gr with
  | true =>
    obtain ⟨a, rfl⟩ : ∃ a, gl = some a := by
      cases gl with
      | none => cases hah
      | some a => exact ⟨a, rfl⟩
    have HU3 := Lib.hid (HU2.out.up (o := some a) HKK.out (fun s e => HOL.out s e))
    have HI := Lib.hid (HIL.out _ _ HU3.out (((Off.refl [kb] w2).set _ _ (.inl (by simp))).cell m4 (by simpa using hB)))
    simp only [hv] at ml u7 HI
    have HAH := Lib.hid hah
    clear mr hah
    go_wp2_with (go_at_call 42; (with_reducible refine HI.out.mono ?_); rintro e w5 ⟨rfl, hl5⟩; have HL5 := Lib.hid hl5; clear hl5)
    go_end0
    obtain ⟨g3, q1, q2, q3, q4⟩ := HL5.out
    rw [upG_up] at q2 q3
    obtain ⟨r1, r2⟩ := HPL.out a g3 rfl HAH.out q2 q3
    exact ⟨rfl, g3, q1, r1, r2, (HO2.out.set _ _ (.inl (by simp))).trans q4⟩
  | false =>
    cases gr with
    | none =>
      simp only [hv] at mr u7
      have HAH := Lib.hid hah
      clear ml hah
      go_wp2
      go_end0
      exact ⟨rfl, _, HU2.out, HPE.out (by trivial) HAH.out, HSU.out, HO2.out⟩
    | some c =>
      have HU3 := Lib.hid (HU2.out.up (o := some c) HKK.out (fun s e => HOR.out s e))
      have HI := Lib.hid (HIR.out _ _ HU3.out (((Off.refl [kb] w2).set _ _ (.inl (by simp))).cell m4 (by simpa using hB)))
      simp only [hv] at mr u7 HI
      have HAH := Lib.hid hah
      clear ml hah
      go_wp2_with (go_at_call 42; (with_reducible refine HI.out.mono ?_); rintro e w5 ⟨rfl, hl5⟩; have HL5 := Lib.hid hl5; clear hl5)
      go_end0
      obtain ⟨g3, q1, q2, q3, q4⟩ := HL5.out
      rw [upG_up] at q2 q3
      obtain ⟨r1, r2⟩ := HPR.out c g3 rfl HAH.out q2 q3
      exact ⟨rfl, g3, q1, r1, r2, (HO2.out.set _ _ (.inl (by simp))).trans q4⟩
theorem lift_any (hB : B ≠ kb) (hm : n ≤ 400) : ∀ (t : Tr) (b f : Nat), SG (ndN n) b f t → b + sz t ≤ 2 * n - 1 → ∀ w g, KnM w kb n qb D g → w.cell? ⟨B, 4, none⟩ = some (.slice (some ⟨kb, 0, none⟩) (2 * n - 1) cap) →
    Calls Tryz.prog 42 #[.pointer (some ⟨B, 0, none⟩), .int .i64 (rt b t : Nat)] w fun e w' => e = .returned (.tuple #[]) ∧ Lft w kb n qb D b t g w' := by
  intro t
  induction t with
  | lf =>
    intro b f hS hb w g h c4
    have hn := hS 0 _ rfl
    rw [Nat.add_zero] at hn
    rw [show rt b .lf = b by simp [rt, lv]]
    exact lift_lf h hn c4 hm
  | nd l r ihl ihr =>
    intro b f hS hb w g h c4
    have e1 := sz_nd l r
    exact lift_nd h hS hb c4 hB hm (fun w g hk c => ihl b f hS.left (by omega) w g hk c) (fun w g hk c => ihr (b + sz l) (f + lv l) hS.right (by omega) w g hk c)
end
end Go.Proofs.YtldmajifkmcdcaaGreat.Hp
/-
  The way from the root to a point's leaf; where on it a point is held. No condition but those typed at each theorem.
-/
namespace Go.Proofs.YtldmajifkmcdcaaGreat.Hp
open Go.RowKit Go.Sort Bd
/-- are they the same? -/
def eqB (a b c a' b' c' : Int) : Bool := decide ((a, b, c) = (a', b', c'))
set_option maxRecDepth 100000 in
set_option maxHeartbeats 1600000 in
theorem eqP (X : World) (a b c a' b' c' : Int) :
    (binOp .eql 34 (.agg #[.int .i64 a, .int .i64 b, .int .u32 c]) (.agg #[.int .i64 a', .int .i64 b', .int .u32 c'])).run Tryz.prog X = .ok (.bool (eqB a b c a' b' c')) X := by
  unfold eqB
  rw [run_eql_struct, run_equalIn_agg (ht := by kernel_rfl) (hp := by kernel_rfl)]
  simp [go_sem, Program.fieldsOf, Op.eqFields]
  by_cases h0 : a = a'
  · by_cases h1 : b = b'
    · by_cases h2 : c = c'
      · simp [h0, h1, h2]
      · simp [h0, h1, h2]
    · simp [h0, h1]
  · simp [h0]
/-- what stands of a tree, whatever its nodes hold -/
structure HoM (w : World) (P : HpP) (RX : List S3) (c : Int) : Prop where
  ev : EV 97 w P.B [.pointer (some ⟨P.B, 0, none⟩), P.rva, P.rvn, .pointer (some ⟨P.F, 0, none⟩), P.kv, .int .i64 c]
  row : OrR w kx RX P.rva P.rvn
  ord : Ord kx RX
  fr : ∃ d pp, FR w P.F RX.length d pp
  few : RX.length ≤ 400
section
variable {w w' : World} {P : HpP} {RX A D : List S3} {c : Int} {g : Nat → Option S3}
theorem HoM.off (h : HoM w P RX c) {S : List Nat} (o : Off S w w') (h1 : P.B ∉ S) (h2 : P.F ∉ S) (h3 : ∀ k, P.rva.ownBlock = some k → k ∉ S) (h4 : ∀ k, P.rvn.ownBlock = some k → k ∉ S) : HoM w' P RX c := by
  obtain ⟨d, pp, hF⟩ := h.fr
  exact ⟨h.ev.off o h1, h.row.off o h3 h4, h.ord, ⟨d, pp, hF.block (o.block _ hF.lt h2)⟩, h.few⟩
theorem HoM.keep (h : HoM w P RX c) (o : Below w.heap.size w w') : HoM w' P RX c := h.off (Off.of (S := []) o (Nat.le_refl _)) (by simp) (by simp) (by simp) (by simp)
theorem HpM.ho (h : HpM w P RX A) : HoM w P RX A.length := ⟨h.ev, h.row, h.ord, h.fr, h.few⟩
/-- a block of a node or of a point is none of these -/
theorem HoM.far (h : HoM w P RX c) {x : Nat} {cs : Array Value} {t : TypeId} (hx : w.heap[x]? = some (.cells cs t (0, 0))) (h1 : t ≠ 97) (h2 : t ≠ 130) (h3 : t ≠ 2) (h4 : t ≠ 32) : x ≠ P.B ∧ x ≠ P.F ∧ (∀ k, P.rva.ownBlock = some k → x ≠ k) ∧ ∀ k, P.rvn.ownBlock = some k → x ≠ k := by
  obtain ⟨d, pp, hF⟩ := h.fr
  refine ⟨types_ne hx h.ev h1, types_ne hx hF h2, fun k hk => ?_, fun k hk => ?_⟩
  · obtain ⟨cc, e⟩ := row_type h.row.ra hk
    exact types_ne hx e h3
  · obtain ⟨cc, e⟩ := row_type h.row.rn hk
    exact types_ne hx e h4
/-- the row's places -/
theorem HoM.at (h : HoM w P RX c) {s : S3} {i : Nat} (hx : fnd kx RX s.1 s.2.2 = (i, true)) : ∃ t, RX[i]? = some t ∧ t.1 = s.1 ∧ t.2.2 = s.2.2 := by
  have := fnd_true h.ord (Nat.le_trans h.few (by decide)) (v := s.1) (x := s.2.2) (by rw [hx])
  rw [hx] at this
  exact this
theorem HoM.idx (h : HoM w P RX c) {s : S3} (hs : s ∈ RX) : fnd kx RX s.1 s.2.2 = (RX.idxOf s, true) :=
  fnd_yes h.ord (Nat.le_trans h.few (by decide)) (i := RX.idxOf s) (List.getElem?_eq_some_iff.2 ⟨List.idxOf_lt_length_of_mem hs, List.getElem_idxOf _⟩) rfl rfl
set_option maxRecDepth 100000 in
set_option maxHeartbeats 1600000 in
theorem over_any (h : HoM w P RX c) (s : S3) {i : Nat} {y : Bool} (hx : fnd kx RX s.1 s.2.2 = (i, y)) :
    Calls Tryz.prog 70 #[.pointer (some ⟨P.B, 0, none⟩), tv s] w fun e w' => ∃ v, e = .returned v ∧ (if y = true then w'.ownsRow w.heap.size 3 1 v (pt i (tr RX.length) 0 0).length ((ints (pt i (tr RX.length) 0 0)).map (Value.int .i64)) else v = .slice none 0 0) ∧ Below w.heap.size w w' := by
  have hf : RX.length ≤ 8192 := Nat.le_trans h.few (by decide)
  have HF := Lib.hid (fun X (hb : Below w.heap.size w X) => find_any (o := 1) ((h.keep hb).ev.cell (i := 1) rfl) ((h.keep hb).ev.cell (i := 2) rfl) (h.keep hb).row h.ord hf s.1 s.2.2)
  rw [hx] at HF
  have HP : Hid (y = true → ∀ X, Below w.heap.size w X → Calls Tryz.prog 29 #[.pointer (some ⟨P.F, 0, none⟩), .int .i64 i] X fun e w' => ∃ v, e = .returned (tupP v 0) ∧ w'.ownsRow X.heap.size 3 1 v (pt i (tr RX.length) 0 0).length ((ints (pt i (tr RX.length) 0 0)).map (Value.int .i64)) ∧ Below X.heap.size X w') := Lib.hid (fun hy X hb => by
    subst hy
    obtain ⟨t, ht, -⟩ := h.at hx
    obtain ⟨d, pp, hF⟩ := (h.keep hb).fr
    exact FPath_any X P.F RX.length d pp hF i (List.getElem?_eq_some_iff.1 ht).1 (by have := h.few; omega))
  have c3 := h.ev.cell (i := 3) rfl
  have HSZ := Lib.hid h.ev.lt
  obtain ⟨x, yy, id⟩ := s
  unfold tupP at HP
  unfold tv
  simp only at HF ⊢
  generalize pt i (tr RX.length) 0 0 = L at *
  clear h hx hf
  go_enter Tryz.func70, Tryz.ntmps70
  obtain ⟨Y, hY⟩ : ∃ Y, Y = w.alloc (.cells #[.int .i64 x, .int .i64 yy, .int .u32 id] 34) := ⟨_, rfl⟩
  have hT1 : T1 Y w.heap.size 0 (x, yy, id) := hY ▸ T1.new w (x, yy, id) _
  have hYB : Below w.heap.size w Y := hY ▸ (Below.refl _ w).alloc (Nat.le_refl _) _
  go_upto_region 1 with fail
  rw [← hY]
  clear hY
  have HYB := Lib.hid hYB
  have HT1 := Lib.hid hT1
  clear hT1 hYB
  have inst : Nonempty (Wd (Bw Y)) := ⟨⟨Y, Below.refl _ _⟩⟩
  have b0 : ∀ z : Wd (Bw Y), z.w.cell? ⟨w.heap.size, 0, none⟩ = _ := fun z => Bw.cell z HT1.out.c0
  have b2 : ∀ z : Wd (Bw Y), z.w.cell? ⟨w.heap.size, 2, none⟩ = _ := fun z => Bw.cell z HT1.out.c2
  have HFC := Lib.hid (fun z : Wd (Bw Y) => HF.out z.w (HYB.out.trans (z.h.mono HYB.out.size)))
  refine wp_region_wd (Bw Y) (by kernel_rfl) (by kernel_rfl) ((Below.refl _ Y).drew) ?_
  repeat (first
    | go_big_quiet_step (first | (go_at_call 28; with_reducible exact calls_wd (fun _ _ h hb => h.keep hb) _ (HFC.out _)))
    | quiet_step (first | (go_at_call 28; with_reducible exact calls_wd (fun _ _ h hb => h.keep hb) _ (HFC.out _))))
  refine wpQuiet_nil ?_
  rintro _ ⟨z, rfl⟩
  have HB2 := Lib.hid (HYB.out.trans (z.h.mono HYB.out.size))
  generalize z.w = w2 at *
  clear b0 b2 HFC inst HYB HT1
  have d3 := (HB2.out.cell HSZ.out).trans c3
  cases y with
  | false =>
    go_wp2
    go_ret
    exact ⟨_, rfl, rfl, HB2.out⟩
  | true =>
    have HPC := Lib.hid (HP.out rfl w2 HB2.out)
    go_wp2_with (go_at_call 29; (refine HPC.out.mono ?_); rintro e w3 ⟨v, rfl, hr, hb⟩; have HR := Lib.hid hr; have HB3 := Lib.hid (HB2.out.trans (hb.mono HB2.out.size)); clear hr hb)
    go_ret
    have hs := HB2.out.size
    refine ⟨v, rfl, ?_, HB3.out⟩
    exact row_up HR.out (fun k hk => Nat.le_trans hs (HR.out.lt k hk).1)
theorem first_same {p : Nat → Prop} : ∀ {P P' Q Q' : List Nat} {k k' : Nat}, P ++ k :: Q = P' ++ k' :: Q' → (∀ j ∈ P, ¬ p j) → p k → (∀ j ∈ P', ¬ p j) → p k' → k = k'
  | [], [], Q, Q', k, k', h, _, _, _, _ => by simpa using (List.cons.inj h).1
  | [], a :: P', Q, Q', k, k', h, _, h2, h3, _ => by
    obtain rfl : k = a := (List.cons.inj h).1
    exact absurd h2 (h3 k (by simp))
  | a :: P, [], Q, Q', k, k', h, h1, _, _, h4 => by
    obtain rfl : a = k' := (List.cons.inj h).1
    exact absurd h4 (h1 a (by simp))
  | a :: P, a' :: P', Q, Q', k, k', h, h1, h2, h3, h4 => first_same (List.cons.inj h).2 (fun j hj => h1 j (by simp [hj])) h2 (fun j hj => h3 j (by simp [hj])) h4
/-- what is told of a point on its way: the first place that holds it -/
def Fnd (g : Nat → Option S3) (s : S3) (L : List Nat) (e : Ending) : Prop :=
  (e = .returned (.tuple #[.int .i64 0, .bool false]) ∧ ∀ k ∈ L, g k ≠ some s) ∨ ∃ M k N, L = M ++ k :: N ∧ (∀ j ∈ M, g j ≠ some s) ∧ g k = some s ∧ e = .returned (.tuple #[.int .i64 k, .bool true])
set_option maxRecDepth 100000 in
set_option maxHeartbeats 3200000 in
theorem hfind_at (h : HoM w P RX c) (hK : KnM w P.kb RX.length P.qb D g) {cap : Nat} (hkv : P.kv = .slice (some ⟨P.kb, 0, none⟩) (2 * RX.length - 1) cap) (s : S3) {i : Nat} (hx : fnd kx RX s.1 s.2.2 = (i, true)) :
    Calls Tryz.prog 41 #[.pointer (some ⟨P.B, 0, none⟩), tv s] w fun e w' => Fnd g s (pt i (tr RX.length) 0 0) e ∧ Below w.heap.size w w' := by
  have HO := Lib.hid (fun X (hb : Below w.heap.size w X) => over_any (h.keep hb) s hx)
  have c4 := h.ev.cell (i := 4) rfl
  rw [hkv] at c4
  obtain ⟨t, ht, -⟩ := h.at hx
  have hi := (List.getElem?_eq_some_iff.1 ht).1
  have hf := h.few
  have HIN : Hid (∀ k ∈ pt i (tr RX.length) 0 0, k < 2 * RX.length - 1) := Lib.hid (fun k hk => by
    have := (pt_in _ _ _ k hk).2
    unfold sz at this
    rw [lv_tr (by omega)] at this
    omega)
  have hLn : (pt i (tr RX.length) 0 0).length ≤ 400 := Nat.le_trans (pt_len _ _ _) (by rw [lv_tr (by omega)]; exact hf)
  have HK := Lib.hid hK
  have HSZ := Lib.hid h.ev.lt
  have q := eqP
  obtain ⟨m, hmm⟩ : ∃ m, m = 2 * RX.length - 1 := ⟨_, rfl⟩
  have hm2 : m ≤ 1000 := by omega
  rw [← hmm] at c4 HIN
  obtain ⟨L, hL⟩ : ∃ L, L = pt i (tr RX.length) 0 0 := ⟨_, rfl⟩
  rw [← hL] at HO HIN hLn ⊢
  simp only [if_true] at HO
  obtain ⟨n, hn⟩ : ∃ n, n = L.length := ⟨_, rfl⟩
  have HN := Lib.hid hn
  have HMM := Lib.hid hmm
  rw [← hn] at hLn HO
  obtain ⟨x, yy, id⟩ := s
  unfold tv at HO ⊢
  simp only at HO ⊢
  clear h hK hkv hx ht hi hf hmm hL hn
  go_enter Tryz.func41, Tryz.ntmps41
  obtain ⟨Y, hY⟩ : ∃ Y, Y = w.alloc (.cells #[.int .i64 x, .int .i64 yy, .int .u32 id] 34) := ⟨_, rfl⟩
  have hT1 : T1 Y w.heap.size 0 (x, yy, id) := hY ▸ T1.new w (x, yy, id) _
  have hYB : Below w.heap.size w Y := hY ▸ (Below.refl _ w).alloc (Nat.le_refl _) _
  go_upto_region 1 with fail
  rw [← hY]
  clear hY
  have HYB := Lib.hid hYB
  have HT1 := Lib.hid hT1
  have k0 := hT1.c0
  have k1 := hT1.c1
  have k2 := hT1.c2
  simp only [Nat.zero_add] at k0 k1 k2
  clear hT1 hYB
  go_wp2_with (go_at_call 70; (refine (HO.out Y HYB.out).mono ?_); rintro e w1 ⟨v, rfl, hr, hb⟩; obtain ⟨hl2, p2, c2, rfl, hn2, hp2, hc2⟩ := row_u (k := .i64) (xs := ints L) hr; have HB1 := Lib.hid (HYB.out.trans (hb.mono HYB.out.size)); have HR1 := Lib.hid hn2; have HT2 := Lib.hid (HT1.out.keep hb HT1.out.lt); clear hr hb hn2 hp2 hl2)
  clear k0 k1 k2 HT1 HYB HO
  go_loopw [13] (fun iv wr => ∃ j : Nat, j ≤ n ∧ iv = .int .i64 j ∧ Hid (∀ k ∈ L.take j, g k ≠ some (x, yy, id)) ∧ Hid (Below w1.heap.size w1 wr)) (fun iv _ => n - (intOf iv).toNat)
  case atStart => exact ⟨0, Nat.zero_le _, rfl, Lib.hid (by simp), Lib.hid (Below.refl _ _)⟩
  case round =>
    obtain ⟨j, hj, rfl, HS, HB⟩ := hrel
    have HBW := Lib.hid (HB1.out.trans (HB.out.mono HB1.out.size))
    by_cases hlt : j < n
    · have hltz : (j : Int) < n := by omega
      obtain ⟨k, hk⟩ : ∃ k, L[j]? = some k := ⟨_, List.getElem?_eq_getElem (by rw [← HN.out]; exact hlt)⟩
      have HKM := Lib.hid (HIN.out k (List.mem_of_getElem? hk))
      have hkm := HKM.out
      rcases HR1.out with h0 | ⟨bb, off, rfl, h1⟩
      · have : (ints L)[j]? = some (k : Int) := by unfold ints; rw [List.getElem?_map, hk]; rfl
        rw [h0] at this; simp at this
      have n0 := (HB.out.cell (World.block_lt_of_cell? _ _ (h1 j k (by unfold ints; rw [List.getElem?_map, hk]; rfl)))).trans (h1 j k (by unfold ints; rw [List.getElem?_map, hk]; rfl))
      have HJK := Lib.hid hk
      have hKW := HK.out.keep HBW.out
      have d4 := (HBW.out.cell HSZ.out).trans c4
      have n7 := hKW.hc (k := k) (by have := HMM.out; omega)
      have hT := HT2.out.keep HB.out HT2.out.lt
      have t0 := hT.c0
      have t1 := hT.c1
      have t2 := hT.c2
      simp only [Nat.zero_add] at t0 t1 t2
      have HNEXT : Hid (g k ≠ some (x, yy, id) → ∀ k ∈ L.take (j + 1), g k ≠ some (x, yy, id)) := Lib.hid (fun hne a ha => by
        rw [List.take_add_one, HJK.out] at ha
        rcases List.mem_append.1 ha with ha | ha
        · exact HS.out a ha
        · obtain rfl : a = k := by simpa using ha
          exact hne)
      have HFOUND : Hid (g k = some (x, yy, id) → ∃ M k' N, L = M ++ k' :: N ∧ (∀ j ∈ M, g j ≠ some (x, yy, id)) ∧ g k' = some (x, yy, id) ∧ k' = k) := Lib.hid (fun he => ⟨L.take j, k, L.drop (j + 1), by
        obtain ⟨h2, h3⟩ := List.getElem?_eq_some_iff.1 HJK.out
        rw [← h3, List.getElem_cons_drop, List.take_append_drop], HS.out, he, rfl⟩)
      cases hg : g k with
      | none =>
        rw [hg] at n7 HNEXT
        simp only [hv] at n7
        clear hKW hk h1 hg hT
        go_upto_region 5 with fail
        go_quiet (fail)
        go_wp2
        go_roundw
        case rel => exact ⟨j + 1, by omega, by go_num, Lib.hid (HNEXT.out (by simp)), Lib.hid (drewB HB.out)⟩
        case measure => simp [intOf]; omega
      | some u =>
        have hu := hKW.p1 (hKW.gm k u (by have := HMM.out; omega) hg)
        have u0 := hu.c0
        have u1 := hu.c1
        have u2 := hu.c2
        simp only [Nat.zero_add] at u0 u1 u2
        rw [hg] at n7 HNEXT HFOUND
        simp only [hv] at n7
        generalize P.qb u = qu at *
        obtain ⟨a1, a2, a3⟩ := u
        simp only at u0 u1 u2
        clear hKW hk h1 hg hT hu
        by_cases he : (a1, a2, a3) = (x, yy, id)
        · have hdd : eqB a1 a2 a3 x yy id = true := decide_eq_true he
          have HFO := Lib.hid (HFOUND.out (by rw [he]))
          clear HNEXT HFOUND he
          go_upto_region 5 with fail
          go_quiet (fail)
          go_wp2
          go_ret2
          refine ⟨.inr ?_, drewB HBW.out⟩
          obtain ⟨M, k', N, q1, q2, q3, rfl⟩ := HFO.out
          exact ⟨M, k', N, q1, q2, q3, rfl⟩
        · have hdd : eqB a1 a2 a3 x yy id = false := decide_eq_false he
          have HNE := Lib.hid (HNEXT.out (fun c => he (Option.some.inj c)))
          clear HNEXT HFOUND he
          go_upto_region 5 with fail
          go_quiet (fail)
          go_wp2
          go_roundw
          case rel => exact ⟨j + 1, by omega, by go_num, HNE, Lib.hid (drewB HB.out)⟩
          case measure => simp [intOf]; omega
    · have hltz : ¬ (j : Int) < n := by omega
      obtain rfl : j = n := by omega
      go_wp2
      go_ret2
      refine ⟨.inl ⟨rfl, ?_⟩, HBW.out⟩
      have := HS.out
      rwa [List.take_of_length_le (by rw [HN.out]; exact Nat.le_refl _)] at this
set_option maxRecDepth 100000 in
set_option maxHeartbeats 1600000 in
theorem hfind_no (h : HoM w P RX c) (s : S3) {i : Nat} (hx : fnd kx RX s.1 s.2.2 = (i, false)) :
    Calls Tryz.prog 41 #[.pointer (some ⟨P.B, 0, none⟩), tv s] w fun e w' => e = .returned (.tuple #[.int .i64 0, .bool false]) ∧ Below w.heap.size w w' := by
  have HO := Lib.hid (fun X (hb : Below w.heap.size w X) => over_any (h.keep hb) s hx)
  simp only [Bool.false_eq_true, if_false] at HO
  obtain ⟨x, yy, id⟩ := s
  unfold tv at HO ⊢
  simp only at HO ⊢
  clear h hx
  go_enter Tryz.func41, Tryz.ntmps41
  obtain ⟨Y, hY⟩ : ∃ Y, Y = w.alloc (.cells #[.int .i64 x, .int .i64 yy, .int .u32 id] 34) := ⟨_, rfl⟩
  have hT1 : T1 Y w.heap.size 0 (x, yy, id) := hY ▸ T1.new w (x, yy, id) _
  have hYB : Below w.heap.size w Y := hY ▸ (Below.refl _ w).alloc (Nat.le_refl _) _
  go_upto_region 1 with fail
  rw [← hY]
  clear hY
  have HYB := Lib.hid hYB
  have k0 := hT1.c0
  have k1 := hT1.c1
  have k2 := hT1.c2
  simp only [Nat.zero_add] at k0 k1 k2
  clear hT1 hYB
  go_wp2_with (go_at_call 70; (refine (HO.out Y HYB.out).mono ?_); rintro e w1 ⟨v, rfl, rfl, hb⟩; have HB1 := Lib.hid (HYB.out.trans (hb.mono HYB.out.size)); clear hb)
  clear k0 k1 k2 HYB HO
  go_loopw [13] (fun iv wr => iv = .int .i64 0 ∧ Hid (wr = w1)) (fun iv _ => 0)
  case atStart => exact ⟨rfl, Lib.hid rfl⟩
  case round =>
    obtain ⟨rfl, HW⟩ := hrel
    go_wp2
    go_ret2
    exact ⟨rfl, by rw [HW.out]; exact HB1.out⟩
end
end Go.Proofs.YtldmajifkmcdcaaGreat.Hp
/-
  A point is dropped. No condition but those typed at each theorem.
-/
namespace Go.Proofs.YtldmajifkmcdcaaGreat.Hp
open Go.RowKit Go.Sort Bd
section
variable {w w' : World} {P : HpP} {RX A D : List S3}
theorem HpM.sub (h : HpM w P RX A) : ∀ s ∈ A, s ∈ RX := fun s hs => by
  by_cases h0 : RX.length = 0
  · rw [(h.z0 h0).2] at hs
    cases hs
  · obtain ⟨g, -, h2⟩ := h.kn h0
    exact h2.sub s hs
/-- what a drop leaves -/
theorem HpM.lifted {w4 w5 : World} {g g' : Nat → Option S3} {s : S3} (h : HpM w4 P RX A) (hn : RX.length ≠ 0) (hI : HpI RX A g) (hs : s ∈ A) (hK : KnM w5 P.kb RX.length P.qb RX g') (hg : rd g' 0 (tr RX.length) = dropT ltY s (RX.idxOf s) 0 (rd g 0 (tr RX.length))) (ho : Off [P.kb] w4 w5) (hk4 : ∃ c, w4.heap[P.kb]? = some (.cells c 148 (0, 0))) :
    HpM (w5.setCell ⟨P.B, 5, none⟩ (.int .i64 ((drp A s).length : Nat))) P RX (drp A s) := by
  obtain ⟨c4, hc4⟩ := hk4
  have far := h.ho.far hc4 (by decide) (by decide) (by decide) (by decide)
  have nin : ∀ {x : Nat}, P.kb ≠ x → x ∉ [P.kb] := fun {x} hne hm => hne (List.mem_singleton.1 hm).symm
  have h5 := h.ho.off ho (nin far.1) (nin far.2.1) (fun k hk => nin (far.2.2.1 k hk)) (fun k hk => nin (far.2.2.2 k hk))
  have hset := (Off.refl [P.B] w5).set ⟨P.B, 5, none⟩ (.int .i64 ((drp A s).length : Nat)) (.inl (by simp))
  have tB : ∀ {t : TypeId} {c : Array Value} {x : Nat}, w5.heap[x]? = some (.cells c t (0, 0)) → t ≠ 97 → x ∉ [P.B] := fun {t c x} e ht hm => types_ne e h5.ev ht (List.mem_singleton.1 hm)
  obtain ⟨d, pp, hF⟩ := h5.fr
  refine ⟨h5.ev.set 5 _, h5.row.off hset (fun k hk => ?_) (fun k hk => ?_), h.ord, ⟨d, pp, hF.block (hset.block _ hF.lt (tB hF (by decide)))⟩, h.kv1, fun _ => ⟨g', hK.off hset ?_ (fun x hx => tB (hK.pt x hx) (by decide)), hI.drop hs hg⟩, fun h0 => absurd h0 hn, h.wf, h.few⟩
  · obtain ⟨cc, e⟩ := row_type h5.row.ra hk
    exact tB e (by decide)
  · obtain ⟨cc, e⟩ := row_type h5.row.rn hk
    exact tB e (by decide)
  · obtain ⟨cc, e⟩ := hK.ty
    exact tB e (by decide)
set_option maxRecDepth 100000 in
set_option maxHeartbeats 1600000 in
theorem hdrop_false (h : HpM w P RX A) (s : S3) (hF : ∀ X, Below w.heap.size w X → Calls Tryz.prog 41 #[.pointer (some ⟨P.B, 0, none⟩), tv s] X fun e w' => e = .returned (.tuple #[.int .i64 0, .bool false]) ∧ Below X.heap.size X w') :
    Calls Tryz.prog 21 #[.pointer (some ⟨P.B, 0, none⟩), tv s] w fun e w' => e = .returned (.bool false) ∧ Below w.heap.size w w' := by
  have HM := Lib.hid (fun X (hb : Below w.heap.size w X) => hmade_yes (h.keep hb))
  obtain ⟨x, yy, id⟩ := s
  unfold tv at hF ⊢
  simp only at hF ⊢
  have HF := Lib.hid hF
  clear h hF
  go_enter Tryz.func21, Tryz.ntmps21
  obtain ⟨Y, hY⟩ : ∃ Y, Y = w.alloc (.cells #[.int .i64 x, .int .i64 yy, .int .u32 id] 34) := ⟨_, rfl⟩
  have hT1 : T1 Y w.heap.size 0 (x, yy, id) := hY ▸ T1.new w (x, yy, id) _
  have hYB : Below w.heap.size w Y := hY ▸ (Below.refl _ w).alloc (Nat.le_refl _) _
  go_upto_region 1 with fail
  rw [← hY]
  clear hY
  have HYB := Lib.hid hYB
  have k0 := hT1.c0
  have k1 := hT1.c1
  have k2 := hT1.c2
  simp only [Nat.zero_add] at k0 k1 k2
  have HMW := Lib.hid (HM.out Y hYB)
  clear hT1 hYB
  go_wp2_with (first
    | (go_at_call 40; (with_reducible refine HMW.out.mono ?_); rintro e wM ⟨rfl, hM⟩; subst wM)
    | (go_at_call 41; (with_reducible refine (HF.out Y HYB.out).mono ?_); rintro e w1 ⟨rfl, hb⟩; have HB1 := Lib.hid (HYB.out.trans (hb.mono HYB.out.size)); clear hb))
  go_ret
  exact ⟨rfl, HB1.out⟩
set_option maxRecDepth 100000 in
set_option maxHeartbeats 1600000 in
theorem hdrop_true {g : Nat → Option S3} {k : Nat} (h : HpM w P RX A) (hn : RX.length ≠ 0) (hK : KnM w P.kb RX.length P.qb RX g) (hI : HpI RX A g) (s : S3) (hs : s ∈ A) (hF : ∀ X, Below w.heap.size w X → Calls Tryz.prog 41 #[.pointer (some ⟨P.B, 0, none⟩), tv s] X fun e w' => e = .returned (.tuple #[.int .i64 k, .bool true]) ∧ Below X.heap.size X w')
    (hL : ∀ X, Below w.heap.size w X → Calls Tryz.prog 42 #[.pointer (some ⟨P.B, 0, none⟩), .int .i64 k] X fun e w' => e = .returned (.tuple #[]) ∧ ∃ g', KnM w' P.kb RX.length P.qb RX g' ∧ rd g' 0 (tr RX.length) = dropT ltY s (RX.idxOf s) 0 (rd g 0 (tr RX.length)) ∧ Off [P.kb] X w') :
    Calls Tryz.prog 21 #[.pointer (some ⟨P.B, 0, none⟩), tv s] w fun e w' => e = .returned (.bool true) ∧ HpM w' P RX (drp A s) ∧ Off [P.B, P.kb] w w' := by
  have HM := Lib.hid (fun X (hb : Below w.heap.size w X) => hmade_yes (h.keep hb))
  have hB : P.B ≠ P.kb := by obtain ⟨cc, e⟩ := hK.ty; exact types_ne h.ev e (by decide)
  have HH := Lib.hid h
  have HI := Lib.hid hI
  have HKT := Lib.hid (fun X (hb : Below w.heap.size w X) => (hK.keep hb).ty)
  have HS := Lib.hid hs
  have hlen := drp_one hI.rga.once hs
  have hz : (A.length : Int) - 1 = ((drp A s).length : Nat) := by omega
  have hal : A.length ≤ 400 := Nat.le_trans (List.Nodup.length_le_of_subset hI.rga.once hI.sub) h.few
  have HL := Lib.hid hL
  obtain ⟨sv, hsv⟩ : ∃ sv, sv = s := ⟨_, rfl⟩
  have HSV := Lib.hid hsv
  rw [← hsv] at HL HS hz hlen ⊢
  obtain ⟨x, yy, id⟩ := s
  unfold tv at hF ⊢
  rw [hsv] at ⊢
  simp only at hF ⊢
  rw [← hsv]
  have HF := Lib.hid hF
  generalize (drp A sv).length = dl at *
  have HDL : Hid (dl = (drp A sv).length) := Lib.hid (by have := drp_one HI.out.rga.once HS.out; omega)
  clear h hF hL hI hK hs hsv
  go_enter Tryz.func21, Tryz.ntmps21
  obtain ⟨Y, hY⟩ : ∃ Y, Y = w.alloc (.cells #[.int .i64 x, .int .i64 yy, .int .u32 id] 34) := ⟨_, rfl⟩
  have hT1 : T1 Y w.heap.size 0 (x, yy, id) := hY ▸ T1.new w (x, yy, id) _
  have hYB : Below w.heap.size w Y := hY ▸ (Below.refl _ w).alloc (Nat.le_refl _) _
  go_upto_region 1 with fail
  rw [← hY]
  clear hY
  have HYB := Lib.hid hYB
  have k0 := hT1.c0
  have k1 := hT1.c1
  have k2 := hT1.c2
  simp only [Nat.zero_add] at k0 k1 k2
  have HMW := Lib.hid (HM.out Y hYB)
  clear hT1 hYB
  go_wp2_with (first
    | (go_at_call 40; (with_reducible refine HMW.out.mono ?_); rintro e wM ⟨rfl, hM⟩; subst wM)
    | (go_at_call 41; (with_reducible refine (HF.out Y HYB.out).mono ?_); rintro e w1 ⟨rfl, hb⟩; have HB1 := Lib.hid (HYB.out.trans (hb.mono HYB.out.size)); clear hb)
    | (go_at_call 42; (with_reducible refine (HL.out w1 HB1.out).mono ?_); rintro e w5 ⟨rfl, hl⟩; have HL5 := Lib.hid hl; have HE5 : Hid (EV 97 w5 P.B [.pointer (some ⟨P.B, 0, none⟩), P.rva, P.rvn, .pointer (some ⟨P.F, 0, none⟩), P.kv, .int .i64 A.length]) := Lib.hid (by obtain ⟨_, _, _, ho⟩ := hl; exact (HH.out.keep HB1.out).ev.off ho (by simpa using hB)); have m5 := HE5.out.cell (i := 5) rfl; have f5 := HE5.out.free 5; clear hl))
  go_ret
  obtain ⟨g', q1, q2, q3⟩ := HL5.out
  have hset := (Off.refl [P.B, P.kb] w5).set ⟨P.B, 5, none⟩ (.int .i64 (dl : Nat)) (.inl (by simp))
  have ho : Off [P.B, P.kb] w w5 := (Off.of (S := [P.B, P.kb]) HB1.out (Nat.le_refl _)).trans (q3.mono (fun x _ hx => by simp at hx; simp [hx]))
  refine ⟨rfl, ?_, ho.trans hset⟩
  have hH := HH.out.keep HB1.out
  have := hH.lifted hn HI.out HS.out q1 q2 q3 (HKT.out w1 HB1.out)
  rw [HDL.out]
  exact this
/-- a point is dropped, if it is there -/
theorem hdrop_any (h : HpM w P RX A) (s : S3) :
    Calls Tryz.prog 21 #[.pointer (some ⟨P.B, 0, none⟩), tv s] w fun e w' => e = .returned (.bool (decide (s ∈ A))) ∧ HpM w' P RX (drp A s) ∧ Off [P.B, P.kb] w w' := by
  have stay : s ∉ A → Calls Tryz.prog 21 #[.pointer (some ⟨P.B, 0, none⟩), tv s] w (fun e w' => e = .returned (.bool false) ∧ Below w.heap.size w w') → Calls Tryz.prog 21 #[.pointer (some ⟨P.B, 0, none⟩), tv s] w fun e w' => e = .returned (.bool (decide (s ∈ A))) ∧ HpM w' P RX (drp A s) ∧ Off [P.B, P.kb] w w' := fun hn hc => hc.mono (fun e w' hh => by
    rw [decide_eq_false hn, drp_not hn]
    exact ⟨hh.1, h.keep hh.2, Off.of hh.2 (Nat.le_refl _)⟩)
  rcases hx : fnd kx RX s.1 s.2.2 with ⟨i, bx⟩
  cases bx with
  | false =>
    refine stay (fun hA => ?_) (hdrop_false h s (fun X hb => hfind_no (h.keep hb).ho s hx))
    rw [h.ho.idx (h.sub s hA)] at hx
    simp at hx
  | true =>
    obtain ⟨t, ht, ht1, ht2⟩ := h.ho.at hx
    have hn : RX.length ≠ 0 := by have := (List.getElem?_eq_some_iff.1 ht).1; omega
    obtain ⟨g, hK, hI⟩ := h.kn hn
    obtain ⟨cap, hkv⟩ := h.kv1 hn
    have hF := fun X (hb : Below w.heap.size w X) => hfind_at (h.keep hb).ho (hK.keep hb) hkv s hx
    have hidx : s ∈ RX → i = RX.idxOf s := fun hs => by rw [h.ho.idx hs] at hx; exact (congrArg Prod.fst hx).symm
    rcases find_way (g := g) (s := s) (p := i) (tr RX.length) 0 0 with ⟨w1, w2, w3⟩ | ⟨M, N, b0, f0, t0, w1, w2, w3, w4, w5, w6⟩
    · refine stay (fun hA => ?_) (hdrop_false h s (fun X hb => (hF X hb).mono (fun e w' hh => ?_)))
      · rw [hidx (h.sub s hA), hI.has s, decide_eq_true hA] at w3
        cases w3
      · obtain ⟨⟨he, -⟩ | ⟨M, k, N, q1, q2, q3, q4⟩, hb'⟩ := hh
        · exact ⟨he, hb'⟩
        · exact absurd q3 (w1 k (by rw [q1]; simp))
    · have hk0 : rt b0 t0 < 2 * RX.length - 1 := by
        have h1 := w4.in
        have h2 := rt_lt b0 t0
        unfold sz at h1
        rw [lv_tr (by omega)] at h1
        unfold sz at h2
        omega
      have hs : s ∈ RX := hK.gm _ s hk0 w3
      have hA : s ∈ A := by
        rw [hidx hs, hI.has s] at w5
        exact of_decide_eq_true w5
      rw [decide_eq_true hA]
      refine hdrop_true h hn hK hI s hA (k := rt b0 t0) (fun X hb => (hF X hb).mono (fun e w' hh => ?_)) (fun X hb => ?_)
      · obtain ⟨⟨-, hno⟩ | ⟨M', k, N', q1, q2, q3, q4⟩, hb'⟩ := hh
        · exact absurd w3 (hno _ (by rw [w1]; simp))
        · have := first_same (p := fun j => g j = some s) (q1.symm.trans w1) q2 q3 w2 w3
          subst this
          exact ⟨q4, hb'⟩
      · have hX := hK.keep hb
        have hB : P.B ≠ P.kb := by obtain ⟨cc, e⟩ := hK.ty; exact types_ne h.ev e (by decide)
        have c4 := (h.keep hb).ev.cell (i := 4) rfl
        rw [hkv] at c4
        have h1 := w4.in
        refine (lift_any (qb := P.qb) (D := RX) hB h.few t0 b0 f0 (w4.sg (SG.all _ (by omega))) (by unfold sz at h1 ⊢; rw [lv_tr (by omega)] at h1; omega) X g hX c4).mono (fun e w' hh => ?_)
        obtain ⟨rfl, g', q1, q2, q3, q4⟩ := hh
        refine ⟨rfl, g', q1, ?_, q4⟩
        rw [← hidx hs]
        exact (w6 g' q2 q3).1
theorem hdrop_nil (w : World) (s : S3) : Calls Tryz.prog 21 #[.pointer none, tv s] w fun e w' => e = .returned (.bool false) ∧ Below w.heap.size w w' := by
  have HM := Lib.hid (fun X => hmade_nil X)
  obtain ⟨x, y, id⟩ := s
  unfold tv
  simp only
  go_enter Tryz.func21, Tryz.ntmps21
  go_wp2_with (go_at_call 40; (with_reducible refine (HM.out _).mono ?_); rintro e wM ⟨rfl, hM⟩; subst wM)
  go_ret
  exact ⟨rfl, (Below.refl _ w).alloc (Nat.le_refl _) _⟩
end
end Go.Proofs.YtldmajifkmcdcaaGreat.Hp
