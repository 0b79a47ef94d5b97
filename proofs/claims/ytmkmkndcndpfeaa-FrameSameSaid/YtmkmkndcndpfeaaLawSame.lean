/-
  FrameSame: however often, and in whichever order a frame is asked, it tells the same, in memory of its own. For all numbers; no condition.
-/
import Derived.Test.YtmkmkndcndpfeaaApart3
import Derived.Test.YtmkmkndcndpfeaaFaw
import Derived.Test.YtmkmkndcndpfeaaLift
namespace Go.Proofs.Ytmkmkndcndpfeaa
open Go.ChangeShapes Go.WideShapes Go.ChangeAt Go.RowKit Go.Joins

theorem HW1 {w w1 X : World} (h : Below w.heap.size w w1) (g : Below w1.heap.size w1 X) : Below w.heap.size w X := h.trans (g.mono h.size)
theorem NSs.off {w w' : World} {p : Option Addr} {k : IntKind} {xs : List Int} {S : List Nat} (h : NS w p k xs) (g : Off S w w') (hS : ∀ b off, p = some ⟨b, off, none⟩ → b ∉ S) : NS w' p k xs := by
  rcases h with h | ⟨b, off, rfl, h⟩
  · exact .inl h
  · exact .inr ⟨b, off, rfl, fun j x e => g.cell (h j x e) (hS b off rfl)⟩
/-- a list of places that has been told: none, or in a block of its own, from lo on, below hi -/
def LS (w : World) (lo hi : Nat) (p : Option Addr) (c : Nat) (C : List Nat) : Prop :=
  (C = [] ∧ p = none ∧ c = 0) ∨ ∃ g L, C ≠ [] ∧ p = some ⟨g, 0, none⟩ ∧ lo ≤ g ∧ g < hi ∧ EV 3 w g L ∧ L.length = c ∧ C.length ≤ c ∧ c ≤ maxLen ∧ NS w p .i64 (ints C)
theorem FR.fs {w : World} {B n : Nat} (h : FR w B n 0 (.pointer none)) : FS w B n [B] := .inl ⟨h, rfl⟩
theorem LS.off {w w' : World} {lo hi c : Nat} {p : Option Addr} {C S : List Nat} (h : LS w lo hi p c C) (g : Off S w w') (hS : ∀ k ∈ S, k < lo) : LS w' lo hi p c C := by
  rcases h with h | ⟨b, L, h0, rfl, h1, h2, h3, h4, h5, h6, h7⟩
  · exact .inl h
  · have hb : b ∉ S := fun e => by have := hS b e; omega
    exact .inr ⟨b, L, h0, rfl, h1, h2, h3.off g hb, h4, h5, h6, NSs.off h7 g (fun b2 off e => by cases e; exact hb)⟩
theorem LS.keep {w w' : World} {lo hi c : Nat} {p : Option Addr} {C : List Nat} (h : LS w lo hi p c C) (g : Below w.heap.size w w') : LS w' lo hi p c C :=
  h.off (S := []) (Off.of g (Nat.le_refl _)) (by simp)
theorem LS.ns {w : World} {lo hi c : Nat} {p : Option Addr} {C : List Nat} (h : LS w lo hi p c C) : NS w p .i64 (ints C) := by
  rcases h with ⟨h, _⟩ | ⟨b, L, h0, rfl, h1, h2, h3, h4, h5, h6, h7⟩
  · subst h; exact .inl rfl
  · exact h7
theorem canon_ls (X : World) (B m : Nat) (d : Int) (pp : Value) (h : FR X B m d pp) (x y : Nat) (hxy : x ≤ y) (hy : y ≤ m) (hm : m ≤ 1500) :
    Calls Try.prog 12 #[.pointer (some ⟨B, 0, none⟩), .int .i64 x, .int .i64 y] X fun e w' => ∃ p c, e = .returned (.tuple #[.slice p (cnF m x y).1.length c, .int .i64 ((cnF m x y).2 : Nat), .int .i64 0]) ∧ LS w' X.heap.size w'.heap.size p c (cnF m x y).1 ∧ Below X.heap.size X w' := by
  by_cases e : x = y
  · subst e
    have e0 : cnF m x x = ([], 0) := by unfold cnF; rw [if_pos rfl]
    rw [e0]
    refine (FCanon_nil X B m d pp h x hy).mono ?_
    rintro e w' ⟨rfl, rfl⟩
    exact ⟨none, 0, rfl, .inl ⟨rfl, rfl, rfl⟩, Below.refl _ _⟩
  · refine (FCanon_any X B m d pp h x y hxy hy hm).mono ?_
    rintro e w' ⟨v, rfl, hr, hb⟩
    have hne := cnF_ne (n := m) (x := x) (y := y) (by omega) hy
    obtain ⟨g, c, L, rfl, hg, hE, hL, hnc, hcm⟩ := row_whole hr (List.length_pos_iff.2 hne)
    obtain ⟨p', c', e1, hp⟩ := row_ints hr
    cases e1
    exact ⟨_, _, rfl, .inr ⟨g, L, hne, rfl, hg, hE.lt, hE, by omega, hnc, hcm, hp⟩, hb⟩
theorem apart_ls (X : World) (a1 b1 a2 b2 a3 b3 : Nat) (p1 p2 p3 : Option Addr) (c1 c2 c3 : Nat) (C : List Nat) (h1 : LS X a1 b1 p1 c1 C) (h2 : LS X a2 b2 p2 c2 C) (h3 : LS X a3 b3 p3 c3 C) (h12 : b1 ≤ a2) (h23 : b2 ≤ a3) (hX : a1 ≤ X.heap.size) :
    Calls Try.prog 28 #[.slice (some ⟨X.heap.size, 0, none⟩) 3 3] (X.alloc (.cells #[.slice p1 C.length c1, .slice p2 C.length c2, .slice p3 C.length c3] 29)) fun e w' => e = .returned (.bool true) ∧ Below a1 X w' := by
  rcases h1 with ⟨h0, rfl, rfl⟩ | ⟨g1, L1, h0, rfl, q1, q2, q3, q4, q5, q6, -⟩
  · subst h0
    rcases h2 with ⟨-, rfl, rfl⟩ | ⟨_, _, h, _⟩
    · rcases h3 with ⟨-, rfl, rfl⟩ | ⟨_, _, h, _⟩
      · refine (apart_nil3 (X.alloc (.cells #[.slice none 0 0, .slice none 0 0, .slice none 0 0] 29)) X.heap.size ((World.cell?_alloc_new (w := X) _ _ 0).trans rfl) ((World.cell?_alloc_new (w := X) _ _ 1).trans rfl) ((World.cell?_alloc_new (w := X) _ _ 2).trans rfl)).mono ?_
        rintro e w' ⟨rfl, hO⟩
        exact ⟨rfl, ((Off.refl [] X).all _ |>.trans hO).below hX (by simp)⟩
      · exact absurd rfl h
    · exact absurd rfl h
  · rcases h2 with ⟨h, _⟩ | ⟨g2, L2, -, rfl, r1, r2, r3, r4, r5, r6, -⟩
    · exact absurd h h0
    · rcases h3 with ⟨h, _⟩ | ⟨g3, L3, -, rfl, s1, s2, s3, s4, s5, s6, -⟩
      · exact absurd h h0
      · refine (apart_3 X g1 c1 g2 c2 g3 c3 C.length L1 L2 L3 q3 q4 r3 r4 s3 s4 (by omega) (by omega) q5 r5 s5 q6 r6 s6).mono ?_
        rintro e w' ⟨rfl, hO⟩
        exact ⟨rfl, hO.below hX (by simp; omega)⟩

set_option maxRecDepth 100000 in
set_option maxHeartbeats 6400000 in
theorem same_walk (a q1 q2 : Int) (w : World) (ha : 0 ≤ a ∧ a ≤ 65535) :
    Calls Try.prog 7 #[.int .u16 a, .int .i64 q1, .int .i64 q2] w fun e w' => e = .returned (.bool true) ∧ Below w.heap.size w w' := by
  obtain ⟨a', rfl⟩ : ∃ a' : Nat, a = a' := ⟨a.toNat, by omega⟩
  obtain ⟨m, hz, hm⟩ : ∃ m : Nat, (a' : Int) % 301 = m ∧ m ≤ 300 := ⟨a' % 301, by omega, by omega⟩
  have ha2 : a' ≤ 65535 := by omega
  clear ha
  have hM := made_any w m (by omega)
  have hlen := ndN_len m
  obtain ⟨L, hL⟩ : ∃ L, L = ndN m := ⟨_, rfl⟩
  have HL := Lib.hid hL
  rw [← hL] at hM hlen
  obtain ⟨z, hzl⟩ : ∃ z, z = L.length := ⟨_, rfl⟩
  have HZ := Lib.hid hzl
  rw [← hzl] at hM hlen
  have HM := Lib.hid hM
  have HRG := Lib.hid (fun X => ranged_any X m q1 q2 (by omega))
  have HNW := Lib.hid (fun X => FNew_any X m (by omega))
  have hzb : (z : Int) ≤ 600 := by omega
  have HZZ := Lib.hid hlen
  have HCP : Hid (∀ X p c, NdS X p L → (p = none → c = 0) → Calls Try.prog 27 #[.slice p z c] X fun e w' => ∃ p' c', e = .returned (.slice p' z c') ∧ NdS w' p' L ∧ (∀ b o, p' = some ⟨b, o, none⟩ → X.heap.size ≤ b) ∧ Below X.heap.size X w') := Lib.hid (fun X p c h1 h2 => by
    have := CopyNodes_any X p c L h1 h2 (by omega)
    rw [← hzl] at this
    refine this.mono ?_
    rintro e w' ⟨v, rfl, hR, hb⟩
    obtain ⟨-, p4, c4, rfl, hNd, -⟩ := row_nds hR
    exact ⟨p4, c4, rfl, hNd, fun b o e => own_geB hR b (by rw [e]; rfl), hb⟩)
  have HEQ : Hid (∀ X p c p' c', NdS X p L → NdS X p' L → Calls Try.prog 19 #[.slice p z c, .slice p' z c'] X fun e w' => e = .returned (.bool true) ∧ Below X.heap.size X w') := Lib.hid (fun X p c p' c' h1 h2 => by
    have := nodes_any X p p' c c' L L h1 h2 (by omega)
    rw [decide_eq_true rfl, ← hzl] at this
    exact this)
  have HND : Hid (∀ X B bl, FS X B m bl → Calls Try.prog 20 #[.pointer (some ⟨B, 0, none⟩)] X fun e w' => ∃ p c, e = .returned (.slice p z c) ∧ NdS w' p L ∧ (∃ bl', FS w' B m bl') ∧ Off bl X w') := Lib.hid (fun X B bl h => by
    refine (FNodes_any X B m bl h (by omega)).mono ?_
    rintro e w' ⟨v, rfl, bl', h1, h2, h3, h4, h5⟩
    rw [← hL, ← hzl] at h4
    obtain ⟨-, p4, c4, rfl, hNd, -⟩ := row_nds h4
    exact ⟨p4, c4, rfl, hNd, ⟨bl', h1⟩, h2⟩)
  clear hM hL hzl hlen
  go_enter Try.func7, Try.ntmps7
  go_upto_region 7 with (first
    | (go_at_call 21; (with_reducible refine HM.out.mono ?_); rintro e w1 ⟨v, bl, rfl, hFS, hbl, hB, hrow, hnot⟩; obtain ⟨hll, p, c, rfl, hN, hp0, -⟩ := row_nds hrow; have HFS := Lib.hid hFS; have HBL := Lib.hid hbl; have HB := Lib.hid hB; have HN := Lib.hid hN; have HP0 := Lib.hid hp0; have HROW := Lib.hid hrow; have HNOT := Lib.hid hnot; clear hFS hbl hB hrow hnot hN hll hp0)
    | (go_at_call 10; (with_reducible refine (HNW.out _).mono ?_); rintro e w2 ⟨rfl, hF, hb⟩; have HFG := Lib.hid hF; have HB2 := Lib.hid hb; clear hF hb)
    | (go_at_call 25; (with_reducible refine (HRG.out _).mono ?_); rintro e w3 ⟨x, y, rfl, hxy, hym, rfl⟩))
  have HCA : Hid (∀ X B d pp, FR X B m d pp → Calls Try.prog 12 #[.pointer (some ⟨B, 0, none⟩), .int .i64 x, .int .i64 y] X fun e w' => ∃ p c, e = .returned (.tuple #[.slice p (cnF m x y).1.length c, .int .i64 ((cnF m x y).2 : Nat), .int .i64 0]) ∧ LS w' X.heap.size w'.heap.size p c (cnF m x y).1 ∧ Below X.heap.size X w') := Lib.hid (fun X B d pp h => canon_ls X B m d pp h x y hxy hym (by omega))
  have hC1 : (cnF m x y).1.length ≤ 8192 := by
    unfold cnF
    split
    · simp
    · have := (cn_len x y (tr m) 0 0).1
      rw [lv_tr (by omega)] at this
      omega
  obtain ⟨C, hC⟩ : ∃ C, C = (cnF m x y).1 := ⟨_, rfl⟩
  obtain ⟨E, hE⟩ : ∃ E, E = (cnF m x y).2 := ⟨_, rfl⟩
  rw [← hC] at hC1
  simp only [← hC, ← hE] at HCA
  obtain ⟨q, hq⟩ : ∃ q, q = C.length := ⟨_, rfl⟩
  have HAP : Hid (∀ X a1 b1 a2 b2 a3 b3 p1 p2 p3 c1 c2 c3, LS X a1 b1 p1 c1 C → LS X a2 b2 p2 c2 C → LS X a3 b3 p3 c3 C → b1 ≤ a2 → b2 ≤ a3 → a1 ≤ X.heap.size → Calls Try.prog 28 #[.slice (some ⟨X.heap.size, 0, none⟩) 3 3] (X.alloc (.cells #[.slice p1 q c1, .slice p2 q c2, .slice p3 q c3] 29)) fun e w' => e = .returned (.bool true) ∧ Below a1 X w') := Lib.hid (fun X a1 b1 a2 b2 a3 b3 p1 p2 p3 c1 c2 c3 h1 h2 h3 h4 h5 h6 => by
    rw [hq]
    exact apart_ls X a1 b1 a2 b2 a3 b3 p1 p2 p3 c1 c2 c3 C h1 h2 h3 h4 h5 h6)
  have HIN : Hid (∀ X p c p' c', NS X p .i64 (ints C) → NS X p' .i64 (ints C) → Calls Try.prog 14 #[.slice p q c, .slice p' q c'] X fun e w' => e = .returned (.bool true) ∧ Below X.heap.size X w') := Lib.hid (fun X p c p' c' h1 h2 => by
    have := ints_any X p p' c c' (ints C) (ints C) h1 h2 (by rw [ints_len]; omega)
    rw [decide_eq_true rfl, ints_len, ← hq] at this
    exact this)
  simp only [← hq] at HCA
  clear hC hE hq hC1 HRG HNW HM HL
  have HROW1 := HROW
  have hs13 := HB2.out.size
  have hl13 := HFG.out.lt
  have hb1 : w.heap.size < w1.heap.size := by obtain ⟨d1, pp1, h⟩ := HFS.out.fr; exact h.lt
  have HFS3 := Lib.hid (HFS.out.keep HB2.out)
  obtain ⟨d0, pp0, hfr⟩ := HFS3.out.fr
  have HFR := Lib.hid hfr
  have HN := Lib.hid (HN.out.keep HB2.out)
  have HROW := Lib.hid (row_keep HROW.out HB2.out)
  have HB3 := Lib.hid (HW1 HB.out HB2.out)
  have HBW := Lib.hid (Below.refl w3.heap.size w3)
  have HS : Hid (∀ k ∈ (Value.slice p z c).ownBlock.toList, w.heap.size ≤ k ∧ k < w1.heap.size ∧ k ∉ bl) := Lib.hid (fun k hk => by
    have hk2 : (Value.slice p z c).ownBlock = some k := by simpa [Option.mem_toList] using hk
    have h1 := HROW1.out.lt k hk2
    exact ⟨h1.1, h1.2, HNOT.out k hk2⟩)
  obtain ⟨S, hS⟩ : ∃ S, S = (Value.slice p z c).ownBlock.toList := ⟨_, rfl⟩
  rw [← hS] at HS
  have HSE := Lib.hid hS
  clear hfr HNOT HROW1 hS
  go_upto_region 11 with (first
    | (go_at_call 12; (with_reducible refine (HCA.out _ _ _ _ HFG.out).mono ?_); rintro e w4 ⟨p4, c4, rfl, hx, hb⟩; have hs4 := hb.size; have HX := Lib.hid hx; have HFR := Lib.hid (HFR.out.keep hb); have HN := Lib.hid (HN.out.keep hb); have HROW := Lib.hid (row_keep HROW.out hb); have HBW := Lib.hid (HW1 HBW.out hb); clear hb hx)
    | (go_at_call 12; (with_reducible refine (HCA.out _ _ _ _ HFR.out).mono ?_); rintro e w5 ⟨p5, c5, rfl, hx, hb⟩; have hs5 := hb.size; have HY := Lib.hid hx; have HX := Lib.hid (HX.out.keep hb); have HN := Lib.hid (HN.out.keep hb); have HROW := Lib.hid (row_keep HROW.out hb); have HBW := Lib.hid (HW1 HBW.out hb); clear hb hx)
    | (go_at_call 27; (with_reducible refine (HCP.out _ _ _ HN.out (fun h => (HP0.out h).1)).mono ?_); rintro e w6 ⟨p6, c6, rfl, hn, hg, hb⟩; have hs6 := hb.size; have HK := Lib.hid hn; have HKG := Lib.hid hg; have HX := Lib.hid (HX.out.keep hb); have HY := Lib.hid (HY.out.keep hb); have HROW := Lib.hid (row_keep HROW.out hb); have HBW := Lib.hid (HW1 HBW.out hb); clear hb hn hg))
  have HW0 : Hid (0 < z → ∃ g L2, p = some ⟨g, 0, none⟩ ∧ L2.length = c * 7 ∧ z ≤ c ∧ EV 50 w6 g L2) := Lib.hid (fun h => by
    obtain ⟨g, c', L2, e, -, hE, hL, hnc, -⟩ := row_whole HROW.out h
    cases e
    exact ⟨g, L2, rfl, hL, hnc, hE⟩)
  clear HROW HCP
  go_loopw [70] (fun i wr => ∃ k : Nat, k ≤ z ∧ i = .int .i64 k ∧ Hid (Off S w6 wr) ∧ Hid (0 < z → ∃ g L2, p = some ⟨g, 0, none⟩ ∧ L2.length = c * 7 ∧ z ≤ c ∧ EV 50 wr g L2)) (fun i _ => z - (intOf i).toNat)
  case atStart => exact ⟨0, Nat.zero_le _, rfl, Lib.hid (Off.refl _ _), HW0⟩
  case round =>
    clear HW0
    obtain ⟨k, hk, rfl, HO, HW⟩ := hrel
    by_cases hlt : k < z
    · have hltz : (k : Int) < z := by omega
      obtain ⟨g, L2, rfl, hL2, hzc, hE⟩ := HW.out (by omega)
      have hcell : ∀ j, j < 7 → ∃ x, L2[k * 7 + j]? = some x := fun j hj => ⟨_, List.getElem?_eq_getElem (by omega)⟩
      obtain ⟨x0, e0⟩ := hcell 0 (by omega)
      obtain ⟨x1, e1⟩ := hcell 1 (by omega)
      obtain ⟨x2, e2⟩ := hcell 2 (by omega)
      obtain ⟨x3, e3⟩ := hcell 3 (by omega)
      obtain ⟨x4, e4⟩ := hcell 4 (by omega)
      obtain ⟨x5, e5⟩ := hcell 5 (by omega)
      obtain ⟨x6, e6⟩ := hcell 6 (by omega)
      have k0 := hE.cell e0
      have k1 := hE.cell e1
      have k2 := hE.cell e2
      have k3 := hE.cell e3
      have k4 := hE.cell e4
      have k5 := hE.cell e5
      have k6 := hE.cell e6
      simp only [Nat.add_zero] at k0
      have f0 := hE.free
      have HE := Lib.hid hE
      have HSg : Hid (g ∈ S) := Lib.hid (by rw [HSE.out]; simp [Value.ownBlock])
      have HL2 := Lib.hid hL2
      clear hE hcell e0 e1 e2 e3 e4 e5 e6 hL2
      go_wp2
      go_roundw
      case rel => exact ⟨k + 1, by omega, by go_num, Lib.hid (((((((HO.out.set ⟨g, k * 7, none⟩ (.int .u8 0) (.inl HSg.out)).set ⟨g, k * 7 + 1, none⟩ (.int .i64 0) (.inl HSg.out)).set ⟨g, k * 7 + 2, none⟩ (.int .i64 0) (.inl HSg.out)).set ⟨g, k * 7 + 3, none⟩ (.int .i64 0) (.inl HSg.out)).set ⟨g, k * 7 + 4, none⟩ (.int .i64 0) (.inl HSg.out)).set ⟨g, k * 7 + 5, none⟩ (.int .i64 0) (.inl HSg.out)).set ⟨g, k * 7 + 6, none⟩ (.int .i64 0) (.inl HSg.out)),
        Lib.hid (fun _ => ⟨g, _, rfl, by simpa using HL2.out, hzc, ((((((HE.out.set (k * 7) (.int .u8 0)).set (k * 7 + 1) (.int .i64 0)).set (k * 7 + 2) (.int .i64 0)).set (k * 7 + 3) (.int .i64 0)).set (k * 7 + 4) (.int .i64 0)).set (k * 7 + 5) (.int .i64 0)).set (k * 7 + 6) (.int .i64 0)⟩)⟩
      case measure => simp [intOf]; omega
    · have hltz : ¬ (k : Int) < z := by omega
      have hBw : Below w.heap.size w6 wr := HO.out.below (by have := HB3.out.size; omega) (fun k hk => (HS.out k hk).1)
      have HB7 := Lib.hid ((HB3.out.trans (HBW.out.mono HB3.out.size)).trans hBw)
      have hs7 := HO.out.size
      have HFL : Hid (∀ k ∈ bl, k < w1.heap.size) := Lib.hid (HFS.out.lt)
      have HFS := Lib.hid (((HFS3.out.keep HBW.out)).off HO.out (fun k hk hkS => (HS.out k hkS).2.2 hk))
      have HFG := Lib.hid ((HFG.out.keep HBW.out).block (HO.out.block _ (by have := (HFG.out.keep HBW.out).lt; exact this) (fun h => by have := (HS.out _ h).2.1; omega)))
      have HX := Lib.hid (HX.out.off HO.out (fun k hk => by have := (HS.out k hk).2.1; omega))
      have HY := Lib.hid (HY.out.off HO.out (fun k hk => by have := (HS.out k hk).2.1; omega))
      have HK := Lib.hid (HK.out.off HO.out (fun b o e _ h => by have := (HS.out b h).2.1; have := HKG.out b o e; omega))
      clear HW HO HS HSE hBw HBW HFS3
      have H5 : Hid (w5.heap.size ≤ wr.heap.size) := Lib.hid (by omega)
      have HK6 : Hid (∀ b o, p6 = some ⟨b, o, none⟩ → w3.heap.size ≤ b) := Lib.hid (fun b o e => by have := HKG.out b o e; omega)
      clear HKG HN HP0
      go_wp2_with (first
        | (go_at_call 14; (with_reducible refine (HIN.out _ _ _ _ _ HX.out.ns HY.out.ns).mono ?_); rintro e w7 ⟨rfl, hb⟩
           have HFS := Lib.hid (HFS.out.keep hb)
           have HFG := Lib.hid (HFG.out.keep hb)
           have HX := Lib.hid (HX.out.keep hb)
           have HY := Lib.hid (HY.out.keep hb)
           have HK := Lib.hid (HK.out.keep hb)
           have H5 := Lib.hid (Nat.le_trans H5.out hb.size)
           have HB7 := Lib.hid (HW1 HB7.out hb)
           clear hb)
        | (go_at_call 20; (with_reducible refine (HND.out _ _ _ HFS.out).mono ?_); rintro e w8 ⟨p8, c8, rfl, hn, ⟨bl', hfs⟩, hO⟩
           obtain ⟨d8, pp8, hfr⟩ := hfs.fr
           have HN8 := Lib.hid hn
           have HFR := Lib.hid hfr
           have HFG := Lib.hid (HFG.out.block (hO.block _ HFG.out.lt (fun h => by have := HFL.out _ h; omega)))
           have HX := Lib.hid (HX.out.off hO (fun k hk => by have := HFL.out k hk; omega))
           have HY := Lib.hid (HY.out.off hO (fun k hk => by have := HFL.out k hk; omega))
           have HK := Lib.hid (HK.out.off hO (fun b o e _ h => by have := HFL.out b h; have := HK6.out b o e; omega))
           have H5 := Lib.hid (Nat.le_trans H5.out hO.size)
           have HB7 := Lib.hid (HB7.out.trans (hO.below HB7.out.size HBL.out))
           clear hn hfs hO hfr)
        | (go_at_call 19; (with_reducible refine (HEQ.out _ _ _ _ _ HN8.out HK.out).mono ?_); rintro e w9 ⟨rfl, hb⟩
           have HFR := Lib.hid (HFR.out.keep hb)
           have HFG := Lib.hid (HFG.out.keep hb)
           have HX := Lib.hid (HX.out.keep hb)
           have HY := Lib.hid (HY.out.keep hb)
           have HK := Lib.hid (HK.out.keep hb)
           have H5 := Lib.hid (Nat.le_trans H5.out hb.size)
           have HB7 := Lib.hid (HW1 HB7.out hb)
           clear hb)
        | (go_at_call 19; (with_reducible refine (HEQ.out _ _ _ _ _ HN8.out HK.out).mono ?_); rintro e w9 ⟨rfl, hb⟩
           have HFR := Lib.hid (HFR.out.keep hb)
           have HX := Lib.hid (HX.out.keep hb)
           have HY := Lib.hid (HY.out.keep hb)
           have HK := Lib.hid (HK.out.keep hb)
           have H5 := Lib.hid (Nat.le_trans H5.out hb.size)
           have HB7 := Lib.hid (HW1 HB7.out hb)
           clear hb)
        | (go_at_call 20; (with_reducible refine (HND.out _ _ _ HFG.out.fs).mono ?_); rintro e w10 ⟨p10, c10, rfl, hn, -, hO⟩
           have HN8 := Lib.hid hn
           have HFR := Lib.hid (HFR.out.block (hO.block _ HFR.out.lt (by simp; omega)))
           have HX := Lib.hid (HX.out.off hO (by simp; omega))
           have HY := Lib.hid (HY.out.off hO (by simp; omega))
           have HK := Lib.hid (HK.out.off hO (fun b o e _ h => by simp at h; have := HK6.out b o e; omega))
           have H5 := Lib.hid (Nat.le_trans H5.out hO.size)
           have HB7 := Lib.hid (HB7.out.trans (hO.below HB7.out.size (by simp; omega)))
           clear hn hO)
        | (go_at_call 12; (with_reducible refine (HCA.out _ _ _ _ HFR.out).mono ?_); rintro e w11 ⟨p11, c11, rfl, hx, hb⟩
           have HZL := Lib.hid hx
           have H6 := Lib.hid (Nat.le_trans H5.out hb.size)
           have HX := Lib.hid (HX.out.keep hb)
           have HY := Lib.hid (HY.out.keep hb)
           have HB7 := Lib.hid (HW1 HB7.out hb)
           clear hb hx)
        | (go_at_call 14; (with_reducible refine (HIN.out _ _ _ _ _ HZL.out.ns HY.out.ns).mono ?_); rintro e w12 ⟨rfl, hb⟩
           have HX := Lib.hid (HX.out.keep hb)
           have HY := Lib.hid (HY.out.keep hb)
           have HZL := Lib.hid (HZL.out.keep hb)
           have H6 := Lib.hid (Nat.le_trans H6.out hb.size)
           have HB7 := Lib.hid (HW1 HB7.out hb)
           clear hb)
        | (go_at_call 28; (with_reducible refine (HAP.out _ _ _ _ _ _ _ _ _ _ _ _ _ HX.out HY.out HZL.out (Nat.le_refl _) H5.out (by have := H6.out; omega)).mono ?_); rintro e w13 ⟨rfl, hb⟩
           have HB7 := Lib.hid (HB7.out.trans (hb.mono (by omega)))
           clear hb)
        | (go_at_call 9; (with_reducible refine (awake_any _).mono ?_); rintro e w14 ⟨rfl, hb⟩
           have HB7 := Lib.hid (HW1 HB7.out hb)
           clear hb))
      go_ret
      exact ⟨rfl, HB7.out⟩

/- the row -/
set_option maxRecDepth 100000 in
theorem samelaw_lifted (os : Os) (started : os.Started) (H : Type) (enc : TypeId × Value → H) :
    ReturnsInHanded {} Try.checked os 7 .any (Rows.frameSameSpec.pre6 enc Try.prog Try.f7 Rows.frameSameRow.domain false) (Rows.frameSameSpec.post enc Try.prog Try.f7 false true false false) := by
  refine returnsInHanded_of_change (C := Try.checked) Try.own started (by kernel_rfl) Try.func7
    (ChangeSpec.witness6 (enc := enc) (C := Try.checked) false ⟨#[], #[.int .u16 0, .int .i64 0, .int .i64 0], []⟩ 8 (by kernel_rfl) (by kernel_rfl) (by kernel_rfl) (by kernel_rfl)) ?_
  intro W base args ds gs before hval0 hW hcnd _
  have hval : ∀ (j : Nat) t v, Try.f7.params[j]? = some t → args[j]? = some v → Value.okWide Try.prog W .any base t v := hval0
  have hW' := hW
  obtain ⟨p, q, hA0, hV, rfl, hfz, hnd⟩ := hW
  have hA : DataW.TrodAll enc Try.prog W 0 (fun _ => true) true Try.f7.params.toList args.toList ds p := hA0
  rw [Try.params7] at hA hval
  obtain ⟨v0, vs0, d0, ds0, p0, q0, hargs, rfl, rfl, h0, r0⟩ := trodAll_cons hA
  obtain ⟨v1, vs1, d1, ds1, p1, q1, rfl, rfl, rfl, h1, r1⟩ := trodAll_cons r0
  obtain ⟨v2, vs2, d2, ds2, p2, q2, rfl, rfl, rfl, h2, r2⟩ := trodAll_cons r1
  obtain ⟨rfl, rfl, rfl⟩ := trodAll_nil r2
  obtain rfl : args = #[v0, v1, v2] := by cases args; simp_all
  obtain ⟨rfl, rfl⟩ := trodVars_none hV
  obtain ⟨a0, rfl, rfl, rfl, w0⟩ := open_int Try.underlying42 (hval 0 42 v0 rfl rfl) h0
  obtain ⟨a1, rfl, rfl, rfl, w1⟩ := open_int Try.underlying3 (hval 1 3 v1 rfl rfl) h1
  obtain ⟨a2, rfl, rfl, rfl, w2⟩ := open_int Try.underlying3 (hval 2 3 v2 rfl rfl) h2
  clear hA0 hval0
  simp only [List.append_nil] at hW'
  refine (same_walk _ _ _ W (by simpa [Lit.wf, show IntKind.u16.min = 0 from rfl, show IntKind.u16.max = 65535 from rfl] using w0)).mono fun e W' ⟨he, hb⟩ => ?_
  subst he
  have hR : DataW.TrodAll enc Try.prog W' 0 (fun b => decide (b < W.heap.size)) true _ _ _ _ := (trodAll_cons_mk (shut_int Try.underlying42 w0) (trodAll_cons_mk (shut_int Try.underlying3 w1) (trodAll_cons_mk (shut_int Try.underlying3 w2) trodAll_mk0)))
  simp only [List.append_nil] at hR
  exact ⟨_, rfl, law_post hW' (trodAll_cons_mk (shut_bool Try.underlying4 _) trodAll_mk0) hR rfl hb⟩

theorem samelaw_holds : Rows.FrameSameSaid :=
  OpenClaim.holds_of_wide 7 Try.f7 rfl rfl rfl rfl rfl rfl rfl ⟨rfl, rfl, rfl, rfl, rfl⟩ rfl rfl rfl rfl rfl (by kernel_rfl) Try.func7 (by kernel_rfl)
    (of_decide_eq_true (by kernel_rfl)) (by unfold Func.isWrapper; first | (rw [if_pos (by decide +kernel)]; kernel_rfl) | (rw [if_neg (by decide +kernel)]; exact ⟨rfl, rfl⟩))
    (fun os started H enc _ => samelaw_lifted os started H enc)
end Go.Proofs.Ytmkmkndcndpfeaa
