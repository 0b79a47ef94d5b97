/-
  FrameTells: a frame's nodes, what is canonical of a range, how many nodes are entered, and paths, are exactly as the document defines. For all numbers; no condition.
-/
import Derived.Test.YtmkmkndcndpfeaaRc
import Derived.Test.YtmkmkndcndpfeaaFaw
import Derived.Test.YtmkmkndcndpfeaaLift
namespace Go.Proofs.Ytmkmkndcndpfeaa
open Go.ChangeShapes Go.WideShapes Go.ChangeAt Go.RowKit Go.Joins

theorem HW1 {w w1 X : World} (h : Below w.heap.size w w1) (g : Below w1.heap.size w1 X) : Below w.heap.size w X := h.trans (g.mono h.size)
theorem FR.fs {w : World} {B n : Nat} (h : FR w B n 0 (.pointer none)) : FS w B n [B] := .inl ⟨h, rfl⟩
def tupC (p : Option Addr) (ln c : Nat) (k e : Int) : Value := .tuple #[.slice p ln c, .int .i64 k, .int .i64 e]

set_option maxRecDepth 100000 in
set_option maxHeartbeats 6400000 in
theorem tells_walk (n a b lf : Int) (w : World) :
    Calls Try.prog 3 #[.int .i64 n, .int .i64 a, .int .i64 b, .int .i64 lf] w fun e w' => e = .returned (.bool true) ∧ Below w.heap.size w w' := by
  by_cases hbig : 150 < n ∧ n ≤ 17179869184
  · obtain ⟨h1, h2⟩ := hbig
    go_enter Try.func3, Try.ntmps3
    go_wp2_with (go_at_call 9; (with_reducible refine (awake_any _).mono ?_); rintro e w1 ⟨rfl, hb⟩)
    go_ret
    exact ⟨rfl, hb⟩
  by_cases hnot : ¬ (0 ≤ n ∧ n ≤ 17179869184)
  · have HN := Lib.hid (fun X => FNew_not X n hnot)
    have hc : (n < 0 ∧ ¬ 150 < n) ∨ (¬ n < 0 ∧ 17179869184 < n ∧ 150 < n) := by omega
    clear hbig hnot
    rcases hc with ⟨h1, h2⟩ | ⟨h1, h2, h3⟩
    all_goals (
      go_enter Try.func3, Try.ntmps3
      go_wp2_with (first
        | (go_at_call 10; (with_reducible refine (HN.out _).mono ?_); rintro e w1 ⟨rfl, hL⟩; subst hL)
        | (go_at_call 9; (with_reducible refine (awake_any _).mono ?_); rintro e w2 ⟨rfl, hb⟩; have HB := Lib.hid hb; clear hb))
      go_ret
      exact ⟨rfl, HB.out⟩)
  obtain ⟨m, rfl⟩ : ∃ m : Nat, n = m := ⟨n.toNat, by omega⟩
  have hm : m ≤ 150 := by omega
  have hn1 : ¬ (150 : Int) < m := by omega
  have hn2 : ¬ (m : Int) < 0 := by omega
  have hn3 : ¬ (17179869184 : Int) < m := by omega
  clear hbig hnot
  have hlen := ndN_len m
  obtain ⟨B, hB⟩ : ∃ B, B = w.heap.size := ⟨_, rfl⟩
  obtain ⟨z, hz⟩ : ∃ z, z = 2 * m - 1 := ⟨_, rfl⟩
  have HNW : Hid (Calls Try.prog 10 #[.int .i64 m] w fun e w' => e = .returned (.tuple #[.pointer (some ⟨B, 0, none⟩), .int .i64 0]) ∧ FR w' B m 0 (.pointer none) ∧ Below w.heap.size w w') := Lib.hid (by rw [hB]; exact FNew_any w m (by omega))
  have HRN : Hid (∀ X : World, Calls Try.prog 11 #[.int .i64 0, .int .i64 m, .int .i64 0] X fun e w' => ∃ p c, e = .returned (.slice p z c) ∧ NdS w' p (ndN m) ∧ (∀ b o, p = some ⟨b, o, none⟩ → X.heap.size ≤ b) ∧ Below X.heap.size X w') := Lib.hid (fun X => by
    refine (RNodes m 0 m 0 X (by omega) (by omega) (by omega)).mono ?_
    rintro e w' ⟨v, rfl, hr, hb⟩
    rw [ndT_all, ← hz] at hr
    obtain ⟨-, p, c, rfl, hN, -⟩ := row_nds hr
    exact ⟨p, c, rfl, hN, fun b o e => own_ge' hr b (by rw [e]; rfl), hb⟩)
  have HEQ : Hid (∀ X p c p' c', NdS X p (ndN m) → NdS X p' (ndN m) → Calls Try.prog 19 #[.slice p z c, .slice p' z c'] X fun e w' => e = .returned (.bool true) ∧ Below X.heap.size X w') := Lib.hid (fun X p c p' c' h1 h2 => by
    have := nodes_any X p p' c c' _ _ h1 h2 (by omega)
    rw [decide_eq_true rfl, hlen, ← hz] at this
    exact this)
  have HND : Hid (∀ X, FR X B m 0 (.pointer none) → Calls Try.prog 20 #[.pointer (some ⟨B, 0, none⟩)] X fun e w' => ∃ p c, e = .returned (.slice p z c) ∧ NdS w' p (ndN m) ∧ Off [B] X w') := Lib.hid (fun X h => by
    refine (FNodes_any X B m [B] h.fs (by omega)).mono ?_
    rintro e w' ⟨v, rfl, bl', h1, h2, h3, h4, h5⟩
    rw [hlen, ← hz] at h4
    obtain ⟨-, p4, c4, rfl, hNd, -⟩ := row_nds h4
    exact ⟨p4, c4, rfl, hNd, h2⟩)
  have HLV := Lib.hid (fun X (h : FR X B m 0 (.pointer none)) => Leaves_any X B m 0 _ h)
  obtain ⟨rv, hrv⟩ : ∃ rv : Int, max (2 * (m : Int) - 2) (-1) = rv := ⟨_, rfl⟩
  have HRO : Hid (∀ X, FR X B m 0 (.pointer none) → Calls Try.prog 18 #[.pointer (some ⟨B, 0, none⟩)] X fun e w' => e = .returned (.int .i64 rv) ∧ Below X.heap.size X w') := Lib.hid (fun X h => by
    by_cases h0 : m = 0
    · subst h0
      obtain rfl : rv = -1 := by omega
      exact (Root_none X B 0 _ h).mono (by rintro e w' ⟨rfl, rfl⟩; exact ⟨rfl, Below.refl _ _⟩)
    · obtain ⟨r, hr⟩ : ∃ r : Nat, rv = r := ⟨rv.toNat, by omega⟩
      subst hr
      exact Root_any X B m r 0 _ h (by omega) (by omega) (by omega))
  have HIN : Hid (∀ X p c p' c' (C : List Int), C.length ≤ 8192 → NS X p .i64 C → NS X p' .i64 C → Calls Try.prog 14 #[.slice p C.length c, .slice p' C.length c'] X fun e w' => e = .returned (.bool true) ∧ Below X.heap.size X w') := Lib.hid (fun X p c p' c' C hl h1 h2 => by
    have := ints_any X p p' c c' C C h1 h2 ⟨hl, hl⟩
    rw [decide_eq_true rfl] at this
    exact this)
  have HC : ∃ (ln : Nat) (k e : Int) (C : List Int), Hid (ln = C.length ∧ ln ≤ 8192) ∧ Hid (∀ X, FR X B m 0 (.pointer none) → Calls Try.prog 12 #[.pointer (some ⟨B, 0, none⟩), .int .i64 a, .int .i64 b] X fun e' w' => ∃ p c, e' = .returned (tupC p ln c k e) ∧ NS w' p .i64 C ∧ Below X.heap.size X w') ∧
      (((a < 0 ∨ (¬ a < 0 ∧ b < a) ∨ (¬ a < 0 ∧ ¬ b < a ∧ (m : Int) < b)) ∧ ln = 0 ∧ k = 0 ∧ e = 2) ∨
        ((¬ a < 0 ∧ ¬ b < a ∧ ¬ (m : Int) < b) ∧ e = 0 ∧ Hid (∀ X p c, NdS X p (ndN m) → Calls Try.prog 13 #[.slice p z c, .int .i64 a, .int .i64 b] X fun e' w' => ∃ p' c', e' = .returned (.tuple #[.slice p' ln c', .int .i64 k]) ∧ NS w' p' .i64 C ∧ Below X.heap.size X w'))) := by
    by_cases hg : 0 ≤ a ∧ a ≤ b ∧ b ≤ m
    · obtain ⟨x, rfl⟩ : ∃ x : Nat, a = x := ⟨a.toNat, by omega⟩
      obtain ⟨y, rfl⟩ : ∃ y : Nat, b = y := ⟨b.toNat, by omega⟩
      have hcl : (cnF m x y).1.length ≤ 150 := by
        unfold cnF
        split
        · simp
        · have := (cn_len x y (tr m) 0 0).1
          rw [lv_tr (by omega)] at this
          omega
      refine ⟨(cnF m x y).1.length, ((cnF m x y).2 : Nat), 0, ints (cnF m x y).1, Lib.hid ⟨(ints_len _).symm, by omega⟩, Lib.hid (fun X h => ?_), .inr ⟨by omega, rfl, Lib.hid (fun X p c h => ?_)⟩⟩
      · refine (FCanon_any X B m 0 _ h x y (by omega) (by omega) (by omega)).mono ?_
        rintro e w' ⟨v, rfl, hr, hb⟩
        obtain ⟨p, c, rfl, hp⟩ := row_ints hr
        exact ⟨p, c, rfl, hp, hb⟩
      · have := RCanon X p c m x y h (by omega) (by omega) hm
        rw [hlen, ← hz] at this
        refine this.mono ?_
        rintro e w' ⟨v, rfl, hr, hb⟩
        obtain ⟨p, c, rfl, hp⟩ := row_ints hr
        exact ⟨p, c, rfl, hp, hb⟩
    · refine ⟨0, 0, 2, [], Lib.hid ⟨rfl, by omega⟩, Lib.hid (fun X h => ?_), .inl ⟨by omega, rfl, rfl, rfl⟩⟩
      refine (FCanon_bad X B m 0 _ h a b hg).mono ?_
      rintro e w' ⟨rfl, rfl⟩
      exact ⟨none, 0, rfl, .inl rfl, Below.refl _ _⟩
  have HP : ∃ (ln : Nat) (e : Int) (P : List Int), Hid (ln = P.length ∧ ln ≤ 8192) ∧ Hid (∀ X, FR X B m 0 (.pointer none) → Calls Try.prog 15 #[.pointer (some ⟨B, 0, none⟩), .int .i64 lf] X fun e' w' => ∃ p c, e' = .returned (.tuple #[.slice p ln c, .int .i64 e]) ∧ NS w' p .i64 P ∧ Below X.heap.size X w') ∧
      (((lf < 0 ∨ (¬ lf < 0 ∧ (m : Int) ≤ lf)) ∧ ln = 0 ∧ e = 2) ∨
        ((¬ lf < 0 ∧ ¬ (m : Int) ≤ lf) ∧ e = 0 ∧ Hid (∀ X p c, NdS X p (ndN m) → Calls Try.prog 16 #[.slice p z c, .int .i64 lf] X fun e' w' => ∃ p' c', e' = .returned (.slice p' ln c') ∧ NS w' p' .i64 P ∧ Below X.heap.size X w'))) := by
    by_cases hg : 0 ≤ lf ∧ lf < m
    · obtain ⟨x, rfl⟩ : ∃ x : Nat, lf = x := ⟨lf.toNat, by omega⟩
      have hpl := ptF_len (leaf := x) (n := m) (by omega) (by omega)
      have hL2 : lgI m ≤ 1500 := by have := ht_le (tr m); rw [ht_tr (by omega) (by omega), lv_tr (by omega)] at this; simp only [lgI, Int.toNat_natCast]; omega
      refine ⟨(ptF m x).length, 0, ints (ptF m x), Lib.hid ⟨(ints_len _).symm, by omega⟩, Lib.hid (fun X h => ?_), .inr ⟨by omega, rfl, Lib.hid (fun X p c h => ?_)⟩⟩
      · refine (FPath_any X B m 0 _ h x (by omega) (by omega)).mono ?_
        rintro e w' ⟨v, rfl, hr, hb⟩
        obtain ⟨p, c, rfl, hp⟩ := row_ints hr
        exact ⟨p, c, rfl, hp, hb⟩
      · have := RPath X p c (ndN m) x (ptF m x) h (by omega) (fun k a e => ptF_mem (by omega) e) (pt_dec x (tr m) 0 0) (fun k hk => by
          have h1 := (pt_range hk).2
          have e : rt 0 (tr m) = 2 * m - 2 := by unfold rt; rw [lv_tr (by omega)]; omega
          omega) (by omega)
        rw [hlen, ← hz] at this
        refine this.mono ?_
        rintro e w' ⟨v, rfl, hr, hb⟩
        obtain ⟨p, c, rfl, hp⟩ := row_ints hr
        exact ⟨p, c, rfl, hp, hb⟩
    · refine ⟨0, 2, [], Lib.hid ⟨rfl, by omega⟩, Lib.hid (fun X h => ?_), .inl ⟨by omega, rfl, rfl⟩⟩
      refine (FPath_bad X B m 0 _ h lf hg).mono ?_
      rintro e w' ⟨rfl, rfl⟩
      exact ⟨none, 0, rfl, .inl rfl, Below.refl _ _⟩
  obtain ⟨ln, k, e, C, HCl, HC11, hcc⟩ := HC
  obtain ⟨ln2, e2, P, HPl, HP14, hpc⟩ := HP
  have HB := Lib.hid hB
  have HZ := Lib.hid hz
  have hml : (m : Int) ≤ 150 := by omega
  clear hlen hB hz
  unfold tupC at HC11
  have HINC : Hid (∀ X p c p' c', NS X p .i64 C → NS X p' .i64 C → Calls Try.prog 14 #[.slice p ln c, .slice p' ln c'] X fun e w' => e = .returned (.bool true) ∧ Below X.heap.size X w') := Lib.hid (fun X p c p' c' h1 h2 => by
    rw [HCl.out.1]
    exact HIN.out X p c p' c' C (by have := HCl.out; omega) h1 h2)
  have HINP : Hid (∀ X p c p' c', NS X p .i64 P → NS X p' .i64 P → Calls Try.prog 14 #[.slice p ln2 c, .slice p' ln2 c'] X fun e w' => e = .returned (.bool true) ∧ Below X.heap.size X w') := Lib.hid (fun X p c p' c' h1 h2 => by
    rw [HPl.out.1]
    exact HIN.out X p c p' c' P (by have := HPl.out; omega) h1 h2)
  have HCN := Lib.hid HCl.out.2
  have HPN := Lib.hid HPl.out.2
  clear HIN HCl HPl
  rcases hcc with ⟨h1 | ⟨h1, h2⟩ | ⟨h1, h2, h3⟩, rfl, rfl, rfl⟩ | ⟨⟨h1, h2, h3⟩, rfl, HC12⟩
  all_goals rcases hpc with ⟨h4 | ⟨h4, h5⟩, rfl, rfl⟩ | ⟨⟨h4, h5⟩, rfl, HP15⟩
  all_goals (
    go_enter Try.func3, Try.ntmps3
    go_wp2_with (first
      | (go_at_call 10; (with_reducible refine HNW.out.mono ?_); rintro e w1 ⟨rfl, hf, hb⟩
         have HFR := Lib.hid hf
         have HBW := Lib.hid hb
         clear hf hb)
      | (go_at_call 11; (with_reducible refine (HRN.out _).mono ?_); rintro e w2 ⟨pl, cl, rfl, hn, hpb, hb⟩
         have HPB : Hid (∀ b o, pl = some ⟨b, o, none⟩ → B < b) := Lib.hid (fun b o e => by have := hpb b o e; have := HFR.out.lt; omega)
         have HFR := Lib.hid (HFR.out.keep hb)
         have HNL := Lib.hid hn
         have HBW := Lib.hid (HW1 HBW.out hb)
         clear hn hpb hb)
      | (go_at_call 12; (with_reducible refine (HC11.out _ HFR.out).mono ?_); rintro e w3 ⟨p3, c3, rfl, hn, hb⟩
         have HFR := Lib.hid (HFR.out.keep hb)
         have HNL := Lib.hid (HNL.out.keep hb)
         have HA := Lib.hid hn
         have HBW := Lib.hid (HW1 HBW.out hb)
         clear hn hb)
      | (go_at_call 13; (with_reducible refine (HC12.out _ _ _ HNL.out).mono ?_); rintro e w4 ⟨p4, c4, rfl, hn, hb⟩
         have HFR := Lib.hid (HFR.out.keep hb)
         have HNL := Lib.hid (HNL.out.keep hb)
         have HA := Lib.hid (HA.out.keep hb)
         have HA2 := Lib.hid hn
         have HBW := Lib.hid (HW1 HBW.out hb)
         clear hn hb)
      | (go_at_call 14; (with_reducible refine (HINC.out _ _ _ _ _ HA.out HA2.out).mono ?_); rintro e w5 ⟨rfl, hb⟩
         have HFR := Lib.hid (HFR.out.keep hb)
         have HNL := Lib.hid (HNL.out.keep hb)
         have HBW := Lib.hid (HW1 HBW.out hb)
         clear hb)
      | (go_at_call 15; (with_reducible refine (HP14.out _ HFR.out).mono ?_); rintro e w6 ⟨p6, c6, rfl, hn, hb⟩
         have HFR := Lib.hid (HFR.out.keep hb)
         have HNL := Lib.hid (HNL.out.keep hb)
         have HA := Lib.hid hn
         have HBW := Lib.hid (HW1 HBW.out hb)
         clear hn hb)
      | (go_at_call 16; (with_reducible refine (HP15.out _ _ _ HNL.out).mono ?_); rintro e w7 ⟨p7, c7, rfl, hn, hb⟩
         have HFR := Lib.hid (HFR.out.keep hb)
         have HNL := Lib.hid (HNL.out.keep hb)
         have HA := Lib.hid (HA.out.keep hb)
         have HA2 := Lib.hid hn
         have HBW := Lib.hid (HW1 HBW.out hb)
         clear hn hb)
      | (go_at_call 14; (with_reducible refine (HINP.out _ _ _ _ _ HA.out HA2.out).mono ?_); rintro e w8 ⟨rfl, hb⟩
         have HFR := Lib.hid (HFR.out.keep hb)
         have HNL := Lib.hid (HNL.out.keep hb)
         have HBW := Lib.hid (HW1 HBW.out hb)
         clear hb)
      | (go_at_call 17; (with_reducible refine (HLV.out _ HFR.out).mono ?_); rintro e wL ⟨rfl, hL⟩; subst hL)
      | (go_at_call 18; (with_reducible refine (HRO.out _ HFR.out).mono ?_); rintro e w9 ⟨rfl, hb⟩
         have HFR := Lib.hid (HFR.out.keep hb)
         have HNL := Lib.hid (HNL.out.keep hb)
         have HBW := Lib.hid (HW1 HBW.out hb)
         clear hb)
      | (go_at_call 20; (with_reducible refine (HND.out _ HFR.out).mono ?_); rintro e w10 ⟨p10, c10, rfl, hn, hO⟩
         have HN2 := Lib.hid hn
         have HNL := Lib.hid (HNL.out.off hO (fun b o e _ h => by simp at h; have := HPB.out b o e; omega))
         have HBW := Lib.hid (HBW.out.trans (hO.below HBW.out.size (by have := HB.out; simp; omega)))
         clear hn hO)
      | (go_at_call 19; (with_reducible refine (HEQ.out _ _ _ _ _ HN2.out HNL.out).mono ?_); rintro e w11 ⟨rfl, hb⟩
         have HBW := Lib.hid (HW1 HBW.out hb)
         clear hb)
      | (go_at_call 9; (with_reducible refine (awake_any _).mono ?_); rintro e w12 ⟨rfl, hb⟩
         have HBW := Lib.hid (HW1 HBW.out hb)
         clear hb))
    go_ret
    exact ⟨rfl, HBW.out⟩)

/- the row -/
set_option maxRecDepth 100000 in
theorem tellslaw_lifted (os : Os) (started : os.Started) (H : Type) (enc : TypeId × Value → H) :
    ReturnsInHanded {} Try.checked os 3 .any (Rows.frameTellsSpec.pre6 enc Try.prog Try.f3 Rows.frameTellsRow.domain false) (Rows.frameTellsSpec.post enc Try.prog Try.f3 false true false false) := by
  refine returnsInHanded_of_change (C := Try.checked) Try.own started (by kernel_rfl) Try.func3
    (ChangeSpec.witness6 (enc := enc) (C := Try.checked) false ⟨#[], #[.int .i64 0, .int .i64 0, .int .i64 0, .int .i64 0], []⟩ 8 (by kernel_rfl) (by kernel_rfl) (by kernel_rfl) (by kernel_rfl)) ?_
  intro W base args ds gs before hval0 hW hcnd _
  have hval : ∀ (j : Nat) t v, Try.f3.params[j]? = some t → args[j]? = some v → Value.okWide Try.prog W .any base t v := hval0
  have hW' := hW
  obtain ⟨p, q, hA0, hV, rfl, hfz, hnd⟩ := hW
  have hA : DataW.TrodAll enc Try.prog W 0 (fun _ => true) true Try.f3.params.toList args.toList ds p := hA0
  rw [Try.params3] at hA hval
  obtain ⟨v0, vs0, d0, ds0, p0, q0, hargs, rfl, rfl, h0, r0⟩ := trodAll_cons hA
  obtain ⟨v1, vs1, d1, ds1, p1, q1, rfl, rfl, rfl, h1, r1⟩ := trodAll_cons r0
  obtain ⟨v2, vs2, d2, ds2, p2, q2, rfl, rfl, rfl, h2, r2⟩ := trodAll_cons r1
  obtain ⟨v3, vs3, d3, ds3, p3, q3, rfl, rfl, rfl, h3, r3⟩ := trodAll_cons r2
  obtain ⟨rfl, rfl, rfl⟩ := trodAll_nil r3
  obtain rfl : args = #[v0, v1, v2, v3] := by cases args; simp_all
  obtain ⟨rfl, rfl⟩ := trodVars_none hV
  obtain ⟨a0, rfl, rfl, rfl, w0⟩ := open_int Try.underlying3 (hval 0 3 v0 rfl rfl) h0
  obtain ⟨a1, rfl, rfl, rfl, w1⟩ := open_int Try.underlying3 (hval 1 3 v1 rfl rfl) h1
  obtain ⟨a2, rfl, rfl, rfl, w2⟩ := open_int Try.underlying3 (hval 2 3 v2 rfl rfl) h2
  obtain ⟨a3, rfl, rfl, rfl, w3⟩ := open_int Try.underlying3 (hval 3 3 v3 rfl rfl) h3
  clear hA0 hval0
  simp only [List.append_nil] at hW'
  refine (tells_walk _ _ _ _ W).mono fun e W' ⟨he, hb⟩ => ?_
  subst he
  have hR : DataW.TrodAll enc Try.prog W' 0 (fun b => decide (b < W.heap.size)) true _ _ _ _ := (trodAll_cons_mk (shut_int Try.underlying3 w0) (trodAll_cons_mk (shut_int Try.underlying3 w1) (trodAll_cons_mk (shut_int Try.underlying3 w2) (trodAll_cons_mk (shut_int Try.underlying3 w3) trodAll_mk0))))
  simp only [List.append_nil] at hR
  exact ⟨_, rfl, law_post hW' (trodAll_cons_mk (shut_bool Try.underlying4 _) trodAll_mk0) hR rfl hb⟩

theorem tellslaw_holds : Rows.FrameTellsSaid :=
  OpenClaim.holds_of_wide 3 Try.f3 rfl rfl rfl rfl rfl rfl rfl ⟨rfl, rfl, rfl, rfl, rfl⟩ rfl rfl rfl rfl rfl (by kernel_rfl) Try.func3 (by kernel_rfl)
    (of_decide_eq_true (by kernel_rfl)) (by unfold Func.isWrapper; first | (rw [if_pos (by decide +kernel)]; kernel_rfl) | (rw [if_neg (by decide +kernel)]; exact ⟨rfl, rfl⟩))
    (fun os started H enc _ => tellslaw_lifted os started H enc)
end Go.Proofs.Ytmkmkndcndpfeaa
