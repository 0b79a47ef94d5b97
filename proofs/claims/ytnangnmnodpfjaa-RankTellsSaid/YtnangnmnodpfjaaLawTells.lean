/-
  RankTells: places, how many numbers are looked at, what is squeezed, and how often 1 is doubled, are as the document defines. For every list and every two numbers; no condition.
-/
import Derived.Test.YtnangnmnodpfjaaRefSqueeze
import Derived.Test.YtnangnmnodpfjaaLift
import Derived.Test.YtnangnmnodpfjaaLawLog
namespace Go.Proofs.Ytnangnmnodpfjaa
open Go.ChangeShapes Go.WideShapes Go.ChangeAt Go.RowKit Go.Joins

theorem asks_no (xs : List Int) (x : Int) : asks false xs x = notLess xs x := by funext i; simp [asks]
theorem asks_up (xs : List Int) (x : Int) : asks true xs x = isMore xs x := by funext i; simp [asks]
set_option maxRecDepth 100000 in
theorem rFirst_any (w : World) (p : Option Addr) (cap : Nat) (xs : List Int) (x : Int) (hx : NS w p .i64 xs) (hn : xs.length ≤ 8192) :
    Calls Try.prog 12 #[.slice p xs.length cap, .int .i64 x] w fun e w' => e = .returned (two (firstP xs x)) ∧ Below w.heap.size w w' := by
  have hC := rlook_any w p cap xs x false hx hn
  rw [asks_no] at hC
  have hP : lk (notLess xs x) xs.length = firstP xs x := rfl
  rw [hP] at hC
  obtain ⟨P, hPP⟩ : ∃ P, P = firstP xs x := ⟨_, rfl⟩
  obtain ⟨n, hnn⟩ : ∃ n, n = xs.length := ⟨_, rfl⟩
  rw [← hPP, ← hnn] at hC
  rw [← hPP, ← hnn]
  unfold two at hC
  have HC := Lib.hid hC
  clear hC hP hPP hnn hx hn
  go_enter Try.func12, Try.ntmps12
  go_wp2_with (go_at_call 23; (with_reducible refine HC.out.mono ?_); rintro e w1 ⟨rfl, hb⟩)
  go_ret2
  exact ⟨rfl, hb⟩
set_option maxRecDepth 100000 in
theorem rAbove_any (w : World) (p : Option Addr) (cap : Nat) (xs : List Int) (x : Int) (hx : NS w p .i64 xs) (hn : xs.length ≤ 8192) :
    Calls Try.prog 14 #[.slice p xs.length cap, .int .i64 x] w fun e w' => e = .returned (two (aboveP xs x)) ∧ Below w.heap.size w w' := by
  have hC := rlook_any w p cap xs x true hx hn
  rw [asks_up] at hC
  have hP : lk (isMore xs x) xs.length = aboveP xs x := rfl
  rw [hP] at hC
  obtain ⟨P, hPP⟩ : ∃ P, P = aboveP xs x := ⟨_, rfl⟩
  obtain ⟨n, hnn⟩ : ∃ n, n = xs.length := ⟨_, rfl⟩
  rw [← hPP, ← hnn] at hC
  rw [← hPP, ← hnn]
  unfold two at hC
  have HC := Lib.hid hC
  clear hC hP hPP hnn hx hn
  go_enter Try.func14, Try.ntmps14
  go_wp2_with (go_at_call 23; (with_reducible refine HC.out.mono ?_); rintro e w1 ⟨rfl, hb⟩)
  go_ret2
  exact ⟨rfl, hb⟩

/-- what was handed in, and its copy, lie as they did; all below stands -/
structure TS (w X : World) (p q : Option Addr) (xs : List Int) : Prop where
  inp : NS X p .i64 xs
  cpy : NS X q .i64 xs
  bel : Below w.heap.size w X
theorem TS.keep {w X w' : World} {p q : Option Addr} {xs : List Int} (h : TS w X p q xs) (hb : Below X.heap.size X w') : TS w w' p q xs :=
  ⟨h.inp.keep hb, h.cpy.keep hb, h.bel.trans (hb.mono h.bel.size)⟩

set_option maxRecDepth 100000 in
set_option maxHeartbeats 6400000 in
theorem tells_walk (p : Option Addr) (cap : Nat) (xs : List Int) (x n : Int) (w : World) (hx : NS w p .i64 xs) (hp : p = none → cap = 0) (hn : n ≤ 9223372036854775807) :
    Calls Try.prog 3 #[.slice p xs.length cap, .int .i64 x, .int .i64 n] w fun e w' => e = .returned (.bool true) ∧ Below w.heap.size w w' := by
  by_cases hb1 : 300 < xs.length
  · have hbz : (300 : Int) < xs.length := by omega
    clear hx
    go_enter Try.func3, Try.ntmps3
    go_wp2_with (go_at_call 9; (with_reducible refine (awake_any _).mono ?_); rintro e w1 ⟨rfl, hb⟩)
    go_ret
    exact ⟨rfl, hb⟩
  have C0 := Lib.hid (CopyLongs_any w p cap xs hx hp (by omega))
  have C1 := Lib.hid (fun X q c (hX : NS X q .i64 xs) => First_any X q c xs x hX (by omega))
  have C2 := Lib.hid (fun X (hX : NS X p .i64 xs) => rFirst_any X p cap xs x hX (by omega))
  have C3 := Lib.hid (fun X q c (hX : NS X q .i64 xs) => Above_any X q c xs x hX (by omega))
  have C4 := Lib.hid (fun X (hX : NS X p .i64 xs) => rAbove_any X p cap xs x hX (by omega))
  have C5 := Lib.hid (fun X q c (hX : NS X q .i64 xs) (hq : q = none → c = 0) => Squeeze_any X q c xs hX (by omega) hq)
  have C6 := Lib.hid (fun X (hX : NS X p .i64 xs) => rSqueeze_any X p cap xs hX (by omega))
  have hol := onceL_len xs
  have c7 : ∀ X q c q2 c2, NS X q .i64 (onceL xs) → NS X q2 .i64 (onceL xs) → Calls Try.prog 15 #[.slice q (onceL xs).length c, .slice q2 (onceL xs).length c2] X fun e w' => e = .returned (.bool true) ∧ Below X.heap.size X w' := by
    intro X q c q2 c2 h1 h2
    have := longs_any X q q2 c c2 (onceL xs) (onceL xs) h1 h2 (by omega)
    simpa using this
  have c8 : ∀ X q c, NS X q .i64 xs → NS X p .i64 xs → Calls Try.prog 15 #[.slice q xs.length c, .slice p xs.length cap] X fun e w' => e = .returned (.bool true) ∧ Below X.heap.size X w' := by
    intro X q c h1 h2
    have := longs_any X q p c cap xs xs h1 h2 (by omega)
    simpa using this
  have C7 := Lib.hid c7
  have C8 := Lib.hid c8
  have L1 := Lib.hid (fun X => Log_any n X hn)
  have L2 := Lib.hid (fun X => rLog_any n X hn)
  have HX := Lib.hid hx
  unfold two at C1 C2 C3 C4
  unfold RSq at C6
  obtain ⟨a, ha⟩ : ∃ f, f = (firstP xs x).1 := ⟨_, rfl⟩
  obtain ⟨b, hb⟩ : ∃ f, f = (firstP xs x).2 := ⟨_, rfl⟩
  obtain ⟨c, hc⟩ : ∃ f, f = (aboveP xs x).1 := ⟨_, rfl⟩
  obtain ⟨d, hd⟩ : ∃ f, f = (aboveP xs x).2 := ⟨_, rfl⟩
  obtain ⟨lg, hlg⟩ : ∃ f, f = lgI n := ⟨_, rfl⟩
  obtain ⟨o, ho⟩ : ∃ f, f = (onceL xs).length := ⟨_, rfl⟩
  obtain ⟨m, hm⟩ : ∃ f, f = xs.length := ⟨_, rfl⟩
  have HM := Lib.hid hm
  rw [← ha, ← hb] at C1 C2
  rw [← hc, ← hd] at C3 C4
  rw [← hlg] at L1 L2
  rw [← ho] at C5 C6 C7
  rw [← hm] at C0 C1 C2 C3 C4 C5 C6 C8 hb1
  rw [← hm]
  have hbz : ¬ (300 : Int) < m := by omega
  clear hx hp ha hb hc hd hlg ho hm hol c7 c8
  go_enter Try.func3, Try.ntmps3
  go_wp2_with (first
    | (go_at_call 10; (with_reducible refine C0.out.mono ?_); rintro e w1 ⟨v3, rfl, hown, hB1⟩; obtain ⟨q1, c1, rfl, -, hN1, hq1, -⟩ := NS.own hown; have HQ1 := Lib.hid hq1; have HT1 := Lib.hid (TS.mk (HX.out.keep hB1) hN1 hB1); rw [← HM.out]; clear hown hB1 hN1 hq1)
    | (go_at_call 11; (with_reducible refine (C1.out w1 _ _ HT1.out.cpy).mono ?_); rintro e w2 ⟨rfl, hb⟩; have HT2 := Lib.hid (HT1.out.keep hb); clear hb)
    | (go_at_call 12; (with_reducible refine (C2.out w2 HT2.out.inp).mono ?_); rintro e w3 ⟨rfl, hb⟩; have HT3 := Lib.hid (HT2.out.keep hb); clear hb)
    | (go_at_call 13; (with_reducible refine (C3.out w3 _ _ HT3.out.cpy).mono ?_); rintro e w4 ⟨rfl, hb⟩; have HT4 := Lib.hid (HT3.out.keep hb); clear hb)
    | (go_at_call 14; (with_reducible refine (C4.out w4 HT4.out.inp).mono ?_); rintro e w5 ⟨rfl, hb⟩; have HT5 := Lib.hid (HT4.out.keep hb); clear hb)
    | (go_at_call 16; (with_reducible refine (C5.out w5 _ _ HT5.out.cpy HQ1.out).mono ?_); rintro e w6 ⟨q6, c6, rfl, hOS, -, hb⟩; have HT6 := Lib.hid (HT5.out.keep hb); have HN6 := Lib.hid hOS.ns; clear hOS; clear hb)
    | (go_at_call 17; (with_reducible refine (C6.out w6 HT6.out.inp).mono ?_); rintro e w7 ⟨q7, c7, rfl, hN7, hb⟩; have HT7 := Lib.hid (HT6.out.keep hb); have HN7 := Lib.hid hN7; clear hN7; have HN67 := Lib.hid (HN6.out.keep hb); clear hb)
    | (go_at_call 15; (with_reducible refine (C7.out w7 _ _ _ _ HN67.out HN7.out).mono ?_); rintro e w8 ⟨rfl, hb⟩; have HT8 := Lib.hid (HT7.out.keep hb); clear hb)
    | (go_at_call 18; (with_reducible refine (L1.out _).mono ?_); rintro e wL ⟨rfl, hL⟩; subst wL)
    | (go_at_call 19; (with_reducible refine (L2.out _).mono ?_); rintro e wL ⟨rfl, hL⟩; subst wL)
    | (go_at_call 15; (with_reducible refine (C8.out w8 _ _ HT8.out.cpy HT8.out.inp).mono ?_); rintro e w9 ⟨rfl, hb⟩; have HT9 := Lib.hid (HT8.out.keep hb); clear hb)
    | (go_at_call 9; (with_reducible refine (awake_any w9).mono ?_); rintro e w10 ⟨rfl, hb⟩; have HT10 := Lib.hid (HT9.out.keep hb); clear hb))
  go_ret
  exact ⟨rfl, HT10.out.bel⟩

set_option maxRecDepth 100000 in
theorem tells_lifted (os : Os) (started : os.Started) (H : Type) (enc : TypeId × Value → H) :
    ReturnsInHanded {} Try.checked os 3 .any (Rows.rankTellsSpec.pre6 enc Try.prog Try.f3 Rows.rankTellsRow.domain false) (Rows.rankTellsSpec.post enc Try.prog Try.f3 false true false false) := by
  refine returnsInHanded_of_change (C := Try.checked) Try.own started (by kernel_rfl) Try.func3
    (ChangeSpec.witness6 (enc := enc) (C := Try.checked) false ⟨#[], #[.slice none 0 0, .int .i64 0, .int .i64 0], []⟩ 8 (by kernel_rfl) (by kernel_rfl) (by kernel_rfl) (by kernel_rfl)) ?_
  intro W base args ds gs before hval0 hW hcnd _
  have hval : ∀ (j : Nat) t v, Try.f3.params[j]? = some t → args[j]? = some v → Value.okWide Try.prog W .any base t v := hval0
  have hW' := hW
  obtain ⟨p, q, hA0, hV, rfl, hfz, hnd⟩ := hW
  have hA : DataW.TrodAll enc Try.prog W 0 (fun _ => true) true Try.f3.params.toList args.toList ds p := hA0
  rw [Try.params3] at hA hval
  obtain ⟨v0, vs0, d0, ds0, p0, q0, hargs, rfl, rfl, h0, r0⟩ := trodAll_cons hA
  obtain ⟨v1, vs1, d1, ds1, p1, q1, rfl, rfl, rfl, h1, r1⟩ := trodAll_cons r0
  obtain ⟨v2, vs2, d2, ds2, p2, q2, rfl, rfl, rfl, h2, r2⟩ := trodAll_cons r1
  obtain ⟨rfl, rfl, rfl⟩ := trodAll_nil r2
  obtain rfl : args = #[v0, v1, v2] := by cases args; simp_all
  obtain ⟨rfl, rfl⟩ := trodVars_none hV
  obtain ⟨a0, len0, cap0, rfl⟩ := okWide_slice Try.underlying22 (hval 0 22 v0 rfl rfl)
  obtain ⟨xs0, rfl, hx0, hl0, hm0, hp0, hw0⟩ := open_nums2 h0
  obtain ⟨a1, rfl, rfl, rfl, w1⟩ := open_int Try.underlying2 (hval 1 2 v1 rfl rfl) h1
  obtain ⟨a2, rfl, rfl, rfl, w2⟩ := open_int Try.underlying3 (hval 2 3 v2 rfl rfl) h2
  clear hA0 hval0
  simp only [List.append_nil] at hW'
  have hlt : ∀ x ∈ p0, x.block < W.heap.size := fun x hx => by simpa using hW'.lt x (by simpa using hx)
  refine (tells_walk _ _ _ _ _ W hx0 hp0 (wf_le w2)).mono fun e W' ⟨he, hb⟩ => ?_
  subst he
  have hR : DataW.TrodAll enc Try.prog W' 0 (fun b => decide (b < W.heap.size)) true _ _ _ _ := (trodAll_cons_mk (Below.trod Try.laidOut (by kernel_rfl) (of_decide_eq_true (by kernel_rfl)) h0 hb (fun x hx => hlt x (by simp [hx]))) (trodAll_cons_mk (shut_int Try.underlying2 w1) (trodAll_cons_mk (shut_int Try.underlying3 w2) trodAll_mk0)))
  simp only [List.append_nil] at hR
  exact ⟨_, rfl, law_post hW' (trodAll_cons_mk (shut_bool Try.underlying4 _) trodAll_mk0) hR rfl hb⟩

theorem tells_holds : Rows.RankTellsSaid :=
  OpenClaim.holds_of_wide 3 Try.f3 rfl rfl rfl rfl rfl rfl rfl ⟨rfl, rfl, rfl, rfl, rfl⟩ rfl rfl rfl rfl rfl (by kernel_rfl) Try.func3 (by kernel_rfl)
    (of_decide_eq_true (by kernel_rfl)) (by unfold Func.isWrapper; first | (rw [if_pos (by decide +kernel)]; kernel_rfl) | (rw [if_neg (by decide +kernel)]; exact ⟨rfl, rfl⟩))
    (fun os started H enc _ => tells_lifted os started H enc)
end Go.Proofs.Ytnangnmnodpfjaa
