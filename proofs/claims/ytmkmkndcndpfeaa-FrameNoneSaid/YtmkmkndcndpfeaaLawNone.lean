/-
  FrameNone: who was not made by New has no leaves, and tells ErrNil. For all numbers; no condition.
-/
import Derived.Test.YtmkmkndcndpfeaaFaw
import Derived.Test.YtmkmkndcndpfeaaLift
namespace Go.Proofs.Ytmkmkndcndpfeaa
open Go.ChangeShapes Go.WideShapes Go.ChangeAt Go.RowKit Go.Joins

/-- what is no frame: nothing, or a block that does not know itself -/
def NF (w : World) (p : Option Addr) : Prop := p = none ∨ ∃ B, p = some ⟨B, 0, none⟩ ∧ w.cell? ⟨B, 0, none⟩ = some (.pointer none)
theorem Try.eqNoneF (a : Addr) (w : World) : (binOp .eql 23 (.pointer none) (.pointer (some a))).run Try.prog w = .ok (.bool false) w := by
  have h : ∀ d : Nat, (Op.equalIn (d + 1) 23 (.pointer none) (.pointer (some a))).run Try.prog w = .ok false w := fun d => by
    simp [Op.equalIn, run_underlying Try.underlying23]
  simp only [binOp]
  simp [Op.equal, Op.maxDepth, h 9999]
set_option maxRecDepth 100000 in
theorem fmade_no (w : World) (p : Option Addr) (h : NF w p) :
    Calls Try.prog 30 #[.pointer p] w fun e w' => e = .returned (.bool false) ∧ w' = w := by
  rcases h with rfl | ⟨B, rfl, h⟩
  · go_enter Try.func30, Try.ntmps30
    go_wp2
    go_ret
    exact ⟨rfl, rfl⟩
  · have q := Try.eqNoneF
    go_enter Try.func30, Try.ntmps30
    go_wp2
    go_ret
    exact ⟨rfl, rfl⟩
set_option maxRecDepth 100000 in
theorem Leaves_no (w : World) (p : Option Addr) (h : NF w p) :
    Calls Try.prog 17 #[.pointer p] w fun e w' => e = .returned (.int .i64 0) ∧ w' = w := by
  have HM := Lib.hid (fmade_no w p h)
  clear h
  go_enter Try.func17, Try.ntmps17
  go_wp2_with (go_at_call 30; (with_reducible refine HM.out.mono ?_); rintro e w1 ⟨rfl, rfl⟩)
  go_ret
  exact ⟨rfl, rfl⟩
set_option maxRecDepth 100000 in
theorem Root_no (w : World) (p : Option Addr) (h : NF w p) :
    Calls Try.prog 18 #[.pointer p] w fun e w' => e = .returned (.int .i64 (-1)) ∧ w' = w := by
  have HM := Lib.hid (Leaves_no w p h)
  clear h
  go_enter Try.func18, Try.ntmps18
  go_wp2_with (go_at_call 17; (with_reducible refine HM.out.mono ?_); rintro e w1 ⟨rfl, rfl⟩)
  go_ret
  exact ⟨rfl, rfl⟩
set_option maxRecDepth 100000 in
theorem Nodes_no (w : World) (p : Option Addr) (h : NF w p) :
    Calls Try.prog 20 #[.pointer p] w fun e w' => e = .returned (.slice none 0 0) ∧ w' = w := by
  have HM := Lib.hid (fmade_no w p h)
  clear h
  go_enter Try.func20, Try.ntmps20
  go_wp2_with (go_at_call 30; (with_reducible refine HM.out.mono ?_); rintro e w1 ⟨rfl, rfl⟩)
  go_ret
  exact ⟨rfl, rfl⟩
set_option maxRecDepth 100000 in
theorem FCanon_no (w : World) (p : Option Addr) (h : NF w p) (x y : Int) :
    Calls Try.prog 12 #[.pointer p, .int .i64 x, .int .i64 y] w fun e w' => e = .returned (.tuple #[.slice none 0 0, .int .i64 0, .int .i64 1]) ∧ w' = w := by
  have HM := Lib.hid (fmade_no w p h)
  clear h
  go_enter Try.func12, Try.ntmps12
  go_wp2_with (go_at_call 30; (with_reducible refine HM.out.mono ?_); rintro e w1 ⟨rfl, rfl⟩)
  refine bodyPost_ret (v := .tuple #[.slice none 0 0, .int .i64 0, .int .i64 1]) ?_ rfl ⟨rfl, rfl⟩
  simp [results, Try.f12, go_sem]
set_option maxRecDepth 100000 in
theorem FPath_no (w : World) (p : Option Addr) (h : NF w p) (x : Int) :
    Calls Try.prog 15 #[.pointer p, .int .i64 x] w fun e w' => e = .returned (.tuple #[.slice none 0 0, .int .i64 1]) ∧ w' = w := by
  have HM := Lib.hid (fmade_no w p h)
  clear h
  go_enter Try.func15, Try.ntmps15
  go_wp2_with (go_at_call 30; (with_reducible refine HM.out.mono ?_); rintro e w1 ⟨rfl, rfl⟩)
  refine bodyPost_ret (v := .tuple #[.slice none 0 0, .int .i64 1]) ?_ rfl ⟨rfl, rfl⟩
  simp [results, Try.f15, go_sem]

/-- the world behind the two frames that are none, and their list -/
def NW (w : World) : World := (w.alloc (.cells #[.pointer none, .int .u32 0, .int .i32 0, .int .u32 0, .int .i64 0, .pointer none] 76)).alloc (.cells #[.pointer none, .pointer (some ⟨w.heap.size, 0, none⟩)] 23)
def NP (w : World) (k : Nat) : Option Addr := if k = 0 then none else some ⟨w.heap.size, 0, none⟩
theorem NW_below (w : World) : Below w.heap.size w (NW w) := ((Below.refl _ w).alloc (Nat.le_refl _) _).alloc (by simp) _
theorem NW_cell (w : World) (k : Nat) (h : k < 2) : (NW w).cell? ⟨w.heap.size + 1, k, none⟩ = some (.pointer (NP w k)) := by
  have hs : (w.alloc (.cells #[.pointer none, .int .u32 0, .int .i32 0, .int .u32 0, .int .i64 0, .pointer none] 76)).heap.size = w.heap.size + 1 := by simp
  have h2 := World.cell?_alloc_new (w := w.alloc (.cells #[.pointer none, .int .u32 0, .int .i32 0, .int .u32 0, .int .i64 0, .pointer none] 76)) #[.pointer none, .pointer (some ⟨w.heap.size, 0, none⟩)] 23 k
  rw [hs] at h2
  unfold NW NP
  rw [h2]
  match k, h with
  | 0, _ => rfl
  | 1, _ => rfl
theorem NW_nf (w : World) (k : Nat) : NF (NW w) (NP w k) := by
  unfold NP
  split
  · exact .inl rfl
  · refine .inr ⟨_, rfl, ?_⟩
    have h2 := World.cell?_alloc_new (w := w) #[.pointer none, .int .u32 0, .int .i32 0, .int .u32 0, .int .i64 0, .pointer none] 76 0
    have hb : Below (w.heap.size + 1) (w.alloc (.cells #[.pointer none, .int .u32 0, .int .i32 0, .int .u32 0, .int .i64 0, .pointer none] 76)) (NW w) := (Below.refl _ _).alloc (by simp) _
    rw [hb.cell (by simp)]
    exact h2
set_option maxRecDepth 100000 in
set_option maxHeartbeats 1600000 in
theorem none_walk (a b c : Int) (w : World) :
    Calls Try.prog 8 #[.int .i64 a, .int .i64 b, .int .i64 c] w fun e w' => e = .returned (.bool true) ∧ Below w.heap.size w w' := by
  have HA := Lib.hid awake_any
  have HB := Lib.hid (NW_below w)
  have HN := Lib.hid (NW_nf w)
  have HC := Lib.hid (NW_cell w)
  go_enter Try.func8, Try.ntmps8
  go_upto_region 3 with fail
  go_loopw [20] (fun i wr => ∃ k : Nat, k ≤ 2 ∧ i = .int .i64 k ∧ wr = NW w) (fun i _ => 2 - (intOf i).toNat)
  case atStart => exact ⟨0, by omega, rfl, rfl⟩
  case round =>
    obtain ⟨k, hk, rfl, rfl⟩ := hrel
    by_cases hlt : k < 2
    · have hltz : (k : Int) < 2 := by omega
      have hc := HC.out k hlt
      have HF := Lib.hid (HN.out k)
      obtain ⟨p, hp⟩ : ∃ p, p = NP w k := ⟨_, rfl⟩
      rw [← hp] at hc HF
      clear hp HN HC
      obtain ⟨X, hX⟩ : ∃ X, X = NW w := ⟨_, rfl⟩
      have HX := Lib.hid hX
      rw [← hX] at HB HF hc
      rw [← hX]
      clear hX
      go_wp2_with (first
        | (go_at_call 12; (with_reducible refine (FCanon_no _ _ HF.out _ _).mono ?_); rintro e w1 ⟨rfl, rfl⟩)
        | (go_at_call 15; (with_reducible refine (FPath_no _ _ HF.out _).mono ?_); rintro e w1 ⟨rfl, rfl⟩)
        | (go_at_call 17; (with_reducible refine (Leaves_no _ _ HF.out).mono ?_); rintro e w1 ⟨rfl, rfl⟩)
        | (go_at_call 18; (with_reducible refine (Root_no _ _ HF.out).mono ?_); rintro e w1 ⟨rfl, rfl⟩)
        | (go_at_call 20; (with_reducible refine (Nodes_no _ _ HF.out).mono ?_); rintro e w1 ⟨rfl, rfl⟩))
      go_roundw
      case rel => exact ⟨k + 1, by omega, by go_num, trivial⟩
      case measure => simp [intOf]; omega
    · have hltz : ¬ (k : Int) < 2 := by omega
      obtain ⟨X, hX⟩ : ∃ X, X = NW w := ⟨_, rfl⟩
      rw [← hX] at HB
      rw [← hX]
      clear hX HC HN
      go_wp2_with (go_at_call 9; (with_reducible refine (HA.out _).mono ?_); rintro e w1 ⟨rfl, hb⟩; have HE := Lib.hid (HB.out.trans (hb.mono HB.out.size)); clear hb)
      go_ret
      exact ⟨rfl, HE.out⟩

/- the row -/
set_option maxRecDepth 100000 in
theorem nonelaw_lifted (os : Os) (started : os.Started) (H : Type) (enc : TypeId × Value → H) :
    ReturnsInHanded {} Try.checked os 8 .any (Rows.frameNoneSpec.pre6 enc Try.prog Try.f8 Rows.frameNoneRow.domain false) (Rows.frameNoneSpec.post enc Try.prog Try.f8 false true false false) := by
  refine returnsInHanded_of_change (C := Try.checked) Try.own started (by kernel_rfl) Try.func8
    (ChangeSpec.witness6 (enc := enc) (C := Try.checked) false ⟨#[], #[.int .i64 0, .int .i64 0, .int .i64 0], []⟩ 8 (by kernel_rfl) (by kernel_rfl) (by kernel_rfl) (by kernel_rfl)) ?_
  intro W base args ds gs before hval0 hW hcnd _
  have hval : ∀ (j : Nat) t v, Try.f8.params[j]? = some t → args[j]? = some v → Value.okWide Try.prog W .any base t v := hval0
  have hW' := hW
  obtain ⟨p, q, hA0, hV, rfl, hfz, hnd⟩ := hW
  have hA : DataW.TrodAll enc Try.prog W 0 (fun _ => true) true Try.f8.params.toList args.toList ds p := hA0
  rw [Try.params8] at hA hval
  obtain ⟨v0, vs0, d0, ds0, p0, q0, hargs, rfl, rfl, h0, r0⟩ := trodAll_cons hA
  obtain ⟨v1, vs1, d1, ds1, p1, q1, rfl, rfl, rfl, h1, r1⟩ := trodAll_cons r0
  obtain ⟨v2, vs2, d2, ds2, p2, q2, rfl, rfl, rfl, h2, r2⟩ := trodAll_cons r1
  obtain ⟨rfl, rfl, rfl⟩ := trodAll_nil r2
  obtain rfl : args = #[v0, v1, v2] := by cases args; simp_all
  obtain ⟨rfl, rfl⟩ := trodVars_none hV
  obtain ⟨a0, rfl, rfl, rfl, w0⟩ := open_int Try.underlying3 (hval 0 3 v0 rfl rfl) h0
  obtain ⟨a1, rfl, rfl, rfl, w1⟩ := open_int Try.underlying3 (hval 1 3 v1 rfl rfl) h1
  obtain ⟨a2, rfl, rfl, rfl, w2⟩ := open_int Try.underlying3 (hval 2 3 v2 rfl rfl) h2
  clear hA0 hval0
  simp only [List.append_nil] at hW'
  refine (none_walk _ _ _ W).mono fun e W' ⟨he, hb⟩ => ?_
  subst he
  have hR : DataW.TrodAll enc Try.prog W' 0 (fun b => decide (b < W.heap.size)) true _ _ _ _ := (trodAll_cons_mk (shut_int Try.underlying3 w0) (trodAll_cons_mk (shut_int Try.underlying3 w1) (trodAll_cons_mk (shut_int Try.underlying3 w2) trodAll_mk0)))
  simp only [List.append_nil] at hR
  exact ⟨_, rfl, law_post hW' (trodAll_cons_mk (shut_bool Try.underlying4 _) trodAll_mk0) hR rfl hb⟩

theorem nonelaw_holds : Rows.FrameNoneSaid :=
  OpenClaim.holds_of_wide 8 Try.f8 rfl rfl rfl rfl rfl rfl rfl ⟨rfl, rfl, rfl, rfl, rfl⟩ rfl rfl rfl rfl rfl (by kernel_rfl) Try.func8 (by kernel_rfl)
    (of_decide_eq_true (by kernel_rfl)) (by unfold Func.isWrapper; first | (rw [if_pos (by decide +kernel)]; kernel_rfl) | (rw [if_neg (by decide +kernel)]; exact ⟨rfl, rfl⟩))
    (fun os started H enc _ => nonelaw_lifted os started H enc)
end Go.Proofs.Ytmkmkndcndpfeaa
