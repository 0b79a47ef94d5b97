/-
  RankOwn: what is squeezed is in memory of its own. For every list of numbers; no condition.
-/
import Derived.Test.YtnangnmnodpfjaaLift
namespace Go.Proofs.Ytnangnmnodpfjaa
open Go.ChangeShapes Go.WideShapes Go.ChangeAt Go.RowKit Go.Joins

theorem own_ge {w : World} {base n : Nat} {e : TypeId} {size : Nat} {v : Value} {xs : List Value} (h : w.ownsRow base e size v n xs) : ∀ b off c, v = .slice (some ⟨b, off, none⟩) n c → base ≤ b := by
  intro b off c hv
  subst hv
  rcases h.2 with ⟨h1, _⟩ | ⟨g, cap, cur, h1, hb, _⟩
  · cases h1
  · injection h1 with h1
    injection h1 with h1
    injection h1 with h1
    omega
theorem NS.off {w w' : World} {p : Option Addr} {k : IntKind} {xs : List Int} {S : List Nat} (h : NS w p k xs) (g : Off S w w') (hS : ∀ b off, p = some ⟨b, off, none⟩ → xs ≠ [] → b ∉ S) : NS w' p k xs := by
  by_cases h0 : xs = []
  · exact .inl h0
  rcases h with h | ⟨b, off, rfl, h⟩
  · exact .inl h
  · exact .inr ⟨b, off, rfl, fun j x e => g.cell (h j x e) (hS b off rfl h0)⟩
theorem NS.lt {w : World} {k : IntKind} {xs : List Int} {b off : Nat} (h : NS w (some ⟨b, off, none⟩) k xs) (h0 : xs ≠ []) : b < w.heap.size := by
  rcases h with h | ⟨b2, off2, e, h⟩
  · exact absurd h h0
  · cases e
    cases xs with
    | nil => exact absurd rfl h0
    | cons x xs => exact World.block_lt_of_cell? w _ (h 0 x rfl)
/-- from this block on so many numbers may be written -/
def WR (w : World) (g m : Nat) : Prop := ∀ j, j < m → (∃ x, w.cell? ⟨g, j, none⟩ = some (.int .i64 x)) ∧ w.frozen? ⟨g, j, none⟩ = false
theorem WR.set {w : World} {g m : Nat} (h : WR w g m) (i : Nat) (x : Int) : WR (w.setCell ⟨g, i, none⟩ (.int .i64 x)) g m := fun j hj => by
  refine ⟨?_, by rw [World.frozen?_setCell]; exact (h j hj).2⟩
  by_cases e : i = j
  · subst e
    obtain ⟨y, hy⟩ := (h i hj).1
    exact ⟨x, World.cell?_setCell_same' _ _ _ (by rw [hy]; rfl)⟩
  · obtain ⟨y, hy⟩ := (h j hj).1
    exact ⟨y, (World.cell?_setCell_other _ _ _ _ (by simp <;> omega)).trans hy⟩


set_option maxRecDepth 100000 in
set_option maxHeartbeats 3200000 in
theorem own_walk (p : Option Addr) (cap : Nat) (xs : List Int) (w : World) (hx : NS w p .i64 xs) (hp : p = none → cap = 0) :
    Calls Try.prog 8 #[.slice p xs.length cap] w fun e w' => e = .returned (.bool true) ∧ Below w.heap.size w w' := by
  by_cases hb1 : 200 < xs.length
  · have hbz : (200 : Int) < xs.length := by omega
    clear hx
    go_enter Try.func8, Try.ntmps8
    go_wp2_with (go_at_call 9; (with_reducible refine (awake_any _).mono ?_); rintro e w1 ⟨rfl, hb⟩)
    go_ret
    exact ⟨rfl, hb⟩
  have C1 := Lib.hid (CopyLongs_any w p cap xs hx hp (by omega))
  have C2 := Lib.hid (fun X q c (hX : NS X q .i64 xs) (hqc : q = none → c = 0) => Squeeze_any X q c xs hX (by omega) hqc)
  have C3 := Lib.hid (fun X q c (h1 : NS X q .i64 xs) (h2 : NS X p .i64 xs) => longs_any X q p c cap xs xs h1 h2 (by omega))
  have HX := Lib.hid hx
  obtain ⟨m, hm⟩ : ∃ m, m = xs.length := ⟨_, rfl⟩
  obtain ⟨o, ho⟩ : ∃ o, o = (onceL xs).length := ⟨_, rfl⟩
  have hom : o ≤ m := by rw [ho, hm]; exact onceL_len xs
  have HM := Lib.hid hm
  have HO := Lib.hid ho
  rw [← hm] at hb1 C1 C2 C3
  rw [← ho] at C2
  rw [← hm]
  have hbz1 : ¬ (200 : Int) < m := by omega
  clear hx hm ho hp
  go_enter Try.func8, Try.ntmps8
  go_wp2_with (first
    | (go_at_call 10; (with_reducible refine C1.out.mono ?_); rintro e w1 ⟨v3, rfl, hown, hB1⟩; obtain ⟨q1, c1, rfl, -, hN1, hq1, -⟩ := NS.own hown; rw [← HM.out] at hown; have HG1 := Lib.hid (own_ge hown); have HN1 := Lib.hid hN1; have HQ1 := Lib.hid hq1; have HB1 := Lib.hid hB1; have HX1 := Lib.hid (HX.out.keep hB1); rw [← HM.out]; clear hown hB1 hN1 hq1)
    | (go_at_call 16; (with_reducible refine (C2.out w1 _ _ HN1.out HQ1.out).mono ?_); rintro e w2 ⟨q2, c2, rfl, hOS, -, hB2⟩; have HOS := Lib.hid hOS; have HB2 := Lib.hid (HB1.out.trans (hB2.mono HB1.out.size)); have HX2 := Lib.hid (HX1.out.keep hB2); have HN2 := Lib.hid (HN1.out.keep hB2); clear hOS hB2))
  have hgo : ∃ g, (0 < o → q2 = some ⟨g, 0, none⟩) ∧ w1.heap.size ≤ g ∧ WR w2 g o := by
    rcases HOS.out with ⟨h1, h2⟩ | ⟨g, h1, h2, h3⟩
    · have h4 : o = 0 := by rw [HO.out, h2]; rfl
      exact ⟨w1.heap.size, fun h => by omega, Nat.le_refl _, fun j hj => by omega⟩
    · refine ⟨g, fun _ => h1, h2, fun j hj => ?_⟩
      have h5 := h3 j (by have := HO.out; simp; omega)
      rw [Nat.zero_add] at h5
      exact ⟨⟨_, h5.1⟩, h5.2⟩
  obtain ⟨g, hq2, hg1, hwr⟩ := hgo
  have HQ2 := Lib.hid hq2
  have HG2 := Lib.hid hg1
  have HWR := Lib.hid hwr
  clear hq2 hg1 hwr C1 C2
  go_loopw [16] (fun i wr => ∃ k : Nat, k ≤ o ∧ i = .int .i64 k ∧ Hid (WR wr g o) ∧ Hid (Off [g] w2 wr)) (fun i _ => o - (intOf i).toNat)
  case atStart => exact ⟨0, Nat.zero_le _, rfl, HWR, Lib.hid (Off.refl _ _)⟩
  case round =>
    clear HWR
    obtain ⟨i, hi, rfl, HW, HOF⟩ := hrel
    by_cases hlt : i < o
    · have hltz : (i : Int) < o := by omega
      obtain rfl := HQ2.out (by omega)
      obtain ⟨⟨x, hcx⟩, hfx⟩ := HW.out i hlt
      have h1 := HW.out.set i 7
      have h2 := HOF.out.set ⟨g, i, none⟩ (.int .i64 7) (.inl (by simp))
      have H1 := Lib.hid h1
      have H2 := Lib.hid h2
      clear h1 h2
      go_wp2
      go_roundw
      case rel => exact ⟨i + 1, by omega, by go_num, H1, H2⟩
      case measure => simp [intOf]; omega
    · have hltz : ¬ (i : Int) < o := by omega
      have hn1 := HN2.out.off HOF.out (fun b off h h0 => by
        subst h
        have h1 := HN1.out.lt h0
        have h2 := HG2.out
        simp
        omega)
      have hn2 := HX2.out.off HOF.out (fun b off h h0 => by
        subst h
        have h1 := HX.out.lt h0
        have h2 := HG2.out
        have h3 := HB1.out.size
        simp
        omega)
      have hL := C3.out wr _ c1 hn1 hn2
      rw [show (decide True) = true from rfl] at hL
      have HL := Lib.hid hL
      have HB3 := Lib.hid (HB2.out.trans (HOF.out.below (N := w.heap.size) (HB2.out.size) (by have h2 := HG2.out; have h3 := HB1.out.size; simp; omega)))
      clear hL hn1 hn2
      go_wp2_with (first
        | (go_at_call 15; (with_reducible refine HL.out.mono ?_); rintro e w3 ⟨rfl, hb⟩; have HB4 := Lib.hid (HB3.out.trans (hb.mono HB3.out.size)); clear hb)
        | (go_at_call 9; (with_reducible refine (awake_any _).mono ?_); rintro e w4 ⟨rfl, hb⟩; have HB5 := Lib.hid (HB4.out.trans (hb.mono HB4.out.size)); clear hb))
      go_ret
      exact ⟨rfl, HB5.out⟩

set_option maxRecDepth 100000 in
theorem ownlaw_lifted (os : Os) (started : os.Started) (H : Type) (enc : TypeId × Value → H) :
    ReturnsInHanded {} Try.checked os 8 .any (Rows.rankOwnSpec.pre6 enc Try.prog Try.f8 Rows.rankOwnRow.domain false) (Rows.rankOwnSpec.post enc Try.prog Try.f8 false true false false) := by
  refine returnsInHanded_of_change (C := Try.checked) Try.own started (by kernel_rfl) Try.func8
    (ChangeSpec.witness6 (enc := enc) (C := Try.checked) false ⟨#[], #[.slice none 0 0], []⟩ 8 (by kernel_rfl) (by kernel_rfl) (by kernel_rfl) (by kernel_rfl)) ?_
  intro W base args ds gs before hval0 hW hcnd _
  have hval : ∀ (j : Nat) t v, Try.f8.params[j]? = some t → args[j]? = some v → Value.okWide Try.prog W .any base t v := hval0
  have hW' := hW
  obtain ⟨p, q, hA0, hV, rfl, hfz, hnd⟩ := hW
  have hA : DataW.TrodAll enc Try.prog W 0 (fun _ => true) true Try.f8.params.toList args.toList ds p := hA0
  rw [Try.params8] at hA hval
  obtain ⟨v0, vs0, d0, ds0, p0, q0, hargs, rfl, rfl, h0, r0⟩ := trodAll_cons hA
  obtain ⟨rfl, rfl, rfl⟩ := trodAll_nil r0
  obtain rfl : args = #[v0] := by cases args; simp_all
  obtain ⟨rfl, rfl⟩ := trodVars_none hV
  obtain ⟨a0, len0, cap0, rfl⟩ := okWide_slice Try.underlying22 (hval 0 22 v0 rfl rfl)
  obtain ⟨xs0, rfl, hx0, hl0, hm0, hp0, hw0⟩ := open_nums2 h0
  clear hA0 hval0
  simp only [List.append_nil] at hW'
  have hlt : ∀ x ∈ p0, x.block < W.heap.size := fun x hx => by simpa using hW'.lt x (by simpa using hx)
  refine (own_walk _ _ _ W hx0 hp0).mono fun e W' ⟨he, hb⟩ => ?_
  subst he
  have hR : DataW.TrodAll enc Try.prog W' 0 (fun b => decide (b < W.heap.size)) true _ _ _ _ := (trodAll_cons_mk (Below.trod Try.laidOut (by kernel_rfl) (of_decide_eq_true (by kernel_rfl)) h0 hb (fun x hx => hlt x (by simp [hx]))) trodAll_mk0)
  simp only [List.append_nil] at hR
  exact ⟨_, rfl, law_post hW' (trodAll_cons_mk (shut_bool Try.underlying4 _) trodAll_mk0) hR rfl hb⟩

theorem ownlaw_holds : Rows.RankOwnSaid :=
  OpenClaim.holds_of_wide 8 Try.f8 rfl rfl rfl rfl rfl rfl rfl ⟨rfl, rfl, rfl, rfl, rfl⟩ rfl rfl rfl rfl rfl (by kernel_rfl) Try.func8 (by kernel_rfl)
    (of_decide_eq_true (by kernel_rfl)) (by unfold Func.isWrapper; first | (rw [if_pos (by decide +kernel)]; kernel_rfl) | (rw [if_neg (by decide +kernel)]; exact ⟨rfl, rfl⟩))
    (fun os started H enc _ => ownlaw_lifted os started H enc)
end Go.Proofs.Ytnangnmnodpfjaa
