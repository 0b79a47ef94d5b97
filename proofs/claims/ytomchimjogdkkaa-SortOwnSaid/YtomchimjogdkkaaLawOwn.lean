/-
  SortOwn: what is told shares no memory, the one order with the other, nor with numbers that are handed in. For every list of keys and every list of numbers; no condition.
-/
import Derived.Test.YtomchimjogdkkaaApart
import Derived.Test.YtomchimjogdkkaaLawOnce
namespace Go.Proofs.Ytomchimjogdkkaa
open Go.ChangeShapes Go.WideShapes Go.ChangeAt Go.RowKit Go.Joins

theorem NS.off {w w' : World} {p : Option Addr} {k : IntKind} {xs : List Int} {S : List Nat} (h : NS w p k xs) (g : Off S w w') (hS : ∀ b off, p = some ⟨b, off, none⟩ → xs ≠ [] → b ∉ S) : NS w' p k xs := by
  by_cases h0 : xs = []
  · exact .inl h0
  rcases h with h | ⟨b, off, rfl, h⟩
  · exact .inl h
  · exact .inr ⟨b, off, rfl, fun j x e => g.cell (h j x e) (hS b off rfl h0)⟩
theorem NS.lt {w : World} {k : IntKind} {xs : List Int} {b off : Nat} (h : NS w (some ⟨b, off, none⟩) k xs) (h0 : xs ≠ []) : b < w.heap.size := by
  rcases h with h | ⟨b2, off2, e, h⟩
  · exact absurd h h0
  · cases e
    cases xs with
    | nil => exact absurd rfl h0
    | cons x xs => exact World.block_lt_of_cell? w _ (h 0 x rfl)
/-- from this block on so many numbers may be written -/
def WR (w : World) (g m : Nat) : Prop := ∀ j, j < m → (∃ x, w.cell? ⟨g, j, none⟩ = some (.int .u32 x)) ∧ w.frozen? ⟨g, j, none⟩ = false
theorem WR.set {w : World} {g m : Nat} (h : WR w g m) (i : Nat) (x : Int) : WR (w.setCell ⟨g, i, none⟩ (.int .u32 x)) g m := fun j hj => by
  refine ⟨?_, by rw [World.frozen?_setCell]; exact (h j hj).2⟩
  by_cases e : i = j
  · subst e
    obtain ⟨y, hy⟩ := (h i hj).1
    exact ⟨x, World.cell?_setCell_same' _ _ _ (by rw [hy]; rfl)⟩
  · obtain ⟨y, hy⟩ := (h j hj).1
    exact ⟨y, (World.cell?_setCell_other _ _ _ _ (by simp <;> omega)).trans hy⟩

/-- two lists that lie apart, in memory of the caller's own: Apart says yes, and writes them alone -/
theorem apart_two (X : World) (A1 A2 n : Nat) (L1 L2 : List Int) (h1 : EB .i64 3 X A1 L1) (h2 : EB .i64 3 X A2 L2) (hl1 : L1.length = n) (hl2 : L2.length = n) (hne : A1 ≠ A2) (hn : n ≤ 10000) :
    Calls Try.prog 22 #[.slice (some ⟨X.heap.size, 0, none⟩) 2 2] (X.alloc (.cells #[.slice (some ⟨A1, 0, none⟩) n n, .slice (some ⟨A2, 0, none⟩) n n] 27)) fun e w' => e = .returned (.bool true) ∧ Off [A1, A2] X w' := by
  have R := Row.new X [.slice (some ⟨A1, 0, none⟩) n n, .slice (some ⟨A2, 0, none⟩) n n] 27 rfl
  have b1 := h1.lt
  have b2 := h2.lt
  have := apart_any (X.alloc (.cells #[.slice (some ⟨A1, 0, none⟩) n n, .slice (some ⟨A2, 0, none⟩) n n] 27)) X.heap.size [(A1, n), (A2, n)] [(A1, n, n), (A2, n, n)] (by simpa using hne) rfl ?_ (by simp; omega) ?_ (by simp) (by simpa using hn)
  · exact this.mono fun e w' h => ⟨h.1, ((Off.refl [A1, A2] X).all _).trans (h.2.mono (fun _ _ hk => hk)) |>.mono (fun _ _ hk => hk)⟩
  · intro j b l hb hl
    match j, hb, hl with
    | 0, hb, hl => simp at hb hl; subst hb hl; exact ⟨rfl, rfl, Nat.le_refl _, R 0 _ rfl⟩
    | 1, hb, hl => simp at hb hl; subst hb hl; exact ⟨rfl, rfl, Nat.le_refl _, R 1 _ rfl⟩
    | j + 2, hb, hl => simp at hb
  · intro j b hb
    match j, hb with
    | 0, hb => simp at hb; subst hb; exact ⟨L1, hl1, h1.all _, fun h => by omega⟩
    | 1, hb => simp at hb; subst hb; exact ⟨L2, hl2, h2.all _, fun h => by omega⟩
    | j + 2, hb => simp at hb

set_option maxRecDepth 100000 in
set_option maxHeartbeats 6400000 in
theorem own_walk (p0 : Option Addr) (cap0 : Nat) (ks : List (Int × Int)) (p1 : Option Addr) (cap1 : Nat) (xs : List Int) (w : World) (hk : KS w p0 ks) (hx : NS w p1 .u32 xs) (hp : p1 = none → cap1 = 0) :
    Calls Try.prog 8 #[.slice p0 ks.length cap0, .slice p1 xs.length cap1] w fun e w' => e = .returned (.bool true) ∧ Below w.heap.size w w' := by
  by_cases hb1 : 200 < ks.length
  · have hbz : (200 : Int) < ks.length := by omega
    clear hk hx
    go_enter Try.func8, Try.ntmps8
    go_wp2_with (go_at_call 9; (with_reducible refine (awake_any _).mono ?_); rintro e w1 ⟨rfl, hb⟩)
    go_ret
    exact ⟨rfl, hb⟩
  by_cases hb2 : 200 < xs.length
  · have hbz : (200 : Int) < xs.length := by omega
    have hbz1 : ¬ (200 : Int) < ks.length := by omega
    clear hk hx
    go_enter Try.func8, Try.ntmps8
    go_wp2_with (go_at_call 9; (with_reducible refine (awake_any _).mono ?_); rintro e w1 ⟨rfl, hb⟩)
    go_ret
    exact ⟨rfl, hb⟩
  have C1 := Lib.hid (fun X (hX : KS X p0 ks) => Order_any X p0 cap0 ks hX (by omega))
  have C2 := Lib.hid (fun X (hX : NS X p1 .u32 xs) => CopyNames_any X p1 cap1 xs hX hp (by omega))
  have C3 := Lib.hid (fun X p c (hX : NS X p .u32 xs) (hpc : p = none → c = 0) => Once_any X p c xs hX (by omega) hpc)
  have C4 := Lib.hid (fun X p c (h1 : NS X p .u32 xs) (h2 : NS X p1 .u32 xs) => names_any X p p1 c cap1 xs xs h1 h2 (by omega))
  have hsl := srt_len ks
  have HSL := Lib.hid hsl
  have HK := Lib.hid hk
  have HX := Lib.hid hx
  obtain ⟨n, hn⟩ : ∃ n, n = ks.length := ⟨_, rfl⟩
  obtain ⟨m, hm⟩ : ∃ m, m = xs.length := ⟨_, rfl⟩
  obtain ⟨o, ho⟩ : ∃ o, o = (onceL xs).length := ⟨_, rfl⟩
  have hom : o ≤ m := by rw [ho, hm]; exact onceL_len xs
  have HM := Lib.hid hm
  have HO := Lib.hid ho
  rw [← hn] at hb1 C1 HSL
  rw [← hm] at hb2 C2 C3 C4
  rw [← ho] at C3
  rw [← hn, ← hm]
  have hbz1 : ¬ (200 : Int) < n := by omega
  have hbz2 : ¬ (200 : Int) < m := by omega
  clear hk hx hsl hn hm ho hp
  go_enter Try.func8, Try.ntmps8
  go_wp2_with (first
    | (go_at_call 12; (with_reducible refine (C1.out w HK.out).mono ?_); rintro e w1 ⟨A1, rfl, hA1, -, -, ⟨r1, hr1, hE1⟩, hB1⟩; rw [HSL.out]; rw [HSL.out] at hr1; have HA1 := Lib.hid hA1; have HR1 := Lib.hid hr1; have HE1 := Lib.hid hE1; have HB1 := Lib.hid hB1; have HK1 := Lib.hid (HK.out.keep hB1); have HX1 := Lib.hid (HX.out.keep hB1); clear hE1 hB1 hA1 hr1)
    | (go_at_call 12; (with_reducible refine (C1.out w1 HK1.out).mono ?_); rintro e w2 ⟨A2, rfl, hA2, -, -, ⟨r2, hr2, hE2⟩, hB2⟩; rw [HSL.out]; rw [HSL.out] at hr2; have HA2 := Lib.hid hA2; have HR2 := Lib.hid hr2; have HE2 := Lib.hid hE2; have HB2 := Lib.hid (HB1.out.trans (hB2.mono HB1.out.size)); have HE12 := Lib.hid (HE1.out.keep hB2 HE1.out.lt); have HX2 := Lib.hid (HX1.out.keep hB2); clear hE2 hB2 hA2 hr2)
    | (go_at_call 11; (with_reducible refine (C2.out w2 HX2.out).mono ?_); rintro e w3 ⟨v3, rfl, hown, hB3⟩; obtain ⟨q3, c3, rfl, -, hN3, hq3, -⟩ := NS.own hown; have HG3 := Lib.hid (own_ge hown); have HN3 := Lib.hid hN3; have HQ3 := Lib.hid hq3; have HB3 := Lib.hid (HB2.out.trans (hB3.mono HB2.out.size)); have HE13 := Lib.hid (HE12.out.keep hB3 HE12.out.lt); have HE23 := Lib.hid (HE2.out.keep hB3 HE2.out.lt); have HX3 := Lib.hid (HX2.out.keep hB3); have HS3 := Lib.hid hB3.size; clear hown hB3 hN3 hq3; rw [← HM.out])
    | (go_at_call 18; (with_reducible refine (C3.out w3 _ _ HN3.out HQ3.out).mono ?_); rintro e w4 ⟨q4, c4, rfl, hOS, -, hB4⟩; have HOS := Lib.hid hOS; have HB4 := Lib.hid (HB3.out.trans (hB4.mono HB3.out.size)); have HE14 := Lib.hid (HE13.out.keep hB4 HE13.out.lt); have HE24 := Lib.hid (HE23.out.keep hB4 HE23.out.lt); have HX4 := Lib.hid (HX3.out.keep hB4); have HN4 := Lib.hid (HN3.out.keep hB4); clear hOS hB4))
  have hgo : ∃ g, (0 < o → q4 = some ⟨g, 0, none⟩) ∧ w3.heap.size ≤ g ∧ WR w4 g o := by
    rcases HOS.out with ⟨h1, h2⟩ | ⟨g, h1, h2, h3⟩
    · have h4 : o = 0 := by rw [HO.out, h2]; rfl
      exact ⟨w3.heap.size, fun h => by omega, Nat.le_refl _, fun j hj => by omega⟩
    · refine ⟨g, fun _ => h1, h2, fun j hj => ?_⟩
      have h5 := h3 j (by have := HO.out; simp; omega)
      rw [Nat.zero_add] at h5
      exact ⟨⟨_, h5.1⟩, h5.2⟩
  obtain ⟨g, hq4, hg3, hwr⟩ := hgo
  have HQ4 := Lib.hid hq4
  have HG4 := Lib.hid hg3
  have HWR := Lib.hid hwr
  clear hq4 hg3 hwr C1 C2 C3
  go_loopw [41] (fun i wr => ∃ k : Nat, k ≤ o ∧ i = .int .i64 k ∧ Hid (WR wr g o) ∧ Hid (Off [g] w4 wr)) (fun i _ => o - (intOf i).toNat)
  case atStart => exact ⟨0, Nat.zero_le _, rfl, HWR, Lib.hid (Off.refl _ _)⟩
  case round =>
    clear HWR
    obtain ⟨i, hi, rfl, HW, HOF⟩ := hrel
    by_cases hlt : i < o
    · have hltz : (i : Int) < o := by omega
      obtain rfl := HQ4.out (by omega)
      obtain ⟨⟨x, hcx⟩, hfx⟩ := HW.out i hlt
      have h1 := HW.out.set i 7
      have h2 := HOF.out.set ⟨g, i, none⟩ (.int .u32 7) (.inl (by simp))
      have H1 := Lib.hid h1
      have H2 := Lib.hid h2
      clear h1 h2
      go_wp2
      go_roundw
      case rel => exact ⟨i + 1, by omega, by go_num, H1, H2⟩
      case measure => simp [intOf]; omega
    · have hltz : ¬ (i : Int) < o := by omega
      have l1 := HE1.out.lt
      have l2 := HE2.out.lt
      have l13 := HE13.out.lt
      have l23 := HE23.out.lt
      have a1 := HA1.out
      have a2 := HA2.out
      have a4 := HG4.out
      have s0 := HB1.out.size
      have hne : A1 ≠ A2 := by omega
      have e1 := HE14.out.off HOF.out (by simp; omega)
      have e2 := HE24.out.off HOF.out (by simp; omega)
      have CA := apart_two wr A1 A2 n _ _ e1 e2 (by rw [List.length_append, HSL.out]; have := HR1.out; omega) (by rw [List.length_append, HSL.out]; have := HR2.out; omega) hne (by omega)
      have nr := HN4.out.off HOF.out (fun b off hq hne0 => by subst hq; have := HN3.out.lt hne0; simp; omega)
      have xr := HX4.out.off HOF.out (fun b off hq hne0 => by subst hq; have := HX.out.lt hne0; simp; omega)
      have OA := fun w5 (h : Off [A1, A2] wr w5) => (⟨nr.off h (fun b off hq hne0 => by subst hq; have := HG3.out b rfl; simp; omega), xr.off h (fun b off hq hne0 => by subst hq; have := HX.out.lt hne0; simp; omega), (HOF.out.below (N := w.heap.size) HB4.out.size (by simp; omega)).trans (h.below (N := w.heap.size) (Nat.le_trans HB4.out.size HOF.out.size) (by simp; omega))⟩ : NS w5 q3 .u32 xs ∧ NS w5 p1 .u32 xs ∧ Below w.heap.size w4 w5)
      have HCA := Lib.hid CA
      have HOA := Lib.hid OA
      have C4' := C4.out
      simp only [decide_true] at C4'
      have HC4 := Lib.hid C4'
      clear l1 l2 l13 l23 a1 a2 a4 s0 hne e1 e2 CA nr xr OA C4' C4
      go_wp2_with (first
        | (go_at_call 22; (with_reducible refine HCA.out.mono ?_); rintro e w5 ⟨rfl, hO5⟩; obtain ⟨hN5, hX5, hB5⟩ := HOA.out _ hO5; have HN5 := Lib.hid hN5; have HX5 := Lib.hid hX5; have HB5 := Lib.hid (HB4.out.trans hB5); clear hO5 hN5 hX5 hB5)
        | (go_at_call 17; (with_reducible refine (HC4.out w5 _ _ HN5.out HX5.out).mono ?_); rintro e w6 ⟨rfl, hB6⟩; have HB6 := Lib.hid (HB5.out.trans (hB6.mono HB5.out.size)); clear hB6)
        | (go_at_call 9; (with_reducible refine (awake_any w6).mono ?_); rintro e w7 ⟨rfl, hB7⟩; have HB7 := Lib.hid (HB6.out.trans (hB7.mono HB6.out.size)); clear hB7))
      go_ret
      exact ⟨rfl, HB7.out⟩

set_option maxRecDepth 100000 in
theorem own_lifted (os : Os) (started : os.Started) (H : Type) (enc : TypeId × Value → H) :
    ReturnsInHanded {} Try.checked os 8 .any (Rows.sortOwnSpec.pre6 enc Try.prog Try.f8 Rows.sortOwnRow.domain false) (Rows.sortOwnSpec.post enc Try.prog Try.f8 false true false false) := by
  refine returnsInHanded_of_change (C := Try.checked) Try.own started (by kernel_rfl) Try.func8
    (ChangeSpec.witness6 (enc := enc) (C := Try.checked) false ⟨#[], #[.slice none 0 0, .slice none 0 0], []⟩ 8 (by kernel_rfl) (by kernel_rfl) (by kernel_rfl) (by kernel_rfl)) ?_
  intro W base args ds gs before hval0 hW hcnd _
  have hval : ∀ (j : Nat) t v, Try.f8.params[j]? = some t → args[j]? = some v → Value.okWide Try.prog W .any base t v := hval0
  have hW' := hW
  obtain ⟨p, q, hA0, hV, rfl, hfz, hnd⟩ := hW
  have hA : DataW.TrodAll enc Try.prog W 0 (fun _ => true) true Try.f8.params.toList args.toList ds p := hA0
  rw [Try.params8] at hA hval
  obtain ⟨v0, vs0, d0, ds0, p0, q0, hargs, rfl, rfl, h0, r0⟩ := trodAll_cons hA
  obtain ⟨v1, vs1, d1, ds1, p1, q1, rfl, rfl, rfl, h1, r1⟩ := trodAll_cons r0
  obtain ⟨rfl, rfl, rfl⟩ := trodAll_nil r1
  obtain rfl : args = #[v0, v1] := by cases args; simp_all
  obtain ⟨rfl, rfl⟩ := trodVars_none hV
  obtain ⟨a0, len0, cap0, rfl⟩ := okWide_slice Try.underlying22 (hval 0 22 v0 rfl rfl)
  obtain ⟨xs0, rfl, hx0, hl0, hm0⟩ := open_keys h0
  obtain ⟨a1, len1, cap1, rfl⟩ := okWide_slice Try.underlying23 (hval 1 23 v1 rfl rfl)
  obtain ⟨xs1, rfl, hx1, hl1, hm1, hp1, hw1⟩ := open_nums2 h1
  clear hA0 hval0
  simp only [List.append_nil] at hW'
  have hlt : ∀ x ∈ p0 ++ p1, x.block < W.heap.size := fun x hx => by simpa using hW'.lt x hx
  refine (own_walk _ _ _ _ _ _ W hx0 hx1 hp1).mono fun e W' ⟨he, hb⟩ => ?_
  subst he
  have hR := (trodAll_cons_mk (Below.trod Try.laidOut (by kernel_rfl) (of_decide_eq_true (by kernel_rfl)) h0 hb (fun x hx => hlt x (by simp [hx]))) (trodAll_cons_mk (Below.trod Try.laidOut (by kernel_rfl) (of_decide_eq_true (by kernel_rfl)) h1 hb (fun x hx => hlt x (by simp [hx]))) trodAll_mk0))
  simp only [List.append_nil] at hR
  exact ⟨_, rfl, law_post hW' (trodAll_cons_mk (shut_bool Try.underlying4 _) trodAll_mk0) hR rfl hb⟩

theorem ownlaw_holds : Rows.SortOwnSaid :=
  OpenClaim.holds_of_wide 8 Try.f8 rfl rfl rfl rfl rfl rfl rfl ⟨rfl, rfl, rfl, rfl, rfl⟩ rfl rfl rfl rfl rfl (by kernel_rfl) Try.func8 (by kernel_rfl)
    (of_decide_eq_true (by kernel_rfl)) (by unfold Func.isWrapper; first | (rw [if_pos (by decide +kernel)]; kernel_rfl) | (rw [if_neg (by decide +kernel)]; exact ⟨rfl, rfl⟩))
    (fun os started H enc _ => own_lifted os started H enc)
end Go.Proofs.Ytomchimjogdkkaa
