/-
  SortOnce: each number is there once, rising, and no other one; once more it stays. For every list of numbers; no condition.
-/
import Derived.Test.YtomchimjogdkkaaOnceMath
import Derived.Test.YtomchimjogdkkaaLift
import Derived.Maps.OwnSet
import Derived.Maps.OwnOps
namespace Go.Proofs.Ytomchimjogdkkaa
open Go.ChangeShapes Go.WideShapes Go.ChangeAt Go.RowKit Go.Joins Go.Maps

/-- the map tells how often each of these numbers is there -/
structure MD (D : DataW Unit) (xs : List Int) : Prop where
  cnt : ∀ x, D.atKey (.int .u32 x) (.lit (.int .i64 0)) = .lit (.int .i64 (xs.count x : Nat))
  siz : Maps.size D = (dst xs).length
  has : ∀ x, Maps.has D (.int .u32 x) = decide (x ∈ xs)
  tidy : Tidy D
theorem MD.start : MD (.map []) [] := ⟨fun x => rfl, rfl, fun x => by rw [has_eq]; rfl, tidy_empty⟩
theorem MD.step {D : DataW Unit} {xs : List Int} (h : MD D xs) (x : Int) (c : Int) (hc : c = (xs.count x : Nat) + 1) : MD (D.put (.int .u32 x) (.lit (.int .i64 c))) (xs ++ [x]) := by
  have hk : WideAt.IsKeyLit (.int .u32 x) := by trivial
  have ne : ∀ y, ¬ y = x → (Lit.int .u32 y) ≠ .int .u32 x := fun y hy e => hy (by injection e)
  refine ⟨fun y => ?_, ?_, fun y => ?_, h.tidy.put hk _⟩
  · by_cases e : y = x
    · subst e
      rw [atKey_put_same h.tidy.isMap hk, hc]
      simp
    · rw [atKey_put_other (ne y e), h.cnt]
      have : ¬ x = y := fun e2 => e e2.symm
      simp [List.count_append, this]
  · rw [size_put h.tidy, h.has, h.siz, dst_snoc]
    have := (dst_spec xs).2 x
    by_cases e : x ∈ xs
    · simp [e, this.2 e]
    · have e2 : ¬ x ∈ dst xs := fun h => e (this.1 h)
      simp [e, e2]
  · by_cases e : y = x
    · subst e
      rw [has_put_same h.tidy.isMap hk]
      simp
    · rw [has_put_other (ne y e), h.has]
      simp [e]
theorem klaw : Keyed Try.prog 38 := int_keyed Try.underlying38
theorem zero3 (w : World) : (zeroValue 3).run Try.prog w = .ok (.int .i64 0) w := by kernel_rfl

set_option maxRecDepth 100000 in
set_option maxHeartbeats 3200000 in
theorem once_walk (p : Option Addr) (cap : Nat) (xs : List Int) (w : World) (hx : NS w p .u32 xs) (_hl : xs.length ≤ cap) (hp : p = none → cap = 0) (hwf : ∀ x ∈ xs, (Lit.int .u32 x).wf = true) :
    Calls Try.prog 7 #[.slice p xs.length cap] w fun e w' => e = .returned (.bool true) ∧ Below w.heap.size w w' := by
  by_cases hbig : 1000 < xs.length
  · have hbz : (1000 : Int) < xs.length := by omega
    clear hx
    go_enter Try.func7, Try.ntmps7
    go_wp2_with (go_at_call 9; (with_reducible refine (awake_any _).mono ?_); rintro e w1 ⟨rfl, hb⟩)
    go_ret
    exact ⟨rfl, hb⟩
  have C1 := Lib.hid (Once_any w p cap xs hx (by omega) hp)
  have hcell : ∀ k x, xs[k]? = some x → ∃ b off, p = some ⟨b, off, none⟩ ∧ w.cell? ⟨b, off + k, none⟩ = some (.int .u32 x) := by
    intro k x e
    rcases hx with rfl | ⟨b, off, h1, h2⟩
    · simp at e
    · exact ⟨b, off, h1, h2 k x e⟩
  have HX := Lib.hid hcell
  have HWF := Lib.hid hwf
  obtain ⟨n, hn⟩ : ∃ n, n = xs.length := ⟨_, rfl⟩
  obtain ⟨m, hm⟩ : ∃ m, m = (onceL xs).length := ⟨_, rfl⟩
  have hmn : m ≤ n := by rw [hm, hn]; exact onceL_len xs
  have HN := Lib.hid hn
  have HM := Lib.hid hm
  rw [← hn] at hbig C1
  rw [← hn]
  rw [← hm] at C1
  have hbz : ¬ (1000 : Int) < n := by omega
  clear hcell hwf hx hn hm hp
  have hmm := @run_makeMap Try.prog
  go_enter Try.func7, Try.ntmps7
  go_wp2_with (go_at_call 18; (with_reducible refine C1.out.mono ?_); rintro e w1 ⟨q, c', rfl, hOS, hq0, hB1⟩; have HOS := Lib.hid hOS; have HQ0 := Lib.hid hq0; have HB1 := Lib.hid hB1; clear hOS hq0 hB1)
  go_loopw [18] (fun i wr => ∃ k : Nat, k ≤ n ∧ i = .int .i64 k ∧ Hid (∃ D : DataW Unit, wr.ownsMap Try.prog 38 (plainElem Try.prog 3) w1.heap.size k D ∧ MD D (xs.take k)) ∧ Hid (Below w1.heap.size w1 wr)) (fun i _ => n - (intOf i).toNat)
  case atStart => exact ⟨0, Nat.zero_le _, rfl, Lib.hid ⟨_, World.ownsMap_made _ _ _ _, MD.start⟩, Lib.hid ((Below.refl _ _).alloc (Nat.le_refl _) _)⟩
  case round =>
    clear hmm C1
    obtain ⟨k, hk, rfl, HD, HB⟩ := hrel
    by_cases hlt : k < n
    · have hltz : (k : Int) < n := by omega
      obtain ⟨x, hxe⟩ : ∃ x, xs[k]? = some x := ⟨_, List.getElem?_eq_getElem (by have := HN.out; omega)⟩
      obtain ⟨b, off, rfl, hc⟩ := HX.out k x hxe
      obtain ⟨D, hown, hMD⟩ := HD.out
      have hb := World.block_lt_of_cell? w _ hc
      have hcx : wr.cell? ⟨b, off + k, none⟩ = some (.int .u32 x) := (HB.out.cell (Nat.lt_of_lt_of_le hb HB1.out.size)).trans ((HB1.out.cell hb).trans hc)
      have hkey : keyOf Try.prog 38 (.int .u32 x) = some (.int .u32 x) := keyOf_int_mk Try.underlying38 (HWF.out x (List.mem_of_getElem? hxe))
      obtain ⟨cN, hcN⟩ : ∃ cN, cN = (xs.take k).count x := ⟨_, rfl⟩
      have hcb : cN ≤ k := by rw [hcN]; exact Nat.le_trans List.count_le_length (by simp; omega)
      have hat0 : D.atKey (.int .u32 x) (.lit (.int .i64 0)) = .lit (.int .i64 (cN : Nat)) := by rw [hMD.cnt, hcN]
      have hst := hMD.step x ((cN : Int) + 1) (by rw [hcN])
      rw [← show xs.take (k + 1) = xs.take k ++ [x] by rw [List.take_add_one, hxe]; rfl] at hst
      have HST := Lib.hid hst
      have HAT := Lib.hid hat0
      have HXE := Lib.hid hxe
      clear hst hat0 hcN hMD hb hc hxe
      go_wp2_with (first
        | (at_lookup; refine wpList_lookup_own_int _ rfl _ _ 41 rfl 38 3 .i64 klaw Try.underlying41 Try.underlying3 (zero3 _) w1.heap.size k _ rfl hown _ _ rfl hkey ?_; intro c hat hwc; obtain rfl : c = (cN : Int) := by rw [HAT.out] at hat; injection hat with h1; injection h1 with _ h1; exact h1.symm)
        | (at_mapUpdate; refine wpList_mapUpdate_own _ rfl _ _ _ 41 rfl 38 3 klaw Try.underlying41 _ w1.heap.size k _ rfl hown (by unfold maxLen; omega) _ _ _ rfl rfl hkey _ [] (plainElem_int Try.underlying3 (WalkArith.wf_i64 (by omega))) ?_; intro w2 hown1 hgrow1)
        | go_in)
      go_roundw
      case rel => exact ⟨k + 1, by omega, by go_num, Lib.hid ⟨_, hown1, HST.out⟩, Lib.hid (HB.out.grown hgrow1 HB.out.size (fun j hj => by cases hj; exact Nat.le_refl _))⟩
      case measure => simp [intOf]; omega
    · have hltz : ¬ (k : Int) < n := by omega
      obtain ⟨D, hown, hMD⟩ := HD.out
      rw [List.take_of_length_le (by have := HN.out; omega)] at hMD
      have hsz : Maps.size D = m := by rw [hMD.siz, dst_len]; exact HM.out.symm
      have HMD := Lib.hid hMD
      have HSZ := Lib.hid hsz
      have hm1 : m ≤ 1000 := by omega
      have HB2 := Lib.hid (HB1.out.trans (HB.out.mono HB1.out.size))
      have hpw := (once_spec xs)
      have HPW := Lib.hid hpw
      clear hMD hsz HD hpw
      go_wp2_with fail
      go_loopw [29] (fun i wr2 => ∃ j : Nat, j ≤ m ∧ i = .int .i64 j ∧ wr2 = wr) (fun i _ => m - (intOf i).toNat)
      case atStart => exact ⟨0, Nat.zero_le _, rfl, rfl⟩
      case round =>
        obtain ⟨j, hj, rfl, rfl⟩ := hrel
        by_cases hlt2 : j < m
        · have hlt2z : (j : Int) < m := by omega
          obtain ⟨y, hye⟩ : ∃ y, (onceL xs)[j]? = some y := ⟨_, List.getElem?_eq_getElem (by have := HM.out; omega)⟩
          obtain ⟨g, rfl, hH⟩ : ∃ g, q = some ⟨g, 0, none⟩ ∧ Sort.Holds encU w1 g 0 (onceL xs).toArray := by
            rcases HOS.out with ⟨_, h0⟩ | ⟨g, h1, _, h2⟩
            · rw [h0] at hye; simp at hye
            · exact ⟨g, h1, h2⟩
          have cell : ∀ i z, (onceL xs)[i]? = some z → wr.cell? ⟨g, i, none⟩ = some (.int .u32 z) := by
            intro i z e
            obtain ⟨h1, h2⟩ := List.getElem?_eq_some_iff.1 e
            have h3 := (hH i (by simpa using h1)).1
            rw [Nat.zero_add] at h3
            refine (HB.out.cell (World.block_lt_of_cell? w1 _ h3)).trans ?_
            rw [h3]
            simp [getElem!_pos, h1, h2]
          have hcy := cell j y hye
          have hmem : y ∈ xs := (HPW.out.2 y).1 (List.mem_of_getElem? hye)
          have hkey : keyOf Try.prog 38 (.int .u32 y) = some (.int .u32 y) := keyOf_int_mk Try.underlying38 (HWF.out y hmem)
          obtain ⟨cN, hcN⟩ : ∃ cN, cN = xs.count y := ⟨_, rfl⟩
          have hc0 : ¬ cN = 0 := by rw [hcN]; exact (mem_count xs y).1 hmem
          have hat0 : D.atKey (.int .u32 y) (.lit (.int .i64 0)) = .lit (.int .i64 (cN : Nat)) := by rw [HMD.out.cnt, hcN]
          have HAT := Lib.hid hat0
          have hc0z : ¬ (cN : Int) = 0 := by omega
          have hc0b : ((cN : Int) == 0) = false := by simpa using hc0
          by_cases hj0 : j = 0
          · subst hj0
            clear hat0 hcN hmem hye cell hH
            go_wp2_with (first
              | (at_lookup; refine wpList_lookup_own_int _ rfl _ _ 41 rfl 38 3 .i64 klaw Try.underlying41 Try.underlying3 (zero3 _) w1.heap.size k _ rfl hown _ _ rfl hkey ?_; intro c hat hwc; obtain rfl : c = (cN : Int) := by rw [HAT.out] at hat; injection hat with h1; injection h1 with _ h1; exact h1.symm)
              | go_in)
            go_roundw
            case rel => exact ⟨1, by omega, by go_num, by trivial⟩
            case measure => simp [intOf]; omega
          · have hj0z : (0 : Int) < j := by omega
            obtain ⟨z, hze⟩ : ∃ z, (onceL xs)[j - 1]? = some z := ⟨_, List.getElem?_eq_getElem (by have := HM.out; omega)⟩
            have hcz := cell (j - 1) z hze
            have hzy : z < y := by
              obtain ⟨h1, h2⟩ := List.getElem?_eq_some_iff.1 hze
              obtain ⟨h3, h4⟩ := List.getElem?_eq_some_iff.1 hye
              rw [← h2, ← h4]
              exact List.pairwise_iff_getElem.1 HPW.out.1 (j - 1) j h1 h3 (by omega)
            have hzy2 : ¬ y ≤ z := by omega
            have hsub : ((j : Nat) : Int) - 1 = ((j - 1 : Nat) : Int) := by omega
            have hj1 : j - 1 < m := by omega
            clear hat0 hcN hmem hye cell hH hze
            go_wp2_with (first
              | (at_lookup; refine wpList_lookup_own_int _ rfl _ _ 41 rfl 38 3 .i64 klaw Try.underlying41 Try.underlying3 (zero3 _) w1.heap.size k _ rfl hown _ _ rfl hkey ?_; intro c hat hwc; obtain rfl : c = (cN : Int) := by rw [HAT.out] at hat; injection hat with h1; injection h1 with _ h1; exact h1.symm)
              | go_in)
            go_roundw
            case rel => exact ⟨j + 1, by omega, by go_num, by trivial⟩
            case measure => simp [intOf]; omega
        · have hlt2z : ¬ (j : Int) < m := by omega
          have C2 := Once_any wr q c' (onceL xs) ((HOS.out.ns).keep HB.out) (by have := HM.out; omega) HQ0.out
          rw [onceL_again, ← HM.out] at C2
          have hN : ∀ X q2 c2, NS X q2 .u32 (onceL xs) → NS X q .u32 (onceL xs) → Calls Try.prog 17 #[.slice q2 m c2, .slice q m c'] X fun e w' => e = .returned (.bool true) ∧ Below X.heap.size X w' := by
            intro X q2 c2 h1 h2
            have := names_any X q2 q c2 c' (onceL xs) (onceL xs) h1 h2 (by have := HM.out; omega)
            rw [← HM.out] at this
            simpa using this
          have HC2 := Lib.hid C2
          have HNN := Lib.hid hN
          have HQS := Lib.hid ((HOS.out.ns).keep HB.out)
          clear C2 hN
          go_wp2_with (first
            | (at_len; refine wpList_len_own _ rfl _ 41 rfl 38 3 Try.underlying41 _ w1.heap.size k D rfl hown ?_; rw [HSZ.out])
            | (go_at_call 18; (with_reducible refine HC2.out.mono ?_); rintro e w3 ⟨q2, c2, rfl, hOS2, _, hB3⟩; have HN2 := Lib.hid hOS2.ns; have HQ3 := Lib.hid (HQS.out.keep hB3); have HB3 := Lib.hid (HB2.out.trans (hB3.mono HB2.out.size)); clear hOS2 hB3)
            | (go_at_call 17; (with_reducible refine (HNN.out _ _ _ HN2.out HQ3.out).mono ?_); rintro e w4 ⟨rfl, hB4⟩; have HB4 := Lib.hid (HB3.out.trans (hB4.mono HB3.out.size)); clear hB4)
            | (go_at_call 9; (with_reducible refine (awake_any _).mono ?_); rintro e w5 ⟨rfl, hB5⟩; have HB5 := Lib.hid (HB4.out.trans (hB5.mono HB4.out.size)); clear hB5))
          go_ret
          exact ⟨rfl, HB5.out⟩

/-- a list of numbers that came in: what is more known of it -/
theorem open_nums2 {H : Type} {enc : TypeId × Value → H} {W : World} {d : DataW H} {p : List MemPlace} {q : Option Addr} {len cap : Nat}
    (h : DataW.Trod enc Try.prog W 0 (fun _ => true) true 23 (.slice q len cap) d p) : ∃ xs : List Int, len = xs.length ∧ NS W q .u32 xs ∧ len ≤ cap ∧ cap ≤ maxLen ∧ (q = none → cap = 0) ∧ ∀ x ∈ xs, (Lit.int .u32 x).wf = true := by
  obtain ⟨fuel, hf⟩ := h
  rcases open_ints Try.underlying23 Try.underlying38 Try.cells38 hf with ⟨hcs, _⟩ | ⟨a, len', cap', zs, hcs, _, hl, hm, hz, _, hcell, hw⟩
  · simp [Value.cells] at hcs
    obtain ⟨rfl, rfl, rfl⟩ := hcs
    exact ⟨[], rfl, .inl rfl, by omega, by simp [maxLen], fun _ => rfl, fun x hx => by cases hx⟩
  · simp [Value.cells] at hcs
    obtain ⟨rfl, rfl, rfl⟩ := hcs
    simp only [if_true] at hz
    refine ⟨zs.take len, by simp; omega, ?_, hl, hm, (fun h => by cases h), fun x hx => hw x (List.mem_of_mem_take hx)⟩
    by_cases h0 : len = 0
    · subst h0; exact .inl rfl
    · obtain ⟨b, off, spot⟩ := a
      have hc0 := hcell 0 (by omega)
      have hs : spot = none := by simpa [Addr.add] using World.cell?_spot hc0
      subst hs
      refine .inr ⟨b, off, rfl, fun j x e => ?_⟩
      rw [List.getElem?_take] at e
      split at e
      · have := hcell j (by omega)
        rw [addn] at this
        rw [this]
        simp [e]
      · cases e

set_option maxRecDepth 100000 in
theorem oncelaw_lifted (os : Os) (started : os.Started) (H : Type) (enc : TypeId × Value → H) :
    ReturnsInHanded {} Try.checked os 7 .any (Rows.sortOnceSpec.pre6 enc Try.prog Try.f7 Rows.sortOnceRow.domain false) (Rows.sortOnceSpec.post enc Try.prog Try.f7 false true false false) := by
  refine returnsInHanded_of_change (C := Try.checked) Try.own started (by kernel_rfl) Try.func7
    (ChangeSpec.witness6 (enc := enc) (C := Try.checked) false ⟨#[], #[.slice none 0 0], []⟩ 8 (by kernel_rfl) (by kernel_rfl) (by kernel_rfl) (by kernel_rfl)) ?_
  intro W base args ds gs before hval0 hW hcnd _
  have hval : ∀ (j : Nat) t v, Try.f7.params[j]? = some t → args[j]? = some v → Value.okWide Try.prog W .any base t v := hval0
  have hW' := hW
  obtain ⟨p, q, hA0, hV, rfl, hfz, hnd⟩ := hW
  have hA : DataW.TrodAll enc Try.prog W 0 (fun _ => true) true Try.f7.params.toList args.toList ds p := hA0
  rw [Try.params7] at hA hval
  obtain ⟨v0, vs0, d0, ds0, p0, q0, hargs, rfl, rfl, h0, r0⟩ := trodAll_cons hA
  obtain ⟨rfl, rfl, rfl⟩ := trodAll_nil r0
  obtain rfl : args = #[v0] := by cases args; simp_all
  obtain ⟨rfl, rfl⟩ := trodVars_none hV
  obtain ⟨a0, len0, cap0, rfl⟩ := okWide_slice Try.underlying23 (hval 0 23 v0 rfl rfl)
  obtain ⟨xs0, rfl, hx0, hl0, hm0, hp0, hw0⟩ := open_nums2 h0
  clear hA0 hval0
  simp only [List.append_nil] at hW'
  have hlt : ∀ x ∈ p0, x.block < W.heap.size := fun x hx => by simpa using hW'.lt x hx
  refine (once_walk _ _ _ W hx0 hl0 hp0 hw0).mono fun e W' ⟨he, hb⟩ => ?_
  subst he
  have hR := (trodAll_cons_mk (Below.trod Try.laidOut (by kernel_rfl) (of_decide_eq_true (by kernel_rfl)) h0 hb (fun x hx => hlt x (by simp [hx]))) trodAll_mk0)
  simp only [List.append_nil] at hR
  exact ⟨_, rfl, law_post hW' (trodAll_cons_mk (shut_bool Try.underlying4 _) trodAll_mk0) hR rfl hb⟩

theorem oncelaw_holds : Rows.SortOnceSaid :=
  OpenClaim.holds_of_wide 7 Try.f7 rfl rfl rfl rfl rfl rfl rfl ⟨rfl, rfl, rfl, rfl, rfl⟩ rfl rfl rfl rfl rfl (by kernel_rfl) Try.func7 (by kernel_rfl)
    (of_decide_eq_true (by kernel_rfl)) (by unfold Func.isWrapper; first | (rw [if_pos (by decide +kernel)]; kernel_rfl) | (rw [if_neg (by decide +kernel)]; exact ⟨rfl, rfl⟩))
    (fun os started H enc _ => oncelaw_lifted os started H enc)
end Go.Proofs.Ytomchimjogdkkaa
