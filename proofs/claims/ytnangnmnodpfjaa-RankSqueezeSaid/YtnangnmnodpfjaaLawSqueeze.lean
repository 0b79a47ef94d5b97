/-
  RankSqueeze: each number is there once, rising, and no other one; each stands at the place that is told of it; once more it stays. For every list of numbers; no condition.
-/
import Derived.Test.YtnangnmnodpfjaaOnceMath
import Derived.Test.YtnangnmnodpfjaaLift
import Derived.Maps.OwnSet
import Derived.Maps.OwnOps
namespace Go.Proofs.Ytnangnmnodpfjaa
open Go.ChangeShapes Go.WideShapes Go.ChangeAt Go.RowKit Go.Joins Go.Maps

/-- each number once, as they come -/
def dst (xs : List Int) : List Int := xs.foldl (fun acc x => if x ∈ acc then acc else acc ++ [x]) []
theorem dst_snoc (xs : List Int) (x : Int) : dst (xs ++ [x]) = if x ∈ dst xs then dst xs else dst xs ++ [x] := by
  unfold dst
  rw [List.foldl_append]
  rfl
theorem dst_spec (xs : List Int) : (dst xs).Nodup ∧ ∀ x, x ∈ dst xs ↔ x ∈ xs := by
  suffices h : ∀ n, n ≤ xs.length → (dst (xs.take n)).Nodup ∧ ∀ x, x ∈ dst (xs.take n) ↔ x ∈ xs.take n by
    have := h xs.length (Nat.le_refl _)
    rwa [List.take_length] at this
  intro n
  induction n with
  | zero => intro _; simp [dst]
  | succ n ih =>
    intro hn
    obtain ⟨h1, h2⟩ := ih (by omega)
    rw [List.take_succ_eq_append_getElem (by omega), dst_snoc]
    split
    · rename_i h3
      refine ⟨h1, fun x => ?_⟩
      rw [h2]
      simp only [List.mem_append, List.mem_singleton]
      constructor
      · exact .inl
      · rintro (h | h)
        · exact h
        · subst h; exact (h2 _).1 h3
    · rename_i h3
      refine ⟨?_, fun x => ?_⟩
      · rw [List.nodup_append]
        exact ⟨h1, by simp, fun a ha b hb => by simp at hb; subst hb; exact fun e => h3 (e ▸ ha)⟩
      · simp only [List.mem_append, List.mem_singleton, h2]
theorem dst_len (xs : List Int) : (dst xs).length = (onceL xs).length := by
  have h1 := dst_spec xs
  have h2 := once_spec xs
  refine List.Perm.length_eq ((List.perm_ext_iff_of_nodup h1.1 (h2.1.imp (fun h e => by omega))).2 (fun x => (h1.2 x).trans (h2.2 x).symm))

/-- of numbers that rise, each stands at the place that is told of it -/
theorem first_at (L : List Int) (hL : L.Pairwise (· < ·)) (x : Int) (hx : x ∈ L) : (firstP L x).1 < L.length ∧ L[(firstP L x).1]? = some x := by
  have hle : ∀ i j, i ≤ j → j < L.length → L.getD i 0 ≤ L.getD j 0 := by
    intro i j hij hj
    by_cases e : i = j
    · subst e; omega
    · have := List.pairwise_iff_getElem.1 hL i j (by omega) hj (by omega)
      have e1 := getD_num L i (by omega)
      have e2 := getD_num L j hj
      rw [List.getElem?_eq_getElem (by omega)] at e1
      rw [List.getElem?_eq_getElem hj] at e2
      injection e1 with e1
      injection e2 with e2
      omega
  obtain ⟨h1, h2⟩ := lk_parts (notLess L x) L.length (fun i j hij hj hi => by
    have := hle i j hij hj
    simp only [notLess, decide_eq_true_eq] at hi ⊢
    omega)
  have e : lk (notLess L x) L.length = firstP L x := rfl
  rw [e] at h1 h2
  obtain ⟨j, hj⟩ := List.mem_iff_getElem?.1 hx
  have hjl := (List.getElem?_eq_some_iff.1 hj).1
  have hjx : L.getD j 0 = x := by
    have := getD_num L j hjl
    rw [hj] at this
    injection this with this
    exact this.symm
  have hpj : (firstP L x).1 ≤ j := by
    by_cases h : (firstP L x).1 ≤ j
    · exact h
    · have := h1 j (by omega)
      simp only [notLess, decide_eq_false_iff_not] at this
      omega
  have hpl : (firstP L x).1 < L.length := by omega
  refine ⟨hpl, ?_⟩
  have h3 := h2 _ (Nat.le_refl _) hpl
  have h4 := hle _ j hpj hjl
  rw [getD_num L _ hpl]
  congr 1
  simp only [notLess, decide_eq_true_eq] at h3
  omega

/-- the map holds these numbers, each once -/
structure MD (D : DataW Unit) (xs : List Int) : Prop where
  siz : Maps.size D = (dst xs).length
  has : ∀ x, Maps.has D (.int .i64 x) = decide (x ∈ xs)
  tidy : Tidy D
theorem MD.start : MD (.map []) [] := ⟨rfl, fun x => by rw [has_eq]; rfl, tidy_empty⟩
theorem MD.step {D : DataW Unit} {xs : List Int} (h : MD D xs) (x c : Int) : MD (D.put (.int .i64 x) (.lit (.int .i64 c))) (xs ++ [x]) := by
  have hk : WideAt.IsKeyLit (.int .i64 x) := by trivial
  have ne : ∀ y, ¬ y = x → (Lit.int .i64 y) ≠ .int .i64 x := fun y hy e => hy (by injection e)
  refine ⟨?_, fun y => ?_, h.tidy.put hk _⟩
  · rw [size_put h.tidy, h.has, h.siz, dst_snoc]
    have := (dst_spec xs).2 x
    by_cases e : x ∈ xs
    · simp [e, this.2 e]
    · have e2 : ¬ x ∈ dst xs := fun h => e (this.1 h)
      simp [e, e2]
  · by_cases e : y = x
    · subst e
      rw [has_put_same h.tidy.isMap hk]
      simp
    · rw [has_put_other (ne y e), h.has]
      simp [e]
theorem klaw : Keyed Try.prog 2 := int_keyed Try.underlying2
theorem ownsMap_keep {H : Type} {P : Program} {k : TypeId} {R : Value → Option (DataW H × List MemPlace)} {w w' : World} {b n : Nat} {D : DataW H} (h : w.ownsMap P k R b n D) (hb : Below w.heap.size w w') : w'.ownsMap P k R b n D := by
  have hl := h.lt
  obtain ⟨es, clock, h1, h2⟩ := h
  exact ⟨es, clock, (hb.block b hl).trans h1, h2⟩

set_option maxRecDepth 100000 in
set_option maxHeartbeats 6400000 in
theorem squeeze_walk (p : Option Addr) (cap : Nat) (xs : List Int) (w : World) (hx : NS w p .i64 xs) (hp : p = none → cap = 0) (hwf : ∀ x ∈ xs, (Lit.int .i64 x).wf = true) :
    Calls Try.prog 6 #[.slice p xs.length cap] w fun e w' => e = .returned (.bool true) ∧ Below w.heap.size w w' := by
  by_cases hbig : 2000 < xs.length
  · have hbz : (2000 : Int) < xs.length := by omega
    clear hx
    go_enter Try.func6, Try.ntmps6
    go_wp2_with (go_at_call 9; (with_reducible refine (awake_any _).mono ?_); rintro e w1 ⟨rfl, hb⟩)
    go_ret
    exact ⟨rfl, hb⟩
  have C1 := Lib.hid (Squeeze_any w p cap xs hx (by omega) hp)
  have hcell : ∀ k x, xs[k]? = some x → ∃ b off, p = some ⟨b, off, none⟩ ∧ w.cell? ⟨b, off + k, none⟩ = some (.int .i64 x) := by
    intro k x e
    rcases hx with rfl | ⟨b, off, h1, h2⟩
    · simp at e
    · exact ⟨b, off, h1, h2 k x e⟩
  have HX := Lib.hid hcell
  have HWF := Lib.hid hwf
  have HFA := Lib.hid (fun x (h : x ∈ xs) => first_at (onceL xs) (once_spec xs).1 x (((once_spec xs).2 x).2 h))
  have HCF := Lib.hid (fun X q c x (hX : NS X q .i64 (onceL xs)) => First_any X q c (onceL xs) x hX (by have := onceL_len xs; omega))
  obtain ⟨n, hn⟩ : ∃ n, n = xs.length := ⟨_, rfl⟩
  obtain ⟨m, hm⟩ : ∃ m, m = (onceL xs).length := ⟨_, rfl⟩
  have hmn : m ≤ n := by rw [hm, hn]; exact onceL_len xs
  have HN := Lib.hid hn
  have HM := Lib.hid hm
  rw [← hn] at hbig C1
  rw [← hn]
  rw [← hm] at C1 HFA HCF
  have hbz : ¬ (2000 : Int) < n := by omega
  clear hcell hwf hx hn hm hp
  have hmm := @run_makeMap Try.prog
  go_enter Try.func6, Try.ntmps6
  go_wp2_with (go_at_call 16; (with_reducible refine C1.out.mono ?_); rintro e w1 ⟨q, c', rfl, hOS, hq0, hB1⟩; have HOS := Lib.hid hOS; have HQ0 := Lib.hid hq0; have HB1 := Lib.hid hB1; clear hOS hq0 hB1)
  go_loopw [19] (fun i wr => ∃ k : Nat, k ≤ n ∧ i = .int .i64 k ∧ Hid (∃ D : DataW Unit, wr.ownsMap Try.prog 2 (plainElem Try.prog 3) w1.heap.size k D ∧ MD D (xs.take k)) ∧ Hid (Below w1.heap.size w1 wr)) (fun i _ => n - (intOf i).toNat)
  case atStart => exact ⟨0, Nat.zero_le _, rfl, Lib.hid ⟨_, World.ownsMap_made _ _ _ _, MD.start⟩, Lib.hid ((Below.refl _ _).alloc (Nat.le_refl _) _)⟩
  case round =>
    clear hmm C1
    obtain ⟨k, hk, rfl, HD, HB⟩ := hrel
    by_cases hlt : k < n
    · have hltz : (k : Int) < n := by omega
      obtain ⟨x, hxe⟩ : ∃ x, xs[k]? = some x := ⟨_, List.getElem?_eq_getElem (by have := HN.out; omega)⟩
      obtain ⟨b, off, rfl, hc⟩ := HX.out k x hxe
      obtain ⟨D, hown, hMD⟩ := HD.out
      have hb := World.block_lt_of_cell? w _ hc
      have hcx : wr.cell? ⟨b, off + k, none⟩ = some (.int .i64 x) := (HB.out.cell (Nat.lt_of_lt_of_le hb HB1.out.size)).trans ((HB1.out.cell hb).trans hc)
      have hxm := List.mem_of_getElem? hxe
      have hkey : keyOf Try.prog 2 (.int .i64 x) = some (.int .i64 x) := keyOf_int_mk Try.underlying2 (HWF.out x hxm)
      have hst := hMD.step x 1
      rw [← show xs.take (k + 1) = xs.take k ++ [x] by rw [List.take_add_one, hxe]; rfl] at hst
      have HST := Lib.hid hst
      obtain ⟨hf1, hf2⟩ := HFA.out x hxm
      obtain ⟨g, rfl, hH⟩ : ∃ g, q = some ⟨g, 0, none⟩ ∧ Sort.Holds encU w1 g 0 (onceL xs).toArray := by
        rcases HOS.out with ⟨_, h0⟩ | ⟨g, h1, _, h2⟩
        · rw [h0] at hf2; simp at hf2
        · exact ⟨g, h1, h2⟩
      have hcg : w1.cell? ⟨g, (firstP (onceL xs) x).1, none⟩ = some (.int .i64 x) := by
        obtain ⟨h1, h2⟩ := List.getElem?_eq_some_iff.1 hf2
        have h3 := (hH _ (by simpa using h1)).1
        rw [Nat.zero_add] at h3
        rw [h3]
        simp [getElem!_pos, h1, h2]
      have CF := fun X (hX : NS X (some ⟨g, 0, none⟩) .i64 (onceL xs)) => HCF.out X (some ⟨g, 0, none⟩) c' x hX
      unfold two at CF
      obtain ⟨kx, hkx⟩ : ∃ kx, kx = (firstP (onceL xs) x).1 := ⟨_, rfl⟩
      obtain ⟨lx, hlx⟩ : ∃ lx, lx = (firstP (onceL xs) x).2 := ⟨_, rfl⟩
      rw [← hkx] at hcg hf1
      simp only [← hkx, ← hlx] at CF
      have CFH := Lib.hid CF
      have HCG := Lib.hid hcg
      have hf1z : ¬ (m : Int) ≤ kx := by omega
      have hf1y : (kx : Int) < m := by omega
      clear hMD hb hc hxe hf2 hH hcg CF hkx hlx hst
      go_wp2_with (first
        | (at_mapUpdate; refine wpList_mapUpdate_own _ rfl _ _ _ 33 rfl 2 3 klaw Try.underlying33 _ w1.heap.size k _ rfl hown (by unfold maxLen; omega) _ _ _ rfl rfl hkey _ [] (plainElem_int Try.underlying3 (WalkArith.wf_i64 (by omega))) ?_; intro w2 hown1 hgrow1; have HOW := Lib.hid hown1; have HB2 := Lib.hid (HB.out.grown hgrow1 HB.out.size (fun j hj => by cases hj; exact Nat.le_refl _)); clear hown1 hgrow1)
        | (go_at_call 11; (with_reducible refine (CFH.out w2 (HOS.out.ns.keep HB2.out)).mono ?_); rintro e w3 ⟨rfl, hb3⟩; have HOW3 := Lib.hid (ownsMap_keep HOW.out hb3); have HB3 := Lib.hid (HB2.out.trans (hb3.mono HB2.out.size)); have hc3 := (HB3.out.cell (World.block_lt_of_cell? w1 _ HCG.out)).trans HCG.out; clear hb3)
        | go_in)
      go_roundw
      case rel => exact ⟨k + 1, by omega, by go_num, Lib.hid ⟨_, HOW3.out, HST.out⟩, HB3⟩
      case measure => simp [intOf]; omega
    · have hltz : ¬ (k : Int) < n := by omega
      have HPW := Lib.hid (once_spec xs).1
      have hD : ∃ D : DataW Unit, wr.ownsMap Try.prog 2 (plainElem Try.prog 3) w1.heap.size k D ∧ Maps.size D = m := by
        obtain ⟨D, hown, hMD⟩ := HD.out
        rw [List.take_of_length_le (by have := HN.out; omega)] at hMD
        exact ⟨D, hown, by rw [hMD.siz, dst_len]; exact HM.out.symm⟩
      have HD2 := Lib.hid hD
      have hm2 : m ≤ 2000 := by omega
      clear hD HD
      go_wp2_with fail
      go_loopw [9] (fun i wr2 => ∃ j : Nat, 1 ≤ j ∧ (j ≤ m ∨ j = 1) ∧ i = .int .i64 j ∧ Hid (∃ D : DataW Unit, wr2.ownsMap Try.prog 2 (plainElem Try.prog 3) w1.heap.size k D ∧ Maps.size D = m) ∧ Hid (Below w1.heap.size w1 wr2)) (fun i _ => m - (intOf i).toNat)
      case atStart => exact ⟨1, Nat.le_refl _, .inr rfl, rfl, HD2, HB⟩
      case round =>
        clear HD2 HB
        obtain ⟨j, hj1, hjm, rfl, HD, HB⟩ := hrel
        by_cases hlt2 : j < m
        · have hlt2z : (j : Int) < m := by omega
          obtain ⟨y, hye⟩ : ∃ y, (onceL xs)[j]? = some y := ⟨_, List.getElem?_eq_getElem (by have := HM.out; omega)⟩
          obtain ⟨z, hze⟩ : ∃ z, (onceL xs)[j - 1]? = some z := ⟨_, List.getElem?_eq_getElem (by have := HM.out; omega)⟩
          obtain ⟨g, rfl, hH⟩ : ∃ g, q = some ⟨g, 0, none⟩ ∧ Sort.Holds encU w1 g 0 (onceL xs).toArray := by
            rcases HOS.out with ⟨_, h0⟩ | ⟨g, h1, _, h2⟩
            · rw [h0] at hye; simp at hye
            · exact ⟨g, h1, h2⟩
          have cell : ∀ i z, (onceL xs)[i]? = some z → wr.cell? ⟨g, i, none⟩ = some (.int .i64 z) := by
            intro i z e
            obtain ⟨h1, h2⟩ := List.getElem?_eq_some_iff.1 e
            have h3 := (hH i (by simpa using h1)).1
            rw [Nat.zero_add] at h3
            refine (HB.out.cell (World.block_lt_of_cell? w1 _ h3)).trans ?_
            rw [h3]
            simp [getElem!_pos, h1, h2]
          have hcy := cell j y hye
          have hcz := cell (j - 1) z hze
          have hzy : z < y := by
            obtain ⟨h1, h2⟩ := List.getElem?_eq_some_iff.1 hze
            obtain ⟨h3, h4⟩ := List.getElem?_eq_some_iff.1 hye
            rw [← h2, ← h4]
            exact List.pairwise_iff_getElem.1 HPW.out (j - 1) j h1 h3 (by omega)
          have hzy2 : ¬ y ≤ z := by omega
          have hsub : ((j : Nat) : Int) - 1 = ((j - 1 : Nat) : Int) := by omega
          have hj1m : j - 1 < m := by omega
          have c1 : ∀ s : Wd (Bw wr), s.w.cell? ⟨g, j, none⟩ = some (.int .i64 y) := fun s => Bw.cell s hcy
          have c2 : ∀ s : Wd (Bw wr), s.w.cell? ⟨g, j - 1, none⟩ = some (.int .i64 z) := fun s => Bw.cell s hcz
          have inst : Nonempty (Wd (Bw wr)) := ⟨⟨wr, Below.refl _ _⟩⟩
          clear hye hze hH cell hcy hcz
          go_upto_region 16 with fail
          refine wp_region_wd (Bw wr) (by kernel_rfl) (by kernel_rfl) ((Below.refl _ wr).drew) ?_
          repeat (first | go_big_quiet_step (fail) | quiet_step (fail))
          refine wpQuiet_nil ?_
          rintro _ ⟨s, rfl⟩
          have HDs : Hid (∃ D : DataW Unit, s.w.ownsMap Try.prog 2 (plainElem Try.prog 3) w1.heap.size k D ∧ Maps.size D = m) := Lib.hid (by
            obtain ⟨D, h1, h2⟩ := HD.out
            exact ⟨D, ownsMap_keep h1 s.h, h2⟩)
          have HBs := Lib.hid (HB.out.trans (s.h.mono HB.out.size))
          clear c1 c2
          go_wp2
          go_roundw
          case rel => exact ⟨j + 1, by omega, .inl (by omega), by go_num, HDs, HBs⟩
          case measure => simp [intOf]; omega
        · have hlt2z : ¬ (j : Int) < m := by omega
          obtain ⟨D, hown, hsz⟩ := HD.out
          have HSZ := Lib.hid hsz
          have C2 := fun X (hX : NS X q .i64 (onceL xs)) => Squeeze_any X q c' (onceL xs) hX (by have := HM.out; omega) HQ0.out
          simp only [onceL_again, ← HM.out] at C2
          have hN : ∀ X q2 c2, NS X q2 .i64 (onceL xs) → NS X q .i64 (onceL xs) → Calls Try.prog 15 #[.slice q2 m c2, .slice q m c'] X fun e w' => e = .returned (.bool true) ∧ Below X.heap.size X w' := by
            intro X q2 c2 h1 h2
            have := longs_any X q2 q c2 c' (onceL xs) (onceL xs) h1 h2 (by have := HM.out; omega)
            rw [← HM.out] at this
            simpa using this
          have HQS := Lib.hid ((HOS.out.ns).keep HB.out)
          have HC2 := Lib.hid (C2 wr HQS.out)
          have HNN := Lib.hid hN
          have HB2 := Lib.hid (HB1.out.trans (HB.out.mono HB1.out.size))
          clear C2 hN HD hsz
          go_wp2_with (first
            | (at_len; refine wpList_len_own _ rfl _ 33 rfl 2 3 Try.underlying33 _ w1.heap.size k D rfl hown ?_; rw [HSZ.out])
            | (go_at_call 16; (with_reducible refine HC2.out.mono ?_); rintro e w3 ⟨q2, c2, rfl, hOS2, _, hB3⟩; have HN2 := Lib.hid hOS2.ns; have HQ3 := Lib.hid (HQS.out.keep hB3); have HB3 := Lib.hid (HB2.out.trans (hB3.mono HB2.out.size)); clear hOS2 hB3)
            | (go_at_call 15; (with_reducible refine (HNN.out _ _ _ HN2.out HQ3.out).mono ?_); rintro e w4 ⟨rfl, hB4⟩; have HB4 := Lib.hid (HB3.out.trans (hB4.mono HB3.out.size)); clear hB4)
            | (go_at_call 9; (with_reducible refine (awake_any _).mono ?_); rintro e w5 ⟨rfl, hB5⟩; have HB5 := Lib.hid (HB4.out.trans (hB5.mono HB4.out.size)); clear hB5))
          go_ret
          exact ⟨rfl, HB5.out⟩

set_option maxRecDepth 100000 in
theorem squeeze_lifted (os : Os) (started : os.Started) (H : Type) (enc : TypeId × Value → H) :
    ReturnsInHanded {} Try.checked os 6 .any (Rows.rankSqueezeSpec.pre6 enc Try.prog Try.f6 Rows.rankSqueezeRow.domain false) (Rows.rankSqueezeSpec.post enc Try.prog Try.f6 false true false false) := by
  refine returnsInHanded_of_change (C := Try.checked) Try.own started (by kernel_rfl) Try.func6
    (ChangeSpec.witness6 (enc := enc) (C := Try.checked) false ⟨#[], #[.slice none 0 0], []⟩ 8 (by kernel_rfl) (by kernel_rfl) (by kernel_rfl) (by kernel_rfl)) ?_
  intro W base args ds gs before hval0 hW hcnd _
  have hval : ∀ (j : Nat) t v, Try.f6.params[j]? = some t → args[j]? = some v → Value.okWide Try.prog W .any base t v := hval0
  have hW' := hW
  obtain ⟨p, q, hA0, hV, rfl, hfz, hnd⟩ := hW
  have hA : DataW.TrodAll enc Try.prog W 0 (fun _ => true) true Try.f6.params.toList args.toList ds p := hA0
  rw [Try.params6] at hA hval
  obtain ⟨v0, vs0, d0, ds0, p0, q0, hargs, rfl, rfl, h0, r0⟩ := trodAll_cons hA
  obtain ⟨rfl, rfl, rfl⟩ := trodAll_nil r0
  obtain rfl : args = #[v0] := by cases args; simp_all
  obtain ⟨rfl, rfl⟩ := trodVars_none hV
  obtain ⟨a0, len0, cap0, rfl⟩ := okWide_slice Try.underlying22 (hval 0 22 v0 rfl rfl)
  obtain ⟨xs0, rfl, hx0, hl0, hm0, hp0, hw0⟩ := open_nums2 h0
  clear hA0 hval0
  simp only [List.append_nil] at hW'
  have hlt : ∀ x ∈ p0, x.block < W.heap.size := fun x hx => by simpa using hW'.lt x (by simpa using hx)
  refine (squeeze_walk _ _ _ W hx0 hp0 hw0).mono fun e W' ⟨he, hb⟩ => ?_
  subst he
  have hR : DataW.TrodAll enc Try.prog W' 0 (fun b => decide (b < W.heap.size)) true _ _ _ _ := (trodAll_cons_mk (Below.trod Try.laidOut (by kernel_rfl) (of_decide_eq_true (by kernel_rfl)) h0 hb (fun x hx => hlt x (by simp [hx]))) trodAll_mk0)
  simp only [List.append_nil] at hR
  exact ⟨_, rfl, law_post hW' (trodAll_cons_mk (shut_bool Try.underlying4 _) trodAll_mk0) hR rfl hb⟩

theorem squeeze_holds : Rows.RankSqueezeSaid :=
  OpenClaim.holds_of_wide 6 Try.f6 rfl rfl rfl rfl rfl rfl rfl ⟨rfl, rfl, rfl, rfl, rfl⟩ rfl rfl rfl rfl rfl (by kernel_rfl) Try.func6 (by kernel_rfl)
    (of_decide_eq_true (by kernel_rfl)) (by unfold Func.isWrapper; first | (rw [if_pos (by decide +kernel)]; kernel_rfl) | (rw [if_neg (by decide +kernel)]; exact ⟨rfl, rfl⟩))
    (fun os started H enc _ => squeeze_lifted os started H enc)
end Go.Proofs.Ytnangnmnodpfjaa
