/-
  SegTwo: of two lists without a common name a number stabs together just those that it stabs in the one, and in the other; over any tree of spans.
-/
import Derived.Test.YtgcimicbbadapaaLawE8
import Derived.Maps.OwnSet
import Derived.Maps.OwnOps
namespace Go.Proofs.Ytgcimicbbadapaa
open Go.ChangeShapes Go.WideShapes Go.ChangeAt Go.RowKit Go.Joins Go.Maps

/-- the map tells 1 of each of these numbers, and no more -/
structure MU (D : DataW Unit) (xs : List Int) : Prop where
  cnt : ∀ x, D.atKey (.int .u32 x) (.lit (.int .i64 0)) = .lit (.int .i64 (if x ∈ xs then 1 else 0))
  siz : Maps.size D = xs.length
  has : ∀ x, Maps.has D (.int .u32 x) = decide (x ∈ xs)
  tidy : Tidy D
theorem MU.start : MU (.map []) [] := ⟨fun x => rfl, rfl, fun x => by rw [has_eq]; rfl, tidy_empty⟩
theorem MU.step {D : DataW Unit} {xs : List Int} (h : MU D xs) (x : Int) (hx : x ∉ xs) : MU (D.put (.int .u32 x) (.lit (.int .i64 1))) (xs ++ [x]) := by
  have hk : WideAt.IsKeyLit (.int .u32 x) := by trivial
  have ne : ∀ y, ¬ y = x → (Lit.int .u32 y) ≠ .int .u32 x := fun y hy e => hy (by injection e)
  refine ⟨fun y => ?_, ?_, fun y => ?_, h.tidy.put hk _⟩
  · by_cases e : y = x
    · subst e
      rw [atKey_put_same h.tidy.isMap hk]
      simp
    · rw [atKey_put_other (ne y e), h.cnt]
      simp [e]
  · rw [size_put h.tidy, h.has, h.siz]
    simp [hx]
  · by_cases e : y = x
    · subst e
      rw [has_put_same h.tidy.isMap hk]
      simp
    · rw [has_put_other (ne y e), h.has]
      simp [e]
theorem klaw : Keyed Try.prog 32 := int_keyed Try.underlying32
theorem zeroI (w : World) : (zeroValue 3).run Try.prog w = .ok (.int .i64 0) w := by kernel_rfl
theorem ownsMap_keep {H : Type} {P : Program} {k : TypeId} {R : Value → Option (DataW H × List MemPlace)} {w w' : World} {b n : Nat} {D : DataW H} (h : w.ownsMap P k R b n D) (hb : Below w.heap.size w w') : w'.ownsMap P k R b n D := by
  have hl := h.lt
  obtain ⟨es, clock, h1, h2⟩ := h
  exact ⟨es, clock, (hb.block b hl).trans h1, h2⟩
theorem NS.grown8 {k : IntKind} {w w' : World} {p : Option Addr} {xs : List Int} {o : Option Nat} (h : NS w p k xs) (g : w.grownBy w' o) (ho : ∀ b off, p = some ⟨b, off, none⟩ → xs ≠ [] → some b ≠ o) : NS w' p k xs := by
  by_cases h0 : xs = []
  · exact .inl h0
  rcases h with h | ⟨b, off, rfl, h⟩
  · exact .inl h
  · refine .inr ⟨b, off, rfl, fun j x e => ?_⟩
    have hc := h j x e
    exact (World.cell?_of_block (g.block b (World.block_lt_of_cell? w _ hc) (ho b off rfl h0))).trans hc
/-- a list of spans cut at its beginning -/
theorem slS_from (p : Option Addr) (n c l : Nat) (L : List S3) (w : World) (h : TsS w p L) (hn : n = L.length) (hl : l ≤ n) (hc : n ≤ c) : ∃ p', (∀ X, (Instr.slice 22 (.slice p n c) (some (.int .i64 l)) none none).run Try.prog X = .ok (.slice p' (n - l) (c - l)) X) ∧ TsS w p' (L.drop l) := by
  obtain ⟨i0, hi, hz0, hz1, hz2⟩ := info_parts Try.info34
  rcases h with rfl | ⟨b, off, rfl, h⟩
  · obtain rfl : n = 0 := hn
    obtain rfl : l = 0 := by omega
    cases p with
    | none => exact ⟨none, fun X => by simp [Instr.slice, run_underlying Try.underlying22, Instr.sliceBounds, Instr.sliceBound, asIntOf, sizeOf, typeInfo, hi], .inl rfl⟩
    | some a =>
      by_cases h0 : c = 0
      · subst h0
        exact ⟨some a, fun X => by simp [Instr.slice, run_underlying Try.underlying22, Instr.sliceBounds, Instr.sliceBound, asIntOf, sizeOf, typeInfo, hi], .inl rfl⟩
      · refine ⟨some a, fun X => ?_, .inl rfl⟩
        simp [Instr.slice, run_underlying Try.underlying22, Instr.sliceBounds, Instr.sliceBound, asIntOf, sizeOf, typeInfo, hi, Addr.add_zero']
  · by_cases h3 : c = l
    · refine ⟨some ⟨b, off, none⟩, fun X => ?_, .inl (by rw [List.drop_eq_nil_iff]; omega)⟩
      subst h3
      simp [Instr.slice, run_underlying Try.underlying22, Instr.sliceBounds, Instr.sliceBound, asIntOf, sizeOf, typeInfo, hi, hl, hc]
    · refine ⟨some ⟨b, off + l * 3, none⟩, fun X => ?_, .inr ⟨b, off + l * 3, rfl, fun j s e => ?_⟩⟩
      · simp [Instr.slice, run_underlying Try.underlying22, Instr.sliceBounds, Instr.sliceBound, asIntOf, sizeOf, typeInfo, hi, hz1, hl, h3, Addr.add_lit]
      · rw [List.getElem?_drop] at e
        have := h (l + j) s e
        rwa [Nat.add_mul, ← Nat.add_assoc] at this
/-- what both parts have, together -/
theorem two_perm (L : List S3) (k : Nat) (x : Int) : (stb L x).Perm (stb (L.take k) x ++ stb (L.drop k) x) := by
  have h : stbL L x = stbL (L.take k) x ++ stbL (L.drop k) x := by
    unfold stbL
    rw [← List.map_append, ← List.filter_append, List.take_append_drop]
  unfold stb
  rw [h]
  exact (nsort_perm _).trans ((nsort_perm _).symm.append (nsort_perm _).symm)
theorem stb_wf {L : List S3} (hw : ∀ s ∈ L, Wf3 s) {x n : Int} (h : n ∈ stb L x) : (Lit.int .u32 n).wf = true := by
  obtain ⟨s, hs, -, -, rfl⟩ := mem_stb.1 h
  exact (hw s hs).2.2

theorem u8_range {a : Int} (h : (Lit.int .u8 a).wf = true) : 0 ≤ a ∧ a ≤ 255 := by
  have h2 : (decide (IntKind.u8.min ≤ a) && decide (a ≤ IntKind.u8.max)) = true := h
  rw [Bool.and_eq_true, decide_eq_true_eq, decide_eq_true_eq] at h2
  exact h2

set_option maxRecDepth 100000 in
set_option maxHeartbeats 12800000 in
theorem two_walk {TS : World → Value → Nat → List Nat → List S3 → Prop} (C : SegC TS) (w : World) (p q : Option Addr) (c d : Nat) (L : List S3) (cut : Int) (xs : List Int) (hx : TsS w p L) (hc : L.length ≤ c) (hw : ∀ s ∈ L, Wf3 s) (hcut : 0 ≤ cut ∧ cut ≤ 255) (hxs : NS w q .i64 xs) (hd : xs.length ≤ d) (hwx : ∀ x ∈ xs, (Lit.int .i64 x).wf = true) :
    Calls Try.prog 7 #[.slice p L.length c, .int .u8 cut, .slice q xs.length d] w fun e w' => e = .returned (.bool true) ∧ Below w.heap.size w w' := by
  have HAW := Lib.hid (awake_any C)
  by_cases hbig : L.length ≤ 80
  · have hbz : ¬ (80 : Int) < L.length := by omega
    obtain ⟨k, hk⟩ : ∃ k, k = cut.toNat % (L.length + 1) := ⟨_, rfl⟩
    have hkl : k ≤ L.length := by have := Nat.mod_lt cut.toNat (show 0 < L.length + 1 by omega); omega
    have hrem : Int.tmod cut ((L.length : Int) + 1) = (k : Int) := by
      rw [Int.tmod_eq_emod_of_nonneg hcut.1, hk, Int.natCast_emod, Int.toNat_of_nonneg hcut.1, Int.natCast_add]
      rfl
    have hnz : ¬ (L.length : Int) + 1 = 0 := by omega
    have hkt : (L.take k).length = k := by rw [List.length_take]; omega
    obtain ⟨p2, hs2, hn2⟩ := slS_from p L.length c k L w hx rfl hkl hc
    have hs1 := fun X => slS_to X p L.length c k (by omega)
    obtain ⟨l2, hl2⟩ : ∃ l2, l2 = L.length - k := ⟨_, rfl⟩
    have hdt : (L.drop k).length = l2 := by rw [List.length_drop, hl2]
    rw [← hl2] at hs2
    have HBU := Lib.hid (C.build w p c L hx (by omega) hc hw)
    have HBT := Lib.hid (fun X (hX : Below w.heap.size w X) => by
      have := C.build X p c (L.take k) ((show TsS w p (L.take k) from hx.take k).keep hX) (by omega) (by omega) (fun s hs => hw s (List.mem_of_mem_take hs))
      rwa [hkt] at this)
    have HBV := Lib.hid (fun X (hX : Below w.heap.size w X) => by
      have := C.build X p2 (c - k) (L.drop k) (hn2.keep hX) (by omega) (by omega) (fun s hs => hw s (List.mem_of_mem_drop hs))
      rwa [hdt] at this)
    have HXS := Lib.hid hxs
    have HWX := Lib.hid hwx
    have HWN := Lib.hid (fun x n (h : n ∈ stb L x) => stb_wf hw h)
    have HS8 := Lib.hid (show ∀ z, (stb L z).length ≤ 80 from fun z => Nat.le_trans (stb_len L z) hbig)
    have HKT := Lib.hid (show k ≤ 80 ∧ l2 ≤ 80 by omega)
    obtain ⟨h20, hh20⟩ : ∃ h, h = min xs.length 20 := ⟨_, rfl⟩
    have HMIN := Lib.hid (fun X ty => min20 X ty xs.length (h20 : Int) (by rw [hh20]))
    have HSL := Lib.hid (fun X => slL_to X q xs.length d h20 (by omega))
    have HH := Lib.hid (show h20 ≤ xs.length by omega)
    have hh8 : h20 ≤ 20 := by omega
    obtain ⟨xl, hxl⟩ : ∃ l, l = xs.length := ⟨_, rfl⟩
    have HXL := Lib.hid hxl
    rw [← hxl] at HMIN HSL HH ⊢
    obtain ⟨m, hm⟩ : ∃ m, m = L.length := ⟨_, rfl⟩
    rw [← hm] at HBU hbz hbig hrem hnz hs1 hs2 ⊢
    obtain ⟨hc0, hc1⟩ := hcut
    clear hx hc hw hxs hd hwx hh20 hxl hk hkl hkt hn2 hl2 hdt hm
    by_cases hrg : Rg L
    · have hmin := HMIN.out
      have hsl := HSL.out
      have HRT := Lib.hid (show Rg (L.take k) from Rg.sub (List.take_sublist _ _) hrg)
      have HRD := Lib.hid (show Rg (L.drop k) from Rg.sub (List.drop_sublist _ _) hrg)
      go_enter Try.func7, Try.ntmps7
      go_upto_region 12 with (first
        | (go_at_call 11; (with_reducible refine HBU.out.mono ?_); rintro e w1 ⟨hb, hor⟩; rcases hor with ⟨-, v1, S1, rfl, hT, -⟩ | ⟨hn', -⟩; rotate_left; (exact absurd hrg hn'); have HT1 := Lib.hid hT; have HB := Lib.hid hb; clear hb hT)
        | (go_at_call 11; (with_reducible refine (HBT.out _ HB.out).mono ?_); rintro e w2 ⟨hb, hor⟩; rcases hor with ⟨-, v2, S2, rfl, hT, -⟩ | ⟨hn', -⟩; rotate_left; (exact absurd HRT.out hn'); have HT2 := Lib.hid hT; have HT1 := Lib.hid (C.bel HT1.out hb); have HB := Lib.hid (HB.out.trans (hb.mono HB.out.size)); clear hb hT)
        | (go_at_call 11; (with_reducible refine (HBV.out _ HB.out).mono ?_); rintro e w3 ⟨hb, hor⟩; rcases hor with ⟨-, v3, S3', rfl, hT, -⟩ | ⟨hn', -⟩; rotate_left; (exact absurd HRD.out hn'); have HT3 := Lib.hid hT; have HT2 := Lib.hid (C.bel HT2.out hb); have HT1 := Lib.hid (C.bel HT1.out hb); have HB := Lib.hid (HB.out.trans (hb.mono HB.out.size)); clear hb hT))
      have HXS2 := Lib.hid (HXS.out.keep HB.out)
      obtain ⟨m1, hm1⟩ : ∃ n, n = L.length := ⟨_, rfl⟩
      obtain ⟨m2, hm2⟩ : ∃ n, n = (L.take k).length := ⟨_, rfl⟩
      obtain ⟨m3, hm3⟩ : ∃ n, n = (L.drop k).length := ⟨_, rfl⟩
      rw [← hm1] at HT1
      rw [← hm2] at HT2
      rw [← hm3] at HT3
      have HRG := Lib.hid hrg
      clear hmin hsl HMIN HSL HBU HBT HBV HXS hs1 hs2 hm1 hm2 hm3 HRT HRD hrg hrem hnz hc0 hc1
      go_loopw [71] (fun v71 wy => ∃ kk : Nat, kk ≤ h20 ∧ v71 = .int .i64 kk ∧ Hid (TS wy v1 m1 S1 L) ∧ Hid (TS wy v2 m2 S2 (L.take k)) ∧ Hid (TS wy v3 m3 S3' (L.drop k)) ∧ Hid (NS wy q .i64 xs) ∧ Hid (Below w.heap.size w wy)) (fun i _ => h20 - (intOf i).toNat)
      case atStart => exact ⟨0, Nat.zero_le _, rfl, HT1, HT2, HT3, HXS2, HB⟩
      case round =>
        clear HT1 HT2 HT3 HXS2 HB
        obtain ⟨kk, hkk, rfl, HT1, HT2, HT3, HXS, HB⟩ := hrel
        by_cases hlt : kk < h20
        · have hltz : (kk : Int) < h20 := by omega
          obtain ⟨y, hye⟩ : ∃ y, xs[kk]? = some y := ⟨_, List.getElem?_eq_getElem (by have := HH.out; have := HXL.out; omega)⟩
          rcases HXS.out with h0 | ⟨b, off, rfl, h1⟩
          · rw [h0] at hye; simp at hye
          · have cy := h1 kk y hye
            have hwy := HWX.out y (List.mem_of_getElem? hye)
            have HS1 := Lib.hid (C.stab y HT1.out hwy)
            have HS2 := Lib.hid (fun X (h : TS X v2 m2 S2 (L.take k)) => C.stab y h hwy)
            have HS3 := Lib.hid (fun X (h : TS X v3 m3 S3' (L.drop k)) => C.stab y h hwy)
            have hy8 := HS8.out y
            have hperm := two_perm L k y
            have hrise := stb_rise HRG.out y
            have HYW := Lib.hid (fun n h => HWN.out y n h)
            clear h1 hye hwy
            generalize stb L y = Y at *
            generalize stb (L.take k) y = B at *
            generalize stb (L.drop k) y = E at *
            obtain ⟨yl, hyl⟩ : ∃ l, l = Y.length := ⟨_, rfl⟩
            obtain ⟨bl, hbl⟩ : ∃ l, l = B.length := ⟨_, rfl⟩
            obtain ⟨el, hel⟩ : ∃ l, l = E.length := ⟨_, rfl⟩
            have hlen : yl = bl + el := by rw [hyl, hbl, hel, hperm.length_eq, List.length_append]
            have HYN := Lib.hid (show (B ++ E).Nodup from hperm.nodup_iff.1 (hrise.imp (fun h => by omega)))
            have HMEM := Lib.hid (fun n => hperm.mem_iff (a := n))
            have HRI := Lib.hid hrise
            have HYL := Lib.hid hyl
            have HBLL := Lib.hid hbl
            have HELL := Lib.hid hel
            rw [← hyl] at hy8
            rw [← hyl] at HS1
            rw [← hbl] at HS2
            rw [← hel] at HS3
            clear hperm hrise hyl hbl hel
            have hmm := @run_makeMap Try.prog
            go_upto_region 17 with (first
              | (go_at_call 19; (with_reducible refine HS1.out.mono ?_); rintro e w5 ⟨⟨r, t, rfl, hr, -, -⟩, hb⟩; obtain ⟨-, q1, c1, rfl, hq, -⟩ := hr.u; have HQ1 := Lib.hid hq; have HT1 := Lib.hid (C.bel HT1.out hb); have HT2 := Lib.hid (C.bel HT2.out hb); have HT3 := Lib.hid (C.bel HT3.out hb); have HXS := Lib.hid (HXS.out.keep hb); have HB := Lib.hid (HB.out.trans (hb.mono HB.out.size)); clear hr hb hq)
              | (go_at_call 19; (with_reducible refine (HS2.out _ HT2.out).mono ?_); rintro e w6 ⟨⟨r, t2, rfl, hr, -, -⟩, hb⟩; obtain ⟨-, q2, c2, rfl, hq, hq0, -⟩ := hr.u; have HQ2 := Lib.hid hq; have HZ2 := Lib.hid hq0; have HQ1 := Lib.hid (HQ1.out.keep hb); have HT1 := Lib.hid (C.bel HT1.out hb); have HT2 := Lib.hid (C.bel HT2.out hb); have HT3 := Lib.hid (C.bel HT3.out hb); have HXS := Lib.hid (HXS.out.keep hb); have HB := Lib.hid (HB.out.trans (hb.mono HB.out.size)); clear hr hb hq hq0)
              | (go_at_call 19; (with_reducible refine (HS3.out _ HT3.out).mono ?_); rintro e w7 ⟨⟨r, t3, rfl, hr, -, -⟩, hb⟩; obtain ⟨-, q3, c3, rfl, hq, hq0, -⟩ := hr.u; have HQ3 := Lib.hid hq; have HZ3 := Lib.hid hq0; have HQ2 := Lib.hid (HQ2.out.keep hb); have HQ1 := Lib.hid (HQ1.out.keep hb); have HT1 := Lib.hid (C.bel HT1.out hb); have HT2 := Lib.hid (C.bel HT2.out hb); have HT3 := Lib.hid (C.bel HT3.out hb); have HXS := Lib.hid (HXS.out.keep hb); have HB := Lib.hid (HB.out.trans (hb.mono HB.out.size)); clear hr hb hq hq0))
            have hMB := (Below.refl w7.heap.size w7).alloc (Nat.le_refl _) (.map #[] 0)
            have HMC := Lib.hid (hMB.alloc (by simp) (.cells #[] 32))
            have HOM := Lib.hid (show ((w7.alloc (.map #[] 0)).alloc (.cells #[] 32)).ownsMap Try.prog 32 (plainElem Try.prog 3) w7.heap.size 0 (.map [] : DataW Unit) from (World.ownsMap_made w7 Try.prog 32 (plainElem Try.prog 3)).alloc (.cells #[] 32))
            have HRO := Lib.hid (World.ownsRow_made (base := w7.heap.size + 1) (e := 32) (size := 1) (w7.alloc (.map #[] 0)) #[] 0 (by simp) (by simp [maxLen]) rfl)
            have hs2 : Src w7 q2 bl c2 (B.map (Value.int .u32)) := by rw [HBLL.out]; exact HQ2.out.src HZ2.out
            have hs3 : Src w7 q3 el c3 (E.map (Value.int .u32)) := by rw [HELL.out]; exact HQ3.out.src HZ3.out
            have HSR2 := Lib.hid (hs2.keep HMC.out)
            have HSR3 := Lib.hid hs3
            have hbl8 : bl ≤ 80 ∧ el ≤ 80 := by omega
            clear hMB hs2 hs3 HS1 HS2 HS3 HQ2 HQ3 HZ2 HZ3
            simp only [World.size_alloc] at HRO
            go_upto_region 19 with (first
              | (at_builtin; refine wpList_list Try.info32 rfl (by decide) (by decide) Try.underlying41 _ rfl (.tmp 94) (.tmp 95) rfl (w7.heap.size + 1) (.slice (some ⟨w7.heap.size + 1, 0, none⟩) 0 0) 0 [] rfl HRO.out q2 bl c2 (B.map (Value.int .u32)) rfl (by rw [List.length_map, HBLL.out, Nat.mul_one]) HSR2.out (ints_one _ _) (by omega) (by simp) ?_; intro v8 w8 h1 h2 _; rw [Nat.zero_add, List.nil_append] at h1; have HR8 := Lib.hid h1; have HB8 := Lib.hid (HMC.out.grown h2 HMC.out.size (fun k e => by simp [Value.ownBlock] at e; omega)); have HO8 := Lib.hid (HOM.out.kept h2 (by simp [Value.ownBlock])); have HZ8 := Lib.hid (show w7.heap.size + 1 ≤ w8.heap.size from by have := h2.size; simp at this; omega); clear h1 h2)
              | (at_builtin; refine wpList_list Try.info32 rfl (by decide) (by decide) Try.underlying41 _ rfl (.tmp 96) (.tmp 97) rfl (w7.heap.size + 1) v8 bl (B.map (Value.int .u32)) rfl HR8.out q3 el c3 (E.map (Value.int .u32)) rfl (by rw [List.length_map, HELL.out, Nat.mul_one]) (HSR3.out.keep HB8.out) (ints_one _ _) (by omega) HZ8.out ?_; intro v9 w9 h1 h2 _; rw [← List.map_append] at h1; have HB9 := Lib.hid (HB8.out.grown h2 HB8.out.size (fun k e => by have := own_geB HR8.out k e; omega)); have HO9 := Lib.hid (HO8.out.kept h2 (fun e => by have := own_geB HR8.out _ e.symm; omega)); have hg := own_geB h1; obtain ⟨-, q9, c9, rfl, hn9, -⟩ := row_u h1; have HN9 := Lib.hid hn9; have HG9 := Lib.hid (show ∀ b off, q9 = some ⟨b, off, none⟩ → w7.heap.size + 1 ≤ b from fun b off e => hg b (by rw [e]; rfl)); clear h1 h2 hg hn9))
            clear hmm HSR2 HSR3 HOM HRO HR8 HB8 HO8 HZ8 HMC
            have hlenz : (yl : Int) = (bl : Int) + el := by omega
            have HLZ := Lib.hid hlenz
            have HLN := Lib.hid hlen
            clear hlen hlenz
            go_loopw [100] (fun v100 wq => ∃ j : Nat, j ≤ bl + el ∧ v100 = .int .i64 j ∧ Hid (∃ D : DataW Unit, wq.ownsMap Try.prog 32 (plainElem Try.prog 3) w7.heap.size j D ∧ MU D ((B ++ E).take j)) ∧ Hid (NS wq q9 .u32 (B ++ E)) ∧ Hid (Below w7.heap.size w7 wq)) (fun i _ => bl + el - (intOf i).toNat)
            case atStart => exact ⟨0, Nat.zero_le _, rfl, Lib.hid ⟨_, HO9.out, MU.start⟩, HN9, HB9⟩
            case round =>
              clear HO9 HN9 HB9
              obtain ⟨j, hj, rfl, HD, HN9, HB9⟩ := hrel
              by_cases hlt2 : j < bl + el
              · have hlt2z : (j : Int) < (bl : Int) + el := by omega
                obtain ⟨z, hze⟩ : ∃ z, (B ++ E)[j]? = some z := ⟨_, List.getElem?_eq_getElem (by have := HBLL.out; have := HELL.out; rw [List.length_append]; omega)⟩
                rcases HN9.out with h0 | ⟨b9, o9, rfl, h9⟩
                · rw [h0] at hze; simp at hze
                · have cz := h9 j z hze
                  obtain ⟨D, hown, hMD⟩ := HD.out
                  have htk : (B ++ E).take (j + 1) = (B ++ E).take j ++ [z] := by rw [List.take_add_one, hze]; rfl
                  have hzn : z ∉ (B ++ E).take j := by
                    have h := HYN.out.sublist (List.take_sublist (j + 1) _)
                    rw [htk, List.nodup_append] at h
                    exact fun e => h.2.2 z e z (by simp) rfl
                  have hst := hMD.step z hzn
                  rw [← htk] at hst
                  have HST := Lib.hid hst
                  have hat0 : D.atKey (.int .u32 z) (.lit (.int .i64 0)) = .lit (.int .i64 0) := by rw [hMD.cnt, if_neg hzn]
                  have HAT := Lib.hid hat0
                  have hkey : keyOf Try.prog 32 (.int .u32 z) = some (.int .u32 z) := keyOf_int_mk Try.underlying32 (HYW.out z ((HMEM.out z).2 (List.mem_of_getElem? hze)))
                  clear hst hat0 htk hzn hMD hze h9
                  go_wp2_with (first
                    | (at_lookup; refine wpList_lookup_own_int _ rfl _ _ 51 rfl 32 3 .i64 klaw Try.underlying51 Try.underlying3 (zeroI _) w7.heap.size j _ rfl hown _ _ rfl hkey ?_; intro c hat hwc; obtain rfl : c = 0 := by rw [HAT.out] at hat; injection hat with h1; injection h1 with _ h1; exact h1.symm)
                    | (at_mapUpdate; refine wpList_mapUpdate_own _ rfl _ _ _ 51 rfl 32 3 klaw Try.underlying51 _ w7.heap.size j _ rfl hown (by unfold maxLen; omega) _ _ _ rfl rfl hkey _ [] (plainElem_int Try.underlying3 (WalkArith.wf_i64 (by omega))) ?_; intro w10 hown1 hgrow1)
                    | go_in)
                  go_roundw
                  case rel => exact ⟨j + 1, by omega, by go_num, Lib.hid ⟨_, hown1, HST.out⟩, Lib.hid (HN9.out.grown8 hgrow1 (fun b off e _ e2 => by have := HG9.out b off e; injection e2 with e2; omega)), Lib.hid (HB9.out.grown hgrow1 HB9.out.size (fun k hk => by cases hk; exact Nat.le_refl _))⟩
                  case measure => simp [intOf]; omega
              · have hlt2z : ¬ (j : Int) < (bl : Int) + el := by omega
                obtain ⟨D, hown, hMD⟩ := HD.out
                rw [List.take_of_length_le (by have := HBLL.out; have := HELL.out; rw [List.length_append]; omega)] at hMD
                have hlm := hown.len Try.underlying51 3
                rw [hMD.siz, List.length_append, ← HBLL.out, ← HELL.out] at hlm
                have hle := HLN.out
                subst hle
                clear HLN HLZ
                have HMD := Lib.hid hMD
                have HOW := Lib.hid hown
                clear hMD hown HD HN9 HG9
                go_wp2_with fail
                clear hlm
                go_loopw [126] (fun v126 wz => ∃ i : Nat, i ≤ bl + el ∧ v126 = .int .i64 i ∧ wz = wr) (fun i _ => bl + el - (intOf i).toNat)
                case atStart => exact ⟨0, Nat.zero_le _, rfl, rfl⟩
                case round =>
                  obtain ⟨i, hi, rfl, rfl⟩ := hrel
                  by_cases hlt3 : i < bl + el
                  · have hlt3z : (i : Int) < (bl : Int) + el := by omega
                    obtain ⟨n, hne⟩ : ∃ n, Y[i]? = some n := ⟨_, List.getElem?_eq_getElem (by have := HYL.out; omega)⟩
                    rcases HQ1.out.keep HB9.out with h0 | ⟨b1, o1, rfl, h1⟩
                    · rw [h0] at hne; simp at hne
                    · have cn := h1 i n hne
                      have hmem := List.mem_of_getElem? hne
                      have hkey : keyOf Try.prog 32 (.int .u32 n) = some (.int .u32 n) := keyOf_int_mk Try.underlying32 (HYW.out n hmem)
                      obtain ⟨c1, hrun1, hat1, -⟩ := HOW.out.lookup_int klaw Try.underlying51 Try.underlying3 (zeroI _) hkey
                      obtain rfl : c1 = 1 := by rw [HMD.out.cnt, if_pos ((HMEM.out n).1 hmem)] at hat1; injection hat1 with h; injection h with _ h; exact h.symm
                      by_cases hi0 : i = 0
                      · subst hi0
                        rw [Nat.add_zero] at cn
                        have hlt0 : (0 : Int) < (bl : Int) + el := by omega
                        clear hat1 hmem hne h1 hkey
                        go_wp2
                        go_roundw
                        case rel => exact ⟨1, by omega, by go_num, by trivial⟩
                        case measure => simp [intOf]; omega
                      · have hi0z : (0 : Int) < i := by omega
                        obtain ⟨y2, hpe⟩ : ∃ y, Y[i - 1]? = some y := ⟨_, List.getElem?_eq_getElem (by have := HYL.out; omega)⟩
                        have cp := h1 (i - 1) y2 hpe
                        have hlt4 : y2 < n := by
                          obtain ⟨a1, a2⟩ := List.getElem?_eq_some_iff.1 hpe
                          obtain ⟨a3, a4⟩ := List.getElem?_eq_some_iff.1 hne
                          rw [← a2, ← a4]
                          exact List.pairwise_iff_getElem.1 HRI.out (i - 1) i a1 a3 (by omega)
                        have hle4 : ¬ n ≤ y2 := by omega
                        have hsub : ((i : Nat) : Int) - 1 = ((i - 1 : Nat) : Int) := by omega
                        have hi1 : i - 1 < bl + el := by omega
                        clear hat1 hmem hne h1 hkey hpe
                        go_wp2
                        go_roundw
                        case rel => exact ⟨i + 1, by omega, by go_num, by trivial⟩
                        case measure => simp [intOf]; omega
                  · have hlt3z : ¬ (i : Int) < (bl : Int) + el := by omega
                    go_wp2_with fail
                    go_roundw
                    case rel => exact ⟨kk + 1, by omega, by go_num, Lib.hid (C.bel HT1.out HB9.out), Lib.hid (C.bel HT2.out HB9.out), Lib.hid (C.bel HT3.out HB9.out), Lib.hid (HXS.out.keep HB9.out), Lib.hid (HB.out.trans (HB9.out.mono HB.out.size))⟩
                    case measure => simp [intOf]; omega
        · have hltz : ¬ (kk : Int) < h20 := by omega
          go_wp2_with (go_at_call 10; (with_reducible refine (HAW.out _).mono ?_); rintro e w9 ⟨rfl, hb⟩; have HB := Lib.hid (HB.out.trans (hb.mono HB.out.size)); clear hb)
          go_ret
          exact ⟨rfl, HB.out⟩
    · go_enter Try.func7, Try.ntmps7
      go_wp2_with (first
        | (go_at_call 11; (with_reducible refine HBU.out.mono ?_); rintro e w1 ⟨hb, hor⟩; rcases hor with ⟨hn, -⟩ | ⟨-, v, S, rfl, -, -⟩; (exact absurd hn hrg); have HB := Lib.hid hb; clear hb)
        | (go_at_call 11; (with_reducible refine (HBT.out _ HB.out).mono ?_); rintro e w2 ⟨hb, hor⟩; have HB := Lib.hid (HB.out.trans (hb.mono HB.out.size)); clear hb; obtain ⟨v2, x2, rfl⟩ : ∃ v x, e = .returned (.tuple #[v, .int .i64 x]) := hor.elim (fun h => ⟨_, _, h.2.choose_spec.choose_spec.1⟩) (fun h => ⟨_, _, h.2.choose_spec.choose_spec.1⟩); clear hor)
        | (go_at_call 11; (with_reducible refine (HBV.out _ HB.out).mono ?_); rintro e w3 ⟨hb, hor⟩; have HB := Lib.hid (HB.out.trans (hb.mono HB.out.size)); clear hb; obtain ⟨v3, x3, rfl⟩ : ∃ v x, e = .returned (.tuple #[v, .int .i64 x]) := hor.elim (fun h => ⟨_, _, h.2.choose_spec.choose_spec.1⟩) (fun h => ⟨_, _, h.2.choose_spec.choose_spec.1⟩); clear hor)
        | (go_at_call 10; (with_reducible refine (HAW.out _).mono ?_); rintro e w9 ⟨rfl, hb⟩; have HB := Lib.hid (HB.out.trans (hb.mono HB.out.size)); clear hb))
      go_ret
      exact ⟨rfl, HB.out⟩
  · have hbz : (80 : Int) < L.length := by omega
    clear hx hxs hc hw
    generalize L.length = m at *
    go_enter Try.func7, Try.ntmps7
    go_wp2_with (go_at_call 10; (with_reducible refine (HAW.out _).mono ?_); rintro e w9 ⟨rfl, hb⟩; have HB := Lib.hid hb; clear hb)
    go_ret
    exact ⟨rfl, HB.out⟩
end Go.Proofs.Ytgcimicbbadapaa
