/-
  SegEnds: the least and the greatest number stab what reaches them; a span of all numbers is stabbed by each; over any tree of spans.
-/
import Derived.Test.YtgcimicbbadapaaLawT8
namespace Go.Proofs.Ytgcimicbbadapaa
open Go.ChangeShapes Go.WideShapes Go.ChangeAt Go.RowKit Go.Joins

theorem minK (X : World) (ty : TypeId) (n c : Nat) (c' k : Int) (hc : c' = (c : Int)) (hk : k = ((min n c : Nat) : Int)) : (Builtin.min_ #[3, 3] ty #[.int .i64 n, .int .i64 c']).run Try.prog X = .ok (.int .i64 k) X := by
  subst hk
  subst hc
  by_cases h : n ≤ c
  · have h2 : ¬ (c : Int) < n := by omega
    simp [Builtin.min_, Builtin.min2, go_sem, Nat.min_eq_left h]
    omega
  · have h2 : (c : Int) < n := by omega
    simp [Builtin.min_, Builtin.min2, go_sem, Nat.min_eq_right (by omega : c ≤ n)]
    omega
theorem slU_from (A n c l : Nat) (hl : l ≤ n) (hn : n ≤ c) : ∃ o', (l < n → o' = l) ∧ ∀ X, (Instr.slice 41 (.slice (some ⟨A, 0, none⟩) n c) (some (.int .i64 l)) none none).run Try.prog X = .ok (.slice (some ⟨A, o', none⟩) (n - l) (c - l)) X := by
  obtain ⟨i0, hi, hz0, hz1, hz2⟩ := info_parts Try.info32
  by_cases h3 : c = l
  · subst h3
    refine ⟨0, fun h => by omega, fun X => ?_⟩
    simp [Instr.slice, run_underlying Try.underlying41, Instr.sliceBounds, Instr.sliceBound, asIntOf, sizeOf, typeInfo, hi, hl, hn]
  · refine ⟨l, fun _ => rfl, fun X => ?_⟩
    simp [Instr.slice, run_underlying Try.underlying41, Instr.sliceBounds, Instr.sliceBound, asIntOf, sizeOf, typeInfo, hi, hz1, hl, h3, Addr.add_lit]
def lst : Int := -9223372036854775808
def mst : Int := 9223372036854775807
def E0 : List S3 := [(-9223372036854775808, 9223372036854775807, 1), (-9223372036854775808, -9223372036854775808, 2), (9223372036854775807, 9223372036854775807, 3)]
/-- those of names above 3 -/
def oth (M : List S3) : List S3 := M.filter (fun s => decide (3 < s.2.2))
theorem oth_snoc (M : List S3) (s : S3) : oth (M ++ [s]) = oth M ++ (if 3 < s.2.2 then [s] else []) := by
  unfold oth
  rw [List.filter_append]
  by_cases h : 3 < s.2.2 <;> simp [h]
theorem oth_len (M : List S3) : (oth M).length ≤ M.length := List.length_filter_le _ _
theorem mem_oth {M : List S3} {s : S3} (h : s ∈ oth M) : s ∈ M ∧ 3 < s.2.2 := by simpa [oth] using h
def preE (x : Int) : List Int := if x = lst then [1, 2] else if x = mst then [1, 3] else [1]
theorem pre_spec (x : Int) : (preE x).Pairwise (· ≤ ·) ∧ ∀ n ∈ preE x, n ≤ 3 := by
  unfold preE
  split
  · decide
  · split <;> decide
theorem ends_stb {B : List S3} (hB : ∀ s ∈ B, 3 < s.2.2) {x : Int} (h0 : lst ≤ x) (h1 : x ≤ mst) : ∃ R, (∀ n ∈ R, 3 < n) ∧ stb (E0 ++ B) x = preE x ++ R := by
  refine ⟨nsort (stbL B x), fun n hn => ?_, ?_⟩
  · obtain ⟨s, hs, rfl⟩ := List.mem_map.1 ((nsort_perm _).mem_iff.1 hn)
    exact hB s (List.mem_filter.1 hs).1
  · have h2 : stbL (E0 ++ B) x = preE x ++ stbL B x := by
      unfold stbL
      rw [List.filter_append, List.map_append]
      congr 1
      unfold lst at h0
      unfold mst at h1
      unfold preE E0 lst mst
      by_cases h3 : x = -9223372036854775808
      · subst h3; decide
      · by_cases h4 : x = 9223372036854775807
        · subst h4; decide
        · rw [if_neg h3, if_neg h4]
          have h5 : ¬ x ≤ -9223372036854775808 := by omega
          have h6 : ¬ (9223372036854775807 : Int) ≤ x := by omega
          simp [stbB, h0, h1, h5, h6]
    have h7 := pre_spec x
    refine sorted_unique ?_ (nsort_sorted _) ?_
    · unfold stb
      rw [h2]
      exact (nsort_perm _).trans ((List.Perm.refl _).append (nsort_perm _).symm)
    · refine List.pairwise_append.2 ⟨h7.1, nsort_sorted _, fun a ha b hb => ?_⟩
      obtain ⟨s, hs, rfl⟩ := List.mem_map.1 ((nsort_perm _).mem_iff.1 hb)
      have := hB s (List.mem_filter.1 hs).1
      have := h7.2 a ha
      omega

theorem wfE0 : ∀ s ∈ E0, Wf3 s := by
  intro s hs
  simp [E0] at hs
  rcases hs with rfl | rfl | rfl <;> exact ⟨rfl, rfl, rfl⟩
theorem wf_range {x : Int} (h : (Lit.int .i64 x).wf = true) : lst ≤ x ∧ x ≤ mst := by
  unfold lst mst
  simpa [Lit.wf, show IntKind.i64.min = -9223372036854775808 from rfl, show IntKind.i64.max = 9223372036854775807 from rfl] using h

set_option maxRecDepth 100000 in
set_option maxHeartbeats 12800000 in
theorem ends_walk {TS : World → Value → Nat → List Nat → List S3 → Prop} (C : SegC TS) (w : World) (p q : Option Addr) (c d : Nat) (L : List S3) (xs : List Int) (hx : TsS w p L) (hc : L.length ≤ c) (hw : ∀ s ∈ L, Wf3 s) (hxs : NS w q .i64 xs) (hd : xs.length ≤ d) (hq : q = none → d = 0) (hwx : ∀ x ∈ xs, (Lit.int .i64 x).wf = true) :
    Calls Try.prog 8 #[.slice p L.length c, .slice q xs.length d] w fun e w' => e = .returned (.bool true) ∧ Below w.heap.size w w' := by
  have HAW := Lib.hid (awake_any C)
  have HX := Lib.hid hx
  have HWF := Lib.hid hw
  have HXS := Lib.hid hxs
  have HWX := Lib.hid hwx
  have HQ := Lib.hid hq
  obtain ⟨h40, hh40⟩ : ∃ h, h = min L.length 40 := ⟨_, rfl⟩
  obtain ⟨h10, hh10⟩ : ∃ h, h = min xs.length 10 := ⟨_, rfl⟩
  have hmin := fun X ty => minK X ty L.length 40 40 (h40 : Int) rfl (by rw [hh40])
  have HMIN := Lib.hid (fun X ty => minK X ty xs.length 10 10 (h10 : Int) rfl (by rw [hh10]))
  have hsl := fun X => slS_to X p L.length c h40 (by omega)
  have HSL := Lib.hid (fun X => slL_to X q xs.length d h10 (by omega))
  have h40b : h40 ≤ 40 := by omega
  have h10b : h10 ≤ 10 := by omega
  have HH40 := Lib.hid (show h40 ≤ L.length by omega)
  have hxt : (xs.take h10).length = h10 := by rw [List.length_take]; omega
  have HXT := Lib.hid hxt
  obtain ⟨m, hm⟩ : ∃ m, m = L.length := ⟨_, rfl⟩
  have HM := Lib.hid hm
  rw [← hm] at hmin hsl HH40 ⊢
  obtain ⟨xl, hxl⟩ : ∃ l, l = xs.length := ⟨_, rfl⟩
  rw [← hxl] at HMIN HSL ⊢
  have HR0 := Lib.hid (show (w.alloc (.cells (flatT E0).toArray 34)).ownsRow w.heap.size 34 3 (.slice (some ⟨w.heap.size, 0, none⟩) 3 3) 3 (flatT E0) from ⟨rfl, .inr ⟨w.heap.size, 3, (flatT E0).toArray, rfl, Nat.le_refl _, heap_alloc_new w _, Nat.le_refl _, by decide, rfl, rfl⟩⟩)
  have HB0 := Lib.hid ((Below.refl _ w).alloc (Nat.le_refl _) (.cells (flatT E0).toArray 34))
  have hfl : (flatT E0).toArray = #[.int .i64 (-9223372036854775808), .int .i64 9223372036854775807, .int .u32 1, .int .i64 (-9223372036854775808), .int .i64 (-9223372036854775808), .int .u32 2, .int .i64 9223372036854775807, .int .i64 9223372036854775807, .int .u32 3] := rfl
  rw [hfl] at HR0 HB0
  clear hx hc hw hxs hd hq hwx hh40 hh10 hxt hm hxl hfl
  go_enter Try.func8, Try.ntmps8
  go_upto_region 4 with fail
  go_loopw [7, 35] (fun v7 v35 wr => ∃ k : Nat, k ≤ h40 ∧ v35 = .int .i64 k ∧ Hid (wr.ownsRow w.heap.size 34 3 v7 (E0 ++ oth (L.take k)).length (flatT (E0 ++ oth (L.take k)))) ∧ Hid (Below w.heap.size w wr)) (fun _ i _ => h40 - (intOf i).toNat)
  case atStart => exact ⟨0, Nat.zero_le _, rfl, HR0, HB0⟩
  case round =>
    clear HR0 HB0 hmin hsl
    obtain ⟨k, hk, rfl, HR, HB⟩ := hrel
    by_cases hlt : k < h40
    · have hltz : (k : Int) < h40 := by omega
      obtain ⟨s, hse⟩ : ∃ s, L[k]? = some s := ⟨_, List.getElem?_eq_getElem (by have := HH40.out; have := HM.out; omega)⟩
      obtain ⟨b, off, rfl, h1⟩ := (HX.out.keep HB.out).at hse
      have n0 := h1.c0
      have n1 := h1.c1
      have n2 := h1.c2
      have HOT := Lib.hid (show E0 ++ oth (L.take (k + 1)) = (E0 ++ oth (L.take k)) ++ (if 3 < s.2.2 then [s] else []) by rw [List.take_add_one, hse, List.append_assoc]; congr 1; exact oth_snoc _ _)
      obtain ⟨A, hA⟩ : ∃ A, A = E0 ++ oth (L.take k) := ⟨_, rfl⟩
      have hAl : A.length ≤ 43 := by
        rw [hA, List.length_append]
        have := oth_len (L.take k)
        have h3 : E0.length = 3 := rfl
        rw [List.length_take] at this
        omega
      rw [← hA] at HR HOT
      obtain ⟨W, hW⟩ : ∃ W, W = wr.alloc (.cells (tvs s).toArray 34) := ⟨_, rfl⟩
      have hWN := T1.new wr s 34
      rw [← hW] at hWN
      have HRW := Lib.hid (show W.ownsRow w.heap.size 34 3 u7 A.length (flatT A) by rw [hW]; exact HR.out.alloc _)
      have HBW := Lib.hid (show Below w.heap.size w W by rw [hW]; exact HB.out.alloc HB.out.size _)
      have m0 := hWN.c0
      have m1 := hWN.c1
      have m2 := hWN.c2
      simp only [Nat.zero_add] at m0 m1 m2
      obtain ⟨lo, hh, id⟩ := s
      unfold tvs at hW
      have HW := Lib.hid hW
      clear hW hWN hse h1 HR hA
      simp only at n0 n1 n2 m0 m1 m2 HOT
      go_upto_region 6 with fail
      rw [← HW.out]
      clear HW n0 n1 n2
      by_cases h3 : 3 < id
      · go_wp2_with (at_builtin; refine wpList_more Try.info34 rfl (by decide) (by decide) Try.underlying22 _ rfl (.tmp 42) (.tmp 44) rfl u7 A.length (flatT A) rfl (row_at (base' := 0) (World.ownsRow.alloc HRW.out _) (fun _ _ => ⟨rfl, Nat.zero_le _⟩)) ⟨W.heap.size, 0, none⟩ 1 1 (tvs (lo, hh, id)) rfl rfl (td_at W (lo, hh, id) _) (tvs_one _) (by omega) (by decide) ?_; intro g1 c1 w1 h1 h2 h3; have H1 := Lib.hid h1; have HB1 := Lib.hid ((HBW.out.alloc HBW.out.size (.cells (tvs (lo, hh, id)).toArray 34)).grown h2 (by have := HBW.out.size; simp; omega) (fun k e => (HRW.out.lt k e).1)); have HG1 := Lib.hid (show w.heap.size ≤ g1 from h3.elim (fun e => (HRW.out.lt _ e).1) (fun e => by have := HBW.out.size; simp at e; omega)); clear h1 h2 h3)
        go_roundw
        case rel =>
          refine ⟨k + 1, by omega, by go_num, Lib.hid ?_, HB1⟩
          rw [HOT.out, if_pos (by first | exact h3 | omega), flatT_snoc]
          have h := row_at (base' := w.heap.size) H1.out (fun q e => ⟨rfl, by simp [Value.ownBlock] at e; subst e; exact HG1.out⟩)
          simpa using h
        case measure => simp [intOf]; omega
      · go_wp2
        go_roundw
        case rel => exact ⟨k + 1, by omega, by go_num, Lib.hid (by rw [HOT.out, if_neg h3, List.append_nil]; exact HRW.out), HBW⟩
        case measure => simp [intOf]; omega
    · obtain rfl : k = h40 := by omega
      have hltz : ¬ (k : Int) < k := by omega
      obtain ⟨B, hB⟩ : ∃ B, B = oth (L.take k) := ⟨_, rfl⟩
      have hB3 : ∀ s ∈ B, 3 < s.2.2 := fun s hs => (mem_oth (by rw [← hB]; exact hs)).2
      have hBw : ∀ s ∈ E0 ++ B, Wf3 s := fun s hs => (List.mem_append.1 hs).elim (wfE0 s) (fun h => HWF.out s (List.mem_of_mem_take (mem_oth (by rw [← hB]; exact h)).1))
      have hBl : (E0 ++ B).length ≤ 43 := by
        rw [List.length_append, hB]
        have := oth_len (L.take k)
        have h3 : E0.length = 3 := rfl
        rw [List.length_take] at this
        omega
      rw [← hB] at HR
      obtain ⟨p', c', hv, hn, hc'⟩ := row_sp HR.out
      subst hv
      have HBU := Lib.hid (C.build wr p' c' (E0 ++ B) hn (by omega) hc' hBw)
      have HES := Lib.hid (fun x (hw : (Lit.int .i64 x).wf = true) => ends_stb hB3 (wf_range hw).1 (wf_range hw).2)
      obtain ⟨al, hal⟩ : ∃ l, l = (E0 ++ B).length := ⟨_, rfl⟩
      obtain ⟨A, hA⟩ : ∃ A, A = E0 ++ B := ⟨_, rfl⟩
      rw [← hal] at HBU hBl ⊢
      rw [← hA] at HBU HES
      have hsl8 : ∀ z, (stb A z).length ≤ 43 := fun z => Nat.le_trans (stb_len A z) (by rw [hA, ← hal]; exact hBl)
      have HS8 := Lib.hid hsl8
      clear hB hB3 hBw hn hc' hal hA HR hsl8 HX HWF
      by_cases hrg : Rg A
      · have hmin := HMIN.out
        have hsl := HSL.out
        go_upto_region 12 with (go_at_call 11; (with_reducible refine HBU.out.mono ?_); rintro e w1 ⟨hb, hor⟩; rcases hor with ⟨-, v, S, rfl, hT, -⟩ | ⟨hn', -⟩; rotate_left; (exact absurd hrg hn'); have HT := Lib.hid hT; have HB1 := Lib.hid (HB.out.trans (hb.mono HB.out.size)); clear hb hT)
        have HZ0 := Lib.hid (show (w1.alloc (.cells #[.int .i64 (-9223372036854775808), .int .i64 9223372036854775807] 2)).ownsRow w1.heap.size 2 1 (.slice (some ⟨w1.heap.size, 0, none⟩) 2 2) 2 [.int .i64 (-9223372036854775808), .int .i64 9223372036854775807] from ⟨rfl, .inr ⟨w1.heap.size, 2, #[.int .i64 (-9223372036854775808), .int .i64 9223372036854775807], rfl, Nat.le_refl _, heap_alloc_new w1 _, Nat.le_refl _, by decide, rfl, rfl⟩⟩)
        have HXS1 := Lib.hid (HXS.out.keep HB1.out)
        have hpre : NS w1 q .i64 (xs.take h10) := HXS1.out.pre h10
        have HSR := Lib.hid (show Src (w1.alloc (.cells #[.int .i64 (-9223372036854775808), .int .i64 9223372036854775807] 2)) q h10 d ((xs.take h10).map (Value.int .i64)) by
          have h := (NS.src (c := d) hpre HQ.out).keep ((Below.refl _ w1).alloc (Nat.le_refl _) (.cells #[.int .i64 (-9223372036854775808), .int .i64 9223372036854775807] 2))
          rw [HXT.out] at h
          exact h)
        clear hpre
        obtain ⟨Z, hZ⟩ : ∃ Z, Z = ([-9223372036854775808, 9223372036854775807] : List Int) ++ xs.take h10 := ⟨_, rfl⟩
        obtain ⟨zl, hzl⟩ : ∃ zl, zl = 2 + h10 := ⟨_, rfl⟩
        have HZW := Lib.hid (show ∀ z ∈ Z, (Lit.int .i64 z).wf = true by
          intro z hz
          rw [hZ] at hz
          rcases List.mem_append.1 hz with h | h
          · simp at h
            rcases h with rfl | rfl <;> rfl
          · exact HWX.out z (List.mem_of_mem_take h))
        have HZM := Lib.hid (show Z.map (Value.int .i64) = [.int .i64 (-9223372036854775808), .int .i64 9223372036854775807] ++ (xs.take h10).map (Value.int .i64) by rw [hZ]; rfl)
        have HZL := Lib.hid hzl
        have hz12 : zl ≤ 12 := by omega
        clear hZ hzl
        go_upto_region 13 with (at_builtin; refine wpList_list Try.info2 rfl (by decide) (by decide) Try.underlying23 _ rfl (.tmp 57) (.tmp 62) rfl w1.heap.size (.slice (some ⟨w1.heap.size, 0, none⟩) 2 2) 2 [.int .i64 (-9223372036854775808), .int .i64 9223372036854775807] rfl HZ0.out q h10 d ((xs.take h10).map (Value.int .i64)) rfl (by rw [List.length_map, HXT.out, Nat.mul_one]) HSR.out (ints_one _ _) (by omega) (by simp) ?_; intro v4 w4 h1 h2 _; rw [← HZM.out, ← HZL.out] at h1; obtain ⟨hzn, q4, c4, rfl, hnz, -⟩ := row_u h1; have HZN := Lib.hid hzn; have HNZ := Lib.hid hnz; have HB4 := Lib.hid ((HB1.out.alloc HB1.out.size (.cells #[.int .i64 (-9223372036854775808), .int .i64 9223372036854775807] 2)).grown h2 (by have := HB1.out.size; simp; omega) (fun k e => by simp [Value.ownBlock] at e; have := HB1.out.size; omega)); have HT4 := Lib.hid (C.keep HT.out (((Off.refl [w1.heap.size] w1).all (.cells #[.int .i64 (-9223372036854775808), .int .i64 9223372036854775807] 2)).grow h2 (fun k e => by simp [Value.ownBlock] at e; exact .inl (by simp [e]))) (fun b hb hb2 => by have := C.lies HT.out b hb; simp at hb2; omega)); clear h1 h2 hzn hnz)
        obtain ⟨n8, hn8⟩ : ∃ n, n = A.length := ⟨_, rfl⟩
        have HT4x := HT4
        rw [← hn8] at HT4x
        clear HT4 hn8
        clear hmin hsl HBU HSR HZ0 HXS1 HB1 HT HB HXS HMIN HSL HQ
        go_loopw [65] (fun v65 wy => ∃ k2 : Nat, k2 ≤ zl ∧ v65 = .int .i64 k2 ∧ Hid (TS wy v n8 S A) ∧ Hid (NS wy q4 .i64 Z) ∧ Hid (Below w.heap.size w wy)) (fun i _ => zl - (intOf i).toNat)
        case atStart => exact ⟨0, Nat.zero_le _, rfl, HT4x, HNZ, HB4⟩
        case round =>
          clear HT4x HNZ HB4
          obtain ⟨k2, hk2, rfl, HT, HNZ, HB4⟩ := hrel
          by_cases hlt2 : k2 < zl
          · have hltz2 : (k2 : Int) < zl := by omega
            obtain ⟨x, hxe⟩ : ∃ x, Z[k2]? = some x := ⟨_, List.getElem?_eq_getElem (by have := HZN.out; omega)⟩
            have hwx := HZW.out x (List.mem_of_getElem? hxe)
            obtain ⟨R, hR3, hst⟩ := HES.out x hwx
            have HR3 := Lib.hid hR3
            rcases HNZ.out with h0 | ⟨b4, o4, rfl, h4⟩
            · rw [h0] at hxe; simp at hxe
            · have cx := h4 k2 x hxe
              clear h4 hxe hR3
              by_cases hx1 : x = -9223372036854775808
              · subst hx1
                have HPE := Lib.hid (show stb A (-9223372036854775808) = [1, 2] ++ R by rw [hst]; unfold preE lst mst; rw [if_pos rfl])
                have HST := Lib.hid (C.stab (-9223372036854775808) HT.out hwx)
                obtain ⟨rl, hrl⟩ : ∃ rl, rl = R.length := ⟨_, rfl⟩
                have HRL := Lib.hid hrl
                have hr43 : rl + 2 ≤ 43 := by have h1 := HS8.out ((-9223372036854775808)); rw [HPE.out, List.length_append] at h1; rw [hrl]; simp at h1; omega
                rw [HPE.out] at HST
                have HGO : Hid (∀ (X : World) r, TL X r ([1, 2] ++ R).length ([1, 2] ++ R) → ∃ g cap o', r = .slice (some ⟨g, 0, none⟩) (rl + 2) cap ∧ X.cell? ⟨g, 0, none⟩ = some (.int .u32 1) ∧ X.cell? ⟨g, 1, none⟩ = some (.int .u32 2) ∧ (∀ Y : World, (Instr.slice 41 (.slice (some ⟨g, 0, none⟩) (rl + 2) cap) (some (.int .i64 2)) none none).run Try.prog Y = .ok (.slice (some ⟨g, o', none⟩) rl (cap - 2)) Y) ∧ NS X (some ⟨g, o', none⟩) .u32 R) := Lib.hid (fun X r h => by
                  obtain ⟨g, cap, e, -, hrb⟩ := TL.rb h (by simp)
                  have hn : ([1, 2] ++ R).length = rl + 2 := by rw [hrl]; simp <;> omega
                  rw [hn] at e
                  have hroom := hrb.roomF.1
                  rw [hn] at hroom
                  obtain ⟨o', ho', hs⟩ := slU_from g (rl + 2) cap 2 (by omega) hroom
                  refine ⟨g, cap, o', e, hrb.cell (i := 0) rfl, hrb.cell (i := 1) rfl, fun Y => ?_, ?_⟩
                  · have := hs Y
                    rw [show rl + 2 - 2 = rl by omega] at this
                    exact this
                  · by_cases h0 : R = []
                    · exact .inl h0
                    · rw [ho' (by have := List.length_pos_iff.2 h0; omega)]
                      exact .inr ⟨g, 2, rfl, fun j y ej => hrb.cell (by rw [List.getElem?_append_right (by simp)]; simpa using ej)⟩)
                clear hrl hst hwx
                go_wp2_with (go_at_call 19; (with_reducible refine HST.out.mono ?_); rintro e w5 ⟨⟨r, t, rfl, hr, -, -⟩, hb⟩; obtain ⟨g, cap, o', rfl, hg0, hg1, hsl5, hnr⟩ := HGO.out _ _ hr; have HNR := Lib.hid hnr; have HT := Lib.hid (C.bel HT.out hb); have HNZ := Lib.hid (HNZ.out.keep hb); have HB4 := Lib.hid (HB4.out.trans (hb.mono HB4.out.size)); clear hr hb hnr)
                clear hsl5 hg0 hg1 HGO HST HPE
                go_loopw [116] (fun i wz => ∃ j : Nat, j ≤ rl ∧ i = .int .i64 j ∧ wz = w5) (fun i _ => rl - (intOf i).toNat)
                case atStart => exact ⟨0, Nat.zero_le _, rfl, rfl⟩
                case round =>
                  obtain ⟨j, hj, rfl, rfl⟩ := hrel
                  by_cases hjl : j < rl
                  · have hjz : (j : Int) < rl := by omega
                    obtain ⟨y, hye⟩ : ∃ y, R[j]? = some y := ⟨_, List.getElem?_eq_getElem (by have := HRL.out; omega)⟩
                    have hy3 := HR3.out y (List.mem_of_getElem? hye)
                    rcases HNR.out with h0 | ⟨b5, o5, e5, h5⟩
                    · rw [h0] at hye; simp at hye
                    · cases e5
                      have cy := h5 j y hye
                      have hy3z : ¬ y ≤ 3 := by omega
                      clear h5 hye
                      go_wp2
                      go_roundw
                      case rel => exact ⟨j + 1, by omega, by go_num, by trivial⟩
                      case measure => simp [intOf]; omega
                  · have hjz : ¬ (j : Int) < rl := by omega
                    obtain rfl : j = rl := by omega
                    go_wp2
                    go_roundw
                    case rel => exact ⟨k2 + 1, by omega, by go_num, HT, HNZ, HB4⟩
                    case measure => simp [intOf]; omega
              · by_cases hx2 : x = 9223372036854775807
                · subst hx2
                  have HPE := Lib.hid (show stb A 9223372036854775807 = [1, 3] ++ R by rw [hst]; unfold preE lst mst; rw [if_neg (by decide), if_pos rfl])
                  have HST := Lib.hid (C.stab 9223372036854775807 HT.out hwx)
                  obtain ⟨rl, hrl⟩ : ∃ rl, rl = R.length := ⟨_, rfl⟩
                  have HRL := Lib.hid hrl
                  have hr43 : rl + 2 ≤ 43 := by have h1 := HS8.out (9223372036854775807); rw [HPE.out, List.length_append] at h1; rw [hrl]; simp at h1; omega
                  rw [HPE.out] at HST
                  have HGO : Hid (∀ (X : World) r, TL X r ([1, 3] ++ R).length ([1, 3] ++ R) → ∃ g cap o', r = .slice (some ⟨g, 0, none⟩) (rl + 2) cap ∧ X.cell? ⟨g, 0, none⟩ = some (.int .u32 1) ∧ X.cell? ⟨g, 1, none⟩ = some (.int .u32 3) ∧ (∀ Y : World, (Instr.slice 41 (.slice (some ⟨g, 0, none⟩) (rl + 2) cap) (some (.int .i64 2)) none none).run Try.prog Y = .ok (.slice (some ⟨g, o', none⟩) rl (cap - 2)) Y) ∧ NS X (some ⟨g, o', none⟩) .u32 R) := Lib.hid (fun X r h => by
                    obtain ⟨g, cap, e, -, hrb⟩ := TL.rb h (by simp)
                    have hn : ([1, 3] ++ R).length = rl + 2 := by rw [hrl]; simp <;> omega
                    rw [hn] at e
                    have hroom := hrb.roomF.1
                    rw [hn] at hroom
                    obtain ⟨o', ho', hs⟩ := slU_from g (rl + 2) cap 2 (by omega) hroom
                    refine ⟨g, cap, o', e, hrb.cell (i := 0) rfl, hrb.cell (i := 1) rfl, fun Y => ?_, ?_⟩
                    · have := hs Y
                      rw [show rl + 2 - 2 = rl by omega] at this
                      exact this
                    · by_cases h0 : R = []
                      · exact .inl h0
                      · rw [ho' (by have := List.length_pos_iff.2 h0; omega)]
                        exact .inr ⟨g, 2, rfl, fun j y ej => hrb.cell (by rw [List.getElem?_append_right (by simp)]; simpa using ej)⟩)
                  clear hrl hst hwx
                  go_wp2_with (go_at_call 19; (with_reducible refine HST.out.mono ?_); rintro e w5 ⟨⟨r, t, rfl, hr, -, -⟩, hb⟩; obtain ⟨g, cap, o', rfl, hg0, hg1, hsl5, hnr⟩ := HGO.out _ _ hr; have HNR := Lib.hid hnr; have HT := Lib.hid (C.bel HT.out hb); have HNZ := Lib.hid (HNZ.out.keep hb); have HB4 := Lib.hid (HB4.out.trans (hb.mono HB4.out.size)); clear hr hb hnr)
                  clear hsl5 hg0 hg1 HGO HST HPE
                  go_loopw [116] (fun i wz => ∃ j : Nat, j ≤ rl ∧ i = .int .i64 j ∧ wz = w5) (fun i _ => rl - (intOf i).toNat)
                  case atStart => exact ⟨0, Nat.zero_le _, rfl, rfl⟩
                  case round =>
                    obtain ⟨j, hj, rfl, rfl⟩ := hrel
                    by_cases hjl : j < rl
                    · have hjz : (j : Int) < rl := by omega
                      obtain ⟨y, hye⟩ : ∃ y, R[j]? = some y := ⟨_, List.getElem?_eq_getElem (by have := HRL.out; omega)⟩
                      have hy3 := HR3.out y (List.mem_of_getElem? hye)
                      rcases HNR.out with h0 | ⟨b5, o5, e5, h5⟩
                      · rw [h0] at hye; simp at hye
                      · cases e5
                        have cy := h5 j y hye
                        have hy3z : ¬ y ≤ 3 := by omega
                        clear h5 hye
                        go_wp2
                        go_roundw
                        case rel => exact ⟨j + 1, by omega, by go_num, by trivial⟩
                        case measure => simp [intOf]; omega
                    · have hjz : ¬ (j : Int) < rl := by omega
                      obtain rfl : j = rl := by omega
                      go_wp2
                      go_roundw
                      case rel => exact ⟨k2 + 1, by omega, by go_num, HT, HNZ, HB4⟩
                      case measure => simp [intOf]; omega
                · skip
                  have HPE := Lib.hid (show stb A x = [1] ++ R by rw [hst]; unfold preE lst mst; rw [if_neg hx1, if_neg hx2])
                  have HST := Lib.hid (C.stab x HT.out hwx)
                  obtain ⟨rl, hrl⟩ : ∃ rl, rl = R.length := ⟨_, rfl⟩
                  have HRL := Lib.hid hrl
                  have hr43 : rl + 1 ≤ 43 := by have h1 := HS8.out (x); rw [HPE.out, List.length_append] at h1; rw [hrl]; simp at h1; omega
                  rw [HPE.out] at HST
                  have HGO : Hid (∀ (X : World) r, TL X r ([1] ++ R).length ([1] ++ R) → ∃ g cap o', r = .slice (some ⟨g, 0, none⟩) (rl + 1) cap ∧ X.cell? ⟨g, 0, none⟩ = some (.int .u32 1) ∧ (∀ Y : World, (Instr.slice 41 (.slice (some ⟨g, 0, none⟩) (rl + 1) cap) (some (.int .i64 1)) none none).run Try.prog Y = .ok (.slice (some ⟨g, o', none⟩) rl (cap - 1)) Y) ∧ NS X (some ⟨g, o', none⟩) .u32 R) := Lib.hid (fun X r h => by
                    obtain ⟨g, cap, e, -, hrb⟩ := TL.rb h (by simp)
                    have hn : ([1] ++ R).length = rl + 1 := by rw [hrl]; simp <;> omega
                    rw [hn] at e
                    have hroom := hrb.roomF.1
                    rw [hn] at hroom
                    obtain ⟨o', ho', hs⟩ := slU_from g (rl + 1) cap 1 (by omega) hroom
                    refine ⟨g, cap, o', e, hrb.cell (i := 0) rfl, fun Y => ?_, ?_⟩
                    · have := hs Y
                      rw [show rl + 1 - 1 = rl by omega] at this
                      exact this
                    · by_cases h0 : R = []
                      · exact .inl h0
                      · rw [ho' (by have := List.length_pos_iff.2 h0; omega)]
                        exact .inr ⟨g, 1, rfl, fun j y ej => hrb.cell (by rw [List.getElem?_append_right (by simp)]; simpa using ej)⟩)
                  clear hrl hst hwx
                  go_wp2_with (go_at_call 19; (with_reducible refine HST.out.mono ?_); rintro e w5 ⟨⟨r, t, rfl, hr, -, -⟩, hb⟩; obtain ⟨g, cap, o', rfl, hg0, hsl5, hnr⟩ := HGO.out _ _ hr; have HNR := Lib.hid hnr; have HT := Lib.hid (C.bel HT.out hb); have HNZ := Lib.hid (HNZ.out.keep hb); have HB4 := Lib.hid (HB4.out.trans (hb.mono HB4.out.size)); clear hr hb hnr)
                  clear hsl5 hg0 HGO HST HPE
                  go_loopw [116] (fun i wz => ∃ j : Nat, j ≤ rl ∧ i = .int .i64 j ∧ wz = w5) (fun i _ => rl - (intOf i).toNat)
                  case atStart => exact ⟨0, Nat.zero_le _, rfl, rfl⟩
                  case round =>
                    obtain ⟨j, hj, rfl, rfl⟩ := hrel
                    by_cases hjl : j < rl
                    · have hjz : (j : Int) < rl := by omega
                      obtain ⟨y, hye⟩ : ∃ y, R[j]? = some y := ⟨_, List.getElem?_eq_getElem (by have := HRL.out; omega)⟩
                      have hy3 := HR3.out y (List.mem_of_getElem? hye)
                      rcases HNR.out with h0 | ⟨b5, o5, e5, h5⟩
                      · rw [h0] at hye; simp at hye
                      · cases e5
                        have cy := h5 j y hye
                        have hy3z : ¬ y ≤ 3 := by omega
                        clear h5 hye
                        go_wp2
                        go_roundw
                        case rel => exact ⟨j + 1, by omega, by go_num, by trivial⟩
                        case measure => simp [intOf]; omega
                    · have hjz : ¬ (j : Int) < rl := by omega
                      obtain rfl : j = rl := by omega
                      go_wp2
                      go_roundw
                      case rel => exact ⟨k2 + 1, by omega, by go_num, HT, HNZ, HB4⟩
                      case measure => simp [intOf]; omega
          · have hltz2 : ¬ (k2 : Int) < zl := by omega
            go_wp2_with (go_at_call 10; (with_reducible refine (HAW.out _).mono ?_); rintro e w9 ⟨rfl, hb⟩; have HB4 := Lib.hid (HB4.out.trans (hb.mono HB4.out.size)); clear hb)
            go_ret
            exact ⟨rfl, HB4.out⟩
      · go_wp2_with (first
          | (go_at_call 11; (with_reducible refine HBU.out.mono ?_); rintro e w1 ⟨hb, hor⟩; rcases hor with ⟨hn, -⟩ | ⟨-, v, S, rfl, -, -⟩; (exact absurd hn hrg); have HB := Lib.hid (HB.out.trans (hb.mono HB.out.size)); clear hb)
          | (go_at_call 10; (with_reducible refine (HAW.out _).mono ?_); rintro e w9 ⟨rfl, hb⟩; have HB := Lib.hid (HB.out.trans (hb.mono HB.out.size)); clear hb))
        go_ret
        exact ⟨rfl, HB.out⟩
end Go.Proofs.Ytgcimicbbadapaa
