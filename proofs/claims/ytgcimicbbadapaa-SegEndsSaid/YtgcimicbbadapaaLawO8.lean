/-
  SegOrder: in whichever order spans are handed in, the tree tells the same; over any tree of spans.
-/
import Derived.Test.YtgcimicbbadapaaSaw8
namespace Go.Proofs.Ytgcimicbbadapaa
open Go.ChangeShapes Go.WideShapes Go.ChangeAt Go.RowKit Go.Joins

theorem Try.info2 : (Try.prog.info? 2).map (fun i => (i.zero, i.size, i.bytes)) = some (some (.int .i64 0), 1, 8) := by kernel_rfl
/-- so many of a list's first numbers, 20 at most -/
theorem min20 (X : World) (ty : TypeId) (n : Nat) (k : Int) (hk : k = ((min n 20 : Nat) : Int)) : (Builtin.min_ #[3, 3] ty #[.int .i64 n, .int .i64 20]).run Try.prog X = .ok (.int .i64 k) X := by
  subst hk
  by_cases h : n ≤ 20
  · have h2 : ¬ (20 : Int) < n := by omega
    simp [Builtin.min_, Builtin.min2, go_sem, Nat.min_eq_left h, h2]
  · have h2 : (20 : Int) < n := by omega
    simp [Builtin.min_, Builtin.min2, go_sem, Nat.min_eq_right (by omega : 20 ≤ n), h2]
theorem slL_to (X : World) (p : Option Addr) (n c h : Nat) (hm : h ≤ c) : (Instr.slice 23 (.slice p n c) none (some (.int .i64 h)) none).run Try.prog X = .ok (.slice p h c) X := by
  obtain ⟨i0, hi, hz0, hz1, hz2⟩ := info_parts Try.info2
  simp [Instr.slice, run_underlying Try.underlying23, Instr.sliceBounds, Instr.sliceBound, asIntOf, sizeOf, typeInfo, hi, hm]
  cases p <;> simp [Addr.add_zero']
theorem rev_drop {L : List S3} {j : Nat} {s : S3} (e : L[j]? = some s) : (L.drop j).reverse = (L.drop (j + 1)).reverse ++ [s] := by
  obtain ⟨h1, h2⟩ := List.getElem?_eq_some_iff.1 e
  rw [List.drop_eq_getElem_cons h1, h2, List.reverse_cons]
/-- a row of one's own with spans: where it lies -/
theorem row_sp {w : World} {base : Nat} {v : Value} {L : List S3} {t : TypeId} (h : w.ownsRow base t 3 v L.length (flatT L)) : ∃ p c, v = .slice p L.length c ∧ TsS w p L ∧ L.length ≤ c := by
  obtain ⟨-, p, c, e, h2, -, h3, -⟩ := row_ts h
  exact ⟨p, c, e, h2, h3⟩

set_option maxRecDepth 100000 in
set_option maxHeartbeats 6400000 in
theorem order_walk {TS : World → Value → Nat → List Nat → List S3 → Prop} (C : SegC TS) (w : World) (p q : Option Addr) (c d : Nat) (L : List S3) (xs : List Int) (hx : TsS w p L) (hc : L.length ≤ c) (hw : ∀ s ∈ L, Wf3 s) (hxs : NS w q .i64 xs) (hd : xs.length ≤ d) (hwx : ∀ x ∈ xs, (Lit.int .i64 x).wf = true) :
    Calls Try.prog 6 #[.slice p L.length c, .slice q xs.length d] w fun e w' => e = .returned (.bool true) ∧ Below w.heap.size w w' := by
  have HAW := Lib.hid (awake_any C)
  by_cases hbig : L.length ≤ 80
  · have hbz : ¬ (80 : Int) < L.length := by omega
    have HX := Lib.hid hx
    have HBU := Lib.hid (fun X (hX : Below w.heap.size w X) => C.build X p c L (hx.keep hX) (by omega) hc hw)
    have HBV := Lib.hid (fun X p' c' (hn : TsS X p' L.reverse) (hc' : L.length ≤ c') => by
      have := C.build X p' c' L.reverse hn (by simp; omega) (by simpa using hc') (fun s hs => hw s (by simpa using hs))
      rwa [List.length_reverse] at this)
    obtain ⟨m, hm⟩ : ∃ m, m = L.length := ⟨_, rfl⟩
    have HM := Lib.hid hm
    rw [← hm] at HBU HBV hbz hbig ⊢
    clear hx hc hw hm
    go_enter Try.func6, Try.ntmps6
    go_wp2
    go_loopw [5, 6] (fun v5 v6 wr => ∃ j : Nat, j ≤ m ∧ v6 = .int .i64 ((j : Int) - 1) ∧ Hid (wr.ownsRow w.heap.size 34 3 v5 (m - j) (flatT (L.drop j).reverse)) ∧ Hid (Below w.heap.size w wr)) (fun _ v _ => ((intOf v) + 1).toNat)
    case atStart => exact ⟨m, Nat.le_refl _, rfl, Lib.hid (by rw [Nat.sub_self, List.drop_of_length_le (by have := HM.out; omega)]; exact World.ownsRow_nil _ _ _ _), Lib.hid (Below.refl _ _)⟩
    case round =>
      obtain ⟨j, hj, rfl, HR, HB⟩ := hrel
      cases j with
      | succ j =>
        have hjz : (((j + 1 : Nat) : Int) - 1) = (j : Int) := by omega
        rw [hjz]
        have hj0 : (0 : Int) ≤ (j : Int) := by omega
        have hjm : (j : Int) < m := by omega
        obtain ⟨s, hse⟩ : ∃ s, L[j]? = some s := ⟨_, List.getElem?_eq_getElem (by have := HM.out; omega)⟩
        obtain ⟨b, off, rfl, h1⟩ := (HX.out.keep HB.out).at hse
        have n0 := h1.c0
        have n1 := h1.c1
        have n2 := h1.c2
        have HRV := Lib.hid (rev_drop hse)
        obtain ⟨D, hD⟩ : ∃ D, D = (L.drop (j + 1)).reverse := ⟨_, rfl⟩
        have hDl : m - (j + 1) = D.length := by rw [hD, List.length_reverse, List.length_drop, HM.out]
        rw [← hD] at HR HRV
        rw [hDl] at HR
        have HDL := Lib.hid hDl
        have hD80 : D.length ≤ 80 := by omega
        clear hD h1 hse hDl hjz
        obtain ⟨lo, hh, id⟩ := s
        simp only at n0 n1 n2
        go_wp2_with (at_builtin; refine wpList_more Try.info34 rfl (by decide) (by decide) Try.underlying22 _ rfl (.tmp 28) (.tmp 33) rfl u5 D.length (flatT D) rfl (row_at (base' := 0) (World.ownsRow.alloc HR.out _) (fun _ _ => ⟨rfl, Nat.zero_le _⟩)) ⟨wr.heap.size, 0, none⟩ 1 1 (tvs (lo, hh, id)) rfl rfl (td_at wr (lo, hh, id) _) (tvs_one _) (by omega) (by decide) ?_; intro g1 c1 w1 h1 h2 h3; have H1 := Lib.hid h1; have HB1 := Lib.hid ((HB.out.alloc HB.out.size (.cells (tvs (lo, hh, id)).toArray 34)).grown h2 (by have := HB.out.size; simp; omega) (fun k e => (HR.out.lt k e).1)); have HG1 := Lib.hid (show w.heap.size ≤ g1 from h3.elim (fun e => (HR.out.lt _ e).1) (fun e => by have := HB.out.size; simp at e; omega)); clear h1 h2 h3)
        go_roundw
        case rel =>
          refine ⟨j, by omega, by go_num, Lib.hid ?_, HB1⟩
          rw [HRV.out, flatT_snoc, show m - j = D.length + 1 by have := HDL.out; omega]
          exact row_at (base' := w.heap.size) H1.out (fun q e => ⟨rfl, by simp [Value.ownBlock] at e; subst e; exact HG1.out⟩)
        case measure => simp [intOf]
      | zero =>
        have hj0 : ¬ (0 : Int) ≤ ((0 : Nat) : Int) - 1 := by omega
        have hR := HR.out
        have hlr : m - 0 = L.reverse.length := by rw [List.length_reverse, ← HM.out, Nat.sub_zero]
        rw [List.drop_zero, hlr] at hR
        obtain ⟨p', c', hv, hn, hc'⟩ := row_sp hR
        rw [← hlr, Nat.sub_zero] at hv hc'
        subst hv
        have HBU1 := Lib.hid (HBU.out wr HB.out)
        have HBV1 := Lib.hid (fun X (hX : Below wr.heap.size wr X) => HBV.out X p' c' (hn.keep hX) hc')
        clear HR hR hn hlr hc' HBU HBV
        go_upto_region 10 with (first
          | (go_at_call 11; (with_reducible refine HBU1.out.mono ?_); rintro e w1 ⟨hb, hor⟩; have HB1 := Lib.hid hb; clear hb
             have hor' : ∃ v S A n x, e = .returned (.tuple #[v, .int .i64 x]) ∧ TS w1 v n S A ∧ (∀ k ∈ S, wr.heap.size ≤ k) ∧ ((Rg L ∧ x = 0 ∧ A = L) ∨ (¬ Rg L ∧ x = 2 ∧ A = [])) := by
               rcases hor with ⟨h1, v, S, h2, h3, h4⟩ | ⟨h1, v, S, h2, h3, h4⟩
               · exact ⟨v, S, L, _, 0, h2, h3, h4, .inl ⟨h1, rfl, rfl⟩⟩
               · exact ⟨v, S, [], _, 2, h2, h3, h4, .inr ⟨h1, rfl, rfl⟩⟩
             obtain ⟨v, S, A, n, x, rfl, hT, hS, hA⟩ := hor'; have HT := Lib.hid hT; have HA := Lib.hid hA; clear hor hT hS hA)
          | (go_at_call 11; (with_reducible refine (HBV1.out _ HB1.out).mono ?_); rintro e w2 ⟨hb, hor⟩; have HB2 := Lib.hid hb; have HT := Lib.hid (C.bel HT.out hb); clear hb
             have hor' : ∃ v S A n x, e = .returned (.tuple #[v, .int .i64 x]) ∧ TS w2 v n S A ∧ ((Rg L.reverse ∧ x = 0 ∧ A = L.reverse) ∨ (¬ Rg L.reverse ∧ x = 2 ∧ A = [])) := by
               rcases hor with ⟨h1, v, S, h2, h3, h4⟩ | ⟨h1, v, S, h2, h3, h4⟩
               · exact ⟨v, S, L.reverse, _, 0, h2, h3, .inl ⟨h1, rfl, rfl⟩⟩
               · exact ⟨v, S, [], _, 2, h2, h3, .inr ⟨h1, rfl, rfl⟩⟩
             obtain ⟨v', S', A', n', x', rfl, hT, hA⟩ := hor'; have HT2 := Lib.hid hT; have HA2 := Lib.hid hA; clear hor hT hA))
        obtain ⟨hxx, hlen, hst⟩ : x' = x ∧ A'.length = A.length ∧ ∀ z, stb A' z = stb A z := by
          have hp := List.reverse_perm L
          rcases HA.out with ⟨h1, h2, h3⟩ | ⟨h1, h2, h3⟩ <;> rcases HA2.out with ⟨h4, h5, h6⟩ | ⟨h4, h5, h6⟩
          · exact ⟨by rw [h2, h5], by rw [h3, h6, List.length_reverse], fun z => by rw [h3, h6]; exact stb_perm hp z⟩
          · exact absurd (Rg.perm hp.symm h1) h4
          · exact absurd (Rg.perm hp h4) h1
          · exact ⟨by rw [h2, h5], by rw [h3, h6], fun z => by rw [h3, h6]⟩
        subst hxx
        have HLE := Lib.hid (fun X h => C.len (X := X) (v := v) (n := n) (S := S) (A := A) h)
        have HLE' := Lib.hid (fun X h => C.len (X := X) (v := v') (n := n') (S := S') (A := A') h)
        rw [hlen] at HLE'
        have HST := Lib.hid hst
        have HF := Lib.hid (show ∀ z, (stb A z).length ≤ 8192 from fun z => Nat.le_trans (stb_len A z) (by have := C.few HT.out; omega))
        clear HA HA2 hst hlen
        generalize A.length = la at *
        obtain ⟨h20, hh20⟩ : ∃ h, h = min xs.length 20 := ⟨_, rfl⟩
        have hmin := fun X ty => min20 X ty xs.length (h20 : Int) (by rw [hh20])
        have hsl := fun X => slL_to X q xs.length d h20 (by omega)
        have HH := Lib.hid hh20
        have HXS := Lib.hid (hxs.keep HB.out)
        have HWX := Lib.hid hwx
        have hh8 : h20 ≤ 20 := by omega
        clear hh20 hxs hwx hd
        generalize hxl : xs.length = xl at *
        have HXL := Lib.hid hxl
        clear hxl
        go_upto_region 13 with (first
          | (go_at_call 13; (with_reducible refine (HLE.out _ HT.out).mono ?_); rintro e w3 ⟨rfl, hb⟩; have HT := Lib.hid (C.bel HT.out hb); have HT2 := Lib.hid (C.bel HT2.out hb); have HB2 := Lib.hid (HB2.out.trans (hb.mono HB2.out.size)); clear hb)
          | (go_at_call 13; (with_reducible refine (HLE'.out _ HT2.out).mono ?_); rintro e w4 ⟨rfl, hb⟩; have HT := Lib.hid (C.bel HT.out hb); have HT2 := Lib.hid (C.bel HT2.out hb); have HB2 := Lib.hid (HB2.out.trans (hb.mono HB2.out.size)); clear hb))
        have HBA := Lib.hid (HB1.out.trans (HB2.out.mono HB1.out.size))
        have HXS2 := Lib.hid (HXS.out.keep HBA.out)
        have HBW := Lib.hid (HB.out.trans (HBA.out.mono HB.out.size))
        clear HXS HBA HB1 HB2 HLE HLE' hmin hsl HX HBU1 HBV1
        go_loopw [61] (fun v61 wy => ∃ k : Nat, k ≤ h20 ∧ v61 = .int .i64 k ∧ Hid (TS wy v n S A) ∧ Hid (TS wy v' n' S' A') ∧ Hid (NS wy q .i64 xs) ∧ Hid (Below w.heap.size w wy)) (fun i _ => h20 - (intOf i).toNat)
        case atStart => exact ⟨0, Nat.zero_le _, rfl, HT, HT2, HXS2, HBW⟩
        case round =>
          clear HT HT2 HXS2 HBW HB
          obtain ⟨k, hk, rfl, HT, HT2, HXS, HB⟩ := hrel
          by_cases hlt : k < h20
          · have hltz : (k : Int) < h20 := by omega
            obtain ⟨y, hye⟩ : ∃ y, xs[k]? = some y := ⟨_, List.getElem?_eq_getElem (by have := HH.out; have := HXL.out; omega)⟩
            rcases HXS.out with h0 | ⟨b, off, rfl, h1⟩
            · rw [h0] at hye; simp at hye
            · have cy := h1 k y hye
              have hwy := HWX.out y (List.mem_of_getElem? hye)
              have HS1 := Lib.hid (C.stab y HT.out hwy)
              have HS2 := Lib.hid (fun X h => C.stab (X := X) (v := v') (n := n') (S := S') (A := A') y h hwy)
              have hsl := HF.out y
              rw [HST.out y] at HS2
              have HI : Hid (∀ X q1 c1 q2 c2, NS X q1 .u32 (stb A y) → NS X q2 .u32 (stb A y) → Calls Try.prog 21 #[.slice q1 (stb A y).length c1, .slice q2 (stb A y).length c2] X fun e w' => e = .returned (.bool true) ∧ Below X.heap.size X w') := Lib.hid (fun X q1 c1 q2 c2 h1 h2 => by
                refine (SameIDs_any X q1 q2 c1 c2 _ _ h1 h2 (by omega)).mono ?_
                rintro e w' ⟨rfl, hb⟩
                exact ⟨by simp, hb⟩)
              clear h1 hye hwy hsl
              generalize stb A y = Y at *
              generalize hyl : Y.length = yl at *
              have HYL := Lib.hid hyl
              clear hyl
              have hru : ∀ (X : World) r, TL X r yl Y → ∃ q c, r = .slice q yl c ∧ NS X q .u32 Y := fun X r h => by
                obtain ⟨-, q, c, e, h2, -⟩ := h.u
                exact ⟨q, c, e, h2⟩
              have HRU := Lib.hid hru
              clear hru
              go_wp2_with (first
                | (go_at_call 19; (with_reducible refine HS1.out.mono ?_); rintro e w5 ⟨⟨r, t, rfl, hr, -, -⟩, hb⟩; obtain ⟨q1, c1, rfl, hq⟩ := HRU.out _ _ hr; have HQ1 := Lib.hid hq; have HT := Lib.hid (C.bel HT.out hb); have HT2 := Lib.hid (C.bel HT2.out hb); have HXS := Lib.hid (HXS.out.keep hb); have HB := Lib.hid (HB.out.trans (hb.mono HB.out.size)); clear hr hb hq)
                | (go_at_call 19; (with_reducible refine (HS2.out _ HT2.out).mono ?_); rintro e w6 ⟨⟨r, t2, rfl, hr, -, -⟩, hb⟩; obtain ⟨q2, c2, rfl, hq⟩ := HRU.out _ _ hr; have HQ2 := Lib.hid hq; have HQ1 := Lib.hid (HQ1.out.keep hb); have HT := Lib.hid (C.bel HT.out hb); have HT2 := Lib.hid (C.bel HT2.out hb); have HXS := Lib.hid (HXS.out.keep hb); have HB := Lib.hid (HB.out.trans (hb.mono HB.out.size)); clear hr hb hq)
                | (go_at_call 21; (with_reducible refine (HI.out _ _ _ _ _ HQ1.out HQ2.out).mono ?_); rintro e w7 ⟨rfl, hb⟩; have HT := Lib.hid (C.bel HT.out hb); have HT2 := Lib.hid (C.bel HT2.out hb); have HXS := Lib.hid (HXS.out.keep hb); have HB := Lib.hid (HB.out.trans (hb.mono HB.out.size)); clear hb))
              go_roundw
              case rel => exact ⟨k + 1, by omega, by go_num, HT, HT2, HXS, HB⟩
              case measure => simp [intOf]; omega
          · have hltz : ¬ (k : Int) < h20 := by omega
            go_wp2_with (go_at_call 10; (with_reducible refine (HAW.out _).mono ?_); rintro e w9 ⟨rfl, hb⟩; have HB := Lib.hid (HB.out.trans (hb.mono HB.out.size)); clear hb)
            go_ret
            exact ⟨rfl, HB.out⟩
  · have hbz : (80 : Int) < L.length := by omega
    clear hx hxs hc hw
    generalize L.length = m at *
    go_enter Try.func6, Try.ntmps6
    go_wp2_with (go_at_call 10; (with_reducible refine (HAW.out _).mono ?_); rintro e w9 ⟨rfl, hb⟩; have HB := Lib.hid hb; clear hb)
    go_ret
    exact ⟨rfl, HB.out⟩
end Go.Proofs.Ytgcimicbbadapaa
