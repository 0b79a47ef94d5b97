/-
  IvlTurned: with all numbers the other way round a tree tells the same; over any tree of spans by their middles.
-/
import Derived.Test.YtgcimicbbadapaaGreatIx
import Derived.Test.YtgcimicbbadapaaGreatSref9
namespace Go.Proofs.YtgcimicbbadapaaGreat.Iv
open Go.ChangeShapes Go.WideShapes Go.ChangeAt Go.RowKit Go.Joins

def tn (s : S3) : S3 := (-1 - s.2.1, -1 - s.1, s.2.2)
theorem tn_rg {L : List S3} : Rg (L.map tn) ↔ Rg L := by
  unfold Rg
  have e : ((fun s : S3 => s.2.2) ∘ tn) = (fun s => s.2.2) := rfl
  rw [List.map_map, e]
  constructor
  · rintro ⟨h1, h2⟩
    exact ⟨fun s hs => by have := h1 (tn s) (List.mem_map.2 ⟨s, hs, rfl⟩); simp only [tn] at this; omega, h2⟩
  · rintro ⟨h1, h2⟩
    refine ⟨fun s hs => ?_, h2⟩
    obtain ⟨t, ht, rfl⟩ := List.mem_map.1 hs
    have := h1 t ht
    simp only [tn]; omega
theorem tn_mtS (L : List S3) (lo hi : Int) : mtS (L.map tn) (-1 - hi) (-1 - lo) = mtS L lo hi := by
  unfold mtS mtL
  by_cases h : lo ≤ hi
  · rw [if_pos h, if_pos (by omega), List.filter_map, List.map_map]
    congr 1
    have e : (mtB (-1 - hi) (-1 - lo) ∘ tn) = mtB lo hi := by
      funext s
      simp only [Function.comp, mtB, tn]
      rw [Bool.and_comm]
      congr 1 <;> exact decide_eq_decide.2 (by omega)
    rw [e]
    rfl
  · rw [if_neg h, if_neg (by omega)]
theorem tn_stb (L : List S3) (x : Int) : stb (L.map tn) (-1 - x) = stb L x := by
  unfold stb
  congr 1
  unfold stbL
  rw [List.filter_map, List.map_map]
  have e : (stbB (-1 - x) ∘ tn) = stbB x := by
    funext s
    simp only [Function.comp, stbB, tn]
    rw [Bool.and_comm]
    congr 1 <;> exact decide_eq_decide.2 (by omega)
  rw [e]
  rfl
theorem i64_range {x : Int} (h : (Lit.int .i64 x).wf = true) : -9223372036854775808 ≤ x ∧ x ≤ 9223372036854775807 := by
  simpa [Lit.wf, show IntKind.i64.min = -9223372036854775808 from rfl, show IntKind.i64.max = 9223372036854775807 from rfl] using h
theorem tn_wf {s : S3} (h : Wf3 s) : Wf3 (tn s) := by
  have h1 := i64_range h.1
  have h2 := i64_range h.2.1
  exact ⟨WalkArith.wf_i64 (by simp only [tn]; omega), WalkArith.wf_i64 (by simp only [tn]; omega), h.2.2⟩

set_option maxRecDepth 100000 in
set_option maxHeartbeats 3200000 in
theorem turned_any (w : World) (p : Option Addr) (c : Nat) (L : List S3) (hx : TsS w p L) (hl : L.length ≤ 8192) (hw : ∀ s ∈ L, Wf3 s) :
    Calls Tryz.prog 21 #[.slice p L.length c] w fun e w' => ∃ v, e = .returned v ∧ w'.ownsRow w.heap.size 34 3 v L.length (flatT (L.map tn)) ∧ Below w.heap.size w w' := by
  have HX := Lib.hid hx
  have HW := Lib.hid hw
  obtain ⟨d, hd⟩ : ∃ d, d = L.length := ⟨_, rfl⟩
  have HD := Lib.hid hd
  rw [← hd] at hl ⊢
  clear hd hx hw
  go_enter Tryz.func21, Tryz.ntmps21
  go_wp2
  go_loopw [3, 8] (fun v3 v8 wr => ∃ k : Nat, k ≤ d ∧ v8 = .int .i64 k ∧ Hid (wr.ownsRow w.heap.size 34 3 v3 k (flatT ((L.take k).map tn))) ∧ Hid (Below w.heap.size w wr)) (fun _ v _ => d - (intOf v).toNat)
  case atStart => exact ⟨0, Nat.zero_le _, rfl, Lib.hid (World.ownsRow_nil _ _ _ _), Lib.hid (Below.refl _ _)⟩
  case round =>
    obtain ⟨k, hk, rfl, HR, HB⟩ := hrel
    by_cases hlt : k < d
    · have hltz : (k : Int) < d := by omega
      obtain ⟨s, hse⟩ : ∃ s, L[k]? = some s := ⟨_, List.getElem?_eq_getElem (by have := HD.out; omega)⟩
      obtain ⟨b, off, rfl, h1⟩ := (HX.out.keep HB.out).at hse
      have n0 := h1.c0
      have n1 := h1.c1
      have n2 := h1.c2
      have HSE := Lib.hid hse
      have hwf := HW.out s (List.mem_of_getElem? hse)
      have r1 := i64_range hwf.1
      have r2 := i64_range hwf.2.1
      obtain ⟨W, hW⟩ : ∃ W, W = wr.alloc (.cells (tvs s).toArray 34) := ⟨_, rfl⟩
      have hWN := T1.new wr s 34
      rw [← hW] at hWN
      have HRW := Lib.hid (show W.ownsRow w.heap.size 34 3 u3 k (flatT ((L.take k).map tn)) by rw [hW]; exact HR.out.alloc _)
      have HBW := Lib.hid (show Below w.heap.size w W by rw [hW]; exact HB.out.alloc HB.out.size _)
      have m0 := hWN.c0
      have m1 := hWN.c1
      have m2 := hWN.c2
      simp only [Nat.zero_add] at m0 m1 m2
      obtain ⟨lo, hh, id⟩ := s
      unfold tvs at hW
      have HW2 := Lib.hid hW
      simp only at n0 n1 n2 m0 m1 m2 r1 r2
      obtain ⟨r1, r1'⟩ := r1
      obtain ⟨r2, r2'⟩ := r2
      clear hW hWN hse h1 hwf HR
      go_upto_region 5 with fail
      rw [← HW2.out]
      clear HW2 n0 n1 n2
      go_wp2_with (at_builtin; refine wpList_more Tryz.info34 rfl (by decide) (by decide) Tryz.underlying22 _ rfl (.tmp 12) (.tmp 22) rfl u3 k (flatT ((L.take k).map tn)) rfl (row_at (base' := 0) (World.ownsRow.alloc HRW.out _) (fun _ _ => ⟨rfl, Nat.zero_le _⟩)) ⟨W.heap.size, 0, none⟩ 1 1 (tvs (tn (lo, hh, id))) rfl rfl (td_at W (tn (lo, hh, id)) _) (tvs_one _) (by omega) (by decide) ?_; intro g1 c1 w1 h1 h2 h3; have H1 := Lib.hid h1; have HB1 := Lib.hid ((HBW.out.alloc HBW.out.size (.cells (tvs (tn (lo, hh, id))).toArray 34)).grown h2 (by have := HBW.out.size; simp; omega) (fun k e => (HRW.out.lt k e).1)); have HG1 := Lib.hid (show w.heap.size ≤ g1 from h3.elim (fun e => (HRW.out.lt _ e).1) (fun e => by have := HBW.out.size; simp at e; omega)); clear h1 h2 h3)
      go_roundw
      case rel =>
        refine ⟨k + 1, by omega, by go_num, Lib.hid ?_, HB1⟩
        have h := row_at (base' := w.heap.size) H1.out (fun q e => ⟨rfl, by simp [Value.ownBlock] at e; subst e; exact HG1.out⟩)
        have e1 : flatT ((L.take (k + 1)).map tn) = flatT ((L.take k).map tn) ++ tvs (tn (lo, hh, id)) := by
          rw [List.take_add_one, HSE.out, List.map_append]
          exact flatT_snoc _ _
        rw [e1]
        exact h
      case measure => simp [intOf]; omega
    · obtain rfl : k = d := by omega
      have hltz : ¬ (k : Int) < k := by omega
      go_wp2
      go_ret
      refine ⟨_, rfl, ?_, HB.out⟩
      have h := HR.out
      rw [List.take_of_length_le (by have := HD.out; omega)] at h
      exact h

set_option maxRecDepth 100000 in
set_option maxHeartbeats 6400000 in
theorem turned_walk {TS : World → Value → Nat → List Nat → List S3 → Prop} (C : IvlC TS) (w : World) (p : Option Addr) (c : Nat) (L : List S3) (lo hi : Int) (hx : TsS w p L) (hc : L.length ≤ c) (hw : ∀ s ∈ L, Wf3 s) (hlo : (Lit.int .i64 lo).wf = true) (hhi : (Lit.int .i64 hi).wf = true) :
    Calls Tryz.prog 6 #[.slice p L.length c, .int .i64 lo, .int .i64 hi] w fun e w' => e = .returned (.bool true) ∧ Below w.heap.size w w' := by
  have HAW := Lib.hid (awake_any C)
  by_cases hbig : L.length ≤ 80
  · have hbz : ¬ (80 : Int) < L.length := by omega
    have HBU := Lib.hid (C.build w p c L hx (by omega) hc hw)
    have HTU := Lib.hid (fun X (hb : Below w.heap.size w X) => turned_any X p c L (hx.keep hb) (by omega) hw)
    have HBV := Lib.hid (fun X p' c' (h : TsS X p' (L.map tn)) (h2 : L.length ≤ c') => by
      have := C.build X p' c' (L.map tn) h (by rw [List.length_map]; omega) (by rw [List.length_map]; exact h2) (fun s hs => by
        obtain ⟨t, ht, rfl⟩ := List.mem_map.1 hs
        exact tn_wf (hw t ht))
      rw [List.length_map] at this
      exact this)
    have HF := Lib.hid (show ∀ z, (stb L z).length ≤ 8192 from fun z => Nat.le_trans (stb_len L z) (by omega))
    have HF2 := Lib.hid (show ∀ y z, (mtS L y z).length ≤ 8192 from fun y z => Nat.le_trans (mtS_len L y z) (by omega))
    obtain ⟨r1, r1'⟩ := i64_range hlo
    obtain ⟨r2, r2'⟩ := i64_range hhi
    obtain ⟨m, hm⟩ : ∃ m, m = L.length := ⟨_, rfl⟩
    rw [← hm] at HBU HTU HBV hbz ⊢
    clear hx hc hw hlo hhi hm hbig
    by_cases hrg : Rg L
    · have HRG := Lib.hid hrg
      have HRN := Lib.hid (tn_rg.2 hrg)
      have HM1 := Lib.hid (fun X v n S h => C.meet (X := X) (v := v) (n := n) (S := S) (A := L) lo hi h)
      have hM2 := fun X v n S h => C.meet (X := X) (v := v) (n := n) (S := S) (A := L.map tn) (-1 - hi) (-1 - lo) h
      have HS1 := Lib.hid (fun X v n S h => C.stab (X := X) (v := v) (n := n) (S := S) (A := L) lo h)
      have hS2 := fun X v n S h => C.stab (X := X) (v := v) (n := n) (S := S) (A := L.map tn) (-1 - lo) h
      rw [tn_mtS] at hM2
      rw [tn_stb] at hS2
      have HM2 := Lib.hid hM2
      have HS2 := Lib.hid hS2
      have HI1 : Hid (∀ X q1 c1 q2 c2, NS X q1 .u32 (mtS L lo hi) → NS X q2 .u32 (mtS L lo hi) → Calls Tryz.prog 20 #[.slice q1 (mtS L lo hi).length c1, .slice q2 (mtS L lo hi).length c2] X fun e w' => e = .returned (.bool true) ∧ Below X.heap.size X w') := Lib.hid (fun X q1 c1 q2 c2 h1 h2 => by
        refine (sameIDs_any X q1 q2 c1 c2 _ _ h1 h2 (HF2.out _ _)).mono ?_
        rintro e w' ⟨rfl, hb⟩
        exact ⟨by simp, hb⟩)
      have HI2 : Hid (∀ X q1 c1 q2 c2, NS X q1 .u32 (stb L lo) → NS X q2 .u32 (stb L lo) → Calls Tryz.prog 20 #[.slice q1 (stb L lo).length c1, .slice q2 (stb L lo).length c2] X fun e w' => e = .returned (.bool true) ∧ Below X.heap.size X w') := Lib.hid (fun X q1 c1 q2 c2 h1 h2 => by
        refine (sameIDs_any X q1 q2 c1 c2 _ _ h1 h2 (HF.out _)).mono ?_
        rintro e w' ⟨rfl, hb⟩
        exact ⟨by simp, hb⟩)
      clear hM2 hS2 hrg
      generalize stb L lo = Y at *
      generalize hyl : Y.length = yl at *
      have HYL := Lib.hid hyl
      clear hyl
      generalize mtS L lo hi = Z at *
      generalize hzl : Z.length = zl at *
      have HZL := Lib.hid hzl
      clear hzl
      have HRU := Lib.hid (show ∀ (X : World) r l (Y : List Int), TL X r l Y → ∃ q c, r = .slice q l c ∧ NS X q .u32 Y from fun X r l Y h => by
        obtain ⟨-, q, c, e, h2, -⟩ := h.u
        exact ⟨q, c, e, h2⟩)
      go_enter Tryz.func6, Tryz.ntmps6
      go_wp2_with (first
        | (go_at_call 21; (with_reducible refine (HTU.out _ HB.out).mono ?_); rintro e w2 ⟨v, rfl, hr, hb⟩; obtain ⟨-, p', c', rfl, hn, -, hc', -⟩ := row_ts hr; have HN := Lib.hid hn; have hcc := hc'; have HT := Lib.hid (C.bel HT.out hb); have HB2 := Lib.hid (HB.out.trans (hb.mono HB.out.size)); clear hr hb hn hc')
        | (go_at_call 9; (with_reducible refine (HBV.out _ _ _ HN.out hcc).mono ?_); rintro e w3 ⟨hb, hor⟩; rcases hor with ⟨-, v2, S2, rfl, hT, -⟩ | ⟨hn, -⟩; rotate_left; (exact absurd HRN.out hn); have HU := Lib.hid hT; have HT := Lib.hid (C.bel HT.out hb); have HB := Lib.hid (HB2.out.trans (hb.mono HB2.out.size)); clear hb hT)
        | (go_at_call 9; (with_reducible refine HBU.out.mono ?_); rintro e w1 ⟨hb, hor⟩; rcases hor with ⟨-, v1, S1, rfl, hT, -⟩ | ⟨hn, -⟩; rotate_left; (exact absurd HRG.out hn); have HT := Lib.hid hT; have HB := Lib.hid hb; clear hb hT)
        | (go_at_call 17; (with_reducible refine (HM1.out _ _ _ _ HT.out).mono ?_); rintro e w5 ⟨⟨r, t, rfl, hr, -, -⟩, hb⟩; obtain ⟨q1, c1, rfl, hq⟩ := HRU.out _ _ _ _ hr; have HQ1 := Lib.hid hq; have HT := Lib.hid (C.bel HT.out hb); have HU := Lib.hid (C.bel HU.out hb); have HB := Lib.hid (HB.out.trans (hb.mono HB.out.size)); clear hr hb hq)
        | (go_at_call 17; (with_reducible refine (HM2.out _ _ _ _ HU.out).mono ?_); rintro e w6 ⟨⟨r, t2, rfl, hr, -, -⟩, hb⟩; obtain ⟨q2, c2, rfl, hq⟩ := HRU.out _ _ _ _ hr; have HQ2 := Lib.hid hq; have HQ1 := Lib.hid (HQ1.out.keep hb); have HT := Lib.hid (C.bel HT.out hb); have HU := Lib.hid (C.bel HU.out hb); have HB := Lib.hid (HB.out.trans (hb.mono HB.out.size)); clear hr hb hq)
        | (go_at_call 16; (with_reducible refine (HS1.out _ _ _ _ HT.out).mono ?_); rintro e w7 ⟨⟨r, t3, rfl, hr, -, -⟩, hb⟩; obtain ⟨q3, c3, rfl, hq⟩ := HRU.out _ _ _ _ hr; have HQ3 := Lib.hid hq; have HQ1 := Lib.hid (HQ1.out.keep hb); have HQ2 := Lib.hid (HQ2.out.keep hb); have HT := Lib.hid (C.bel HT.out hb); have HU := Lib.hid (C.bel HU.out hb); have HB := Lib.hid (HB.out.trans (hb.mono HB.out.size)); clear hr hb hq)
        | (go_at_call 16; (with_reducible refine (HS2.out _ _ _ _ HU.out).mono ?_); rintro e w8 ⟨⟨r, t4, rfl, hr, -, -⟩, hb⟩; obtain ⟨q4, c4, rfl, hq⟩ := HRU.out _ _ _ _ hr; have HQ4 := Lib.hid hq; have HQ1 := Lib.hid (HQ1.out.keep hb); have HQ2 := Lib.hid (HQ2.out.keep hb); have HQ3 := Lib.hid (HQ3.out.keep hb); have HB := Lib.hid (HB.out.trans (hb.mono HB.out.size)); clear hr hb hq)
        | (go_at_call 20; (with_reducible refine (HI1.out _ _ _ _ _ HQ1.out HQ2.out).mono ?_); rintro e w9 ⟨rfl, hb⟩; have HQ3 := Lib.hid (HQ3.out.keep hb); have HQ4 := Lib.hid (HQ4.out.keep hb); have HB := Lib.hid (HB.out.trans (hb.mono HB.out.size)); clear hb)
        | (go_at_call 20; (with_reducible refine (HI2.out _ _ _ _ _ HQ3.out HQ4.out).mono ?_); rintro e w10 ⟨rfl, hb⟩; have HB := Lib.hid (HB.out.trans (hb.mono HB.out.size)); clear hb)
        | (go_at_call 8; (with_reducible refine (HAW.out _).mono ?_); rintro e w11 ⟨rfl, hb⟩; have HB := Lib.hid (HB.out.trans (hb.mono HB.out.size)); clear hb))
      go_ret
      exact ⟨rfl, HB.out⟩
    · have HRG := Lib.hid hrg
      have HRN := Lib.hid (fun h => hrg (tn_rg.1 h))
      have HM := Lib.hid C.meetN
      have HS := Lib.hid C.stabN
      have HI : Hid (∀ X, Calls Tryz.prog 20 #[.slice none 0 0, .slice none 0 0] X fun e w' => e = .returned (.bool true) ∧ Below X.heap.size X w') := Lib.hid (fun X => (sameIDs_any X none none 0 0 [] [] (.inl rfl) (.inl rfl) (by simp)).mono (by rintro e w' ⟨rfl, hb⟩; exact ⟨rfl, hb⟩))
      clear hrg
      go_enter Tryz.func6, Tryz.ntmps6
      go_wp2_with (first
        | (go_at_call 21; (with_reducible refine (HTU.out _ HB.out).mono ?_); rintro e w2 ⟨v, rfl, hr, hb⟩; obtain ⟨-, p', c', rfl, hn, -, hc', -⟩ := row_ts hr; have HN := Lib.hid hn; have hcc := hc'; have HB2 := Lib.hid (HB.out.trans (hb.mono HB.out.size)); clear hr hb hn hc')
        | (go_at_call 9; (with_reducible refine (HBV.out _ _ _ HN.out hcc).mono ?_); rintro e w3 ⟨hb, hor⟩; rcases hor with ⟨hn, -⟩ | ⟨-, rfl⟩; (exact absurd hn HRN.out); have HB := Lib.hid (HB2.out.trans (hb.mono HB2.out.size)); clear hb)
        | (go_at_call 9; (with_reducible refine HBU.out.mono ?_); rintro e w1 ⟨hb, hor⟩; rcases hor with ⟨hn, -⟩ | ⟨-, rfl⟩; (exact absurd hn HRG.out); have HB := Lib.hid hb; clear hb)
        | (go_at_call 17; (with_reducible refine (HM.out _ _ _).mono ?_); rintro e w5 ⟨rfl, hb⟩; have HB := Lib.hid (HB.out.trans (hb.mono HB.out.size)); clear hb)
        | (go_at_call 16; (with_reducible refine (HS.out _ _).mono ?_); rintro e w7 ⟨rfl, hb⟩; have HB := Lib.hid (HB.out.trans (hb.mono HB.out.size)); clear hb)
        | (go_at_call 20; (with_reducible refine (HI.out _).mono ?_); rintro e w9 ⟨rfl, hb⟩; have HB := Lib.hid (HB.out.trans (hb.mono HB.out.size)); clear hb)
        | (go_at_call 8; (with_reducible refine (HAW.out _).mono ?_); rintro e w11 ⟨rfl, hb⟩; have HB := Lib.hid (HB.out.trans (hb.mono HB.out.size)); clear hb))
      go_ret
      exact ⟨rfl, HB.out⟩
  · have hbz : (80 : Int) < L.length := by omega
    clear hx hc hw hbig
    generalize L.length = m at *
    go_enter Tryz.func6, Tryz.ntmps6
    go_wp2_with (go_at_call 8; (with_reducible refine (HAW.out _).mono ?_); rintro e w9 ⟨rfl, hb⟩; have HB := Lib.hid hb; clear hb)
    go_ret
    exact ⟨rfl, HB.out⟩
end Go.Proofs.YtgcimicbbadapaaGreat.Iv
