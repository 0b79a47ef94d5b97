/-
  CornerTurned: with X the other way round a corner that way has the same; exchanged coordinates exchange the ways; over any tree that tells corners.
-/
import Derived.Test.YtadlobmhnkfnfaaGreatME
namespace Go.Proofs.YtadlobmhnkfnfaaGreat.Co
open Go.ChangeShapes Go.WideShapes Go.ChangeAt Go.RowKit Go.Joins
def bk (s : S3) : S3 := (-1 - s.1, s.2.1, s.2.2)
def ot (s : S3) : S3 := (s.2.1, s.1, s.2.2)
theorem bk_wf {s : S3} (h : Wf3 s) : Wf3 (bk s) := by
  have h1 := i64_range h.1
  exact ⟨WalkArith.wf_i64 (by simp only [bk]; omega), h.2.1, h.2.2⟩
theorem ot_wf {s : S3} (h : Wf3 s) : Wf3 (ot s) := ⟨h.2.1, h.1, h.2.2⟩
theorem turn_b0 (x y : Int) (A : List S3) : nmS (coB (-1 - x) y 1) (A.map bk) = nmS (coB x y 0) A := by
  rw [nmS_map bk (fun _ => rfl)]
  refine nmS_congr (fun s _ => ?_)
  rw [Bool.eq_iff_iff]
  simp [coB, onB_up, onB_down, bk]
theorem turn_o0 (x y : Int) (A : List S3) : nmS (coB y x 0) (A.map ot) = nmS (coB x y 0) A := by
  rw [nmS_map ot (fun _ => rfl)]
  refine nmS_congr (fun s _ => ?_)
  rw [Bool.eq_iff_iff]
  simp [coB, onB_down, ot]
  omega
theorem turn_b1 (x y : Int) (A : List S3) : nmS (coB (-1 - x) y 0) (A.map bk) = nmS (coB x y 1) A := by
  rw [nmS_map bk (fun _ => rfl)]
  refine nmS_congr (fun s _ => ?_)
  rw [Bool.eq_iff_iff]
  simp [coB, onB_up, onB_down, bk]
theorem turn_o1 (x y : Int) (A : List S3) : nmS (coB y x 2) (A.map ot) = nmS (coB x y 1) A := by
  rw [nmS_map ot (fun _ => rfl)]
  refine nmS_congr (fun s _ => ?_)
  rw [Bool.eq_iff_iff]
  simp [coB, onB_up, onB_down, ot]
  omega
theorem turn_b2 (x y : Int) (A : List S3) : nmS (coB (-1 - x) y 3) (A.map bk) = nmS (coB x y 2) A := by
  rw [nmS_map bk (fun _ => rfl)]
  refine nmS_congr (fun s _ => ?_)
  rw [Bool.eq_iff_iff]
  simp [coB, onB_up, onB_down, bk]
theorem turn_o2 (x y : Int) (A : List S3) : nmS (coB y x 1) (A.map ot) = nmS (coB x y 2) A := by
  rw [nmS_map ot (fun _ => rfl)]
  refine nmS_congr (fun s _ => ?_)
  rw [Bool.eq_iff_iff]
  simp [coB, onB_up, onB_down, ot]
  omega
theorem turn_b3 (x y : Int) (A : List S3) : nmS (coB (-1 - x) y 2) (A.map bk) = nmS (coB x y 3) A := by
  rw [nmS_map bk (fun _ => rfl)]
  refine nmS_congr (fun s _ => ?_)
  rw [Bool.eq_iff_iff]
  simp [coB, onB_up, onB_down, bk]
theorem turn_o3 (x y : Int) (A : List S3) : nmS (coB y x 3) (A.map ot) = nmS (coB x y 3) A := by
  rw [nmS_map ot (fun _ => rfl)]
  refine nmS_congr (fun s _ => ?_)
  rw [Bool.eq_iff_iff]
  simp [coB, onB_up, ot]
  omega
theorem turn_rg {L : List S3} (f : S3 → S3) (hf : ∀ s, (f s).2.2 = s.2.2) : Rg (L.map f) ↔ Rg L := by
  unfold Rg
  rw [List.map_map, show ((fun s : S3 => s.2.2) ∘ f) = (fun s => s.2.2) from funext hf]
set_option maxRecDepth 100000 in
set_option maxHeartbeats 12800000 in
theorem turned_walk {TS : World → Value → Nat → List Nat → List S3 → Prop} (C : CornC TS) (w : World) (p : Option Addr) (c : Nat) (L : List S3) (x y : Int) (way : Nat) (hx : TsS w p L) (hc : L.length ≤ c) (hp : p = none → c = 0) (hw : ∀ s ∈ L, Wf3 s) (hwx : (Lit.int .i64 x).wf = true) (hwy : (Lit.int .i64 y).wf = true) :
    Calls Tryz.prog 7 #[.slice p L.length c, .int .i64 x, .int .i64 y, .int .u8 way] w fun e w' => e = .returned (.bool true) ∧ Below w.heap.size w w' := by
  have HAW := Lib.hid (awake_any C)
  have HB := Lib.hid (Below.refl w.heap.size w)
  by_cases hbig : L.length ≤ 80
  · have hbz : ¬ (80 : Int) < L.length := by omega
    have HX := Lib.hid hx
    have HW := Lib.hid hw
    obtain ⟨er, A, n0, hA, hbu⟩ : ∃ (er : Int) (A : List S3) (n0 : Nat), A.length ≤ 80 ∧ ∀ f : S3 → S3, (∀ s, (f s).2.2 = s.2.2) → (∀ s ∈ L, Wf3 (f s)) → ∀ X p' c', TsS X p' (L.map f) → L.length ≤ c' → (p' = none → c' = 0) → Calls Tryz.prog 10 #[.slice p' L.length c'] X fun e w' => Below X.heap.size X w' ∧ ∃ v S, e = .returned (.tuple #[v, .int .i64 er]) ∧ TS w' v n0 S (A.map f) := by
      by_cases hrg : Rg L
      · refine ⟨0, L, L.length, hbig, fun f hf hwf X p' c' h1 h2 h3 => ?_⟩
        have h := C.build X p' c' (L.map f) h1 (by rw [List.length_map]; omega) (by rw [List.length_map]; exact h2) h3 (fun s hs => by obtain ⟨t, ht, rfl⟩ := List.mem_map.1 hs; exact hwf t ht)
        rw [List.length_map] at h
        refine h.mono ?_
        rintro e w' ⟨hb, hor⟩
        rcases hor with ⟨-, v, S, rfl, hT, -⟩ | ⟨hn, -⟩
        · rw [List.length_map] at hT
          exact ⟨hb, v, S, rfl, hT⟩
        · exact absurd ((turn_rg f hf).2 hrg) hn
      · refine ⟨2, [], 0, by simp, fun f hf hwf X p' c' h1 h2 h3 => ?_⟩
        have h := C.build X p' c' (L.map f) h1 (by rw [List.length_map]; omega) (by rw [List.length_map]; exact h2) h3 (fun s hs => by obtain ⟨t, ht, rfl⟩ := List.mem_map.1 hs; exact hwf t ht)
        rw [List.length_map] at h
        refine h.mono ?_
        rintro e w' ⟨hb, hor⟩
        rcases hor with ⟨hn, -⟩ | ⟨-, v, S, rfl, hT, -⟩
        · exact absurd ((turn_rg f hf).1 hn) hrg
        · exact ⟨hb, v, S, rfl, hT⟩
    have hb1 := hbu (fun s => s) (fun _ => rfl) hw
    simp only [List.map_id'] at hb1
    have HBU := Lib.hid (fun X (hb : Below w.heap.size w X) => hb1 X p c (hx.keep hb) hc hp)
    have HBK := Lib.hid (hbu bk (fun _ => rfl) (fun s hs => bk_wf (hw s hs)))
    have HBO := Lib.hid (hbu ot (fun _ => rfl) (fun s hs => ot_wf (hw s hs)))
    obtain ⟨m, hm⟩ : ∃ m, m = L.length := ⟨_, rfl⟩
    have HD := Lib.hid hm
    rw [← hm] at HBU HBK HBO hbz hbig ⊢
    have hxr := i64_range hwx
    obtain ⟨hx1, hx2⟩ := hxr
    clear hx hc hp hw hm hbu hb1
    go_enter Tryz.func7, Tryz.ntmps7
    go_wp2
    go_loopw [9, 10, 33] (fun v9 v10 v33 wr => ∃ k : Nat, k ≤ m ∧ v33 = .int .i64 k ∧ Hid (wr.ownsRow w.heap.size 33 3 v9 k (flatT ((L.take k).map bk))) ∧ Hid (wr.ownsRow w.heap.size 33 3 v10 k (flatT ((L.take k).map ot))) ∧ Hid (∀ b, v9.ownBlock = some b → v10.ownBlock ≠ some b) ∧ Hid (Below w.heap.size w wr)) (fun _ _ v _ => m - (intOf v).toNat)
    case atStart => exact ⟨0, Nat.zero_le _, rfl, Lib.hid (World.ownsRow_nil _ _ _ _), Lib.hid (World.ownsRow_nil _ _ _ _), Lib.hid (fun b e => by cases e), HB⟩
    case round =>
      clear HB
      obtain ⟨k, hk, rfl, HR, HQ, HNE, HB⟩ := hrel
      by_cases hlt : k < m
      · have hltz : (k : Int) < m := by omega
        obtain ⟨s, hse⟩ : ∃ s, L[k]? = some s := ⟨_, List.getElem?_eq_getElem (by have := HD.out; omega)⟩
        obtain ⟨b, off, rfl, h1⟩ := (HX.out.keep HB.out).at hse
        have n0' := h1.c0
        have n1 := h1.c1
        have n2 := h1.c2
        have HSE := Lib.hid hse
        have hwf := HW.out s (List.mem_of_getElem? hse)
        have r1 := i64_range hwf.1
        obtain ⟨W, hW⟩ : ∃ W, W = wr.alloc (.cells (tvs s).toArray 33) := ⟨_, rfl⟩
        have hWN := T1.new wr s 33
        rw [← hW] at hWN
        have HNW := Lib.hid hWN
        have HRW := Lib.hid (show W.ownsRow w.heap.size 33 3 u9 k (flatT ((L.take k).map bk)) by rw [hW]; exact HR.out.alloc _)
        have HQW := Lib.hid (show W.ownsRow w.heap.size 33 3 u10 k (flatT ((L.take k).map ot)) by rw [hW]; exact HQ.out.alloc _)
        have HLR := Lib.hid (show ∀ b, u9.ownBlock = some b → b < wr.heap.size from fun b e => (HR.out.lt b e).2)
        have HLQ := Lib.hid (show ∀ b, u10.ownBlock = some b → b < wr.heap.size from fun b e => (HQ.out.lt b e).2)
        have HBW := Lib.hid (show Below w.heap.size w W by rw [hW]; exact HB.out.alloc HB.out.size _)
        have m0 := hWN.c0
        have m1 := hWN.c1
        have m2 := hWN.c2
        simp only [Nat.zero_add] at m0 m1 m2
        obtain ⟨lo, hh, id⟩ := s
        unfold tvs at hW
        have HW2 := Lib.hid hW
        simp only at n0' n1 n2 m0 m1 m2 r1
        obtain ⟨r1, r1'⟩ := r1
        clear hW hWN hse h1 hwf HR HQ
        go_upto_region 8 with fail
        rw [← HW2.out]
        clear HW2 n0' n1 n2
        go_upto_region 9 with (at_builtin; refine wpList_more Tryz.info33 rfl (by decide) (by decide) Tryz.underlying22 _ rfl (.tmp 37) (.tmp 46) rfl u9 k (flatT ((L.take k).map bk)) rfl (row_at (base' := 0) (World.ownsRow.alloc HRW.out _) (fun _ _ => ⟨rfl, Nat.zero_le _⟩)) ⟨W.heap.size, 0, none⟩ 1 1 (tvs (bk (lo, hh, id))) rfl rfl (td_at W (bk (lo, hh, id)) _) (tvs_one _) (by omega) (by decide) ?_; intro g1 c1 w5 h1 h2 h3; have H1 := Lib.hid h1; have HB1 := Lib.hid ((HBW.out.alloc HBW.out.size (.cells (tvs (bk (lo, hh, id))).toArray 33)).grown h2 (by have := HBW.out.size; simp; omega) (fun k e => (HRW.out.lt k e).1)); have HG1 := Lib.hid (show w.heap.size ≤ g1 from h3.elim (fun e => (HRW.out.lt _ e).1) (fun e => by have := HBW.out.size; simp at e; omega)); have HNE1 := Lib.hid (show ∀ b, u10.ownBlock = some b → b ≠ g1 from fun b e => h3.elim (fun e2 e3 => HNE.out b (by rw [e2, e3]) e) (fun e2 e3 => by have := (HQW.out.lt b e).2; simp at e2; omega)); have HQ1 := Lib.hid (row_at (base' := w.heap.size) (World.ownsRow.alloc HQW.out (.cells (tvs (bk (lo, hh, id))).toArray 33)) (fun b e => ⟨h2.block b (by have := (HQW.out.lt b e).2; simp; omega) (fun e2 => HNE.out b e2.symm e), (HQW.out.lt b e).1⟩)); have hP5 := HNW.out.block (w' := w5) ((h2.block wr.heap.size (by have := HNW.out.lt; simp; omega) (fun e => by have := (HRW.out.lt _ e.symm).2; have := HLR.out _ e.symm; omega)).trans (Below.heap_alloc _ _ _ HNW.out.lt)); have m0 := hP5.c0; have m1 := hP5.c1; have m2 := hP5.c2; simp only [Nat.zero_add] at m0 m1 m2; clear hP5; clear h1 h2 h3)
        go_wp2_with (at_builtin; refine wpList_more Tryz.info33 rfl (by decide) (by decide) Tryz.underlying22 _ rfl (.tmp 48) (.tmp 56) rfl u10 k (flatT ((L.take k).map ot)) rfl (row_at (base' := 0) (World.ownsRow.alloc HQ1.out _) (fun _ _ => ⟨rfl, Nat.zero_le _⟩)) ⟨w5.heap.size, 0, none⟩ 1 1 (tvs (ot (lo, hh, id))) rfl rfl (td_at w5 (ot (lo, hh, id)) _) (tvs_one _) (by omega) (by decide) ?_; intro g2 c2 w6 h1 h2 h3; have H2 := Lib.hid h1; have HB2 := Lib.hid ((HB1.out.alloc HB1.out.size (.cells (tvs (ot (lo, hh, id))).toArray 33)).grown h2 (by have := HB1.out.size; simp; omega) (fun k e => (HQ1.out.lt k e).1)); have HG2 := Lib.hid (show w.heap.size ≤ g2 from h3.elim (fun e => (HQ1.out.lt _ e).1) (fun e => by have := HB1.out.size; simp at e; omega)); have hl1 := (H1.out.lt g1 rfl).2; have HNE2 := Lib.hid (show g1 ≠ g2 from fun e3 => h3.elim (fun e2 => HNE1.out g2 e2 e3.symm) (fun e2 => by simp at e2; omega)); have HR2 := Lib.hid (row_at (base' := w.heap.size) (World.ownsRow.alloc H1.out (.cells (tvs (ot (lo, hh, id))).toArray 33)) (fun b e => ⟨h2.block b (by have := (H1.out.lt b e).2; simp; omega) (fun e2 => by simp [Value.ownBlock] at e; subst e; exact HNE1.out _ e2.symm rfl), by simp [Value.ownBlock] at e; subst e; exact HG1.out⟩)); clear hl1; clear h1 h2 h3)
        go_roundw
        case rel =>
          refine ⟨k + 1, by omega, by go_num, Lib.hid ?_, Lib.hid ?_, Lib.hid (fun b e e2 => by simp [Value.ownBlock] at e e2; subst e; exact HNE2.out e2.symm), HB2⟩
          · rw [List.take_add_one, HSE.out, List.map_append]
            exact (flatT_snoc ((L.take k).map bk) (bk (lo, hh, id))) ▸ HR2.out
          · rw [List.take_add_one, HSE.out, List.map_append]
            exact (flatT_snoc ((L.take k).map ot) (ot (lo, hh, id))) ▸ row_at (base' := w.heap.size) H2.out (fun q e => ⟨rfl, by simp [Value.ownBlock] at e; subst e; exact HG2.out⟩)
        case measure => simp [intOf]; omega
      · have hltz : ¬ (k : Int) < m := by omega
        have hkm : k = m := by omega
        have hR := HR.out
        have hQ := HQ.out
        rw [hkm, List.take_of_length_le (by have := HD.out; omega)] at hR hQ
        obtain ⟨-, p1, c1', rfl, hn1, hp1, hc1, -⟩ := row_ts hR
        obtain ⟨-, p2, c2', rfl, hn2, hp2, hc2, -⟩ := row_ts hQ
        have HN1 := Lib.hid hn1
        have HN2 := Lib.hid hn2
        have HP1 := Lib.hid (fun e => (hp1 e).1)
        have HP2 := Lib.hid (fun e => (hp2 e).1)
        have HC1 := Lib.hid hc1
        have HC2 := Lib.hid hc2
        clear hR hQ HR HQ hn1 hn2 hp1 hp2 hc1 hc2 HX HW HNE hkm
        have HZ := Lib.hid (Below.refl wr.heap.size wr)
        go_upto_region 16 with (first
          | (go_at_call 10; (with_reducible refine (HBU.out _ HB.out).mono ?_); rintro e w1 ⟨hb, v1, S1, rfl, hT⟩; have HT1 := Lib.hid hT; have HZ := Lib.hid hb; have HB := Lib.hid (HB.out.trans (hb.mono HB.out.size)); clear hb hT)
          | (go_at_call 10; (with_reducible refine (HBK.out _ _ _ (HN1.out.keep HZ.out) HC1.out HP1.out).mono ?_); rintro e w2 ⟨hb, v2, S2, rfl, hT⟩; have HT2 := Lib.hid hT; have HT1 := Lib.hid (C.bel HT1.out hb); have HZ := Lib.hid (HZ.out.trans (hb.mono HZ.out.size)); have HB := Lib.hid (HB.out.trans (hb.mono HB.out.size)); clear hb hT)
          | (go_at_call 10; (with_reducible refine (HBO.out _ _ _ (HN2.out.keep HZ.out) HC2.out HP2.out).mono ?_); rintro e w3 ⟨hb, v3, S3', rfl, hT⟩; have HT3 := Lib.hid hT; have HT1 := Lib.hid (C.bel HT1.out hb); have HT2 := Lib.hid (C.bel HT2.out hb); have HB := Lib.hid (HB.out.trans (hb.mono HB.out.size)); clear hb hT))
        have hbx := hA
        clear HBU HBK HBO HN1 HN2 HP1 HP2 HC1 HC2 HZ hbig hltz hlt hk HD
        obtain hw4 | hw4 | hw4 | hw4 : (way : Int) % 4 = 0 ∨ (way : Int) % 4 = 1 ∨ (way : Int) % 4 = 2 ∨ (way : Int) % 4 = 3 := by omega
        · have HS1 := Lib.hid (fun X (h : TS X v1 n0 S1 A) => C.report x y 0 h hwx hwy (by decide))
          have HS2 := Lib.hid (fun X (h : TS X v2 n0 S2 (A.map bk)) => by have := C.report (-1 - x) y 1 h (WalkArith.wf_i64 (by omega)) hwy (by decide); rw [turn_b0 x y A] at this; exact this)
          have HS3 := Lib.hid (fun X (h : TS X v3 n0 S3' (A.map ot)) => by have := C.report y x 0 h hwy hwx (by decide); rw [turn_o0 x y A] at this; exact this)
          have HI := Lib.hid (fun X q1 c1 q2 c2 (h1 : NS X q1 .u32 (nmS (coB x y 0) A)) (h2 : NS X q2 .u32 (nmS (coB x y 0) A)) => sameIDs_any X q1 q2 c1 c2 _ _ h1 h2 (Nat.le_trans (nmS_len _ A) (by omega)))
          simp only [Int.cast_ofNat_Int] at HS1 HS2 HS3
          have hxo : bits .xor .u8 0 1 = 1 := by decide +kernel
          clear hbx
          generalize nmS (coB x y 0) A = Z at *
          simp only [decide_true] at HI
          have HRU := Lib.hid (show ∀ (Y : World) r, RL Y r Z → ∃ q c, r = .slice q Z.length c ∧ NS Y q .u32 Z from fun Y r h => by obtain ⟨q, c, h1, h2, -⟩ := h; exact ⟨q, c, h1, h2⟩)
          generalize hzl : Z.length = zl at *
          clear hzl
          go_wp2_with (first
            | (go_at_call 17; (with_reducible refine (HS1.out _ HT1.out).mono ?_); rintro e w5 ⟨⟨r, t1, rfl, hr, -, -⟩, hb⟩; obtain ⟨q1, c1, rfl, hq⟩ := HRU.out _ _ hr; have HQ1 := Lib.hid hq; have HT2 := Lib.hid (C.bel HT2.out hb); have HT3 := Lib.hid (C.bel HT3.out hb); have HB := Lib.hid (HB.out.trans (hb.mono HB.out.size)); clear hb hr hq)
            | (go_at_call 17; (with_reducible refine (HS2.out _ HT2.out).mono ?_); rintro e w6 ⟨⟨r, t2, rfl, hr, -, -⟩, hb⟩; obtain ⟨q2, c2, rfl, hq⟩ := HRU.out _ _ hr; have HQ2 := Lib.hid hq; have HQ1 := Lib.hid (HQ1.out.keep hb); have HT3 := Lib.hid (C.bel HT3.out hb); have HB := Lib.hid (HB.out.trans (hb.mono HB.out.size)); clear hb hr hq)
            | (go_at_call 17; (with_reducible refine (HS3.out _ HT3.out).mono ?_); rintro e w7 ⟨⟨r, t3, rfl, hr, -, -⟩, hb⟩; obtain ⟨q3, c3, rfl, hq⟩ := HRU.out _ _ hr; have HQ3 := Lib.hid hq; have HQ1 := Lib.hid (HQ1.out.keep hb); have HQ2 := Lib.hid (HQ2.out.keep hb); have HB := Lib.hid (HB.out.trans (hb.mono HB.out.size)); clear hb hr hq)
            | (go_at_call 23; (with_reducible refine (HI.out _ _ _ _ _ HQ1.out HQ2.out).mono ?_); rintro e w8 ⟨rfl, hb⟩; have HQ1 := Lib.hid (HQ1.out.keep hb); have HQ3 := Lib.hid (HQ3.out.keep hb); have HB := Lib.hid (HB.out.trans (hb.mono HB.out.size)); clear hb)
            | (go_at_call 23; (with_reducible refine (HI.out _ _ _ _ _ HQ1.out HQ3.out).mono ?_); rintro e wa ⟨rfl, hb⟩; have HB := Lib.hid (HB.out.trans (hb.mono HB.out.size)); clear hb)
            | (go_at_call 9; (with_reducible refine (HAW.out _).mono ?_); rintro e w9 ⟨rfl, hb⟩; have HB := Lib.hid (HB.out.trans (hb.mono HB.out.size)); clear hb))
          go_ret
          exact ⟨rfl, HB.out⟩
        · have HS1 := Lib.hid (fun X (h : TS X v1 n0 S1 A) => C.report x y 1 h hwx hwy (by decide))
          have HS2 := Lib.hid (fun X (h : TS X v2 n0 S2 (A.map bk)) => by have := C.report (-1 - x) y 0 h (WalkArith.wf_i64 (by omega)) hwy (by decide); rw [turn_b1 x y A] at this; exact this)
          have HS3 := Lib.hid (fun X (h : TS X v3 n0 S3' (A.map ot)) => by have := C.report y x 2 h hwy hwx (by decide); rw [turn_o1 x y A] at this; exact this)
          have HI := Lib.hid (fun X q1 c1 q2 c2 (h1 : NS X q1 .u32 (nmS (coB x y 1) A)) (h2 : NS X q2 .u32 (nmS (coB x y 1) A)) => sameIDs_any X q1 q2 c1 c2 _ _ h1 h2 (Nat.le_trans (nmS_len _ A) (by omega)))
          simp only [Int.cast_ofNat_Int] at HS1 HS2 HS3
          have hxo : bits .xor .u8 1 1 = 0 := by decide +kernel
          clear hbx
          generalize nmS (coB x y 1) A = Z at *
          simp only [decide_true] at HI
          have HRU := Lib.hid (show ∀ (Y : World) r, RL Y r Z → ∃ q c, r = .slice q Z.length c ∧ NS Y q .u32 Z from fun Y r h => by obtain ⟨q, c, h1, h2, -⟩ := h; exact ⟨q, c, h1, h2⟩)
          generalize hzl : Z.length = zl at *
          clear hzl
          go_wp2_with (first
            | (go_at_call 17; (with_reducible refine (HS1.out _ HT1.out).mono ?_); rintro e w5 ⟨⟨r, t1, rfl, hr, -, -⟩, hb⟩; obtain ⟨q1, c1, rfl, hq⟩ := HRU.out _ _ hr; have HQ1 := Lib.hid hq; have HT2 := Lib.hid (C.bel HT2.out hb); have HT3 := Lib.hid (C.bel HT3.out hb); have HB := Lib.hid (HB.out.trans (hb.mono HB.out.size)); clear hb hr hq)
            | (go_at_call 17; (with_reducible refine (HS2.out _ HT2.out).mono ?_); rintro e w6 ⟨⟨r, t2, rfl, hr, -, -⟩, hb⟩; obtain ⟨q2, c2, rfl, hq⟩ := HRU.out _ _ hr; have HQ2 := Lib.hid hq; have HQ1 := Lib.hid (HQ1.out.keep hb); have HT3 := Lib.hid (C.bel HT3.out hb); have HB := Lib.hid (HB.out.trans (hb.mono HB.out.size)); clear hb hr hq)
            | (go_at_call 17; (with_reducible refine (HS3.out _ HT3.out).mono ?_); rintro e w7 ⟨⟨r, t3, rfl, hr, -, -⟩, hb⟩; obtain ⟨q3, c3, rfl, hq⟩ := HRU.out _ _ hr; have HQ3 := Lib.hid hq; have HQ1 := Lib.hid (HQ1.out.keep hb); have HQ2 := Lib.hid (HQ2.out.keep hb); have HB := Lib.hid (HB.out.trans (hb.mono HB.out.size)); clear hb hr hq)
            | (go_at_call 23; (with_reducible refine (HI.out _ _ _ _ _ HQ1.out HQ2.out).mono ?_); rintro e w8 ⟨rfl, hb⟩; have HQ1 := Lib.hid (HQ1.out.keep hb); have HQ3 := Lib.hid (HQ3.out.keep hb); have HB := Lib.hid (HB.out.trans (hb.mono HB.out.size)); clear hb)
            | (go_at_call 23; (with_reducible refine (HI.out _ _ _ _ _ HQ1.out HQ3.out).mono ?_); rintro e wa ⟨rfl, hb⟩; have HB := Lib.hid (HB.out.trans (hb.mono HB.out.size)); clear hb)
            | (go_at_call 9; (with_reducible refine (HAW.out _).mono ?_); rintro e w9 ⟨rfl, hb⟩; have HB := Lib.hid (HB.out.trans (hb.mono HB.out.size)); clear hb))
          go_ret
          exact ⟨rfl, HB.out⟩
        · have HS1 := Lib.hid (fun X (h : TS X v1 n0 S1 A) => C.report x y 2 h hwx hwy (by decide))
          have HS2 := Lib.hid (fun X (h : TS X v2 n0 S2 (A.map bk)) => by have := C.report (-1 - x) y 3 h (WalkArith.wf_i64 (by omega)) hwy (by decide); rw [turn_b2 x y A] at this; exact this)
          have HS3 := Lib.hid (fun X (h : TS X v3 n0 S3' (A.map ot)) => by have := C.report y x 1 h hwy hwx (by decide); rw [turn_o2 x y A] at this; exact this)
          have HI := Lib.hid (fun X q1 c1 q2 c2 (h1 : NS X q1 .u32 (nmS (coB x y 2) A)) (h2 : NS X q2 .u32 (nmS (coB x y 2) A)) => sameIDs_any X q1 q2 c1 c2 _ _ h1 h2 (Nat.le_trans (nmS_len _ A) (by omega)))
          simp only [Int.cast_ofNat_Int] at HS1 HS2 HS3
          have hxo : bits .xor .u8 2 1 = 3 := by decide +kernel
          clear hbx
          generalize nmS (coB x y 2) A = Z at *
          simp only [decide_true] at HI
          have HRU := Lib.hid (show ∀ (Y : World) r, RL Y r Z → ∃ q c, r = .slice q Z.length c ∧ NS Y q .u32 Z from fun Y r h => by obtain ⟨q, c, h1, h2, -⟩ := h; exact ⟨q, c, h1, h2⟩)
          generalize hzl : Z.length = zl at *
          clear hzl
          go_wp2_with (first
            | (go_at_call 17; (with_reducible refine (HS1.out _ HT1.out).mono ?_); rintro e w5 ⟨⟨r, t1, rfl, hr, -, -⟩, hb⟩; obtain ⟨q1, c1, rfl, hq⟩ := HRU.out _ _ hr; have HQ1 := Lib.hid hq; have HT2 := Lib.hid (C.bel HT2.out hb); have HT3 := Lib.hid (C.bel HT3.out hb); have HB := Lib.hid (HB.out.trans (hb.mono HB.out.size)); clear hb hr hq)
            | (go_at_call 17; (with_reducible refine (HS2.out _ HT2.out).mono ?_); rintro e w6 ⟨⟨r, t2, rfl, hr, -, -⟩, hb⟩; obtain ⟨q2, c2, rfl, hq⟩ := HRU.out _ _ hr; have HQ2 := Lib.hid hq; have HQ1 := Lib.hid (HQ1.out.keep hb); have HT3 := Lib.hid (C.bel HT3.out hb); have HB := Lib.hid (HB.out.trans (hb.mono HB.out.size)); clear hb hr hq)
            | (go_at_call 17; (with_reducible refine (HS3.out _ HT3.out).mono ?_); rintro e w7 ⟨⟨r, t3, rfl, hr, -, -⟩, hb⟩; obtain ⟨q3, c3, rfl, hq⟩ := HRU.out _ _ hr; have HQ3 := Lib.hid hq; have HQ1 := Lib.hid (HQ1.out.keep hb); have HQ2 := Lib.hid (HQ2.out.keep hb); have HB := Lib.hid (HB.out.trans (hb.mono HB.out.size)); clear hb hr hq)
            | (go_at_call 23; (with_reducible refine (HI.out _ _ _ _ _ HQ1.out HQ2.out).mono ?_); rintro e w8 ⟨rfl, hb⟩; have HQ1 := Lib.hid (HQ1.out.keep hb); have HQ3 := Lib.hid (HQ3.out.keep hb); have HB := Lib.hid (HB.out.trans (hb.mono HB.out.size)); clear hb)
            | (go_at_call 23; (with_reducible refine (HI.out _ _ _ _ _ HQ1.out HQ3.out).mono ?_); rintro e wa ⟨rfl, hb⟩; have HB := Lib.hid (HB.out.trans (hb.mono HB.out.size)); clear hb)
            | (go_at_call 9; (with_reducible refine (HAW.out _).mono ?_); rintro e w9 ⟨rfl, hb⟩; have HB := Lib.hid (HB.out.trans (hb.mono HB.out.size)); clear hb))
          go_ret
          exact ⟨rfl, HB.out⟩
        · have HS1 := Lib.hid (fun X (h : TS X v1 n0 S1 A) => C.report x y 3 h hwx hwy (by decide))
          have HS2 := Lib.hid (fun X (h : TS X v2 n0 S2 (A.map bk)) => by have := C.report (-1 - x) y 2 h (WalkArith.wf_i64 (by omega)) hwy (by decide); rw [turn_b3 x y A] at this; exact this)
          have HS3 := Lib.hid (fun X (h : TS X v3 n0 S3' (A.map ot)) => by have := C.report y x 3 h hwy hwx (by decide); rw [turn_o3 x y A] at this; exact this)
          have HI := Lib.hid (fun X q1 c1 q2 c2 (h1 : NS X q1 .u32 (nmS (coB x y 3) A)) (h2 : NS X q2 .u32 (nmS (coB x y 3) A)) => sameIDs_any X q1 q2 c1 c2 _ _ h1 h2 (Nat.le_trans (nmS_len _ A) (by omega)))
          simp only [Int.cast_ofNat_Int] at HS1 HS2 HS3
          have hxo : bits .xor .u8 3 1 = 2 := by decide +kernel
          clear hbx
          generalize nmS (coB x y 3) A = Z at *
          simp only [decide_true] at HI
          have HRU := Lib.hid (show ∀ (Y : World) r, RL Y r Z → ∃ q c, r = .slice q Z.length c ∧ NS Y q .u32 Z from fun Y r h => by obtain ⟨q, c, h1, h2, -⟩ := h; exact ⟨q, c, h1, h2⟩)
          generalize hzl : Z.length = zl at *
          clear hzl
          go_wp2_with (first
            | (go_at_call 17; (with_reducible refine (HS1.out _ HT1.out).mono ?_); rintro e w5 ⟨⟨r, t1, rfl, hr, -, -⟩, hb⟩; obtain ⟨q1, c1, rfl, hq⟩ := HRU.out _ _ hr; have HQ1 := Lib.hid hq; have HT2 := Lib.hid (C.bel HT2.out hb); have HT3 := Lib.hid (C.bel HT3.out hb); have HB := Lib.hid (HB.out.trans (hb.mono HB.out.size)); clear hb hr hq)
            | (go_at_call 17; (with_reducible refine (HS2.out _ HT2.out).mono ?_); rintro e w6 ⟨⟨r, t2, rfl, hr, -, -⟩, hb⟩; obtain ⟨q2, c2, rfl, hq⟩ := HRU.out _ _ hr; have HQ2 := Lib.hid hq; have HQ1 := Lib.hid (HQ1.out.keep hb); have HT3 := Lib.hid (C.bel HT3.out hb); have HB := Lib.hid (HB.out.trans (hb.mono HB.out.size)); clear hb hr hq)
            | (go_at_call 17; (with_reducible refine (HS3.out _ HT3.out).mono ?_); rintro e w7 ⟨⟨r, t3, rfl, hr, -, -⟩, hb⟩; obtain ⟨q3, c3, rfl, hq⟩ := HRU.out _ _ hr; have HQ3 := Lib.hid hq; have HQ1 := Lib.hid (HQ1.out.keep hb); have HQ2 := Lib.hid (HQ2.out.keep hb); have HB := Lib.hid (HB.out.trans (hb.mono HB.out.size)); clear hb hr hq)
            | (go_at_call 23; (with_reducible refine (HI.out _ _ _ _ _ HQ1.out HQ2.out).mono ?_); rintro e w8 ⟨rfl, hb⟩; have HQ1 := Lib.hid (HQ1.out.keep hb); have HQ3 := Lib.hid (HQ3.out.keep hb); have HB := Lib.hid (HB.out.trans (hb.mono HB.out.size)); clear hb)
            | (go_at_call 23; (with_reducible refine (HI.out _ _ _ _ _ HQ1.out HQ3.out).mono ?_); rintro e wa ⟨rfl, hb⟩; have HB := Lib.hid (HB.out.trans (hb.mono HB.out.size)); clear hb)
            | (go_at_call 9; (with_reducible refine (HAW.out _).mono ?_); rintro e w9 ⟨rfl, hb⟩; have HB := Lib.hid (HB.out.trans (hb.mono HB.out.size)); clear hb))
          go_ret
          exact ⟨rfl, HB.out⟩
  · have hbz : (80 : Int) < L.length := by omega
    clear hx hc hw hp hbig
    generalize L.length = m at *
    go_enter Tryz.func7, Tryz.ntmps7
    go_wp2_with (go_at_call 9; (with_reducible refine (HAW.out _).mono ?_); rintro e w9 ⟨rfl, hb⟩; have HB := Lib.hid (HB.out.trans (hb.mono HB.out.size)); clear hb)
    go_ret
    exact ⟨rfl, HB.out⟩
end Go.Proofs.YtadlobmhnkfnfaaGreat.Co
