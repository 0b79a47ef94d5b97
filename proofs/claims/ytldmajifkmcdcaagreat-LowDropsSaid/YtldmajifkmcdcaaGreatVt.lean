/-
  A tree is made of right points (grown): the walk. No condition but those typed at each theorem.
-/
import Derived.Test.YtldmajifkmcdcaaGreatVs
namespace Go.Proofs.YtldmajifkmcdcaaGreat.Lv
open Go.RowKit Go.Sort Bd
set_option maxRecDepth 100000 in
set_option maxHeartbeats 6400000 in
theorem lgrown_any (w : World) (p : Option Addr) (c : Nat) (L : List S3) (hx : TsS w p L) (hl : L.length ≤ 400) (hR : Rg L) (hw : ∀ s ∈ L, Wf3 s) :
    Calls Tryz.prog 25 #[.slice p L.length c] w fun e w' => ∃ P RX, e = .returned (.pointer (some ⟨P.B, 0, none⟩)) ∧ LoM w' P RX L ∧ RX.Perm L ∧ (∀ k ∈ lblk P, w.heap.size ≤ k) ∧ Below w.heap.size w w' := by
  have HX := Lib.hid hx
  have HRG := Lib.hid hR
  have HWF := Lib.hid hw
  have HSX := Lib.hid (fun X (hb : Below w.heap.size w X) => Ln.sorted_any p c X.heap.size L (X.alloc (.cells #[.slice p L.length c] 22)) (by simp) (one_new X _ _).1 ((hx.keep hb).keep ((Below.refl _ X).alloc (Nat.le_refl _) _)) (by omega) _ Ln.cX egX Ln.swoX (fun X s t => Ln.cX_any s t X))
  obtain ⟨n, hn⟩ : ∃ n, n = L.length := ⟨_, rfl⟩
  have HN := Lib.hid hn
  rw [← hn] at HSX hl ⊢
  clear hx hR hn hw
  have HFN := Lib.hid (fun X => FNew_any X n (by omega))
  go_enter Tryz.func25, Tryz.ntmps25
  obtain ⟨T, hT⟩ : ∃ T, T = w.heap.size := ⟨_, rfl⟩
  have HTT := Lib.hid hT
  go_upto_region 2 with fail
  obtain ⟨W, hW⟩ : ∃ W, W = w.alloc (.cells #[.pointer none, .slice none 0 0, .slice none 0 0, .slice none 0 0, .pointer none, .slice none 0 0, .int .i64 n] 68) := ⟨_, rfl⟩
  rw [← hW, ← hT]
  have HV : Hid (EV 68 W T (lcs (.pointer none) (.slice none 0 0) (.slice none 0 0) (.slice none 0 0) (.pointer none) (.slice none 0 0) (.int .i64 n))) := Lib.hid (by rw [hW, hT]; exact heap_alloc_new w _)
  have HB0 : Hid (Below w.heap.size w W) := Lib.hid (by rw [hW]; exact (Below.refl _ w).alloc (Nat.le_refl _) _)
  clear hW hT
  have y0 := HV.out.cell (i := 0) rfl
  have f0 := HV.out.free 0
  go_upto_region 3 with fail
  clear y0 f0
  obtain ⟨W5, hW5⟩ : ∃ X, X = W.setCell ⟨T, 0, none⟩ (.pointer (some ⟨T, 0, none⟩)) := ⟨_, rfl⟩
  rw [← hW5]
  have HV5 : Hid (EV 68 W5 T (lcs (.pointer (some ⟨T, 0, none⟩)) (.slice none 0 0) (.slice none 0 0) (.slice none 0 0) (.pointer none) (.slice none 0 0) (.int .i64 n))) := Lib.hid (by rw [hW5]; exact HV.out.set 0 _)
  have HB5 : Hid (Below w.heap.size w W5) := Lib.hid (by rw [hW5]; exact HB0.out.setCell (by have := HTT.out; simp; omega) _)
  clear HV HB0 hW5
  go_upto_block 4 with (first
    | (go_at_call 48; (with_reducible refine (Ln.values_any _ _ _ _).mono ?_); rintro e wa ⟨rfl, rfl⟩)
    | (go_at_call 47; (refine (HSX.out _ HB5.out).mono ?_); rintro e w1 ⟨q1, c1, RX, he, h1, h2, h3, h4, h5, h6, h7⟩; rw [← HN.out] at he; subst he; have HP1 := Lib.hid h1; have HW1 := Lib.hid (ord_x HRG.out h1 h2); have HT1 := Lib.hid h3; have HG1 := Lib.hid h5; have HB51 := Lib.hid (((Below.refl W5.heap.size W5).alloc (Nat.le_refl _) _).trans (h7.mono (by simp))); clear h1 h2 h3 h4 h5 h6 h7))
  have HE1 : Hid (EV 68 w1 T (lcs (.pointer (some ⟨T, 0, none⟩)) (.slice none 0 0) (.slice none 0 0) (.slice none 0 0) (.pointer none) (.slice none 0 0) (.int .i64 n))) := Lib.hid (HV5.out.keep HB51.out HV5.out.lt)
  have HB1 : Hid (Below w.heap.size w w1) := Lib.hid (HB5.out.trans (HB51.out.mono HB5.out.size))
  have HQ1 : Hid (∀ x off, q1 = some ⟨x, off, none⟩ → x ∉ [T]) := Lib.hid (fun x off e hm => by
    have h1 := HG1.out x off e
    have h2 := HV5.out.lt
    have h3 := List.mem_singleton.1 hm
    simp at h1
    omega)
  have HLX : Hid (RX.length = n) := Lib.hid (by rw [HP1.out.length_eq, HN.out])
  have HA0 : Hid (AdM w1 w1 T n RX 0 0 (.slice none 0 0) (.slice none 0 0) (.slice none 0 0)) := Lib.hid ⟨OrR.nil _ _, World.ownsRow_nil .., HE1.out, ⟨fun x h => (by cases h), fun x h => (by cases h), fun x h => (by cases h)⟩, fun k h => (by cases h), Off.refl _ _⟩
  clear HV5 HB5 HB51 HG1 HSX HE1
  go_loopw [20] (fun iv wr => ∃ (i : Nat) (va vn ys : Value), i ≤ n ∧ iv = .int .i64 i ∧ Hid (AdM w1 wr T n RX i i va vn ys)) (fun iv _ => n - (intOf iv).toNat)
  case atStart => exact ⟨0, _, _, _, Nat.zero_le _, rfl, HA0⟩
  case round =>
    clear HA0
    obtain ⟨i, va, vn, ys, hi, rfl, HA⟩ := hrel
    by_cases hlt : i < n
    · have hltz : (i : Int) < n := by omega
      obtain ⟨s, hse⟩ : ∃ s, RX[i]? = some s := ⟨_, List.getElem?_eq_getElem (by rw [HLX.out]; exact hlt)⟩
      obtain ⟨bb, off, rfl, h1⟩ := (HT1.out.off HA.out.off (fun x off e _ => HQ1.out x off e)).at hse
      have n0 := h1.c0
      have n1 := h1.c1
      have n2 := h1.c2
      have HSE := Lib.hid hse
      obtain ⟨sx, sy, si⟩ := s
      clear h1 hse
      go_upto_region 6 with fail
      obtain ⟨X, hXd⟩ : ∃ X, X = wr.alloc (.cells #[.int .i64 sx, .int .i64 sy, .int .u32 si] 34) := ⟨_, rfl⟩
      rw [← hXd]
      have hET : EV 34 X wr.heap.size [.int .i64 sx, .int .i64 sy, .int .u32 si] := hXd ▸ heap_alloc_new wr _
      have HXB : Hid (Below wr.heap.size wr X) := Lib.hid (hXd ▸ (Below.refl _ wr).alloc (Nat.le_refl _) _)
      obtain ⟨tb, etb⟩ : ∃ tb, tb = wr.heap.size := ⟨_, rfl⟩
      rw [← etb] at hET
      rw [← etb]
      have t0 := hET.cell (i := 0) rfl
      have t2 := hET.cell (i := 2) rfl
      have HET := Lib.hid hET
      have HAX := Lib.hid (HA.out.keep HXB.out)
      have HOA := Lib.hid (fun X' (hb : Below X.heap.size X X') => (HAX.out.keep hb).add HSE.out (by omega))
      clear n0 n1 n2 hET hXd etb
      have inst : Nonempty (Wd (Bw X)) := ⟨⟨X, Below.refl _ _⟩⟩
      have b0 : ∀ z : Wd (Bw X), z.w.cell? ⟨tb, 0, none⟩ = _ := fun z => Bw.cell z t0
      have b2 : ∀ z : Wd (Bw X), z.w.cell? ⟨tb, 2, none⟩ = _ := fun z => Bw.cell z t2
      refine wp_region_qt (Bw X) 7 (by kernel_rfl) (by kernel_rfl) ((Below.refl _ X).drew) ?_
      simp only [List.take_succ_cons, List.take_zero, List.drop_succ_cons, List.drop_zero]
      repeat (first
        | go_big_quiet_step (fail)
        | quiet_step (fail))
      refine wpQuiet_nil ?_
      rintro _ ⟨z, rfl⟩
      have HBZ := Lib.hid (show Below X.heap.size X z.w from z.h)
      have HAZ := Lib.hid (HOA.out z.w HBZ.out)
      have HEZ := Lib.hid (HET.out.keep HBZ.out HET.out.lt)
      have HDZ := Lib.hid ((HAX.out.keep HBZ.out).pt HEZ.out)
      generalize z.w = w4 at *
      clear b0 b2 t0 t2 inst HOA HAX HET
      go_upto_region 7 with (go_at_call 50; (refine HAZ.out.mono ?_); rintro e w5 ⟨rfl, ⟨va', vn', h1⟩, h2⟩; have HA5 := Lib.hid h1; have HE5 := Lib.hid (HEZ.out.off h2 HDZ.out); clear h1 h2)
      have x1 := HE5.out.cell (i := 1) rfl
      have y3 := HA5.out.ev.cell (i := 3) rfl
      have HAD := Lib.hid (show AdM w1 w5.drew T n RX (i + 1) i va' vn' ys from HA5.out.keep ((Below.refl _ w5).drew))
      have z3 : (w5.alloc (.cells #[.int .i64 sy] 2)).cell? ⟨T, 3, none⟩ = some ys := cell_al _ y3
      clear HAZ HBZ HEZ HDZ HE5 HXB HA5
      go_region_law (go_loud (refine step_more info_i rfl (by decide) (by decide) under_i rfl (.tmp 36) (.tmp 39) rfl ys i _ (by simp [Act.eval]) (by exact HAD.out.y.alloc _) ⟨w5.heap.size, 0, none⟩ 1 1 [.int .i64 sy] (by simp [Act.eval]) rfl (by exact lit_atB w5 [.int .i64 sy] 2) (by simp [Value.oneCell']) (by omega) (by decide) ?_; intro g cap w6 r1 r2 r3; have R1 := Lib.hid r1; have R2 := Lib.hid r2; have R3 := Lib.hid r3; have hv6 := EV.grown (HAD.out.ev.all _) r2 (fun e => HAD.out.tys e.symm); have m1 := hv6.cell (i := 3) rfl; have m2 := hv6.free 3; clear r1 r2 r3 hv6))
      all_goals (go_wp2_with fail)
      all_goals (
        go_roundw
        case rel => exact ⟨i + 1, _, _, _, by omega, by go_num, Lib.hid (HAD.out.app HSE.out R1.out R2.out R3.out)⟩
        case measure => simp [intOf]; omega)
    · have hltz : ¬ (i : Int) < n := by omega
      obtain rfl : n = i := by omega
      have HO : Hid (OrR wr kx RX va vn) := Lib.hid (by have := HA.out.o; rw [List.take_of_length_le (by have := HLX.out; omega)] at this; exact this)
      have HY : Hid (wr.ownsRow 0 2 1 ys n ((RX.map ky).map (Value.int .i64))) := Lib.hid (by have := HA.out.y; rw [List.take_of_length_le (by have := HLX.out; omega)] at this; exact this)
      have HV5 := Lib.hid HA.out.ev
      have HFR := Lib.hid HA.out.far
      have HBR : Hid (Below w.heap.size w wr) := Lib.hid (HB1.out.trans (HA.out.off.below HB1.out.size (by have := HTT.out; simp; omega)))
      have HVT : Hid (∀ x, (va.ownBlock = some x ∨ vn.ownBlock = some x ∨ ys.ownBlock = some x) → x ∉ [T]) := Lib.hid (fun x hx hm => by
        rw [List.mem_singleton] at hm
        subst hm
        exact hx.elim HA.out.tva (fun hx => hx.elim HA.out.tvn HA.out.tys))
      have hsz := HB1.out.size
      have HSZ := Lib.hid hsz
      clear HA HT1 HQ1 hsz
      obtain ⟨nl, hnl⟩ : ∃ nl, nl = (ndN n).length := ⟨_, rfl⟩
      have HNL := Lib.hid hnl
      have HNL2 := Lib.hid (show nl = 2 * n - 1 by rw [hnl, ndN_len])
      have hnl3 : nl ≤ 1000 := by rw [hnl, ndN_len]; omega
      clear hnl
      obtain ⟨F, hF⟩ : ∃ F, F = wr.heap.size := ⟨_, rfl⟩
      have HFF := Lib.hid hF
      have HTF : Hid (T < F) := Lib.hid (by rw [hF]; exact HV5.out.lt)
      go_upto_region 10 with (go_at_call 51; (refine (HFN.out _).mono ?_); rintro e w6 ⟨rfl, hF6, hb⟩; have HB6 := Lib.hid hb; have HE6 := Lib.hid (HV5.out.keep hb HV5.out.lt); have y3 := HE6.out.cell (i := 4) rfl; have f3 := HE6.out.free 4; have HFR6 := Lib.hid hF6; clear hF6 hb)
      clear y3 f3
      rw [← HFF.out] at HFR6 HB6
      rw [← HFF.out]
      obtain ⟨W6, hW6⟩ : ∃ X, X = w6.setCell ⟨T, 4, none⟩ (.pointer (some ⟨F, 0, none⟩)) := ⟨_, rfl⟩
      rw [← hW6]
      have HE6' : Hid (EV 68 W6 T (lcs (.pointer (some ⟨T, 0, none⟩)) va vn ys (.pointer (some ⟨F, 0, none⟩)) (.slice none 0 0) (.int .i64 n))) := Lib.hid (by rw [hW6]; exact HE6.out.set 4 _)
      have hO6 : Off [T] w6 W6 := hW6 ▸ (Off.refl [T] w6).set _ _ (.inl (by simp))
      have HF6 : Hid (FR W6 F n 0 (.pointer none)) := Lib.hid (HFR6.out.block (hO6.block _ HFR6.out.lt (by have := HTF.out; simp; omega)))
      have HND := Lib.hid (FNodes_any W6 F n [F] (.inl ⟨HF6.out, rfl⟩) (by omega))
      have HB56 : Hid (Off [T] wr W6) := Lib.hid ((Off.of (S := [T]) HB6.out (by rw [HFF.out]; exact Nat.le_refl _)).trans hO6)
      have y3 := HE6'.out.cell (i := 4) rfl
      clear hO6 hW6 HE6 HFR6 hF
      go_upto_block 11 with (go_at_call 52; (refine HND.out.mono ?_); rintro e w7 ⟨vv, rfl, bl', hfs, hoff, -, hrow, -⟩; rw [← HNL.out] at hrow; obtain ⟨-, pq, cq, rfl, hnds, -, hcq, -, hpq⟩ := row_nds hrow; have HO7 := Lib.hid hoff; have HNS := Lib.hid hnds; have HRW := Lib.hid hrow; have HPQ := Lib.hid hpq; have HFR7 : Hid (∃ d pp, FR w7 F n d pp) := Lib.hid hfs.fr; clear hoff hrow hnds hpq hfs)
      clear y3
      have HE7 : Hid (EV 68 w7 T (lcs (.pointer (some ⟨T, 0, none⟩)) va vn ys (.pointer (some ⟨F, 0, none⟩)) (.slice none 0 0) (.int .i64 n))) := Lib.hid (HE6'.out.off HO7.out (by have := HTF.out; simp; omega))
      have HO57 : Hid (Off [T] wr w7) := Lib.hid (HB56.out.via HO7.out (fun k hk hm => by have := HFF.out; simp at hm; omega))
      have HB7 : Hid (Below w.heap.size w w7) := Lib.hid (HBR.out.trans (HO57.out.below HBR.out.size (by have := HTT.out; simp; omega)))
      have HOR : Hid (OrR w7 kx RX va vn) := Lib.hid (HO.out.off HO57.out (fun x hx => HVT.out x (.inl hx)) (fun x hx => HVT.out x (.inr (.inl hx))))
      have HYR : Hid (w7.ownsRow 0 2 1 ys RX.length ((RX.map ky).map (Value.int .i64))) := Lib.hid (by rw [HLX.out]; exact row_offS HY.out HO57.out (fun x hx => HVT.out x (.inr (.inr hx))))
      have HLS : Hid (∀ X kv kb, Off [T] w7 X → EV 68 X T (lcs (.pointer (some ⟨T, 0, none⟩)) va vn ys (.pointer (some ⟨F, 0, none⟩)) kv (.int .i64 n)) → LoS X ⟨T, F, kb, va, vn, ys, kv⟩ RX n) := Lib.hid (fun X kv kb ho he => ⟨he, HOR.out.off ho (fun x hx => HVT.out x (.inl hx)) (fun x hx => HVT.out x (.inr (.inl hx))), row_offS HYR.out ho (fun x hx => HVT.out x (.inr (.inr hx))), HW1.out, by rw [HLX.out]; exact hl⟩)
      have HQT : Hid (∀ b off, pq = some ⟨b, off, none⟩ → ndN n ≠ [] → b ∉ [T]) := Lib.hid (fun b off e _ hm => by
        rcases HPQ.out with e0 | ⟨g, e0, -⟩
        · rw [e0] at e; cases e
        · rw [e0] at e
          injection e with e
          injection e with e
          subst e
          have h1 := (row_lt HRW.out (k := g) (by rw [e0]; rfl)).1
          have h2 := HB56.out.size
          have h3 := HV5.out.lt
          rw [List.mem_singleton.1 hm] at h1
          omega)
      have HG0 : Hid (KsM w7 w7 T F va vn ys n RX 0 (.slice none 0 0)) := Lib.hid (KsM.zero HE7.out)
      clear HE6' HE7 HND HRW HPQ HV5 HO7 HB6 HF6 HB56 HFN HO HY HO57 HBR
      go_loopw [59] (fun iv wx => ∃ (i : Nat) (kv : Value), i ≤ nl ∧ iv = .int .i64 i ∧ Hid (KsM w7 wx T F va vn ys n RX i kv)) (fun iv _ => nl - (intOf iv).toNat)
      case atStart => exact ⟨0, _, Nat.zero_le _, rfl, HG0⟩
      case round =>
        clear HG0
        obtain ⟨i, kv, hi, rfl, HG⟩ := hrel
        by_cases hlt : i < nl
        · have hltz : (i : Int) < nl := by omega
          obtain ⟨nd, hnd⟩ : ∃ nd, (ndN n)[i]? = some nd := ⟨_, List.getElem?_eq_getElem (by rw [← HNL.out]; exact hlt)⟩
          obtain ⟨bb, off, rfl, h1⟩ := (HNS.out.off HG.out.off HQT.out).at hnd
          have hndR : (ndN RX.length)[i]? = some nd := by rw [HLX.out]; exact hnd
          have hflt : lo RX.length i < RX.length := by have := lo_of hndR; omega
          obtain ⟨s, hs⟩ : ∃ s, RX[lo RX.length i]? = some s := ⟨_, List.getElem?_eq_getElem hflt⟩
          have HS := Lib.hid hs
          have HNR := Lib.hid hndR
          have hkd := nd_kind hndR
          have hn3 := (lo_of hndR).1
          have k0 := h1.c0
          have k1 := h1.c1
          have k2 := h1.c2
          have k3 := h1.c3
          have k4 := h1.c4
          have k5 := h1.c5
          have k6 := h1.c6
          obtain ⟨d0, d1, d2, d3, d4, d5, d6⟩ := nd
          obtain ⟨f, hf⟩ : ∃ f, f = lo RX.length i := ⟨_, rfl⟩
          have HF := Lib.hid hf
          simp only [nf] at hn3
          rw [← hf] at hn3
          subst hn3
          simp only at k0 k1 k2 k3 k4 k5 k6
          clear h1 hnd hndR hflt hs hf
          go_upto_region 13 with fail
          have HKD := Lib.hid hkd
          clear hkd
          obtain ⟨X, hXd⟩ : ∃ X, X = wr.alloc (.cells #[.int .u8 d0, .int .i64 d1, .int .i64 d2, .int .i64 f, .int .i64 d4, .int .i64 d5, .int .i64 d6] 77) := ⟨_, rfl⟩
          rw [← hXd]
          have hbx : Below wr.heap.size wr X := hXd ▸ (Below.refl _ wr).alloc (Nat.le_refl _) _
          have hEX : EV 77 X wr.heap.size [.int .u8 d0, .int .i64 d1, .int .i64 d2, .int .i64 f, .int .i64 d4, .int .i64 d5, .int .i64 d6] := hXd ▸ heap_alloc_new wr _
          have HGX := Lib.hid (HG.out.keep hbx)
          obtain ⟨tb, etb⟩ : ∃ tb, tb = wr.heap.size := ⟨_, rfl⟩
          rw [← etb] at hEX
          rw [← etb]
          have htT : T ≠ tb := fun e => by have := HG.out.ev.lt; omega
          have htT2 : tb ≠ T := fun e => htT e.symm
          have x0 := hEX.cell (i := 0) rfl
          have x1 := hEX.cell (i := 1) rfl
          have x2 := hEX.cell (i := 2) rfl
          have x3 := hEX.cell (i := 3) rfl
          have x4 := hEX.cell (i := 4) rfl
          have x5 := hEX.cell (i := 5) rfl
          have x6 := hEX.cell (i := 6) rfl
          have HEX := Lib.hid (show EV 77 X.drew tb _ from hEX)
          have y5 := HGX.out.ev.cell (i := 5) rfl
          have HGD := Lib.hid (show KsM w7 X.drew T F va vn ys n RX i kv from HGX.out.keep ((Below.refl _ X).drew))
          obtain ⟨xs, hxs, hlay⟩ := HGD.out.lay HNR.out HW1.out.nodup HS.out
          rw [← HF.out] at hlay
          have HR4 : Hid (X.drew.ownsRow 0 79 8 kv i xs) := Lib.hid (row_up hxs (fun _ _ => Nat.zero_le _))
          have HLAY := Lib.hid hlay
          have z5 : (X.alloc (.cells #[.int .u8 d0, .int .i64 d1, .int .i64 d2, .int .i64 f, .int .i64 d4, .int .i64 d5, .int .i64 d6, .int .i64 f] 79)).cell? ⟨T, 5, none⟩ = some kv := cell_al _ y5
          have HTK : Hid (some tb ≠ kv.ownBlock) := Lib.hid (fun c => by
            obtain ⟨x, e⟩ := row_type HR4.out c.symm
            exact types_ne HEX.out e (by decide) rfl)
          clear hXd hbx hEX k0 k1 k2 k3 k4 k5 k6 etb HG hxs hlay
          go_region_law (go_loud (refine step_long info_kl rfl (by decide) under_kl rfl (.tmp 68) (.tmp 73) rfl kv i _ (by simp [Act.eval]) (by exact HR4.out.alloc _) ⟨X.heap.size, 0, none⟩ 1 1 (kl (d0, d1, d2, f, d4, d5, d6) (.int .i64 f)) (by simp [Act.eval]) rfl (by exact lit_atB X [.int .u8 d0, .int .i64 d1, .int .i64 d2, .int .i64 f, .int .i64 d4, .int .i64 d5, .int .i64 d6, .int .i64 f] 79) (kl_one _ _) (by omega) (by omega) (by decide) ?_; intro g cap w6 r1 r2 r3; have R1 := Lib.hid r1; have R2 := Lib.hid r2; have R3 := Lib.hid r3; have hv6 := EV.grown (HGD.out.ev.all _) r2 HGD.out.tne; have m1 := hv6.cell (i := 5) rfl; have m2 := hv6.free 5; have hx6 := EV.grown (HEX.out.all _) r2 HTK.out; have m3 := hx6.cell (i := 0) rfl; clear r1 r2 r3 hv6 hx6))
          all_goals (
            have HKH := Lib.hid (HLAY.out _ _ _ _ R1.out R2.out R3.out)
            clear R1 R2 R3 HLAY HTK HR4 HGD HEX HGX
            rcases HKD.out with ⟨e, he⟩ | ⟨l, r, e, hlr, e1, e2, e3, -, -⟩
            · simp only [Prod.mk.injEq] at e
              obtain ⟨rfl, -, -, -, -, -, -⟩ := e
              have HHE := Lib.hid he
              clear he
              go_wp2_with fail
              go_roundw
              case rel => exact ⟨i + 1, _, by omega, by go_num, Lib.hid (HKH.out.leaf HW1.out.nodup HS.out HHE.out)⟩
              case measure => simp [intOf]; omega
            · simp only [Prod.mk.injEq] at e
              obtain ⟨rfl, rfl, rfl, -, -, rfl, rfl⟩ := e
              have hn7 := HNR.out
              have HNO := Lib.hid (HKH.out.node (fun kb => HLS.out _ _ kb HKH.out.off HKH.out.ev) (by have h1 := HNL2.out; rw [HLX.out]; omega) (List.mem_of_getElem? HS.out) hn7 hlr e1 e2 e3)
              clear hlr e1 e2 e3 hn7
              go_wp2_with (go_at_call 31; (refine HNO.out.mono ?_); rintro e w9 ⟨rfl, h9⟩; have H9 := Lib.hid h9; clear h9)
              go_roundw
              case rel => exact ⟨i + 1, _, by omega, by go_num, H9⟩
              case measure => simp [intOf]; omega)
        · have hltz : ¬ (i : Int) < nl := by omega
          obtain rfl : nl = i := by omega
          have HBW : Hid (Below w.heap.size w wr) := Lib.hid (HB7.out.trans (HG.out.off.below HB7.out.size (by have := HTT.out; simp; omega)))
          have HFRW : Hid (∃ d pp, FR wr F RX.length d pp) := Lib.hid (by
            obtain ⟨d, pp, hF⟩ := HFR7.out
            rw [HLX.out]
            exact ⟨d, pp, hF.block (HG.out.off.block _ hF.lt (by have := HTF.out; simp; omega))⟩)
          have HLL := Lib.hid (fun kb => HLS.out _ kv kb HG.out.off HG.out.ev)
          clear HNS HQT HLS HFR7 HOR HYR
          go_wp2
          go_ret
          have hT0 : w.heap.size ≤ T := by rw [HTT.out]; exact Nat.le_refl _
          have hF0 : w.heap.size ≤ F := Nat.le_trans hT0 (Nat.le_of_lt HTF.out)
          have hrb : ∀ kb, ∀ k ∈ rblk ⟨T, F, kb, va, vn, ys, kv⟩, w.heap.size ≤ k := fun kb k hk => by
            have h1 := HSZ.out
            rcases mem_rblk.1 hk with e | e | e
            · exact Nat.le_trans h1 (HFR.out.1 k e)
            · exact Nat.le_trans h1 (HFR.out.2.1 k e)
            · exact Nat.le_trans h1 (HFR.out.2.2 k e)
          have hc : ((n : Nat) : Int) = ((L.length : Nat) : Int) := by rw [HN.out]
          have hRg : Rg L := HRG.out
          by_cases h0 : RX.length = 0
          · refine ⟨⟨T, F, T, va, vn, ys, kv⟩, rfl, RX, ⟨hc ▸ HLL.out T, HFRW.out, fun h => absurd h0 h, fun _ => rfl, fun s hs => HWF.out s (HP1.out.mem_iff.1 hs), fun s hs => HP1.out.mem_iff.2 hs, hRg⟩, HP1.out, fun k hk => ?_, HBW.out⟩
            simp only [lblk, List.mem_cons] at hk
            rcases hk with rfl | rfl | rfl | hk
            · exact hT0
            · exact hF0
            · exact hT0
            · exact hrb _ k hk
          · obtain ⟨kb, cap, g, hkv, hkb, hK, hI⟩ := HG.out.done (by rw [HLX.out]; exact HNL2.out) h0
            refine ⟨⟨T, F, kb, va, vn, ys, kv⟩, rfl, RX, ⟨hc ▸ HLL.out kb, HFRW.out, fun _ => ⟨cap, g, hkv, hK, hI.re (fun s => HP1.out.symm.mem_iff)⟩, fun h => absurd h h0, fun s hs => HWF.out s (HP1.out.mem_iff.1 hs), fun s hs => HP1.out.mem_iff.2 hs, hRg⟩, HP1.out, fun k hk => ?_, HBW.out⟩
            simp only [lblk, List.mem_cons] at hk
            rcases hk with rfl | rfl | rfl | hk
            · exact hT0
            · exact hF0
            · exact Nat.le_trans HB7.out.size hkb
            · exact hrb _ k hk
end Go.Proofs.YtldmajifkmcdcaaGreat.Lv
