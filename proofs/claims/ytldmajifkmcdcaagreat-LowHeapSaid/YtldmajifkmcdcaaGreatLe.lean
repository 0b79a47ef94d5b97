/-
  LowBegins: the lowest point is the first of the lowest ones, of fewer it is the begin of what it is of more, in order, each once; over any tree that tells the lowest.
-/
import Derived.Test.YtldmajifkmcdcaaGreatLd
namespace Go.Proofs.YtldmajifkmcdcaaGreat.Lw
open Go.ChangeShapes Go.WideShapes Go.ChangeAt Go.RowKit Go.Joins
theorem minNN (X : World) (ty : TypeId) (a b k : Nat) (hk : k = min a b) : (Builtin.min_ #[3, 3] ty #[.int .i64 a, .int .i64 b]).run Tryz.prog X = .ok (.int .i64 k) X := by
  subst hk
  by_cases h : a ≤ b
  · have h2 : ¬ (b : Int) < a := by omega
    simp [Builtin.min_, Builtin.min2, go_sem, Nat.min_eq_left h, h2]
  · have h2 : (b : Int) < a := by omega
    simp [Builtin.min_, Builtin.min2, go_sem, Nat.min_eq_right (by omega : b ≤ a), h2]
theorem slP_to (X : World) (p : Option Addr) (n c h : Nat) (hm : h ≤ c) : (Instr.slice 22 (.slice p n c) none (some (.int .i64 h)) none).run Tryz.prog X = .ok (.slice p h c) X := by
  obtain ⟨i0, hi, hz0, hz1, hz2⟩ := info_parts Tryz.info34
  simp [Instr.slice, run_underlying Tryz.underlying22, Instr.sliceBounds, Instr.sliceBound, asIntOf, sizeOf, typeInfo, hi, hm]
  cases p <;> simp [Addr.add_zero']
/-- how many of them lie between -/
def cntX (x1 x2 : Int) (A : List S3) : Nat := (A.filter (inX x1 x2)).length
theorem cntX_snoc (x1 x2 : Int) (A : List S3) (s : S3) : cntX x1 x2 (A ++ [s]) = cntX x1 x2 A + (if inX x1 x2 s = true then 1 else 0) := by
  unfold cntX
  rw [List.filter_append, List.length_append]
  cases h : inX x1 x2 s <;> simp [h]
theorem cntX_all (x1 x2 : Int) (A : List S3) : cntX x1 x2 A = (lwL x1 x2 A).length := (psort_perm _).length_eq.symm
theorem cntX_le (x1 x2 : Int) (A : List S3) : cntX x1 x2 A ≤ A.length := List.length_filter_le _ _
theorem take_min (W : List S3) (k : Nat) : W.take k = W.take (min W.length k) := by
  by_cases h : k ≤ W.length
  · rw [Nat.min_eq_right h]
  · rw [Nat.min_eq_left (by omega), List.take_of_length_le (Nat.le_refl _), List.take_of_length_le (by omega)]
set_option maxRecDepth 100000 in
set_option maxHeartbeats 12800000 in
theorem begins_walk {TS : World → Value → Nat → List Nat → List S3 → Prop} (C : LowC TS) (w : World) (p : Option Addr) (c : Nat) (L : List S3) (x1 x2 : Int) (n : Nat) (hx : TsS w p L) (hc : L.length ≤ c) (hp : p = none → c = 0) (hw : ∀ s ∈ L, Wf3 s) (hw1 : (Lit.int .i64 x1).wf = true) (hw2 : (Lit.int .i64 x2).wf = true) (hn : n ≤ 255) :
    Calls Tryz.prog 5 #[.slice p L.length c, .int .i64 x1, .int .i64 x2, .int .u8 n] w fun e w' => e = .returned (.bool true) ∧ Below w.heap.size w w' := by
  have HAW := Lib.hid (awake_any C)
  by_cases hbig : L.length ≤ 80
  · have hbz : ¬ (80 : Int) < L.length := by omega
    have HX := Lib.hid hx
    have HBU := Lib.hid (C.build w p c L hx (by omega) hc hp hw)
    obtain ⟨m, hmm⟩ : ∃ m, m = L.length := ⟨_, rfl⟩
    have HM := Lib.hid hmm
    rw [← hmm] at HBU hbz hbig ⊢
    clear hx hc hp hw hmm
    by_cases hrg : Rg L
    · obtain ⟨W, hW⟩ : ∃ W, W = lwL x1 x2 L := ⟨_, rfl⟩
      have HWW := Lib.hid hW
      have hWl : W.length ≤ m := by rw [hW, HM.out]; exact lwL_len _ _ _
      have HST := Lib.hid (show W.Pairwise (fun a b => ltL a b = true) by rw [hW]; exact lwL_strict hrg)
      have HIN := Lib.hid (show ∀ s ∈ W, x1 ≤ s.1 ∧ s.1 ≤ x2 from fun s hs => by rw [hW] at hs; exact (mem_lwL.1 hs).2)
      obtain ⟨kk, hkk⟩ : ∃ kk, kk = n % 101 := ⟨_, rfl⟩
      have hkl : kk ≤ 100 := by omega
      have hrem : Int.tmod (n : Int) 101 = (kk : Int) := by rw [Int.tmod_eq_emod_of_nonneg (by omega), hkk]; omega
      have hwk : (Lit.int .i64 (kk : Int)).wf = true := by simp [Lit.wf, show IntKind.i64.min = -9223372036854775808 from rfl, show IntKind.i64.max = 9223372036854775807 from rfl]; omega
      have HLA := Lib.hid (fun X v S (h : TS X v m S L) => lows_all C h x1 x2 1000 hw1 hw2 (by decide) (by omega) hW.symm)
      have HLF := Lib.hid (fun X v S (h : TS X v m S L) => C.lows x1 x2 (kk : Int) h hw1 hw2 hwk)
      rw [Int.toNat_natCast, ← hW] at HLF
      have HLO := Lib.hid (fun X v S p0 p1 p2 pb (h : TS X v m S L) (hf : fstL (lwL x1 x2 L) = (.agg #[.int .i64 p0, .int .i64 p1, .int .u32 p2], pb)) => lowest_is C h x1 x2 hw1 hw2 hf)
      obtain ⟨wl, hwl⟩ : ∃ wl, wl = W.length := ⟨_, rfl⟩
      have HWL := Lib.hid hwl
      obtain ⟨fl, hfl⟩ : ∃ fl, fl = min wl kk := ⟨_, rfl⟩
      have HFL : Hid ((W.take kk).length = fl) := Lib.hid (by rw [List.length_take, hfl, hwl, Nat.min_comm])
      have HTK : Hid (W.take kk = W.take fl) := Lib.hid (by rw [take_min W kk, hfl, hwl])
      have hmin := fun X ty => minNN X ty wl kk fl hfl
      have hfw : fl ≤ wl := by omega
      have HCN := Lib.hid (show cntX x1 x2 L = wl by rw [cntX_all, ← hW, hwl])
      have HCL := Lib.hid (fun A : List S3 => cntX_le x1 x2 A)
      rw [← hwl] at HLA hWl
      rw [HFL.out] at HLF
      have hnT := neT
      have hw0 : (W = [] ∧ wl = 0) ∨ ∃ s l, W = s :: l := by
        cases hWc : W with
        | nil => exact .inl ⟨rfl, by rw [hwl, hWc]; rfl⟩
        | cons s l => exact .inr ⟨s, l, rfl⟩
      clear hW hw1 hw2 hwk hkk hwl hfl
      rcases hw0 with ⟨hW0, hwl0⟩ | ⟨s, l, hWs⟩
      · obtain ⟨f0, f1, f2, hf0, hf1, hf2⟩ : ∃ (f0 f1 f2 : Int), f0 = 0 ∧ f1 = 0 ∧ f2 = 0 := ⟨0, 0, 0, rfl, rfl, rfl⟩
        have HF := Lib.hid (show fstL (lwL x1 x2 L) = (.agg #[.int .i64 f0, .int .i64 f1, .int .u32 f2], false) by rw [← HWW.out, hW0, hf0, hf1, hf2]; rfl)
        clear hf0 hf1 hf2
        have hwz : ¬ (0 : Int) < (wl : Int) := by omega
        have hwzb : decide ((0 : Int) < (wl : Int)) = false := decide_eq_false hwz
        have hwn : ¬ 0 < wl := by omega
        clear hW0 hwl0
        go_enter Tryz.func5, Tryz.ntmps5
        go_upto_region 9 with (first
          | (go_at_call 10; (with_reducible refine HBU.out.mono ?_); rintro e w1 ⟨hb, hor⟩; rcases hor with ⟨-, v, S, rfl, hT, hS⟩ | ⟨hn', -⟩; rotate_left; (exact absurd hrg hn'); rw [← HM.out] at hT; have HT := Lib.hid hT; have HB := Lib.hid hb; clear hb hT hS)
          | (go_at_call 18; (with_reducible refine (HLA.out _ _ _ HT.out).mono ?_); rintro e w2 ⟨⟨q1, c1, t1, rfl, hts, hcl, hnew⟩, hb⟩; have HTW := Lib.hid hts; have HT := Lib.hid (C.bel HT.out hb); have HB := Lib.hid (HB.out.trans (hb.mono HB.out.size)); clear hb hts hnew HLA)
          | (go_at_call 18; (with_reducible refine (HLF.out _ _ _ HT.out).mono ?_); rintro e w3 ⟨⟨r, t2, rfl, ⟨⟨q2, c2, rfl, hts, -, hcl2, -⟩, -⟩, -, -⟩, hb⟩; rw [HFL.out]; have HTF := Lib.hid hts; have HTW := Lib.hid (HTW.out.keep hb); have HT := Lib.hid (C.bel HT.out hb); have HB := Lib.hid (HB.out.trans (hb.mono HB.out.size)); clear hb hts)
          | (go_at_call 17; (with_reducible refine (HLO.out _ _ _ _ _ _ _ HT.out HF.out).mono ?_); rintro e w4 ⟨⟨t3, rfl⟩, hb⟩; have HN := Lib.hid (T1.new w4 (f0, f1, f2) 34); have hb := hb.alloc (Below.size hb) (.cells #[.int .i64 f0, .int .i64 f1, .int .u32 f2] 34); have HTF := Lib.hid (HTF.out.keep hb); have HTW := Lib.hid (HTW.out.keep hb); have HB := Lib.hid (HB.out.trans (hb.mono HB.out.size)); clear hb))
        obtain ⟨X4, hX4⟩ : ∃ X, X = w4.alloc (.cells #[.int .i64 f0, .int .i64 f1, .int .u32 f2] 34) := ⟨_, rfl⟩
        rw [show w4.alloc (.cells (tvs (f0, f1, f2)).toArray 34) = X4 from hX4.symm] at HN
        rw [← hX4] at HTF HTW HB ⊢
        clear hX4
        skip
        have hsl := fun X => slP_to X q1 wl c1 fl (by omega)
        have hwl8 : fl ≤ 8192 := by omega
        refine G2.wp_region_qk Bw (fun w => Below.refl _ w) [32] (by kernel_rfl) (by kernel_rfl) ?_
        have hd := (Below.refl X4.heap.size X4).drew
        have HN := Lib.hid (HN.out.keep hd HN.out.lt)
        have HTW := Lib.hid (HTW.out.keep hd)
        have HTF := Lib.hid (HTF.out.keep hd)
        have HB := Lib.hid (HB.out.trans (Below.mono hd HB.out.size))
        clear hd
        generalize X4.drew = X5 at *
        refine G2.callsH_cons ?_
        simp only [Nat.reduceSub, Nat.reduceAdd, List.take_succ_cons, List.take_zero, List.drop_succ_cons, List.drop_zero]
        have inst : Nonempty (Wd (Bw X5)) := ⟨⟨X5, Below.refl _ _⟩⟩
        have i0 : ∀ z : Wd (Bw X5), z.w.cell? ⟨w4.heap.size, 0, none⟩ = _ := fun z => Bw.cell z HN.out.c0
        have i1 : ∀ z : Wd (Bw X5), z.w.cell? ⟨w4.heap.size, 1, none⟩ = _ := fun z => Bw.cell z HN.out.c1
        have i2 : ∀ z : Wd (Bw X5), z.w.cell? ⟨w4.heap.size, 2, none⟩ = _ := fun z => Bw.cell z HN.out.c2
        simp only at i0 i1 i2
        repeat (first | go_big_quiet_step (fail) | quiet_step (fail))
        refine wpQuiet_nil ?_
        rintro _ ⟨z, rfl⟩
        refine G2.gOp_val rfl rfl (v := .slice q1 fl c1) (w' := z.w) ?_ ?_
        · simp [execOp, Act.eval, go_sem, hsl]
        refine ⟨⟨z, rfl⟩, ?_⟩
        refine G2.gOp_call rfl rfl (f := 19) (args := #[.slice q2 fl c2, .slice q1 fl c1]) ?_ ?_
        · simp [execOp, resolve, invoke, Act.eval, Deferred.ofValue, go_sem]
        have hsame := same_any z.w q2 q1 c2 c1 (W.take kk) (W.take fl) (HTF.out.keep z.h) ((HTW.out.take fl).keep z.h) (by rw [HFL.out]; exact hwl8)
        rw [decide_eq_true HTK.out, HFL.out, show (W.take fl).length = fl by rw [← HTK.out, HFL.out]] at hsame
        refine hsame.mono ?_
        rintro e w5 ⟨rfl, hb⟩
        refine ⟨_, rfl, ?_⟩
        have hb5 := Below.trans z.h (hb.mono (Below.size z.h))
        have HTW := Lib.hid (HTW.out.keep hb5)
        have HB := Lib.hid (HB.out.trans (Below.mono hb5 HB.out.size))
        clear hb hb5 hsame z i0 i1 i2 inst HTF 
        refine G2.callsH_nil ?_
        have inst : Nonempty (Wd (Bw w5)) := ⟨⟨w5, Below.refl _ _⟩⟩
        repeat (first | go_big_quiet_step (fail) | quiet_step (fail))
        refine wpQuiet_nil ?_
        clear inst HN
        go_wp2
        have HTx := HTW
        have HBx := HB
        go_loopw [18, 97] (fun v18 v97 wr => ∃ k : Nat, k ≤ m ∧ v97 = .int .i64 k ∧ v18 = .int .i64 (cntX x1 x2 (L.take k) : Nat) ∧ Hid (TsS wr q1 W) ∧ Hid (Below w.heap.size w wr)) (fun _ v _ => m - (intOf v).toNat)
        case atStart => exact ⟨0, Nat.zero_le _, rfl, rfl, HTx, HBx⟩
        case round =>
          clear HTW HB HTx HBx
          obtain ⟨k, hk, rfl, rfl, HTW, HB⟩ := hrel
          have hcl := HCL.out (L.take k)
          rw [List.length_take] at hcl
          by_cases hlt : k < m
          · have hltz : (k : Int) < m := by omega
            obtain ⟨y, hye⟩ : ∃ y, L[k]? = some y := ⟨_, List.getElem?_eq_getElem (by have := HM.out; omega)⟩
            have HCS : Hid (cntX x1 x2 (L.take (k + 1)) = cntX x1 x2 (L.take k) + (if inX x1 x2 y = true then 1 else 0)) := Lib.hid (by rw [List.take_add_one, hye]; exact cntX_snoc _ _ _ _)
            obtain ⟨bb, off, rfl, h1⟩ := (HX.out.keep HB.out).at hye
            have n0 := h1.c0
            have n1 := h1.c1
            have n2 := h1.c2
            obtain ⟨cn, hcn⟩ : ∃ cn, cn = cntX x1 x2 (L.take k) := ⟨_, rfl⟩
            rw [← hcn] at HCS hcl ⊢
            have HTW1 := Lib.hid (fun X (h : Below wr.heap.size wr X) => HTW.out.keep h)
            have HB1 := Lib.hid (fun X (h : Below wr.heap.size wr X) => HB.out.trans (h.mono HB.out.size))
            clear h1 hye hcn
            obtain ⟨a0, a1, a2⟩ := y
            simp only at n0 n1 n2
            have hal := (Below.refl wr.heap.size wr).alloc (Nat.le_refl _) (.cells #[.int .i64 a0, .int .i64 a1, .int .u32 a2] 34)
            have HTW := Lib.hid (HTW1.out _ hal)
            have HB := Lib.hid (HB1.out _ hal)
            clear hal HTW1 HB1
            by_cases g1 : x1 ≤ a0
            · by_cases g2 : a0 ≤ x2
              · have hin : inX x1 x2 (a0, a1, a2) = true := by simp [inX, g1, g2]
                rw [if_pos hin] at HCS
                clear hin
                go_wp2
                go_roundw
                case rel => exact ⟨k + 1, by omega, by go_num, by rw [HCS.out]; go_num, HTW, HB⟩
                case measure => simp [intOf]; omega
              · have hin : inX x1 x2 (a0, a1, a2) = false := by simp [inX, g1, g2]
                rw [if_neg (by rw [hin]; simp)] at HCS
                clear hin
                go_wp2
                go_roundw
                case rel => exact ⟨k + 1, by omega, by go_num, by rw [HCS.out]; rfl, HTW, HB⟩
                case measure => simp [intOf]; omega
            · have hin : inX x1 x2 (a0, a1, a2) = false := by simp [inX, g1]
              rw [if_neg (by rw [hin]; simp)] at HCS
              clear hin
              go_wp2
              go_roundw
              case rel => exact ⟨k + 1, by omega, by go_num, by rw [HCS.out]; rfl, HTW, HB⟩
              case measure => simp [intOf]; omega
          · obtain rfl : k = m := by omega
            have hltz : ¬ (k : Int) < k := by omega
            have HCE : Hid (cntX x1 x2 (L.take k) = wl) := Lib.hid (by rw [List.take_of_length_le (by have := HM.out; omega)]; exact HCN.out)
            rw [HCE.out]
            clear hcl HCE
            go_wp2
            have HTx := HTW
            have HBx := HB
            go_loopw [116] (fun v116 wx => ∃ i : Nat, i ≤ wl ∧ v116 = .int .i64 i ∧ Hid (TsS wx q1 W) ∧ Hid (Below w.heap.size w wx)) (fun v _ => wl - (intOf v).toNat)
            case atStart => exact ⟨0, Nat.zero_le _, rfl, HTx, HBx⟩
            case round =>
              clear HTW HB HTx HBx
              obtain ⟨i, hi, rfl, HTW, HB⟩ := hrel
              by_cases hil : i < wl
              · exact absurd hil (by omega)
              · have hilz : ¬ (i : Int) < wl := by omega
                go_wp2_with (go_at_call 9; (with_reducible refine (HAW.out _).mono ?_); rintro e w9 ⟨rfl, hb⟩; have HB := Lib.hid (HB.out.trans (hb.mono HB.out.size)); clear hb)
                go_ret
                exact ⟨rfl, HB.out⟩
      · obtain ⟨f0, f1, f2⟩ := s
        have HF := Lib.hid (show fstL (lwL x1 x2 L) = (.agg #[.int .i64 f0, .int .i64 f1, .int .u32 f2], true) by rw [← HWW.out, hWs]; rfl)
        have HSE := Lib.hid (show W[0]? = some (f0, f1, f2) by rw [hWs]; rfl)
        have hwp : 0 < wl := by rw [HWL.out, hWs]; simp
        have hwz : (0 : Int) < (wl : Int) := by omega
        have hdd : (!decide ((f0, f1, f2) = (f0, f1, f2))) = false := by simp
        clear hWs
        go_enter Tryz.func5, Tryz.ntmps5
        go_upto_region 9 with (first
          | (go_at_call 10; (with_reducible refine HBU.out.mono ?_); rintro e w1 ⟨hb, hor⟩; rcases hor with ⟨-, v, S, rfl, hT, hS⟩ | ⟨hn', -⟩; rotate_left; (exact absurd hrg hn'); rw [← HM.out] at hT; have HT := Lib.hid hT; have HB := Lib.hid hb; clear hb hT hS)
          | (go_at_call 18; (with_reducible refine (HLA.out _ _ _ HT.out).mono ?_); rintro e w2 ⟨⟨q1, c1, t1, rfl, hts, hcl, hnew⟩, hb⟩; have HTW := Lib.hid hts; have HT := Lib.hid (C.bel HT.out hb); have HB := Lib.hid (HB.out.trans (hb.mono HB.out.size)); clear hb hts hnew HLA)
          | (go_at_call 18; (with_reducible refine (HLF.out _ _ _ HT.out).mono ?_); rintro e w3 ⟨⟨r, t2, rfl, ⟨⟨q2, c2, rfl, hts, -, hcl2, -⟩, -⟩, -, -⟩, hb⟩; rw [HFL.out]; have HTF := Lib.hid hts; have HTW := Lib.hid (HTW.out.keep hb); have HT := Lib.hid (C.bel HT.out hb); have HB := Lib.hid (HB.out.trans (hb.mono HB.out.size)); clear hb hts)
          | (go_at_call 17; (with_reducible refine (HLO.out _ _ _ _ _ _ _ HT.out HF.out).mono ?_); rintro e w4 ⟨⟨t3, rfl⟩, hb⟩; have HN := Lib.hid (T1.new w4 (f0, f1, f2) 34); have hb := hb.alloc (Below.size hb) (.cells #[.int .i64 f0, .int .i64 f1, .int .u32 f2] 34); have HTF := Lib.hid (HTF.out.keep hb); have HTW := Lib.hid (HTW.out.keep hb); have HB := Lib.hid (HB.out.trans (hb.mono HB.out.size)); clear hb))
        obtain ⟨X4, hX4⟩ : ∃ X, X = w4.alloc (.cells #[.int .i64 f0, .int .i64 f1, .int .u32 f2] 34) := ⟨_, rfl⟩
        rw [show w4.alloc (.cells (tvs (f0, f1, f2)).toArray 34) = X4 from hX4.symm] at HN
        rw [← hX4] at HTF HTW HB ⊢
        clear hX4
        obtain ⟨b1, o1, hq1, hs1⟩ := HTW.out.at HSE.out
        subst hq1
        rw [Nat.zero_mul, Nat.add_zero] at hs1
        have HS1 := Lib.hid hs1
        clear hs1
        have hsl := fun X => slP_to X (some ⟨b1, o1, none⟩) wl c1 fl (by omega)
        have hwl8 : fl ≤ 8192 := by omega
        refine G2.wp_region_qk Bw (fun w => Below.refl _ w) [32] (by kernel_rfl) (by kernel_rfl) ?_
        have hd := (Below.refl X4.heap.size X4).drew
        have HN := Lib.hid (HN.out.keep hd HN.out.lt)
        have HTW := Lib.hid (HTW.out.keep hd)
        have HTF := Lib.hid (HTF.out.keep hd)
        have HS1 := Lib.hid (HS1.out.keep hd HS1.out.lt)
        have HB := Lib.hid (HB.out.trans (Below.mono hd HB.out.size))
        clear hd
        generalize X4.drew = X5 at *
        refine G2.callsH_cons ?_
        simp only [Nat.reduceSub, Nat.reduceAdd, List.take_succ_cons, List.take_zero, List.drop_succ_cons, List.drop_zero]
        have inst : Nonempty (Wd (Bw X5)) := ⟨⟨X5, Below.refl _ _⟩⟩
        have i0 : ∀ z : Wd (Bw X5), z.w.cell? ⟨w4.heap.size, 0, none⟩ = _ := fun z => Bw.cell z HN.out.c0
        have i1 : ∀ z : Wd (Bw X5), z.w.cell? ⟨w4.heap.size, 1, none⟩ = _ := fun z => Bw.cell z HN.out.c1
        have i2 : ∀ z : Wd (Bw X5), z.w.cell? ⟨w4.heap.size, 2, none⟩ = _ := fun z => Bw.cell z HN.out.c2
        have j0 : ∀ z : Wd (Bw X5), z.w.cell? ⟨b1, o1, none⟩ = _ := fun z => Bw.cell z HS1.out.c0
        have j1 : ∀ z : Wd (Bw X5), z.w.cell? ⟨b1, o1 + 1, none⟩ = _ := fun z => Bw.cell z HS1.out.c1
        have j2 : ∀ z : Wd (Bw X5), z.w.cell? ⟨b1, o1 + 2, none⟩ = _ := fun z => Bw.cell z HS1.out.c2
        simp only at i0 i1 i2 j0 j1 j2
        repeat (first | go_big_quiet_step (fail) | quiet_step (fail))
        refine wpQuiet_nil ?_
        rintro _ ⟨z, rfl⟩
        refine G2.gOp_val rfl rfl (v := .slice (some ⟨b1, o1, none⟩) fl c1) (w' := z.w) ?_ ?_
        · simp [execOp, Act.eval, go_sem, hsl]
        refine ⟨⟨z, rfl⟩, ?_⟩
        refine G2.gOp_call rfl rfl (f := 19) (args := #[.slice q2 fl c2, .slice (some ⟨b1, o1, none⟩) fl c1]) ?_ ?_
        · simp [execOp, resolve, invoke, Act.eval, Deferred.ofValue, go_sem]
        have hsame := same_any z.w q2 (some ⟨b1, o1, none⟩) c2 c1 (W.take kk) (W.take fl) (HTF.out.keep z.h) ((HTW.out.take fl).keep z.h) (by rw [HFL.out]; exact hwl8)
        rw [decide_eq_true HTK.out, HFL.out, show (W.take fl).length = fl by rw [← HTK.out, HFL.out]] at hsame
        refine hsame.mono ?_
        rintro e w5 ⟨rfl, hb⟩
        refine ⟨_, rfl, ?_⟩
        have hb5 := Below.trans z.h (hb.mono (Below.size z.h))
        have HTW := Lib.hid (HTW.out.keep hb5)
        have HB := Lib.hid (HB.out.trans (Below.mono hb5 HB.out.size))
        clear hb hb5 hsame z i0 i1 i2 inst HTF j0 j1 j2 HS1
        refine G2.callsH_nil ?_
        have inst : Nonempty (Wd (Bw w5)) := ⟨⟨w5, Below.refl _ _⟩⟩
        repeat (first | go_big_quiet_step (fail) | quiet_step (fail))
        refine wpQuiet_nil ?_
        clear inst HN
        go_wp2
        have HTx := HTW
        have HBx := HB
        go_loopw [18, 97] (fun v18 v97 wr => ∃ k : Nat, k ≤ m ∧ v97 = .int .i64 k ∧ v18 = .int .i64 (cntX x1 x2 (L.take k) : Nat) ∧ Hid (TsS wr (some ⟨b1, o1, none⟩) W) ∧ Hid (Below w.heap.size w wr)) (fun _ v _ => m - (intOf v).toNat)
        case atStart => exact ⟨0, Nat.zero_le _, rfl, rfl, HTx, HBx⟩
        case round =>
          clear HTW HB HTx HBx
          obtain ⟨k, hk, rfl, rfl, HTW, HB⟩ := hrel
          have hcl := HCL.out (L.take k)
          rw [List.length_take] at hcl
          by_cases hlt : k < m
          · have hltz : (k : Int) < m := by omega
            obtain ⟨y, hye⟩ : ∃ y, L[k]? = some y := ⟨_, List.getElem?_eq_getElem (by have := HM.out; omega)⟩
            have HCS : Hid (cntX x1 x2 (L.take (k + 1)) = cntX x1 x2 (L.take k) + (if inX x1 x2 y = true then 1 else 0)) := Lib.hid (by rw [List.take_add_one, hye]; exact cntX_snoc _ _ _ _)
            obtain ⟨bb, off, rfl, h1⟩ := (HX.out.keep HB.out).at hye
            have n0 := h1.c0
            have n1 := h1.c1
            have n2 := h1.c2
            obtain ⟨cn, hcn⟩ : ∃ cn, cn = cntX x1 x2 (L.take k) := ⟨_, rfl⟩
            rw [← hcn] at HCS hcl ⊢
            have HTW1 := Lib.hid (fun X (h : Below wr.heap.size wr X) => HTW.out.keep h)
            have HB1 := Lib.hid (fun X (h : Below wr.heap.size wr X) => HB.out.trans (h.mono HB.out.size))
            clear h1 hye hcn
            obtain ⟨a0, a1, a2⟩ := y
            simp only at n0 n1 n2
            have hal := (Below.refl wr.heap.size wr).alloc (Nat.le_refl _) (.cells #[.int .i64 a0, .int .i64 a1, .int .u32 a2] 34)
            have HTW := Lib.hid (HTW1.out _ hal)
            have HB := Lib.hid (HB1.out _ hal)
            clear hal HTW1 HB1
            by_cases g1 : x1 ≤ a0
            · by_cases g2 : a0 ≤ x2
              · have hin : inX x1 x2 (a0, a1, a2) = true := by simp [inX, g1, g2]
                rw [if_pos hin] at HCS
                clear hin
                go_wp2
                go_roundw
                case rel => exact ⟨k + 1, by omega, by go_num, by rw [HCS.out]; go_num, HTW, HB⟩
                case measure => simp [intOf]; omega
              · have hin : inX x1 x2 (a0, a1, a2) = false := by simp [inX, g1, g2]
                rw [if_neg (by rw [hin]; simp)] at HCS
                clear hin
                go_wp2
                go_roundw
                case rel => exact ⟨k + 1, by omega, by go_num, by rw [HCS.out]; rfl, HTW, HB⟩
                case measure => simp [intOf]; omega
            · have hin : inX x1 x2 (a0, a1, a2) = false := by simp [inX, g1]
              rw [if_neg (by rw [hin]; simp)] at HCS
              clear hin
              go_wp2
              go_roundw
              case rel => exact ⟨k + 1, by omega, by go_num, by rw [HCS.out]; rfl, HTW, HB⟩
              case measure => simp [intOf]; omega
          · obtain rfl : k = m := by omega
            have hltz : ¬ (k : Int) < k := by omega
            have HCE : Hid (cntX x1 x2 (L.take k) = wl) := Lib.hid (by rw [List.take_of_length_le (by have := HM.out; omega)]; exact HCN.out)
            rw [HCE.out]
            clear hcl HCE
            go_wp2
            have HTx := HTW
            have HBx := HB
            go_loopw [116] (fun v116 wx => ∃ i : Nat, i ≤ wl ∧ v116 = .int .i64 i ∧ Hid (TsS wx (some ⟨b1, o1, none⟩) W) ∧ Hid (Below w.heap.size w wx)) (fun v _ => wl - (intOf v).toNat)
            case atStart => exact ⟨0, Nat.zero_le _, rfl, HTx, HBx⟩
            case round =>
              clear HTW HB HTx HBx
              obtain ⟨i, hi, rfl, HTW, HB⟩ := hrel
              by_cases hil : i < wl
              · have hilz : (i : Int) < wl := by omega
                obtain ⟨y, hye⟩ : ∃ y, W[i]? = some y := ⟨_, List.getElem?_eq_getElem (by have := HWL.out; omega)⟩
                obtain ⟨hx1, hx2⟩ := HIN.out y (List.mem_of_getElem? hye)
                have HYE := Lib.hid hye
                obtain ⟨bb, off, hq, h1⟩ := HTW.out.at hye
                cases hq
                have n0 := h1.c0
                have n1 := h1.c1
                have n2 := h1.c2
                clear h1 hye
                obtain ⟨y0, y1, y2⟩ := y
                simp only at n0 n1 n2 hx1 hx2
                have hx1z : ¬ y0 < x1 := by omega
                have hx2z : ¬ x2 < y0 := by omega
                go_upto_region 21 with fail
                obtain ⟨Y, hY⟩ : ∃ Y, Y = wr.alloc (.cells #[.int .i64 y0, .int .i64 y1, .int .u32 y2] 34) := ⟨_, rfl⟩
                rw [← hY]
                have hal : Below wr.heap.size wr Y := hY ▸ (Below.refl _ wr).alloc (Nat.le_refl _) _
                have HNY := Lib.hid (show T1 Y wr.heap.size 0 (y0, y1, y2) from hY ▸ T1.new wr (y0, y1, y2) 34)
                have HTW := Lib.hid (HTW.out.keep hal)
                have HB := Lib.hid (HB.out.trans (hal.mono HB.out.size))
                obtain ⟨yb, hyb⟩ : ∃ yb, yb = wr.heap.size := ⟨_, rfl⟩
                rw [← hyb] at HNY ⊢
                clear hY hal n0 n1 n2 hyb
                have m0 := HNY.out.c0
                have m1 := HNY.out.c1
                have m2 := HNY.out.c2
                simp only [Nat.zero_add] at m0 m1 m2
                by_cases hi0 : i = 0
                · subst hi0
                  have h0 : ¬ (0 : Int) < ((0 : Nat) : Int) := by omega
                  have h0b : decide ((0 : Int) < ((0 : Nat) : Int)) = false := by simp
                  go_quiet (fail)
                  go_wp2
                  go_roundw
                  case rel => exact ⟨1, by omega, by go_num, Lib.hid (HTW.out.keep (drewB (Below.refl _ _))), Lib.hid (drewB HB.out)⟩
                  case measure => simp [intOf]; omega
                · have h0 : (0 : Int) < (i : Int) := by omega
                  have h0n : 0 < i := by omega
                  obtain ⟨j, hj⟩ : ∃ j, i = j + 1 := ⟨i - 1, by omega⟩
                  have hij : (i : Int) - 1 = (j : Int) := by omega
                  obtain ⟨u, hue⟩ : ∃ u, W[j]? = some u := ⟨_, List.getElem?_eq_getElem (by have := HWL.out; omega)⟩
                  have hlt := ltL_iff.1 (by
                    obtain ⟨h1, h2⟩ := List.getElem?_eq_some_iff.1 hue
                    obtain ⟨h3, h4⟩ := List.getElem?_eq_some_iff.1 HYE.out
                    have := List.pairwise_iff_getElem.1 HST.out j i h1 h3 (by omega)
                    rw [h2, h4] at this
                    exact this)
                  simp only at hlt
                  obtain ⟨b2, off2, hpe, h5⟩ := HTW.out.at hue
                  cases hpe
                  have u1 := h5.c1
                  have u2 := h5.c2
                  have hjl : j < wl := by omega
                  have hyg : ¬ y1 < u.2.1 := by omega
                  clear h5 hue hj hi0
                  by_cases he : u.2.1 = y1
                  · have heb : (u.2.1 == y1) = true := by rw [beq_iff_eq]; exact he
                    have hid : ¬ y2 ≤ u.2.2 := by omega
                    have hed : decide (u.2.1 = y1) = true := decide_eq_true he
                    clear he hlt
                    go_quiet (fail)
                    go_wp2
                    go_roundw
                    case rel => exact ⟨i + 1, by omega, by go_num, Lib.hid (HTW.out.keep (drewB (Below.refl _ _))), Lib.hid (drewB HB.out)⟩
                    case measure => simp [intOf]; omega
                  · have heb : (u.2.1 == y1) = false := by rw [beq_eq_false_iff_ne]; exact he
                    have hed : decide (u.2.1 = y1) = false := decide_eq_false he
                    clear hlt
                    go_quiet (fail)
                    go_wp2
                    go_roundw
                    case rel => exact ⟨i + 1, by omega, by go_num, Lib.hid (HTW.out.keep (drewB (Below.refl _ _))), Lib.hid (drewB HB.out)⟩
                    case measure => simp [intOf]; omega
              · have hilz : ¬ (i : Int) < wl := by omega
                go_wp2_with (go_at_call 9; (with_reducible refine (HAW.out _).mono ?_); rintro e w9 ⟨rfl, hb⟩; have HB := Lib.hid (HB.out.trans (hb.mono HB.out.size)); clear hb)
                go_ret
                exact ⟨rfl, HB.out⟩
    · go_enter Tryz.func5, Tryz.ntmps5
      go_wp2_with (first
        | (go_at_call 10; (with_reducible refine HBU.out.mono ?_); rintro e w1 ⟨hb, hor⟩; rcases hor with ⟨hn, -⟩ | ⟨-, v, S, rfl, -, -⟩; (exact absurd hn hrg); have HB := Lib.hid hb; clear hb)
        | (go_at_call 9; (with_reducible refine (HAW.out _).mono ?_); rintro e w9 ⟨rfl, hb⟩; have HB := Lib.hid (HB.out.trans (hb.mono HB.out.size)); clear hb))
      go_ret
      exact ⟨rfl, HB.out⟩
  · have hbz : (80 : Int) < L.length := by omega
    clear hx hc hw hp
    generalize L.length = m at *
    go_enter Tryz.func5, Tryz.ntmps5
    go_wp2_with (go_at_call 9; (with_reducible refine (HAW.out _).mono ?_); rintro e w9 ⟨rfl, hb⟩; have HB := Lib.hid hb; clear hb)
    go_ret
    exact ⟨rfl, HB.out⟩
end Go.Proofs.YtldmajifkmcdcaaGreat.Lw
