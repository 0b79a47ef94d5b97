/-
  A tree is made of right points (grown). No condition but those typed at each theorem.
-/
import Derived.Test.YtaaiblhedanogaaGreatBh
import Derived.Test.YtaaiblhedanogaaGreatOz
namespace Go.Proofs.YtaaiblhedanogaaGreat.Bd
open Go.RowKit Go.Sort

theorem egX : ∀ args w, (callFunc 41 args).run Tryz.prog w = .ok (.enter 41 args) w := enters_of Tryz.func41 (by kernel_rfl) rfl
theorem egY : ∀ args w, (callFunc 45 args).run Tryz.prog w = .ok (.enter 45 args) w := enters_of Tryz.func45 (by kernel_rfl) rfl
/-- a sorted list of unlike names is strictly in order -/
theorem ord_x {L row : List S3} (hL : Rg L) (hp : row.Perm L) (h : row.Pairwise (fun s t => ¬ Ln.cX t s < 0)) : Ord kx row := by
  have hn : row.Pairwise (fun s t => s.2.2 ≠ t.2.2) := List.Pairwise.of_map (S := fun a b => a ≠ b) (·.2.2) (fun _ _ h => h) (Rg.perm hp.symm hL)
  refine (h.and hn).imp (fun {s t} hst => ?_)
  obtain ⟨h1, h2⟩ := hst
  rw [Ln.cX_neg] at h1
  show s.1 < t.1 ∨ s.1 = t.1 ∧ s.2.2 < t.2.2
  omega
theorem ord_y {L row : List S3} (hL : Rg L) (hp : row.Perm L) (h : row.Pairwise (fun s t => ¬ Ln.cY t s < 0)) : Ord ky row := by
  have hn : row.Pairwise (fun s t => s.2.2 ≠ t.2.2) := List.Pairwise.of_map (S := fun a b => a ≠ b) (·.2.2) (fun _ _ h => h) (Rg.perm hp.symm hL)
  refine (h.and hn).imp (fun {s t} hst => ?_)
  obtain ⟨h1, h2⟩ := hst
  rw [Ln.cY_neg] at h1
  show s.2.1 < t.2.1 ∨ s.2.1 = t.2.1 ∧ s.2.2 < t.2.2
  omega
theorem wts_perm {RX A B : List S3} (h : A.Perm B) : wts RX A = wts RX B := (h.map _).sum_nat
/-- the same points in another order -/
theorem BdM.reA {w : World} {P : BdP} {RX LY A B : List S3} (h : BdM w P RX LY A) (hp : B.Perm A) : BdM w P RX LY B :=
  ⟨by rw [hp.length_eq, wts_perm hp]; exact h.ev, h.row, h.fr, h.lsl, h.lat, fun k p e => (h.nod k p e).same (fun _ _ => hp.mem_iff), h.ap, h.pl, h.lbB⟩
/-- the cells of a tree -/
@[reducible] def bcs (a b c d e f g : Value) : List Value := [a, b, c, d, e, f, g]
set_option maxRecDepth 100000 in
set_option maxHeartbeats 6400000 in
theorem grown_any (w : World) (p : Option Addr) (c : Nat) (L : List S3) (hx : TsS w p L) (hl : L.length ≤ 400) (hR : Rg L) :
    Calls Tryz.prog 24 #[.slice p L.length c] w fun e w' => ∃ P RX LY, e = .returned (.pointer (some ⟨P.B, 0, none⟩)) ∧ BdM w' P RX LY L ∧ RX.Perm L ∧ (∀ k ∈ blks P, w.heap.size ≤ k) ∧ Below w.heap.size w w' := by
  have HX := Lib.hid hx
  have HRG := Lib.hid hR
  have HSX := Lib.hid (fun X (hb : Below w.heap.size w X) => Ln.sorted_any p c X.heap.size L (X.alloc (.cells #[.slice p L.length c] 22)) (by simp) (one_new X _ _).1 ((hx.keep hb).keep ((Below.refl _ X).alloc (Nat.le_refl _) _)) (by omega) _ Ln.cX egX Ln.swoX (fun X s t => Ln.cX_any s t X))
  have HSY := Lib.hid (fun X (hb : Below w.heap.size w X) => Ln.sorted_any p c X.heap.size L (X.alloc (.cells #[.slice p L.length c] 22)) (by simp) (one_new X _ _).1 ((hx.keep hb).keep ((Below.refl _ X).alloc (Nat.le_refl _) _)) (by omega) _ Ln.cY egY Ln.swoY (fun X s t => Ln.cY_any s t X))
  obtain ⟨n, hn⟩ : ∃ n, n = L.length := ⟨_, rfl⟩
  have HN := Lib.hid hn
  rw [← hn] at HSX HSY hl ⊢
  clear hx hR hn
  have HFN := Lib.hid (fun X => FNew_any X n (by omega))
  go_enter Tryz.func24, Tryz.ntmps24
  go_upto_region 2 with fail
  obtain ⟨T, hT⟩ : ∃ T, T = w.heap.size := ⟨_, rfl⟩
  have HTT := Lib.hid hT
  obtain ⟨W, hW⟩ : ∃ W, W = w.alloc (.cells #[.pointer none, .slice none 0 0, .slice none 0 0, .pointer none, .slice none 0 0, .int .i64 n, .int .i64 0] 65) := ⟨_, rfl⟩
  rw [← hW, ← hT]
  have HV : Hid (EV 65 W T (bcs (.pointer none) (.slice none 0 0) (.slice none 0 0) (.pointer none) (.slice none 0 0) (.int .i64 n) (.int .i64 0))) := Lib.hid (by rw [hW, hT]; exact heap_alloc_new w _)
  have HB0 : Hid (Below T w W) := Lib.hid (by rw [hW]; exact (Below.refl _ w).alloc (by omega) _)
  clear hW hT
  have y0 := HV.out.cell (i := 0) rfl
  have f0 := HV.out.free 0
  go_upto_region 3 with fail
  clear y0 f0
  obtain ⟨W5, hW5⟩ : ∃ X, X = W.setCell ⟨T, 0, none⟩ (.pointer (some ⟨T, 0, none⟩)) := ⟨_, rfl⟩
  rw [← hW5]
  have HV5 : Hid (EV 65 W5 T (bcs (.pointer (some ⟨T, 0, none⟩)) (.slice none 0 0) (.slice none 0 0) (.pointer none) (.slice none 0 0) (.int .i64 n) (.int .i64 0))) := Lib.hid (by rw [hW5]; exact HV.out.set 0 _)
  have HB5 : Hid (Below T w W5) := Lib.hid (by rw [hW5]; exact HB0.out.setCell (Nat.le_refl _) _)
  clear HV HB0 hW5
  go_wp2_with (first
    | (go_at_call 40; (with_reducible refine (Ln.values_any _ _ _ _).mono ?_); rintro e wa ⟨rfl, rfl⟩)
    | (go_at_call 39; (refine (HSX.out _ (by rw [← HTT.out]; exact HB5.out)).mono ?_); rintro e w1 ⟨q1, c1, RX, he, h1, h2, h3, h4, h5, h6, h7⟩; rw [← HN.out] at he; subst he; have HP1 := Lib.hid h1; have HW1 := Lib.hid (ord_x HRG.out h1 h2); have HT1 := Lib.hid h3; have HG1 := Lib.hid h5; have HB51 := Lib.hid (((Below.refl W5.heap.size W5).alloc (Nat.le_refl _) _).trans (h7.mono (by simp))); clear h1 h2 h3 h4 h5 h6 h7))
  have HE1 : Hid (EV 65 w1 T (bcs (.pointer (some ⟨T, 0, none⟩)) (.slice none 0 0) (.slice none 0 0) (.pointer none) (.slice none 0 0) (.int .i64 n) (.int .i64 0))) := Lib.hid (HV5.out.keep HB51.out HV5.out.lt)
  have HB1 : Hid (Below T w w1) := Lib.hid (HB5.out.trans (HB51.out.mono (by rw [HTT.out]; exact HB5.out.size)))
  have HQ1 : Hid (∀ x off, q1 = some ⟨x, off, none⟩ → x ≠ T ∧ x < w1.heap.size) := Lib.hid (fun x off e => by
    have h1 := HG1.out x off e
    have h2 := HV5.out.lt
    simp at h1
    exact ⟨by omega, h1.2⟩)
  have HLX : Hid (RX.length = n) := Lib.hid (by rw [HP1.out.length_eq, HN.out])
  clear HV5 HB5 HB51 HG1 HSX
  go_loopw [18] (fun iv wr => ∃ (i : Nat) (va vn : Value), i ≤ n ∧ iv = .int .i64 i ∧ Hid (OrR wr kx (RX.take i) va vn) ∧ Hid (EV 65 wr T (bcs (.pointer (some ⟨T, 0, none⟩)) va vn (.pointer none) (.slice none 0 0) (.int .i64 n) (.int .i64 0))) ∧ Hid ((∀ x, va.ownBlock = some x → w1.heap.size ≤ x) ∧ (∀ x, vn.ownBlock = some x → w1.heap.size ≤ x)) ∧ Hid (Off [T] w1 wr)) (fun iv _ => n - (intOf iv).toNat)
  case atStart => exact ⟨0, _, _, Nat.zero_le _, rfl, Lib.hid (OrR.nil _ _), HE1, Lib.hid ⟨fun x h => (by cases h), fun x h => (by cases h)⟩, Lib.hid (Off.refl _ _)⟩
  case round =>
    obtain ⟨i, va, vn, hi, rfl, HO, HE, HF, HOF⟩ := hrel
    by_cases hlt : i < n
    · have hltz : (i : Int) < n := by omega
      obtain ⟨s, hse⟩ : ∃ s, RX[i]? = some s := ⟨_, List.getElem?_eq_getElem (by rw [HLX.out]; exact hlt)⟩
      obtain ⟨bb, off, rfl, h1⟩ := (HT1.out.off HOF.out (fun x off e _ => by have := HQ1.out x off e; simp; omega)).at hse
      have n0 := h1.c0
      have n1 := h1.c1
      have n2 := h1.c2
      have HSE := Lib.hid hse
      obtain ⟨sx, sy, si⟩ := s
      clear h1 hse
      go_upto_region 6 with fail
      obtain ⟨X, hXd⟩ : ∃ X, X = wr.alloc (.cells #[.int .i64 sx, .int .i64 sy, .int .u32 si] 34) := ⟨_, rfl⟩
      rw [← hXd]
      have hET : EV 34 X wr.heap.size [.int .i64 sx, .int .i64 sy, .int .u32 si] := hXd ▸ heap_alloc_new wr _
      have HXB : Hid (Below wr.heap.size wr X) := Lib.hid (hXd ▸ (Below.refl _ wr).alloc (Nat.le_refl _) _)
      have HET := Lib.hid hET
      obtain ⟨tb, etb⟩ : ∃ tb, tb = wr.heap.size := ⟨_, rfl⟩
      rw [← etb] at HET
      rw [← etb]
      clear n0 n1 n2 hET hXd etb
      have HOA := Lib.hid (fun Y (hb : Below X.heap.size X Y) => by
        have hb2 : Below wr.heap.size wr Y := HXB.out.trans (hb.mono HXB.out.size)
        have hO := HO.out.keep hb2
        have hE := HE.out.keep hb2 HE.out.lt
        exact oadd_any (s := (sx, sy, si)) (o := 1) hE rfl rfl hO (fun c => by obtain ⟨x, e⟩ := row_type hO.ra c; exact types_ne hE e (by decide) rfl) (fun c => by obtain ⟨x, e⟩ := row_type hO.rn c; exact types_ne hE e (by decide) rfl) (by rw [List.length_take]; omega))
      have inst : Nonempty (Wd (Bw X)) := ⟨⟨X, Below.refl _ _⟩⟩
      have b0 : ∀ z : Wd (Bw X), z.w.cell? ⟨tb, 0, none⟩ = _ := fun z => Bw.cell z (HET.out.cell (i := 0) rfl)
      have b2 : ∀ z : Wd (Bw X), z.w.cell? ⟨tb, 2, none⟩ = _ := fun z => Bw.cell z (HET.out.cell (i := 2) rfl)
      refine wp_region_qc (Bw X) 7 (by kernel_rfl) (by kernel_rfl) ((Below.refl _ X).drew) ?_
      simp only [List.take_succ_cons, List.take_zero, List.drop_succ_cons, List.drop_zero]
      repeat (first | go_big_quiet_step (fail) | quiet_step (fail))
      refine wpQuiet_nil ?_
      rintro _ ⟨z3, rfl⟩
      refine wpOp_callW rfl rfl (f := 42) (args := #[.pointer (some ⟨T, 1, none⟩), .int .i64 sx, .int .u32 si]) (by simp [execOp, resolve, invoke, Act.eval, Deferred.ofValue, go_sem]) ?_
      refine (HOA.out z3.w z3.h).mono ?_
      rintro e w5 ⟨rfl, va', vn', hr5, hE5, ho5, q1', q2'⟩
      refine ⟨_, rfl, ?_⟩
      refine wpQuiet_nil ?_
      have hb3 : Below wr.heap.size wr z3.w := HXB.out.trans (Below.mono z3.h HXB.out.size)
      have hsz : w1.heap.size ≤ z3.w.heap.size := Nat.le_trans HOF.out.size hb3.size
      have HO5 : Hid (OrR w5 kx (RX.take (i + 1)) va' vn') := Lib.hid (by rw [List.take_add_one, HSE.out]; exact hr5)
      have HE5 : Hid (EV 65 w5 T (bcs (.pointer (some ⟨T, 0, none⟩)) va' vn' (.pointer none) (.slice none 0 0) (.int .i64 n) (.int .i64 0))) := Lib.hid hE5
      have HF5 : Hid ((∀ x, va'.ownBlock = some x → w1.heap.size ≤ x) ∧ (∀ x, vn'.ownBlock = some x → w1.heap.size ≤ x)) := Lib.hid ⟨fun x hx => (q1' x hx).elim (HF.out.1 x) (fun g => by omega), fun x hx => (q2' x hx).elim (HF.out.2 x) (fun g => by omega)⟩
      have HOF5 : Hid (Off [T] w1 w5) := Lib.hid ((HOF.out.bel hb3).via ho5 (fun k hk hm => by
        simp only [List.mem_cons, List.mem_append, Option.mem_toList] at hm
        rcases hm with rfl | hm | hm
        · simp
        · have := HF.out.1 k hm; omega
        · have := HF.out.2 k hm; omega))
      clear hr5 hE5 ho5 q1' q2' b0 b2 inst HOA hb3 hsz
      go_wp2
      go_roundw
      case rel => exact ⟨i + 1, _, _, by omega, by go_num, HO5, HE5, HF5, HOF5⟩
      case measure => simp [intOf]; omega
    · have hltz : ¬ (i : Int) < n := by omega
      obtain rfl : i = n := by omega
      have HO : Hid (OrR wr kx RX va vn) := Lib.hid (by have := HO.out; rw [List.take_of_length_le (by have := HLX.out; omega)] at this; exact this)
      go_upto_region 9 with (go_at_call 43; (refine (HFN.out _).mono ?_); rintro e w6 ⟨rfl, hF, hb⟩; have HFB := Lib.hid hF; have HB6 := Lib.hid hb; have HE6 := Lib.hid (HE.out.keep hb HE.out.lt); have d3 := HE6.out.cell (i := 3) rfl; have g3 := HE6.out.free 3; clear hF hb)
      clear d3 g3
      obtain ⟨W9, hW9⟩ : ∃ X, X = w6.setCell ⟨T, 3, none⟩ (.pointer (some ⟨wr.heap.size, 0, none⟩)) := ⟨_, rfl⟩
      rw [← hW9]
      have HE9 : Hid (EV 65 W9 T (bcs (.pointer (some ⟨T, 0, none⟩)) va vn (.pointer (some ⟨wr.heap.size, 0, none⟩)) (.slice none 0 0) (.int .i64 i) (.int .i64 0))) := Lib.hid (by rw [hW9]; exact HE6.out.set 3 _)
      have hO9 : Off [T] w6 W9 := hW9 ▸ (Off.refl _ w6).set _ _ (.inl (by simp))
      have HO9 : Hid (OrR W9 kx RX va vn) := Lib.hid ((HO.out.keep HB6.out).off hO9 (fun x hx hm => by
        obtain ⟨c', e'⟩ := row_type (HO.out.keep HB6.out).ra hx
        simp only [List.mem_singleton] at hm
        exact types_ne e' HE6.out (by decide) hm) (fun x hx hm => by
        obtain ⟨c', e'⟩ := row_type (HO.out.keep HB6.out).rn hx
        simp only [List.mem_singleton] at hm
        exact types_ne e' HE6.out (by decide) hm))
      have HFR9 : Hid (FR W9 wr.heap.size RX.length 0 (.pointer none)) := Lib.hid (by
        rw [HLX.out]
        exact HFB.out.block (hO9.block _ HFB.out.lt (by have := HE.out.lt; simp; omega)))
      have HOF9 : Hid (Off [T] w1 W9) := Lib.hid (((HOF.out.bel HB6.out)).via hO9 (fun _ _ h => h))
      have HB9 : Hid (Below T w W9) := Lib.hid (HB1.out.trans (HOF9.out.below (by rw [HTT.out]; exact HB1.out.size) (by simp)))
      have HN9 : Hid (w1.heap.size ≤ wr.heap.size) := Lib.hid HOF.out.size
      clear hW9 hO9 HE HO HOF HB6 HE6 HFB HT1 HE1
      go_wp2_with (first
        | (go_at_call 40; (with_reducible refine (Ln.values_any _ _ _ _).mono ?_); rintro e wa ⟨rfl, rfl⟩)
        | (go_at_call 39; (refine (HSY.out _ (by rw [← HTT.out]; exact HB9.out)).mono ?_); rintro e w7 ⟨q2, c2, LY, he, h1, h2, h3, h4, h5, h6, h7⟩; rw [← HN.out, ← show LY.length = i by rw [h1.length_eq, HN.out]] at he; subst he; have HP2 := Lib.hid h1; have HW2 := Lib.hid (ord_y HRG.out h1 h2); have HT2 := Lib.hid h3; have HG2 := Lib.hid h5; have HB7 := Lib.hid (((Below.refl W9.heap.size W9).alloc (Nat.le_refl _) _).trans (h7.mono (by simp))); clear h1 h2 h3 h4 h5 h6 h7)
        | (go_at_call 44; go_loud (refine (fill_any T wr.heap.size 0 (.pointer none) va vn q2 c2 (RX := RX) (by have := HE9.out.keep HB7.out HE9.out.lt; rw [show i = LY.length by rw [HP2.out.length_eq, HN.out]] at this; exact this) (HO9.out.keep HB7.out) (HFR9.out.keep HB7.out) ⟨HW1.out, HW2.out, HP1.out.trans HP2.out.symm, by have := HLX.out; omega⟩ HT2.out (fun x off e => by have h1 := HG2.out x off e; have h2 := HE9.out.lt; simp at h1; omega)).mono ?_); rintro e w8 ⟨rfl, ⟨Q, r1, r2, r3⟩, r4⟩; have HR1 := Lib.hid r1; have HR2 := Lib.hid r2; have HR3 := Lib.hid r3; have HR4 := Lib.hid r4; clear r1 r2 r3 r4))
      go_ret
      have hb7 : Below T w w7 := HB9.out.trans (HB7.out.mono (by rw [HTT.out]; exact HB9.out.size))
      refine ⟨Q, RX, LY, by rw [HR1.out]; rfl, HR2.out.reA HP2.out.symm, HP1.out, fun k hk => ?_, ?_⟩
      · have h1 := HB1.out.size
        have h2 := HTT.out
        have h3 := HN9.out
        have h4 := hb7.size
        rcases HR3.out k hk with g | g | g | g | g
        · omega
        · omega
        · have := HF.out.1 k g; omega
        · have := HF.out.2 k g; omega
        · omega
      · rw [← HTT.out]
        exact hb7.trans (HR4.out.below (by rw [HTT.out]; exact hb7.size) (by simp))
end Go.Proofs.YtaaiblhedanogaaGreat.Bd
