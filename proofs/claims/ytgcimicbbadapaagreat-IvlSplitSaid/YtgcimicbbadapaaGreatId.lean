/-
  A line's drop. No condition but those typed at each theorem.
-/
import Derived.Test.YtgcimicbbadapaaGreatIb
import Derived.Test.YtgcimicbbadapaaGreatIo
import Derived.Test.YtgcimicbbadapaaGreatTold
namespace Go.Proofs.YtgcimicbbadapaaGreat.Iv
open Go.RowKit

/-- spans cut out of a list -/
theorem sl_seg {w : World} {p : Option Addr} {L : List S3} {c i k : Nat} (h : TsS w p L) (hik : i ≤ k) (hk : k ≤ L.length) (hc : L.length ≤ c) :
    ∃ q, (∀ w', TsS w' p L → TsS w' q ((L.drop i).take (k - i))) ∧ ∀ X, (Instr.slice 22 (.slice p L.length c) (some (.int .i64 i)) (some (.int .i64 k)) none).run Tryz.prog X = .ok (.slice q (k - i) (c - i)) X := by
  obtain ⟨i0, hi, hz0, hz1, hz2⟩ := info_parts Tryz.info34
  by_cases h3 : c = i
  · have hL : (L.drop i).take (k - i) = [] := by rw [show k - i = 0 by omega]; rfl
    refine ⟨p, fun w' _ => .inl hL, fun X => ?_⟩
    have e1 : k = i := by omega
    subst e1
    simp [Instr.slice, run_underlying Tryz.underlying22, Instr.sliceBounds, Instr.sliceBound, asIntOf, sizeOf, typeInfo, hi, h3]
  · rcases h with h0 | ⟨b, off, rfl, -⟩
    · subst h0
      have e1 : k = 0 := by simpa using hk
      have e2 : i = 0 := by omega
      subst e1; subst e2
      cases p with
      | none => 
        refine ⟨none, fun w' _ => .inl rfl, fun X => ?_⟩
        simp [Instr.slice, run_underlying Tryz.underlying22, Instr.sliceBounds, Instr.sliceBound, asIntOf, sizeOf, typeInfo, hi, h3]
      | some a =>
        refine ⟨some a, fun w' _ => .inl rfl, fun X => ?_⟩
        simp [Instr.slice, run_underlying Tryz.underlying22, Instr.sliceBounds, Instr.sliceBound, asIntOf, sizeOf, typeInfo, hi, Addr.add_zero']
    · refine ⟨some ⟨b, off + i * 3, none⟩, fun w' h => ?_, fun X => ?_⟩
      · rcases h with h0 | ⟨b', off', e, ht⟩
        · left; rw [h0]; simp
        · cases e
          refine .inr ⟨b, off + i * 3, rfl, fun j n hj => ?_⟩
          rw [List.getElem?_take] at hj
          split at hj
          · rw [List.getElem?_drop] at hj
            have := ht (i + j) n hj
            rw [show off + i * 3 + j * 3 = off + (i + j) * 3 by omega]
            exact this
          · cases hj
      · simp [Instr.slice, run_underlying Tryz.underlying22, Instr.sliceBounds, Instr.sliceBound, asIntOf, sizeOf, typeInfo, hi, hz1, hik, Nat.le_trans hk hc, h3, Addr.add_lit]
        try omega
theorem bs_left {cf : S3 → S3 → Int} {L : List S3} {x : S3} (hL : Ordd cf L) : ∀ d i j k, j - i ≤ d → i ≤ j → j ≤ L.length → Lft L x i j → Lft L x (lkGo (bsO cf L x) i j k).1 (lkGo (bsO cf L x) i j k).1 := by
  intro d
  induction d with
  | zero =>
    intro i j k hd hij _ h
    obtain rfl : i = j := by omega
    rw [lkGo_end _ _ (by omega)]
    exact h
  | succ d ih =>
    intro i j k hd hij hj h
    by_cases hlt : i < j
    · have hs : L[i + (j - i) / 2]? = some _ := List.getElem?_eq_getElem (by omega)
      cases hb : bsO cf L x (i + (j - i) / 2) with
      | true =>
        rw [lkGo_yes _ _ hlt hb]
        rw [bsO_at hs] at hb
        exact ih _ _ _ (by omega) (by omega) (by omega) (Lft.down hL h hs (by simpa using hb))
      | false =>
        rw [lkGo_no _ _ hlt hb]
        rw [bsO_at hs] at hb
        exact ih _ _ _ (by omega) (by omega) (by omega) (Lft.up hL h hs (by simpa using hb))
    · obtain rfl : i = j := by omega
      rw [lkGo_end _ _ hlt]
      exact h
section
variable {w w' : World} {b o : Nat} {SP A : List S3} {p : Option Addr} {c br bo : Nat} {R : List (Nat × Nat)} {O : List Nat}
theorem ljoin_any (h : LnM w b o SP A p c br bo R O) {q : Nat} (hq : q < SP.length) (ha : alA SP A q = true) (A' : List S3) (hA : ∀ x, alA SP A' x = (alA SP A x && decide (x ≠ q))) :
    Calls Tryz.prog 55 #[.pointer (some ⟨b, o + 1, none⟩), .int .i64 q] w fun x w' => x = .returned (.tuple #[]) ∧ (∃ R' O', LnM w' b o SP A' p c br bo R' O') ∧ Off [br, bo] w w' := by
  refine (pdrop_any h.rn hq ha _ hA).mono ?_
  rintro x w' ⟨rfl, ⟨R', O', g⟩, ho⟩
  obtain ⟨n1, n2, n3, n4⟩ := h.ne
  exact ⟨rfl, ⟨R', O', ho.cell h.sp (by simp; exact ⟨n1, n2⟩), g.rs, g.os, h.ts.off ho (fun x off e _ => by have := n4 x off e; simp; exact this), h.room, g.rb, g.ob, g.inv, h.few, h.ne⟩, ho⟩

set_option maxRecDepth 100000 in
set_option maxHeartbeats 3200000 in
theorem ldrop_any (h : LnM w b o SP A p c br bo R O) (hSP : SP.Nodup) {i k : Nat} (hik : i ≤ k) (hk : k ≤ SP.length) (x : S3) (g : Nat) (cf : S3 → S3 → Int) (eg : ∀ args w, (callFunc g args).run Tryz.prog w = .ok (.enter g args) w)
    (hA : ∀ X s t, Calls Tryz.prog g #[tv s, tv t] X fun e X' => e = .returned (.int .i64 (cf s t)) ∧ Grw X X') (hL : Ordd cf ((SP.drop i).take (k - i))) :
    Calls Tryz.prog 28 #[.pointer (some ⟨b, o, none⟩), .int .i64 i, .int .i64 k, tv x, .func (.func g) #[] #[]] w fun e w' => e = .returned (.bool (decide (x ∈ (SP.drop i).take (k - i) ∧ x ∈ A))) ∧ (∃ R' O', LnM w' b o SP (if x ∈ (SP.drop i).take (k - i) then drp A x else A) p c br bo R' O') ∧ Off [br, bo] w w' := by
  obtain ⟨q, hq, hsl⟩ := sl_seg h.ts hik hk h.room
  have hlen : ((SP.drop i).take (k - i)).length = k - i := by rw [List.length_take, List.length_drop]; omega
  have hat : ∀ m s, ((SP.drop i).take (k - i))[m]? = some s → m < k - i ∧ SP[i + m]? = some s := fun m s hm => by
    have h1 := (List.getElem?_eq_some_iff.1 hm).1
    rw [hlen] at h1
    rw [List.getElem?_take, if_pos h1, List.getElem?_drop] at hm
    exact ⟨h1, hm⟩
  generalize hLL : (SP.drop i).take (k - i) = L at *
  have HBS := Lib.hid (fun X (hb : Below w.heap.size w X) => bsearch_any X q (c - i) L x (hq X (h.keep hb).ts) (by rw [hlen]; have := h.few; omega) g #[] cf eg (fun Y s t _ => (hA Y s t).mono fun _ _ hh => ⟨hh.1, hh.2.below⟩) hL)
  have hr0 : bsI cf L x ≤ k - i := by
    have := lk_looks (bsO cf L x) (n := L.length) (by rw [hlen]; have := h.few; omega)
    rw [hlen] at this
    unfold bsI
    rw [hlen]
    exact this.1
  rw [hlen] at HBS
  have HK := Lib.hid (fun X (hb : Below w.heap.size w X) => h.keep hb)
  have hfew := h.few
  have hroom := h.room
  have HSPN := Lib.hid hSP
  have HAT := Lib.hid hat
  have HLL := Lib.hid hLL
  have hsp := h.sp
  obtain ⟨n, en⟩ : ∃ n, n = SP.length := ⟨_, rfl⟩
  have EN := Lib.hid en
  rw [← en] at hsl hk hfew hroom hsp
  obtain ⟨r0, er0⟩ : ∃ r0, r0 = bsI cf L x := ⟨_, rfl⟩
  have hLF : Hid (∀ m, L[m]? = some x → m = r0) := by
    refine Lib.hid (fun m hm => ?_)
    have := bs_left hL L.length 0 L.length 0 (by omega) (Nat.zero_le _) (Nat.le_refl _) (fun m hm => ⟨Nat.zero_le _, by have := (List.getElem?_eq_some_iff.1 hm).1; omega⟩) m hm
    rw [er0]; unfold bsI lk; omega
  rw [← er0] at hr0
  have HBS2 : Hid (∀ X, Below w.heap.size w X → Calls Tryz.prog 53 #[.slice q (k - i) (c - i), tv x, .func (.func g) #[] #[]] X fun e X' => e = .returned (.tuple #[.int .i64 r0, .bool (bsY cf L x)]) ∧ Below X.heap.size X X') := Lib.hid (fun X hb => (HBS.out X hb).mono fun e X' hh => ⟨by rw [er0]; exact hh.1.1, hh.2⟩)
  have HTH := Lib.hid (fun X (hb : Below w.heap.size w X) (q : Nat) (hq : q ≤ SP.length) => hasP_any (h.keep hb).rn hq)
  generalize bsY cf L x = y0 at *
  obtain ⟨xl, xh, xi⟩ := x
  have hneT := Lib.hid neT
  change Calls _ _ #[_, _, _, .agg #[.int .i64 xl, .int .i64 xh, .int .u32 xi], _] w _
  clear h hSP hq hat hLL hA hL HBS en er0
  go_enter Tryz.func28, Tryz.ntmps28
  have HT := Lib.hid (T1.new w (xl, xh, xi) 34)
  have HB0 := Lib.hid ((Below.refl w.heap.size w).alloc (Nat.le_refl _) (.cells (tvs (xl, xh, xi)).toArray 34))
  go_wp2
  change Hid (T1 (w.alloc (.cells #[.int .i64 xl, .int .i64 xh, .int .u32 xi] 34)) _ _ _) at HT
  change Hid (Below w.heap.size w (w.alloc (.cells #[.int .i64 xl, .int .i64 xh, .int .u32 xi] 34))) at HB0
  have hsz0 : w.heap.size < (w.alloc (.cells #[.int .i64 xl, .int .i64 xh, .int .u32 xi] 34)).heap.size := by simp
  generalize (w.alloc (.cells #[.int .i64 xl, .int .i64 xh, .int .u32 xi] 34)) = W at *
  have a0 : ∀ z : Wd (Bw W), z.w.cell? ⟨b, o, none⟩ = _ := fun z => Bw.cell z ((HB0.out.cell (World.block_lt_of_cell? _ _ hsp)).trans hsp)
  have a3 : ∀ z : Wd (Bw W), z.w.cell? ⟨w.heap.size, 0, none⟩ = _ := fun z => Bw.cell z HT.out.c0
  have a4 : ∀ z : Wd (Bw W), z.w.cell? ⟨w.heap.size, 1, none⟩ = _ := fun z => Bw.cell z HT.out.c1
  have a5 : ∀ z : Wd (Bw W), z.w.cell? ⟨w.heap.size, 2, none⟩ = _ := fun z => Bw.cell z HT.out.c2
  have HC : Hid (∀ X, Below W.heap.size W X → Calls Tryz.prog 53 #[.slice q (k - i) (c - i), .agg #[.int .i64 xl, .int .i64 xh, .int .u32 xi], .func (.func g) #[] #[]] X fun e X' => e = .returned (.tuple #[.int .i64 r0, .bool y0]) ∧ Below X.heap.size X X') := Lib.hid (fun X hb => HBS2.out X (HB0.out.trans (hb.mono (by omega))))
  have inst : Nonempty (Wd (Bw W)) := ⟨⟨W, Below.refl _ _⟩⟩
  go_upto_region 1 with fail
  refine wp_region_wd (Bw W) (by kernel_rfl) (by kernel_rfl) ((Below.refl _ W).drew) ?_
  repeat (first
    | go_big_quiet_step (first | (go_at_call 53; with_reducible exact calls_wd (fun _ _ h hb => h.keep hb) _ (HC.out _ (Wd.h _))))
    | quiet_step (first | (go_at_call 53; with_reducible exact calls_wd (fun _ _ h hb => h.keep hb) _ (HC.out _ (Wd.h _)))))
  refine wpQuiet_nil ?_
  rintro _ ⟨z, rfl⟩
  have HBz := Lib.hid (HB0.out.trans (z.h.mono (by omega)))
  have HTz := Lib.hid (HT.out.keep z.h HT.out.lt)
  generalize z.w = X at *
  clear a0 a3 a4 a5 HC inst HBS2
  obtain ⟨pl, epl⟩ : ∃ pl, pl = i + r0 := ⟨_, rfl⟩
  have E1 : Hid ((i : Int) + r0 = (pl : Int)) := Lib.hid (by omega)
  have EPL := Lib.hid epl
  have hpb : pl ≤ 8192 := by omega
  clear epl
  go_upto_region 3 with fail
  rw [E1.out]
  have inst : Nonempty (Wd (Bw X)) := ⟨⟨X, Below.refl _ _⟩⟩
  by_cases hgt : k ≤ pl
  · have hgz : (k : Int) ≤ pl := by omega
    have hno : (xl, xh, xi) ∉ L := fun hx => by
      obtain ⟨m, hm, e⟩ := List.mem_iff_getElem.1 hx
      have h1 := List.getElem?_eq_some_iff.2 ⟨hm, e⟩
      have := (HAT.out m _ h1).1
      have := hLF.out m h1
      have := EPL.out
      omega
    have HNO := Lib.hid hno
    clear hno
    refine wp_region_wd (Bw X) (by kernel_rfl) (by kernel_rfl) ((Below.refl _ X).drew) ?_
    repeat (first | go_big_quiet_step (fail) | quiet_step (fail))
    refine wpQuiet_nil ?_
    rintro _ ⟨z, rfl⟩
    have HBY := Lib.hid (HBz.out.trans (z.h.mono HBz.out.size))
    go_wp2
    go_ret
    refine ⟨by simp, ⟨R, O, ?_⟩, Off.of HBY.out (Nat.le_refl _)⟩
    try rw [if_neg HNO.out]
    exact HK.out _ HBY.out
  · have hgz : ¬ (k : Int) ≤ pl := by omega
    have hpl : pl < n := by omega
    obtain ⟨s, hs⟩ : ∃ s, SP[pl]? = some s := ⟨_, List.getElem?_eq_getElem (by have := EN.out; omega)⟩
    have hX := HK.out X HBz.out
    have hsp2 := hX.sp
    rw [← EN.out] at hsp2
    obtain ⟨bb, off, rfl, ht⟩ := hX.ts.at hs
    have a0 : ∀ z : Wd (Bw X), z.w.cell? ⟨b, o, none⟩ = _ := fun z => Bw.cell z hsp2
    have a1 : ∀ z : Wd (Bw X), z.w.cell? ⟨bb, off + pl * 3, none⟩ = _ := fun z => Bw.cell z ht.c0
    have a2 : ∀ z : Wd (Bw X), z.w.cell? ⟨bb, off + pl * 3 + 1, none⟩ = _ := fun z => Bw.cell z ht.c1
    have a2' : ∀ z : Wd (Bw X), z.w.cell? ⟨bb, off + pl * 3 + 2, none⟩ = _ := fun z => Bw.cell z ht.c2
    have a3 : ∀ z : Wd (Bw X), z.w.cell? ⟨w.heap.size, 0, none⟩ = _ := fun z => Bw.cell z HTz.out.c0
    have a4 : ∀ z : Wd (Bw X), z.w.cell? ⟨w.heap.size, 1, none⟩ = _ := fun z => Bw.cell z HTz.out.c1
    have a5 : ∀ z : Wd (Bw X), z.w.cell? ⟨w.heap.size, 2, none⟩ = _ := fun z => Bw.cell z HTz.out.c2
    have HS := Lib.hid hs
    obtain ⟨sl, sh, si⟩ := s
    clear hs hX ht hsp2
    by_cases hxs : (sl, sh, si) = (xl, xh, xi)
    · have hneq : ∀ Y, (binOp .neq 34 (.agg #[.int .i64 sl, .int .i64 sh, .int .u32 si]) (.agg #[.int .i64 xl, .int .i64 xh, .int .u32 xi])).run Tryz.prog Y = .ok (.bool false) Y := fun Y => by rw [hneT.out, hxs]; simp
      have hin : (xl, xh, xi) ∈ L := by
        have h1 := HS.out
        rw [hxs] at h1
        rw [← HLL.out]
        refine List.mem_of_getElem? (i := r0) ?_
        rw [List.getElem?_take, if_pos (by have := EPL.out; omega), List.getElem?_drop, ← EPL.out]
        exact h1
      have HIN := Lib.hid hin
      have HXS := Lib.hid hxs
      have hal : alA SP A pl = decide ((xl, xh, xi) ∈ A) := by rw [alA_at HS.out, hxs]
      have HAL := Lib.hid hal
      have HC : Hid (∀ Y, Below X.heap.size X Y → Calls Tryz.prog 54 #[.pointer (some ⟨b, o + 1, none⟩), .int .i64 pl] Y fun e w' => e = .returned (.bool (decide ((xl, xh, xi) ∈ A))) ∧ Below Y.heap.size Y w') := Lib.hid (fun Y hb => by
        have := HTH.out Y (HBz.out.trans (hb.mono HBz.out.size)) pl (by rw [← EN.out]; omega)
        rw [hal] at this
        exact this)
      clear hxs hin hal
      cases hmem : decide ((xl, xh, xi) ∈ A) with
      | false =>
        rw [hmem] at HC HAL
        have HM := Lib.hid (of_decide_eq_false hmem)
        clear hmem
        refine wp_region_wd (Bw X) (by kernel_rfl) (by kernel_rfl) ((Below.refl _ X).drew) ?_
        repeat (first
          | go_big_quiet_step (first | (go_at_call 54; with_reducible exact calls_wd (fun _ _ h hb => h.keep hb) _ (HC.out _ (Wd.h _))))
          | quiet_step (first | (go_at_call 54; with_reducible exact calls_wd (fun _ _ h hb => h.keep hb) _ (HC.out _ (Wd.h _)))))
        refine wpQuiet_nil ?_
        rintro _ ⟨z, rfl⟩
        have HBY := Lib.hid (HBz.out.trans (z.h.mono HBz.out.size))
        go_wp2
        go_ret
        refine ⟨by simp [HM.out], ⟨R, O, ?_⟩, Off.of HBY.out (Nat.le_refl _)⟩
        try rw [if_pos HIN.out]
        rw [drp_not HM.out]
        exact HK.out _ HBY.out
      | true =>
        rw [hmem] at HC HAL
        have HM := Lib.hid (of_decide_eq_true hmem)
        clear hmem
        refine wp_region_wd (Bw X) (by kernel_rfl) (by kernel_rfl) ((Below.refl _ X).drew) ?_
        repeat (first
          | go_big_quiet_step (first | (go_at_call 54; with_reducible exact calls_wd (fun _ _ h hb => h.keep hb) _ (HC.out _ (Wd.h _))))
          | quiet_step (first | (go_at_call 54; with_reducible exact calls_wd (fun _ _ h hb => h.keep hb) _ (HC.out _ (Wd.h _)))))
        refine wpQuiet_nil ?_
        rintro _ ⟨z, rfl⟩
        have HBY := Lib.hid (HBz.out.trans (z.h.mono HBz.out.size))
        have HJ := Lib.hid (ljoin_any (HK.out _ HBY.out) (q := pl) (by rw [← EN.out]; omega) HAL.out (drp A (xl, xh, xi)) (fun q => alA_less HSPN.out (by rw [HS.out, HXS.out]) (fun t => mem_drp) q))
        clear a0 a1 a2 a2' a3 a4 a5 HC hneq inst
        go_wp2_with (go_at_call 55; (with_reducible refine HJ.out.mono ?_); rintro e w3 ⟨rfl, hln, ho⟩; have HLN := Lib.hid hln; have HO := Lib.hid ho; clear hln ho)
        go_ret
        refine ⟨by simp [HM.out], ?_, (Off.of HBY.out (Nat.le_refl _)).trans HO.out⟩
        try rw [if_pos HIN.out]
        exact HLN.out
    · have hneq : ∀ Y, (binOp .neq 34 (.agg #[.int .i64 sl, .int .i64 sh, .int .u32 si]) (.agg #[.int .i64 xl, .int .i64 xh, .int .u32 xi])).run Tryz.prog Y = .ok (.bool true) Y := fun Y => by
        rw [hneT.out, decide_eq_false hxs]
        rfl
      have hno : (xl, xh, xi) ∉ L := fun hx => by
        obtain ⟨m, hm, e⟩ := List.mem_iff_getElem.1 hx
        have h1 := List.getElem?_eq_some_iff.2 ⟨hm, e⟩
        have h2 := (HAT.out m _ h1).2
        rw [hLF.out m h1, ← EPL.out, HS.out] at h2
        injection h2 with h2
        exact hxs h2
      have HNO := Lib.hid hno
      clear hno hxs
      refine wp_region_wd (Bw X) (by kernel_rfl) (by kernel_rfl) ((Below.refl _ X).drew) ?_
      repeat (first | go_big_quiet_step (fail) | quiet_step (fail))
      refine wpQuiet_nil ?_
      rintro _ ⟨z, rfl⟩
      have HBY := Lib.hid (HBz.out.trans (z.h.mono HBz.out.size))
      go_wp2
      go_ret
      refine ⟨by simp, ⟨R, O, ?_⟩, Off.of HBY.out (Nat.le_refl _)⟩
      try rw [if_neg HNO.out]
      exact HK.out _ HBY.out
end
end Go.Proofs.YtgcimicbbadapaaGreat.Iv
