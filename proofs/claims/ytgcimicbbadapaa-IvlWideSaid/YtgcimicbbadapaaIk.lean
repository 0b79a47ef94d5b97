/-
  A tree's way down, and the knot of a span. No condition but those typed at each theorem.
-/
import Derived.Test.YtgcimicbbadapaaIo
import Derived.Test.YtgcimicbbadapaaTold
namespace Go.Proofs.Ytgcimicbbadapaa.Iv
open Go.RowKit

set_option maxRecDepth 100000 in
set_option maxHeartbeats 1600000 in
theorem down_any (w : World) (g : Nat) (qe : Option Addr) (m ce : Nat) (hc : w.cell? ⟨g, 1, none⟩ = some (.slice qe m ce)) (hm : m ≤ 100000) (f : Nat) (lb : Array Value) (sd : Nat → Int) (J : List Nat → World → Prop)
    (eg : ∀ args w, (callFunc f args).run Try.prog w = .ok (.enter f args) w) (hk : ∀ ks X X', J ks X → Below X.heap.size X X' → J ks X')
    (hA : ∀ ks k r X, px sd 0 m = ks ++ k :: r → k < m → J ks X → Calls Try.prog f (#[.int .i64 (k : Nat)] ++ lb) X fun e X' => e = .returned (.int .i64 (sd k)) ∧ J (ks ++ [k]) X') (h0 : J [] w) :
    Calls Try.prog 66 #[.pointer (some ⟨g, 0, none⟩), .func (.func f) #[] lb] w fun e w' => e = .returned (.tuple #[]) ∧ J (px sd 0 m) w' := by
  have HA := Lib.hid hA
  have HK := Lib.hid hk
  have H0 := Lib.hid h0
  clear hA hk h0
  go_enter Try.func66, Try.ntmps66
  go_upto_region 0 with fail
  go_quiet (fail)
  go_wp2
  go_loopw [4, 5] (fun a b wr => ∃ (i j : Nat) (ks : List Nat), a = .int .i64 i ∧ b = .int .i64 j ∧ j ≤ m ∧ Hid (px sd 0 m = ks ++ px sd i j) ∧ Hid (J ks wr)) (fun a b _ => (intOf b).toNat - (intOf a).toNat)
  case atStart => exact ⟨0, m, [], rfl, rfl, Nat.le_refl _, Lib.hid rfl, Lib.hid (HK.out _ _ _ H0.out (drewB (Below.refl _ _)))⟩
  case round =>
    obtain ⟨i, j, ks, rfl, rfl, hjm, HP, HJ⟩ := hrel
    by_cases hij : i < j
    · have hijz : (i : Int) < j := by omega
      obtain ⟨h2, hh2⟩ : ∃ h2, h2 = (j - i - 1) / 2 := ⟨_, rfl⟩
      have e1 : ((j : Int) - i - 1) / 2 = (h2 : Int) := by omega
      have hst := px_step sd hij
      rw [← hh2] at hst
      have hkj : i + h2 < j := by omega
      have HST := Lib.hid hst
      obtain ⟨r, hr⟩ : ∃ r, r = (if sd (i + h2) = 0 then [] else if sd (i + h2) < 0 then px sd i (i + h2) else px sd (i + h2 + 1) j) := ⟨_, rfl⟩
      have HR := Lib.hid hr
      have HC := Lib.hid (HA.out ks (i + h2) r wr (by rw [HP.out, HST.out, ← HR.out]) (by omega) HJ.out)
      rw [show ((i + h2 : Nat) : Int) = (i : Int) + h2 by omega] at HC
      clear hst hr hh2
      generalize hs : sd (i + h2) = s at *
      by_cases hs0 : s = 0
      · have HR2 : Hid (r = []) := Lib.hid (by rw [HR.out, if_pos hs0])
        have hz : (s == 0) = true := by simp [hs0]
        have HS0 := Lib.hid hs0
        go_wp2_with (go_at_fn f; (refine HC.out.mono ?_); rintro e w1 ⟨rfl, hj⟩; have HJ1 := Lib.hid hj; clear hj)
        (try simp only [Exit.inBlock, Exit.then])
        refine bodyPost_ret (results_none rfl _ _ _) rfl ?_
        have hp := HP.out
        rw [HST.out, ← HR.out, HR2.out] at hp
        rw [hp]
        exact ⟨rfl, HJ1.out⟩
      · by_cases hs1 : s < 0
        · have HR2 : Hid (r = px sd i (i + h2)) := Lib.hid (by rw [HR.out, if_neg hs0, if_pos hs1])
          go_wp2_with (go_at_fn f; (refine HC.out.mono ?_); rintro e w1 ⟨rfl, hj⟩; have HJ1 := Lib.hid hj; clear hj)
          go_roundw
          case rel => exact ⟨i, i + h2, ks ++ [i + h2], rfl, by go_num, by omega, Lib.hid (by rw [HP.out, HST.out, ← HR.out, HR2.out]; simp), HJ1⟩
          case measure => simp [intOf]; omega
        · have HR2 : Hid (r = px sd (i + h2 + 1) j) := Lib.hid (by rw [HR.out, if_neg hs0, if_neg hs1])
          go_wp2_with (go_at_fn f; (refine HC.out.mono ?_); rintro e w1 ⟨rfl, hj⟩; have HJ1 := Lib.hid hj; clear hj)
          go_roundw
          case rel => exact ⟨i + h2 + 1, j, ks ++ [i + h2], by go_num, rfl, hjm, Lib.hid (by rw [HP.out, HST.out, ← HR.out, HR2.out]; simp), HJ1⟩
          case measure => simp [intOf]; omega
    · have hijz : ¬ (i : Int) < j := by omega
      go_wp2
      go_end0
      have := HP.out
      rw [px_end sd hij, List.append_nil] at this
      rw [this]
      exact ⟨rfl, HJ.out⟩

/-- the ends of a tree, in their place -/
structure EnM (X : World) (g : Nat) (E : List Int) (qe : Option Addr) (ce : Nat) : Prop where
  cell : X.cell? ⟨g, 1, none⟩ = some (.slice qe E.length ce)
  ns : NS X qe .i64 E
  few : E.length ≤ 100000
theorem EnM.keep {X X' : World} {g : Nat} {E : List Int} {qe : Option Addr} {ce : Nat} (h : EnM X g E qe ce) (hb : Below X.heap.size X X') : EnM X' g E qe ce :=
  ⟨(hb.cell (World.block_lt_of_cell? _ _ h.cell)).trans h.cell, h.ns.keep hb, h.few⟩
def En (E : List Int) (k : Nat) : Int := E.getD k 0
theorem cmpD_sdx (E : List Int) (x : Int) (k : Nat) : cmpD x (En E k) = sdx (En E) x k := rfl
/-- in the midst of the way down to a span's knot -/
structure KnI (w : World) (g : Nat) (E : List Int) (qe : Option Addr) (ce : Nat) (s : S3) (L B T : Nat) (ks : List Nat) (X : World) : Prop where
  last : Bx 3 X L (.int .i64 ((ks.getLast?.getD 0 : Nat) : Int))
  span : T1 X B 0 s
  tree : X.cell? ⟨T, 0, none⟩ = some (.pointer (some ⟨g, 0, none⟩))
  en : EnM X g E qe ce
  ne : w.heap.size ≤ L ∧ w.heap.size ≤ B ∧ w.heap.size ≤ T ∧ L ≠ B ∧ L ≠ T
  lt : g < w.heap.size ∧ (∀ b off, qe = some ⟨b, off, none⟩ → E ≠ [] → b < w.heap.size)
  bel : Below w.heap.size w X
theorem KnI.keep {w : World} {g : Nat} {E : List Int} {qe : Option Addr} {ce : Nat} {s : S3} {L B T : Nat} {ks : List Nat} {X X' : World} (h : KnI w g E qe ce s L B T ks X) (hb : Below X.heap.size X X') : KnI w g E qe ce s L B T ks X' :=
  ⟨h.last.keep hb, h.span.keep hb h.span.lt, (hb.cell (World.block_lt_of_cell? _ _ h.tree)).trans h.tree, h.en.keep hb, h.ne, h.lt, h.bel.trans (hb.mono h.bel.size)⟩
theorem KnI.put {w : World} {g : Nat} {E : List Int} {qe : Option Addr} {ce : Nat} {s : S3} {L B T : Nat} {ks : List Nat} {X : World} (h : KnI w g E qe ce s L B T ks X) (k : Nat) : KnI w g E qe ce s L B T (ks ++ [k]) (X.setCell ⟨L, 0, none⟩ (.int .i64 (k : Nat))) := by
  obtain ⟨n1, n2, n3, n4, n5⟩ := h.ne
  have hO : Off [L] X (X.setCell ⟨L, 0, none⟩ (.int .i64 (k : Nat))) := (Off.refl _ X).set _ _ (.inl (by simp))
  refine ⟨?_, h.span.off hO (by simp; exact Ne.symm n4), hO.cell h.tree (by simp; exact Ne.symm n5), ⟨hO.cell h.en.cell (by simp; have := h.lt.1; omega), h.en.ns.offF hO (fun b off e e0 => by have := h.lt.2 b off e e0; simp; omega), h.en.few⟩, h.ne, h.lt, h.bel.setCell n1 _⟩
  have := h.last.set (.int .i64 (k : Nat))
  simpa using this

set_option maxRecDepth 100000 in
set_option maxHeartbeats 3200000 in
theorem knot1_any {w : World} {g : Nat} {E : List Int} {qe : Option Addr} {ce : Nat} {s : S3} {L B T : Nat} {ks : List Nat} {X : World} (h : KnI w g E qe ce s L B T ks X) {k : Nat} (hk : k < E.length) (hs : s.1 ≤ s.2.1) :
    Calls Try.prog 117 #[.int .i64 (k : Nat), .pointer (some ⟨L, 0, none⟩), .pointer (some ⟨B, 0, none⟩), .pointer (some ⟨T, 0, none⟩)] X fun e X' => e = .returned (.int .i64 (sds (En E) s k)) ∧ KnI w g E qe ce s L B T (ks ++ [k]) X' := by
  have HP := Lib.hid (h.put k)
  have c0 := h.last.cell
  have c1 := h.last.free
  obtain ⟨lo, hi, id⟩ := s
  simp only at hs
  obtain ⟨y, hy⟩ : ∃ y, E[k]? = some y := ⟨_, List.getElem?_eq_getElem hk⟩
  have hEn : En E k = y := by unfold En; rw [List.getD_eq_getElem?_getD, hy]; rfl
  have hsds : sds (En E) (lo, hi, id) k = if hi < y then -1 else if y < lo then 1 else 0 := by unfold sds; rw [hEn]
  obtain ⟨r, hr⟩ : ∃ r, r = sds (En E) (lo, hi, id) k := ⟨_, rfl⟩
  have HR : Hid (r = if hi < y then -1 else if y < lo then 1 else 0) := Lib.hid (hr.trans hsds)
  rw [← hr]
  clear hr
  have HL := Lib.hid h.ne
  obtain ⟨eb, eo, rfl⟩ : ∃ eb eo, qe = some ⟨eb, eo, none⟩ := by
    rcases h.en.ns with h0 | ⟨b, off, e, -⟩
    · rw [h0] at hy; simp at hy
    · exact ⟨b, off, e⟩
  have hfew := h.en.few
  clear h hEn hsds
  go_enter Try.func117, Try.ntmps117
  go_upto_region 2 with fail
  obtain ⟨W, hW⟩ : ∃ W, W = X.setCell ⟨L, 0, none⟩ (.int .i64 (k : Nat)) := ⟨_, rfl⟩
  rw [← hW]
  rw [← hW] at HP
  clear hW c0 c1
  have a1 : ∀ z : Wd (Bw W), z.w.cell? ⟨B, 1, none⟩ = _ := fun z => Bw.cell z HP.out.span.c1
  have a0 : ∀ z : Wd (Bw W), z.w.cell? ⟨B, 0, none⟩ = _ := fun z => Bw.cell z HP.out.span.c0
  have a2 : ∀ z : Wd (Bw W), z.w.cell? ⟨T, 0, none⟩ = _ := fun z => Bw.cell z HP.out.tree
  have a3 : ∀ z : Wd (Bw W), z.w.cell? ⟨g, 1, none⟩ = _ := fun z => Bw.cell z HP.out.en.cell
  have a4 : ∀ z : Wd (Bw W), z.w.cell? ⟨eb, eo + k, none⟩ = _ := fun z => Bw.cell z (by
    rcases HP.out.en.ns with h0 | ⟨b, off, e, hn⟩
    · rw [h0] at hy; simp at hy
    · cases e; exact hn k y hy)
  have inst : Nonempty (Wd (Bw W)) := ⟨⟨W, Below.refl _ _⟩⟩
  generalize E.length = m at *
  clear hy
  by_cases h1 : hi < y
  · refine wp_region_wd (Bw W) (by kernel_rfl) (by kernel_rfl) ((Below.refl _ W).drew) ?_
    repeat (first | go_big_quiet_step (fail) | quiet_step (fail))
    refine wpQuiet_nil ?_
    rintro _ ⟨z, rfl⟩
    go_wp2
    go_ret
    exact ⟨by rw [HR.out, if_pos h1]; rfl, HP.out.keep z.h⟩
  · refine wp_region_wd (Bw W) (by kernel_rfl) (by kernel_rfl) ((Below.refl _ W).drew) ?_
    repeat (first | go_big_quiet_step (fail) | quiet_step (fail))
    refine wpQuiet_nil ?_
    rintro _ ⟨z, rfl⟩
    go_upto_region 4 with fail
    rcases Int.lt_trichotomy lo y with h2 | h2 | h2
    · have HR2 : Hid (r = 0) := Lib.hid (by rw [HR.out, if_neg h1, if_neg (by omega)])
      have HC : Hid (∀ Y, Calls Try.prog 68 #[.int .i64 lo, .int .i64 y] Y fun e Y' => e = .returned (.int .i64 (-1)) ∧ Below Y.heap.size Y Y') := Lib.hid (fun Y => (cmp_any lo y Y).mono fun e Y' hh => ⟨by rw [hh.1]; unfold cmpD; rw [if_pos h2], by rw [hh.2]; exact Below.refl _ _⟩)
      refine wp_region_wd (Bw W) (by kernel_rfl) (by kernel_rfl) (z.h.drew) ?_
      repeat (first
        | go_big_quiet_step (first | (go_at_call 68; with_reducible exact calls_wd (fun _ _ h hb => h.keep hb) _ (HC.out _)))
        | quiet_step (first | (go_at_call 68; with_reducible exact calls_wd (fun _ _ h hb => h.keep hb) _ (HC.out _))))
      refine wpQuiet_nil ?_
      rintro _ ⟨z2, rfl⟩
      go_wp2
      go_ret
      exact ⟨by rw [HR2.out]; rfl, HP.out.keep z2.h⟩
    · have HR2 : Hid (r = 0) := Lib.hid (by rw [HR.out, if_neg h1, if_neg (by omega)])
      have HC : Hid (∀ Y, Calls Try.prog 68 #[.int .i64 lo, .int .i64 y] Y fun e Y' => e = .returned (.int .i64 0) ∧ Below Y.heap.size Y Y') := Lib.hid (fun Y => (cmp_any lo y Y).mono fun e Y' hh => ⟨by rw [hh.1]; unfold cmpD; rw [if_neg (by omega), if_neg (by omega)], by rw [hh.2]; exact Below.refl _ _⟩)
      clear h2
      refine wp_region_wd (Bw W) (by kernel_rfl) (by kernel_rfl) (z.h.drew) ?_
      repeat (first
        | go_big_quiet_step (first | (go_at_call 68; with_reducible exact calls_wd (fun _ _ h hb => h.keep hb) _ (HC.out _)))
        | quiet_step (first | (go_at_call 68; with_reducible exact calls_wd (fun _ _ h hb => h.keep hb) _ (HC.out _))))
      refine wpQuiet_nil ?_
      rintro _ ⟨z2, rfl⟩
      go_wp2
      go_ret
      exact ⟨by rw [HR2.out]; rfl, HP.out.keep z2.h⟩
    · have HR2 : Hid (r = 1) := Lib.hid (by rw [HR.out, if_neg h1, if_pos h2])
      have HC : Hid (∀ Y, Calls Try.prog 68 #[.int .i64 lo, .int .i64 y] Y fun e Y' => e = .returned (.int .i64 1) ∧ Below Y.heap.size Y Y') := Lib.hid (fun Y => (cmp_any lo y Y).mono fun e Y' hh => ⟨by rw [hh.1]; unfold cmpD; rw [if_neg (by omega), if_pos h2], by rw [hh.2]; exact Below.refl _ _⟩)
      refine wp_region_wd (Bw W) (by kernel_rfl) (by kernel_rfl) (z.h.drew) ?_
      repeat (first
        | go_big_quiet_step (first | (go_at_call 68; with_reducible exact calls_wd (fun _ _ h hb => h.keep hb) _ (HC.out _)))
        | quiet_step (first | (go_at_call 68; with_reducible exact calls_wd (fun _ _ h hb => h.keep hb) _ (HC.out _))))
      refine wpQuiet_nil ?_
      rintro _ ⟨z2, rfl⟩
      go_wp2
      go_ret
      exact ⟨by rw [HR2.out]; rfl, HP.out.keep z2.h⟩
end Go.Proofs.Ytgcimicbbadapaa.Iv
