/-
  Lows and Lowest, whatever is asked. No condition but those typed at each theorem.
-/
import Derived.Test.YtldmajifkmcdcaaGreatVo
namespace Go.Proofs.YtldmajifkmcdcaaGreat.Lv
open Go.RowKit Go.Sort Bd
section
variable {w w' : World} {P : LoP} {RX A : List S3}
set_option maxRecDepth 100000 in
set_option maxHeartbeats 3200000 in
/-- of a tree of no points -/
theorem llows_zero (h : LoM w P RX A) (hn : RX.length = 0) (x1 x2 : Int) (hx : x1 ≤ x2) (kk : Nat) (hk : 1 ≤ kk) :
    Calls Tryz.prog 18 #[.pointer (some ⟨P.B, 0, none⟩), .int .i64 x1, .int .i64 x2, .int .i64 kk] w fun e w' => (∃ t : Nat, e = .returned (.tuple #[.slice none 0 0, .int .i64 t]) ∧ t ≤ 2 * lgN 1) ∧ Below w.heap.size w w' := by
  have hfw := h.s.few
  obtain ⟨ple, pln⟩ := parts_le h.s.ord hfw hx
  have hi0 : iA RX x1 = 0 := by omega
  have hj0 : iB RX x2 = 0 := by omega
  have HM := Lib.hid (lmade_yes h.s)
  have HBT := Lib.hid (rbetw_any (o := 1) (h.s.ev.cell (i := 1) rfl) h.s.row h.s.ord (by omega) x1 x2)
  have hbx := btN_few h.s.ord (by omega) x1 x2
  rw [hn] at hbx
  change Hid (Calls Tryz.prog 33 #[.pointer (some ⟨P.B, 1, none⟩), .int .i64 x1, .int .i64 x2] w fun e w' => e = .returned (.tuple #[.int .i64 (iA RX x1), .int .i64 (iB RX x2), .int .i64 (btN kx RX x1 x2)]) ∧ Below w.heap.size w w') at HBT
  rw [hi0, hj0] at HBT
  have HQO := Lib.hid (fun X (hb : Below w.heap.size w X) => qof_zero (h.s.keep hb) (by obtain ⟨d, pp, hF⟩ := h.fr; exact ⟨d, pp, hF.keep hb⟩) (x := 0) (Nat.zero_le _) (fun _ => none) 0)
  have HBX := Lib.hid hbx
  have hbt : btN kx RX x1 x2 ≤ 1000 := by
    have h2 : lgN 1 ≤ 100 := lg_le (by omega)
    simp only [Nat.zero_add] at hbx
    omega
  have hxz : ¬ x2 < x1 := by omega
  have hkz : ¬ (kk : Int) < 1 := by omega
  have hxd : decide (x2 < x1) = false := decide_eq_false hxz
  have hkd : decide ((kk : Int) < 1) = false := decide_eq_false hkz
  generalize btN kx RX x1 x2 = bt at *
  simp only [Nat.zero_add] at HBX
  obtain ⟨B, hB⟩ : ∃ B, B = P.B := ⟨_, rfl⟩
  rw [← hB] at HM HBT HQO ⊢
  clear h hn hx hfw ple pln hbx hi0 hj0 hB
  go_enter Tryz.func18, Tryz.ntmps18
  go_upto_region 5 with (first
    | (go_at_call 26; (with_reducible refine HM.out.mono ?_); rintro e wM ⟨rfl, hM⟩; subst wM)
    | (go_at_call 33; (with_reducible refine HBT.out.mono ?_); rintro e w3 ⟨rfl, hb⟩; have HB3 := Lib.hid hb; clear hb)
    | (go_at_call 34; (refine (HQO.out w3 HB3.out).mono ?_); rintro e w4 ⟨q, B1, V0, rfl, h1⟩; have HQ4 := Lib.hid (h1.base HB3.out); clear h1))
  have HQL := Lib.hid (qlen_any HQ4.out.1)
  simp only [List.length_nil] at HQL
  clear HQO HBT
  go_wp2
  go_loopg [14] 0 (fun gk lv wr => lv = .slice none 0 0 ∧ Hid (wr = w4))
  case atStart => exact ⟨rfl, Lib.hid rfl⟩
  case round =>
    obtain ⟨rfl, HW⟩ := hrel
    have hw := HW.out
    subst hw
    go_upto_region 11 with (go_at_call 35; (with_reducible refine HQL.out.mono ?_); rintro e w5 ⟨rfl, h1⟩; have H5 := Lib.hid h1; clear h1)
    obtain ⟨v', hv', -⟩ := H5.out.qu
    have q2 := hv'.cell (i := 2) rfl
    clear hv'
    go_quiet (fail)
    go_wp2
    go_ret2
    exact ⟨⟨bt, rfl, HBX.out⟩, H5.out.be.trans ((below_drewN (Below.refl _ w5) _).mono H5.out.be.size)⟩
end
end Go.Proofs.YtldmajifkmcdcaaGreat.Lv
/-
  Lows and Lowest of a tree, whatever is asked. No condition but those typed at each theorem.
-/
namespace Go.Proofs.YtldmajifkmcdcaaGreat.Lv
open Go.RowKit Go.Sort Bd
section
variable {w w' : World} {P : LoP} {RX A : List S3}
theorem LwR.no {n kk t : Nat} {T : List S3} {e : Ending} (h1 : T = []) (he : e = .returned (.tuple #[.slice none 0 0, .int .i64 t])) (h2 : t ≤ Lw.mostL n) (hb : Below w.heap.size w w') : LwR n kk w T e w' := by
  subst h1
  refine ⟨⟨_, t, he, ⟨⟨none, 0, rfl, TsS.nil _ _, fun _ => rfl, Nat.le_refl _, Nat.zero_le _⟩, fun a m c e => by cases e⟩, Nat.zero_le _, ?_, fun _ => h2⟩, hb⟩
  simpa using h2
theorem llows_any (h : LoM w P RX A) (x1 x2 k : Int) (hk : k ≤ 9223372036854775807) :
    Calls Tryz.prog 18 #[.pointer (some ⟨P.B, 0, none⟩), .int .i64 x1, .int .i64 x2, .int .i64 k] w (LwR RX.length k.toNat w ((Lw.lwL x1 x2 A).take k.toNat)) := by
  by_cases hx : x2 < x1
  · refine (llows_x h.s x1 x2 k hx).mono ?_
    rintro e w' ⟨rfl, hb⟩
    exact LwR.no (t := 0) (by rw [lw_no hx, List.take_nil]) rfl (Nat.zero_le _) hb
  · by_cases hk1 : k < 1
    · refine (llows_k h.s x1 x2 k (by omega) hk1).mono ?_
      rintro e w' ⟨rfl, hb⟩
      exact LwR.no (t := 0) (by rw [show k.toNat = 0 by omega, List.take_zero]) rfl (Nat.zero_le _) hb
    · obtain ⟨kk, rfl⟩ : ∃ kk : Nat, k = kk := ⟨k.toNat, by omega⟩
      rw [show ((kk : Nat) : Int).toNat = kk by omega]
      by_cases hn : RX.length = 0
      · have hA : A = [] := List.eq_nil_iff_forall_not_mem.2 (fun s hs => by
          have := h.sub s hs
          rw [List.length_eq_zero_iff.1 hn] at this
          cases this)
        refine (llows_zero h hn x1 x2 (by omega) kk (by omega)).mono ?_
        rintro e w' ⟨⟨t, rfl, ht⟩, hb⟩
        refine LwR.no (t := t) (by rw [hA, show Lw.lwL x1 x2 [] = [] from rfl, List.take_nil]) rfl ?_ hb
        rw [hn]
        unfold Lw.mostL
        simp only [Nat.zero_add]
        omega
      · exact llows_some h hn x1 x2 (by omega) kk (by omega) hk
set_option maxRecDepth 100000 in
set_option maxHeartbeats 1600000 in
/-- the lowest one, if there is one -/
theorem llowest_of {v : Option Addr} {x1 x2 : Int} {n : Nat} {LV : List S3} (HL : Hid (∀ X, Below w.heap.size w X → Calls Tryz.prog 18 #[.pointer v, .int .i64 x1, .int .i64 x2, .int .i64 1] X (LwR n 1 X (LV.take 1)))) :
    Calls Tryz.prog 17 #[.pointer v, .int .i64 x1, .int .i64 x2] w fun e w' => (∃ t : Nat, e = .returned (.tuple #[(Lw.fstL LV).1, .bool (Lw.fstL LV).2, .int .i64 t]) ∧ t ≤ Lw.mostL n) ∧ Below w.heap.size w w' := by
  cases LV with
  | nil =>
    rw [List.take_nil] at HL
    rw [show Lw.fstL [] = (.agg #[.int .i64 0, .int .i64 0, .int .u32 0], false) from rfl]
    simp only
    go_enter Tryz.func17, Tryz.ntmps17
    obtain ⟨Y, hY⟩ : ∃ Y, Y = w.alloc (.cells #[.int .i64 0, .int .i64 0, .int .u32 0] 34) := ⟨_, rfl⟩
    have hYB : Below w.heap.size w Y := hY ▸ (Below.refl _ w).alloc (Nat.le_refl _) _
    have hE : EV 34 Y w.heap.size [.int .i64 0, .int .i64 0, .int .u32 0] := hY ▸ heap_alloc_new w _
    go_upto_region 1 with fail
    rw [← hY]
    have HC := Lib.hid (HL.out Y hYB)
    have HYB := Lib.hid hYB
    have HE := Lib.hid hE
    clear hY hYB hE HL
    go_upto_region 2 with (go_at_call 18; (with_reducible refine HC.out.mono ?_); rintro e w1 ⟨⟨r, t, rfl, ⟨⟨p, c, rfl, -⟩, -⟩, -, -, ht⟩, hb⟩; have HT1 := Lib.hid (ht rfl); have HB1 := Lib.hid hb; clear ht hb)
    have HE1 := Lib.hid (HE.out.off (Off.of (S := []) HB1.out (Nat.le_refl _)) (by simp))
    have f0 := HE1.out.free 0
    have f1 := HE1.out.free 1
    have f2 := HE1.out.free 2
    have k0 := HE1.out.cell (i := 0) rfl
    have k1 := HE1.out.cell (i := 1) rfl
    have k2 := HE1.out.cell (i := 2) rfl
    go_wp2
    obtain ⟨Z, hZ⟩ : ∃ Z, Z = (((w1.setCell ⟨w.heap.size, 0, none⟩ (.int .i64 0)).setCell ⟨w.heap.size, 1, none⟩ (.int .i64 0)).setCell ⟨w.heap.size, 2, none⟩ (.int .u32 0)) := ⟨_, rfl⟩
    rw [← hZ]
    have hEZ : EV 34 Z w.heap.size [.int .i64 0, .int .i64 0, .int .u32 0] := hZ ▸ ((HE1.out.set 0 _).set 1 _).set 2 _
    have HZB : Hid (Below w.heap.size w Z) := Lib.hid (hZ ▸ ((((HYB.out.trans (HB1.out.mono HYB.out.size)).setCell (Nat.le_refl _) _).setCell (Nat.le_refl _) _).setCell (Nat.le_refl _) _))
    have z0 := hEZ.cell (i := 0) rfl
    have z1 := hEZ.cell (i := 1) rfl
    have z2 := hEZ.cell (i := 2) rfl
    clear hZ hEZ
    refine bodyPost_ret (v := .tuple #[.agg #[.int .i64 0, .int .i64 0, .int .u32 0], .bool false, .int .i64 t]) ?_ rfl ⟨⟨t, rfl, HT1.out⟩, HZB.out⟩
    simp [results, Tryz.f17, go_sem, z0, z1, z2]
  | cons s LW =>
    have hT : (s :: LW).take 1 = [s] := rfl
    rw [hT] at HL
    obtain ⟨sx, sy, si⟩ := s
    rw [show Lw.fstL ((sx, sy, si) :: LW) = (.agg #[.int .i64 sx, .int .i64 sy, .int .u32 si], true) from rfl]
    simp only
    go_enter Tryz.func17, Tryz.ntmps17
    obtain ⟨Y, hY⟩ : ∃ Y, Y = w.alloc (.cells #[.int .i64 0, .int .i64 0, .int .u32 0] 34) := ⟨_, rfl⟩
    have hYB : Below w.heap.size w Y := hY ▸ (Below.refl _ w).alloc (Nat.le_refl _) _
    have hE : EV 34 Y w.heap.size [.int .i64 0, .int .i64 0, .int .u32 0] := hY ▸ heap_alloc_new w _
    go_upto_region 1 with fail
    rw [← hY]
    have HC := Lib.hid (HL.out Y hYB)
    have HYB := Lib.hid hYB
    have HE := Lib.hid hE
    clear hY hYB hE HL
    go_upto_region 2 with (go_at_call 18; (with_reducible refine HC.out.mono ?_); rintro e w1 ⟨⟨r, t, rfl, ⟨⟨p, c, rfl, hts, -, hc1, hc2⟩, -⟩, -, -, ht⟩, hb⟩; have HT1 := Lib.hid (ht rfl); have HB1 := Lib.hid hb; clear ht hb)
    have HE1 := Lib.hid (HE.out.off (Off.of (S := []) HB1.out (Nat.le_refl _)) (by simp))
    have f0 := HE1.out.free 0
    have f1 := HE1.out.free 1
    have f2 := HE1.out.free 2
    have k0 := HE1.out.cell (i := 0) rfl
    have k1 := HE1.out.cell (i := 1) rfl
    have k2 := HE1.out.cell (i := 2) rfl
    rcases hts with h0 | ⟨gb, off, rfl, hts⟩
    · cases h0
    have s0 := (hts 0 _ rfl).c0
    have s1 := (hts 0 _ rfl).c1
    have s2 := (hts 0 _ rfl).c2
    simp only [Nat.zero_mul, Nat.add_zero] at s0 s1 s2
    clear hts
    go_wp2
    obtain ⟨Z, hZ⟩ : ∃ Z, Z = (((w1.setCell ⟨w.heap.size, 0, none⟩ (.int .i64 sx)).setCell ⟨w.heap.size, 1, none⟩ (.int .i64 sy)).setCell ⟨w.heap.size, 2, none⟩ (.int .u32 si)) := ⟨_, rfl⟩
    rw [← hZ]
    have hEZ : EV 34 Z w.heap.size [.int .i64 sx, .int .i64 sy, .int .u32 si] := hZ ▸ ((HE1.out.set 0 _).set 1 _).set 2 _
    have HZB : Hid (Below w.heap.size w Z) := Lib.hid (hZ ▸ ((((HYB.out.trans (HB1.out.mono HYB.out.size)).setCell (Nat.le_refl _) _).setCell (Nat.le_refl _) _).setCell (Nat.le_refl _) _))
    have z0 := hEZ.cell (i := 0) rfl
    have z1 := hEZ.cell (i := 1) rfl
    have z2 := hEZ.cell (i := 2) rfl
    clear hZ hEZ
    refine bodyPost_ret (v := .tuple #[.agg #[.int .i64 sx, .int .i64 sy, .int .u32 si], .bool true, .int .i64 t]) ?_ rfl ⟨⟨t, rfl, HT1.out⟩, HZB.out⟩
    simp [results, Tryz.f17, go_sem, z0, z1, z2]
theorem llowest_any (h : LoM w P RX A) (x1 x2 : Int) :
    Calls Tryz.prog 17 #[.pointer (some ⟨P.B, 0, none⟩), .int .i64 x1, .int .i64 x2] w fun e w' => (∃ t : Nat, e = .returned (.tuple #[(Lw.fstL (Lw.lwL x1 x2 A)).1, .bool (Lw.fstL (Lw.lwL x1 x2 A)).2, .int .i64 t]) ∧ t ≤ Lw.mostL RX.length) ∧ Below w.heap.size w w' :=
  llowest_of (Lib.hid (fun X hb => llows_any (h.keep hb) x1 x2 1 (by decide)))
theorem llowest_nil (w : World) (x1 x2 : Int) :
    Calls Tryz.prog 17 #[.pointer none, .int .i64 x1, .int .i64 x2] w fun e w' => (∃ t : Nat, e = .returned (.tuple #[(Lw.fstL (Lw.lwL x1 x2 [])).1, .bool (Lw.fstL (Lw.lwL x1 x2 [])).2, .int .i64 t]) ∧ t ≤ Lw.mostL 0) ∧ Below w.heap.size w w' :=
  llowest_of (Lib.hid (fun X _ => (llows_nil X x1 x2 1).mono (fun _ _ hh => LwR.no (t := 0) rfl hh.1 (Nat.zero_le _) hh.2)))
end
end Go.Proofs.YtldmajifkmcdcaaGreat.Lv
