/-
  What hangs on the way down to a node's lowest point is put into the queue (part). No condition but those typed at each theorem.
-/
import Derived.Test.YtldmajifkmcdcaaGreatVj
namespace Go.Proofs.YtldmajifkmcdcaaGreat.Lv
open Go.RowKit Go.Sort Bd
section
variable {w0 B1 V0 w w' : World} {P : LoP} {RX A : List S3} {g : Nat → Option S3} {m q cap : Nat} {cc : Int} {xs : List Nat}
set_option maxRecDepth 100000 in
set_option maxHeartbeats 6400000 in
theorem qpart_any (T : TrM w0 P RX A g m cap cc) {c : Nat} (h : QS w0 B1 V0 P g m q c xs w) {k0 : Nat} {s : S3} (hk : k0 < m) (hs : g k0 = some s) (hl : xs.length ≤ 1000) (hc : c ≤ 500000) :
    Calls Tryz.prog 38 #[.pointer (some ⟨q, 0, none⟩), .int .i64 k0] w fun e w' => e = .returned (.tuple #[]) ∧ PaR w0 B1 w P RX A g m q c xs k0 s w' := by
  have HT := Lib.hid T
  replace h := h.re
  obtain ⟨v, h1, -⟩ := h.1.qu
  have p0 := h1.cell (i := 0) rfl
  have c5 := (T.s.keep h.1.be).ev.cell (i := 5) rfl
  rw [T.v] at c5
  have hKw := T.k.keep h.1.be
  obtain ⟨nd, hnd⟩ := hKw.at hk
  have hN := hKw.nd hk hnd
  have b7 := hKw.hc hk
  have hm2 : m ≤ 1000 := by have := T.m2; have := T.s.few; omega
  obtain ⟨r1, r2, r3, r4⟩ := T.i.got hk hs
  rw [hs] at b7
  unfold bv bi at b7
  simp only at b7
  have e0 := hN.c0
  have e1 := hN.c1
  have e2 := hN.c2
  have e3 := hN.c3
  have e4 := hN.c4
  have e5 := hN.c5
  have e6 := hN.c6
  obtain ⟨KB, hKB⟩ : ∃ KB, KB = w.heap.size := ⟨_, rfl⟩
  have HKB := Lib.hid hKB
  have HP0 : Hid (∀ W, Below w.heap.size w W → EV 79 W KB (kl nd (bv RX (g k0))) → PaM w0 B1 w W P RX A g m q c xs KB k0 s k0 0 xs) := Lib.hid (fun W hb hE => ⟨hk, ⟨nd, hnd, hE⟩, h.keep hb, List.Perm.refl _, Nat.le_refl _, by omega, ⟨r2, r3⟩, by have := h.1.of.size; have := hE.lt; omega⟩)
  have HIX : Hid (bv RX (g k0) = .int .i64 (RX.idxOf s : Nat)) := Lib.hid (by rw [hs]; rfl)
  have HSR : Hid (s ∈ A) := Lib.hid r1
  obtain ⟨i0, hi0⟩ : ∃ i0, i0 = RX.idxOf s := ⟨_, rfl⟩
  have HI0 := Lib.hid hi0
  rw [← hi0] at b7
  obtain ⟨B, hB⟩ : ∃ B, B = P.B := ⟨_, rfl⟩
  have HBB := Lib.hid hB
  rw [← hB] at p0 c5
  obtain ⟨kb, hkb⟩ : ∃ kb, kb = P.kb := ⟨_, rfl⟩
  have HKK := Lib.hid hkb
  rw [← hkb] at c5 b7 e0 e1 e2 e3 e4 e5 e6
  obtain ⟨d0, d1, d2, d3, d4, d5, d6⟩ := nd
  simp only at e0 e1 e2 e3 e4 e5 e6
  clear T h h1 hKw hnd hN r1 r2 r3 r4 hs hi0 hB hkb hKB
  go_enter Tryz.func38, Tryz.ntmps38
  go_upto_region 1 with fail
  obtain ⟨W1, hW1⟩ : ∃ W1, W1 = w.alloc (.cells #[.int .u8 d0, .int .i64 d1, .int .i64 d2, .int .i64 d3, .int .i64 d4, .int .i64 d5, .int .i64 d6, .int .i64 (i0 : Nat)] 79) := ⟨_, rfl⟩
  rw [← hW1]
  have hE1 : EV 79 W1 KB [.int .u8 d0, .int .i64 d1, .int .i64 d2, .int .i64 d3, .int .i64 d4, .int .i64 d5, .int .i64 d6, .int .i64 (i0 : Nat)] := by
    rw [hW1, HKB.out]
    exact heap_alloc_new w _
  have hB1 : Below w.heap.size w W1 := hW1 ▸ (Below.refl _ w).alloc (Nat.le_refl _) _
  have HPA : Hid (PaM w0 B1 w W1 P RX A g m q c xs KB k0 s k0 0 xs) := Lib.hid (HP0.out W1 hB1 (by
    rw [HIX.out, ← HI0.out]
    exact hE1))
  rw [← HKB.out]
  have y7 := hE1.cell (i := 7) rfl
  clear hW1 hE1 hB1 HP0 e0 e1 e2 e3 e4 e5 e6 b7 p0 c5
  go_wp2
  clear y7
  go_loopg [] k0 (fun gk wr => ∃ d ys, Hid (PaM w0 B1 w wr P RX A g m q c xs KB k0 s gk d ys))
  case atStart => exact ⟨0, xs, HPA⟩
  case round =>
    clear HPA
    obtain ⟨d, ys, HPA⟩ := hrel
    obtain ⟨nd, hnd, hEV⟩ := HPA.out.kc
    have y0 := hEV.cell (i := 0) rfl
    have y1 := hEV.cell (i := 1) rfl
    have y2 := hEV.cell (i := 2) rfl
    have y3 := hEV.cell (i := 3) rfl
    have y4 := hEV.cell (i := 4) rfl
    have y5 := hEV.cell (i := 5) rfl
    have y6 := hEV.cell (i := 6) rfl
    have y7 := hEV.cell (i := 7) rfl
    have hgm := HPA.out.km
    have hix := HPA.out.i
    rcases nd_kind hnd with ⟨rfl, hleaf⟩ | ⟨l, r, rfl, ⟨q1, q2⟩, q3, q4, q5, q6, q7⟩
    · clear hnd hEV y1 y2 y3 y4 y5 y6 y7
      go_wp2
      go_end0
      have hsl := sg_leaf (RX := RX) HT.out.nd HT.out.sub HSR.out (show RX.idxOf s = lo RX.length gk by omega)
      have hp := HPA.out.p
      rw [hleaf] at hp
      refine ⟨rfl, ys, d, ((hsl.symm.append_right (pend RX A ys))).trans hp, HPA.out.l, ?_, HPA.out.q⟩
      have := HPA.out.h
      omega
    · have hQ := HPA.out.q.1
      obtain ⟨v', hq, -⟩ := hQ.qu
      have p0 := hq.cell (i := 0) rfl
      have c5 := (HT.out.s.keep hQ.be).ev.cell (i := 5) rfl
      rw [HT.out.v] at c5
      have hKr := HT.out.k.keep hQ.be
      have hlm : l < m := by omega
      have hrm : r < m := by omega
      obtain ⟨nl', hnl⟩ := hKr.at hlm
      have hNl := hKr.nd hlm hnl
      have l7 := hKr.hc hlm
      obtain ⟨w1, w2, w3, w4⟩ := lo_of hnl
      have l0 := hNl.c0
      have l1 := hNl.c1
      have l2 := hNl.c2
      have l3 := hNl.c3
      have l4 := hNl.c4
      have l5 := hNl.c5
      have l6 := hNl.c6
      have HNL := Lib.hid hnl
      have HEV := Lib.hid hEV
      rw [← HBB.out] at p0 c5
      rw [← HKK.out] at c5 l0 l1 l2 l3 l4 l5 l6 l7
      unfold bv at l7
      obtain ⟨bl, hbl⟩ : ∃ bl, bl = bi RX (g l) := ⟨_, rfl⟩
      have HBL := Lib.hid hbl
      rw [← hbl] at l7
      obtain ⟨t0, t1, t2, t3, t4, t5, t6⟩ := nl'
      simp only at l0 l1 l2 l3 l4 l5 l6
      obtain ⟨hil, hhil⟩ : ∃ hil, hil = hi RX.length l := ⟨_, rfl⟩
      have HHL := Lib.hid hhil
      have w2' : t4 = (hil : Int) := by rw [hhil]; exact w2
      have HQ1 := Lib.hid (show (l < gk ∧ r < gk) ∧ lo RX.length l = lo RX.length gk ∧ hi RX.length l = lo RX.length r ∧ hi RX.length r = hi RX.length gk ∧ hi RX.length r - lo RX.length r ≤ hi RX.length l - lo RX.length l ∧ hi RX.length l - lo RX.length l ≤ hi RX.length r - lo RX.length r + 1 from ⟨⟨q1, q2⟩, q3, q4, q5, q6, q7⟩)
      have HRC : Hid (∃ nr, (ndN RX.length)[r]? = some nr ∧ N1 wr kb (r * 8) nr ∧ wr.cell? ⟨kb, r * 8 + 7, none⟩ = some (bv RX (g r))) := Lib.hid (by
        obtain ⟨nr, hnr⟩ := hKr.at hrm
        refine ⟨nr, hnr, ?_, ?_⟩
        · rw [HKK.out]
          exact hKr.nd hrm hnr
        · rw [HKK.out]
          exact hKr.hc hrm)
      have HLH := Lib.hid (show lo RX.length l < hi RX.length l from w3)
      have HRH := Lib.hid (lo_at (n := RX.length) (k := r) (by have := HT.out.m2; omega))
      clear hQ hq hKr hNl w1 w2 w3 w4 hnl hEV hnd hbl hhil q1 q2 q3 q4 q5 q6 q7
      go_upto_region 3 with fail
      subst w2'
      have b2 := cell_al (.cells #[.int .u8 t0, .int .i64 t1, .int .i64 t2, .int .i64 t3, .int .i64 (hil : Nat), .int .i64 t5, .int .i64 t6, .int .i64 bl] 79) y2
      have ap0 := cell_al (.cells #[.int .u8 0, .int .i64 0, .int .i64 0, .int .i64 0, .int .i64 0, .int .i64 0, .int .i64 0, .int .i64 0] 79) p0
      have ac5 := cell_al (.cells #[.int .u8 0, .int .i64 0, .int .i64 0, .int .i64 0, .int .i64 0, .int .i64 0, .int .i64 0, .int .i64 0] 79) c5
      have ay1 := cell_al (.cells #[.int .u8 0, .int .i64 0, .int .i64 0, .int .i64 0, .int .i64 0, .int .i64 0, .int .i64 0, .int .i64 0] 79) y1
      have ay2 := cell_al (.cells #[.int .u8 0, .int .i64 0, .int .i64 0, .int .i64 0, .int .i64 0, .int .i64 0, .int .i64 0, .int .i64 0] 79) y2
      have al0 := cell_al (.cells #[.int .u8 0, .int .i64 0, .int .i64 0, .int .i64 0, .int .i64 0, .int .i64 0, .int .i64 0, .int .i64 0] 79) l0
      have al1 := cell_al (.cells #[.int .u8 0, .int .i64 0, .int .i64 0, .int .i64 0, .int .i64 0, .int .i64 0, .int .i64 0, .int .i64 0] 79) l1
      have al2 := cell_al (.cells #[.int .u8 0, .int .i64 0, .int .i64 0, .int .i64 0, .int .i64 0, .int .i64 0, .int .i64 0, .int .i64 0] 79) l2
      have al3 := cell_al (.cells #[.int .u8 0, .int .i64 0, .int .i64 0, .int .i64 0, .int .i64 0, .int .i64 0, .int .i64 0, .int .i64 0] 79) l3
      have al4 := cell_al (.cells #[.int .u8 0, .int .i64 0, .int .i64 0, .int .i64 0, .int .i64 0, .int .i64 0, .int .i64 0, .int .i64 0] 79) l4
      have al5 := cell_al (.cells #[.int .u8 0, .int .i64 0, .int .i64 0, .int .i64 0, .int .i64 0, .int .i64 0, .int .i64 0, .int .i64 0] 79) l5
      have al6 := cell_al (.cells #[.int .u8 0, .int .i64 0, .int .i64 0, .int .i64 0, .int .i64 0, .int .i64 0, .int .i64 0, .int .i64 0] 79) l6
      have al7 := cell_al (.cells #[.int .u8 0, .int .i64 0, .int .i64 0, .int .i64 0, .int .i64 0, .int .i64 0, .int .i64 0, .int .i64 0] 79) l7
      go_region
      obtain ⟨X, hX⟩ : ∃ X, X = (wr.alloc (.cells #[.int .u8 t0, .int .i64 t1, .int .i64 t2, .int .i64 t3, .int .i64 (hil : Nat), .int .i64 t5, .int .i64 t6, .int .i64 bl] 79)).drew := ⟨_, rfl⟩
      rw [← hX]
      obtain ⟨DB, hDB⟩ : ∃ DB, DB = wr.heap.size := ⟨_, rfl⟩
      rw [← hDB]
      have hbx : Below wr.heap.size wr X := hX ▸ ((Below.refl _ wr).alloc (Nat.le_refl _) _).drew
      have hEX : EV 79 X DB [.int .u8 t0, .int .i64 t1, .int .i64 t2, .int .i64 t3, .int .i64 (hil : Nat), .int .i64 t5, .int .i64 t6, .int .i64 bl] := by
        rw [hX, hDB]
        exact heap_alloc_new wr _
      have hKD : DB ≠ KB := by have := HPA.out.b.2; omega
      have HDB : Hid (wr.heap.size ≤ DB) := Lib.hid (by omega)
      have HBX := Lib.hid hbx
      have HEX := Lib.hid hEX
      have HKD := Lib.hid hKD
      have xp0 := (hbx.cell (World.block_lt_of_cell? _ _ p0)).trans p0
      have xc5 := (hbx.cell (World.block_lt_of_cell? _ _ c5)).trans c5
      have xy1 := (hbx.cell (World.block_lt_of_cell? _ _ y1)).trans y1
      have xy2 := (hbx.cell (World.block_lt_of_cell? _ _ y2)).trans y2
      have x4 := hEX.cell (i := 4) rfl
      have p0k := Lib.hid p0
      have c5k := Lib.hid c5
      clear hX hbx hEX hKD hDB b2 ap0 ac5 ay1 ay2 al0 al1 al2 al3 al4 al5 al6 al7 p0 c5 y0 y1 y2 y3 y4 y5 y6 y7 l0 l1 l2 l3 l4 l5 l6 l7
      have HQX := Lib.hid ((HPA.out.q.keep HBX.out).re)
      have HYL : Hid (ys.length ≤ 3000 ∧ c + d ≤ 900000) := Lib.hid (by
        have h1 := HPA.out.l
        have h2 := HPA.out.h
        have h3 : lgN (hi RX.length k0 - lo RX.length k0) ≤ lgN 401 := bl_mono (by have := (lo_at (n := RX.length) (k := k0) (by have := HT.out.m2; omega)).2; have := HT.out.s.few; omega) (by omega)
        have h4 : lgN 401 ≤ 100 := by decide
        omega)
      have HW := Lib.hid (HPA.out.q.keep HBX.out)
      have HXK : Hid (EV 79 X KB (kl (2, (l : Int), (r : Int), (lo RX.length gk : Int), (hi RX.length gk : Int), 0, 0) (bv RX (g gk)))) := Lib.hid (HEV.out.keep HBX.out HEV.out.lt)
      have HW := Lib.hid (HPA.out.q.keep HBX.out)
      have HXK : Hid (EV 79 X KB (kl (2, (l : Int), (r : Int), (lo RX.length gk : Int), (hi RX.length gk : Int), 0, 0) (bv RX (g gk)))) := Lib.hid (HEV.out.keep HBX.out HEV.out.lt)
      by_cases hdir : i0 < hil
      · have hdz : ¬ (hil : Int) ≤ (i0 : Int) := by omega
        have HDI := Lib.hid hdir
        have HAD := Lib.hid (qadd_any HT.out HQX.out hrm (by have := HYL.out.1; omega) (by have := HYL.out.2; omega))
        go_upto_region 7 with (go_at_call 65; (refine HAD.out.mono ?_); rintro e w5 ⟨rfl, zs, h1, h2, h3⟩; have H1 := Lib.hid h1; have H2 := Lib.hid h2; have H3 := Lib.hid h3; have D5 := Lib.hid (h3.1.kp.ev HEX.out (by decide) (by decide)); have K5 := Lib.hid (h3.1.kp.ev HXK.out (by decide) (by decide)); clear h1 h2 h3)
        refine r7_any (by unfold isR7; rfl) D5.out K5.out (fun v62 => ?_)
        clear xp0 xc5 xy1 xy2 x4 hdir hdz
        go_wp2
        go_roundg l
        case measure => exact HQ1.out.1.1
        case rel =>
          have q := HQ1.out
          have hl3 := HHL.out
          have hd3 := HDI.out
          have hi3 := HI0.out
          have hr3 := HRH.out
          have hll := HLH.out
          have hlm' : l < 2 * RX.length - 1 := by have := HT.out.m2; omega
          have hrm' : r < 2 * RX.length - 1 := by have := HT.out.m2; omega
          refine ⟨d + 1, zs, Lib.hid (HPA.out.step HT.out (by rw [HKB.out]; exact Nat.le_refl _) H1.out H2.out H3.out HW.out.1.kp (by have := HPA.out.b.2; have := HBX.out.size; omega) hlm (sg_kids hlm' hrm' q.2.1 q.2.2.1 q.2.2.2.1) (by omega) (by omega) (by have := HPA.out.i; omega) set8_off ⟨_, K5.out⟩ ⟨_, HNL.out, ?_⟩)⟩
          rw [HBL.out]
          exact set8_ev K5.out
      · have hdz : (hil : Int) ≤ (i0 : Int) := by omega
        have HDI := Lib.hid hdir
        obtain ⟨nr, hnr, hNr, z7⟩ := HRC.out
        have hNx := hNr.keep HBX.out hNr.lt
        have z7x := (HBX.out.cell (World.block_lt_of_cell? _ _ z7)).trans z7
        unfold bv at z7x
        obtain ⟨br, hbr⟩ : ∃ br, br = bi RX (g r) := ⟨_, rfl⟩
        have HBR := Lib.hid hbr
        rw [← hbr] at z7x
        have HNR := Lib.hid hnr
        obtain ⟨s0, s1, s2, s3, s4, s5, s6⟩ := nr
        have HF5 := Lib.hid (show X.cell? ⟨q, 0, none⟩ = some (.pointer (some ⟨B, 0, none⟩)) ∧ X.cell? ⟨B, 5, none⟩ = some (.slice (some ⟨kb, 0, none⟩) m cap) ∧ X.cell? ⟨KB, 2, none⟩ = some (.int .i64 (r : Nat)) ∧ X.cell? ⟨KB, 1, none⟩ = some (.int .i64 (l : Nat)) ∧ X.cell? ⟨kb, r * 8, none⟩ = some (.int .u8 s0) ∧ X.cell? ⟨kb, r * 8 + 1, none⟩ = some (.int .i64 s1) ∧ X.cell? ⟨kb, r * 8 + 2, none⟩ = some (.int .i64 s2) ∧ X.cell? ⟨kb, r * 8 + 3, none⟩ = some (.int .i64 s3) ∧ X.cell? ⟨kb, r * 8 + 4, none⟩ = some (.int .i64 s4) ∧ X.cell? ⟨kb, r * 8 + 5, none⟩ = some (.int .i64 s5) ∧ X.cell? ⟨kb, r * 8 + 6, none⟩ = some (.int .i64 s6) ∧ X.cell? ⟨kb, r * 8 + 7, none⟩ = some (.int .i64 br) from ⟨xp0, xc5, xy2, xy1, hNx.c0, hNx.c1, hNx.c2, hNx.c3, hNx.c4, hNx.c5, hNx.c6, z7x⟩)
        have HN5 : Hid (DB ≠ q ∧ DB ≠ B ∧ DB ≠ KB ∧ DB ≠ kb) := Lib.hid (by
          have h1 := HDB.out
          have h2 := World.block_lt_of_cell? _ _ p0k.out
          have h3 := World.block_lt_of_cell? _ _ c5k.out
          have h4 := hNr.lt
          have h5 := HPA.out.b.2
          simp only at h2 h3
          refine ⟨?_, ?_, ?_, ?_⟩ <;> omega)
        obtain ⟨X2, hX2⟩ : ∃ X2, X2 = (set8 X DB (.int .u8 s0) (.int .i64 s1) (.int .i64 s2) (.int .i64 s3) (.int .i64 s4) (.int .i64 s5) (.int .i64 s6) (.int .i64 br)).drew := ⟨_, rfl⟩
        have ho2 : Off [DB] X X2 := by
          rw [hX2]
          exact set8_off.drew
        have HE2 : Hid (EV 79 X2 DB [.int .u8 s0, .int .i64 s1, .int .i64 s2, .int .i64 s3, .int .i64 s4, .int .i64 s5, .int .i64 s6, .int .i64 br]) := Lib.hid (by
          have := set8_ev (u0 := .int .u8 s0) (u1 := .int .i64 s1) (u2 := .int .i64 s2) (u3 := .int .i64 s3) (u4 := .int .i64 s4) (u5 := .int .i64 s5) (u6 := .int .i64 s6) (u7 := .int .i64 br) HEX.out
          rw [hX2]
          exact this.keep ((Below.refl _ _).drew) this.lt)
        have HXK2 : Hid (EV 79 X2 KB (kl (2, (l : Int), (r : Int), (lo RX.length gk : Int), (hi RX.length gk : Int), 0, 0) (bv RX (g gk)))) := Lib.hid (HXK.out.off ho2 (by have := HN5.out; simp; omega))
        have HW2 := Lib.hid (HW.out.put ho2 (by have := HPA.out.b.2; have := HKB.out; have := HDB.out; omega) (by have := HPA.out.b; have := HDB.out; omega) HEX.out (by decide) (by decide))
        have HSZ2 := Lib.hid ho2.size
        have HX2 := Lib.hid hX2
        clear hX2 ho2 hnr hNr z7 hNx hbr z7x
        have HAD := Lib.hid (qadd_any HT.out HW2.out.re hlm (by have := HYL.out.1; omega) (by have := HYL.out.2; omega))
        go_upto_region 5 with fail
        refine r5_any (by unfold isR5; rfl) HEX.out HF5.out HN5.out hrm (fun v44 v45 v46 v47 v48 v49 v50 v51 v52 v53 v54 v55 v56 v57 v58 => ?_)
        rw [← HX2.out]
        clear xp0 xc5 xy1 xy2 x4 hdir hdz
        go_upto_region 7 with (go_at_call 65; (refine HAD.out.mono ?_); rintro e w5 ⟨rfl, zs, h1, h2, h3⟩; have H1 := Lib.hid h1; have H2 := Lib.hid h2; have H3 := Lib.hid h3; have D5 := Lib.hid (h3.1.kp.ev HE2.out (by decide) (by decide)); have K5 := Lib.hid (h3.1.kp.ev HXK2.out (by decide) (by decide)); clear h1 h2 h3)
        refine r7_any (by unfold isR7; rfl) D5.out K5.out (fun v62 => ?_)
        go_wp2
        go_roundg r
        case measure => exact HQ1.out.1.2
        case rel =>
          have q := HQ1.out
          have hl3 := HHL.out
          have hd3 := HDI.out
          have hi3 := HI0.out
          have hr3 := HRH.out
          have hll := HLH.out
          have hlm' : l < 2 * RX.length - 1 := by have := HT.out.m2; omega
          have hrm' : r < 2 * RX.length - 1 := by have := HT.out.m2; omega
          refine ⟨d + 1, zs, Lib.hid (HPA.out.step HT.out (by rw [HKB.out]; exact Nat.le_refl _) H1.out H2.out H3.out HW2.out.1.kp (by have := HPA.out.b.2; have := HBX.out.size; have := HSZ2.out; omega) hrm ((sg_kids hlm' hrm' q.2.1 q.2.2.1 q.2.2.2.1).trans List.perm_append_comm) (by omega) (by omega) (by have := HPA.out.i; omega) set8_off ⟨_, K5.out⟩ ⟨_, HNR.out, ?_⟩)⟩
          rw [HBR.out]
          exact set8_ev K5.out
end
end Go.Proofs.YtldmajifkmcdcaaGreat.Lv
