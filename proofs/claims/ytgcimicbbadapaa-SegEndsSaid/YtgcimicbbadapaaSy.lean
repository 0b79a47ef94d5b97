/-
  A span taken out of its nodes: the walk. No condition but those typed at each theorem.
-/
import Derived.Test.YtgcimicbbadapaaSx
import Derived.Test.YtgcimicbbadapaaSe
import Derived.BigQuiet
namespace Go.Proofs.Ytgcimicbbadapaa
open Go.RowKit
section
variable {X : World} {g : Nat} {ev : Value} {eb : List Nat} {gf gn gm : Nat} {E : List Int} {NV : List Value} {NM : List (List Int)} {D : List En} {wt : Int} {x : En}
theorem SB.cells {w : World} {b n cap : Nat} {st : List (Nat × Nat)} (h : SB w (.slice (some ⟨b, 0, none⟩) n cap) st) {j k p : Nat} (e : st[j]? = some (k, p)) : n = st.length ∧ w.cell? ⟨b, j * 2, none⟩ = some (.int .i64 k) ∧ w.cell? ⟨b, j * 2 + 1, none⟩ = some (.int .i64 p) ∧ w.frozen? ⟨b, j * 2 + 1, none⟩ = false := by
  obtain ⟨b', cap', rest, e1, e2, e3⟩ := h
  cases e1
  have hj := (List.getElem?_eq_some_iff.1 e).1
  have k0 := flatQ_get st e (i := 0) (by omega)
  have k1 := flatQ_get st e (i := 1) (by omega)
  refine ⟨rfl, ?_, ?_, e3.free _⟩
  · exact e3.cell (by rw [List.getElem?_append_left (by rw [flatQ_len]; omega)]; exact k0)
  · exact e3.cell (by rw [List.getElem?_append_left (by rw [flatQ_len]; omega)]; exact k1)
theorem fieldSt (a b c : Int) (p : Option Addr) (n cc : Nat) (w : World) : (Instr.field 70 (.agg #[.int .i64 a, .int .i64 b, .int .u32 c, .slice p n cc]) 1).run Try.prog w = .ok (.slice p n cc) w := by
  kernel_rfl
set_option maxRecDepth 100000 in
set_option maxHeartbeats 4000000 in
theorem leave_any (h : SegM X g ev eb gf gn gm E NV NM D wt) (hI : SgI E NM D) (hx : x ∈ D) (hw : ∀ d ∈ D, (Lit.int .u32 d.1.2.2).wf = true) (hn : ∀ d ∈ D, d.2.2.length ≤ 400) (hwt : 0 ≤ wt ∧ wt ≤ 1000000) :
    Calls Try.prog 32 #[.pointer (some ⟨g, 0, none⟩), x.2.1] X fun e X' => e = .returned (.tuple #[]) ∧ ∃ NV' NM' D', LvM X X' g ev eb gf gn gm E NV D (wt - (x.2.2.length : Nat)) x x.2.2.length NV' NM' D' := by
  obtain ⟨bx, capx, restx, hxv, hxl, -⟩ := h.seats x hx
  obtain ⟨n, hn2⟩ : ∃ n, n = x.2.2.length := ⟨_, rfl⟩
  rw [hxv]
  have hnx := hn x hx
  have HSL : Hid (∀ s ∈ D.map (·.1), (cs E s).length ≤ 400) := Lib.hid (fun s hs => by
    obtain ⟨d, hd, rfl⟩ := List.mem_map.1 hs
    rw [← hI.st d hd, List.length_map]
    exact hn d hd)
  rw [← hn2] at hnx hxl ⊢
  have HXV := Lib.hid hxv
  rw [← hn2] at HXV
  have HN := Lib.hid hn2
  have HW : Hid (∀ Dj : List En, Dj.map (·.1) = D.map (·.1) → ∀ d ∈ Dj, (Lit.int .u32 d.1.2.2).wf = true) := Lib.hid (fun Dj e d hd => by
    have : d.1 ∈ D.map (·.1) := e ▸ List.mem_map.2 ⟨d, hd, rfl⟩
    obtain ⟨d', hd', e2⟩ := List.mem_map.1 this
    rw [← e2]
    exact hw d' hd')
  have c5 : X.cell? ⟨g, 5, none⟩ = some (.int .i64 wt) := h.seg.cell (i := 5) rfl
  have f5 := h.seg.free 5
  have HS : Hid (LvM X (X.setCell ⟨g, 5, none⟩ (.int .i64 (wt - n))) g ev eb gf gn gm E NV D (wt - n) x 0 NV NM D) := Lib.hid ⟨h.wtSet _, hI.leave hx, Off.via (Off.refl _ _) (off_set2 X g 5 _) (fun b _ hb => mem_bks.2 (.inl (by simpa using hb))), fun b hb => hb, rfl⟩
  have hsl := slU_to
  have hfd := fieldSt
  clear h hI hx hw hn2 hxv hn
  go_enter Try.func32, Try.ntmps32
  go_wp2
  go_step3
  go_wp2
  go_step3
  go_wp2
  go_loopg [21] n (fun gk v wr => ∃ j NVj NMj Dj, j + gk = n ∧ v = .int .i64 (j : Nat) ∧ Hid (LvM X wr g ev eb gf gn gm E NV D (wt - n) x j NVj NMj Dj))
  case atStart => exact ⟨0, NV, NM, D, by omega, rfl, HS⟩
  case round =>
    clear c5 f5 HS
    obtain ⟨j, NVj, NMj, Dj, hjn, rfl, HL⟩ := hrel
    cases gk with
    | zero =>
      obtain rfl : j = n := by omega
      have hltz : ¬ (j : Int) < j := by omega
      go_wp2
      go_end0
      exact ⟨rfl, NVj, NMj, Dj, HL.out⟩
    | succ gq =>
      have hltz : (j : Int) < n := by omega
      obtain ⟨⟨k, p⟩, hq⟩ : ∃ q, x.2.2[j]? = some q := ⟨_, List.getElem?_eq_getElem (by have := HN.out; omega)⟩
      obtain ⟨hkl, hpx, m, last, i, dl, c, hm, hpm, hl, ha, hdn, hc, hcc⟩ := HL.out.i.last hq
      have hkn : k < NVj.length := by rw [HL.out.m.nlen]; exact hkl
      obtain ⟨v, hv⟩ : ∃ v, NVj[k]? = some v := ⟨_, List.getElem?_eq_getElem hkn⟩
      have hr := HL.out.m.row k v hv
      rw [hm] at hr
      obtain ⟨a, cap, rfl, hmc, hcm⟩ : ∃ a cap, v = .slice (some ⟨a, 0, none⟩) (m + 1) cap ∧ m + 1 ≤ cap ∧ cap ≤ maxLen := by
        rcases hr.2 with ⟨_, h0⟩ | ⟨a, cap, cur, e, _, _, h1, h2, _⟩
        · omega
        · exact ⟨a, cap, e, h1, h2⟩
      rw [show maxLen = 9223372036854775807 from rfl] at hcm
      have hsx := HL.out.m.seats x HL.out.i.mem
      rw [HXV.out] at hsx
      obtain ⟨-, s0, s1, -⟩ := hsx.cells hq
      have HW2 := Lib.hid ((fun (W : World) (hb : Below wr.heap.size wr W) => HL.out.bel hb))
      have HQ := Lib.hid hq
      have HKL := Lib.hid hkl
      have HPX := Lib.hid hpx
      have HM := Lib.hid hm
      have HLA := Lib.hid hl
      have HA := Lib.hid ha
      have HDN := Lib.hid hdn
      have HC := Lib.hid hc
      have HCC := Lib.hid hcc
      have HV := Lib.hid hv
      have HR := Lib.hid hr
      clear hq hkl hpx hm hl ha hdn hc hcc hv hr hsx
      go_upto_region 4 with fail
      obtain ⟨W, hW⟩ : ∃ W, W = wr.alloc (.cells #[.int .i64 (k : Nat), .int .i64 (p : Nat)] 99) := ⟨_, rfl⟩
      rw [← hW]
      have hLW := HW2.out W (hW ▸ (Below.refl _ wr).alloc (Nat.le_refl _) _)
      have hB : EV 99 W wr.heap.size [.int .i64 (k : Nat), .int .i64 (p : Nat)] := hW ▸ EV.new wr _ _
      obtain ⟨B, hBe⟩ : ∃ B, B = wr.heap.size := ⟨_, rfl⟩
      rw [← hBe] at hB ⊢
      have hold : ∀ b ∈ bks g eb gf gn gm NVj Dj, ¬ b = B := fun b hb => by have := HL.out.m.lies b hb; omega
      have HB := Lib.hid hB
      have b0 := hB.cell (i := 0) rfl
      have b1 := hB.cell (i := 1) rfl
      have c3 : W.cell? ⟨g, 3, none⟩ = some (.slice (some ⟨gn, 0, none⟩) NVj.length NVj.length) := hLW.m.seg.cell (i := 3) rfl
      have cg := hLW.m.nms.cell HV.out
      have fg := hLW.m.nms.free k
      have hr := hLW.m.row k _ HV.out
      rw [HM.out] at hr
      obtain ⟨am, -⟩ := row_cells hr (j := m) (u := .int .u32 last) (by rw [List.getElem?_map, HLA.out]; rfl)
      obtain ⟨ap, fp⟩ := row_cells hr (j := p) (u := .int .u32 x.1.2.2) (by rw [List.getElem?_map, HPX.out]; rfl)
      obtain ⟨cur, hty⟩ := hLW.m.nameType (List.mem_of_getElem? HV.out) (b := a) rfl
      have a1 : ¬ a = g := fun e => types_ne hty hLW.m.seg (by decide) e
      have a2 : ¬ g = a := fun e => a1 e.symm
      have a3 : ¬ a = gn := fun e => types_ne hty hLW.m.nms (by decide) e
      have a4 : ¬ gn = a := fun e => a3 e.symm
      have a5 : ¬ a = B := hold a (mem_bks.2 (.inr (.inr (.inr (.inr (.inr (.inl ⟨_, List.mem_of_getElem? HV.out, rfl⟩)))))))
      have a6 : ¬ B = a := fun e => a5 e.symm
      have a7 : ¬ gn = B := hold gn (mem_bks.2 (.inr (.inr (.inl rfl))))
      have a8 : ¬ B = gn := fun e => a7 e.symm
      have hknz : (k : Int) < (NVj.length : Nat) := by omega
      have hpmz : (p : Int) < ((m + 1 : Nat) : Int) := by omega
      have HLW := Lib.hid hLW
      clear hW hLW hB hold hr hty hBe s0 s1
      generalize NVj.length = nn at *
      go_quiet (fail)
      go_upto_region 7 with fail
      go_region
      go_upto_region 8 with fail
      obtain ⟨w2, hw2⟩ : ∃ w2, w2 = (((W.drewN nq).setCell ⟨a, p, none⟩ (.int .u32 last)).setCell ⟨gn, k, none⟩ (.slice (some ⟨a, 0, none⟩) m cap)).drew := ⟨_, rfl⟩
      rw [← hw2]
      have hb2 : Below W.heap.size ((W.setCell ⟨a, p, none⟩ (.int .u32 last)).setCell ⟨gn, k, none⟩ (.slice (some ⟨a, 0, none⟩) m cap)) w2 := hw2 ▸ ⟨rfl, rfl, rfl, Nat.le_refl _, fun _ _ => rfl⟩
      obtain ⟨hC1, hC2⟩ := HLW.out.m.cut1 (p := p) HV.out HM.out last
      have hM2 := hC1.bel (by simpa using hb2)
      have hsd := hM2.seats dl (List.mem_of_getElem? HA.out)
      obtain ⟨bl, hbl⟩ := hsd.own
      obtain ⟨cl, hdl⟩ : ∃ cl, dl.2.1 = .slice (some ⟨bl, 0, none⟩) dl.2.2.length cl := by
        obtain ⟨b', cl, _, e, _, _⟩ := hsd
        rw [e] at hbl
        simp [Value.ownBlock] at hbl
        exact ⟨cl, by rw [e, hbl.1]⟩
      have c4 : w2.cell? ⟨g, 4, none⟩ = some (.map (some gm)) := hM2.seg.cell (i := 4) rfl
      obtain ⟨z, hz⟩ := zeroSt w2
      have hlook : (Instr.lookup 64 (.map (some gm)) (.int .u32 last) false).run Try.prog w2 = .ok (stV dl) w2 := hM2.mp.look Try.underlying64 Try.underlying32 (HDN.out ▸ HW.out Dj HLW.out.same dl (List.mem_of_getElem? HA.out)) (List.mem_map.2 ⟨dl, List.mem_of_getElem? HA.out, by rw [← HDN.out]; rfl⟩) hz false
      unfold stV at hlook
      rw [hdl] at hlook
      have hB2 := (HB.out.off hC2 (by simp; exact ⟨a8, a6⟩)).keep hb2 (by have := HB.out.lt; simpa using this)
      have hcl := (List.getElem?_eq_some_iff.1 HC.out).1
      rw [hdl] at hsd
      obtain ⟨nl, hnl⟩ : ∃ nl, nl = dl.2.2.length := ⟨_, rfl⟩
      rw [← hnl] at hlook hcl hsd hdl
      have hnlb : nl ≤ 400 := by
        have h1 := HSL.out dl.1 (HLW.out.same ▸ List.mem_map.2 ⟨dl, List.mem_of_getElem? HA.out, rfl⟩)
        rw [← HLW.out.i.st dl (List.mem_of_getElem? HA.out), List.length_map, ← hnl] at h1
        exact h1
      have HSD := Lib.hid hsd
      have HB2 := Lib.hid hB2
      have HDL := Lib.hid hdl
      have HNL := Lib.hid hnl
      have HBB := Lib.hid hb2
      have HM2 := Lib.hid hM2
      clear hw2 hb2 hC1 hC2 hM2 hsd hbl hdl hz hB2 hnl b0 b1 c3 cg fg am ap fp HB
      generalize dl.1.1 = q1 at hlook
      generalize dl.1.2.1 = q2 at hlook
      generalize dl.1.2.2 = q3 at hlook
      go_wp2_with (at_lookup; refine wpList_lookR rfl _ _ _ _ rfl _ _ _ rfl rfl hlook ?_)
      go_loopg [65] c (fun gk2 v wi => ∃ i2, i2 + gk2 = c ∧ v = .int .i64 (i2 : Nat) ∧ Hid (Below w2.heap.size w2 wi))
      case atStart => exact ⟨0, by omega, rfl, Lib.hid (Below.refl _ _)⟩
      case round =>
        clear hlook c4
        obtain ⟨i2, hi2, rfl, HBI⟩ := hrel
        have hs := HSD.out.block (fun b e => HBI.out.block b (by obtain ⟨b', e2, hl⟩ := HSD.out.own; rw [e] at e2; cases e2; exact hl))
        have hBi := HB2.out.keep HBI.out HB2.out.lt
        have b0 := hBi.cell (i := 0) rfl
        have b1 := hBi.cell (i := 1) rfl
        cases gk with
        | zero =>
          obtain rfl : i2 = c := by omega
          have hiz : (i2 : Int) < nl := by omega
          obtain ⟨-, d0, d1, df⟩ := hs.cells HC.out
          have HWI := Lib.hid hBi
          clear hs hBi
          go_upto_region 12 with fail
          go_quiet (fail)
          go_wp2
          go_roundg gq
          case rel =>
            refine ⟨j + 1, _, _, _, by omega, by go_num, Lib.hid (HLW.out.step HQ.out HKL.out HPX.out HM.out hpm HLA.out HA.out HDN.out HC.out HV.out HDL.out ?_)⟩
            have hz := HBB.out.size
            simp at hz
            have hb := HBB.out.trans (HBI.out.mono hz)
            exact ⟨hb.os, hb.tape, hb.output, hb.size, hb.block⟩
          case measure => omega
        | succ g2 =>
          have hiz : (i2 : Int) < nl := by omega
          obtain ⟨⟨k', p'⟩, hr2⟩ : ∃ q, dl.2.2[i2]? = some q := ⟨_, List.getElem?_eq_getElem (by have := HNL.out; omega)⟩
          have hkk : k' ≠ k := HCC.out i2 (by omega) _ hr2
          have hkz : ((k' : Int) == (k : Int)) = false := by simp only [beq_eq_false_iff_ne, ne_eq]; omega
          obtain ⟨-, d0, d1, df⟩ := hs.cells hr2
          clear hs hBi hr2 hkk
          go_upto_region 12 with fail
          go_quiet (fail)
          go_wp2
          go_roundg g2
          case rel =>
            exact ⟨i2 + 1, by omega, by go_num, Lib.hid (drewB HBI.out)⟩
          case measure => omega
end
end Go.Proofs.Ytgcimicbbadapaa
