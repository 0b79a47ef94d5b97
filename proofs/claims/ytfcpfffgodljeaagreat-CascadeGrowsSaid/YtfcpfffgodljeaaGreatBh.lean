/-
  The nodes' lists are filled. No condition but those typed at each theorem.
-/
import Derived.Test.YtfcpfffgodljeaaGreatBg
import Derived.Test.YtfcpfffgodljeaaGreatBd
import Derived.Test.YtfcpfffgodljeaaGreatBi
import Derived.Deep.RegionLaw
namespace Go.Proofs.YtfcpfffgodljeaaGreat.Bd
open Go.RowKit Go.Sort

theorem info_ord : (Tryz.prog.info? 70).map (fun i => (i.zero, i.size, i.bytes)) = some (some (.agg #[.slice none 0 0, .slice none 0 0]), 2, 48) := by kernel_rfl
theorem under_ords : Tryz.prog.underlying 171 = some (.slice 70) := by kernel_rfl
theorem flatO_rep (m : Nat) : flatO (List.replicate m (.slice none 0 0, .slice none 0 0)) = List.replicate (m * 2) (.slice none 0 0) := by
  induction m with
  | zero => rfl
  | succ m ih => rw [List.replicate_succ, show (m + 1) * 2 = m * 2 + 1 + 1 by omega, List.replicate_succ, List.replicate_succ, ← ih]; rfl
theorem made_ords (m : Nat) : madeCells #[.slice none 0 0, .slice none 0 0] (m * 2) = (flatO (List.replicate m (.slice none 0 0, .slice none 0 0))).toArray := by
  rw [flatO_rep]
  apply Array.ext
  · simp [size_madeCells]
  · intro i h1 h2
    rcases Nat.mod_two_eq_zero_or_one i with e | e <;> simp [madeCells, e]
/-- who stands at the nodes when i points have come -/
def LfA (RX LY : List S3) (i : Nat) (k : Nat) : List S3 := (LY.take i).filter (fun s => decide (k ∈ ptF RX.length (RX.idxOf s)))
/-- and at the first ones of a path one more -/
def LfB (L : Nat → List S3) (s : S3) (ks : List Nat) (k : Nat) : List S3 := L k ++ (if k ∈ ks then [s] else [])
theorem LfB_nil (L : Nat → List S3) (s : S3) : LfB L s [] = L := by funext k; simp [LfB]
theorem LfB_step (L : Nat → List S3) (s : S3) {ks : List Nat} {k : Nat} (hk : k ∉ ks) : upd (LfB L s ks) k s = LfB L s (ks ++ [k]) := by
  funext j
  unfold upd LfB
  by_cases e : j = k
  · subst e
    rw [if_pos rfl, if_neg hk, if_pos (by simp)]
    simp
  · rw [if_neg e]
    by_cases g : j ∈ ks
    · rw [if_pos g, if_pos (by simp [g])]
    · rw [if_neg g, if_neg (by simp [g, e])]
theorem LfA_step {RX LY : List S3} {i : Nat} {s : S3} (hs : LY[i]? = some s) : LfB (LfA RX LY i) s (ptF RX.length (RX.idxOf s)) = LfA RX LY (i + 1) := by
  funext k
  unfold LfB LfA
  rw [List.take_add_one, hs, List.filter_append]
  congr 1
  by_cases g : k ∈ ptF RX.length (RX.idxOf s)
  · rw [if_pos g]; simp [g]
  · rw [if_neg g]; simp [g]
theorem LfA_zero (RX LY : List S3) : LfA RX LY 0 = fun _ => [] := by funext k; simp [LfA]
theorem LfA_all (RX LY : List S3) : LfA RX LY LY.length = SPk RX LY := by funext k; unfold LfA SPk; rw [List.take_length]
theorem wts_step {RX LY : List S3} {i : Nat} {s : S3} (hs : LY[i]? = some s) : wts RX (LY.take (i + 1)) = wts RX (LY.take i) + (ptF RX.length (RX.idxOf s)).length := by
  unfold wts
  rw [List.take_add_one, hs, List.map_append, List.sum_append]
  simp
theorem FiM.start {w wr : World} {P : FiP} {RX LY : List S3} {cnt : Nat} (hE : EV 74 wr P.B [.pointer (some ⟨P.B, 0, none⟩), P.rva, P.rvn, .pointer (some ⟨P.fb, 0, none⟩), .slice none 0 0, .int .i64 cnt, .int .i64 (0 : Nat)])
    (hrow : OrR wr kx RX P.rva P.rvn) (hfr : FR wr P.fb RX.length P.fd P.fp) (hO : EV 70 wr P.ob (flatO (List.replicate (2 * RX.length - 1) (.slice none 0 0, .slice none 0 0)))) (hold : (∀ x, P.rva.ownBlock = some x → x < w.heap.size) ∧ (∀ x, P.rvn.ownBlock = some x → x < w.heap.size)) (hob : w.heap.size ≤ P.ob) (hb : Below w.heap.size w wr) :
    FiM w wr P RX cnt (wts RX (LY.take 0)) (List.replicate (2 * RX.length - 1) (.slice none 0 0, .slice none 0 0)) (LfA RX LY 0) := by
  have hq : ∀ (k : Nat) (q : Value × Value), (List.replicate (2 * RX.length - 1) ((.slice none 0 0 : Value), (.slice none 0 0 : Value)))[k]? = some q → q = (.slice none 0 0, .slice none 0 0) := fun k q e => by
    rw [List.getElem?_replicate] at e
    split at e
    · injection e with e; exact e.symm
    · cases e
  refine ⟨by simpa [wts] using hE, hrow, hfr, hO, by simp, fun k q e => ?_, fun k q e => ?_, fun j k p q e1 e2 _ => ?_, hold, hob, Off.of hb (Nat.le_refl _)⟩
  · rw [hq k q e, LfA_zero]; exact OrR.nil _ _
  · rw [hq k q e]; simp [Value.ownBlock]
  · rw [hq j p e1]; simp [Value.ownBlock]
theorem lit_atB (W : World) (l : List Value) (t : TypeId) : ∀ j u, l[j]? = some u → (W.alloc (.cells l.toArray t)).cell? ((⟨W.heap.size, 0, none⟩ : Addr).add j) = some u := by
  intro j u e
  rw [Addr.add_lit, World.cell?_alloc_new]
  simpa using e
section
variable {w : World} {P : FiP} {RX LY : List S3}
set_option maxRecDepth 100000 in
set_option maxHeartbeats 6400000 in
theorem fill_any (B fb : Nat) (fd : Int) (fp rva rvn : Value) (p : Option Addr) (c : Nat) (hE : EV 74 w B [.pointer (some ⟨B, 0, none⟩), rva, rvn, .pointer (some ⟨fb, 0, none⟩), .slice none 0 0, .int .i64 LY.length, .int .i64 (0 : Nat)])
    (hrow : OrR w kx RX rva rvn) (hfr : FR w fb RX.length fd fp) (hpl : PlI RX LY) (hx : TsS w p LY) (hxB : ∀ x off, p = some ⟨x, off, none⟩ → x ≠ B) :
    Calls Tryz.prog 68 #[.pointer (some ⟨B, 0, none⟩), .slice p LY.length c] w fun e w' => e = .returned (.tuple #[]) ∧ (∃ Q : BdP, Q.B = B ∧ BdM w' Q RX LY LY ∧ ∀ x ∈ blks Q, x = B ∨ x = fb ∨ rva.ownBlock = some x ∨ rvn.ownBlock = some x ∨ w.heap.size ≤ x) ∧ Off [B] w w' := by
  obtain ⟨cnt, hcnt⟩ : ∃ cnt, cnt = LY.length := ⟨_, rfl⟩
  have HCNT := Lib.hid hcnt
  rw [← hcnt] at hE
  clear hcnt
  obtain ⟨m, hm⟩ : ∃ m, m = 2 * RX.length - 1 := ⟨_, rfl⟩
  have hRoot : Hid (∀ X, Below w.heap.size w X → ∃ r : Int, r + 1 = (m : Int) ∧ -1 ≤ r ∧ r ≤ 1000 ∧ Calls Tryz.prog 96 #[.pointer (some ⟨fb, 0, none⟩)] X fun e w' => e = .returned (.int .i64 r) ∧ Below X.heap.size X w') := Lib.hid (fun X hb => by
    have hf := hpl.few
    by_cases h0 : RX.length = 0
    · have hF := hfr.keep hb
      rw [h0] at hF
      exact ⟨-1, by omega, by omega, by omega, (Root_none X fb fd fp hF).mono fun e w' hh => ⟨hh.1, by rw [hh.2]; exact Below.refl _ _⟩⟩
    · exact ⟨((2 * RX.length - 2 : Nat) : Int), by omega, by omega, by omega, Root_any X fb RX.length (2 * RX.length - 2) fd fp (hfr.keep hb) (by omega) (by omega) (by omega)⟩)
  obtain ⟨r, hr1, hr2, hr3, hRt⟩ := hRoot.out w (Below.refl _ _)
  have HRt := Lib.hid hRt
  have hm2 : m ≤ 1000 := by have := hpl.few; omega
  have hmk : ∀ X : World, (Instr.makeSlice 171 (.int .i64 (m : Int)) (.int .i64 (m : Int))).run Tryz.prog X = .ok (.slice (some ⟨X.heap.size, 0, none⟩) m m) (X.alloc (.cells (flatO (List.replicate m (.slice none 0 0, .slice none 0 0))).toArray 70)) := fun X => by
    have := made_anyP info_ord (by decide) (by decide) under_ords X m m (by omega) (by omega)
    rw [← made_ords]
    exact this
  have e3 := hE.cell (i := 3) rfl
  have HE := Lib.hid hE
  have HROW := Lib.hid hrow
  have HFR := Lib.hid hfr
  have HPL := Lib.hid hpl
  have HX := Lib.hid hx
  have HXB := Lib.hid hxB
  have hlen : LY.length = RX.length := hpl.pm.length_eq.symm
  obtain ⟨n, hn⟩ : ∃ n, n = LY.length := ⟨_, rfl⟩
  have HN := Lib.hid hn
  have HLEN := Lib.hid hlen
  have HM := Lib.hid hm
  have hn2 : n ≤ 400 := by rw [hn, hlen]; exact hpl.few
  rw [← hn]
  clear hRoot hRt hE hrow hfr hpl hx hxB hlen hn hm
  generalize hG : (flatO (List.replicate m (.slice none 0 0, .slice none 0 0))).toArray = G at hmk
  have HG := Lib.hid hG
  clear hG
  go_enter Tryz.func68, Tryz.ntmps68
  go_upto_block 2 with (go_at_call 96; (with_reducible refine HRt.out.mono ?_); rintro e w1 ⟨rfl, hb⟩; have HB1 := Lib.hid hb; clear hb)
  obtain ⟨P, hP⟩ : ∃ P : FiP, P = ⟨B, fb, w1.heap.size, fd, fp, rva, rvn⟩ := ⟨_, rfl⟩
  have HP := Lib.hid hP
  have HF0 : Hid (FiM w (w1.alloc (.cells G 70)) P RX cnt (wts RX (LY.take 0)) (List.replicate m (.slice none 0 0, .slice none 0 0)) (LfA RX LY 0)) := Lib.hid (by
    have hb2 : Below w.heap.size w (w1.alloc (.cells G 70)) := HB1.out.alloc HB1.out.size _
    rw [hP, HM.out]
    refine FiM.start (HE.out.keep hb2 HE.out.lt) (HROW.out.keep hb2) (HFR.out.keep hb2) ?_ ⟨fun x hx => (row_lt HROW.out.ra hx).2, fun x hx => (row_lt HROW.out.rn hx).2⟩ HB1.out.size hb2
    rw [← HM.out]
    show _ = some (Obj.cells _ _ _)
    rw [HG.out]
    exact heap_alloc_new w1 _)
  clear hP hr1 hr2 hr3 e3 hmk
  have HOB : Hid (P.ob = w1.heap.size ∧ P.B = B ∧ P.fb = fb) := Lib.hid (by rw [HP.out]; exact ⟨rfl, rfl, rfl⟩)
  go_loopw [24] (fun iv wr => ∃ (i : Nat) (OV : List (Value × Value)), i ≤ n ∧ iv = .int .i64 i ∧ Hid (FiM w wr P RX cnt (wts RX (LY.take i)) OV (LfA RX LY i))) (fun iv _ => n - (intOf iv).toNat)
  case atStart => exact ⟨0, _, Nat.zero_le _, rfl, HF0⟩
  case round =>
    clear HF0
    obtain ⟨i, OV, hi, rfl, HF⟩ := hrel
    by_cases hlt : i < n
    · have hltz : (i : Int) < n := by omega
      obtain ⟨s, hse⟩ : ∃ s, LY[i]? = some s := ⟨_, List.getElem?_eq_getElem (by rw [← HN.out]; exact hlt)⟩
      obtain ⟨bb, off, rfl, h1⟩ := (HX.out.off HF.out.off (fun x off e _ => by have := HXB.out x off e; have := HOB.out.2.1; simp; omega)).at hse
      have n0 := h1.c0
      have n1 := h1.c1
      have n2 := h1.c2
      have HSE := Lib.hid hse
      obtain ⟨sx, sy, si⟩ := s
      clear h1 hse
      go_upto_region 4 with fail
      obtain ⟨W, hWd⟩ : ∃ W, W = wr.alloc (.cells #[.int .i64 sx, .int .i64 sy, .int .u32 si] 34) := ⟨_, rfl⟩
      rw [← hWd]
      have hET : EV 34 W wr.heap.size [.int .i64 sx, .int .i64 sy, .int .u32 si] := hWd ▸ heap_alloc_new wr _
      have HFW := Lib.hid (HF.out.keep (hWd ▸ (Below.refl _ wr).alloc (Nat.le_refl _) _ : Below wr.heap.size wr W))
      have HTB : Hid (w.heap.size ≤ wr.heap.size) := Lib.hid HF.out.off.size
      have HET := Lib.hid hET
      obtain ⟨tb, etb⟩ : ∃ tb, tb = wr.heap.size := ⟨_, rfl⟩
      rw [← etb] at HET HTB
      rw [← etb]
      clear hWd n0 n1 n2 hET HF etb
      have hin : (sx, sy, si) ∈ RX := HPL.out.pm.mem_iff.2 (List.mem_of_getElem? HSE.out)
      obtain ⟨hid1, hid2⟩ := HPL.out.at_idx hin
      have HFI := Lib.hid (fun X (hb : Below W.heap.size W X) => by
        have hF := HFW.out.keep hb
        have := find_any (o := 1) (hF.ev.cell (i := 1) rfl) (hF.ev.cell (i := 2) rfl) hF.row HPL.out.ox (Nat.le_trans HPL.out.few (by decide)) sx si
        rw [show fnd kx RX sx si = (RX.idxOf (sx, sy, si), true) from fnd_yes HPL.out.ox (Nat.le_trans HPL.out.few (by decide)) hid1 rfl rfl, HOB.out.2.1] at this
        exact this)
      have HPA := Lib.hid (fun X (hb : Below W.heap.size W X) => by
        have := FPath_any X P.fb RX.length P.fd P.fp (HFW.out.keep hb).fr (RX.idxOf (sx, sy, si)) hid2 (Nat.le_trans HPL.out.few (by decide))
        rw [HOB.out.2.2] at this
        exact this)
      have HID := Lib.hid (show RX[RX.idxOf (sx, sy, si)]? = some (sx, sy, si) ∧ RX.idxOf (sx, sy, si) < RX.length from ⟨hid1, hid2⟩)
      unfold tupP at HPA
      clear hin hid1 hid2
      generalize hq : RX.idxOf (sx, sy, si) = q at *
      have inst : Nonempty (Wd (Bw W)) := ⟨⟨W, Below.refl _ _⟩⟩
      have b0 : ∀ z : Wd (Bw W), z.w.cell? ⟨tb, 0, none⟩ = _ := fun z => Bw.cell z (HET.out.cell (i := 0) rfl)
      have b2 : ∀ z : Wd (Bw W), z.w.cell? ⟨tb, 2, none⟩ = _ := fun z => Bw.cell z (HET.out.cell (i := 2) rfl)
      have HFC := Lib.hid (fun z : Wd (Bw W) => HFI.out z.w z.h)
      refine wp_region_wd (Bw W) (by kernel_rfl) (by kernel_rfl) ((Below.refl _ W).drew) ?_
      repeat (first
        | go_big_quiet_step (first | (go_at_call 42; with_reducible exact calls_wd (fun _ _ h hb => h.keep hb) _ (HFC.out _)))
        | quiet_step (first | (go_at_call 42; with_reducible exact calls_wd (fun _ _ h hb => h.keep hb) _ (HFC.out _))))
      refine wpQuiet_nil ?_
      rintro _ ⟨z, rfl⟩
      have HF2 := Lib.hid (HFW.out.keep z.h)
      have HET2 := Lib.hid (HET.out.keep z.h HET.out.lt)
      have c3 := HF2.out.ev.cell (i := 3) rfl
      have HP2 := Lib.hid (HPA.out z.w z.h)
      rw [HOB.out.2.1, HOB.out.2.2] at c3
      generalize z.w = w2 at *
      clear b0 b2 HFC inst HFW HET HFI HPA
      go_upto_block 7 with (go_at_call 43; (with_reducible refine HP2.out.mono ?_); rintro e w3 ⟨v, rfl, hr, hb⟩; obtain ⟨-, pv, cv, rfl, -, -, hcv⟩ := row_u (k := .i64) (xs := ints (ptF RX.length q)) hr; have HF3 := Lib.hid (HF2.out.keep hb); have HR3 := Lib.hid (row_at hr (base' := w.heap.size) (fun k hk => ⟨rfl, Nat.le_trans HF2.out.off.size (row_lt hr hk).1⟩)); have HET3 := Lib.hid (HET2.out.keep hb HET2.out.lt); clear hr hb)
      obtain ⟨gn, cpn, e1, -, -⟩ := row_cell HR3.out (j := 0) (u := .int .i64 (2 * RX.length - 2 : Nat)) (by
        change ((ints (ptF RX.length q)).map (Value.int .i64))[0]? = _
        obtain ⟨tl, hpt, -⟩ := ptF_walk HID.out.2
        rw [hpt]; rfl)
      injection e1 with e1 _ ec
      subst ec
      subst e1
      have hnl : (pt q (tr RX.length) 0 0).length ≤ 1000 := by
        have h1 := ptF_len (n := RX.length) (leaf := q) (by have := HID.out.2; omega) (Nat.le_trans HPL.out.few (by decide))
        unfold ptF at h1
        have h3 : lgI (RX.length : Int) ≤ 100 := by unfold lgI; rw [Int.toNat_natCast]; exact Nat.le_trans (lgM (by have := HPL.out.few; omega) (by omega) : lgN RX.length ≤ lgN 400) (by decide)
        omega
      have hnl2 : Hid ((ptF RX.length q).length = (pt q (tr RX.length) 0 0).length) := Lib.hid rfl
      have HRR : Hid (w3.ownsRow w.heap.size 3 1 (.slice (some ⟨gn, 0, none⟩) (pt q (tr RX.length) 0 0).length cv) (pt q (tr RX.length) 0 0).length ((ints (ptF RX.length q)).map (Value.int .i64))) := HR3
      have HKL : Hid (∀ k, k ∈ ptF RX.length q → k < m) := Lib.hid (fun k hk => by
        rw [HM.out]
        have h1 := (pt_range hk).2
        have h2 := lv_tr (m := RX.length) (by have := HID.out.2; omega)
        unfold rt at h1
        rw [h2] at h1
        have := HID.out.2
        omega)
      have HQ := Lib.hid hq
      clear HR3 hq HP2 HF2 HET2 c3
      generalize (pt q (tr RX.length) 0 0).length = nl at *
      go_loopw [50] (fun jv wj => ∃ (j : Nat) (OV' : List (Value × Value)), j ≤ nl ∧ jv = .int .i64 j ∧ Hid (FiM w wj P RX cnt (wts RX (LY.take i)) OV' (LfB (LfA RX LY i) (sx, sy, si) ((ptF RX.length q).take j))) ∧ Hid (wj.ownsRow w.heap.size 3 1 (.slice (some ⟨gn, 0, none⟩) nl cv) nl ((ints (ptF RX.length q)).map (Value.int .i64))) ∧ Hid (EV 34 wj tb [.int .i64 sx, .int .i64 sy, .int .u32 si])) (fun jv _ => nl - (intOf jv).toNat)
      case atStart => exact ⟨0, OV, Nat.zero_le _, rfl, Lib.hid (by rw [List.take_zero, LfB_nil]; exact HF3.out), HRR, HET3⟩
      case round =>
        clear HF3 HRR HET3
        obtain ⟨j, OV2, hj, rfl, HF4, HR4, HE4⟩ := hrel
        by_cases hjl : j < nl
        · have hjz : (j : Int) < nl := by omega
          obtain ⟨k, hk⟩ : ∃ k, (ptF RX.length q)[j]? = some k := ⟨_, List.getElem?_eq_getElem (by rw [hnl2.out]; exact hjl)⟩
          have hkm := HKL.out k (List.mem_of_getElem? hk)
          obtain ⟨gm, cpn, e1, -, hcl⟩ := row_cell HR4.out (j := j) (u := .int .i64 k) (by rw [List.getElem?_map, ints, List.getElem?_map, hk]; rfl)
          injection e1 with e1 _ ec
          injection e1 with e1
          injection e1 with e1 _ _
          subst ec
          subst e1
          have hnk : k ∉ (ptF RX.length q).take j := fun hm => by
            obtain ⟨j', hj'⟩ := List.mem_iff_getElem?.1 hm
            rw [List.getElem?_take] at hj'
            split at hj'
            · obtain ⟨l1, e1⟩ := List.getElem?_eq_some_iff.1 hj'
              obtain ⟨l2, e2⟩ := List.getElem?_eq_some_iff.1 hk
              have := (List.getElem_inj (h₀ := l1) (h₁ := l2) (ptF_nodup RX.length q)).1 (e1.trans e2.symm)
              omega
            · cases hj'
          obtain ⟨⟨va, vn⟩, hov⟩ : ∃ v, OV2[k]? = some v := ⟨_, List.getElem?_eq_getElem (by rw [HF4.out.osl, ← HM.out]; exact hkm)⟩
          have HNK := Lib.hid hnk
          have HKK := Lib.hid hk
          have HOV := Lib.hid hov
          clear hnk hk hov
          have HOA := Lib.hid (fun X (hb : Below wr.heap.size wr X) => by
            have hF := HF4.out.keep hb
            have hO := hF.or_ k _ HOV.out
            obtain ⟨g1, g2⟩ := flatO_get OV2 HOV.out
            exact oadd_any (s := (sx, sy, si)) hF.os g1 g2 hO (fun c => by obtain ⟨x, e⟩ := row_type hO.ra c; exact types_ne hF.os e (by decide) rfl) (fun c => by obtain ⟨x, e⟩ := row_type hO.rn c; exact types_ne hF.os e (by decide) rfl) (by
              unfold LfB
              have l1 : (LfA RX LY i k).length ≤ LY.length := Nat.le_trans (List.length_filter_le _ _) (by rw [List.length_take]; omega)
              have := HN.out
              rw [List.length_append]
              split <;> simp <;> omega))
          rw [HOB.out.1] at HOA
          go_upto_region 9 with fail
          have inst : Nonempty (Wd (Bw wr)) := ⟨⟨wr, Below.refl _ _⟩⟩
          have b1 : ∀ z : Wd (Bw wr), z.w.cell? ⟨tb, 1, none⟩ = _ := fun z => Bw.cell z (HE4.out.cell (i := 1) rfl)
          have b2 : ∀ z : Wd (Bw wr), z.w.cell? ⟨tb, 2, none⟩ = _ := fun z => Bw.cell z (HE4.out.cell (i := 2) rfl)
          refine wp_region_qc (Bw wr) 7 (by kernel_rfl) (by kernel_rfl) ((Below.refl _ wr).drew) ?_
          simp only [List.take_succ_cons, List.take_zero, List.drop_succ_cons, List.drop_zero]
          repeat (first | go_big_quiet_step (fail) | quiet_step (fail))
          refine wpQuiet_nil ?_
          rintro _ ⟨z3, rfl⟩
          refine wpOp_callW rfl rfl (f := 85) (args := #[.pointer (some ⟨w1.heap.size, k * 2, none⟩), .int .i64 sy, .int .u32 si]) (by simp [execOp, resolve, invoke, Act.eval, Deferred.ofValue, go_sem]) ?_
          refine (HOA.out z3.w z3.h).mono ?_
          rintro e w5 ⟨rfl, va', vn', hr5, hE5, ho5, q1, q2⟩
          refine ⟨_, rfl, ?_⟩
          refine wpQuiet_nil ?_
          have hF5 := HF4.out.keep z3.h
          have hO5 := hF5.or_ k _ HOV.out
          have hty : ∀ {t : TypeId} {c : Array Value} {x : Nat}, z3.w.heap[x]? = some (.cells c t (0, 0)) → t ≠ 70 → t ≠ 2 → t ≠ 32 → x ∉ w1.heap.size :: (va.ownBlock.toList ++ vn.ownBlock.toList) := fun {t c x} e t1 t2 t3 => by
            rw [← HOB.out.1]
            simp only [List.mem_cons, List.mem_append, Option.mem_toList, not_or]
            refine ⟨types_ne e hF5.os t1, fun hc => ?_, fun hc => ?_⟩
            · obtain ⟨x, e'⟩ := row_type hO5.ra hc; exact types_ne e e' t2 rfl
            · obtain ⟨x, e'⟩ := row_type hO5.rn hc; exact types_ne e e' t3 rfl
          have HR5 := Lib.hid (row_offS (row_keep HR4.out z3.h) ho5 (fun x hx => by obtain ⟨c, e⟩ := row_type (row_keep HR4.out z3.h) hx; exact hty e (by decide) (by decide) (by decide)))
          have HE5 := Lib.hid ((HE4.out.keep z3.h HE4.out.lt).off ho5 (hty (HE4.out.keep z3.h HE4.out.lt) (by decide) (by decide) (by decide)))
          rw [← HOB.out.1] at hE5 ho5
          have HF5 := Lib.hid (hF5.step HOV.out hr5 hE5 ho5 q1 q2)
          rw [LfB_step _ _ HNK.out] at HF5
          clear hF5 hO5 hty hr5 hE5 ho5 q1 q2 b1 b2 inst HOA hcl
          go_wp2
          go_roundw
          case rel => exact ⟨j + 1, _, by omega, by go_num, Lib.hid (by rw [List.take_add_one, HKK.out]; exact HF5.out), HR5, HE5⟩
          case measure => simp [intOf]; omega
        · have hjz : ¬ (j : Int) < nl := by omega
          obtain rfl : j = nl := by omega
          have hF := HF4.out
          have e1 : (ptF RX.length q).take j = ptF RX.length q := List.take_of_length_le (by rw [hnl2.out]; exact Nat.le_refl _)
          rw [e1, ← HQ.out, LfA_step HSE.out] at hF
          have d6 := hF.ev.cell (i := 6) rfl
          have f6 := hF.ev.free 6
          rw [HOB.out.2.1] at d6 f6
          have hws := wts_step (RX := RX) HSE.out
          rw [HQ.out, hnl2.out] at hws
          have hwb : wts RX (LY.take i) ≤ 10000 := by
            have h1 := (wts_few HPL.out (A := LY.take i) (fun s hs => HPL.out.pm.mem_iff.2 (List.mem_of_mem_take hs))).2
            have h2 := lg_small2 HPL.out
            have h3 : (LY.take i).length * (lgN (RX.length + 1) + 1) ≤ 400 * 10 := Nat.mul_le_mul (by rw [List.length_take]; omega) (by omega)
            omega
          have HFN := Lib.hid (hF.heavy (wts RX (LY.take (i + 1))))
          rw [HOB.out.2.1] at HFN
          generalize hw2e : wts RX (LY.take (i + 1)) = wt2 at *
          have HW2 := Lib.hid hw2e
          clear hw2e
          generalize wts RX (LY.take i) = wt1 at *
          have hwz : (wt1 : Int) + j = (wt2 : Nat) := by omega
          have hw2 : wt2 ≤ 20000 := by omega
          clear hF hws
          go_wp2
          go_roundw
          case rel => exact ⟨i + 1, _, by omega, by go_num, Lib.hid (by rw [HW2.out]; exact HFN.out)⟩
          case measure => simp [intOf]; omega
    · have hltz : ¬ (i : Int) < n := by omega
      obtain rfl : i = n := by omega
      have HJ0 : Hid (FjM w wr P RX LY cnt (wts RX LY) OV [] (.slice none 0 0)) := Lib.hid (FjM.start (by
        have := HF.out
        rw [HN.out, LfA_all, List.take_length] at this
        exact this))
      have HNW : Hid (∀ (k : Nat) (q : Value × Value), OV[k]? = some q → k < m) := Lib.hid (fun k q e => by have h1 := (List.getElem?_eq_some_iff.1 e).1; rw [HF.out.osl, ← HM.out] at h1; exact h1)
      have HOL : Hid (OV.length = m) := Lib.hid (by rw [HF.out.osl, ← HM.out])
      have HNEW := Lib.hid HF.out.new
      clear HF
      generalize wr = wy at *
      go_upto_block 14 with fail
      go_loopw [75] (fun kv wj => ∃ (k : Nat) (LL : List LsP) (lv : Value), k ≤ m ∧ LL.length = k ∧ kv = .int .i64 k ∧ Hid (FjM w wj P RX LY cnt (wts RX LY) OV LL lv)) (fun kv _ => m - (intOf kv).toNat)
      case atStart => exact ⟨0, [], _, Nat.zero_le _, rfl, rfl, HJ0⟩
      case round =>
        clear HJ0
        obtain ⟨k, LL, lv, hk, hLL, rfl, HJ⟩ := hrel
        by_cases hkm : k < m
        · have hkz : (k : Int) < m := by omega
          obtain ⟨⟨va, vn⟩, hov⟩ : ∃ v, OV[k]? = some v := ⟨_, List.getElem?_eq_getElem (by rw [HOL.out]; exact hkm)⟩
          have hO := HJ.out.or_ k _ hov
          obtain ⟨pa, ca, rfl, -, -⟩ := hO.ks
          obtain ⟨pn, cn, rfl, -, -⟩ := hO.ns
          obtain ⟨g1, g2⟩ := flatO_get OV hov
          have c0 := HJ.out.os.cell g1
          have c1 := HJ.out.os.cell g2
          rw [HOB.out.1] at c0 c1
          have HOV := Lib.hid hov
          have hsl := SPk_len HPL.out k
          have hsf := HPL.out.few
          have HLO := Lib.hid (fun X => listOf_any X pa pn (SPk RX LY k).length ca cn (by omega))
          generalize hsk : (SPk RX LY k).length = sk at *
          have HSK := Lib.hid hsk
          have HLL := Lib.hid hLL
          go_upto_region 16 with fail
          obtain ⟨W, hWd⟩ : ∃ W, W = wr.alloc (.cells #[.slice pa sk ca, .slice pn sk cn] 70) := ⟨_, rfl⟩
          rw [← hWd]
          have hbw : Below wr.heap.size wr W := hWd ▸ (Below.refl _ wr).alloc (Nat.le_refl _) _
          have hEB : EV 70 W wr.heap.size [.slice pa sk ca, .slice pn sk cn] := hWd ▸ heap_alloc_new wr _
          have HJW := Lib.hid (HJ.out.keep hbw)
          have x0 := hEB.cell (i := 0) rfl
          have x1 := hEB.cell (i := 1) rfl
          have x4 := HJW.out.ev.cell (i := 4) rfl
          rw [HOB.out.2.1] at x4
          obtain ⟨tb, etb⟩ : ∃ tb, tb = wr.heap.size := ⟨_, rfl⟩
          rw [← etb] at x0 x1
          rw [← etb]
          clear hWd hbw hEB hO hov g1 g2 c0 c1 hsk hsl hsf etb hLL
          have HJD := Lib.hid (show FjM w W.drew P RX LY cnt (wts RX LY) OV LL lv from HJW.out.keep ((Below.refl _ W).drew))
          go_region_law (first
            | (refine step_long info_list rfl (by decide) under_lists rfl (.tmp 83) (.tmp 86) rfl lv k _ (by simp [Act.eval]) (by exact HR4.out.alloc _) ⟨w4.heap.size, 0, none⟩ 1 1 (lc8 sk ⟨.slice pa sk ca, ⟨.slice pn sk cn, br, bo, ba, bw⟩, z⟩) (by simp [Act.eval]) rfl (by exact lit_atB w4 [.slice pa sk ca, .slice pn sk cn, .slice pn sk cn, .slice (some ⟨br, 0, none⟩) (sk + 1) (sk + 1), .slice (some ⟨bo, 0, none⟩) (sk + 1) (sk + 1), .int .i64 z, .slice (some ⟨ba, 0, none⟩) (sk / z + 1) (sk / z + 1), .slice (some ⟨bw, 0, none⟩) (sk + 1) (sk + 1)] 89) (by intro u hu; simp [lc8, lcl, nmc] at hu; rcases hu with rfl | rfl | rfl | rfl | rfl | rfl | rfl <;> rfl) (by omega) (by omega) (by decide) ?_; intro g cap w6 r1 r2 r3; have R1 := Lib.hid r1; have R2 := Lib.hid r2; have R3 := Lib.hid r3; have hv6 := EV.grown (HJ4.out.ev.all _) r2 HBL.out; have m1 := hv6.cell (i := 4) rfl; have m2 := hv6.free 4; rw [HOB.out.2.1] at m1 m2; clear r1 r2 r3 hv6)
            | (go_simp; go_at_call 97; refine (HLO.out _).mono ?_; rintro e w4 ⟨⟨vn0, br, bo, ba, bw⟩, z, hvn, rfl, t1, t5⟩; simp only at hvn; subst hvn; have HJ4 := Lib.hid (FjM.keep HJD.out t5); have HR4 : Hid (w4.ownsRow 0 89 8 lv k (flatN (fun k => (SPk RX LY k).length) 0 LL)) := Lib.hid (by have := row_at HJ4.out.rows (w' := w4) (base' := 0) (fun x _ => ⟨rfl, Nat.zero_le _⟩); rw [HLL.out] at this; exact this); have HBL : Hid (some P.B ≠ lv.ownBlock) := Lib.hid (fun c => by obtain ⟨x, e⟩ := row_type HJ4.out.rows c.symm; exact types_ne HJ4.out.ev e (by decide) rfl); have T1 := Lib.hid t1; have HB4 := Lib.hid t5; have y4 := HJ4.out.ev.cell (i := 4) rfl; rw [HOB.out.2.1] at y4; have z4 : (w4.alloc (.cells #[.slice pa sk ca, .slice pn sk cn, .slice pn sk cn, .slice (some ⟨br, 0, none⟩) (sk + 1) (sk + 1), .slice (some ⟨bo, 0, none⟩) (sk + 1) (sk + 1), .int .i64 z, .slice (some ⟨ba, 0, none⟩) (sk / z + 1) (sk / z + 1), .slice (some ⟨bw, 0, none⟩) (sk + 1) (sk + 1)] 89)).cell? ⟨B, 4, none⟩ = some lv := cell_al _ y4; clear t1 t5; unfold lcl nmc; simp only []))
          all_goals (go_wp2_with fail)
          all_goals (
            go_roundw
            case rel =>
              have hg : Off lv.ownBlock.toList W.drew w6 := ((Off.of (S := lv.ownBlock.toList) HB4.out (Nat.le_refl _)).all _).grow R2.out (fun x e => .inl (by simp [e]))
              have hg4 : Off lv.ownBlock.toList w4 w6 := ((Off.refl _ w4).all _).grow R2.out (fun x e => .inl (by simp [e]))
              have tl : ∀ {t : TypeId} {c : Array Value} {x : Nat}, w4.heap[x]? = some (.cells c t (0, 0)) → t ≠ 89 → x ∉ lv.ownBlock.toList := fun {t c x} e ht hm => by
                obtain ⟨c', e'⟩ := row_type HJ4.out.rows (by simpa using hm)
                exact types_ne e e' ht rfl
              have hsz := HJD.out.off.size
              have hno : NoB w w6 sk z ⟨.slice pn sk cn, br, bo, ba, bw⟩ := NoB.off (wr := w4) ⟨T1.out.r, T1.out.o, T1.out.a, T1.out.b, T1.out.ne, T1.out.zz, fun x hx => Nat.le_trans hsz (T1.out.new x hx)⟩ hg4 (fun x hx => by
                simp only [mbl, List.mem_cons, List.not_mem_nil, or_false] at hx
                rcases hx with rfl | rfl | rfl | rfl
                · exact tl T1.out.r (by decide)
                · exact tl T1.out.o (by decide)
                · exact tl T1.out.a (by decide)
                · exact tl T1.out.b (by decide))
              have hst := HJD.out.step (X := w6) (p := ⟨.slice pa sk ca, ⟨.slice pn sk cn, br, bo, ba, bw⟩, z⟩) (lv' := .slice (some ⟨g, 0, none⟩) (k + 1) cap) hg (by rw [HLL.out]; exact HOV.out) (by rw [HLL.out, HSK.out]; exact hno) T1.out.new (by rw [HLL.out, HSK.out]; exact R1.out) (fun x hx => by
                simp [Value.ownBlock] at hx
                subst hx
                exact R3.out.elim .inl (fun e => .inr (by have := HB4.out.size; simp at e; omega)))
              rw [HOB.out.2.1] at hst
              exact ⟨k + 1, _, _, by omega, by rw [List.length_append, HLL.out]; rfl, by go_num, Lib.hid hst⟩
            case measure => simp [intOf]; omega)
        · have hkz : ¬ (k : Int) < m := by omega
          obtain rfl : k = m := by omega
          go_wp2
          go_end0
          obtain ⟨Q, hQ1, hQ2, hQ3⟩ := (show FjM w wr P RX LY LY.length (wts RX LY) OV LL lv by have := HJ.out; rw [HCNT.out] at this; exact this).done (by rw [hLL]; exact HM.out) HPL.out
          have hoff := HJ.out.off
          rw [HOB.out.2.1] at hQ1 hQ3 hoff
          rw [HOB.out.2.2] at hQ3
          refine ⟨rfl, ⟨Q, hQ1, hQ2, fun x hx => ?_⟩, hoff⟩
          rcases hQ3 x hx with g | g | g | g | g | ⟨k, q, e, g⟩
          · exact .inl g
          · exact .inr (.inl g)
          · exact .inr (.inr (.inl (by rw [HP.out] at g; exact g)))
          · exact .inr (.inr (.inr (.inl (by rw [HP.out] at g; exact g))))
          · exact .inr (.inr (.inr (.inr g)))
          · exact .inr (.inr (.inr (.inr (g.elim ((HNEW.out k q e).1 x) ((HNEW.out k q e).2 x)))))
end
end Go.Proofs.YtfcpfffgodljeaaGreat.Bd
