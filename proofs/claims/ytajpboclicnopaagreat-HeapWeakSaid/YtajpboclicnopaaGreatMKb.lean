/-
  The lists of a node over two kids, and of those below it, are made: the walk. No condition but those typed at each theorem.
-/
import Derived.Test.YtajpboclicnopaaGreatMKa
namespace Go.Proofs.YtajpboclicnopaaGreat.Ca
open Go.RowKit Go.Sort Bd
section
variable {kb B : Nat} {RX LY : List S3}
theorem seat_kept {wN W w5 : World} {k mid i : Nat} {SP : List S3} {S6 : List Value} {vl vr vb : Value} {tb : Nat} {L : List Value} {o : Obj} (hT : EV 133 W tb L) (h : FlM wN W kb k RX mid SP S6 i vl vr vb) (r2 : (W.alloc o).grownBy w5 vb.ownBlock) : EV 133 w5 tb L :=
  EV.grown (hT.all o) r2 (fun c => by
    obtain ⟨x, e⟩ := row_type h.rb c.symm
    exact types_ne hT e (by decide) rfl)
theorem root_mid {KV : List Value} : ∀ {t : Tr} {b f : Nat}, KzT KV t b f → KV[rt b t * 14 + 4]? = some (.int .i64 ((f + lv t : Nat) : Int))
  | .lf, b, f, h => by
    have e : rt b .lf = b := by simp [rt, lv]
    rw [e]
    exact h 4 _ rfl
  | .nd l r, b, f, h => by
    rw [rt_nd]
    exact h.2.2 4 _ rfl
set_option maxRecDepth 100000 in
set_option maxHeartbeats 3200000 in
theorem fill_nd (hpl : PlI RX LY) {w : World} {b f m cap : Nat} {l r : Tr} {v : Value} {KV : List Value} (hE : EV 95 w kb KV) (c5 : w.cell? ⟨B, 5, none⟩ = some (.slice (some ⟨kb, 0, none⟩) m cap)) (hbm : rt b (.nd l r) < m) (hBk : B ≠ kb)
    (hzT : KzT KV (.nd l r) b f) (hv : SeR w 0 RX (SR RX LY f (f + (lv l + lv r))) v)
    (ihl : ∀ (w : World) (v : Value) (KV : List Value), EV 95 w kb KV → w.cell? ⟨B, 5, none⟩ = some (.slice (some ⟨kb, 0, none⟩) m cap) → KzT KV l b f → SeR w 0 RX (SR RX LY f (f + lv l)) v → Calls Tryz.prog 64 #[.pointer (some ⟨B, 0, none⟩), .int .i64 (rt b l : Nat), v] w (FillR kb RX LY w KV l b f))
    (ihr : ∀ (w : World) (v : Value) (KV : List Value), EV 95 w kb KV → w.cell? ⟨B, 5, none⟩ = some (.slice (some ⟨kb, 0, none⟩) m cap) → KzT KV r (b + sz l) (f + lv l) → SeR w 0 RX (SR RX LY (f + lv l) (f + (lv l + lv r))) v → Calls Tryz.prog 64 #[.pointer (some ⟨B, 0, none⟩), .int .i64 (rt (b + sz l) r : Nat), v] w (FillR kb RX LY w KV r (b + sz l) (f + lv l))) :
    Calls Tryz.prog 64 #[.pointer (some ⟨B, 0, none⟩), .int .i64 (rt b (.nd l r) : Nat), v] w (FillR kb RX LY w KV (.nd l r) b f) := by
  obtain ⟨hzl, hzr, hz⟩ := hzT
  have e1 := sz_nd l r
  have e2 := rt_nd b l r
  have e3 := rt_lt b l
  have e4 := rt_lt (b + sz l) r
  have p1 := sz_pos l
  have p2 := sz_pos r
  have hmid := root_mid hzl
  rw [e2] at hbm ⊢
  have hfew := SR_few hpl f (f + (lv l + lv r))
  have HNM := Lib.hid (names_any hv (by omega))
  have HE := Lib.hid hE
  have HZ := Lib.hid hz
  have HZL := Lib.hid hzl
  have HZR := Lib.hid hzr
  have HV := Lib.hid hv
  have HIL := Lib.hid ihl
  have HIR := Lib.hid ihr
  have HC5 := Lib.hid c5
  have HSC := Lib.hid (SR_cut (RX := RX) (LY := LY) (f := f) (m := f + lv l) (e := f + (lv l + lv r)) (by omega) (by omega))
  obtain ⟨SP, hSP⟩ : ∃ SP, SP = SR RX LY f (f + (lv l + lv r)) := ⟨_, rfl⟩
  have HSP := Lib.hid hSP
  rw [← hSP] at HNM HV hfew HSC
  obtain ⟨mid, hmd⟩ : ∃ mid, mid = f + lv l := ⟨_, rfl⟩
  have HMD := Lib.hid hmd
  rw [← hmd] at hmid HSC
  obtain ⟨sl, hsl⟩ : ∃ sl, sl = SP.length := ⟨_, rfl⟩
  have HSL := Lib.hid hsl
  have HNO := Lib.hid (fun X pn cn => namesOf_any X pn sl cn (by omega))
  obtain ⟨k, hk⟩ : ∃ k, k = b + sz l + sz r := ⟨_, rfl⟩
  have HK := Lib.hid hk
  rw [← hk] at hbm HZ ⊢
  have n0 := hE.cell (hz 0 _ rfl)
  rw [← hk] at n0
  simp only [Nat.add_zero, inN] at n0
  obtain ⟨rl, hrl⟩ : ∃ rl, rl = rt b l := ⟨_, rfl⟩
  obtain ⟨rr, hrr⟩ : ∃ rr, rr = rt (b + sz l) r := ⟨_, rfl⟩
  have HRL := Lib.hid hrl
  have HRR := Lib.hid hrr
  rw [← hrl] at hmid HIL
  rw [← hrr] at HIR
  have HME := Lib.hid hmid
  have HNN := Lib.hid (show rl + 1 = b + sz l ∧ rr + 1 = k ∧ rl < k ∧ rr < k from ⟨by omega, by omega, by omega, by omega⟩)
  have hrlm : rl < m := by omega
  have hBkH := Lib.hid hBk
  obtain ⟨p, c, rfl, -⟩ := hv.shape
  rw [← hSP, ← hsl] at HV ⊢
  rw [← hSP, ← hsl] at HNM
  rw [← hsl] at hfew
  clear hE hz hzl hzr hv hsl hSP hmd ihl ihr hk hrl hrr hmid e1 e2 e3 e4 p1 p2 hBk
  go_enter Tryz.func64, Tryz.ntmps64
  go_upto_region 3 with (first
    | (go_at_call 102; (with_reducible refine HNM.out.mono ?_); rintro e w1 ⟨⟨v2, rfl, hr2⟩, hb⟩; have hr2' := hr2; rw [HSL.out, ← ids_len] at hr2'; obtain ⟨-, pn, cn, ev2, -, -, -⟩ := row_u hr2'; rw [ids_len, ← HSL.out] at ev2; subst ev2; have HB1 := Lib.hid hb; have HR2 := Lib.hid hr2; have HN1 := Lib.hid (HNO.out w1 pn cn); clear hb hr2 hr2')
    | (go_at_call 101; refine HN1.out.mono ?_; rintro e w2 ⟨⟨vn, br, bo, ba, bw⟩, z, hvn, rfl, hno, hb⟩; simp only at hvn; subst hvn; have HB2 := Lib.hid hb; have HNB := Lib.hid hno; have hE2 := (HE.out.keep HB1.out HE.out.lt).keep hb (Nat.lt_of_lt_of_le HE.out.lt HB1.out.size); have HE2 := Lib.hid hE2; have e7 := hE2.cell (HZ.out 7 _ rfl); have f7 := hE2.free (k * 14 + 7); have e8 := hE2.cell (HZ.out 8 _ rfl); have f8 := hE2.free (k * 14 + 8); have e9 := hE2.cell (HZ.out 9 _ rfl); have f9 := hE2.free (k * 14 + 9); have ea := hE2.cell (HZ.out 10 _ rfl); have fa := hE2.free (k * 14 + 10); have eb := hE2.cell (HZ.out 11 _ rfl); have fb := hE2.free (k * 14 + 11); have ec := hE2.cell (HZ.out 12 _ rfl); have fc := hE2.free (k * 14 + 12); have m0 := ((HB1.out.trans (hb.mono HB1.out.size)).cell (World.block_lt_of_cell? _ _ n0)).trans n0; clear hb hno hE2; unfold nmc; simp only []))
  obtain ⟨S6, hS6⟩ : ∃ S, S = set6 KV (k * 14 + 7) (.slice pn sl cn) (.slice (some ⟨br, 0, none⟩) (sl + 1) (sl + 1)) (.slice (some ⟨bo, 0, none⟩) (sl + 1) (sl + 1)) (.int .i64 z) (.slice (some ⟨ba, 0, none⟩) (sl / z + 1) (sl / z + 1)) (.slice (some ⟨bw, 0, none⟩) (sl + 1) (sl + 1)) := ⟨_, rfl⟩
  obtain ⟨wN, hWN⟩ : ∃ X, X = ((((((w2.setCell ⟨kb, k * 14 + 7, none⟩ (.slice pn sl cn)).setCell ⟨kb, k * 14 + 8, none⟩ (.slice (some ⟨br, 0, none⟩) (sl + 1) (sl + 1))).setCell ⟨kb, k * 14 + 9, none⟩ (.slice (some ⟨bo, 0, none⟩) (sl + 1) (sl + 1))).setCell ⟨kb, k * 14 + 10, none⟩ (.int .i64 z)).setCell ⟨kb, k * 14 + 11, none⟩ (.slice (some ⟨ba, 0, none⟩) (sl / z + 1) (sl / z + 1))).setCell ⟨kb, k * 14 + 12, none⟩ (.slice (some ⟨bw, 0, none⟩) (sl + 1) (sl + 1))) := ⟨_, rfl⟩
  rw [← hWN]
  have hs6 : Off [kb] w2 wN := hWN ▸ ((((((Off.refl [kb] w2).set _ _ (.inl (by simp))).set _ _ (.inl (by simp))).set _ _ (.inl (by simp))).set _ _ (.inl (by simp))).set _ _ (.inl (by simp))).set _ _ (.inl (by simp))
  have HES : Hid (EV 95 wN kb S6) := Lib.hid (by
    rw [hWN, hS6]
    exact (((((HE2.out.set (k * 14 + 7) _).set (k * 14 + 8) _).set (k * 14 + 9) _).set (k * 14 + 10) _).set (k * 14 + 11) _).set (k * 14 + 12) _)
  have HOWN : Hid (KbM w wN RX SP ⟨⟨.slice pn sl cn, br, bo, ba, bw⟩, z, .slice none 0 0⟩ none) := Lib.hid (own_made (RX := RX) HB1.out (by have := HR2.out; rw [HSL.out] at this; rw [← HSL.out] at this ⊢; exact this) HB2.out (by rw [← HSL.out]; exact HNB.out) rfl HE2.out hs6)
  have HBN : Hid (Off [kb] w wN) := Lib.hid (((Off.of (S := [kb]) HB1.out (Nat.le_refl _)).trans (Off.of (S := [kb]) HB2.out (Nat.le_refl _))).trans hs6)
  have HKD : Hid (∀ bg, KcAt (S6.set (k * 14 + 13) bg) k (kd (inN b f l r) sl ⟨⟨.slice pn sl cn, br, bo, ba, bw⟩, z, bg⟩)) := Lib.hid (fun bg => by rw [hS6]; exact kd_set HZ.out)
  have HSO : Hid (∀ i, (i < k * 14 + 7 ∨ k * 14 + 13 ≤ i) → S6[i]? = KV[i]?) := Lib.hid (fun i hi => by rw [hS6]; exact set6_out _ _ _ _ _ _ _ _ (by omega))
  have HVN : Hid (SeR wN 0 RX SP (.slice p sl c)) := Lib.hid (by
    have h2 := (HV.out.keep HB1.out).keep HB2.out
    refine h2.off hs6 (fun x hx hm => ?_)
    obtain ⟨c1, e1⟩ := row_type h2 hx
    exact types_ne e1 HE2.out (by decide) (List.mem_singleton.1 hm))
  have C5N : Hid (wN.cell? ⟨B, 5, none⟩ = some (.slice (some ⟨kb, 0, none⟩) m cap)) := Lib.hid (HBN.out.cell HC5.out (by simpa using hBkH.out))
  have HG : Hid (∀ vb : Value, (S6.set (k * 14 + 13) vb)[k * 14 + 1]? = some (.int .i64 (rl : Nat)) ∧ (S6.set (k * 14 + 13) vb)[k * 14 + 2]? = some (.int .i64 (rr : Nat)) ∧ (S6.set (k * 14 + 13) vb)[rl * 14 + 4]? = some (.int .i64 (mid : Nat)) ∧ (S6.set (k * 14 + 13) vb)[k * 14 + 13]? = some vb) := Lib.hid (fun vb => by
    have hn := HNN.out
    have h13 : k * 14 + 13 < S6.length := by
      have := HSO.out (k * 14 + 13) (by omega)
      rw [HZ.out 13 _ rfl] at this
      exact (List.getElem?_eq_some_iff.1 this).1
    refine ⟨?_, ?_, ?_, List.getElem?_set_self h13⟩
    · rw [List.getElem?_set_ne (by omega), HSO.out _ (by omega), HRL.out]; exact HZ.out 1 _ rfl
    · rw [List.getElem?_set_ne (by omega), HSO.out _ (by omega), HRR.out]; exact HZ.out 2 _ rfl
    · rw [List.getElem?_set_ne (by omega), HSO.out _ (by omega)]; exact HME.out)
  have HF0 : Hid (FlM wN wN kb k RX mid SP S6 0 (.slice none 0 0) (.slice none 0 0) (.slice none 0 0)) := Lib.hid ⟨SeR.nil .., SeR.nil .., World.ownsRow_nil .., by
    rw [set_same (by rw [HSO.out _ (by omega)]; exact HZ.out 13 _ rfl)]
    exact HES.out, fun _ h => (by cases h), Off.refl _ _⟩
  clear hS6 hWN hs6 e7 f7 e8 f8 e9 f9 ea fa eb fb ec fc m0 HE2 HR2 HNB HN1 HB2 HB1 HV HNM HNO n0 c5
  go_wp2
  go_loopw [7, 8, 31] (fun vl vr iv wr => ∃ (i : Nat) (vb : Value), i ≤ sl ∧ iv = .int .i64 i ∧ Hid (FlM wN wr kb k RX mid SP S6 i vl vr vb)) (fun _ _ iv _ => sl - (intOf iv).toNat)
  case atStart => exact ⟨0, _, Nat.zero_le _, rfl, HF0⟩
  case round =>
    clear HF0
    obtain ⟨i, vb, hi, rfl, HF⟩ := hrel
    obtain ⟨pl, cl, evl, -⟩ := HF.out.sl.shape
    obtain ⟨pr, cr, evr, -⟩ := HF.out.sr.shape
    have HLB := Lib.hid (lfS_len RX mid SP i).symm
    have hlli : (lfS RX mid SP i).length ≤ i := by rw [lfS_len]; exact brg_le RX mid SP i
    have hrl2 : (rgS RX mid SP i).length ≤ i := by
      unfold rgS
      exact Nat.le_trans (List.length_filter_le _ _) (by rw [List.length_take]; omega)
    subst evl
    subst evr
    by_cases hlt : i < sl
    · have hltz : (i : Int) < sl := by omega
      obtain ⟨s, hse⟩ : ∃ s, SP[i]? = some s := ⟨_, List.getElem?_eq_getElem (by rw [← HSL.out]; exact hlt)⟩
      have hVr : SeR wr 0 RX SP (.slice p sl c) := HVN.out.off HF.out.off (fun x hx hm => by
        obtain ⟨c1, e1⟩ := row_type HVN.out hx
        exact types_ne e1 HES.out (by decide) (List.mem_singleton.1 hm))
      obtain ⟨p', c', ee, hat⟩ := hVr.shape
      have ee1 := (Value.slice.inj ee).1
      clear ee
      subst ee1
      obtain ⟨g, rfl, g0, g1⟩ := hat i s hse
      have HSE := Lib.hid hse
      clear hVr hat hse
      go_upto_region 7 with fail
      obtain ⟨W, hWd⟩ : ∃ W, W = wr.alloc (.cells #[.int .i64 (RX.idxOf s : Nat), .int .u32 s.2.2] 133) := ⟨_, rfl⟩
      have hbw : Below wr.heap.size wr W := hWd ▸ (Below.refl _ wr).alloc (Nat.le_refl _) _
      have HET : Hid (EV 133 W wr.heap.size [.int .i64 (RX.idxOf s : Nat), .int .u32 s.2.2]) := Lib.hid (hWd ▸ heap_alloc_new wr _)
      have HFW := Lib.hid (HF.out.keep hbw)
      rw [← hWd]
      have x13 := HFW.out.ev.cell (HG.out vb).2.2.2
      obtain ⟨tb, etb⟩ : ∃ tb, tb = wr.heap.size := ⟨_, rfl⟩
      rw [← etb] at HET ⊢
      clear hWd hbw g0 g1 HF etb
      have HIS := Lib.hid (show i ≤ SP.length by rw [← HSL.out]; omega)
      have HRB0 : Hid (W.ownsRow 0 3 1 vb i (((brs RX mid SP).take i).map (Value.int .i64))) := Lib.hid (row_base' HFW.out.rb (fun _ _ => Nat.zero_le _))
      obtain ⟨ll, ell⟩ : ∃ ll, ll = (lfS RX mid SP i).length := ⟨_, rfl⟩
      obtain ⟨rn, ern⟩ : ∃ rn, rn = (rgS RX mid SP i).length := ⟨_, rfl⟩
      have HLL := Lib.hid ell
      have HRN := Lib.hid ern
      rw [← ell] at hlli HFW HLB ⊢
      rw [← ern] at hrl2 HFW ⊢
      clear ell ern
      go_upto_region 8 with (at_builtin; (refine wpList_more info_intP rfl (by decide) (by decide) under_intsP _ rfl (.tmp 39) (.tmp 42) rfl vb i _ (by simp [Act.eval]) (HRB0.out.alloc _) ⟨W.heap.size, 0, none⟩ 1 1 [.int .i64 (ll : Nat)] (by simp [Act.eval]) rfl (one_at W (.int .i64 (ll : Nat)) 3) (by simp [Value.oneCell']) (by omega) (by decide) ?_; intro g5 cap5 w5 r1 r2 r3; have hE5 := EV.grown (HFW.out.ev.all _) r2 HFW.out.kbb; have m13 := hE5.cell (HG.out vb).2.2.2; have q13 := hE5.free (k * 14 + 13); have HFM := Lib.hid (HFW.out.brid HIS.out _ (by rw [HLB.out]; exact r1) r2 r3); have HT5 := Lib.hid (seat_kept HET.out HFW.out r2); clear r1 r2 r3 hE5))
      obtain ⟨w6, hw6⟩ : ∃ X, X = w5.setCell ⟨kb, k * 14 + 13, none⟩ (.slice (some ⟨g5, 0, none⟩) (i + 1) cap5) := ⟨_, rfl⟩
      rw [← hw6] at HFM ⊢
      have HT6 : Hid (EV 133 w6 tb [.int .i64 (RX.idxOf s : Nat), .int .u32 s.2.2]) := Lib.hid (hw6 ▸ EV.far HT5.out (by show kb ≠ tb; exact fun e => types_ne HET.out HFW.out.ev (by decide) e.symm) _)
      clear hw6 m13 q13 x13 HET HFW HRB0 HT5
      have y0 := HT6.out.cell (i := 0) rfl
      have y5 := HFM.out.off.cell C5N.out (by simpa using hBkH.out)
      have y1 := HFM.out.ev.cell (HG.out (.slice (some ⟨g5, 0, none⟩) (i + 1) cap5)).1
      have y4 := HFM.out.ev.cell (HG.out (.slice (some ⟨g5, 0, none⟩) (i + 1) cap5)).2.2.1
      have inst : Nonempty (Wd (Bw w6)) := ⟨⟨w6, Below.refl _ _⟩⟩
      have b0 : ∀ z : Wd (Bw w6), z.w.cell? ⟨tb, 0, none⟩ = _ := fun z => Bw.cell z y0
      have b1 : ∀ z : Wd (Bw w6), z.w.cell? ⟨kb, k * 14 + 1, none⟩ = _ := fun z => Bw.cell z y1
      have b4 : ∀ z : Wd (Bw w6), z.w.cell? ⟨kb, rl * 14 + 4, none⟩ = _ := fun z => Bw.cell z y4
      have b5 : ∀ z : Wd (Bw w6), z.w.cell? ⟨B, 5, none⟩ = _ := fun z => Bw.cell z y5
      by_cases hix : RX.idxOf s < mid
      · have hixz : (RX.idxOf s : Int) < mid := by omega
        refine wp_region_wd (Bw w6) (by kernel_rfl) (by kernel_rfl) ((Below.refl _ w6).drew) ?_
        repeat (first | go_big_quiet_step (fail) | quiet_step (fail))
        refine wpQuiet_nil ?_
        rintro _ ⟨z7, rfl⟩
        have HF7 := Lib.hid (HFM.out.keep (show Below w6.heap.size w6 z7.w from z7.h))
        have HT7 := Lib.hid (HT6.out.keep (show Below w6.heap.size w6 z7.w from z7.h) HT6.out.lt)
        have u0 := HT7.out.cell (i := 0) rfl
        have u1 := HT7.out.cell (i := 1) rfl
        generalize z7.w = w7 at *
        clear b0 b1 b4 b5 inst y0 y1 y4 y5 HFM HT6
        have HSL7 : Hid (w7.ownsRow 0 133 2 (.slice pl ll cl) ll (flatS RX (lfS RX mid SP i))) := Lib.hid (row_base' (by have := HF7.out.sl; unfold SeR at this; rw [← HLL.out] at this; exact this) (fun _ _ => Nat.zero_le _))
        go_wp2_with (at_builtin; refine wpList_more info_seat rfl (by decide) (by decide) under_seats _ rfl (.tmp 62) (.tmp 64) rfl (.slice pl ll cl) ll _ (by simp [Act.eval]) (HSL7.out.alloc _) ⟨w7.heap.size, 0, none⟩ 1 1 (stv RX s) (by simp [Act.eval]) rfl (stv_at RX s w7) (stv_one RX s) (by omega) (by decide) ?_; intro g8 cap8 w8 r1 r2 r3; have HF8 := Lib.hid (HF7.out.left HSE.out hix (g := g8) (cap := cap8) (w5 := w8) _ (by rw [← HLL.out]; exact r1) r2 r3); rw [← HLL.out] at HF8; clear r1 r2 r3)
        go_roundw
        case rel =>
          exact ⟨i + 1, _, by omega, by go_num, HF8⟩
        case measure => simp [intOf]; omega
      · have hixz : ¬ (RX.idxOf s : Int) < mid := by omega
        refine wp_region_wd (Bw w6) (by kernel_rfl) (by kernel_rfl) ((Below.refl _ w6).drew) ?_
        repeat (first | go_big_quiet_step (fail) | quiet_step (fail))
        refine wpQuiet_nil ?_
        rintro _ ⟨z7, rfl⟩
        have HF7 := Lib.hid (HFM.out.keep (show Below w6.heap.size w6 z7.w from z7.h))
        have HT7 := Lib.hid (HT6.out.keep (show Below w6.heap.size w6 z7.w from z7.h) HT6.out.lt)
        have u0 := HT7.out.cell (i := 0) rfl
        have u1 := HT7.out.cell (i := 1) rfl
        generalize z7.w = w7 at *
        clear b0 b1 b4 b5 inst y0 y1 y4 y5 HFM HT6
        have HSL7 : Hid (w7.ownsRow 0 133 2 (.slice pr rn cr) rn (flatS RX (rgS RX mid SP i))) := Lib.hid (row_base' (by have := HF7.out.sr; unfold SeR at this; rw [← HRN.out] at this; exact this) (fun _ _ => Nat.zero_le _))
        go_wp2_with (at_builtin; refine wpList_more info_seat rfl (by decide) (by decide) under_seats _ rfl (.tmp 66) (.tmp 68) rfl (.slice pr rn cr) rn _ (by simp [Act.eval]) (HSL7.out.alloc _) ⟨w7.heap.size, 0, none⟩ 1 1 (stv RX s) (by simp [Act.eval]) rfl (stv_at RX s w7) (stv_one RX s) (by omega) (by decide) ?_; intro g8 cap8 w8 r1 r2 r3; have HF8 := Lib.hid (HF7.out.right HSE.out hix (g := g8) (cap := cap8) (w5 := w8) _ (by rw [← HRN.out]; exact r1) r2 r3); rw [← HRN.out] at HF8; clear r1 r2 r3)
        go_roundw
        case rel => exact ⟨i + 1, _, by omega, by go_num, HF8⟩
        case measure => simp [intOf]; omega
    · have hltz : ¬ (i : Int) < sl := by omega
      have his : i = SP.length := by rw [← HSL.out]; omega
      obtain rfl : i = sl := by omega
      have HIS := Lib.hid his
      clear his
      have x13 := HF.out.ev.cell (HG.out vb).2.2.2
      have HRB0 : Hid (wr.ownsRow 0 3 1 vb i (((brs RX mid SP).take i).map (Value.int .i64))) := Lib.hid (row_base' HF.out.rb (fun _ _ => Nat.zero_le _))
      have HLS : Hid (lfS RX mid SP i = SR RX LY f mid) := Lib.hid (by unfold lfS; rw [List.take_of_length_le (by rw [HIS.out]; exact Nat.le_refl _)]; exact HSC.out.1)
      have HRS : Hid (rgS RX mid SP i = SR RX LY mid (f + (lv l + lv r))) := Lib.hid (by unfold rgS; rw [List.take_of_length_le (by rw [HIS.out]; exact Nat.le_refl _)]; exact HSC.out.2)
      obtain ⟨ll, ell⟩ : ∃ ll, ll = (lfS RX mid SP i).length := ⟨_, rfl⟩
      obtain ⟨rn, ern⟩ : ∃ rn, rn = (rgS RX mid SP i).length := ⟨_, rfl⟩
      rw [← ell] at hlli HF HLB ⊢
      rw [← ern] at hrl2 HF ⊢
      clear ell ern
      go_upto_region 13 with (at_builtin; refine wpList_more info_intP rfl (by decide) (by decide) under_intsP _ rfl (.tmp 75) (.tmp 78) rfl vb i _ (by simp [Act.eval]) (HRB0.out.alloc _) ⟨wr.heap.size, 0, none⟩ 1 1 [.int .i64 (ll : Nat)] (by simp [Act.eval]) rfl (one_at wr (.int .i64 (ll : Nat)) 3) (by simp [Value.oneCell']) (by omega) (by decide) ?_; intro g5 cap5 w5 r1 r2 r3; have hE5 := EV.grown (HF.out.ev.all _) r2 HF.out.kbb; have m13 := hE5.cell (HG.out vb).2.2.2; have q13 := hE5.free (k * 14 + 13); have HFM := Lib.hid (HF.out.brid (by rw [HIS.out]; exact Nat.le_refl _) _ (by rw [HLB.out]; exact r1) r2 r3); clear r1 r2 r3 hE5)
      obtain ⟨wF, hwF⟩ : ∃ X, X = w5.setCell ⟨kb, k * 14 + 13, none⟩ (.slice (some ⟨g5, 0, none⟩) (i + 1) cap5) := ⟨_, rfl⟩
      rw [← hwF] at HFM ⊢
      clear hwF m13 q13 x13 HF HRB0 HLB
      obtain ⟨bgv, hbg⟩ : ∃ v, v = Value.slice (some ⟨g5, 0, none⟩) (i + 1) cap5 := ⟨_, rfl⟩
      rw [← hbg] at HFM
      clear hbg
      have y1 := HFM.out.ev.cell (HG.out bgv).1
      have hnn := HNN.out
      have HSLr : Hid (SeR wF 0 RX (SR RX LY f (f + lv l)) (.slice pl ll cl)) := Lib.hid (by rw [← HMD.out, ← HLS.out]; exact row_base' HFM.out.sl (fun _ _ => Nat.zero_le _))
      have HSRr : Hid (SeR wF 0 RX (SR RX LY (f + lv l) (f + (lv l + lv r))) (.slice pr rn cr)) := Lib.hid (by rw [← HMD.out, ← HRS.out]; exact row_base' HFM.out.sr (fun _ _ => Nat.zero_le _))
      have HKF : Hid (∀ i, i < k * 14 → (S6.set (k * 14 + 13) bgv)[i]? = KV[i]?) := Lib.hid (fun i hi => by rw [List.getElem?_set_ne (by omega), HSO.out i (by omega)])
      have h2k := HK.out
      have HCL := Lib.hid (HIL.out wF (.slice pl ll cl) _ HFM.out.ev (HFM.out.off.cell C5N.out (by simpa using hBkH.out)) (HZL.out.same (fun i a1 a2 => HKF.out i (by omega))) HSLr.out)
      clear HSLr HIL h2k hnn hlli hrl2
      go_wp2_with (first
        | (go_at_call 64; (with_reducible refine HCL.out.mono ?_); rintro e wL ⟨rfl, KV2, psL, q1, q2, q3, q4, q5⟩; have HQ1 := Lib.hid q1; have HQ2 := Lib.hid q2; have HQ3 := Lib.hid q3; have HQ4 := Lib.hid q4; have HQ5 := Lib.hid q5; have HK2 : Hid (∀ i, (b + sz l) * 14 ≤ i → KV2[i]? = (S6.set (k * 14 + 13) bgv)[i]?) := Lib.hid (fun i hi => q2 i (.inr hi)); have y2 : wL.cell? ⟨kb, k * 14 + 2, none⟩ = some (.int .i64 (rr : Nat)) := q1.cell (by rw [HK2.out _ (by have := HK.out; omega)]; exact (HG.out bgv).2.1); have HCR := Lib.hid (HIR.out wL (.slice pr rn cr) KV2 q1 (q5.cell (HFM.out.off.cell C5N.out (by simpa using hBkH.out)) (by simpa using hBkH.out)) (HZR.out.same (fun i a1 a2 => by rw [HK2.out i a1]; exact HKF.out i (by have := HK.out; omega))) (HSRr.out.off q5 (fun x hx hm => by
            obtain ⟨c1, e1⟩ := row_type HSRr.out hx
            exact types_ne e1 HFM.out.ev (by decide) (List.mem_singleton.1 hm)))); clear q1 q2 q3 q4 q5)
        | (go_at_call 64; (with_reducible refine HCR.out.mono ?_); rintro e wR ⟨rfl, KV3, psR, q1, q2, q3, q4, q5⟩; have HP1 := Lib.hid q1; have HP2 := Lib.hid q2; have HP3 := Lib.hid q3; have HP4 := Lib.hid q4; have HP5 := Lib.hid q5; clear q1 q2 q3 q4 q5))
      go_end0
      have h2k := HK.out
      have e1 := sz_nd l r
      have hOF := HFM.out.off
      have hown := HOWN.out
      have hkbm : ∀ x, (x ∈ mbl (⟨.slice pn i cn, br, bo, ba, bw⟩ : NmP) ∨ x ∈ rol (⟨⟨.slice pn i cn, br, bo, ba, bw⟩, z, .slice none 0 0⟩ : KtP)) → x ≠ kb := fun x hx e => by
        subst e
        rcases hx with hx | hx
        · exact hown.no.apart HES.out (by decide) (by decide) hx
        · simp only [rol, List.mem_append, Option.mem_toList] at hx
          rcases hx with hx | hx
          · obtain ⟨c1, e1⟩ := row_type hown.rn hx
            exact types_ne HES.out e1 (by decide) rfl
          · cases hx
      have offR : Off [kb] wN wR := (hOF.trans HQ5.out).trans HP5.out
      have hbgr : wR.ownsRow wN.heap.size 3 1 bgv (SP.length + 1) ((brs RX mid SP).map (Value.int .i64)) := by
        have h1 := HFM.out.rb
        rw [List.take_of_length_le (by rw [brs_len, HIS.out]; exact Nat.le_refl _), HIS.out] at h1
        refine row_at h1 (fun x hx => ⟨((HQ5.out.trans HP5.out).block x (row_lt h1 hx).2 (fun hm => ?_)), (row_lt h1 hx).1⟩)
        obtain ⟨c1, e1⟩ := row_type h1 hx
        exact types_ne e1 HFM.out.ev (by decide) (List.mem_singleton.1 hm)
      have hKbN : KbM w wR RX SP ⟨⟨.slice pn i cn, br, bo, ba, bw⟩, z, bgv⟩ (some mid) := by
        have h2 := hown.off offR (fun x hx hm => hkbm x (.inl hx) (List.mem_singleton.1 hm)) (fun x hx hm => hkbm x (.inr hx) (List.mem_singleton.1 hm))
        exact ⟨h2.no, h2.rn, fun e => (by cases e), fun m' e' => by injection e' with e'; subst e'; exact row_at hbgr (fun x hx => ⟨rfl, Nat.le_trans HBN.out.size (row_lt hbgr hx).1⟩)⟩
      have hle1 : w.heap.size ≤ wN.heap.size := HBN.out.size
      have hle2 : wN.heap.size ≤ wF.heap.size := hOF.size
      have hle3 : wF.heap.size ≤ wL.heap.size := HQ5.out.size
      have hle4 : wL.heap.size ≤ wR.heap.size := HP5.out.size
      have hkbl : kb < wF.heap.size := HFM.out.ev.lt
      obtain ⟨ps, hps⟩ : ∃ ps : Nat → KtP, ps = fun j => if j < b + sz l then psL j else if j < k then psR j else ⟨⟨.slice pn i cn, br, bo, ba, bw⟩, z, bgv⟩ := ⟨_, rfl⟩
      have pL : ∀ j, b ≤ j → j < b + sz l → ps j = psL j := fun j a1 a2 => by rw [hps]; simp only []; rw [if_pos a2]
      have pR : ∀ j, b + sz l ≤ j → j < b + sz l + sz r → ps j = psR j := fun j a1 a2 => by rw [hps]; simp only []; rw [if_neg (by omega), if_pos (by omega)]
      have pK : ps k = ⟨⟨.slice pn i cn, br, bo, ba, bw⟩, z, bgv⟩ := by rw [hps]; simp only []; rw [if_neg (by omega), if_neg (by omega)]
      refine ⟨rfl, KV3, ps, HP1.out, fun i hi => ?_, ⟨?_, ?_, ?_, ?_⟩, ?_, (HBN.out.trans offR)⟩
      · rw [HP2.out i (by omega), HQ2.out i (by omega), List.getElem?_set_ne (by omega), HSO.out i (by omega)]
      · exact HQ3.out.re (by omega) HP5.out (fun i a1 a2 => HP2.out i (.inl a2)) pL (fun x hx => .inl (by rw [List.mem_singleton.1 hx]; exact hkbl))
      · exact HP3.out.re (by omega) (Off.refl [kb] wR) (fun i a1 a2 => rfl) pR (fun x hx => .inl (by rw [List.mem_singleton.1 hx]; omega))
      · rw [← h2k, pK, ← HSP.out, ← HIS.out]
        exact (HKD.out bgv).same rfl (fun i a1 a2 => by rw [HP2.out i (.inr (by omega)), HK2.out i (by omega)])
      · rw [← h2k, pK, ← HSP.out, ← HMD.out]
        exact hKbN
      · rw [e1, show b + (sz l + sz r + 1) = b + sz l + sz r + 1 by omega]
        have hlast : ∀ x, x ∈ mbl (ps k).np ∨ x ∈ rol (ps k) → x < wF.heap.size := fun x hx => by
          rw [pK] at hx
          rcases hx with hx | hx
          · exact Nat.lt_of_lt_of_le (hown.lt x (.inl hx)).2 hle2
          · simp only [rol, List.mem_append, Option.mem_toList] at hx
            rcases hx with hx | hx
            · exact Nat.lt_of_lt_of_le (row_lt hown.rn hx).2 hle2
            · exact (row_lt HFM.out.rb hx).2
        refine Dj.join (k := k) (lo := wF.heap.size) (mi := wL.heap.size) (hi := wR.heap.size) (HQ4.out.congr pL) (HP4.out.congr pR) h2k ?_ hlast (fun j a1 a2 x hx => ?_) (fun j a1 a2 x hx => ?_) hle3
        · rw [pK]
          refine hKbN.rm (fun x hx hm => ?_)
          have h1 := (row_lt hbgr hx).1
          have h3 := (hown.lt x (.inl hm)).2
          omega
        · rw [pL j a1 a2] at hx
          exact HQ3.out.lt j a1 a2 x hx
        · rw [pR j a1 a2] at hx
          exact HP3.out.lt j a1 a2 x hx
end
end Go.Proofs.YtajpboclicnopaaGreat.Ca
/-
  All lists of a tree are made; the knots, ahead of it, out of a frame's nodes. No condition but those typed at each theorem.
-/
namespace Go.Proofs.YtajpboclicnopaaGreat.Ca
open Go.RowKit Go.Sort Bd
section
variable {kb B : Nat} {RX LY : List S3}
theorem cfill_any (hpl : PlI RX LY) (hBk : B ≠ kb) {m cap : Nat} : ∀ (t : Tr) (b f : Nat), rt b t < m → ∀ (w : World) (v : Value) (KV : List Value), EV 95 w kb KV → w.cell? ⟨B, 5, none⟩ = some (.slice (some ⟨kb, 0, none⟩) m cap) → KzT KV t b f → SeR w 0 RX (SR RX LY f (f + lv t)) v →
    Calls Tryz.prog 64 #[.pointer (some ⟨B, 0, none⟩), .int .i64 (rt b t : Nat), v] w (FillR kb RX LY w KV t b f) := by
  intro t
  induction t with
  | lf =>
    intro b f hrm w v KV hE c5 hz hv
    have hrb : rt b .lf = b := by simp [rt, lv]
    rw [hrb] at hrm ⊢
    exact (fill_leaf hpl hE c5 hrm hz hv).mono (fun _ _ hh => hh)
  | nd l r ihl ihr =>
    intro b f hrm w v KV hE c5 hz hv
    have e2 := rt_nd b l r
    have e3 := rt_lt b l
    have e4 := rt_lt (b + sz l) r
    have p2 := sz_pos r
    refine fill_nd hpl hE c5 hrm hBk hz hv (fun w v KV a1 a2 a3 a4 => ihl b f (by omega) w v KV a1 a2 a3 a4) (fun w v KV a1 a2 a3 a4 => ihr (b + sz l) (f + lv l) (by omega) w v KV a1 a2 a3 ?_)
    rw [Nat.add_assoc f (lv l) (lv r)]
    exact a4
end
/-- knots that have no lists, one behind the other -/
def flatK (ns : List Nd) : List Value := ns.flatMap kz
theorem flatK_snoc (ns : List Nd) (n : Nd) : flatK (ns ++ [n]) = flatK ns ++ kz n := by simp [flatK]
theorem flatK_get : ∀ (ns : List Nd) {k : Nat} {n : Nd}, ns[k]? = some n → KcAt (flatK ns) k (kz n)
  | [], k, n, h => by simp at h
  | a :: ns, 0, n, h => by
    simp at h
    subst h
    intro i u hu
    have hi := (List.getElem?_eq_some_iff.1 hu).1
    show (kz a ++ flatK ns)[0 * 14 + i]? = some u
    rw [List.getElem?_append_left (by omega)]
    simpa using hu
  | a :: ns, k + 1, n, h => by
    intro i u hu
    have := flatK_get ns (k := k) (by simpa using h) i u hu
    show (kz a ++ flatK ns)[(k + 1) * 14 + i]? = some u
    rw [List.getElem?_append_right (by rw [kz_len]; omega), kz_len, show (k + 1) * 14 + i - 14 = k * 14 + i by omega]
    exact this
theorem kzt_of {L : List Nd} {KV : List Value} (hK : ∀ k n, L[k]? = some n → KcAt KV k (kz n)) : ∀ {t : Tr} {b f : Nat}, SG L b f t → KzT KV t b f
  | .lf, b, f, h => hK b (lfN f) (by have := h 0 (lfN f) rfl; simpa using this)
  | .nd l r, b, f, h => ⟨kzt_of hK h.left, kzt_of hK h.right, hK _ (inN b f l r) (by have := h.root; rw [rt_nd] at this; exact this)⟩
theorem info_knot : (Tryz.prog.info? 95).map (fun i => (i.zero, i.size, i.bytes)) = some (some (.agg (kz (0, 0, 0, 0, 0, 0, 0)).toArray), 14, 208) := by kernel_rfl
theorem under_knots : Tryz.prog.underlying 80 = some (.slice 95) := by kernel_rfl
theorem kz_one (n : Nd) : ∀ u ∈ kz n, u.oneCell' = true := by
  intro u hu
  simp [kz, nvs] at hu
  rcases hu with rfl | rfl | rfl | rfl | rfl | rfl | rfl | rfl | rfl | rfl <;> rfl
/-- the cells of a row's block -/
theorem row_ev {w : World} {base n : Nat} {e : TypeId} {size : Nat} {v : Value} {xs : List Value} (h : w.ownsRow base e size v n xs) (hn : 0 < n) : ∃ g c L, v = .slice (some ⟨g, 0, none⟩) n c ∧ base ≤ g ∧ EV e w g L ∧ ∀ (j : Nat) (u : Value), xs[j]? = some u → L[j]? = some u := by
  obtain ⟨h1, h2⟩ := h
  rcases h2 with ⟨rfl, h2⟩ | ⟨q, cap, cur, hv, hb, hg, hnc, hcm, hcs, htk⟩
  · omega
  · refine ⟨q, cap, cur.toList, hv, hb, by simpa [EV] using hg, fun j u hj => ?_⟩
    rw [← htk, List.getElem?_take] at hj
    split at hj
    · exact hj
    · cases hj
/-- the cells of a tree -/
@[reducible] def ccs (a b c d e f g : Value) : List Value := [a, b, c, d, e, f, g]
end Go.Proofs.YtajpboclicnopaaGreat.Ca
