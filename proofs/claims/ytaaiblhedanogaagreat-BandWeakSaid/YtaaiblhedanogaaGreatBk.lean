/-
  A node's list in memory: who is between, how many. No condition but those typed at each theorem.
-/
import Derived.Test.YtaaiblhedanogaaGreatBl
import Derived.Test.YtaaiblhedanogaaGreatLt
namespace Go.Proofs.YtaaiblhedanogaaGreat.Bd
open Go.RowKit Go.Sort

def kx (s : S3) : Int := s.1
def ky (s : S3) : Int := s.2.1
def ids (T : List S3) : List Int := T.map (·.2.2)
theorem ids_len (T : List S3) : (ids T).length = T.length := by simp [ids]
theorem ids_snoc (T : List S3) (s : S3) : ids (T ++ [s]) = ids T ++ [s.2.2] := by simp [ids]
theorem ids_app (T U : List S3) : ids (T ++ U) = ids T ++ ids U := by simp [ids]
theorem sg_len (SP A : List S3) (i k : Nat) : (sg SP A i k).length ≤ SP.length := by
  unfold sg
  refine Nat.le_trans (List.length_filter_le _ _) ?_
  rw [List.length_take, List.length_drop]; omega
/-- where a list lies -/
structure LsP where
  va : Value
  vn : Value
  br : Nat
  bo : Nat
  bs : Nat
/-- a node's list: the points SP by Y, of which those of A are there -/
structure LsM (w : World) (b o : Nat) (SP A : List S3) (P : LsP) : Prop where
  ca : w.cell? ⟨b, o, none⟩ = some P.va
  cn : w.cell? ⟨b, o + 1, none⟩ = some P.vn
  rows : OrR w ky SP P.va P.vn
  rn : ∃ R O, RnM w b (o + 2) SP.length (alA SP A) P.br P.bo R O
  dp : ∃ F, DpM w b (o + 4) SP.length (alA SP A) P.bs F
  ne : P.bo ≠ P.bs
  few : SP.length ≤ 8192
  ord : Ord ky SP
section
variable {w w' : World} {b o : Nat} {SP A : List S3} {P : LsP}
theorem LsM.off (h : LsM w b o SP A P) {S : List Nat} (g : Off S w w') (h1 : b ∉ S) (h2 : P.br ∉ S) (h3 : P.bo ∉ S) (h4 : P.bs ∉ S) (h5 : ∀ k, P.va.ownBlock = some k → k ∉ S) (h6 : ∀ k, P.vn.ownBlock = some k → k ∉ S) : LsM w' b o SP A P := by
  obtain ⟨R, O, hr⟩ := h.rn
  obtain ⟨F, hd⟩ := h.dp
  exact ⟨g.cell h.ca h1, g.cell h.cn h1, h.rows.off g h5 h6, ⟨R, O, hr.off g h1 h2 h3⟩, ⟨F, hd.off g h1 h4⟩, h.ne, h.few, h.ord⟩
theorem LsM.keep (h : LsM w b o SP A P) (g : Below w.heap.size w w') : LsM w' b o SP A P :=
  h.off (Off.of (S := []) g (Nat.le_refl _)) (by simp) (by simp) (by simp) (by simp) (by simp) (by simp)
/-- the next place is e -/
def NX (SP A : List S3) (q e : Nat) : Prop := q ≤ e ∧ e ≤ SP.length ∧ (e < SP.length → ∃ s, SP[e]? = some s ∧ sg SP A q SP.length = s :: sg SP A (e + 1) SP.length) ∧ (SP.length ≤ e → sg SP A q SP.length = [])
theorem nxt_any (h : LsM w b o SP A P) {q : Nat} (hq : q ≤ SP.length) :
    Calls Tryz.prog 60 #[.pointer (some ⟨b, o + 2, none⟩), .int .i64 q] w fun x w' => (∃ e : Nat, x = .returned (.int .i64 e) ∧ NX SP A q e) ∧ Below w.heap.size w w' := by
  obtain ⟨R, O, hr⟩ := h.rn
  refine (from_any hr hq).mono ?_
  rintro x w' ⟨⟨e, rfl, h4, h5, h6, h7⟩, hb⟩
  obtain ⟨g1, g2⟩ := sg_next SP A h4 h7 h6 h5 (Nat.le_refl _)
  refine ⟨⟨e, rfl, h4, h5, fun he => ?_, g2⟩, hb⟩
  obtain ⟨s, e1, -, e2⟩ := g1 he
  exact ⟨s, e1, e2⟩
/-- who is told -/
def btw (SP A : List S3) (y1 y2 : Int) : List S3 := (sg SP A (firstP (SP.map ky) y1).1 SP.length).takeWhile (fun s => decide (ky s ≤ y2))
/-- how many are looked at -/
def btwN (SP A : List S3) (y1 y2 : Int) : Nat := (firstP (SP.map ky) y1).2 + lkd (fun s => decide (ky s ≤ y2)) (sg SP A (firstP (SP.map ky) y1).1 SP.length)

set_option maxRecDepth 100000 in
set_option maxHeartbeats 3200000 in
theorem between_any (h : LsM w b o SP A P) (y1 y2 : Int) :
    Calls Tryz.prog 34 #[.pointer (some ⟨b, o, none⟩), .int .i64 y1, .int .i64 y2] w fun e w' => (∃ v, e = .returned (.tuple #[v, .int .i64 (btwN SP A y1 y2 : Nat)]) ∧ w'.ownsRow w.heap.size 32 1 v (btw SP A y1 y2).length ((ids (btw SP A y1 y2)).map (Value.int .u32))) ∧ Below w.heap.size w w' := by
  obtain ⟨f1, f2, -⟩ := fst_parts h.ord h.few y1
  unfold btw btwN
  obtain ⟨pa, ca, eva, hna, hca⟩ := h.rows.ks
  obtain ⟨pn, cn, evn, hnn, hcn⟩ := h.rows.ns
  have HLG : Hid ((firstP (SP.map ky) y1).2 ≤ 8192) := Lib.hid (by
    have h1 := lk_looks (notLess (SP.map ky) y1) (n := (SP.map ky).length) (by have := h.few; simp; omega)
    have h2 := h1.2.1
    have h3 : lgN ((SP.map ky).length + 1) ≤ lgN 8193 := bl_mono (by simp; exact h.few) (by omega)
    have h4 : lgN 8193 ≤ 8192 := by decide
    exact Nat.le_trans h2 (Nat.le_trans h3 h4))
  have HF := Lib.hid (fun X (hb : Below w.heap.size w X) => by have := First_any X pa ca (SP.map ky) y1 (hna.keep hb) (by have := h.few; simp; omega); rw [List.length_map] at this; exact this)
  generalize firstP (SP.map ky) y1 = FP at *
  obtain ⟨i, fl⟩ := FP
  unfold two at HF
  simp only at HF f1 HLG ⊢
  have c0 := h.ca
  have c1 := h.cn
  rw [eva] at c0
  rw [evn] at c1
  have H := Lib.hid h
  have HNA := Lib.hid hna
  have HNN := Lib.hid hnn
  have HN := Lib.hid (fun X q (hb : Below w.heap.size w X) (hq : q ≤ SP.length) => nxt_any (h.keep hb) hq)
  have HFW := Lib.hid h.few
  have HSL := Lib.hid (sg_len SP A i SP.length)
  obtain ⟨Y, hY⟩ : ∃ Y, Y = sg SP A i SP.length := ⟨_, rfl⟩
  have HY := Lib.hid hY
  rw [← hY]
  rw [← hY] at HSL
  obtain ⟨n, en⟩ : ∃ n, n = SP.length := ⟨_, rfl⟩
  have EN := Lib.hid en
  rw [← en] at f1 HFW c0 c1 HF hca hcn
  clear h hY en hna hnn eva evn f2
  go_enter Tryz.func34, Tryz.ntmps34
  go_wp2_with (first
    | (go_at_call 47; (with_reducible refine (HF.out _ (Below.refl _ _)).mono ?_); rintro e w1 ⟨rfl, hb⟩; have HB1 := Lib.hid hb; have d0 := (hb.cell (World.block_lt_of_cell? _ _ c0)).trans c0; clear hb)
    | (go_at_call 60; (with_reducible refine (HN.out _ i HB1.out (by rw [← EN.out]; exact f1)).mono ?_); rintro e w2 ⟨⟨e0, rfl, hn0⟩, hb⟩; have HB := Lib.hid (HB1.out.trans (hb.mono HB1.out.size)); have HN0 := Lib.hid hn0; clear hb hn0))
  go_loopw [8, 10, 11] (fun v cc pl wr => ∃ (e q : Nat) (T Z : List S3), cc = .int .i64 (fl + T.length : Nat) ∧ pl = .int .i64 e ∧ Hid (wr.ownsRow w.heap.size 32 1 v (ids T).length ((ids T).map (Value.int .u32))) ∧ Hid (Below w.heap.size w wr) ∧ Hid (Y = T ++ sg SP A q SP.length) ∧ Hid (NX SP A q e) ∧ Hid (∀ s ∈ T, decide (ky s ≤ y2) = true)) (fun _ _ pl _ => n - (intOf pl).toNat)
  case atStart => exact ⟨e0, i, [], [], rfl, rfl, Lib.hid (World.ownsRow_nil ..), HB, HY, HN0, Lib.hid (by simp)⟩
  case round =>
    clear HB HN0 d0
    obtain ⟨e, q, T, -, rfl, rfl, HR, HB, HT, HX, HS⟩ := hrel
    obtain ⟨x1, x2, x3, x4⟩ := HX.out
    rw [← EN.out] at x2 x3 x4
    have d0 := (HB.out.cell (World.block_lt_of_cell? _ _ c0)).trans c0
    have d1 := (HB.out.cell (World.block_lt_of_cell? _ _ c1)).trans c1
    by_cases hek : e < n
    · have hekz : (e : Int) < n := by omega
      obtain ⟨s, hs1, hs2⟩ := x3 hek
      rw [EN.out] at hs2
      have HS2 := Lib.hid hs2
      obtain ⟨lo, yv, id⟩ := s
      obtain ⟨ab, aoff, rfl, hc1⟩ : ∃ ab aoff, pa = some ⟨ab, aoff, none⟩ ∧ wr.cell? ⟨ab, aoff + e, none⟩ = some (.int .i64 yv) := by
        have hne : (SP.map ky)[e]? = some yv := by rw [List.getElem?_map, hs1]; rfl
        rcases HNA.out.keep HB.out with h0 | ⟨ab, aoff, e', h0⟩
        · rw [h0] at hne; simp at hne
        · exact ⟨ab, aoff, e', h0 e yv hne⟩
      obtain ⟨nb, noff, rfl, hc2⟩ : ∃ nb noff, pn = some ⟨nb, noff, none⟩ ∧ wr.cell? ⟨nb, noff + e, none⟩ = some (.int .u32 id) := by
        have hne : (SP.map (·.2.2))[e]? = some id := by rw [List.getElem?_map, hs1]; rfl
        rcases HNN.out.keep HB.out with h0 | ⟨nb, noff, e', h0⟩
        · rw [h0] at hne; simp at hne
        · exact ⟨nb, noff, e', h0 e id hne⟩
      have HTL : Hid (T.length + 1 ≤ n) := Lib.hid (by have := HSL.out; rw [HT.out, hs2, ← EN.out] at this; simp at this; omega)
      have hsz := HB.out.size
      have HFn := HFW.out
      have hfl := HLG.out
      have HN1 : Hid (∀ X, Below w.heap.size w X → Calls Tryz.prog 60 #[.pointer (some ⟨b, o + 2, none⟩), .int .i64 ((e : Int) + 1)] X fun x w' => (∃ e3 : Nat, x = .returned (.int .i64 e3) ∧ NX SP A (e + 1) e3) ∧ Below X.heap.size X w') := Lib.hid (fun X hb => by have := HN.out X (e + 1) hb (by rw [← EN.out]; omega); rw [show ((e + 1 : Nat) : Int) = (e : Int) + 1 by omega] at this; exact this)
      clear hs1 hs2 x3 x4
      generalize hTl : T.length = tl at *
      have HTL2 := Lib.hid hTl
      have hidl : (ids T).length = tl := by rw [ids_len, hTl]
      rw [hidl] at HR
      have hTL := HTL.out
      have HIL := Lib.hid hidl
      obtain ⟨ft, eft⟩ : ∃ ft, ft = fl + tl := ⟨_, rfl⟩
      rw [← eft]
      have EFT := Lib.hid eft
      have hft : ft ≤ 20000 := by omega
      clear hTl hidl eft
      by_cases hso : yv ≤ y2
      · have hsz2 : ¬ y2 < yv := by omega
        have HSO : Hid (decide (ky (lo, yv, id) ≤ y2) = true) := Lib.hid (by show decide (yv ≤ y2) = true; exact decide_eq_true hso)
        go_wp2_with (first
          | (at_builtin; refine wpList_list info_u rfl (by decide) (by decide) under_u _ rfl (.tmp 53) (.tmp 62) rfl w.heap.size _ tl _ rfl (HR.out.alloc _) (some ⟨wr.heap.size, 0, none⟩) 1 1 [.int .u32 id] (by simp [Act.eval]) rfl (.inr ⟨_, rfl, one_at wr (.int .u32 id) 32⟩) (by simp [Value.oneCell']) (by omega) (by simp; omega) ?_; intro v' w' h1 h2 _; have H1 := Lib.hid h1; have H2 := Lib.hid ((HB.out.alloc hsz _).grown h2 (by simp; omega) (fun q e => own_geB HR.out q e)); clear h1 h2)
          | (go_at_call 60; (with_reducible refine (HN1.out _ H2.out).mono ?_); rintro x w3 ⟨⟨e3, rfl, hn3⟩, hb⟩; have HR3 := Lib.hid (row_off H1.out (Off.of (S := []) hb (Nat.le_refl _)) (by simp)); have HB3 := Lib.hid (H2.out.trans (hb.mono H2.out.size)); have HN3 := Lib.hid hn3; clear hb hn3))
        go_roundw
        case rel =>
          refine ⟨e3, e + 1, T ++ [(lo, yv, id)], [], by rw [List.length_append, HTL2.out, EFT.out]; go_num, rfl, Lib.hid ?_, HB3, Lib.hid ?_, HN3, Lib.hid ?_⟩
          · rw [ids_snoc, List.length_append, HIL.out, List.map_append]; exact HR3.out
          · rw [HT.out, HS2.out]; simp
          · intro s hs
            rcases List.mem_append.1 hs with hs | hs
            · exact HS.out s hs
            · rw [List.mem_singleton.1 hs]; exact HSO.out
        case measure => simp [intOf]; have := HN3.out.1; have := HN3.out.2.1; rw [← EN.out] at this; omega
      · have hsz2 : y2 < yv := by omega
        have HSO : Hid (decide (ky (lo, yv, id) ≤ y2) = false) := Lib.hid (by show decide (yv ≤ y2) = false; exact decide_eq_false hso)
        go_wp2
        go_ret2
        obtain ⟨l1, l2⟩ := lkd_stop (fun s => decide (ky s ≤ y2)) (r := sg SP A (e + 1) SP.length) HS.out HSO.out
        rw [HT.out, HS2.out, l1, l2, HTL2.out]
        refine ⟨⟨_, by rw [EFT.out]; go_num, ?_⟩, HB.out⟩
        rw [HIL.out] at *
        exact HR.out
    · have hekz : ¬ (e : Int) < n := by omega
      have h4 := x4 (by omega)
      rw [EN.out] at h4
      have HY2 : Hid (Y = T) := Lib.hid (by rw [HT.out, h4, List.append_nil])
      have HK := Lib.hid (lkd_all (fun s => decide (ky s ≤ y2)) HS.out)
      clear x1 x3 x4 h4
      go_wp2
      go_ret2
      rw [HY2.out, HK.out.1, HK.out.2]
      exact ⟨⟨_, rfl, by have := HR.out; rw [ids_len] at this; exact this⟩, HB.out⟩
/-- those that are counted -/
def cnl (SP A : List S3) (y1 y2 : Int) : List S3 := sg SP A (firstP (SP.map ky) y1).1 (aboveP (SP.map ky) y2).1
/-- how many are looked at to count -/
def cnlN (SP : List S3) (y1 y2 : Int) : Nat := (firstP (SP.map ky) y1).2 + (aboveP (SP.map ky) y2).2 + pcs (firstP (SP.map ky) y1).1 + pcs (aboveP (SP.map ky) y2).1
theorem lg_few {n M : Nat} (h : n ≤ 8192) (hM : M ≤ n + 1) : lgN M ≤ 8192 :=
  Nat.le_trans (bl_mono (by omega) (by omega) : lgN M ≤ lgN 8193) (by decide)
set_option maxRecDepth 100000 in
set_option maxHeartbeats 3200000 in
theorem count_any (h : LsM w b o SP A P) {y1 y2 : Int} (h12 : y1 ≤ y2) :
    Calls Tryz.prog 37 #[.pointer (some ⟨b, o, none⟩), .int .i64 y1, .int .i64 y2] w fun e w' => e = .returned (.tuple #[.int .i64 ((cnl SP A y1 y2).length : Nat), .int .i64 (cnlN SP y1 y2 : Nat)]) ∧ Below w.heap.size w w' := by
  obtain ⟨f1, f2, -⟩ := fst_parts h.ord h.few y1
  obtain ⟨a1, a2, -⟩ := abv_parts h.ord h.few y2
  have hle := fst_abv h.ord h.few h12
  have hcnt := sg_count SP A ((aboveP (SP.map ky) y2).1 - (firstP (SP.map ky) y1).1) (firstP (SP.map ky) y1).1 (by omega)
  rw [show (firstP (SP.map ky) y1).1 + ((aboveP (SP.map ky) y2).1 - (firstP (SP.map ky) y1).1) = (aboveP (SP.map ky) y2).1 by omega] at hcnt
  have hmo := dc_mono (alA SP A) ((aboveP (SP.map ky) y2).1 - (firstP (SP.map ky) y1).1) (firstP (SP.map ky) y1).1
  rw [show (firstP (SP.map ky) y1).1 + ((aboveP (SP.map ky) y2).1 - (firstP (SP.map ky) y1).1) = (aboveP (SP.map ky) y2).1 by omega] at hmo
  have hd1 := dc_le (alA SP A) (firstP (SP.map ky) y1).1
  have hd2 := dc_le (alA SP A) (aboveP (SP.map ky) y2).1
  unfold cnl cnlN
  generalize hsl : (sg SP A (firstP (SP.map ky) y1).1 (aboveP (SP.map ky) y2).1).length = sl at hcnt
  obtain ⟨pa, ca, eva, hna, hca⟩ := h.rows.ks
  have g1 := lg_few h.few (Nat.le_refl _)
  have HF := Lib.hid (fun X (hb : Below w.heap.size w X) => by have := First_any X pa ca (SP.map ky) y1 (hna.keep hb) (by have := h.few; simp; omega); rw [List.length_map] at this; exact this)
  have HA := Lib.hid (fun X (hb : Below w.heap.size w X) => by have := Above_any X pa ca (SP.map ky) y2 (hna.keep hb) (by have := h.few; simp; omega); rw [List.length_map] at this; exact this)
  have p1 := pcs_log (n := (firstP (SP.map ky) y1).1) (M := SP.length + 1) (by omega) (by have := h.few; omega)
  have p2 := pcs_log (n := (aboveP (SP.map ky) y2).1) (M := SP.length + 1) (by omega) (by have := h.few; omega)
  obtain ⟨F, hd⟩ := h.dp
  have HD := Lib.hid (fun X (hb : Below w.heap.size w X) q (hq : q ≤ SP.length) => ahead_any (hd.keep hb) hq)
  generalize firstP (SP.map ky) y1 = FP at *
  generalize aboveP (SP.map ky) y2 = AP at *
  obtain ⟨i, fl⟩ := FP
  obtain ⟨j, al⟩ := AP
  unfold two at HF HA
  simp only at HF HA f1 f2 a1 a2 hle hcnt hmo hd1 hd2 p1 p2 hsl ⊢
  have HDI := Lib.hid (fun X hb => HD.out X hb i f1)
  have HDJ := Lib.hid (fun X hb => HD.out X hb j a1)
  generalize dc (alA SP A) i = di at *
  generalize dc (alA SP A) j = dj at *
  generalize pcs i = pi at *
  generalize pcs j = pj at *
  have c0 := h.ca
  rw [eva] at c0
  have hfew := h.few
  generalize lgN (SP.length + 1) = lg at *
  generalize SP.length = n at *
  obtain ⟨tot, etot⟩ : ∃ tot, tot = fl + al + pi + pj := ⟨_, rfl⟩
  rw [← etot]
  have ET := Lib.hid etot
  have hr : fl ≤ 8192 ∧ al ≤ 8192 ∧ pi ≤ 8192 ∧ pj ≤ 8192 := ⟨by omega, by omega, by omega, by omega⟩
  obtain ⟨hr1, hr2, hr3, hr4⟩ := hr
  have hS : Hid ((j : Int) - i - ((dj : Int) - di) = (sl : Nat)) := Lib.hid (by omega)
  clear h hna eva hd HD etot f2 a2 p1 p2 g1 hsl hcnt
  go_enter Tryz.func37, Tryz.ntmps37
  go_wp2_with (first
    | (go_at_call 47; (with_reducible refine (HF.out _ (Below.refl _ _)).mono ?_); rintro e w1 ⟨rfl, hb⟩; have HB1 := Lib.hid hb; have d0 := (hb.cell (World.block_lt_of_cell? _ _ c0)).trans c0; clear hb)
    | (go_at_call 48; (with_reducible refine (HA.out _ HB1.out).mono ?_); rintro e w2 ⟨rfl, hb⟩; have HB2 := Lib.hid (HB1.out.trans (hb.mono HB1.out.size)); clear hb)
    | (go_at_call 62; (with_reducible refine (HDI.out _ HB2.out).mono ?_); rintro e w3 ⟨rfl, rfl⟩)
    | (go_at_call 62; (with_reducible refine (HDJ.out _ HB2.out).mono ?_); rintro e w3 ⟨rfl, rfl⟩))
  go_ret2
  refine ⟨?_, HB2.out⟩
  rw [ET.out]
  have := hS.out
  go_num
/-- whether the point of that name is there, at y -/
def hasB (SP A : List S3) (y x : Int) : Bool := (fnd ky SP y x).2 && alA SP A (fnd ky SP y x).1
theorem fnd_le {kf : S3 → Int} {L : List S3} (h : Ord kf L) (hl : L.length ≤ 8192) (v x : Int) : (fnd kf L v x).1 ≤ L.length := by
  obtain ⟨a1, -, a3⟩ := fst_parts h hl v
  obtain ⟨b1, -, b3⟩ := abv_parts h hl v
  have hle := fst_abv h hl (Int.le_refl v)
  have h1 := (firstP_list (nms_rise h hl v) (by rw [nms_len b1]; omega) x).1
  rw [nms_len b1] at h1
  unfold fnd
  simp only
  omega
set_option maxRecDepth 100000 in
set_option maxHeartbeats 1600000 in
theorem has_any (h : LsM w b o SP A P) (y x : Int) :
    Calls Tryz.prog 29 #[.pointer (some ⟨b, o, none⟩), .int .i64 y, .int .u32 x] w fun e w' => e = .returned (.bool (hasB SP A y x)) ∧ Below w.heap.size w w' := by
  have HF := Lib.hid (find_any h.ca h.cn h.rows h.ord h.few y x)
  have hq := fnd_le h.ord h.few y x
  obtain ⟨R, O, hr⟩ := h.rn
  have HH := Lib.hid (fun X (hb : Below w.heap.size w X) => hasP_any (hr.keep hb) hq)
  unfold hasB
  generalize fnd ky SP y x = q at *
  obtain ⟨q, ok⟩ := q
  simp only at HF HH ⊢
  generalize alA SP A q = al at *
  clear hr h hq
  cases ok with
  | true =>
    go_enter Tryz.func29, Tryz.ntmps29
    go_wp2_with (first
      | (go_at_call 27; (with_reducible refine HF.out.mono ?_); rintro e w1 ⟨rfl, hb⟩; have HB1 := Lib.hid hb; clear hb)
      | (go_at_call 53; (with_reducible refine (HH.out _ HB1.out).mono ?_); rintro e w2 ⟨rfl, hb⟩; have HB2 := Lib.hid (HB1.out.trans (hb.mono HB1.out.size)); clear hb))
    go_ret
    exact ⟨by simp, HB2.out⟩
  | false =>
    go_enter Tryz.func29, Tryz.ntmps29
    go_wp2_with (go_at_call 27; (with_reducible refine HF.out.mono ?_); rintro e w1 ⟨rfl, hb⟩; have HB1 := Lib.hid hb; clear hb)
    go_ret
    exact ⟨by simp, HB1.out⟩
theorem LsM.types (h : LsM w b o SP A P) : P.bs ≠ P.br ∧ (∀ k, P.va.ownBlock = some k → k ≠ P.br ∧ k ≠ P.bo ∧ k ≠ P.bs) ∧ (∀ k, P.vn.ownBlock = some k → k ≠ P.br ∧ k ≠ P.bo ∧ k ≠ P.bs) := by
  obtain ⟨R, O, hr⟩ := h.rn
  obtain ⟨F, hd⟩ := h.dp
  refine ⟨types_ne hd.sb hr.rb (by decide), fun k hk => ?_, fun k hk => ?_⟩
  · obtain ⟨c, e⟩ := row_type h.rows.ra hk
    exact ⟨types_ne e hr.rb (by decide), types_ne e hr.ob (by decide), types_ne e hd.sb (by decide)⟩
  · obtain ⟨c, e⟩ := row_type h.rows.rn hk
    exact ⟨types_ne e hr.rb (by decide), types_ne e hr.ob (by decide), types_ne e hd.sb (by decide)⟩
set_option maxRecDepth 100000 in
set_option maxHeartbeats 1600000 in
theorem ldrop_any (h : LsM w b o SP A P) {s : S3} (hs : s ∈ SP) (hA : s ∈ A) :
    Calls Tryz.prog 30 #[.pointer (some ⟨b, o, none⟩), .int .i64 (ky s), .int .u32 s.2.2] w fun e w' => e = .returned (.tuple #[]) ∧ LsM w' b o SP (drp A s) P ∧ Off [P.br, P.bo, P.bs] w w' := by
  obtain ⟨q, hq⟩ := List.mem_iff_getElem?.1 hs
  have hql := (List.getElem?_eq_some_iff.1 hq).1
  have hfy := fnd_yes h.ord h.few hq rfl rfl
  have HF := Lib.hid (find_any h.ca h.cn h.rows h.ord h.few (ky s) s.2.2)
  rw [hfy] at HF
  obtain ⟨R, O, hr⟩ := h.rn
  obtain ⟨F, hd⟩ := h.dp
  have hal : alA SP A q = true := by rw [alA_at hq]; exact decide_eq_true hA
  have hless : ∀ x, alA SP (drp A s) x = (alA SP A x && decide (x ≠ q)) := alA_less h.ord.nodup hq (fun t => mem_drp)
  obtain ⟨t1, t2, t3⟩ := h.types
  have HR := Lib.hid (fun X (hb : Below w.heap.size w X) => pdrop_any (hr.keep hb) hql hal _ hless)
  have HD := Lib.hid (fun X (hb : Off [P.br, P.bo] w X) => dadd_any (hd.off hb (by simp; exact ⟨hr.ne.1, hr.ne.2.1⟩) (by simp; exact ⟨t1, Ne.symm h.ne⟩)) hql hal _ hless)
  have HT := Lib.hid (show (b ≠ P.br ∧ b ≠ P.bo ∧ b ≠ P.bs) ∧ P.bs ≠ P.br from ⟨⟨hr.ne.1, hr.ne.2.1, hd.ne⟩, t1⟩)
  have HT2 := Lib.hid t2
  have HT3 := Lib.hid t3
  have H := Lib.hid h
  obtain ⟨x, y, i⟩ := s
  clear hr hd hless hfy hal t1 t2 t3 h hq hs hA
  simp only at HF ⊢
  generalize ky (x, y, i) = yy at *
  go_enter Tryz.func30, Tryz.ntmps30
  go_wp2_with (first
    | (go_at_call 27; (with_reducible refine HF.out.mono ?_); rintro e w1 ⟨rfl, hb⟩; have HB1 := Lib.hid hb; clear hb)
    | (go_at_call 54; (with_reducible refine (HR.out _ HB1.out).mono ?_); rintro e w2 ⟨rfl, hr, ho⟩; have HO2 := Lib.hid ((Off.of (S := [P.br, P.bo]) HB1.out (Nat.le_refl _)).trans ho); have HR2 := Lib.hid hr; clear hr ho)
    | (go_at_call 55; (with_reducible refine (HD.out _ HO2.out).mono ?_); rintro e w3 ⟨rfl, hd, ho⟩; have HO3 := Lib.hid ho; have HD3 := Lib.hid hd; clear hd ho))
  go_end0
  obtain ⟨R', O', hr'⟩ := HR2.out
  have n1 := H.out.ne
  obtain ⟨⟨m1, m2, m3⟩, m4⟩ := HT.out
  have hoff : Off [P.br, P.bo, P.bs] w w3 := (HO2.out.mono (T := [P.br, P.bo, P.bs]) (fun k _ hk => by simp at hk ⊢; exact hk.elim .inl (fun h => .inr (.inl h)))).via HO3.out (fun k _ hk => by simp at hk ⊢; exact .inr (.inr hk))
  refine ⟨rfl, ⟨hoff.cell H.out.ca (by simp; exact ⟨m1, m2, m3⟩), hoff.cell H.out.cn (by simp; exact ⟨m1, m2, m3⟩), H.out.rows.off hoff (fun k hk => by have := HT2.out k hk; simp; exact this) (fun k hk => by have := HT3.out k hk; simp; exact this), ⟨R', O', hr'.off HO3.out (by simp; exact m3) (by simp; exact Ne.symm m4) (by simp; exact n1)⟩, HD3.out, n1, H.out.few, H.out.ord⟩, hoff⟩
end
end Go.Proofs.YtaaiblhedanogaaGreat.Bd
