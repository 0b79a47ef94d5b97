/-
  A node's list in memory: who is between, how many, who is there, a drop. No condition but those typed at each theorem.
-/
import Derived.Test.YtfcpfffgodljeaaGreatBl
import Derived.Test.YtfcpfffgodljeaaGreatNm
namespace Go.Proofs.YtfcpfffgodljeaaGreat.Bd
open Go.RowKit Go.Sort

/-- where a list lies -/
structure LsP where
  va : Value
  np : NmP
  z : Nat
/-- a node's list: the points SP by Y, of which those of A are there -/
structure LsM (w : World) (b o : Nat) (SP A : List S3) (P : LsP) : Prop where
  ca : w.cell? ⟨b, o, none⟩ = some P.va
  cn : w.cell? ⟨b, o + 1, none⟩ = some P.np.vn
  rows : OrR w ky SP P.va P.np.vn
  nm : NmM w b (o + 2) SP A P.np
  few : SP.length ≤ 8192
  ord : Ord ky SP
section
variable {w w' : World} {b o : Nat} {SP A : List S3} {P : LsP}
theorem LsM.off (h : LsM w b o SP A P) {S : List Nat} (g : Off S w w') (h1 : b ∉ S) (h2 : ∀ x ∈ mbl P.np, x ∉ S) (h5 : ∀ k, P.va.ownBlock = some k → k ∉ S) (h6 : ∀ k, P.np.vn.ownBlock = some k → k ∉ S) : LsM w' b o SP A P :=
  ⟨g.cell h.ca h1, g.cell h.cn h1, h.rows.off g h5 h6, h.nm.off g h1 h2 h6, h.few, h.ord⟩
theorem LsM.keep (h : LsM w b o SP A P) (g : Below w.heap.size w w') : LsM w' b o SP A P :=
  h.off (Off.of (S := []) g (Nat.le_refl _)) (by simp) (by simp) (by simp) (by simp)
/-- who is told, and counted -/
def btw (SP A : List S3) (y1 y2 : Int) : List S3 := sg SP A (firstP (SP.map ky) y1).1 (aboveP (SP.map ky) y2).1
/-- how many are looked at -/
def btwN (SP A : List S3) (y1 y2 : Int) : Nat := btN ky SP y1 y2 + (btw SP A y1 y2).length
def cnlN (SP : List S3) (y1 y2 : Int) : Nat := btN ky SP y1 y2

set_option maxRecDepth 100000 in
set_option maxHeartbeats 3200000 in
theorem between_any (h : LsM w b o SP A P) (y1 y2 : Int) :
    Calls Tryz.prog 49 #[.pointer (some ⟨b, o, none⟩), .int .i64 y1, .int .i64 y2] w fun e w' => (∃ v, e = .returned (.tuple #[v, .int .i64 (btwN SP A y1 y2 : Nat)]) ∧ w'.ownsRow w.heap.size 32 1 v (btw SP A y1 y2).length ((ids (btw SP A y1 y2)).map (Value.int .u32))) ∧ Below w.heap.size w w' := by
  have HE : Hid (btwN SP A y1 y2 = btN ky SP y1 y2 + (btw SP A y1 y2).length) := Lib.hid rfl
  have HR := Lib.hid (rbetw_any h.ca h.rows h.ord h.few y1 y2)
  obtain ⟨f1, -, -⟩ := fst_parts h.ord h.few y1
  obtain ⟨a1, -, -⟩ := abv_parts h.ord h.few y2
  have hbl : (btw SP A y1 y2).length ≤ 8192 := Nat.le_trans (sg_len _ _ _ _) h.few
  have hbn : btN ky SP y1 y2 ≤ 20000 := Nat.le_trans (btN_few h.ord h.few y1 y2) (by have := lg_few h.few (Nat.le_refl (SP.length + 1)); omega)
  have HN := Lib.hid (fun X (hb : Below w.heap.size w X) => nbetween_any (h.nm.keep hb) f1 a1)
  unfold btw at *
  unfold tup4 at HR
  generalize sg SP A (firstP (SP.map ky) y1).1 (aboveP (SP.map ky) y2).1 = Y at *
  generalize (firstP (SP.map ky) y1).1 = i at *
  generalize (aboveP (SP.map ky) y2).1 = j at *
  generalize btwN SP A y1 y2 = tN at *
  generalize btN ky SP y1 y2 = bn at *
  have c0 := h.ca
  generalize hy : Y.length = yl at *
  have HY := Lib.hid hy
  clear h f1 a1 hy
  go_enter Tryz.func49, Tryz.ntmps49
  go_wp2_with (first
    | (go_at_call 73; (with_reducible refine HR.out.mono ?_); rintro e w1 ⟨rfl, hb⟩; have HB1 := Lib.hid hb; clear hb)
    | (go_at_call 62; (with_reducible refine (HN.out _ HB1.out).mono ?_); rintro e w2 ⟨⟨v, rfl, hv⟩, hb⟩; have hv2 := hv; rw [← HY.out, ← ids_len Y] at hv2; obtain ⟨-, pv, cv, rfl, -, -, -⟩ := row_u hv2; clear hv2; rw [ids_len, HY.out] at *; have HV := Lib.hid (row_at hv (base' := w.heap.size) (fun k hk => ⟨rfl, Nat.le_trans HB1.out.size (row_lt hv hk).1⟩)); have HB2 := Lib.hid (HB1.out.trans (hb.mono HB1.out.size)); clear hb hv))
  go_ret2
  rw [HE.out]
  exact ⟨⟨_, by go_num, HV.out⟩, HB2.out⟩
set_option maxRecDepth 100000 in
set_option maxHeartbeats 3200000 in
theorem count_any (h : LsM w b o SP A P) {y1 y2 : Int} (h12 : y1 ≤ y2) :
    Calls Tryz.prog 52 #[.pointer (some ⟨b, o, none⟩), .int .i64 y1, .int .i64 y2] w fun e w' => e = .returned (.tuple #[.int .i64 ((btw SP A y1 y2).length : Nat), .int .i64 (cnlN SP y1 y2 : Nat)]) ∧ Below w.heap.size w w' := by
  have HR := Lib.hid (rbetw_any h.ca h.rows h.ord h.few y1 y2)
  obtain ⟨a1, -, -⟩ := abv_parts h.ord h.few y2
  have hle := fst_abv h.ord h.few h12
  have HN := Lib.hid (fun X (hb : Below w.heap.size w X) => ncount_any (h.nm.keep hb) hle a1)
  unfold btw cnlN
  unfold tup4 at HR
  generalize (sg SP A (firstP (SP.map ky) y1).1 (aboveP (SP.map ky) y2).1).length = Y at *
  generalize (firstP (SP.map ky) y1).1 = i at *
  generalize (aboveP (SP.map ky) y2).1 = j at *
  generalize btN ky SP y1 y2 = bn at *
  have c0 := h.ca
  clear h a1 hle
  go_enter Tryz.func52, Tryz.ntmps52
  go_wp2_with (first
    | (go_at_call 73; (with_reducible refine HR.out.mono ?_); rintro e w1 ⟨rfl, hb⟩; have HB1 := Lib.hid hb; clear hb)
    | (go_at_call 64; (with_reducible refine (HN.out _ HB1.out).mono ?_); rintro e w2 ⟨rfl, hb⟩; have HB2 := Lib.hid (HB1.out.trans (hb.mono HB1.out.size)); clear hb))
  go_ret2
  exact ⟨rfl, HB2.out⟩
/-- whether the point of that name is there, at y -/
def hasB (SP A : List S3) (y x : Int) : Bool := (fnd ky SP y x).2 && alA SP A (fnd ky SP y x).1
theorem fnd_le {kf : S3 → Int} {L : List S3} (h : Ord kf L) (hl : L.length ≤ 8192) (v x : Int) : (fnd kf L v x).1 ≤ L.length := by
  obtain ⟨a1, -, a3⟩ := fst_parts h hl v
  obtain ⟨b1, -, b3⟩ := abv_parts h hl v
  have hle := fst_abv h hl (Int.le_refl v)
  have h1 := (firstP_list (nms_rise h hl v) (by rw [nms_len b1]; omega) x).1
  rw [nms_len b1] at h1
  unfold fnd
  simp only
  omega
set_option maxRecDepth 100000 in
set_option maxHeartbeats 1600000 in
theorem has_any (h : LsM w b o SP A P) (y x : Int) :
    Calls Tryz.prog 44 #[.pointer (some ⟨b, o, none⟩), .int .i64 y, .int .u32 x] w fun e w' => e = .returned (.bool (hasB SP A y x)) ∧ Below w.heap.size w w' := by
  have HF := Lib.hid (find_any h.ca h.cn h.rows h.ord h.few y x)
  have hq := fnd_le h.ord h.few y x
  have HH := Lib.hid (fun X (hb : Below w.heap.size w X) => nhas_any (h.nm.keep hb) hq)
  have c0 := h.ca
  unfold hasB
  generalize fnd ky SP y x = q at *
  obtain ⟨q, ok⟩ := q
  simp only at HF HH ⊢
  generalize alA SP A q = al at *
  clear h hq
  cases ok with
  | true =>
    go_enter Tryz.func44, Tryz.ntmps44
    go_wp2_with (first
      | (go_at_call 42; (with_reducible refine HF.out.mono ?_); rintro e w1 ⟨rfl, hb⟩; have HB1 := Lib.hid hb; clear hb)
      | (go_at_call 58; (with_reducible refine (HH.out _ HB1.out).mono ?_); rintro e w2 ⟨rfl, hb⟩; have HB2 := Lib.hid (HB1.out.trans (hb.mono HB1.out.size)); clear hb))
    go_ret
    exact ⟨by simp, HB2.out⟩
  | false =>
    go_enter Tryz.func44, Tryz.ntmps44
    go_wp2_with (go_at_call 42; (with_reducible refine HF.out.mono ?_); rintro e w1 ⟨rfl, hb⟩; have HB1 := Lib.hid hb; clear hb)
    go_ret
    exact ⟨by simp, HB1.out⟩
theorem LsM.types (h : LsM w b o SP A P) : b ∉ mbl P.np ∧ (∀ k, P.va.ownBlock = some k → k ∉ mbl P.np) ∧ (∀ k, P.np.vn.ownBlock = some k → k ∉ mbl P.np) := by
  refine ⟨h.nm.out, fun k hk => ?_, h.nm.own⟩
  obtain ⟨c, e⟩ := row_type h.rows.ra hk
  exact h.nm.apart e (by decide) (by decide)
set_option maxRecDepth 100000 in
set_option maxHeartbeats 1600000 in
theorem ldrop_any (h : LsM w b o SP A P) {s : S3} (hs : s ∈ SP) (hA : s ∈ A) :
    Calls Tryz.prog 45 #[.pointer (some ⟨b, o, none⟩), .int .i64 (ky s), .int .u32 s.2.2] w fun e w' => e = .returned (.tuple #[]) ∧ LsM w' b o SP (drp A s) P ∧ Off (mbl P.np) w w' := by
  obtain ⟨q, hq⟩ := List.mem_iff_getElem?.1 hs
  have hfy := fnd_yes h.ord h.few hq rfl rfl
  have HF := Lib.hid (find_any h.ca h.cn h.rows h.ord h.few (ky s) s.2.2)
  rw [hfy] at HF
  obtain ⟨t1, t2, t3⟩ := h.types
  have HD := Lib.hid (fun X (hb : Below w.heap.size w X) => ndrop_any (h.nm.keep hb) hq hA)
  have HT2 := Lib.hid t2
  have HT3 := Lib.hid t3
  have HT1 := Lib.hid t1
  have H := Lib.hid h
  have c0 := h.ca
  obtain ⟨x, y, i⟩ := s
  clear hfy t1 t2 t3 h hq hs hA
  simp only at HF ⊢
  generalize ky (x, y, i) = yy at *
  go_enter Tryz.func45, Tryz.ntmps45
  go_wp2_with (first
    | (go_at_call 42; (with_reducible refine HF.out.mono ?_); rintro e w1 ⟨rfl, hb⟩; have HB1 := Lib.hid hb; clear hb)
    | (go_at_call 78; (with_reducible refine (HD.out _ HB1.out).mono ?_); rintro e w3 ⟨rfl, hd, ho⟩; have HO3 := Lib.hid ((Off.of (S := mbl P.np) HB1.out (Nat.le_refl _)).trans ho); have HD3 := Lib.hid hd; clear hd ho))
  go_end0
  exact ⟨rfl, ⟨HO3.out.cell H.out.ca HT1.out, HO3.out.cell H.out.cn HT1.out, H.out.rows.off HO3.out HT2.out HT3.out, HD3.out, H.out.few, H.out.ord⟩, HO3.out⟩
end
end Go.Proofs.YtfcpfffgodljeaaGreat.Bd
