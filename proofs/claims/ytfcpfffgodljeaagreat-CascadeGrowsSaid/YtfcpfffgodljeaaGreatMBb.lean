/-
  A node's list in memory: who is between, how many, who is there, a drop. No condition but those typed at each theorem.
-/
import Derived.Test.YtfcpfffgodljeaaGreatMBa
import Derived.Test.YtfcpfffgodljeaaGreatNm
import Derived.Test.YtfcpfffgodljeaaGreatMFx
import Derived.Test.YtfcpfffgodljeaaGreatMP
namespace Go.Proofs.YtfcpfffgodljeaaGreat.Bd
open Go.RowKit Go.Sort

/-- where a list lies -/
structure LsP where
  va : Value
  np : NmP
  z : Nat
/-- a node's list: the points SP by Y, of which those of A are there -/
structure LsM (w : World) (b o : Nat) (SP A : List S3) (P : LsP) : Prop where
  ca : w.cell? ⟨b, o, none⟩ = some P.va
  cn : w.cell? ⟨b, o + 1, none⟩ = some P.np.vn
  rows : OrR w ky SP P.va P.np.vn
  nm : NmM w b (o + 2) SP A P.np
  few : SP.length ≤ 8192
  ord : Ord ky SP
section
variable {w w' : World} {b o : Nat} {SP A : List S3} {P : LsP}
theorem LsM.off (h : LsM w b o SP A P) {S : List Nat} (g : Off S w w') (h1 : b ∉ S) (h2 : ∀ x ∈ mbl P.np, x ∉ S) (h5 : ∀ k, P.va.ownBlock = some k → k ∉ S) (h6 : ∀ k, P.np.vn.ownBlock = some k → k ∉ S) : LsM w' b o SP A P :=
  ⟨g.cell h.ca h1, g.cell h.cn h1, h.rows.off g h5 h6, h.nm.off g h1 h2 h6, h.few, h.ord⟩
theorem LsM.keep (h : LsM w b o SP A P) (g : Below w.heap.size w w') : LsM w' b o SP A P :=
  h.off (Off.of (S := []) g (Nat.le_refl _)) (by simp) (by simp) (by simp) (by simp)
/-- who is told, and counted -/
def btw (SP A : List S3) (y1 y2 : Int) : List S3 := sg SP A (firstP (SP.map ky) y1).1 (aboveP (SP.map ky) y2).1
/-- how many are looked at -/
def btwN (SP A : List S3) (y1 y2 : Int) : Nat := btN ky SP y1 y2 + (btw SP A y1 y2).length
def cnlN (SP : List S3) (y1 y2 : Int) : Nat := btN ky SP y1 y2

set_option maxRecDepth 100000 in
set_option maxHeartbeats 3200000 in
theorem between_any (h : LsM w b o SP A P) (y1 y2 : Int) :
    Calls Tryz.prog 49 #[.pointer (some ⟨b, o, none⟩), .int .i64 y1, .int .i64 y2] w fun e w' => (∃ v, e = .returned (.tuple #[v, .int .i64 (btwN SP A y1 y2 : Nat)]) ∧ w'.ownsRow w.heap.size 32 1 v (btw SP A y1 y2).length ((ids (btw SP A y1 y2)).map (Value.int .u32))) ∧ Below w.heap.size w w' := by
  have HE : Hid (btwN SP A y1 y2 = btN ky SP y1 y2 + (btw SP A y1 y2).length) := Lib.hid rfl
  have HR := Lib.hid (rbetw_any h.ca h.rows h.ord h.few y1 y2)
  obtain ⟨f1, -, -⟩ := fst_parts h.ord h.few y1
  obtain ⟨a1, -, -⟩ := abv_parts h.ord h.few y2
  have hbl : (btw SP A y1 y2).length ≤ 8192 := Nat.le_trans (sg_len _ _ _ _) h.few
  have hbn : btN ky SP y1 y2 ≤ 20000 := Nat.le_trans (btN_few h.ord h.few y1 y2) (by have := lg_few h.few (Nat.le_refl (SP.length + 1)); omega)
  have HN := Lib.hid (fun X (hb : Below w.heap.size w X) => nbetween_any (h.nm.keep hb) f1 a1)
  unfold btw at *
  unfold tup4 at HR
  generalize sg SP A (firstP (SP.map ky) y1).1 (aboveP (SP.map ky) y2).1 = Y at *
  generalize (firstP (SP.map ky) y1).1 = i at *
  generalize (aboveP (SP.map ky) y2).1 = j at *
  generalize btwN SP A y1 y2 = tN at *
  generalize btN ky SP y1 y2 = bn at *
  have c0 := h.ca
  generalize hy : Y.length = yl at *
  have HY := Lib.hid hy
  clear h f1 a1 hy
  go_enter Tryz.func49, Tryz.ntmps49
  go_wp2_with (first
    | (go_at_call 73; (with_reducible refine HR.out.mono ?_); rintro e w1 ⟨rfl, hb⟩; have HB1 := Lib.hid hb; clear hb)
    | (go_at_call 62; (with_reducible refine (HN.out _ HB1.out).mono ?_); rintro e w2 ⟨⟨v, rfl, hv⟩, hb⟩; have hv2 := hv; rw [← HY.out, ← ids_len Y] at hv2; obtain ⟨-, pv, cv, rfl, -, -, -⟩ := row_u hv2; clear hv2; rw [ids_len, HY.out] at *; have HV := Lib.hid (row_at hv (base' := w.heap.size) (fun k hk => ⟨rfl, Nat.le_trans HB1.out.size (row_lt hv hk).1⟩)); have HB2 := Lib.hid (HB1.out.trans (hb.mono HB1.out.size)); clear hb hv))
  go_ret2
  rw [HE.out]
  exact ⟨⟨_, by go_num, HV.out⟩, HB2.out⟩
set_option maxRecDepth 100000 in
set_option maxHeartbeats 3200000 in
theorem count_any (h : LsM w b o SP A P) {y1 y2 : Int} (h12 : y1 ≤ y2) :
    Calls Tryz.prog 52 #[.pointer (some ⟨b, o, none⟩), .int .i64 y1, .int .i64 y2] w fun e w' => e = .returned (.tuple #[.int .i64 ((btw SP A y1 y2).length : Nat), .int .i64 (cnlN SP y1 y2 : Nat)]) ∧ Below w.heap.size w w' := by
  have HR := Lib.hid (rbetw_any h.ca h.rows h.ord h.few y1 y2)
  obtain ⟨a1, -, -⟩ := abv_parts h.ord h.few y2
  have hle := fst_abv h.ord h.few h12
  have HN := Lib.hid (fun X (hb : Below w.heap.size w X) => ncount_any (h.nm.keep hb) hle a1)
  unfold btw cnlN
  unfold tup4 at HR
  generalize (sg SP A (firstP (SP.map ky) y1).1 (aboveP (SP.map ky) y2).1).length = Y at *
  generalize (firstP (SP.map ky) y1).1 = i at *
  generalize (aboveP (SP.map ky) y2).1 = j at *
  generalize btN ky SP y1 y2 = bn at *
  have c0 := h.ca
  clear h a1 hle
  go_enter Tryz.func52, Tryz.ntmps52
  go_wp2_with (first
    | (go_at_call 73; (with_reducible refine HR.out.mono ?_); rintro e w1 ⟨rfl, hb⟩; have HB1 := Lib.hid hb; clear hb)
    | (go_at_call 64; (with_reducible refine (HN.out _ HB1.out).mono ?_); rintro e w2 ⟨rfl, hb⟩; have HB2 := Lib.hid (HB1.out.trans (hb.mono HB1.out.size)); clear hb))
  go_ret2
  exact ⟨rfl, HB2.out⟩
/-- whether the point of that name is there, at y -/
def hasB (SP A : List S3) (y x : Int) : Bool := (fnd ky SP y x).2 && alA SP A (fnd ky SP y x).1
theorem fnd_le {kf : S3 → Int} {L : List S3} (h : Ord kf L) (hl : L.length ≤ 8192) (v x : Int) : (fnd kf L v x).1 ≤ L.length := by
  obtain ⟨a1, -, a3⟩ := fst_parts h hl v
  obtain ⟨b1, -, b3⟩ := abv_parts h hl v
  have hle := fst_abv h hl (Int.le_refl v)
  have h1 := (firstP_list (nms_rise h hl v) (by rw [nms_len b1]; omega) x).1
  rw [nms_len b1] at h1
  unfold fnd
  simp only
  omega
set_option maxRecDepth 100000 in
set_option maxHeartbeats 1600000 in
theorem has_any (h : LsM w b o SP A P) (y x : Int) :
    Calls Tryz.prog 44 #[.pointer (some ⟨b, o, none⟩), .int .i64 y, .int .u32 x] w fun e w' => e = .returned (.bool (hasB SP A y x)) ∧ Below w.heap.size w w' := by
  have HF := Lib.hid (find_any h.ca h.cn h.rows h.ord h.few y x)
  have hq := fnd_le h.ord h.few y x
  have HH := Lib.hid (fun X (hb : Below w.heap.size w X) => nhas_any (h.nm.keep hb) hq)
  have c0 := h.ca
  unfold hasB
  generalize fnd ky SP y x = q at *
  obtain ⟨q, ok⟩ := q
  simp only at HF HH ⊢
  generalize alA SP A q = al at *
  clear h hq
  cases ok with
  | true =>
    go_enter Tryz.func44, Tryz.ntmps44
    go_wp2_with (first
      | (go_at_call 42; (with_reducible refine HF.out.mono ?_); rintro e w1 ⟨rfl, hb⟩; have HB1 := Lib.hid hb; clear hb)
      | (go_at_call 58; (with_reducible refine (HH.out _ HB1.out).mono ?_); rintro e w2 ⟨rfl, hb⟩; have HB2 := Lib.hid (HB1.out.trans (hb.mono HB1.out.size)); clear hb))
    go_ret
    exact ⟨by simp, HB2.out⟩
  | false =>
    go_enter Tryz.func44, Tryz.ntmps44
    go_wp2_with (go_at_call 42; (with_reducible refine HF.out.mono ?_); rintro e w1 ⟨rfl, hb⟩; have HB1 := Lib.hid hb; clear hb)
    go_ret
    exact ⟨by simp, HB1.out⟩
theorem LsM.types (h : LsM w b o SP A P) : b ∉ mbl P.np ∧ (∀ k, P.va.ownBlock = some k → k ∉ mbl P.np) ∧ (∀ k, P.np.vn.ownBlock = some k → k ∉ mbl P.np) := by
  refine ⟨h.nm.out, fun k hk => ?_, h.nm.own⟩
  obtain ⟨c, e⟩ := row_type h.rows.ra hk
  exact h.nm.apart e (by decide) (by decide)
set_option maxRecDepth 100000 in
set_option maxHeartbeats 1600000 in
theorem ldrop_any (h : LsM w b o SP A P) {s : S3} (hs : s ∈ SP) (hA : s ∈ A) :
    Calls Tryz.prog 45 #[.pointer (some ⟨b, o, none⟩), .int .i64 (ky s), .int .u32 s.2.2] w fun e w' => e = .returned (.tuple #[]) ∧ LsM w' b o SP (drp A s) P ∧ Off (mbl P.np) w w' := by
  obtain ⟨q, hq⟩ := List.mem_iff_getElem?.1 hs
  have hfy := fnd_yes h.ord h.few hq rfl rfl
  have HF := Lib.hid (find_any h.ca h.cn h.rows h.ord h.few (ky s) s.2.2)
  rw [hfy] at HF
  obtain ⟨t1, t2, t3⟩ := h.types
  have HD := Lib.hid (fun X (hb : Below w.heap.size w X) => ndrop_any (h.nm.keep hb) hq hA)
  have HT2 := Lib.hid t2
  have HT3 := Lib.hid t3
  have HT1 := Lib.hid t1
  have H := Lib.hid h
  have c0 := h.ca
  obtain ⟨x, y, i⟩ := s
  clear hfy t1 t2 t3 h hq hs hA
  simp only at HF ⊢
  generalize ky (x, y, i) = yy at *
  go_enter Tryz.func45, Tryz.ntmps45
  go_wp2_with (first
    | (go_at_call 42; (with_reducible refine HF.out.mono ?_); rintro e w1 ⟨rfl, hb⟩; have HB1 := Lib.hid hb; clear hb)
    | (go_at_call 78; (with_reducible refine (HD.out _ HB1.out).mono ?_); rintro e w3 ⟨rfl, hd, ho⟩; have HO3 := Lib.hid ((Off.of (S := mbl P.np) HB1.out (Nat.le_refl _)).trans ho); have HD3 := Lib.hid hd; clear hd ho))
  go_end0
  exact ⟨rfl, ⟨HO3.out.cell H.out.ca HT1.out, HO3.out.cell H.out.cn HT1.out, H.out.rows.off HO3.out HT2.out HT3.out, HD3.out, H.out.few, H.out.ord⟩, HO3.out⟩
end
end Go.Proofs.YtfcpfffgodljeaaGreat.Bd
/-
  A tree of points, plain: who stands at a node, what the canonical nodes of a range tell together, how many things are touched, how much it weighs. No condition but those typed at each theorem.
-/
namespace Go.Proofs.YtfcpfffgodljeaaGreat.Bd
open Go.RowKit Go.Sort

theorem cnt1 {α : Type} [BEq α] [LawfulBEq α] {a : α} : ∀ {l : List α}, l.Nodup → a ∈ l → l.count a = 1
  | [], _, h => by cases h
  | x :: l, hn, h => by
    rw [List.nodup_cons] at hn
    rw [List.count_cons]
    by_cases e : x = a
    · subst e
      rw [List.count_eq_zero_of_not_mem hn.1]; simp
    · have : a ∈ l := by
        rcases List.mem_cons.1 h with h | h
        · exact absurd h.symm e
        · exact h
      rw [cnt1 hn.2 this]
      simp [e]
theorem sum_one {α : Type} : ∀ l : List α, (l.map (fun _ => 1)).sum = l.length
  | [] => rfl
  | x :: l => by rw [List.map_cons, List.sum_cons, sum_one l, List.length_cons]; omega
theorem sum_nil {α : Type} : ∀ l : List α, (l.map (fun _ => 0)).sum = 0
  | [] => rfl
  | x :: l => by rw [List.map_cons, List.sum_cons, sum_nil l]
theorem pt_nodup {leaf : Nat} : ∀ {t b f}, (pt leaf t b f).Nodup
  | .lf, b, f => by simp [pt]
  | .nd l r, b, f => by
    rw [pt, List.nodup_cons]
    have h1 := rt_nd b l r
    have h2 := rt_lt b l
    have h3 := rt_lt (b + sz l) r
    have h4 := sz_pos r
    constructor
    · intro hm
      split at hm
      · have := pt_range hm; omega
      · have := pt_range hm; omega
    · split
      · exact pt_nodup
      · exact pt_nodup
theorem ptF_nodup (n i : Nat) : (ptF n i).Nodup := pt_nodup
theorem ptF_pos {n i : Nat} (h : i < n) : 1 ≤ (ptF n i).length := by
  obtain ⟨tl, e, -⟩ := ptF_walk h
  rw [e]; simp
/-- the points by X, and by Y -/
structure PlI (RX LY : List S3) : Prop where
  ox : Ord kx RX
  oy : Ord ky LY
  pm : RX.Perm LY
  few : RX.length ≤ 400
/-- the points at a node, by Y -/
def SPk (RX LY : List S3) (k : Nat) : List S3 := LY.filter (fun s => decide (k ∈ ptF RX.length (RX.idxOf s)))
section
variable {RX LY : List S3}
theorem PlI.idx (h : PlI RX LY) {i : Nat} {s : S3} (e : RX[i]? = some s) : RX.idxOf s = i := by
  obtain ⟨hi, rfl⟩ := List.getElem?_eq_some_iff.1 e
  exact List.Nodup.idxOf_getElem h.ox.nodup i hi
theorem PlI.at_idx (h : PlI RX LY) {s : S3} (e : s ∈ RX) : RX[RX.idxOf s]? = some s ∧ RX.idxOf s < RX.length := by
  obtain ⟨i, hi⟩ := List.mem_iff_getElem?.1 e
  rw [h.idx hi]
  exact ⟨hi, (List.getElem?_eq_some_iff.1 hi).1⟩
theorem SPk_ord (h : PlI RX LY) (k : Nat) : Ord ky (SPk RX LY k) := h.oy.sub List.filter_sublist
theorem SPk_len (h : PlI RX LY) (k : Nat) : (SPk RX LY k).length ≤ RX.length := by
  rw [h.pm.length_eq]; exact List.length_filter_le _ _
theorem SPk_few (h : PlI RX LY) (k : Nat) : (SPk RX LY k).length ≤ 8192 := Nat.le_trans (SPk_len h k) (Nat.le_trans h.few (by decide))
/-- who stands at the nodes of some places together: each thing as often as one of them is on its path -/
theorem count_nodes (Q : S3 → Bool) (a : S3) : ∀ ks : List Nat, (ks.flatMap (fun k => (SPk RX LY k).filter Q)).count a = mt ks (ptF RX.length (RX.idxOf a)) * (LY.filter Q).count a := by
  intro ks
  induction ks with
  | nil => simp [mt]
  | cons k ks ih =>
    rw [List.flatMap_cons, List.count_append, ih]
    have e1 : mt (k :: ks) (ptF RX.length (RX.idxOf a)) = (ptF RX.length (RX.idxOf a)).count k + mt ks (ptF RX.length (RX.idxOf a)) := by simp [mt]
    rw [e1, Nat.add_mul]
    congr 1
    have e2 : (SPk RX LY k).filter Q = (LY.filter Q).filter (fun s => decide (k ∈ ptF RX.length (RX.idxOf s))) := by
      unfold SPk
      rw [List.filter_filter, List.filter_filter]
      exact List.filter_congr (fun x _ => Bool.and_comm _ _)
    rw [e2]
    by_cases g : k ∈ ptF RX.length (RX.idxOf a)
    · rw [List.count_filter (by simpa using g), cnt1 (ptF_nodup _ _) g, Nat.one_mul]
    · rw [List.count_eq_zero_of_not_mem g, Nat.zero_mul, List.count_eq_zero]
      intro hm
      have := (List.mem_filter.1 hm).2
      simp at this
      exact g this
/-- those of a range of X -/
theorem range_iff (h : PlI RX LY) (x1 x2 : Int) {a : S3} (ha : a ∈ RX) : ((firstP (RX.map kx) x1).1 ≤ RX.idxOf a ∧ RX.idxOf a < (aboveP (RX.map kx) x2).1) ↔ (x1 ≤ kx a ∧ kx a ≤ x2) := by
  obtain ⟨e, -⟩ := h.at_idx ha
  obtain ⟨-, -, f3⟩ := fst_parts h.ox (Nat.le_trans h.few (by decide)) x1
  obtain ⟨-, -, a3⟩ := abv_parts h.ox (Nat.le_trans h.few (by decide)) x2
  have h1 := f3 _ _ e
  have h2 := a3 _ _ e
  rw [h2]
  constructor
  · rintro ⟨g1, g2⟩
    exact ⟨Decidable.byContradiction (fun c => by have := h1.2 (by omega); omega), g2⟩
  · rintro ⟨g1, g2⟩
    exact ⟨Decidable.byContradiction (fun c => by have := h1.1 (by omega); omega), g2⟩
/-- the canonical nodes of a box -/
def kns (RX : List S3) (b : B4) : List Nat := (cnF RX.length (firstP (RX.map kx) b.1).1 (aboveP (RX.map kx) b.2.1).1).1
theorem nodes_told (h : PlI RX LY) {A : List S3} (hA : A.Nodup) (hs : ∀ s ∈ A, s ∈ RX) (b : B4) :
    ((kns RX b).flatMap (fun k => (SPk RX LY k).filter (fun s => decide (s ∈ A) && (decide (b.2.2.1 ≤ ky s) && decide (ky s ≤ b.2.2.2))))).Perm (A.filter (hsB b)) := by
  refine List.perm_iff_count.2 (fun a => ?_)
  rw [count_nodes]
  by_cases haA : a ∈ A
  · have haR := hs a haA
    obtain ⟨-, hlt⟩ := h.at_idx haR
    unfold kns
    rw [cnF_met hlt]
    have hr := range_iff h b.1 b.2.1 haR
    have hLY : LY.Nodup := h.oy.nodup
    have haL : a ∈ LY := h.pm.mem_iff.1 haR
    by_cases hx : b.1 ≤ kx a ∧ kx a ≤ b.2.1
    · rw [if_pos (hr.2 hx), Nat.one_mul]
      by_cases hy : b.2.2.1 ≤ ky a ∧ ky a ≤ b.2.2.2
      · rw [List.count_filter (by simp [haA, hy]), cnt1 hLY haL, List.count_filter (by unfold hsB; simp; exact ⟨⟨hx, hy.1⟩, hy.2⟩), cnt1 hA haA]
      · rw [List.count_eq_zero.2, List.count_eq_zero.2]
        · intro hm; have := (List.mem_filter.1 hm).2; unfold hsB at this; simp at this; exact hy ⟨this.1.2, this.2⟩
        · intro hm; have := (List.mem_filter.1 hm).2; simp at this; exact hy this.2
    · rw [if_neg (fun c => hx (hr.1 c)), Nat.zero_mul, List.count_eq_zero.2]
      intro hm; have := (List.mem_filter.1 hm).2; unfold hsB at this; simp at this; exact hx this.1.1
  · rw [List.count_eq_zero.2 (fun hm => haA (by have := (List.mem_filter.1 hm).2; simp at this; exact this.1)), Nat.mul_zero, List.count_eq_zero.2 (fun hm => haA (List.mem_filter.1 hm).1)]
theorem btw_eq (h : PlI RX LY) (A : List S3) (k : Nat) {b : B4} (hy : b.2.2.1 ≤ b.2.2.2) : btw (SPk RX LY k) A b.2.2.1 b.2.2.2 = (SPk RX LY k).filter (fun s => decide (s ∈ A) && (decide (b.2.2.1 ≤ ky s) && decide (ky s ≤ b.2.2.2))) := by
  unfold btw
  rw [sg_part (SPk_ord h k) (SPk_few h k) hy, List.filter_filter]
  exact List.filter_congr (fun x _ => Bool.and_comm _ _)
/-- all names that are told -/
def tld (RX LY A : List S3) (b : B4) (ks : List Nat) : List S3 := ks.flatMap (fun k => btw (SPk RX LY k) A b.2.2.1 b.2.2.2)
theorem tld_perm (h : PlI RX LY) {A : List S3} (hA : A.Nodup) (hs : ∀ s ∈ A, s ∈ RX) {b : B4} (hy : b.2.2.1 ≤ b.2.2.2) : (tld RX LY A b (kns RX b)).Perm (A.filter (hsB b)) := by
  unfold tld
  have e : (fun k => btw (SPk RX LY k) A b.2.2.1 b.2.2.2) = (fun k => (SPk RX LY k).filter (fun s => decide (s ∈ A) && (decide (b.2.2.1 ≤ ky s) && decide (ky s ≤ b.2.2.2)))) := funext (fun k => btw_eq h A k hy)
  rw [e]
  exact nodes_told h hA hs b
theorem tld_names (h : PlI RX LY) {A : List S3} (hA : A.Nodup) (hs : ∀ s ∈ A, s ∈ RX) {b : B4} (hy : b.2.2.1 ≤ b.2.2.2) : nsort (ids (tld RX LY A b (kns RX b))) = hsS A b ∧ (tld RX LY A b (kns RX b)).length = (hsS A b).length := by
  have h1 := tld_perm h hA hs hy
  constructor
  · exact nsort_eq (h1.map _)
  · rw [h1.length_eq]
    unfold hsS hsL
    rw [nsort_len, List.length_map]
theorem cnl_all (h : PlI RX LY) {A : List S3} (hA : A.Nodup) (hs : ∀ s ∈ A, s ∈ RX) {b : B4} (hy : b.2.2.1 ≤ b.2.2.2) : ((kns RX b).map (fun k => (btw (SPk RX LY k) A b.2.2.1 b.2.2.2).length)).sum = (hsS A b).length := by
  rw [← (tld_names h hA hs hy).2]
  unfold tld
  rw [List.length_flatMap]
/-- what is touched to report, and to count -/
def repT (RX LY A : List S3) (b : B4) (ks : List Nat) : Nat := (ks.map (fun k => btwN (SPk RX LY k) A b.2.2.1 b.2.2.2)).sum
def cntT (RX LY : List S3) (b : B4) (ks : List Nat) : Nat := (ks.map (fun k => cnlN (SPk RX LY k) b.2.2.1 b.2.2.2)).sum
/-- what is touched to find the nodes -/
def hedT (RX : List S3) (b : B4) : Nat := btN kx RX b.1 b.2.1 + (cnF RX.length (firstP (RX.map kx) b.1).1 (aboveP (RX.map kx) b.2.1).1).2
theorem lgM {a b : Nat} (h : a ≤ b) (hb : b ≤ 100000) : lgN a ≤ lgN b := bl_mono (by omega) (by omega)
theorem head_few (h : PlI RX LY) {b : B4} (hx : b.1 ≤ b.2.1) : hedT RX b ≤ 6 * lgN (RX.length + 1) + 1 ∧ (kns RX b).length ≤ 2 * lgN (RX.length + 1) := by
  have hf : RX.length ≤ 8192 := Nat.le_trans h.few (by decide)
  obtain ⟨f1, f2, -⟩ := fst_parts h.ox hf b.1
  obtain ⟨a1, a2, -⟩ := abv_parts h.ox hf b.2.1
  have hle := fst_abv h.ox hf hx
  unfold hedT kns btN
  rcases Nat.eq_or_lt_of_le hle with e | e
  · have : cnF RX.length (firstP (RX.map kx) b.1).1 (aboveP (RX.map kx) b.2.1).1 = ([], 0) := by unfold cnF; rw [if_pos e]
    rw [this]
    simp
    omega
  · obtain ⟨c1, c2, -⟩ := cnF_few e a1 (Nat.le_trans h.few (by decide))
    have h1 : lgI (RX.length : Int) ≤ lgN (RX.length + 1) := by unfold lgI; rw [Int.toNat_natCast]; exact lgM (by omega) (by have := h.few; omega)
    have h2 : 1 ≤ lgN (RX.length + 1) := (lg_spec (n := RX.length + 1) (by omega) (by have := h.few; omega)).1
    omega
theorem cnlN_few (h : PlI RX LY) (k : Nat) (y1 y2 : Int) : cnlN (SPk RX LY k) y1 y2 ≤ 2 * lgN (RX.length + 1) := by
  have h1 := btN_few (SPk_ord h k) (SPk_few h k) y1 y2
  have hm : lgN ((SPk RX LY k).length + 1) ≤ lgN (RX.length + 1) := lgM (by have := SPk_len h k; omega) (by have := h.few; omega)
  unfold cnlN
  omega
theorem btwN_few (h : PlI RX LY) (A : List S3) (k : Nat) (y1 y2 : Int) : (btw (SPk RX LY k) A y1 y2).length ≤ btwN (SPk RX LY k) A y1 y2 ∧ btwN (SPk RX LY k) A y1 y2 ≤ (btw (SPk RX LY k) A y1 y2).length + 2 * lgN (RX.length + 1) := by
  have h1 := cnlN_few h k y1 y2
  unfold cnlN at h1
  unfold btwN
  omega
theorem sum_le {α : Type} (f g : α → Nat) (c : Nat) : ∀ l : List α, (∀ x ∈ l, f x ≤ g x + c) → (l.map f).sum ≤ (l.map g).sum + l.length * c
  | [], _ => by simp
  | x :: l, h => by
    have h1 := h x (by simp)
    have h2 := sum_le f g c l (fun y hy => h y (by simp [hy]))
    simp only [List.map_cons, List.sum_cons, List.length_cons, Nat.add_mul]
    omega
theorem sum_ge {α : Type} (f g : α → Nat) : ∀ l : List α, (∀ x ∈ l, f x ≤ g x) → (l.map f).sum ≤ (l.map g).sum
  | [], _ => by simp
  | x :: l, h => by
    have h1 := h x (by simp)
    have h2 := sum_ge f g l (fun y hy => h y (by simp [hy]))
    simp only [List.map_cons, List.sum_cons]
    omega
theorem two_mul2 (L : Nat) : 2 * L * (2 * L) = 4 * L * L := by
  rw [show 2 * L * (2 * L) = 2 * (L * (2 * L)) by rw [Nat.mul_assoc], show L * (2 * L) = 2 * (L * L) by rw [← Nat.mul_assoc, Nat.mul_comm L 2, Nat.mul_assoc], ← Nat.mul_assoc, ← Nat.mul_assoc]
theorem rep_few (h : PlI RX LY) {A : List S3} (hA : A.Nodup) (hs : ∀ s ∈ A, s ∈ RX) {b : B4} (hx : b.1 ≤ b.2.1) (hy : b.2.2.1 ≤ b.2.2.2) :
    (hsS A b).length ≤ hedT RX b + repT RX LY A b (kns RX b) ∧ hedT RX b + repT RX LY A b (kns RX b) ≤ (hsS A b).length + repN RX.length := by
  obtain ⟨h1, h2⟩ := head_few h hx
  have h3 := (tld_names h hA hs hy).2
  unfold tld at h3
  rw [List.length_flatMap] at h3
  have h4 := sum_le (fun k => btwN (SPk RX LY k) A b.2.2.1 b.2.2.2) (fun k => (btw (SPk RX LY k) A b.2.2.1 b.2.2.2).length) (2 * lgN (RX.length + 1)) (kns RX b) (fun k _ => (btwN_few h A k _ _).2)
  have h5 := sum_ge (fun k => (btw (SPk RX LY k) A b.2.2.1 b.2.2.2).length) (fun k => btwN (SPk RX LY k) A b.2.2.1 b.2.2.2) (kns RX b) (fun k _ => (btwN_few h A k _ _).1)
  have h6 : (kns RX b).length * (2 * lgN (RX.length + 1)) ≤ 2 * lgN (RX.length + 1) * (2 * lgN (RX.length + 1)) := Nat.mul_le_mul_right _ h2
  unfold repT repN
  generalize lgN (RX.length + 1) = L at *
  rw [two_mul2] at h6
  omega
theorem cnt_few (h : PlI RX LY) {b : B4} (hx : b.1 ≤ b.2.1) : hedT RX b + cntT RX LY b (kns RX b) ≤ cntN RX.length := by
  obtain ⟨h1, h2⟩ := head_few h hx
  have h4 := sum_le (fun k => cnlN (SPk RX LY k) b.2.2.1 b.2.2.2) (fun _ => 0) (2 * lgN (RX.length + 1)) (kns RX b) (fun k _ => by have := cnlN_few h k b.2.2.1 b.2.2.2; omega)
  have h5 := sum_nil (kns RX b)
  have h6 : (kns RX b).length * (2 * lgN (RX.length + 1)) ≤ 2 * lgN (RX.length + 1) * (2 * lgN (RX.length + 1)) := Nat.mul_le_mul_right _ h2
  unfold cntT cntN
  generalize lgN (RX.length + 1) = L at *
  rw [two_mul2] at h6
  have h7 : 4 * L * L ≤ 8 * L * L := Nat.mul_le_mul_right _ (by omega)
  omega
/-- in how many lists those of A stand -/
def wts (RX A : List S3) : Nat := (A.map (fun s => (ptF RX.length (RX.idxOf s)).length)).sum
theorem wts_few (h : PlI RX LY) {A : List S3} (hs : ∀ s ∈ A, s ∈ RX) : A.length ≤ wts RX A ∧ wts RX A ≤ A.length * (lgN (RX.length + 1) + 1) := by
  have h1 : ∀ s ∈ A, 1 ≤ (ptF RX.length (RX.idxOf s)).length ∧ (ptF RX.length (RX.idxOf s)).length ≤ lgN (RX.length + 1) + 1 := fun s m => by
    obtain ⟨-, hlt⟩ := h.at_idx (hs s m)
    refine ⟨ptF_pos hlt, ?_⟩
    have h2 := ptF_len (n := RX.length) (leaf := RX.idxOf s) (by omega) (Nat.le_trans h.few (by decide))
    have h3 : lgI (RX.length : Int) ≤ lgN (RX.length + 1) := by unfold lgI; rw [Int.toNat_natCast]; exact lgM (by omega) (by have := h.few; omega)
    omega
  unfold wts
  constructor
  · have := sum_ge (fun _ : S3 => 1) (fun s => (ptF RX.length (RX.idxOf s)).length) A (fun s m => (h1 s m).1)
    rw [sum_one] at this
    exact this
  · have := sum_le (fun s => (ptF RX.length (RX.idxOf s)).length) (fun _ : S3 => 0) (lgN (RX.length + 1) + 1) A (fun s m => by have := (h1 s m).2; omega)
    rw [sum_nil, Nat.zero_add] at this
    exact this
theorem wts_drp {A : List S3} (hA : A.Nodup) {s : S3} (hs : s ∈ A) : wts RX (drp A s) + (ptF RX.length (RX.idxOf s)).length = wts RX A := by
  unfold wts
  induction A with
  | nil => cases hs
  | cons a A ih =>
    rw [List.nodup_cons] at hA
    by_cases e : a = s
    · subst e
      have : drp (a :: A) a = A := by
        unfold drp
        rw [List.filter_cons]
        simp
        exact fun x y z hm e => hA.1 (e ▸ hm)
      rw [this, List.map_cons, List.sum_cons]
      omega
    · have hm : s ∈ A := by
        rcases List.mem_cons.1 hs with h | h
        · exact absurd h.symm e
        · exact h
      have h1 := ih hA.2 hm
      have h2 : drp (a :: A) s = a :: drp A s := by
        unfold drp
        rw [List.filter_cons]
        simp [e]
      rw [h2, List.map_cons, List.sum_cons, List.map_cons, List.sum_cons]
      omega
end
end Go.Proofs.YtfcpfffgodljeaaGreat.Bd
/-
  A tree of points in memory; the canonical nodes' lists handed down. No condition but those typed at each theorem.
-/
namespace Go.Proofs.YtfcpfffgodljeaaGreat.Bd
open Go.RowKit Go.Sort

/-- where a tree lies -/
structure BdP where
  B : Nat
  fb : Nat
  lb : Nat
  fd : Int
  fp : Value
  rva : Value
  rvn : Value
  lv : Value
  ls : List LsP
def Apt (p q : LsP) : Prop := ∀ x ∈ mbl p.np, x ∉ mbl q.np
/-- a tree: built of the points RX (by X; LY by Y), of which those of A are there -/
structure BdM (w : World) (P : BdP) (RX LY A : List S3) : Prop where
  ev : EV 74 w P.B [.pointer (some ⟨P.B, 0, none⟩), P.rva, P.rvn, .pointer (some ⟨P.fb, 0, none⟩), P.lv, .int .i64 A.length, .int .i64 (wts RX A : Nat)]
  row : OrR w kx RX P.rva P.rvn
  fr : FR w P.fb RX.length P.fd P.fp
  lsl : P.ls.length = 2 * RX.length - 1
  lat : P.ls ≠ [] → ∃ cap, P.lv = .slice (some ⟨P.lb, 0, none⟩) P.ls.length cap
  nod : ∀ k p, P.ls[k]? = some p → LsM w P.lb (k * 8) (SPk RX LY k) A p
  ap : P.ls.Pairwise Apt
  pl : PlI RX LY
  lbB : P.lb ≠ P.B
/-- the blocks of a list -/
def lblk (lb : Nat) (p : LsP) : List Nat := lb :: (mbl p.np ++ (p.va.ownBlock.toList ++ p.np.vn.ownBlock.toList))
/-- the blocks of a tree -/
def blks (P : BdP) : List Nat := P.B :: P.fb :: (P.rva.ownBlock.toList ++ P.rvn.ownBlock.toList ++ P.ls.flatMap (lblk P.lb))
section
variable {w w' : World} {P : BdP} {RX LY A : List S3}
theorem BdM.off (h : BdM w P RX LY A) {S : List Nat} (g : Off S w w') (hS : ∀ k ∈ blks P, k ∉ S) : BdM w' P RX LY A := by
  have h1 : P.B ∉ S := hS _ (by simp [blks])
  have h2 : P.fb ∉ S := hS _ (by simp [blks])
  refine ⟨h.ev.off g h1, h.row.off g (fun k hk => hS k (by simp [blks, hk])) (fun k hk => hS k (by simp [blks, hk])), h.fr.block (g.block _ h.fr.lt h2), h.lsl, h.lat, fun k p e => ?_, h.ap, h.pl, h.lbB⟩
  have hm : p ∈ P.ls := List.mem_of_getElem? e
  have hin : ∀ x ∈ lblk P.lb p, x ∉ S := fun x hx => hS x (by
    unfold blks
    simp only [List.mem_cons, List.mem_append, List.mem_flatMap]
    exact .inr (.inr (.inr ⟨p, hm, hx⟩)))
  exact (h.nod k p e).off g (hin _ (by simp [lblk])) (fun x hx => hin x (by simp [lblk, hx])) (fun x hx => hin x (by simp [lblk, hx])) (fun x hx => hin x (by simp [lblk, hx]))
theorem BdM.keep (h : BdM w P RX LY A) (g : Below w.heap.size w w') : BdM w' P RX LY A := h.off (Off.of (S := []) g (Nat.le_refl _)) (by simp)
theorem BdM.lies (h : BdM w P RX LY A) : ∀ k ∈ blks P, k < w.heap.size := by
  intro k hk
  unfold blks at hk
  simp only [List.mem_cons, List.mem_append, List.mem_flatMap, Option.mem_toList] at hk
  rcases hk with rfl | rfl | (hk | hk) | ⟨p, hp, hk⟩
  · exact h.ev.lt
  · exact h.fr.lt
  · exact (row_lt h.row.ra hk).2
  · exact (row_lt h.row.rn hk).2
  · obtain ⟨i, hi⟩ := List.mem_iff_getElem?.1 hp
    have hl := h.nod i p hi
    unfold lblk at hk
    simp only [List.mem_cons, List.mem_append, Option.mem_toList] at hk
    rcases hk with rfl | hk | hk | hk
    · exact World.block_lt_of_cell? _ _ hl.ca
    · exact hl.nm.lt.2.1 k hk
    · exact (row_lt hl.rows.ra hk).2
    · exact (row_lt hl.rows.rn hk).2
theorem eqSameB (a : Addr) (w : World) : (binOp .eql 25 (.pointer (some a)) (.pointer (some a))).run Tryz.prog w = .ok (.bool true) w := by
  obtain ⟨j, hj⟩ := Option.isSome_iff_exists.1 (show (Tryz.prog.info? 74).isSome = true by kernel_rfl)
  exact run_eql_ptr_same w a Tryz.underlying25 hj
set_option maxRecDepth 100000 in
theorem bmade_yes (h : BdM w P RX LY A) : Calls Tryz.prog 40 #[.pointer (some ⟨P.B, 0, none⟩)] w fun e w' => e = .returned (.bool true) ∧ w' = w := by
  have c0 := h.ev.cell (i := 0) rfl
  have q := @eqSameB
  clear h
  go_enter Tryz.func40, Tryz.ntmps40
  go_wp2
  go_ret
  exact ⟨rfl, rfl⟩
set_option maxRecDepth 100000 in
theorem bmade_nil (w : World) : Calls Tryz.prog 40 #[.pointer none] w fun e w' => e = .returned (.bool false) ∧ w' = w := by
  go_enter Tryz.func40, Tryz.ntmps40
  go_wp2
  go_ret
  exact ⟨rfl, rfl⟩
set_option maxRecDepth 100000 in
theorem rbox_any (w : World) (b : B5) : Calls Tryz.prog 81 #[bv b] w fun e w' => e = .returned (.bool (decide (b.1.1 ≤ b.1.2.1 ∧ b.1.2.2.1 ≤ b.1.2.2.2))) ∧ Below w.heap.size w w' := by
  obtain ⟨⟨x1, x2, y1, y2⟩, i⟩ := b
  unfold bv
  simp only
  by_cases h1 : x1 ≤ x2
  · by_cases h2 : y1 ≤ y2
    · rw [decide_eq_true (show x1 ≤ x2 ∧ y1 ≤ y2 from ⟨h1, h2⟩)]
      go_enter Tryz.func81, Tryz.ntmps81
      go_wp2
      go_ret
      exact ⟨retb (by simp), (Below.refl _ w).alloc (Nat.le_refl _) _⟩
    · rw [decide_eq_false (show ¬ (x1 ≤ x2 ∧ y1 ≤ y2) from fun c => h2 c.2)]
      go_enter Tryz.func81, Tryz.ntmps81
      go_wp2
      go_ret
      exact ⟨retb (by simp), (Below.refl _ w).alloc (Nat.le_refl _) _⟩
  · rw [decide_eq_false (show ¬ (x1 ≤ x2 ∧ y1 ≤ y2) from fun c => h1 c.1)]
    go_enter Tryz.func81, Tryz.ntmps81
    go_wp2
    go_ret
    exact ⟨rfl, (Below.refl _ w).alloc (Nat.le_refl _) _⟩
theorem sum_cap {α : Type} (f : α → Nat) (c : Nat) (h : ∀ x, f x ≤ c) : ∀ l : List α, (l.map f).sum ≤ l.length * c
  | [] => by simp
  | x :: l => by
    have h1 := h x
    have h2 := sum_cap f c h l
    rw [List.map_cons, List.sum_cons, List.length_cons, Nat.add_mul]
    omega
theorem kns_lt (h : PlI RX LY) {b : B4} (hx : b.1 ≤ b.2.1) {k : Nat} (hk : k ∈ kns RX b) : k < 2 * RX.length - 1 := by
  obtain ⟨a1, -, -⟩ := abv_parts h.ox (Nat.le_trans h.few (by decide)) b.2.1
  have hle := fst_abv h.ox (Nat.le_trans h.few (by decide)) hx
  unfold kns cnF at hk
  split at hk
  · cases hk
  · rename_i hne
    have h1 := (cn_range hk).2
    have h2 := lv_tr (m := RX.length) (by omega)
    unfold rt at h1
    rw [h2] at h1
    omega
set_option maxRecDepth 100000 in
set_option maxHeartbeats 3200000 in
theorem each_any (h : BdM w P RX LY A) (b : B5) (hx : b.1.1 ≤ b.1.2.1) (hy : b.1.2.2.1 ≤ b.1.2.2.2) (g : Nat) (lb : Array Value) (eg : ∀ args w, (callFunc g args).run Tryz.prog w = .ok (.enter g args) w) (J : Nat → World → Prop) (cost : Nat → Nat) (S0 : List Nat)
    (hJ0 : ∀ X, Below w.heap.size w X → J 0 X) (hJb : ∀ i X X', J i X → Below X.heap.size X X' → J i X') (hS0 : P.B ∉ S0) (hcost : ∀ k, cost k ≤ 30000)
    (hC : ∀ i k X, (kns RX b.1)[i]? = some k → J i X → w.heap.size ≤ X.heap.size → Calls Tryz.prog g (#[.pointer (some ⟨P.lb, k * 8, none⟩)] ++ lb) X fun e X' => e = .returned (.int .i64 (cost k : Nat)) ∧ J (i + 1) X' ∧ ∃ S, Off S X X' ∧ ∀ m ∈ S, (m < w.heap.size ∧ m ∈ S0) ∨ (w.heap.size ≤ m ∧ ∃ c, X.heap[m]? = some (.cells c 32 (0, 0)))) :
    Calls Tryz.prog 47 #[.pointer (some ⟨P.B, 0, none⟩), bv b, .func (.func g) #[] lb] w fun e w' => e = .returned (.int .i64 (hedT RX b.1 + ((kns RX b.1).map cost).sum : Nat)) ∧ J (kns RX b.1).length w' ∧ Off S0 w w' := by
  obtain ⟨hd1, hd2⟩ := head_few h.pl hx
  have HKL := Lib.hid (fun k hk => (h.lsl ▸ kns_lt (k := k) h.pl hx hk : k < P.ls.length))
  have HLAT := Lib.hid h.lat
  obtain ⟨⟨x1, x2, y1, y2⟩, bi⟩ := b
  simp only at hx hy hd1 hd2 hC HKL ⊢
  have hf : RX.length ≤ 8192 := Nat.le_trans h.pl.few (by decide)
  obtain ⟨f1, f2, -⟩ := fst_parts h.pl.ox hf x1
  obtain ⟨a1, a2, -⟩ := abv_parts h.pl.ox hf x2
  have hle := fst_abv h.pl.ox hf hx
  have hlg : lgN (RX.length + 1) ≤ 100 := Nat.le_trans (lgM (by have := h.pl.few; omega) (by omega) : lgN (RX.length + 1) ≤ lgN 401) (by decide)
  have hbt := btN_few h.pl.ox hf x1 x2
  have HM := Lib.hid (fun X (hb : Below w.heap.size w X) => bmade_yes (h.keep hb))
  have HRB : Hid (∀ X, Calls Tryz.prog 81 #[.agg #[.int .i64 x1, .int .i64 x2, .int .i64 y1, .int .i64 y2, .int .u32 bi]] X fun e w' => e = .returned (.bool true) ∧ Below X.heap.size X w') := Lib.hid (fun X => by have := rbox_any X ((x1, x2, y1, y2), bi); rw [decide_eq_true (show x1 ≤ x2 ∧ y1 ≤ y2 from ⟨hx, hy⟩)] at this; exact this)
  have HBT := Lib.hid (fun X (hb : Below w.heap.size w X) => rbetw_any (o := 1) ((h.keep hb).ev.cell (i := 1) rfl) (h.keep hb).row h.pl.ox hf x1 x2)
  have HCN := Lib.hid (fun X (hb : Below w.heap.size w X) => FCanon_any X P.fb RX.length P.fd P.fp (h.keep hb).fr (firstP (RX.map kx) x1).1 (aboveP (RX.map kx) x2).1 hle a1 (Nat.le_trans h.pl.few (by decide)))
  have e3 := h.ev.cell (i := 3) rfl
  have e4 := h.ev.cell (i := 4) rfl
  have E4 := Lib.hid e4
  have hBl := h.ev.lt
  unfold tup3 at HCN
  unfold tup4 at HBT
  unfold kns hedT at *
  simp only at hd1 hd2 hC HKL ⊢
  generalize (firstP (RX.map kx) x1).1 = i0 at *
  generalize (aboveP (RX.map kx) x2).1 = j0 at *
  generalize btN kx RX x1 x2 = bt at *
  generalize cnF RX.length i0 j0 = CN at *
  obtain ⟨ks, en⟩ := CN
  simp only at HCN hd1 hd2 hC HKL ⊢
  generalize lgN (RX.length + 1) = lg at *
  have HC := Lib.hid hC
  have HJ0 := Lib.hid hJ0
  have HJb := Lib.hid hJb
  have HS0 := Lib.hid hS0
  have HCO := Lib.hid hcost
  have hbd : bt ≤ 1000 ∧ en ≤ 1000 ∧ ks.length ≤ 200 := ⟨by omega, by omega, by omega⟩
  obtain ⟨hb1, hb3, hb4⟩ := hbd
  generalize RX.length = n at *
  clear hC hJ0 hJb hS0 hcost h hd1 hd2 f2 a2 hlg hbt
  unfold bv
  go_enter Tryz.func47, Tryz.ntmps47
  obtain ⟨W, hW⟩ : ∃ W, W = w.alloc (.cells #[.int .i64 x1, .int .i64 x2, .int .i64 y1, .int .i64 y2, .int .u32 bi] 42) := ⟨_, rfl⟩
  have hX1 : X1 W w.heap.size 0 ((x1, x2, y1, y2), bi) := hW ▸ X1.new w ((x1, x2, y1, y2), bi) _
  have hWB : Below w.heap.size w W := hW ▸ (Below.refl _ w).alloc (Nat.le_refl _) _
  go_upto_region 1 with fail
  rw [← hW]
  clear hW
  have HWB := Lib.hid hWB
  have k0 := hX1.c0
  have k1 := hX1.c1
  have k2 := hX1.c2
  have k3 := hX1.c3
  have k4 := hX1.c4
  simp only [Nat.zero_add] at k0 k1 k2 k3 k4
  have HMW := Lib.hid (HM.out W hWB)
  go_upto_region 3 with (first
    | (go_at_call 40; (with_reducible refine HMW.out.mono ?_); rintro e wM ⟨rfl, hM⟩; subst wM)
    | (go_at_call 81; (with_reducible refine (HRB.out _).mono ?_); rintro e w1 ⟨rfl, hb⟩; have HB1 := Lib.hid (HWB.out.trans (hb.mono HWB.out.size)); have HBW1 := Lib.hid hb; clear hb))
  have q0 := (HBW1.out.cell (World.block_lt_of_cell? _ _ k0)).trans k0
  have q1 := (HBW1.out.cell (World.block_lt_of_cell? _ _ k1)).trans k1
  have p3 := (HB1.out.cell (World.block_lt_of_cell? _ _ e3)).trans e3
  have p4 := (HB1.out.cell (World.block_lt_of_cell? _ _ e4)).trans e4
  clear k0 k1 k2 k3 k4 HMW HWB HBW1 hX1 e3 e4
  have HS1 := Lib.hid HB1.out.size
  have inst : Nonempty (Wd (Bw w1)) := ⟨⟨w1, Below.refl _ _⟩⟩
  have b0 : ∀ z : Wd (Bw w1), z.w.cell? ⟨w.heap.size, 0, none⟩ = _ := fun z => Bw.cell z q0
  have b1 : ∀ z : Wd (Bw w1), z.w.cell? ⟨w.heap.size, 1, none⟩ = _ := fun z => Bw.cell z q1
  have HFC := Lib.hid (fun z : Wd (Bw w1) => HBT.out z.w (HB1.out.trans (z.h.mono HS1.out)))
  refine wp_region_wd (Bw w1) (by kernel_rfl) (by kernel_rfl) ((Below.refl _ w1).drew) ?_
  repeat (first
    | go_big_quiet_step (first | (go_at_call 73; with_reducible exact calls_wd (fun _ _ h hb => h.keep hb) _ (HFC.out _)))
    | quiet_step (first | (go_at_call 73; with_reducible exact calls_wd (fun _ _ h hb => h.keep hb) _ (HFC.out _))))
  refine wpQuiet_nil ?_
  rintro _ ⟨z2, rfl⟩
  have HB3 := Lib.hid (HB1.out.trans (z2.h.mono HS1.out))
  have s3 := Bw.cell z2 p3
  have s4 := Bw.cell z2 p4
  generalize z2.w = w3 at *
  clear b0 b1 HFC inst p3 p4 q0 q1 HS1
  have HC3 := Lib.hid (HCN.out w3 HB3.out)
  go_upto_block 7 with (go_at_call 82; (with_reducible refine HC3.out.mono ?_); rintro e w4 ⟨v, rfl, hr, hb⟩; obtain ⟨-, pv, cv, rfl, -, -, hcv⟩ := row_u (k := .i64) (xs := ints ks) hr; have HB4 := Lib.hid (HB3.out.trans (hb.mono HB3.out.size)); have HR4 := Lib.hid (row_at hr (base' := w.heap.size) (fun k hk => ⟨rfl, Nat.le_trans HB3.out.size (row_lt hr hk).1⟩)); have t4 := (hb.cell (World.block_lt_of_cell? _ _ s4)).trans s4; clear hr hb)
  clear HC3 s3 s4 t4 HM HRB HBT HCN
  obtain ⟨st, est⟩ : ∃ st, st = bt + en := ⟨_, rfl⟩
  have EST := Lib.hid est
  have hst : st ≤ 3000 := by omega
  clear est
  have HSUM := Lib.hid (fun i => sum_cap cost 30000 HCO.out (ks.take i))
  have hcvM := hcv
  go_loopw [13, 52] (fun tv iv wr => ∃ i : Nat, i ≤ ks.length ∧ tv = .int .i64 (st + ((ks.take i).map cost).sum : Nat) ∧ iv = .int .i64 i ∧ Hid (J i wr) ∧ Hid (wr.ownsRow w.heap.size 3 1 (.slice pv (ints ks).length cv) (ints ks).length ((ints ks).map (Value.int .i64))) ∧ Hid (Off S0 w wr)) (fun _ iv _ => ks.length - (intOf iv).toNat)
  case atStart => exact ⟨0, Nat.zero_le _, by have := EST.out; go_num, rfl, Lib.hid (HJ0.out _ HB4.out), Lib.hid (by rw [ints_len]; exact HR4.out), Lib.hid (Off.of HB4.out (Nat.le_refl _))⟩
  case round =>
    obtain ⟨i, hi, rfl, rfl, HJ, HR, HO⟩ := hrel
    by_cases hlt : i < ks.length
    · have hltz : (i : Int) < ks.length := by omega
      obtain ⟨k, hk⟩ : ∃ k, ks[i]? = some k := ⟨_, List.getElem?_eq_getElem hlt⟩
      have hkl := HKL.out k (List.mem_of_getElem? hk)
      obtain ⟨cap, hcap⟩ := HLAT.out (by intro e; rw [e] at hkl; simp at hkl)
      have c4 := HO.out.cell E4.out (by simpa using HS0.out)
      rw [hcap] at c4
      obtain ⟨gn, cpn, e1, -, hcl⟩ := row_cell HR.out (j := i) (u := .int .i64 k) (by rw [List.getElem?_map, ints, List.getElem?_map, hk]; rfl)
      injection e1 with e1 _ ec
      subst ec
      subst e1
      have HK := Lib.hid hk
      have hsum := HSUM.out i
      have hsum2 : i * 30000 ≤ 200 * 30000 := Nat.mul_le_mul_right _ (by omega)
      have hck := HCO.out k
      have HCK := Lib.hid (HC.out i k wr hk HJ.out HO.out.size)
      have HTY := Lib.hid (row_type HR.out (k := gn) rfl)
      have HGN := Lib.hid (row_lt HR.out (k := gn) rfl)
      have HSM : Hid (((ks.take (i + 1)).map cost).sum = ((ks.take i).map cost).sum + cost k) := Lib.hid (by rw [List.take_add_one, hk, List.map_append, List.sum_append]; simp)
      have hlt2 : ((ks.take i).map cost).sum ≤ 6000000 := by
        refine Nat.le_trans hsum (Nat.le_trans (Nat.mul_le_mul_right _ ?_) hsum2)
        rw [List.length_take]; omega
      generalize ((ks.take i).map cost).sum = sm at *
      generalize cost k = ck at *
      generalize P.ls.length = pl at *
      clear hsum hsum2 hk hcap
      go_wp2_with (go_at_fn g; refine HCK.out.mono ?_; rintro e w5 ⟨rfl, hj, S, hS, hm⟩; have HJ5 := Lib.hid hj; have HOS := Lib.hid hS; have HMM := Lib.hid hm; clear hj hS hm)
      go_roundw
      case rel =>
        refine ⟨i + 1, by omega, by rw [HSM.out]; go_num, by go_num, HJ5, Lib.hid ?_, Lib.hid ?_⟩
        · refine row_at HR.out (fun m hm => ?_)
          have : m = gn := by simpa [Value.ownBlock] using hm.symm
          subst this
          refine ⟨HOS.out.block _ HGN.out.2 (fun hin => ?_), HGN.out.1⟩
          rcases HMM.out _ hin with h1 | ⟨-, c, h2⟩
          · have := HGN.out.1; omega
          · obtain ⟨c', h3⟩ := HTY.out
            exact types_ne h2 h3 (by decide) rfl
        · exact HO.out.via HOS.out (fun m hm hin => (HMM.out m hin).elim (fun h => h.2) (fun h => by omega))
      case measure => simp [intOf]; omega
    · have hltz : ¬ (i : Int) < ks.length := by omega
      obtain rfl : i = ks.length := by omega
      have e := EST.out
      rw [List.take_of_length_le (Nat.le_refl _), e] at *
      go_wp2
      go_ret
      refine ⟨?_, HJ.out, HO.out⟩
      go_num
end
end Go.Proofs.YtfcpfffgodljeaaGreat.Bd
/-
  What a tree reports of a box, and counts. No condition but those typed at each theorem.
-/
namespace Go.Proofs.YtfcpfffgodljeaaGreat.Bd
open Go.RowKit Go.Sort

theorem egR : ∀ args w, (callFunc 48 args).run Tryz.prog w = .ok (.enter 48 args) w := enters_of Tryz.func48 (by kernel_rfl) rfl
theorem egC : ∀ args w, (callFunc 51 args).run Tryz.prog w = .ok (.enter 51 args) w := enters_of Tryz.func51 (by kernel_rfl) rfl
/-- while it is reported: the names told so far, the box, the tree -/
structure RpJ (X : World) (P : BdP) (RX LY A : List S3) (b : B5) (nb bb base : Nat) (T : List S3) : Prop where
  box : ∃ v, Bx 43 X nb v ∧ X.ownsRow base 32 1 v (ids T).length ((ids T).map (Value.int .u32))
  bx : X1 X bb 0 b
  tr : BdM X P RX LY A
section
variable {X : World} {P : BdP} {RX LY A : List S3} {b : B5} {nb bb base : Nat}
theorem RpJ.keep {X' : World} {T : List S3} (h : RpJ X P RX LY A b nb bb base T) (g : Below X.heap.size X X') : RpJ X' P RX LY A b nb bb base T := by
  obtain ⟨v, h1, h2⟩ := h.box
  exact ⟨⟨v, h1.keep g, row_keep h2 g⟩, h.bx.keep g h.bx.lt, h.tr.keep g⟩
theorem tld_len {ks : List Nat} (A : List S3) (h : PlI RX LY) (b : B4) (hk : ks.length ≤ 200) : (tld RX LY A b ks).length ≤ 80000 := by
  unfold tld
  rw [List.length_flatMap]
  have h1 := sum_le (fun k => (btw (SPk RX LY k) A b.2.2.1 b.2.2.2).length) (fun _ => 0) 400 ks (fun k _ => by
    have h1 := SPk_len h k
    have h2 := h.few
    have h3 : (btw (SPk RX LY k) A b.2.2.1 b.2.2.2).length ≤ (SPk RX LY k).length := sg_len _ _ _ _
    omega)
  rw [sum_nil, Nat.zero_add] at h1
  have h2 : ks.length * 400 ≤ 200 * 400 := Nat.mul_le_mul_right _ hk
  omega
set_option maxRecDepth 100000 in
set_option maxHeartbeats 1600000 in
theorem rep1_any {T : List S3} (h : RpJ X P RX LY A b nb bb base T) {k : Nat} {p : LsP} (hk : P.ls[k]? = some p) (hT : T.length ≤ 80000) (hbase : base ≤ X.heap.size) (hnb : nb < base) (hbk : ∀ x ∈ blks P, x ≠ nb ∧ x < base) (hbb : bb ≠ nb) (hbb2 : bb < base) :
    Calls Tryz.prog 48 #[.pointer (some ⟨P.lb, k * 8, none⟩), .pointer (some ⟨bb, 0, none⟩), .pointer (some ⟨nb, 0, none⟩)] X fun e X' => e = .returned (.int .i64 (btwN (SPk RX LY k) A b.1.2.2.1 b.1.2.2.2 : Nat)) ∧ RpJ X' P RX LY A b nb bb base (T ++ btw (SPk RX LY k) A b.1.2.2.1 b.1.2.2.2) ∧ ∃ S, Off S X X' ∧ ∀ m ∈ S, (m < base ∧ m ∈ [nb]) ∨ (base ≤ m ∧ ∃ c, X.heap[m]? = some (.cells c 32 (0, 0))) := by
  have hl := h.tr.nod k p hk
  obtain ⟨v, hbx, hrow⟩ := h.box
  have HB := Lib.hid (between_any hl b.1.2.2.1 b.1.2.2.2)
  have hbl : (btw (SPk RX LY k) A b.1.2.2.1 b.1.2.2.2).length ≤ 8192 := Nat.le_trans (sg_len _ _ _ _) hl.few
  have H := Lib.hid h
  have HBX := Lib.hid hbx
  have HROW := Lib.hid hrow
  have HBK := Lib.hid hbk
  have HS := Lib.hid (show base ≤ X.heap.size ∧ nb < base ∧ bb ≠ nb ∧ bb < base from ⟨hbase, hnb, hbb, hbb2⟩)
  have k2 := h.bx.c2
  have k3 := h.bx.c3
  have n0 := hbx.cell
  simp only [Nat.zero_add] at k2 k3
  obtain ⟨⟨x1, x2, y1, y2⟩, bi⟩ := b
  simp only at HB hbl k2 k3 ⊢
  generalize btw (SPk RX LY k) A y1 y2 = U at *
  generalize btwN (SPk RX LY k) A y1 y2 = lk at *
  clear h hbx hrow hl hbase hnb hbk hbb hbb2 hk
  go_enter Tryz.func48, Tryz.ntmps48
  go_wp2_with (first
    | (go_at_call 49; (with_reducible refine HB.out.mono ?_); rintro e w1 ⟨⟨v2, rfl, hr2⟩, hb⟩; obtain ⟨hl2, p2, c2, rfl, hn2, hp2, hc2⟩ := row_u (k := .u32) (xs := ids U) (by rw [← ids_len] at hr2; exact hr2); have HB1 := Lib.hid hb; have HSRC := Lib.hid (NS.src (c := c2) hn2 hp2); have m0 := (hb.cell (World.block_lt_of_cell? _ _ n0)).trans n0; have HR1 := Lib.hid (row_keep HROW.out hb); clear hb hr2 hn2 hp2)
    | (at_builtin; refine wpList_list info_u rfl (by decide) (by decide) under_u _ rfl (.tmp 16) (.tmp 17) rfl base v (ids T).length _ (by simp [Act.eval]) HR1.out p2 (ids U).length c2 ((ids U).map (Value.int .u32)) (by simp [Act.eval]) (by simp) HSRC.out (ints_one _ _) (by simp only [ids_len]; omega) (by have := HS.out.1; have := HB1.out.size; omega) ?_; intro v' w' h1 h2 _; rw [← List.map_append] at h1; obtain ⟨-, p3, c3, rfl, -, -, -⟩ := row_u h1; have b1 := (HBX.out.keep HB1.out).cell; have hbx2 : Bx 43 w' nb v := (h2.block nb (HBX.out.keep HB1.out).lt (fun e => by have := (row_lt HR1.out e.symm).1; have := HS.out.2.1; omega)).trans (HBX.out.keep HB1.out); have c1 := hbx2.cell; have c2' := hbx2.free; have HBX2 := Lib.hid hbx2; have H1 := Lib.hid h1; have HO2 := Lib.hid ((Off.of (S := v.ownBlock.toList) HB1.out (Nat.le_refl _)).grow h2 (fun k e => .inl (by simp [e]))); clear h1 h2 hbx2 b1))
  go_ret
  obtain ⟨s1, s2, s3, s4⟩ := HS.out
  have hset := (Off.refl [nb] w').set ⟨nb, 0, none⟩ (.slice p3 ((ids T).length + (ids U).length) c3) (.inl (by simp))
  have hown : ∀ m, v.ownBlock = some m → base ≤ m ∧ ∃ c, X.heap[m]? = some (.cells c 32 (0, 0)) := fun m hm => ⟨(row_lt HROW.out hm).1, row_type HROW.out hm⟩
  have hoff : Off (nb :: v.ownBlock.toList) X (w'.setCell ⟨nb, 0, none⟩ (.slice p3 ((ids T).length + (ids U).length) c3)) := (HO2.out.mono (T := nb :: v.ownBlock.toList) (fun k _ hk => List.mem_cons_of_mem _ hk)).set _ _ (.inl (by simp))
  have hne : ∀ m, m ∈ (nb :: v.ownBlock.toList) → m = nb ∨ base ≤ m := fun m hm => by
    rcases List.mem_cons.1 hm with rfl | hm
    · exact .inl rfl
    · exact .inr (hown m (by simpa using hm)).1
  refine ⟨rfl, ⟨⟨_, HBX2.out.set _, ?_⟩, H.out.bx.off hoff (fun hm => (hne _ hm).elim s3 (fun h => by omega)), H.out.tr.off hoff (fun k hk hm => (hne _ hm).elim (HBK.out k hk).1 (fun h => by have := (HBK.out k hk).2; omega))⟩, _, hoff, fun m hm => ?_⟩
  · have h3 := row_off H1.out hset (by simp; exact s2)
    rw [← ids_app] at h3
    rw [show (ids (T ++ U)).length = (ids T).length + (ids U).length by rw [ids_app, List.length_append]]
    exact h3
  · rcases List.mem_cons.1 hm with rfl | hm
    · exact .inl ⟨s2, by simp⟩
    · exact .inr (hown m (by simpa using hm))
/-- while it is counted: how many so far, the box, the tree -/
structure CtJ (X : World) (P : BdP) (RX LY A : List S3) (b : B5) (nb bb c : Nat) : Prop where
  box : Bx 3 X nb (.int .i64 c)
  bx : X1 X bb 0 b
  tr : BdM X P RX LY A
theorem CtJ.keep {X' : World} {c : Nat} (h : CtJ X P RX LY A b nb bb c) (g : Below X.heap.size X X') : CtJ X' P RX LY A b nb bb c :=
  ⟨h.box.keep g, h.bx.keep g h.bx.lt, h.tr.keep g⟩
set_option maxRecDepth 100000 in
set_option maxHeartbeats 1600000 in
theorem cnt1_any {c : Nat} (h : CtJ X P RX LY A b nb bb c) {k : Nat} {p : LsP} (hk : P.ls[k]? = some p) (hc : c ≤ 80000) (hy : b.1.2.2.1 ≤ b.1.2.2.2) (hbk : ∀ x ∈ blks P, x ≠ nb) (hbb : bb ≠ nb) :
    Calls Tryz.prog 51 #[.pointer (some ⟨P.lb, k * 8, none⟩), .pointer (some ⟨bb, 0, none⟩), .pointer (some ⟨nb, 0, none⟩)] X fun e X' => e = .returned (.int .i64 (cnlN (SPk RX LY k) b.1.2.2.1 b.1.2.2.2 : Nat)) ∧ CtJ X' P RX LY A b nb bb (c + (btw (SPk RX LY k) A b.1.2.2.1 b.1.2.2.2).length) ∧ Off [nb] X X' := by
  have hl := h.tr.nod k p hk
  have HB := Lib.hid (count_any hl hy)
  have hbl : (btw (SPk RX LY k) A b.1.2.2.1 b.1.2.2.2).length ≤ 8192 := Nat.le_trans (sg_len _ _ _ _) hl.few
  have H := Lib.hid h
  have HBK := Lib.hid hbk
  have HS := Lib.hid hbb
  have k2 := h.bx.c2
  have k3 := h.bx.c3
  have n0 := h.box.cell
  simp only [Nat.zero_add] at k2 k3
  obtain ⟨⟨x1, x2, y1, y2⟩, bi⟩ := b
  simp only at HB hbl k2 k3 ⊢
  generalize (btw (SPk RX LY k) A y1 y2).length = U at *
  generalize cnlN (SPk RX LY k) y1 y2 = lk at *
  clear h hl hbk hbb hk hy
  go_enter Tryz.func51, Tryz.ntmps51
  go_wp2_with (go_at_call 52; (with_reducible refine HB.out.mono ?_); rintro e w1 ⟨rfl, hb⟩; have HB1 := Lib.hid hb; have HX1 := Lib.hid (H.out.box.keep hb); have m0 := HX1.out.cell; have m1 := HX1.out.free; clear hb)
  go_ret
  have hoff : Off [nb] X (w1.setCell ⟨nb, 0, none⟩ (.int .i64 (c + U))) := (Off.of (S := [nb]) HB1.out (Nat.le_refl _)).set _ _ (.inl (by simp))
  exact ⟨rfl, ⟨HX1.out.set _, H.out.bx.off hoff (by simp; exact HS.out), H.out.tr.off hoff (fun k hk => by have := HBK.out k hk; simpa using this)⟩, hoff⟩
end
end Go.Proofs.YtfcpfffgodljeaaGreat.Bd
/-
  Report and Count. No condition but those typed at each theorem.
-/
namespace Go.Proofs.YtfcpfffgodljeaaGreat.Bd
open Go.RowKit Go.Sort

section
variable {W : World} {P : BdP} {RX LY A : List S3} {b : B5} {nb bb : Nat}
theorem lg_small2 (h : PlI RX LY) : lgN (RX.length + 1) ≤ 9 := Nat.le_trans (lgM (by have := h.few; omega) (by omega) : lgN (RX.length + 1) ≤ lgN 401) (by decide)
theorem node_at (h : BdM W P RX LY A) (hx : b.1.1 ≤ b.1.2.1) {i k : Nat} (hk : (kns RX b.1)[i]? = some k) : ∃ p, P.ls[k]? = some p := by
  have := kns_lt h.pl hx (List.mem_of_getElem? hk)
  rw [← h.lsl] at this
  exact ⟨_, List.getElem?_eq_getElem this⟩
theorem tld_step (ks : List Nat) {i k : Nat} (hk : ks[i]? = some k) (q : B4) : tld RX LY A q (ks.take (i + 1)) = tld RX LY A q (ks.take i) ++ btw (SPk RX LY k) A q.2.2.1 q.2.2.2 := by
  unfold tld
  rw [List.take_add_one, hk, List.flatMap_append]
  simp
theorem eachR_any (h : BdM W P RX LY A) (hx : b.1.1 ≤ b.1.2.1) (hy : b.1.2.2.1 ≤ b.1.2.2.2) (hnb : Bx 43 W nb (.slice none 0 0)) (hbx : X1 W bb 0 b) (hbk : ∀ x ∈ blks P, x ≠ nb) (hbb : bb ≠ nb) :
    Calls Tryz.prog 47 #[.pointer (some ⟨P.B, 0, none⟩), bv b, .func (.func 48) #[] #[.pointer (some ⟨bb, 0, none⟩), .pointer (some ⟨nb, 0, none⟩)]] W fun e w' => e = .returned (.int .i64 (hedT RX b.1 + repT RX LY A b.1 (kns RX b.1) : Nat)) ∧ RpJ w' P RX LY A b nb bb W.heap.size (tld RX LY A b.1 (kns RX b.1)) ∧ Off [nb] W w' := by
  have hB : P.B ∉ [nb] := by simp; exact hbk _ (by simp [blks])
  have hcost : ∀ k, btwN (SPk RX LY k) A b.1.2.2.1 b.1.2.2.2 ≤ 30000 := fun k => by
    have h1 := (btwN_few h.pl A k b.1.2.2.1 b.1.2.2.2).2
    have h2 : (btw (SPk RX LY k) A b.1.2.2.1 b.1.2.2.2).length ≤ (SPk RX LY k).length := sg_len _ _ _ _
    have h3 := SPk_len h.pl k
    have h4 := h.pl.few
    have h5 := lg_small2 h.pl
    omega
  have hkl := (head_few h.pl hx).2
  have hlg := lg_small2 h.pl
  have := each_any h b hx hy 48 #[.pointer (some ⟨bb, 0, none⟩), .pointer (some ⟨nb, 0, none⟩)] egR (fun i Y => RpJ Y P RX LY A b nb bb W.heap.size (tld RX LY A b.1 ((kns RX b.1).take i))) (fun k => btwN (SPk RX LY k) A b.1.2.2.1 b.1.2.2.2) [nb]
    (fun X hX => ⟨⟨_, hnb.keep hX, World.ownsRow_nil ..⟩, hbx.keep hX hbx.lt, h.keep hX⟩) (fun i X X' hJ hb => hJ.keep hb) hB hcost
    (fun i k X hk hJ hsz => by
      obtain ⟨p, hp⟩ := node_at h hx hk
      refine (rep1_any hJ hp (tld_len A h.pl b.1 (by rw [List.length_take]; omega)) hsz hnb.lt (fun x hx => ⟨hbk x hx, h.lies x hx⟩) hbb hbx.lt).mono ?_
      rintro e X' ⟨h1, h2, h3⟩
      refine ⟨h1, ?_, h3⟩
      rw [tld_step _ hk]
      exact h2)
  refine this.mono ?_
  rintro e w' ⟨h1, h2, h3⟩
  refine ⟨h1, ?_, h3⟩
  rw [List.take_of_length_le (Nat.le_refl _)] at h2
  exact h2
theorem eachC_any (h : BdM W P RX LY A) (hx : b.1.1 ≤ b.1.2.1) (hy : b.1.2.2.1 ≤ b.1.2.2.2) (hnb : Bx 3 W nb (.int .i64 (0 : Nat))) (hbx : X1 W bb 0 b) (hbk : ∀ x ∈ blks P, x ≠ nb) (hbb : bb ≠ nb) :
    Calls Tryz.prog 47 #[.pointer (some ⟨P.B, 0, none⟩), bv b, .func (.func 51) #[] #[.pointer (some ⟨bb, 0, none⟩), .pointer (some ⟨nb, 0, none⟩)]] W fun e w' => e = .returned (.int .i64 (hedT RX b.1 + cntT RX LY b.1 (kns RX b.1) : Nat)) ∧ CtJ w' P RX LY A b nb bb ((kns RX b.1).map (fun k => (btw (SPk RX LY k) A b.1.2.2.1 b.1.2.2.2).length)).sum ∧ Off [nb] W w' := by
  have hB : P.B ∉ [nb] := by simp; exact hbk _ (by simp [blks])
  have hcost : ∀ k, cnlN (SPk RX LY k) b.1.2.2.1 b.1.2.2.2 ≤ 30000 := fun k => by
    have h1 := cnlN_few h.pl k b.1.2.2.1 b.1.2.2.2
    have h5 := lg_small2 h.pl
    omega
  have hkl := (head_few h.pl hx).2
  have hlg := lg_small2 h.pl
  have hcl : ∀ k, (btw (SPk RX LY k) A b.1.2.2.1 b.1.2.2.2).length ≤ 400 := fun k => Nat.le_trans (sg_len _ _ _ _) (Nat.le_trans (SPk_len h.pl k) h.pl.few)
  have := each_any h b hx hy 51 #[.pointer (some ⟨bb, 0, none⟩), .pointer (some ⟨nb, 0, none⟩)] egC (fun i Y => CtJ Y P RX LY A b nb bb (((kns RX b.1).take i).map (fun k => (btw (SPk RX LY k) A b.1.2.2.1 b.1.2.2.2).length)).sum) (fun k => cnlN (SPk RX LY k) b.1.2.2.1 b.1.2.2.2) [nb]
    (fun X hX => ⟨hnb.keep hX, hbx.keep hX hbx.lt, h.keep hX⟩) (fun i X X' hJ hb => hJ.keep hb) hB hcost
    (fun i k X hk hJ hsz => by
      obtain ⟨p, hp⟩ := node_at h hx hk
      have hs := sum_cap (fun k => (btw (SPk RX LY k) A b.1.2.2.1 b.1.2.2.2).length) 400 hcl ((kns RX b.1).take i)
      have hs2 : ((kns RX b.1).take i).length * 400 ≤ 18 * 400 := Nat.mul_le_mul_right _ (by rw [List.length_take]; omega)
      refine (cnt1_any hJ hp (by omega) hy hbk hbb).mono ?_
      rintro e X' ⟨h1, h2, h3⟩
      refine ⟨h1, ?_, _, h3, fun m hm => .inl ⟨by rw [List.mem_singleton.1 hm]; exact hnb.lt, hm⟩⟩
      rw [List.take_add_one, hk, List.map_append, List.sum_append]
      simpa using h2)
  refine this.mono ?_
  rintro e w' ⟨h1, h2, h3⟩
  refine ⟨h1, ?_, h3⟩
  rw [List.take_of_length_le (Nat.le_refl _)] at h2
  exact h2
/-- whether there is anything to hand down -/
theorem each_bad (h : BdM W P RX LY A) (b : B5) (hb : ¬ (b.1.1 ≤ b.1.2.1 ∧ b.1.2.2.1 ≤ b.1.2.2.2)) (fv : Value) :
    Calls Tryz.prog 47 #[.pointer (some ⟨P.B, 0, none⟩), bv b, fv] W fun e w' => e = .returned (.int .i64 0) ∧ Below W.heap.size W w' := by
  have HM := Lib.hid (fun X (hb : Below W.heap.size W X) => bmade_yes (h.keep hb))
  have HRB := Lib.hid (fun X => by have := rbox_any X b; rw [decide_eq_false hb] at this; exact this)
  obtain ⟨⟨x1, x2, y1, y2⟩, bi⟩ := b
  unfold bv at HRB ⊢
  simp only at HRB ⊢
  clear h hb
  go_enter Tryz.func47, Tryz.ntmps47
  obtain ⟨Y, hY⟩ : ∃ Y, Y = W.alloc (.cells #[.int .i64 x1, .int .i64 x2, .int .i64 y1, .int .i64 y2, .int .u32 bi] 42) := ⟨_, rfl⟩
  have hX1 : X1 Y W.heap.size 0 ((x1, x2, y1, y2), bi) := hY ▸ X1.new W ((x1, x2, y1, y2), bi) _
  have hYB : Below W.heap.size W Y := hY ▸ (Below.refl _ W).alloc (Nat.le_refl _) _
  go_upto_region 1 with fail
  rw [← hY]
  clear hY
  have HYB := Lib.hid hYB
  have k0 := hX1.c0
  have k1 := hX1.c1
  have k2 := hX1.c2
  have k3 := hX1.c3
  have k4 := hX1.c4
  simp only [Nat.zero_add] at k0 k1 k2 k3 k4
  have HMW := Lib.hid (HM.out Y hYB)
  clear hX1 hYB
  go_wp2_with (first
    | (go_at_call 40; (with_reducible refine HMW.out.mono ?_); rintro e wM ⟨rfl, hM⟩; subst wM)
    | (go_at_call 81; (with_reducible refine (HRB.out _).mono ?_); rintro e w1 ⟨rfl, hb⟩; have HB1 := Lib.hid (HYB.out.trans (hb.mono HYB.out.size)); clear hb))
  go_ret
  exact ⟨rfl, HB1.out⟩
theorem each_nil (w : World) (b : B5) (fv : Value) :
    Calls Tryz.prog 47 #[.pointer none, bv b, fv] w fun e w' => e = .returned (.int .i64 0) ∧ Below w.heap.size w w' := by
  have HM := Lib.hid (fun X => bmade_nil X)
  unfold bv
  go_enter Tryz.func47, Tryz.ntmps47
  go_wp2_with (go_at_call 40; (with_reducible refine (HM.out _).mono ?_); rintro e wM ⟨rfl, hM⟩; subst wM)
  go_ret
  exact ⟨rfl, (Below.refl _ w).alloc (Nat.le_refl _) _⟩
set_option maxRecDepth 100000 in
set_option maxHeartbeats 1600000 in
theorem report_of (w : World) (v : Value) (b : B5) (T : List S3) (t : Nat) (hT : T.length ≤ 8192)
    (hE : ∀ W, Below w.heap.size w W → w.heap.size + 1 < W.heap.size → Bx 43 W (w.heap.size + 1) (.slice none 0 0) → X1 W w.heap.size 0 b →
      Calls Tryz.prog 47 #[v, bv b, .func (.func 48) #[] #[.pointer (some ⟨w.heap.size, 0, none⟩), .pointer (some ⟨w.heap.size + 1, 0, none⟩)]] W fun e w' => e = .returned (.int .i64 t) ∧ (∃ u, Bx 43 w' (w.heap.size + 1) u ∧ w'.ownsRow W.heap.size 32 1 u (ids T).length ((ids T).map (Value.int .u32))) ∧ Off [w.heap.size + 1] W w') :
    Calls Tryz.prog 24 #[v, bv b] w fun e w' => (∃ r, e = .returned (.tuple #[r, .int .i64 t]) ∧ RL w' r (nsort (ids T))) ∧ Below w.heap.size w w' := by
  have hmf : ∀ (fn : Fn) (first cap : Array Value) (w : World), (Instr.makeFunc fn first cap).run Tryz.prog w = .ok (.func fn first cap) w := fun _ _ _ _ => rfl
  obtain ⟨W, hW⟩ : ∃ W, W = (w.alloc (.cells (bvs b).toArray 42)).alloc (.cells #[.slice none 0 0] 43) := ⟨_, rfl⟩
  have hX1 : X1 W w.heap.size 0 b := hW ▸ (X1.new w b _).keep ((Below.refl _ _).alloc (Nat.le_refl _) _) (by simp)
  have hWB : Below w.heap.size w W := hW ▸ ((Below.refl _ w).alloc (Nat.le_refl _) _).alloc (by simp) _
  have hWs : w.heap.size + 1 < W.heap.size := by rw [hW]; simp
  have hnb : Bx 43 W (w.heap.size + 1) (.slice none 0 0) := by
    have := Bx.new (w.alloc (.cells (bvs b).toArray 42)) (.slice none 0 0) 43
    rw [World.size_alloc] at this
    exact hW ▸ this
  have HE := Lib.hid (hE W hWB hWs hnb hX1)
  have k0 := hX1.c0
  have k1 := hX1.c1
  have k2 := hX1.c2
  have k3 := hX1.c3
  have k4 := hX1.c4
  have HWB := Lib.hid hWB
  have HWS := Lib.hid hWs
  have HTL := Lib.hid hT
  simp only [Nat.zero_add] at k0 k1 k2 k3 k4
  obtain ⟨⟨x1, x2, y1, y2⟩, bi⟩ := b
  unfold bv at HE ⊢
  unfold bvs at hW
  simp only at HE hW k0 k1 k2 k3 k4 ⊢
  clear hE hX1 hWB hWs hnb hT
  go_enter Tryz.func24, Tryz.ntmps24
  go_upto_region 2 with fail
  rw [← hW]
  clear hW
  go_wp2_with (first
    | (go_at_call 47; (with_reducible refine HE.out.mono ?_); rintro e w1 ⟨rfl, ⟨u, hu, hr⟩, ho⟩; have HO := Lib.hid ho; have m0 := hu.cell; have HU := Lib.hid hu; have HR := Lib.hid hr; have HC := Lib.hid (told_any w1 W.heap.size u (ids T) hr (by rw [ids_len]; exact HTL.out)); clear hu hr ho)
    | (go_at_call 50; (with_reducible refine HC.out.mono ?_); rintro e w2 ⟨rfl, ht2, ho⟩; have HO2 := Lib.hid ho; have HT2 := Lib.hid ht2; have m1 := ho.cell m0 (by simp only [Option.mem_toList]; intro hc; have := (row_lt HR.out hc).1; have := HWS.out; omega); clear ho ht2))
  go_ret2
  obtain ⟨g1, p, c, rfl, g2, g3, g4⟩ := HT2.out.u
  have hb1 := HWB.out.trans (HO.out.below HWB.out.size (by simp))
  refine ⟨⟨_, rfl, p, c, by rw [g1]; rfl, g2, g3, by rw [g1]; exact g4⟩, hb1.trans (HO2.out.below hb1.size (fun k hk => ?_))⟩
  have := (row_lt HR.out (by simpa using hk)).1
  have := HWB.out.size
  omega
theorem hsS_bad {A : List S3} {q : B4} (h : ¬ (q.1 ≤ q.2.1 ∧ q.2.2.1 ≤ q.2.2.2)) : hsS A q = [] := by
  have : A.filter (hsB q) = [] := by
    rw [List.filter_eq_nil_iff]
    intro s _ hs
    unfold hsB at hs
    simp at hs
    omega
  unfold hsS hsL
  rw [this]
  rfl
/-- Report of a tree -/
theorem report_any {w : World} (h : BdM w P RX LY A) (hA : A.Nodup) (hs : ∀ s ∈ A, s ∈ RX) (b : B5) :
    Calls Tryz.prog 24 #[.pointer (some ⟨P.B, 0, none⟩), bv b] w fun e w' => (∃ r, ∃ t : Nat, e = .returned (.tuple #[r, .int .i64 t]) ∧ RL w' r (hsS A b.1) ∧ (hsS A b.1).length ≤ t ∧ t ≤ (hsS A b.1).length + repN RX.length) ∧ Below w.heap.size w w' := by
  by_cases hg : b.1.1 ≤ b.1.2.1 ∧ b.1.2.2.1 ≤ b.1.2.2.2
  · obtain ⟨r1, r2⟩ := rep_few h.pl hA hs hg.1 hg.2
    obtain ⟨n1, n2⟩ := tld_names h.pl hA hs hg.2
    have hal : A.length ≤ 400 := Nat.le_trans (List.Nodup.length_le_of_subset hA hs) h.pl.few
    have hsl := hsS_len A b.1
    refine (report_of w _ b (tld RX LY A b.1 (kns RX b.1)) (hedT RX b.1 + repT RX LY A b.1 (kns RX b.1)) (by omega) (fun W hb hsz hnb hbx => ?_)).mono ?_
    · refine (eachR_any (h.keep hb) hg.1 hg.2 hnb hbx (fun x hx => by have := h.lies x hx; omega) (by omega)).mono ?_
      rintro e w' ⟨h1, h2, h3⟩
      exact ⟨h1, h2.box, h3⟩
    · rintro e w' ⟨⟨r, rfl, hr⟩, hb⟩
      rw [n1] at hr
      exact ⟨⟨r, _, rfl, hr, r1, r2⟩, hb⟩
  · refine (report_of w _ b [] 0 (by simp) (fun W hb hsz hnb hbx => ?_)).mono ?_
    · refine (each_bad (h.keep hb) b hg _).mono ?_
      rintro e w' ⟨h1, h2⟩
      exact ⟨h1, ⟨_, hnb.keep h2, World.ownsRow_nil ..⟩, Off.of h2 (Nat.le_refl _)⟩
    · rintro e w' ⟨⟨r, rfl, hr⟩, hb⟩
      rw [hsS_bad hg]
      exact ⟨⟨r, 0, rfl, hr, by simp, by simp⟩, hb⟩
theorem report_nil (w : World) (b : B5) :
    Calls Tryz.prog 24 #[.pointer none, bv b] w fun e w' => (∃ r, ∃ t : Nat, e = .returned (.tuple #[r, .int .i64 t]) ∧ RL w' r (hsS [] b.1) ∧ (hsS [] b.1).length ≤ t ∧ t ≤ (hsS [] b.1).length + repN 0) ∧ Below w.heap.size w w' := by
  refine (report_of w _ b [] 0 (by simp) (fun W hb hsz hnb hbx => ?_)).mono ?_
  · refine (each_nil W b _).mono ?_
    rintro e w' ⟨h1, h2⟩
    exact ⟨h1, ⟨_, hnb.keep h2, World.ownsRow_nil ..⟩, Off.of h2 (Nat.le_refl _)⟩
  · rintro e w' ⟨⟨r, rfl, hr⟩, hb⟩
    exact ⟨⟨r, 0, rfl, hr, by simp [hsS_nil], by simp⟩, hb⟩
set_option maxRecDepth 100000 in
set_option maxHeartbeats 1600000 in
theorem count_of (w : World) (v : Value) (b : B5) (c t : Nat)
    (hE : ∀ W, Below w.heap.size w W → w.heap.size + 1 < W.heap.size → Bx 3 W (w.heap.size + 1) (.int .i64 (0 : Nat)) → X1 W w.heap.size 0 b →
      Calls Tryz.prog 47 #[v, bv b, .func (.func 51) #[] #[.pointer (some ⟨w.heap.size, 0, none⟩), .pointer (some ⟨w.heap.size + 1, 0, none⟩)]] W fun e w' => e = .returned (.int .i64 t) ∧ Bx 3 w' (w.heap.size + 1) (.int .i64 c) ∧ Off [w.heap.size + 1] W w') :
    Calls Tryz.prog 25 #[v, bv b] w fun e w' => e = .returned (.tuple #[.int .i64 c, .int .i64 t]) ∧ Below w.heap.size w w' := by
  have hmf : ∀ (fn : Fn) (first cap : Array Value) (w : World), (Instr.makeFunc fn first cap).run Tryz.prog w = .ok (.func fn first cap) w := fun _ _ _ _ => rfl
  obtain ⟨W, hW⟩ : ∃ W, W = (w.alloc (.cells (bvs b).toArray 42)).alloc (.cells #[.int .i64 0] 3) := ⟨_, rfl⟩
  have hX1 : X1 W w.heap.size 0 b := hW ▸ (X1.new w b _).keep ((Below.refl _ _).alloc (Nat.le_refl _) _) (by simp)
  have hWB : Below w.heap.size w W := hW ▸ ((Below.refl _ w).alloc (Nat.le_refl _) _).alloc (by simp) _
  have hWs : w.heap.size + 1 < W.heap.size := by rw [hW]; simp
  have hnb : Bx 3 W (w.heap.size + 1) (.int .i64 (0 : Nat)) := by
    have := Bx.new (w.alloc (.cells (bvs b).toArray 42)) (.int .i64 0) 3
    rw [World.size_alloc] at this
    exact hW ▸ this
  have HE := Lib.hid (hE W hWB hWs hnb hX1)
  have k0 := hX1.c0
  have k1 := hX1.c1
  have k2 := hX1.c2
  have k3 := hX1.c3
  have k4 := hX1.c4
  have HWB := Lib.hid hWB
  have HWS := Lib.hid hWs
  simp only [Nat.zero_add] at k0 k1 k2 k3 k4
  obtain ⟨⟨x1, x2, y1, y2⟩, bi⟩ := b
  unfold bv at HE ⊢
  unfold bvs at hW
  simp only at HE hW k0 k1 k2 k3 k4 ⊢
  clear hE hX1 hWB hWs hnb
  go_enter Tryz.func25, Tryz.ntmps25
  go_upto_region 2 with fail
  rw [← hW]
  clear hW
  go_wp2_with (go_at_call 47; (with_reducible refine HE.out.mono ?_); rintro e w1 ⟨rfl, hu, ho⟩; have HO := Lib.hid ho; have m0 := hu.cell; clear hu ho)
  go_ret2
  exact ⟨rfl, HWB.out.trans (HO.out.below HWB.out.size (by simp))⟩
theorem countT_any {w : World} (h : BdM w P RX LY A) (hA : A.Nodup) (hs : ∀ s ∈ A, s ∈ RX) (b : B5) :
    Calls Tryz.prog 25 #[.pointer (some ⟨P.B, 0, none⟩), bv b] w fun e w' => (∃ t : Nat, e = .returned (.tuple #[.int .i64 (hsS A b.1).length, .int .i64 t]) ∧ t ≤ cntN RX.length) ∧ Below w.heap.size w w' := by
  by_cases hg : b.1.1 ≤ b.1.2.1 ∧ b.1.2.2.1 ≤ b.1.2.2.2
  · have r2 := cnt_few h.pl hg.1
    have n1 := cnl_all h.pl hA hs hg.2
    refine (count_of w _ b (hsS A b.1).length (hedT RX b.1 + cntT RX LY b.1 (kns RX b.1)) (fun W hb hsz hnb hbx => ?_)).mono ?_
    · refine (eachC_any (h.keep hb) hg.1 hg.2 hnb hbx (fun x hx => by have := h.lies x hx; omega) (by omega)).mono ?_
      rintro e w' ⟨h1, h2, h3⟩
      refine ⟨h1, ?_, h3⟩
      rw [← n1]
      exact h2.box
    · rintro e w' ⟨rfl, hb⟩
      exact ⟨⟨_, rfl, r2⟩, hb⟩
  · rw [hsS_bad hg]
    refine (count_of w _ b 0 0 (fun W hb hsz hnb hbx => ?_)).mono ?_
    · refine (each_bad (h.keep hb) b hg _).mono ?_
      rintro e w' ⟨h1, h2⟩
      exact ⟨h1, hnb.keep h2, Off.of h2 (Nat.le_refl _)⟩
    · rintro e w' ⟨rfl, hb⟩
      exact ⟨⟨0, rfl, Nat.zero_le _⟩, hb⟩
theorem count_nil (w : World) (b : B5) :
    Calls Tryz.prog 25 #[.pointer none, bv b] w fun e w' => (∃ t : Nat, e = .returned (.tuple #[.int .i64 (hsS [] b.1).length, .int .i64 t]) ∧ t ≤ cntN 0) ∧ Below w.heap.size w w' := by
  refine (count_of w _ b 0 0 (fun W hb hsz hnb hbx => ?_)).mono ?_
  · refine (each_nil W b _).mono ?_
    rintro e w' ⟨h1, h2⟩
    exact ⟨h1, hnb.keep h2, Off.of h2 (Nat.le_refl _)⟩
  · rintro e w' ⟨rfl, hb⟩
    exact ⟨⟨0, rfl, Nat.zero_le _⟩, hb⟩
set_option maxRecDepth 100000 in
theorem len_any {w : World} (h : BdM w P RX LY A) : Calls Tryz.prog 18 #[.pointer (some ⟨P.B, 0, none⟩)] w fun e w' => e = .returned (.int .i64 A.length) ∧ Below w.heap.size w w' := by
  have HM := Lib.hid (bmade_yes h)
  have c5 := h.ev.cell (i := 5) rfl
  clear h
  go_enter Tryz.func18, Tryz.ntmps18
  go_wp2_with (go_at_call 40; (with_reducible refine HM.out.mono ?_); rintro e wM ⟨rfl, hM⟩; subst wM)
  go_ret
  exact ⟨rfl, Below.refl _ _⟩
theorem len_nil (w : World) : Calls Tryz.prog 18 #[.pointer none] w fun e w' => e = .returned (.int .i64 0) ∧ Below w.heap.size w w' := by
  have HM := Lib.hid (bmade_nil w)
  go_enter Tryz.func18, Tryz.ntmps18
  go_wp2_with (go_at_call 40; (with_reducible refine HM.out.mono ?_); rintro e wM ⟨rfl, hM⟩; subst wM)
  go_ret
  exact ⟨rfl, Below.refl _ _⟩
set_option maxRecDepth 100000 in
theorem weight_any {w : World} (h : BdM w P RX LY A) : Calls Tryz.prog 19 #[.pointer (some ⟨P.B, 0, none⟩)] w fun e w' => e = .returned (.int .i64 (wts RX A : Nat)) ∧ Below w.heap.size w w' := by
  have HM := Lib.hid (bmade_yes h)
  have c5 := h.ev.cell (i := 6) rfl
  clear h
  go_enter Tryz.func19, Tryz.ntmps19
  go_wp2_with (go_at_call 40; (with_reducible refine HM.out.mono ?_); rintro e wM ⟨rfl, hM⟩; subst wM)
  go_ret
  exact ⟨rfl, Below.refl _ _⟩
theorem weight_nil (w : World) : Calls Tryz.prog 19 #[.pointer none] w fun e w' => e = .returned (.int .i64 0) ∧ Below w.heap.size w w' := by
  have HM := Lib.hid (bmade_nil w)
  go_enter Tryz.func19, Tryz.ntmps19
  go_wp2_with (go_at_call 40; (with_reducible refine HM.out.mono ?_); rintro e wM ⟨rfl, hM⟩; subst wM)
  go_ret
  exact ⟨rfl, Below.refl _ _⟩
end
end Go.Proofs.YtfcpfffgodljeaaGreat.Bd
