/-
  A tree of points with bridges, plain: who stands at a node, where a place of its list lies in its kids' lists, which nodes tell of a box, how many are entered. No condition but those typed at each theorem.
-/
import Derived.Test.YtajpboclicnopaaGreatMBb
import Derived.Test.YtajpboclicnopaaGreatNo2
import Derived.Test.YtajpboclicnopaaGreatMN
import Derived.Test.YtajpboclicnopaaGreatBd
import Derived.Test.YtajpboclicnopaaGreatMBa
import Derived.Test.YtajpboclicnopaaGreatLt
namespace Go.Proofs.YtajpboclicnopaaGreat.Ca
open Go.RowKit Bd
/-- the points of the leaves from f on, ahead of e, by Y -/
def SR (RX LY : List S3) (f e : Nat) : List S3 := LY.filter (fun s => decide (f ≤ RX.idxOf s) && decide (RX.idxOf s < e))
section
variable {RX LY : List S3} {f m e : Nat}
theorem SR_mem {s : S3} : s ∈ SR RX LY f e ↔ s ∈ LY ∧ f ≤ RX.idxOf s ∧ RX.idxOf s < e := by
  unfold SR
  rw [List.mem_filter]
  simp
theorem SR_ord (h : PlI RX LY) (f e : Nat) : Ord ky (SR RX LY f e) := h.oy.sub List.filter_sublist
theorem SR_len (h : PlI RX LY) (f e : Nat) : (SR RX LY f e).length ≤ RX.length := by
  rw [h.pm.length_eq]; exact List.length_filter_le _ _
theorem SR_few (h : PlI RX LY) (f e : Nat) : (SR RX LY f e).length ≤ 400 := Nat.le_trans (SR_len h f e) h.few
theorem SR_all (h : PlI RX LY) : SR RX LY 0 RX.length = LY := by
  unfold SR
  rw [List.filter_eq_self]
  intro s hs
  have := (h.at_idx (h.pm.mem_iff.2 hs)).2
  simp [this]
theorem SR_cut (h1 : f ≤ m) (h2 : m ≤ e) : (SR RX LY f e).filter (fun s => decide (RX.idxOf s < m)) = SR RX LY f m ∧ (SR RX LY f e).filter (fun s => !decide (RX.idxOf s < m)) = SR RX LY m e := by
  unfold SR
  rw [List.filter_filter, List.filter_filter]
  constructor
  · refine List.filter_congr (fun s _ => ?_)
    by_cases g1 : RX.idxOf s < m
    · by_cases g2 : f ≤ RX.idxOf s
      · simp [g1, g2, show RX.idxOf s < e by omega]
      · simp [g2]
    · simp [g1]
  · refine List.filter_congr (fun s _ => ?_)
    by_cases g1 : RX.idxOf s < m
    · simp [g1, show ¬ m ≤ RX.idxOf s by omega]
    · simp [g1, show m ≤ RX.idxOf s by omega, show f ≤ RX.idxOf s by omega]
theorem SR_perm (h1 : f ≤ m) (h2 : m ≤ e) : (SR RX LY f e).Perm (SR RX LY f m ++ SR RX LY m e) := by
  have := filter_parts (fun s => !decide (RX.idxOf s < m)) (SR RX LY f e)
  simp only [Bool.not_not] at this
  rw [(SR_cut h1 h2).1, (SR_cut h1 h2).2] at this
  exact this
end
/-- if something holds of one, it holds of all ahead of it -/
def Dn (P : S3 → Bool) (L : List S3) : Prop := L.Pairwise (fun a b => P b = true → P a = true)
theorem Dn.sub {P : S3 → Bool} {L M : List S3} (h : Dn P L) (hs : M.Sublist L) : Dn P M := h.sublist hs
/-- of how many it holds -/
def pre (P : S3 → Bool) (L : List S3) : Nat := (L.filter P).length
theorem pre_le (P : S3 → Bool) (L : List S3) : pre P L ≤ L.length := List.length_filter_le _ _
theorem pre_split {P : S3 → Bool} : ∀ {L : List S3}, Dn P L → L.take (pre P L) = L.filter P ∧ L.drop (pre P L) = L.filter (fun s => !P s)
  | [], _ => by simp [pre]
  | a :: L, h => by
    have hc := List.pairwise_cons.1 h
    cases ha : P a with
    | true =>
      obtain ⟨i1, i2⟩ := pre_split hc.2
      have e : pre P (a :: L) = pre P L + 1 := by unfold pre; rw [List.filter_cons]; simp [ha]
      rw [e, List.take_succ_cons, List.drop_succ_cons, i1, i2, List.filter_cons, List.filter_cons]
      simp [ha]
    | false =>
      have hn : ∀ b ∈ L, P b = false := fun b hb => by
        cases hpb : P b with
        | false => rfl
        | true => rw [hc.1 b hb hpb] at ha; cases ha
      have e1 : (a :: L).filter P = [] := by
        rw [List.filter_eq_nil_iff]
        intro s hs
        rcases List.mem_cons.1 hs with rfl | hs
        · simp [ha]
        · simp [hn s hs]
      have e2 : (a :: L).filter (fun s => !P s) = a :: L := by
        rw [List.filter_eq_self]
        intro s hs
        rcases List.mem_cons.1 hs with rfl | hs
        · simp [ha]
        · simp [hn s hs]
      have e : pre P (a :: L) = 0 := by unfold pre; rw [e1]; rfl
      rw [e, e1, e2]
      simp
/-- a place ahead of which it holds, and from which on it doesn't -/
theorem pre_at {P : S3 → Bool} : ∀ {L : List S3} {F : Nat}, F ≤ L.length → (∀ i a, L[i]? = some a → (i < F ↔ P a = true)) → F = pre P L
  | [], F, h, _ => by simp [pre] at h ⊢; omega
  | a :: L, 0, h, g => by
    unfold pre
    have : (a :: L).filter P = [] := by
      rw [List.filter_eq_nil_iff]
      intro s hs hp
      obtain ⟨i, hi⟩ := List.mem_iff_getElem?.1 hs
      have := (g i s hi).2 hp
      omega
    rw [this]; rfl
  | a :: L, F + 1, h, g => by
    have h0 := (g 0 a rfl).1 (by omega)
    have ih := pre_at (L := L) (F := F) (by simpa using h) (fun i b hb => by
      have := g (i + 1) b (by simpa using hb)
      rw [← this]; omega)
    unfold pre at ih ⊢
    rw [List.filter_cons, if_pos h0, List.length_cons, ← ih]
/-- below y, and up to y -/
def lo (y : Int) (s : S3) : Bool := decide (ky s < y)
def up (y : Int) (s : S3) : Bool := decide (ky s ≤ y)
theorem Dn_lo {L : List S3} (h : Ord ky L) (y : Int) : Dn (lo y) L := List.Pairwise.imp (fun {a b} hab hb => by unfold lo at hb ⊢; simp at hb ⊢; omega) h
theorem Dn_up {L : List S3} (h : Ord ky L) (y : Int) : Dn (up y) L := List.Pairwise.imp (fun {a b} hab hb => by unfold up at hb ⊢; simp at hb ⊢; omega) h
theorem fst_pre {L : List S3} (h : Ord ky L) (hl : L.length ≤ 8192) (y : Int) : (firstP (L.map ky) y).1 = pre (lo y) L := by
  obtain ⟨a1, -, a3⟩ := fst_parts h hl y
  exact pre_at a1 (fun i a e => by rw [a3 i a e]; unfold lo; simp)
theorem abv_pre {L : List S3} (h : Ord ky L) (hl : L.length ≤ 8192) (y : Int) : (aboveP (L.map ky) y).1 = pre (up y) L := by
  obtain ⟨a1, -, a3⟩ := abv_parts h hl y
  exact pre_at a1 (fun i a e => by rw [a3 i a e]; unfold up; simp)
theorem lo_up {y1 y2 : Int} (h : y1 ≤ y2) (s : S3) (hs : lo y1 s = true) : up y2 s = true := by unfold lo at hs; unfold up; simp at hs ⊢; omega
/-- as many: the same ones -/
theorem pre_same {P Q : S3 → Bool} (h : ∀ s, P s = true → Q s = true) {L : List S3} (he : pre P L = pre Q L) : ∀ s ∈ L, Q s = true → P s = true := by
  have e : L.filter P = (L.filter Q).filter P := by
    rw [List.filter_filter]
    refine List.filter_congr (fun s _ => ?_)
    cases hp : P s with
    | false => simp
    | true => simp [h s hp]
  have hs : (L.filter P).Sublist (L.filter Q) := by rw [e]; exact List.filter_sublist
  have := hs.eq_of_length he
  intro s hm hq
  have hin : s ∈ L.filter Q := List.mem_filter.2 ⟨hm, hq⟩
  rw [← this] at hin
  exact (List.mem_filter.1 hin).2
/-- who is told between two such places -/
theorem sg_pre {P Q : S3 → Bool} (h : ∀ s, P s = true → Q s = true) {L : List S3} (hP : Dn P L) (hQ : Dn Q L) (A : List S3) : sg L A (pre P L) (pre Q L) = L.filter (fun s => decide (s ∈ A) && (!P s && Q s)) := by
  unfold sg
  have e1 : (L.drop (pre P L)).take (pre Q L - pre P L) = (L.take (pre Q L)).drop (pre P L) := by
    rw [List.drop_take]
  rw [e1, (pre_split hQ).1]
  have e2 : pre P L = pre P (L.filter Q) := by
    unfold pre
    rw [List.filter_filter]
    congr 1
    refine List.filter_congr (fun s _ => ?_)
    cases hp : P s with
    | false => simp
    | true => simp [h s hp]
  rw [e2, (pre_split (hP.sub List.filter_sublist)).2, List.filter_filter, List.filter_filter]
  refine List.filter_congr (fun s _ => ?_)
  cases P s <;> cases Q s <;> simp
/-- bridges: which place of the left kid's list a place is -/
def brg (RX : List S3) (m : Nat) (L : List S3) (p : Nat) : Nat := (L.take p).countP (fun s => decide (RX.idxOf s < m))
theorem brg_le (RX : List S3) (m : Nat) (L : List S3) (p : Nat) : brg RX m L p ≤ p := by
  unfold brg
  refine Nat.le_trans List.countP_le_length ?_
  rw [List.length_take]; omega
theorem brg_step {RX : List S3} {m : Nat} {L : List S3} {p : Nat} {s : S3} (h : L[p]? = some s) : brg RX m L (p + 1) = brg RX m L p + (if RX.idxOf s < m then 1 else 0) := by
  unfold brg
  rw [List.take_add_one, h, List.countP_append]
  simp [List.countP_cons]
section
variable {RX LY : List S3} {f m e : Nat}
theorem brg_pre {P : S3 → Bool} (hP : Dn P (SR RX LY f e)) (h1 : f ≤ m) (h2 : m ≤ e) : brg RX m (SR RX LY f e) (pre P (SR RX LY f e)) = pre P (SR RX LY f m) := by
  unfold brg
  rw [(pre_split hP).1, List.countP_eq_length_filter, List.filter_filter]
  unfold pre
  rw [← (SR_cut (RX := RX) (LY := LY) h1 h2).1, List.filter_filter]
  congr 1
  exact List.filter_congr (fun s _ => Bool.and_comm _ _)
theorem pre_cut (P : S3 → Bool) (h1 : f ≤ m) (h2 : m ≤ e) : pre P (SR RX LY f e) = pre P (SR RX LY f m) + pre P (SR RX LY m e) := by
  have := ((SR_perm (RX := RX) (LY := LY) h1 h2).filter P).length_eq
  rw [List.filter_append, List.length_append] at this
  exact this
theorem flt_at (p : S3 → Bool) : ∀ {L : List S3} {q : Nat} {s : S3}, L[q]? = some s → (p s = true → (L.filter p)[(L.take q).countP p]? = some s) ∧ (p s = false → (L.filter (fun x => !p x))[q - (L.take q).countP p]? = some s)
  | [], q, s, h => by simp at h
  | a :: L, 0, s, h => by
    simp at h
    subst h
    refine ⟨fun hp => ?_, fun hp => ?_⟩ <;> simp [hp]
  | a :: L, q + 1, s, h => by
    obtain ⟨i1, i2⟩ := flt_at p (L := L) (q := q) (s := s) (by simpa using h)
    have hle : (L.take q).countP p ≤ q := Nat.le_trans List.countP_le_length (by rw [List.length_take]; omega)
    rw [List.take_succ_cons, List.countP_cons, List.filter_cons, List.filter_cons]
    refine ⟨fun hp => ?_, fun hp => ?_⟩
    · cases ha : p a with
      | true => simpa using i1 hp
      | false => simpa using i1 hp
    · cases ha : p a with
      | true => simpa using i2 hp
      | false =>
        simp only [Bool.not_false, if_true, Bool.false_eq_true, if_false, Nat.add_zero]
        rw [show q + 1 - (L.take q).countP p = q - (L.take q).countP p + 1 by omega]
        simpa using i2 hp
/-- where who stands at a place stands in that kid's list that has it -/
theorem brg_at (h1 : f ≤ m) (h2 : m ≤ e) {q : Nat} {s : S3} (hq : (SR RX LY f e)[q]? = some s) :
    (RX.idxOf s < m → (SR RX LY f m)[brg RX m (SR RX LY f e) q]? = some s) ∧ (¬ RX.idxOf s < m → (SR RX LY m e)[q - brg RX m (SR RX LY f e) q]? = some s) := by
  obtain ⟨i1, i2⟩ := flt_at (fun s => decide (RX.idxOf s < m)) hq
  rw [(SR_cut h1 h2).1] at i1
  rw [(SR_cut h1 h2).2] at i2
  exact ⟨fun h => i1 (by simpa using h), fun h => i2 (by simpa using h)⟩
end
/-- what is told of a tree's nodes: their places, and their leaves; and how many are entered -/
def en (RX LY : List S3) (P Q : S3 → Bool) (x y : Nat) : Tr → Nat → Nat → List (Nat × Nat × Nat) × Nat
  | .lf, b, f => if pre P (SR RX LY f (f + 1)) = pre Q (SR RX LY f (f + 1)) ∨ f + 1 ≤ x ∨ y ≤ f then ([], 1) else ([(b, f, f + 1)], 1)
  | .nd l r, b, f =>
    if pre P (SR RX LY f (f + (lv l + lv r))) = pre Q (SR RX LY f (f + (lv l + lv r))) ∨ f + (lv l + lv r) ≤ x ∨ y ≤ f then ([], 1)
    else if x ≤ f ∧ f + (lv l + lv r) ≤ y then ([(b + sz l + sz r, f, f + (lv l + lv r))], 1)
    else ((en RX LY P Q x y l b f).1 ++ (en RX LY P Q x y r (b + sz l) (f + lv l)).1, 1 + (en RX LY P Q x y l b f).2 + (en RX LY P Q x y r (b + sz l) (f + lv l)).2)
section
variable {RX LY : List S3} {P Q : S3 → Bool} {x y : Nat}
theorem en_few : ∀ t b f, (en RX LY P Q x y t b f).2 ≤ (cn x y t b f).2
  | .lf, b, f => by
    have := (cn_len x y .lf b f).2.2
    unfold en
    split <;> simpa using this
  | .nd l r, b, f => by
    have h0 := (cn_len x y (.nd l r) b f).2.2
    have h1 := en_few l b f
    have h2 := en_few r (b + sz l) (f + lv l)
    unfold en
    split
    · exact h0
    · rename_i g
      split
      · exact h0
      · rename_i g2
        rw [cn_cut (fun c => g (.inr c)) g2]
        simp only
        omega
theorem en_told {G : S3 → Bool} (hPQ : ∀ s, P s = true → Q s = true) (hG : ∀ s, G s = true → P s = false ∧ Q s = true) : ∀ t b f,
    ((en RX LY P Q x y t b f).1.flatMap (fun k => (SR RX LY k.2.1 k.2.2).filter G)).Perm ((SR RX LY f (f + lv t)).filter (fun s => G s && (decide (x ≤ RX.idxOf s) && decide (RX.idxOf s < y))))
  | t, b, f => by
    have none : ∀ e, (pre P (SR RX LY f e) = pre Q (SR RX LY f e) ∨ e ≤ x ∨ y ≤ f) → (SR RX LY f e).filter (fun s => G s && (decide (x ≤ RX.idxOf s) && decide (RX.idxOf s < y))) = [] := fun e g => by
      rw [List.filter_eq_nil_iff]
      intro s hs hc
      simp only [Bool.and_eq_true, decide_eq_true_eq] at hc
      obtain ⟨c1, c2, c3⟩ := hc
      have hm := SR_mem.1 hs
      rcases g with g | g | g
      · obtain ⟨d1, d2⟩ := hG s c1
        rw [pre_same hPQ g s hs d2] at d1
        cases d1
      · omega
      · omega
    have full : ∀ e, x ≤ f → e ≤ y → (SR RX LY f e).filter (fun s => G s && (decide (x ≤ RX.idxOf s) && decide (RX.idxOf s < y))) = (SR RX LY f e).filter G := fun e g1 g2 => by
      refine List.filter_congr (fun s hs => ?_)
      have hm := SR_mem.1 hs
      rw [decide_eq_true (show x ≤ RX.idxOf s by omega), decide_eq_true (show RX.idxOf s < y by omega), Bool.and_true, Bool.and_true]
    cases t with
    | lf =>
      show ((en RX LY P Q x y .lf b f).1.flatMap _).Perm ((SR RX LY f (f + 1)).filter _)
      unfold en
      split
      · rename_i g
        rw [none _ g]; simp
      · rename_i g
        rw [full _ (by omega) (by omega)]; simp
    | nd l r =>
      show ((en RX LY P Q x y (.nd l r) b f).1.flatMap _).Perm ((SR RX LY f (f + (lv l + lv r))).filter _)
      unfold en
      split
      · rename_i g
        rw [none _ g]; simp
      · rename_i g
        split
        · rename_i g2
          rw [full _ g2.1 g2.2]; simp
        · rw [List.flatMap_append]
          have i1 := en_told (G := G) hPQ hG l b f
          have i2 := en_told (G := G) hPQ hG r (b + sz l) (f + lv l)
          refine (i1.append i2).trans ?_
          rw [← List.filter_append, Nat.add_assoc f (lv l) (lv r)]
          exact ((SR_perm (by omega) (by omega)).filter _).symm
end
/-- what a box has, as it is told node by node -/
def enB (RX LY : List S3) (b : B4) : List (Nat × Nat × Nat) × Nat :=
  if (firstP (RX.map kx) b.1).1 = (aboveP (RX.map kx) b.2.1).1 then ([], 0) else en RX LY (lo b.2.2.1) (up b.2.2.2) (firstP (RX.map kx) b.1).1 (aboveP (RX.map kx) b.2.1).1 (tr RX.length) 0 0
/-- who is told at a node -/
def btk (RX LY A : List S3) (b : B4) (k : Nat × Nat × Nat) : List S3 := sg (SR RX LY k.2.1 k.2.2) A (pre (lo b.2.2.1) (SR RX LY k.2.1 k.2.2)) (pre (up b.2.2.2) (SR RX LY k.2.1 k.2.2))
section
variable {RX LY A : List S3}
theorem btk_eq (h : PlI RX LY) (A : List S3) {b : B4} (hy : b.2.2.1 ≤ b.2.2.2) (k : Nat × Nat × Nat) : btk RX LY A b k = (SR RX LY k.2.1 k.2.2).filter (fun s => decide (s ∈ A) && (!lo b.2.2.1 s && up b.2.2.2 s)) :=
  sg_pre (lo_up hy) (Dn_lo (SR_ord h _ _) _) (Dn_up (SR_ord h _ _) _) A
theorem enB_told (h : PlI RX LY) (hA : A.Nodup) (hs : ∀ s ∈ A, s ∈ RX) {b : B4} (hy : b.2.2.1 ≤ b.2.2.2) : ((enB RX LY b).1.flatMap (btk RX LY A b)).Perm (A.filter (hsB b)) := by
  have hf : RX.length ≤ 8192 := Nat.le_trans h.few (by decide)
  have e : btk RX LY A b = fun k => (SR RX LY k.2.1 k.2.2).filter (fun s => decide (s ∈ A) && (!lo b.2.2.1 s && up b.2.2.2 s)) := funext (fun k => btk_eq h A hy k)
  rw [e]
  have key : ((enB RX LY b).1.flatMap (fun k => (SR RX LY k.2.1 k.2.2).filter (fun s => decide (s ∈ A) && (!lo b.2.2.1 s && up b.2.2.2 s)))).Perm (LY.filter (fun s => (decide (s ∈ A) && (!lo b.2.2.1 s && up b.2.2.2 s)) && (decide ((firstP (RX.map kx) b.1).1 ≤ RX.idxOf s) && decide (RX.idxOf s < (aboveP (RX.map kx) b.2.1).1)))) := by
    unfold enB
    by_cases g : (firstP (RX.map kx) b.1).1 = (aboveP (RX.map kx) b.2.1).1
    · rw [if_pos g, g]
      have : LY.filter (fun s => (decide (s ∈ A) && (!lo b.2.2.1 s && up b.2.2.2 s)) && (decide ((aboveP (RX.map kx) b.2.1).1 ≤ RX.idxOf s) && decide (RX.idxOf s < (aboveP (RX.map kx) b.2.1).1))) = [] := by
        rw [List.filter_eq_nil_iff]
        intro s _ hc
        simp at hc
        omega
      rw [this]
      simp
    · rw [if_neg g]
      have hn : 1 ≤ RX.length := by
        have := (fst_parts h.ox hf b.1).1
        have := (abv_parts h.ox hf b.2.1).1
        omega
      have := en_told (RX := RX) (LY := LY) (P := lo b.2.2.1) (Q := up b.2.2.2) (x := (firstP (RX.map kx) b.1).1) (y := (aboveP (RX.map kx) b.2.1).1) (G := fun s => decide (s ∈ A) && (!lo b.2.2.1 s && up b.2.2.2 s)) (lo_up hy) (fun s hg => by simp at hg; exact hg.2) (tr RX.length) 0 0
      rw [lv_tr hn, Nat.zero_add, SR_all h] at this
      exact this
  refine key.trans ((List.perm_ext_iff_of_nodup (h.oy.nodup.filter _) (hA.filter _)).2 (fun a => ?_))
  rw [List.mem_filter, List.mem_filter]
  constructor
  · rintro ⟨m1, m2⟩
    simp only [Bool.and_eq_true, decide_eq_true_eq, Bool.not_eq_true'] at m2
    obtain ⟨⟨ma, ml, mu⟩, mx⟩ := m2
    have hr := (range_iff h b.1 b.2.1 (hs a ma)).1 mx
    refine ⟨ma, ?_⟩
    have hl : ¬ a.2.1 < b.2.2.1 := of_decide_eq_false ml
    have hu : a.2.1 ≤ b.2.2.2 := of_decide_eq_true mu
    have hx : b.1 ≤ a.1 ∧ a.1 ≤ b.2.1 := hr
    unfold hsB
    simp
    omega
  · rintro ⟨ma, mh⟩
    unfold hsB at mh
    simp only [Bool.and_eq_true, decide_eq_true_eq] at mh
    have hr := (range_iff h b.1 b.2.1 (hs a ma)).2 ⟨by unfold kx; omega, by unfold kx; omega⟩
    refine ⟨h.pm.mem_iff.1 (hs a ma), ?_⟩
    unfold lo up ky
    simp only [Bool.and_eq_true, decide_eq_true_eq, Bool.not_eq_true', decide_eq_false_iff_not]
    exact ⟨⟨ma, by omega, by omega⟩, hr⟩
/-- the names, and how many -/
theorem enB_names (h : PlI RX LY) (hA : A.Nodup) (hs : ∀ s ∈ A, s ∈ RX) {b : B4} (hy : b.2.2.1 ≤ b.2.2.2) : nsort (ids ((enB RX LY b).1.flatMap (btk RX LY A b))) = hsS A b ∧ ((enB RX LY b).1.flatMap (btk RX LY A b)).length = (hsS A b).length := by
  have h1 := enB_told h hA hs hy
  constructor
  · exact nsort_eq (h1.map _)
  · rw [h1.length_eq]
    unfold hsS hsL
    rw [nsort_len, List.length_map]
/-- few nodes are entered -/
theorem enB_few (h : PlI RX LY) (b : B4) (hx : b.1 ≤ b.2.1) : (enB RX LY b).2 ≤ 4 * lgN (RX.length + 1) + 1 := by
  have hf : RX.length ≤ 8192 := Nat.le_trans h.few (by decide)
  obtain ⟨f1, f2, -⟩ := fst_parts h.ox hf b.1
  obtain ⟨a1, a2, -⟩ := abv_parts h.ox hf b.2.1
  have hle := fst_abv h.ox hf hx
  unfold enB
  split
  · exact Nat.zero_le _
  · rename_i g
    have h1 := en_few (RX := RX) (LY := LY) (P := lo b.2.2.1) (Q := up b.2.2.2) (x := (firstP (RX.map kx) b.1).1) (y := (aboveP (RX.map kx) b.2.1).1) (tr RX.length) 0 0
    have h2 := (cn_few (firstP (RX.map kx) b.1).1 (aboveP (RX.map kx) b.2.1).1 (tr RX.length) 0 0).1
    have hf := h.few
    rw [ht_tr (by omega) (by omega)] at h2
    have h3 : lgN RX.length ≤ lgN (RX.length + 1) := lgM (by omega) (by omega)
    omega
end
end Go.Proofs.YtajpboclicnopaaGreat.Ca
/-
  Knots in memory: nodes with their names by Y and their bridges; a tree of them; where a place of a list lies in its kids' lists. No condition but those typed at each theorem.
-/
namespace Go.Proofs.YtajpboclicnopaaGreat.Ca
open Go.RowKit Go.Sort Bd
/-- where a knot lies -/
structure KtP where
  np : NmP
  z : Nat
  bg : Value
/-- the blocks that are read alone -/
def rol (p : KtP) : List Nat := p.np.vn.ownBlock.toList ++ p.bg.ownBlock.toList
/-- the bridges, at each place and behind all -/
def brs (RX : List S3) (m : Nat) (SP : List S3) : List Int := (List.range (SP.length + 1)).map (fun q => ((brg RX m SP q : Nat) : Int))
theorem brs_len (RX : List S3) (m : Nat) (SP : List S3) : (brs RX m SP).length = SP.length + 1 := by simp [brs]
theorem brs_get (RX : List S3) (m : Nat) (SP : List S3) {q : Nat} (h : q ≤ SP.length) : (brs RX m SP)[q]? = some ((brg RX m SP q : Nat) : Int) := by
  unfold brs
  rw [List.getElem?_map, List.getElem?_range (by omega)]
  rfl
/-- knot k: its node, its points SP, of which those of A are there; it parts them at the leaf m, if it is no leaf -/
structure KtM (w : World) (kb k : Nat) (n : Nd) (RX SP A : List S3) (p : KtP) (om : Option Nat) : Prop where
  nd : N1 w kb (k * 14) n
  nm : NmM w kb (k * 14 + 7) SP A p.np
  bc : w.cell? ⟨kb, k * 14 + 13, none⟩ = some p.bg
  b0 : om = none → p.bg = .slice none 0 0
  bg : ∀ m, om = some m → w.ownsRow 0 3 1 p.bg (SP.length + 1) ((brs RX m SP).map (Value.int .i64))
section
variable {w w' : World} {kb k : Nat} {n : Nd} {RX LY SP A : List S3} {p : KtP} {om : Option Nat}
theorem KtM.off (h : KtM w kb k n RX SP A p om) {S : List Nat} (g : Off S w w') (h1 : kb ∉ S) (h2 : ∀ x ∈ mbl p.np, x ∉ S) (h3 : ∀ x ∈ rol p, x ∉ S) : KtM w' kb k n RX SP A p om :=
  ⟨h.nd.off g h1, h.nm.off g h1 h2 (fun x hx => h3 x (by simp [rol, hx])), g.cell h.bc h1, h.b0, fun m e => row_offS (h.bg m e) g (fun x hx => h3 x (by simp [rol, hx]))⟩
theorem KtM.keep (h : KtM w kb k n RX SP A p om) (g : Below w.heap.size w w') : KtM w' kb k n RX SP A p om :=
  h.off (Off.of (S := []) g (Nat.le_refl _)) (by simp) (by simp) (by simp)
theorem KtM.same {A' : List S3} (h : KtM w kb k n RX SP A p om) (hA : ∀ s ∈ SP, s ∈ A' ↔ s ∈ A) : KtM w kb k n RX SP A' p om :=
  ⟨h.nd, h.nm.same hA, h.bc, h.b0, h.bg⟩
theorem KtM.lt (h : KtM w kb k n RX SP A p om) : kb < w.heap.size ∧ (∀ x ∈ mbl p.np, x < w.heap.size) ∧ ∀ x ∈ rol p, x < w.heap.size := by
  refine ⟨h.nm.lt.1, h.nm.lt.2.1, fun x hx => ?_⟩
  simp only [rol, List.mem_append, Option.mem_toList] at hx
  rcases hx with hx | hx
  · exact h.nm.lt.2.2 x hx
  · cases om with
    | none => rw [h.b0 rfl] at hx; cases hx
    | some m => exact (row_lt (h.bg m rfl) hx).2
set_option maxRecDepth 100000 in
theorem left_any {m : Nat} (h : KtM w kb k n RX SP A p (some m)) {q : Nat} (hq : q ≤ SP.length) :
    Calls Tryz.prog 68 #[.pointer (some ⟨kb, k * 14, none⟩), .int .i64 q] w fun e w' => e = .returned (.int .i64 (brg RX m SP q : Nat)) ∧ w' = w := by
  have hb := h.bg m rfl
  have hc := h.bc
  obtain ⟨-, pb, cb, eb, hnb, -, hcb⟩ := row_u hb
  rw [eb] at hc
  obtain ⟨bb, off, rfl, h1⟩ : ∃ bb off, pb = some ⟨bb, off, none⟩ ∧ w.cell? ⟨bb, off + q, none⟩ = some (.int .i64 (brg RX m SP q : Nat)) := by
    rcases hnb with h0 | ⟨bb, off, e, h0⟩
    · have := brs_len RX m SP; rw [h0] at this; simp at this
    · exact ⟨bb, off, e, h0 q _ (brs_get RX m SP hq)⟩
  have hql : q < SP.length + 1 := by omega
  have hfew := h.nm.few
  have hle := brg_le RX m SP q
  generalize SP.length = sl at *
  generalize brg RX m SP q = bq at *
  clear h hb hnb eb
  go_enter Tryz.func68, Tryz.ntmps68
  go_wp2
  go_ret
  exact ⟨rfl, rfl⟩
set_option maxRecDepth 100000 in
theorem right_any {m : Nat} (h : KtM w kb k n RX SP A p (some m)) {q : Nat} (hq : q ≤ SP.length) :
    Calls Tryz.prog 69 #[.pointer (some ⟨kb, k * 14, none⟩), .int .i64 q] w fun e w' => e = .returned (.int .i64 (q - brg RX m SP q : Nat)) ∧ w' = w := by
  have hb := h.bg m rfl
  have hc := h.bc
  obtain ⟨-, pb, cb, eb, hnb, -, hcb⟩ := row_u hb
  rw [eb] at hc
  obtain ⟨bb, off, rfl, h1⟩ : ∃ bb off, pb = some ⟨bb, off, none⟩ ∧ w.cell? ⟨bb, off + q, none⟩ = some (.int .i64 (brg RX m SP q : Nat)) := by
    rcases hnb with h0 | ⟨bb, off, e, h0⟩
    · have := brs_len RX m SP; rw [h0] at this; simp at this
    · exact ⟨bb, off, e, h0 q _ (brs_get RX m SP hq)⟩
  have hql : q < SP.length + 1 := by omega
  have hfew := h.nm.few
  have hle := brg_le RX m SP q
  generalize SP.length = sl at *
  generalize brg RX m SP q = bq at *
  have hsub : (q : Int) - bq = (q - bq : Nat) := by omega
  clear h hb hnb eb
  go_enter Tryz.func69, Tryz.ntmps69
  go_wp2
  go_ret
  exact ⟨by go_num, rfl⟩
end
/-- the leaf's node, and one over two kids -/
def lfN (f : Nat) : Nd := (1, -1, -1, (f : Int), ((f + 1 : Nat) : Int), 0, (f : Int))
def inN (b f : Nat) (l r : Tr) : Nd := (2, (rt b l : Int), (rt (b + sz l) r : Int), (f : Int), ((f + (lv l + lv r) : Nat) : Int), 0, 0)
/-- the knots of a tree -/
def KnT (w : World) (kb : Nat) (RX LY A : List S3) (ps : Nat → KtP) : Tr → Nat → Nat → Prop
  | .lf, b, f => KtM w kb b (lfN f) RX (SR RX LY f (f + 1)) A (ps b) none
  | .nd l r, b, f => KnT w kb RX LY A ps l b f ∧ KnT w kb RX LY A ps r (b + sz l) (f + lv l) ∧ KtM w kb (b + sz l + sz r) (inN b f l r) RX (SR RX LY f (f + (lv l + lv r))) A (ps (b + sz l + sz r)) (some (f + lv l))
/-- the blocks that drops write, and no two knots have one together -/
structure Dj (ps : Nat → KtP) (b e : Nat) : Prop where
  mm : ∀ j k, b ≤ j → j < e → b ≤ k → k < e → j ≠ k → ∀ x ∈ mbl (ps j).np, x ∉ mbl (ps k).np
  rm : ∀ j k, b ≤ j → j < e → b ≤ k → k < e → ∀ x ∈ rol (ps j), x ∉ mbl (ps k).np
theorem Dj.sub {ps : Nat → KtP} {b e b' e' : Nat} (h : Dj ps b e) (h1 : b ≤ b') (h2 : e' ≤ e) : Dj ps b' e' :=
  ⟨fun j k a1 a2 a3 a4 => h.mm j k (by omega) (by omega) (by omega) (by omega), fun j k a1 a2 a3 a4 => h.rm j k (by omega) (by omega) (by omega) (by omega)⟩
/-- the blocks that drops write, from one knot on, ahead of another -/
def mbs (ps : Nat → KtP) (b n : Nat) : List Nat := (List.range n).flatMap (fun i => mbl (ps (b + i)).np)
theorem mem_mbs {ps : Nat → KtP} {b n x : Nat} : x ∈ mbs ps b n ↔ ∃ k, b ≤ k ∧ k < b + n ∧ x ∈ mbl (ps k).np := by
  unfold mbs
  rw [List.mem_flatMap]
  constructor
  · rintro ⟨i, hi, hx⟩
    exact ⟨b + i, by omega, by have := List.mem_range.1 hi; omega, hx⟩
  · rintro ⟨k, h1, h2, hx⟩
    exact ⟨k - b, List.mem_range.2 (by omega), by rw [show b + (k - b) = k by omega]; exact hx⟩
section
variable {w w' : World} {kb : Nat} {RX LY A : List S3} {ps : Nat → KtP}
theorem KnT.off {S : List Nat} (g : Off S w w') (h1 : kb ∉ S) : ∀ {t b f}, KnT w kb RX LY A ps t b f → (∀ k, b ≤ k → k < b + sz t → (∀ x ∈ mbl (ps k).np, x ∉ S) ∧ ∀ x ∈ rol (ps k), x ∉ S) → KnT w' kb RX LY A ps t b f
  | .lf, b, f, h, hS => KtM.off h g h1 (hS b (Nat.le_refl _) (by simp [sz, lv])).1 (hS b (Nat.le_refl _) (by simp [sz, lv])).2
  | .nd l r, b, f, h, hS => by
    have e := sz_nd l r
    refine ⟨KnT.off g h1 h.1 (fun k a1 a2 => hS k a1 (by omega)), KnT.off g h1 h.2.1 (fun k a1 a2 => hS k (by omega) (by omega)), h.2.2.off g h1 (hS _ (by omega) (by omega)).1 (hS _ (by omega) (by omega)).2⟩
theorem KnT.keep (g : Below w.heap.size w w') {t b f} (h : KnT w kb RX LY A ps t b f) : KnT w' kb RX LY A ps t b f :=
  h.off (Off.of (S := []) g (Nat.le_refl _)) (by simp) (fun k _ _ => by simp)
theorem KnT.same {A' : List S3} : ∀ {t b f}, KnT w kb RX LY A ps t b f → (∀ s ∈ SR RX LY f (f + lv t), s ∈ A' ↔ s ∈ A) → KnT w kb RX LY A' ps t b f
  | .lf, b, f, h, hA => KtM.same h hA
  | .nd l r, b, f, h, hA => by
    have hA : ∀ s ∈ SR RX LY f (f + (lv l + lv r)), s ∈ A' ↔ s ∈ A := hA
    refine ⟨KnT.same h.1 (fun s hs => hA s ?_), KnT.same h.2.1 (fun s hs => hA s ?_), h.2.2.same hA⟩
    · have := SR_mem.1 hs; exact SR_mem.2 ⟨this.1, by omega, by omega⟩
    · have := SR_mem.1 hs; exact SR_mem.2 ⟨this.1, by omega, by omega⟩
/-- each knot of it -/
theorem KnT.each : ∀ {t b f}, KnT w kb RX LY A ps t b f → ∀ k, b ≤ k → k < b + sz t → ∃ n SP om, KtM w kb k n RX SP A (ps k) om
  | .lf, b, f, h, k, h1, h2 => by
    have : sz .lf = 1 := rfl
    obtain rfl : k = b := by omega
    exact ⟨_, _, _, h⟩
  | .nd l r, b, f, h, k, h1, h2 => by
    have e := sz_nd l r
    by_cases c1 : k < b + sz l
    · exact KnT.each h.1 k h1 c1
    · by_cases c2 : k < b + sz l + sz r
      · exact KnT.each h.2.1 k (by omega) c2
      · obtain rfl : k = b + sz l + sz r := by omega
        exact ⟨_, _, _, h.2.2⟩
/-- the root's knot -/
theorem KnT.top {t : Tr} {b f : Nat} (h : KnT w kb RX LY A ps t b f) : ∃ n om, KtM w kb (rt b t) n RX (SR RX LY f (f + lv t)) A (ps (rt b t)) om ∧ n.2.2.2.1 = (f : Int) ∧ n.2.2.2.2.1 = ((f + lv t : Nat) : Int) := by
  cases t with
  | lf => exact ⟨_, _, by have e : rt b .lf = b := by simp [rt, lv]
                          rw [e]; exact h, rfl, rfl⟩
  | nd l r => exact ⟨_, _, by rw [rt_nd]; exact h.2.2, rfl, rfl⟩
end
end Go.Proofs.YtajpboclicnopaaGreat.Ca
/-
  A point is dropped out of a node's list and of those below it. No condition but those typed at each theorem.
-/
namespace Go.Proofs.YtajpboclicnopaaGreat.Ca
open Go.RowKit Go.Sort Bd
section
variable {kb B : Nat} {RX LY A : List S3} {ps : Nat → KtP}
/-- a knot whose names were dropped from -/
theorem KtM.less {w w' : World} {k : Nat} {n : Nd} {SP A' : List S3} {p : KtP} {om : Option Nat} (h : KtM w kb k n RX SP A p om) (hn : NmM w' kb (k * 14 + 7) SP A' p.np) (g : Off (mbl p.np) w w') (hr : ∀ x ∈ rol p, x ∉ mbl p.np) : KtM w' kb k n RX SP A' p om :=
  ⟨h.nd.off g h.nm.out, hn, g.cell h.bc h.nm.out, h.b0, fun m e => row_offS (h.bg m e) g (fun x hx => hr x (by simp [rol, hx]))⟩
theorem kdrop_l {w2 w5 : World} {b f : Nat} {l r : Tr} {s : S3} (hT : KnT w2 kb RX LY A ps l b f ∧ KnT w2 kb RX LY A ps r (b + sz l) (f + lv l) ∧ KtM w2 kb (b + sz l + sz r) (inN b f l r) RX (SR RX LY f (f + (lv l + lv r))) (drp A s) (ps (b + sz l + sz r)) (some (f + lv l)))
    (hD : Dj ps b (b + (sz l + sz r + 1))) (h5 : KnT w5 kb RX LY (drp A s) ps l b f) (ho : Off (mbs ps b (sz l)) w2 w5) (hi : RX.idxOf s < f + lv l) : KnT w5 kb RX LY (drp A s) ps (.nd l r) b f := by
  have hkb : kb ∉ mbs ps b (sz l) := fun hm => by
    obtain ⟨k, a1, a2, a3⟩ := mem_mbs.1 hm
    obtain ⟨n, SP, om, hk⟩ := hT.1.each k a1 a2
    exact hk.nm.out a3
  refine ⟨h5, (hT.2.1.off ho hkb (fun k a1 a2 => ⟨fun x hx hm => ?_, fun x hx hm => ?_⟩)).same (fun t ht => ?_), hT.2.2.off ho hkb (fun x hx hm => ?_) (fun x hx hm => ?_)⟩
  · obtain ⟨j, b1, b2, b3⟩ := mem_mbs.1 hm
    exact hD.mm k j (by omega) (by omega) (by omega) (by omega) (by omega) x hx b3
  · obtain ⟨j, b1, b2, b3⟩ := mem_mbs.1 hm
    exact hD.rm k j (by omega) (by omega) (by omega) (by omega) x hx b3
  · have := SR_mem.1 ht
    rw [mem_drp]
    refine ⟨fun c => c.1, fun c => ⟨c, fun e => ?_⟩⟩
    subst e
    omega
  · obtain ⟨j, b1, b2, b3⟩ := mem_mbs.1 hm
    exact hD.mm _ j (by omega) (by omega) (by omega) (by omega) (by omega) x hx b3
  · obtain ⟨j, b1, b2, b3⟩ := mem_mbs.1 hm
    exact hD.rm _ j (by omega) (by omega) (by omega) (by omega) x hx b3
theorem kdrop_r {w2 w5 : World} {b f : Nat} {l r : Tr} {s : S3} (hT : KnT w2 kb RX LY A ps l b f ∧ KnT w2 kb RX LY A ps r (b + sz l) (f + lv l) ∧ KtM w2 kb (b + sz l + sz r) (inN b f l r) RX (SR RX LY f (f + (lv l + lv r))) (drp A s) (ps (b + sz l + sz r)) (some (f + lv l)))
    (hD : Dj ps b (b + (sz l + sz r + 1))) (h5 : KnT w5 kb RX LY (drp A s) ps r (b + sz l) (f + lv l)) (ho : Off (mbs ps (b + sz l) (sz r)) w2 w5) (hi : ¬ RX.idxOf s < f + lv l) : KnT w5 kb RX LY (drp A s) ps (.nd l r) b f := by
  have hkb : kb ∉ mbs ps (b + sz l) (sz r) := fun hm => by
    obtain ⟨k, a1, a2, a3⟩ := mem_mbs.1 hm
    obtain ⟨n, SP, om, hk⟩ := hT.2.1.each k a1 a2
    exact hk.nm.out a3
  refine ⟨(hT.1.off ho hkb (fun k a1 a2 => ⟨fun x hx hm => ?_, fun x hx hm => ?_⟩)).same (fun t ht => ?_), h5, hT.2.2.off ho hkb (fun x hx hm => ?_) (fun x hx hm => ?_)⟩
  · obtain ⟨j, b1, b2, b3⟩ := mem_mbs.1 hm
    exact hD.mm k j (by omega) (by omega) (by omega) (by omega) (by omega) x hx b3
  · obtain ⟨j, b1, b2, b3⟩ := mem_mbs.1 hm
    exact hD.rm k j (by omega) (by omega) (by omega) (by omega) x hx b3
  · have := SR_mem.1 ht
    rw [mem_drp]
    refine ⟨fun c => c.1, fun c => ⟨c, fun e => ?_⟩⟩
    subst e
    omega
  · obtain ⟨j, b1, b2, b3⟩ := mem_mbs.1 hm
    exact hD.mm _ j (by omega) (by omega) (by omega) (by omega) (by omega) x hx b3
  · obtain ⟨j, b1, b2, b3⟩ := mem_mbs.1 hm
    exact hD.rm _ j (by omega) (by omega) (by omega) (by omega) x hx b3
set_option maxRecDepth 100000 in
set_option maxHeartbeats 6400000 in
theorem kdrop_any (hpl : PlI RX LY) : ∀ (t : Tr) (b f : Nat) (w : World) (q : Nat) (s : S3) (m cap : Nat), KnT w kb RX LY A ps t b f → Dj ps b (b + sz t) → w.cell? ⟨B, 5, none⟩ = some (.slice (some ⟨kb, 0, none⟩) m cap) → rt b t < m → m ≤ 1000 →
    (∀ k, b ≤ k → k < b + sz t → B ∉ mbl (ps k).np) → (SR RX LY f (f + lv t))[q]? = some s → s ∈ A →
    Calls Tryz.prog 42 #[.pointer (some ⟨B, 0, none⟩), .int .i64 (rt b t : Nat), .int .i64 q] w fun e w' => e = .returned (.tuple #[]) ∧ KnT w' kb RX LY (drp A s) ps t b f ∧ Off (mbs ps b (sz t)) w w' := by
  intro t
  induction t with
  | lf =>
    intro b f w q s m cap h hD c5 hrm hm hB hq hA
    have hK : KtM w kb b (lfN f) RX (SR RX LY f (f + 1)) A (ps b) none := h
    have hq' : (SR RX LY f (f + 1))[q]? = some s := hq
    have HN := Lib.hid (ndrop_any hK.nm hq' hA)
    have hrb : rt b .lf = b := by simp [rt, lv]
    rw [hrb] at hrm ⊢
    have hout := hK.nm.out
    have HK := Lib.hid hK
    have HR := Lib.hid (hD.rm b b (Nat.le_refl _) (by simp [sz, lv]) (Nat.le_refl _) (by simp [sz, lv]))
    have n0 := hK.nd.c0
    have hBb := hB b (Nat.le_refl _) (by simp [sz, lv])
    clear h hD hq hq' hK hB hA hrb
    unfold lfN at n0
    simp only at n0
    go_enter Tryz.func42, Tryz.ntmps42
    go_wp2_with (go_at_call 67; (with_reducible refine HN.out.mono ?_); rintro e w2 ⟨rfl, hn, ho⟩; have HO := Lib.hid ho; have HN2 := Lib.hid hn; have m0 := ho.cell n0 hout; clear hn ho)
    refine bodyPost_ret (results_none rfl _ _ _) rfl ?_
    refine ⟨rfl, HK.out.less HN2.out HO.out HR.out, HO.out.mono (fun x _ hx => mem_mbs.2 ⟨b, Nat.le_refl _, by simp [sz, lv], hx⟩)⟩
  | nd l r ihl ihr =>
    intro b f w q s m cap h hD c5 hrm hm hB hq hA
    obtain ⟨hL, hR, hK⟩ := h
    have hq' : (SR RX LY f (f + (lv l + lv r)))[q]? = some s := hq
    have hql := (List.getElem?_eq_some_iff.1 hq').1
    have e1 := sz_nd l r
    have e2 := rt_nd b l r
    have e3 := rt_lt b l
    have e4 := rt_lt (b + sz l) r
    have p1 := sz_pos l
    have p2 := sz_pos r
    have v1 := lv_pos l
    have v2 := lv_pos r
    rw [e2] at hrm ⊢
    rw [e1] at hD hB
    have HN := Lib.hid (ndrop_any hK.nm hq' hA)
    have HRO := Lib.hid (hD.rm (b + sz l + sz r) (b + sz l + sz r) (by omega) (by omega) (by omega) (by omega))
    have hout := hK.nm.out
    have n0 := hK.nd.c0
    have n1 := hK.nd.c1
    have n2 := hK.nd.c2
    have hBk := hB (b + sz l + sz r) (by omega) (by omega)
    have hsm := SR_few hpl f (f + (lv l + lv r))
    have HDJ := Lib.hid hD
    have HK := Lib.hid hK
    have HL := Lib.hid hL
    have HR := Lib.hid hR
    have HBB := Lib.hid hB
    have HQ := Lib.hid hq'
    have HA := Lib.hid hA
    -- what stands behind the knot's own drop
    have hstep := brg_step (RX := RX) (m := f + lv l) hq'
    have hbq := brg_le RX (f + lv l) (SR RX LY f (f + (lv l + lv r))) q
    have hat := brg_at (RX := RX) (LY := LY) (f := f) (m := f + lv l) (e := f + (lv l + lv r)) (by omega) (by omega) hq'
    have AF : ∀ w2, NmM w2 kb ((b + sz l + sz r) * 14 + 7) (SR RX LY f (f + (lv l + lv r))) (drp A s) (ps (b + sz l + sz r)).np → Off (mbl (ps (b + sz l + sz r)).np) w w2 →
        KnT w2 kb RX LY A ps l b f ∧ KnT w2 kb RX LY A ps r (b + sz l) (f + lv l) ∧ KtM w2 kb (b + sz l + sz r) (inN b f l r) RX (SR RX LY f (f + (lv l + lv r))) (drp A s) (ps (b + sz l + sz r)) (some (f + lv l)) := fun w2 hn ho =>
      ⟨hL.off ho hout (fun k a1 a2 => ⟨hD.mm k _ a1 (by omega) (by omega) (by omega) (by omega), hD.rm k _ a1 (by omega) (by omega) (by omega)⟩),
       hR.off ho hout (fun k a1 a2 => ⟨hD.mm k _ (by omega) (by omega) (by omega) (by omega) (by omega), hD.rm k _ (by omega) (by omega) (by omega) (by omega)⟩), hK.less hn ho HRO.out⟩
    have HAF := Lib.hid AF
    have FIN : ∀ (w2 w5 : World) (u : Tr) (ub : Nat), Off (mbl (ps (b + sz l + sz r)).np) w w2 → Off (mbs ps ub (sz u)) w2 w5 → b ≤ ub → ub + sz u ≤ b + (sz l + sz r + 1) → Off (mbs ps b (sz l + sz r + 1)) w w5 := fun w2 w5 u ub h1 h2 a1 a2 =>
      (h1.mono (fun x _ hx => mem_mbs.2 ⟨_, by omega, by omega, hx⟩)).trans (h2.mono (fun x _ hx => by obtain ⟨k, b1, b2, b3⟩ := mem_mbs.1 hx; exact mem_mbs.2 ⟨k, by omega, by omega, b3⟩))
    have HFIN := Lib.hid FIN
    clear AF FIN hL hR hK hq hq' hD hB hA
    unfold inN at n0 n1 n2
    simp only at n0 n1 n2
    rw [e1]
    generalize hkk : b + sz l + sz r = k at *
    generalize hbg : brg RX (f + lv l) (SR RX LY f (f + (lv l + lv r))) q = bq at *
    generalize hbg1 : brg RX (f + lv l) (SR RX LY f (f + (lv l + lv r))) (q + 1) = bq1 at *
    have HB0 := Lib.hid hbg
    have HB1 := Lib.hid hbg1
    by_cases hi : RX.idxOf s < f + lv l
    · rw [if_pos hi] at hstep
      have hlt : (bq : Int) < bq1 := by omega
      have hsl := hat.1 hi
      have HSL := Lib.hid hsl
      have HI := Lib.hid hi
      clear hat hsl hi hbg hbg1
      have HLE := Lib.hid (show q ≤ (SR RX LY f (f + (lv l + lv r))).length ∧ q + 1 ≤ (SR RX LY f (f + (lv l + lv r))).length from ⟨by omega, by omega⟩)
      generalize hrl : rt b l = rl at *
      generalize hrr : rt (b + sz l) r = rr at *
      have HRL := Lib.hid hrl
      have HRR := Lib.hid hrr
      have HE := Lib.hid (show rl + 1 = b + sz l ∧ rr + 1 = b + sz l + sz r ∧ 1 ≤ sz l ∧ 1 ≤ sz r from ⟨by omega, by omega, p1, p2⟩)
      have HKK := Lib.hid hkk
      clear hrl hrr e1 e2 e3 e4 p1 p2 v1 v2 hkk
      go_enter Tryz.func42, Tryz.ntmps42
      go_upto_region 4 with (first
        | (go_at_call 67; (with_reducible refine HN.out.mono ?_); rintro e w2 ⟨rfl, hn, ho⟩; have HO := Lib.hid ho; have HT := Lib.hid (HAF.out w2 hn ho); have m0 := ho.cell n0 hout; have m1 := ho.cell n1 hout; have m5 := ho.cell c5 hBk; have HC1 := Lib.hid (left_any HT.out.2.2 HLE.out.1); have HC2 := Lib.hid (left_any HT.out.2.2 HLE.out.2); rw [HB0.out] at HC1; rw [HB1.out, show ((q + 1 : Nat) : Int) = (q : Int) + 1 by omega] at HC2; clear hn ho)
        | (go_at_call 68; (with_reducible refine HC1.out.mono ?_); rintro e w3 ⟨rfl, rfl⟩)
        | (go_at_call 68; (with_reducible refine HC2.out.mono ?_); rintro e w4 ⟨rfl, rfl⟩))
      have inst : Nonempty (Wd (Bw w4)) := ⟨⟨w4, Below.refl _ _⟩⟩
      have b1 : ∀ z : Wd (Bw w4), z.w.cell? ⟨kb, k * 14 + 1, none⟩ = _ := fun z => Bw.cell z m1
      have HLC := Lib.hid (fun z : Wd (Bw w4) => (left_any (HT.out.2.2.keep z.h) HLE.out.1).mono (R' := fun e w' => e = .returned (.int .i64 (bq : Nat)) ∧ Below z.w.heap.size z.w w') (fun e w' hh => ⟨by rw [hh.1, HB0.out], by rw [hh.2]; exact Below.refl _ _⟩))
      refine wp_region_qc (Bw w4) 9 (by kernel_rfl) (by kernel_rfl) ((Below.refl _ w4).drew) ?_
      simp only [List.take_succ_cons, List.take_zero, List.drop_succ_cons, List.drop_zero]
      repeat (first
        | go_big_quiet_step (first | (go_at_call 68; with_reducible exact calls_wd (fun _ _ h hb => h.keep hb) _ (HLC.out _)))
        | quiet_step (first | (go_at_call 68; with_reducible exact calls_wd (fun _ _ h hb => h.keep hb) _ (HLC.out _))))
      refine wpQuiet_nil ?_
      rintro _ ⟨z3, rfl⟩
      refine wpOp_callW rfl rfl (f := 42) (args := #[.pointer (some ⟨B, 0, none⟩), .int .i64 (rl : Nat), .int .i64 (bq : Nat)]) (by simp [execOp, resolve, invoke, Act.eval, Deferred.ofValue, go_sem]) ?_
      have hE := HE.out
      have hK2 := HKK.out
      have hih := ihl b f z3.w bq s m cap (HT.out.1.keep z3.h) (HDJ.out.sub (Nat.le_refl _) (by omega)) (Bw.cell z3 m5) (by rw [HRL.out]; omega) hm (fun k a1 a2 => HBB.out k a1 (by omega)) HSL.out HA.out
      rw [HRL.out] at hih
      refine hih.mono ?_
      rintro e w5 ⟨rfl, hk5, ho5⟩
      refine ⟨_, rfl, ?_⟩
      refine wpQuiet_nil ?_
      have hoz := (Off.of (S := mbs ps b (sz l)) z3.h (Nat.le_refl _)).trans ho5
      have HF := Lib.hid (HFIN.out w4 w5 l b HO.out hoz (by omega) (by omega))
      have HRES := Lib.hid (kdrop_l (by rw [hK2]; exact HT.out) HDJ.out hk5 hoz HI.out)
      clear b1 inst hih hk5 ho5 hoz hE hK2
      go_wp2
      go_end0
      exact ⟨rfl, HRES.out, HF.out⟩
    · rw [if_neg hi] at hstep
      have hlt : ¬ (bq : Int) < bq1 := by omega
      have hsl := hat.2 hi
      have HSL := Lib.hid hsl
      have HI := Lib.hid hi
      clear hat hsl hi hbg hbg1
      have HLE := Lib.hid (show q ≤ (SR RX LY f (f + (lv l + lv r))).length ∧ q + 1 ≤ (SR RX LY f (f + (lv l + lv r))).length from ⟨by omega, by omega⟩)
      generalize hrl : rt b l = rl at *
      generalize hrr : rt (b + sz l) r = rr at *
      have HRL := Lib.hid hrl
      have HRR := Lib.hid hrr
      have HE := Lib.hid (show rl + 1 = b + sz l ∧ rr + 1 = b + sz l + sz r ∧ 1 ≤ sz l ∧ 1 ≤ sz r from ⟨by omega, by omega, p1, p2⟩)
      have HKK := Lib.hid hkk
      clear hrl hrr e1 e2 e3 e4 p1 p2 v1 v2 hkk
      go_enter Tryz.func42, Tryz.ntmps42
      go_upto_region 5 with (first
        | (go_at_call 67; (with_reducible refine HN.out.mono ?_); rintro e w2 ⟨rfl, hn, ho⟩; have HO := Lib.hid ho; have HT := Lib.hid (HAF.out w2 hn ho); have m0 := ho.cell n0 hout; have m1 := ho.cell n2 hout; have m5 := ho.cell c5 hBk; have HC1 := Lib.hid (left_any HT.out.2.2 HLE.out.1); have HC2 := Lib.hid (left_any HT.out.2.2 HLE.out.2); rw [HB0.out] at HC1; rw [HB1.out, show ((q + 1 : Nat) : Int) = (q : Int) + 1 by omega] at HC2; clear hn ho)
        | (go_at_call 68; (with_reducible refine HC1.out.mono ?_); rintro e w3 ⟨rfl, rfl⟩)
        | (go_at_call 68; (with_reducible refine HC2.out.mono ?_); rintro e w4 ⟨rfl, rfl⟩))
      have inst : Nonempty (Wd (Bw w4)) := ⟨⟨w4, Below.refl _ _⟩⟩
      have b1 : ∀ z : Wd (Bw w4), z.w.cell? ⟨kb, k * 14 + 2, none⟩ = _ := fun z => Bw.cell z m1
      have HLC := Lib.hid (fun z : Wd (Bw w4) => (right_any (HT.out.2.2.keep z.h) HLE.out.1).mono (R' := fun e w' => e = .returned (.int .i64 (q - bq : Nat)) ∧ Below z.w.heap.size z.w w') (fun e w' hh => ⟨by rw [hh.1, HB0.out], by rw [hh.2]; exact Below.refl _ _⟩))
      refine wp_region_qc (Bw w4) 9 (by kernel_rfl) (by kernel_rfl) ((Below.refl _ w4).drew) ?_
      simp only [List.take_succ_cons, List.take_zero, List.drop_succ_cons, List.drop_zero]
      repeat (first
        | go_big_quiet_step (first | (go_at_call 69; with_reducible exact calls_wd (fun _ _ h hb => h.keep hb) _ (HLC.out _)))
        | quiet_step (first | (go_at_call 69; with_reducible exact calls_wd (fun _ _ h hb => h.keep hb) _ (HLC.out _))))
      refine wpQuiet_nil ?_
      rintro _ ⟨z3, rfl⟩
      refine wpOp_callW rfl rfl (f := 42) (args := #[.pointer (some ⟨B, 0, none⟩), .int .i64 (rr : Nat), .int .i64 (q - bq : Nat)]) (by simp [execOp, resolve, invoke, Act.eval, Deferred.ofValue, go_sem]) ?_
      have hE := HE.out
      have hK2 := HKK.out
      have hih := ihr (b + sz l) (f + lv l) z3.w (q - bq) s m cap (HT.out.2.1.keep z3.h) (HDJ.out.sub (by omega) (by omega)) (Bw.cell z3 m5) (by rw [HRR.out]; omega) hm (fun k a1 a2 => HBB.out k (by omega) (by omega)) (by have := HSL.out; rw [show f + lv l + lv r = f + (lv l + lv r) by omega]; exact this) HA.out
      rw [HRR.out] at hih
      refine hih.mono ?_
      rintro e w5 ⟨rfl, hk5, ho5⟩
      refine ⟨_, rfl, ?_⟩
      refine wpQuiet_nil ?_
      have hoz := (Off.of (S := mbs ps (b + sz l) (sz r)) z3.h (Nat.le_refl _)).trans ho5
      have HF := Lib.hid (HFIN.out w4 w5 r (b + sz l) HO.out hoz (by omega) (by omega))
      have HRES := Lib.hid (kdrop_r (by rw [hK2]; exact HT.out) HDJ.out hk5 hoz HI.out)
      clear b1 inst hih hk5 ho5 hoz hE hK2
      go_wp2
      go_end0
      exact ⟨rfl, HRES.out, HF.out⟩
end
end Go.Proofs.YtajpboclicnopaaGreat.Ca
/-
  Seats in memory: where points stand; their names. No condition but those typed at each theorem.
-/
namespace Go.Proofs.YtajpboclicnopaaGreat.Ca
open Go.RowKit Go.Sort Bd
/-- a seat's cells -/
def stv (RX : List S3) (s : S3) : List Value := [.int .i64 (RX.idxOf s : Nat), .int .u32 s.2.2]
def flatS (RX L : List S3) : List Value := L.flatMap (stv RX)
theorem flatS_snoc (RX L : List S3) (s : S3) : flatS RX (L ++ [s]) = flatS RX L ++ stv RX s := by simp [flatS]
theorem flatS_get (RX L : List S3) {k : Nat} {s : S3} (h : L[k]? = some s) : (flatS RX L)[k * 2]? = some (.int .i64 (RX.idxOf s : Nat)) ∧ (flatS RX L)[k * 2 + 1]? = some (.int .u32 s.2.2) := by
  induction L generalizing k with
  | nil => simp at h
  | cons a L ih =>
    cases k with
    | zero => simp at h; subst h; simp [flatS, stv]
    | succ k =>
      have := ih (k := k) (by simpa using h)
      rw [show (k + 1) * 2 = k * 2 + 1 + 1 by omega, show k * 2 + 1 + 1 + 1 = (k * 2 + 1) + 1 + 1 by omega]
      simpa [flatS, stv] using this
/-- a row of seats -/
def SeR (w : World) (base : Nat) (RX L : List S3) (v : Value) : Prop := w.ownsRow base 133 2 v L.length (flatS RX L)
theorem SeR.nil (w : World) (base : Nat) (RX : List S3) : SeR w base RX [] (.slice none 0 0) := World.ownsRow_nil ..
theorem SeR.off {w X : World} {base : Nat} {RX L : List S3} {v : Value} {S : List Nat} (h : SeR w base RX L v) (g : Off S w X) (hS : ∀ k, v.ownBlock = some k → k ∉ S) : SeR X base RX L v :=
  row_at h (fun k hk => ⟨g.block k (row_lt h hk).2 (hS k hk), (row_lt h hk).1⟩)
theorem SeR.keep {w X : World} {base : Nat} {RX L : List S3} {v : Value} (h : SeR w base RX L v) (g : Below w.heap.size w X) : SeR X base RX L v :=
  h.off (Off.of (S := []) g (Nat.le_refl _)) (by simp)
theorem SeR.shape {w : World} {base : Nat} {RX L : List S3} {v : Value} (h : SeR w base RX L v) : ∃ p c, v = .slice p L.length c ∧ ∀ k s, L[k]? = some s → ∃ g, p = some ⟨g, 0, none⟩ ∧ w.cell? ⟨g, k * 2, none⟩ = some (.int .i64 (RX.idxOf s : Nat)) ∧ w.cell? ⟨g, k * 2 + 1, none⟩ = some (.int .u32 s.2.2) := by
  obtain ⟨h1, h2⟩ := h
  rcases h2 with ⟨rfl, h2⟩ | ⟨g, cap, cur, rfl, hb, hg, hnc, hcm, hcs, htk⟩
  · refine ⟨none, 0, by rw [h2], fun k s e => ?_⟩
    have := (List.getElem?_eq_some_iff.1 e).1
    omega
  · refine ⟨_, _, rfl, fun k s e => ⟨g, rfl, ?_⟩⟩
    have hc : ∀ j u, (flatS RX L)[j]? = some u → w.cell? ⟨g, j, none⟩ = some u := fun j u hj => by
      rw [← htk, List.getElem?_take] at hj
      split at hj
      · rw [Array.getElem?_toList] at hj
        simp [World.cell?, hg, hj]
      · cases hj
    exact ⟨hc _ _ (flatS_get RX L e).1, hc _ _ (flatS_get RX L e).2⟩
theorem info_seat : (Tryz.prog.info? 133).map (fun i => (i.zero, i.size, i.bytes)) = some (some (.agg #[.int .i64 0, .int .u32 0]), 2, 16) := by kernel_rfl
theorem under_seats : Tryz.prog.underlying 130 = some (.slice 133) := by kernel_rfl
theorem stv_at (RX : List S3) (s : S3) (W : World) : ∀ j u, (stv RX s)[j]? = some u → (W.alloc (.cells #[.int .i64 (RX.idxOf s : Nat), .int .u32 s.2.2] 133)).cell? ((⟨W.heap.size, 0, none⟩ : Addr).add j) = some u := by
  intro j u hu
  rw [Addr.add_lit, World.cell?_alloc_new]
  simpa [stv] using hu
theorem stv_one (RX : List S3) (s : S3) : ∀ u ∈ stv RX s, u.oneCell' = true := by
  intro u hu
  simp [stv] at hu
  rcases hu with rfl | rfl <;> rfl
set_option maxRecDepth 100000 in
set_option maxHeartbeats 1600000 in
theorem names_any {w : World} {base : Nat} {RX L : List S3} {v : Value} (h : SeR w base RX L v) (hl : L.length ≤ 8192) :
    Calls Tryz.prog 102 #[v] w fun e w' => (∃ v2, e = .returned v2 ∧ w'.ownsRow w.heap.size 32 1 v2 L.length ((ids L).map (Value.int .u32))) ∧ Below w.heap.size w w' := by
  obtain ⟨p, c, rfl, hat⟩ := h.shape
  have HAT := Lib.hid hat
  obtain ⟨n, hn⟩ : ∃ n, n = L.length := ⟨_, rfl⟩
  have HN := Lib.hid hn
  rw [← hn] at hl ⊢
  clear h hat hn
  go_enter Tryz.func102, Tryz.ntmps102
  go_wp2
  go_loopw [3, 8] (fun vv iv wr => ∃ i : Nat, i ≤ n ∧ iv = .int .i64 i ∧ Hid (wr.ownsRow w.heap.size 32 1 vv i ((ids (L.take i)).map (Value.int .u32))) ∧ Hid (Below w.heap.size w wr)) (fun _ iv _ => n - (intOf iv).toNat)
  case atStart => exact ⟨0, Nat.zero_le _, rfl, Lib.hid (World.ownsRow_nil ..), Lib.hid (Below.refl _ _)⟩
  case round =>
    obtain ⟨i, hi, rfl, HR, HB⟩ := hrel
    by_cases hlt : i < n
    · have hltz : (i : Int) < n := by omega
      obtain ⟨s, hse⟩ : ∃ s, L[i]? = some s := ⟨_, List.getElem?_eq_getElem (by rw [← HN.out]; exact hlt)⟩
      obtain ⟨g, rfl, g0, g1⟩ := HAT.out i s hse
      have k0 := (HB.out.cell (World.block_lt_of_cell? _ _ g0)).trans g0
      have k1 := (HB.out.cell (World.block_lt_of_cell? _ _ g1)).trans g1
      have HSE := Lib.hid hse
      have hsz := HB.out.size
      generalize RX.idxOf s = ix at *
      clear g0 g1 hse
      go_upto_region 5 with fail
      obtain ⟨W, hWd⟩ : ∃ W, W = wr.alloc (.cells #[.int .i64 (ix : Nat), .int .u32 s.2.2] 133) := ⟨_, rfl⟩
      have hE : EV 133 W wr.heap.size [.int .i64 (ix : Nat), .int .u32 s.2.2] := hWd ▸ heap_alloc_new wr _
      have HBW : Hid (Below w.heap.size w W) := Lib.hid (hWd ▸ HB.out.alloc hsz _)
      have HRW := Lib.hid (row_off HR.out (Off.of (S := []) (hWd ▸ (Below.refl _ wr).alloc (Nat.le_refl _) _ : Below wr.heap.size wr W) (Nat.le_refl _)) (by simp))
      rw [← hWd]
      have m1 := hE.cell (i := 1) rfl
      have hsW := HBW.out.size
      generalize wr.heap.size = tb at *
      clear hWd hE k0 k1 HR HB
      go_wp2_with (at_builtin; refine wpList_list info_u rfl (by decide) (by decide) under_u _ rfl (.tmp 12) (.tmp 15) rfl w.heap.size _ i _ rfl (HRW.out.alloc _) (some ⟨W.heap.size, 0, none⟩) 1 1 [.int .u32 s.2.2] (by simp [Act.eval]) rfl (.inr ⟨_, rfl, one_at W (.int .u32 s.2.2) 32⟩) (by simp [Value.oneCell']) (by omega) (by simp; omega) ?_; intro v' w' h1 h2 _; have H1 := Lib.hid h1; have H2 := Lib.hid ((HBW.out.alloc hsW _).grown h2 (by simp; omega) (fun q e => own_geB HRW.out q e)); clear h1 h2)
      go_roundw
      case rel =>
        refine ⟨i + 1, by omega, by go_num, Lib.hid ?_, H2⟩
        rw [List.take_add_one, HSE.out, show L.take i ++ (some s).toList = L.take i ++ [s] from rfl, ids_snoc, List.map_append]
        exact H1.out
      case measure => simp [intOf]; omega
    · have hltz : ¬ (i : Int) < n := by omega
      obtain rfl : i = n := by omega
      go_wp2
      go_ret
      refine ⟨⟨_, rfl, ?_⟩, HB.out⟩
      have := HR.out
      rw [List.take_of_length_le (by rw [← HN.out]; exact Nat.le_refl _)] at this
      exact this
end Go.Proofs.YtajpboclicnopaaGreat.Ca
/-
  Knots that are filled: their cells, their blocks. No condition but those typed at each theorem.
-/
namespace Go.Proofs.YtajpboclicnopaaGreat.Ca
open Go.RowKit Go.Sort Bd
/-- from the place k on a knot has these cells -/
def KcAt (KV : List Value) (k : Nat) (cs : List Value) : Prop := ∀ i u, cs[i]? = some u → KV[k * 14 + i]? = some u
theorem KcAt.same {KV KV' : List Value} {k : Nat} {cs : List Value} (h : KcAt KV k cs) (hl : cs.length = 14) (hs : ∀ i, k * 14 ≤ i → i < k * 14 + 14 → KV'[i]? = KV[i]?) : KcAt KV' k cs := fun i u e => by
  have hi := (List.getElem?_eq_some_iff.1 e).1
  rw [hs _ (by omega) (by omega)]
  exact h i u e
/-- a knot's cells, ahead of its list, and with it -/
def kz (n : Nd) : List Value := nvs n ++ [.slice none 0 0, .slice none 0 0, .slice none 0 0, .int .i64 0, .slice none 0 0, .slice none 0 0, .slice none 0 0]
def kd (n : Nd) (l : Nat) (p : KtP) : List Value := nvs n ++ (nmc l p.z p.np ++ [p.bg])
theorem kz_len (n : Nd) : (kz n).length = 14 := rfl
theorem kd_len (n : Nd) (l : Nat) (p : KtP) : (kd n l p).length = 14 := rfl
/-- a tree's knots that have no lists -/
def KzT (KV : List Value) : Tr → Nat → Nat → Prop
  | .lf, b, f => KcAt KV b (kz (lfN f))
  | .nd l r, b, f => KzT KV l b f ∧ KzT KV r (b + sz l) (f + lv l) ∧ KcAt KV (b + sz l + sz r) (kz (inN b f l r))
theorem KzT.same {KV KV' : List Value} : ∀ {t b f}, KzT KV t b f → (∀ i, b * 14 ≤ i → i < (b + sz t) * 14 → KV'[i]? = KV[i]?) → KzT KV' t b f
  | .lf, b, f, h, hs => KcAt.same h rfl (fun i a1 a2 => hs i a1 (by have : sz .lf = 1 := rfl; omega))
  | .nd l r, b, f, h, hs => by
    have e := sz_nd l r
    exact ⟨h.1.same (fun i a1 a2 => hs i a1 (by omega)), h.2.1.same (fun i a1 a2 => hs i (by omega) (by omega)), h.2.2.same rfl (fun i a1 a2 => hs i (by omega) (by omega))⟩
/-- a knot's own blocks: all are there -/
structure KbM (W0 wr : World) (RX SP : List S3) (p : KtP) (om : Option Nat) : Prop where
  no : NoB W0 wr SP.length p.z p.np
  rn : wr.ownsRow W0.heap.size 32 1 p.np.vn SP.length ((ids SP).map (Value.int .u32))
  b0 : om = none → p.bg = .slice none 0 0
  bg : ∀ m, om = some m → wr.ownsRow W0.heap.size 3 1 p.bg (SP.length + 1) ((brs RX m SP).map (Value.int .i64))
section
variable {W0 wr w' : World} {RX LY SP : List S3} {p : KtP} {om : Option Nat}
theorem KbM.off (h : KbM W0 wr RX SP p om) {S : List Nat} (g : Off S wr w') (h1 : ∀ x ∈ mbl p.np, x ∉ S) (h2 : ∀ x ∈ rol p, x ∉ S) : KbM W0 w' RX SP p om :=
  ⟨h.no.off g h1, row_at h.rn (fun k hk => ⟨g.block k (row_lt h.rn hk).2 (h2 k (by simp [rol, hk])), (row_lt h.rn hk).1⟩), h.b0, fun m e => row_at (h.bg m e) (fun k hk => ⟨g.block k (row_lt (h.bg m e) hk).2 (h2 k (by simp [rol, hk])), (row_lt (h.bg m e) hk).1⟩)⟩
theorem KbM.keep (h : KbM W0 wr RX SP p om) (g : Below wr.heap.size wr w') : KbM W0 w' RX SP p om :=
  h.off (Off.of (S := []) g (Nat.le_refl _)) (by simp) (by simp)
theorem KbM.mono {W1 : World} (h : KbM W0 wr RX SP p om) (hle : W1.heap.size ≤ W0.heap.size) : KbM W1 wr RX SP p om :=
  ⟨⟨h.no.r, h.no.o, h.no.a, h.no.b, h.no.ne, h.no.zz, fun x hx => Nat.le_trans hle (h.no.new x hx)⟩, row_at h.rn (fun _ hk => ⟨rfl, Nat.le_trans hle (row_lt h.rn hk).1⟩), h.b0, fun m e => row_at (h.bg m e) (fun _ hk => ⟨rfl, Nat.le_trans hle (row_lt (h.bg m e) hk).1⟩)⟩
theorem KbM.lt (h : KbM W0 wr RX SP p om) : ∀ x, x ∈ mbl p.np ∨ x ∈ rol p → W0.heap.size ≤ x ∧ x < wr.heap.size := fun x hx => by
  rcases hx with hx | hx
  · exact ⟨h.no.new x hx, h.no.lt x hx⟩
  · simp only [rol, List.mem_append, Option.mem_toList] at hx
    rcases hx with hx | hx
    · exact row_lt h.rn hx
    · cases om with
      | none => rw [h.b0 rfl] at hx; cases hx
      | some m => exact row_lt (h.bg m rfl) hx
/-- a leaf's knot has no block twice -/
theorem KbM.rm (h : KbM W0 wr RX SP p om) (hb : ∀ x, p.bg.ownBlock = some x → x ∉ mbl p.np) : ∀ x ∈ rol p, x ∉ mbl p.np := fun x hx => by
  simp only [rol, List.mem_append, Option.mem_toList] at hx
  rcases hx with hx | hx
  · obtain ⟨c, e⟩ := row_type h.rn hx
    exact h.no.apart e (by decide) (by decide)
  · exact hb x hx
end
/-- a tree's knots with their lists -/
def KdT (W0 wr : World) (RX LY : List S3) (KV : List Value) (ps : Nat → KtP) : Tr → Nat → Nat → Prop
  | .lf, b, f => KcAt KV b (kd (lfN f) (SR RX LY f (f + 1)).length (ps b)) ∧ KbM W0 wr RX (SR RX LY f (f + 1)) (ps b) none
  | .nd l r, b, f => KdT W0 wr RX LY KV ps l b f ∧ KdT W0 wr RX LY KV ps r (b + sz l) (f + lv l) ∧ KcAt KV (b + sz l + sz r) (kd (inN b f l r) (SR RX LY f (f + (lv l + lv r))).length (ps (b + sz l + sz r))) ∧ KbM W0 wr RX (SR RX LY f (f + (lv l + lv r))) (ps (b + sz l + sz r)) (some (f + lv l))
section
variable {W0 wr w' : World} {RX LY : List S3} {KV KV' : List Value} {ps ps' : Nat → KtP}
theorem KdT.re {W1 : World} (hle : W1.heap.size ≤ W0.heap.size) {S : List Nat} (g : Off S wr w') : ∀ {t b f}, KdT W0 wr RX LY KV ps t b f → (∀ i, b * 14 ≤ i → i < (b + sz t) * 14 → KV'[i]? = KV[i]?) → (∀ k, b ≤ k → k < b + sz t → ps' k = ps k) → (∀ x ∈ S, x < W0.heap.size ∨ wr.heap.size ≤ x) → KdT W1 w' RX LY KV' ps' t b f
  | .lf, b, f, h, hs, hp, hS => by
    have e : sz .lf = 1 := rfl
    obtain ⟨h1, h2⟩ := h
    have hpb := hp b (Nat.le_refl _) (by omega)
    refine ⟨?_, ?_⟩
    · rw [hpb]; exact h1.same rfl (fun i a1 a2 => hs i a1 (by omega))
    · rw [hpb]
      exact (h2.off g (fun x hx hm => by have := h2.lt x (.inl hx); have := hS x hm; omega) (fun x hx hm => by have := h2.lt x (.inr hx); have := hS x hm; omega)).mono hle
  | .nd l r, b, f, h, hs, hp, hS => by
    have e := sz_nd l r
    obtain ⟨h1, h2, h3, h4⟩ := h
    have hpb := hp (b + sz l + sz r) (by omega) (by omega)
    refine ⟨KdT.re hle g h1 (fun i a1 a2 => hs i a1 (by omega)) (fun k a1 a2 => hp k a1 (by omega)) hS, KdT.re hle g h2 (fun i a1 a2 => hs i (by omega) (by omega)) (fun k a1 a2 => hp k (by omega) (by omega)) hS, ?_, ?_⟩
    · rw [hpb]; exact h3.same rfl (fun i a1 a2 => hs i (by omega) (by omega))
    · rw [hpb]
      exact (h4.off g (fun x hx hm => by have := h4.lt x (.inl hx); have := hS x hm; omega) (fun x hx hm => by have := h4.lt x (.inr hx); have := hS x hm; omega)).mono hle
theorem KdT.lt : ∀ {t b f}, KdT W0 wr RX LY KV ps t b f → ∀ k, b ≤ k → k < b + sz t → ∀ x, x ∈ mbl (ps k).np ∨ x ∈ rol (ps k) → W0.heap.size ≤ x ∧ x < wr.heap.size
  | .lf, b, f, h, k, a1, a2, x, hx => by
    have e : sz .lf = 1 := rfl
    obtain rfl : k = b := by omega
    exact h.2.lt x hx
  | .nd l r, b, f, h, k, a1, a2, x, hx => by
    have e := sz_nd l r
    obtain ⟨h1, h2, h3, h4⟩ := h
    by_cases c1 : k < b + sz l
    · exact KdT.lt h1 k a1 c1 x hx
    · by_cases c2 : k < b + sz l + sz r
      · exact KdT.lt h2 k (by omega) c2 x hx
      · obtain rfl : k = b + sz l + sz r := by omega
        exact h4.lt x hx
/-- one knot in memory -/
theorem kt_done {kb k : Nat} {n : Nd} {SP A : List S3} {p : KtP} {om : Option Nat} (hc : KcAt KV k (kd n SP.length p)) (hb : KbM W0 wr RX SP p om) (hE : EV 95 wr kb KV) (few : SP.length ≤ 8192) (nd : SP.Nodup) (hA : ∀ s ∈ SP, s ∈ A) : KtM wr kb k n RX SP A p om := by
  have hcell : ∀ i u, (kd n SP.length p)[i]? = some u → wr.cell? ⟨kb, k * 14 + i, none⟩ = some u := fun i u e => hE.cell (hc i u e)
  refine ⟨⟨hcell 0 _ rfl, hcell 1 _ rfl, hcell 2 _ rfl, hcell 3 _ rfl, hcell 4 _ rfl, hcell 5 _ rfl, hcell 6 _ rfl⟩, hb.no.mem (fun i u e => ?_) (row_at hb.rn (fun _ _ => ⟨rfl, Nat.zero_le _⟩)) few nd (hb.no.apart hE (by decide) (by decide)) hA, hcell 13 _ rfl, hb.b0, fun m e => row_at (hb.bg m e) (fun _ _ => ⟨rfl, Nat.zero_le _⟩)⟩
  have hi : i < 6 := by have := (List.getElem?_eq_some_iff.1 e).1; simpa [nmc] using this
  have := hcell (7 + i) u (by
    unfold kd
    rw [List.getElem?_append_right (by simp [nvs]), List.getElem?_append_left (by simp [nvs, nmc]; omega)]
    simpa [nvs] using e)
  rw [show k * 14 + (7 + i) = k * 14 + 7 + i by omega] at this
  exact this
theorem KdT.done {kb : Nat} (hpl : PlI RX LY) (hE : EV 95 wr kb KV) : ∀ {t b f}, KdT W0 wr RX LY KV ps t b f → KnT wr kb RX LY LY ps t b f
  | .lf, b, f, h => kt_done h.1 h.2 hE (Nat.le_trans (SR_few hpl _ _) (by decide)) (SR_ord hpl _ _).nodup (fun s hs => (SR_mem.1 hs).1)
  | .nd l r, b, f, h => ⟨KdT.done hpl hE h.1, KdT.done hpl hE h.2.1, kt_done h.2.2.1 h.2.2.2 hE (Nat.le_trans (SR_few hpl _ _) (by decide)) (SR_ord hpl _ _).nodup (fun s hs => (SR_mem.1 hs).1)⟩
/-- both kids' knots and the node's own -/
theorem Dj.join {b m e k : Nat} {lo mi hi : Nat} (h1 : Dj ps b m) (h2 : Dj ps m e) (hk : k = e) (hkm : ∀ x ∈ rol (ps k), x ∉ mbl (ps k).np)
    (a0 : ∀ x, x ∈ mbl (ps k).np ∨ x ∈ rol (ps k) → x < lo) (a1 : ∀ j, b ≤ j → j < m → ∀ x, x ∈ mbl (ps j).np ∨ x ∈ rol (ps j) → lo ≤ x ∧ x < mi) (a2 : ∀ j, m ≤ j → j < e → ∀ x, x ∈ mbl (ps j).np ∨ x ∈ rol (ps j) → mi ≤ x ∧ x < hi) (hlm : lo ≤ mi) : Dj ps b (e + 1) := by
  subst hk
  refine ⟨fun i j i1 i2 j1 j2 hij x hx hy => ?_, fun i j i1 i2 j1 j2 x hx hy => ?_⟩
  · rcases Nat.lt_or_ge i m with ci | ci
    · have xi := a1 i i1 ci x (.inl hx)
      rcases Nat.lt_or_ge j m with cj | cj
      · exact h1.mm i j i1 ci j1 cj hij x hx hy
      · rcases Nat.lt_or_ge j k with dj | dj
        · have := a2 j cj dj x (.inl hy); omega
        · obtain rfl : j = k := by omega
          have := a0 x (.inl hy); omega
    · rcases Nat.lt_or_ge i k with di | di
      · have xi := a2 i ci di x (.inl hx)
        rcases Nat.lt_or_ge j m with cj | cj
        · have := a1 j j1 cj x (.inl hy); omega
        · rcases Nat.lt_or_ge j k with dj | dj
          · exact h2.mm i j ci di cj dj hij x hx hy
          · obtain rfl : j = k := by omega
            have := a0 x (.inl hy); omega
      · obtain rfl : i = k := by omega
        have xi := a0 x (.inl hx)
        rcases Nat.lt_or_ge j m with cj | cj
        · have := a1 j j1 cj x (.inl hy); omega
        · have := a2 j cj (by omega) x (.inl hy); omega
  · rcases Nat.lt_or_ge i m with ci | ci
    · have xi := a1 i i1 ci x (.inr hx)
      rcases Nat.lt_or_ge j m with cj | cj
      · exact h1.rm i j i1 ci j1 cj x hx hy
      · rcases Nat.lt_or_ge j k with dj | dj
        · have := a2 j cj dj x (.inl hy); omega
        · obtain rfl : j = k := by omega
          have := a0 x (.inl hy); omega
    · rcases Nat.lt_or_ge i k with di | di
      · have xi := a2 i ci di x (.inr hx)
        rcases Nat.lt_or_ge j m with cj | cj
        · have := a1 j j1 cj x (.inl hy); omega
        · rcases Nat.lt_or_ge j k with dj | dj
          · exact h2.rm i j ci di cj dj x hx hy
          · obtain rfl : j = k := by omega
            have := a0 x (.inl hy); omega
      · obtain rfl : i = k := by omega
        have xi := a0 x (.inr hx)
        rcases Nat.lt_or_ge j m with cj | cj
        · have := a1 j j1 cj x (.inl hy); omega
        · rcases Nat.lt_or_ge j i with dj | dj
          · have := a2 j cj dj x (.inl hy); omega
          · obtain rfl : j = i := by omega
            exact hkm x hx hy
theorem Dj.congr {b e : Nat} (h : Dj ps b e) (hp : ∀ k, b ≤ k → k < e → ps' k = ps k) : Dj ps' b e :=
  ⟨fun j k a1 a2 a3 a4 hjk x hx => by rw [hp j a1 a2] at hx; rw [hp k a3 a4]; exact h.mm j k a1 a2 a3 a4 hjk x hx, fun j k a1 a2 a3 a4 x hx => by rw [hp j a1 a2] at hx; rw [hp k a3 a4]; exact h.rm j k a1 a2 a3 a4 x hx⟩
end
end Go.Proofs.YtajpboclicnopaaGreat.Ca
/-
  The lists of a node and of those below it are made (fill). No condition but those typed at each theorem.
-/
namespace Go.Proofs.YtajpboclicnopaaGreat.Ca
open Go.RowKit Go.Sort Bd
/-- six cells written -/
def set6 (KV : List Value) (o : Nat) (a b c d e f : Value) : List Value := (((((KV.set o a).set (o + 1) b).set (o + 2) c).set (o + 3) d).set (o + 4) e).set (o + 5) f
theorem set6_out (KV : List Value) (o : Nat) (a b c d e f : Value) {i : Nat} (h : i < o ∨ o + 6 ≤ i) : (set6 KV o a b c d e f)[i]? = KV[i]? := by
  unfold set6
  rw [List.getElem?_set_ne (by omega), List.getElem?_set_ne (by omega), List.getElem?_set_ne (by omega), List.getElem?_set_ne (by omega), List.getElem?_set_ne (by omega), List.getElem?_set_ne (by omega)]
theorem set6_in (KV : List Value) (o : Nat) (a b c d e f : Value) (h : o + 5 < KV.length) : ∀ i u, [a, b, c, d, e, f][i]? = some u → (set6 KV o a b c d e f)[o + i]? = some u := by
  intro i u hu
  unfold set6
  match i, hu with
  | 0, hu => simp at hu; subst hu; rw [List.getElem?_set_ne (by omega), List.getElem?_set_ne (by omega), List.getElem?_set_ne (by omega), List.getElem?_set_ne (by omega), List.getElem?_set_ne (by omega), Nat.add_zero, List.getElem?_set_self (by omega)]
  | 1, hu => simp at hu; subst hu; rw [List.getElem?_set_ne (by omega), List.getElem?_set_ne (by omega), List.getElem?_set_ne (by omega), List.getElem?_set_ne (by omega), List.getElem?_set_self (by simp; omega)]
  | 2, hu => simp at hu; subst hu; rw [List.getElem?_set_ne (by omega), List.getElem?_set_ne (by omega), List.getElem?_set_ne (by omega), List.getElem?_set_self (by simp; omega)]
  | 3, hu => simp at hu; subst hu; rw [List.getElem?_set_ne (by omega), List.getElem?_set_ne (by omega), List.getElem?_set_self (by simp; omega)]
  | 4, hu => simp at hu; subst hu; rw [List.getElem?_set_ne (by omega), List.getElem?_set_self (by simp; omega)]
  | 5, hu => simp at hu; subst hu; rw [List.getElem?_set_self (by simp; omega)]
  | n + 6, hu => simp at hu
theorem set6_len (KV : List Value) (o : Nat) (a b c d e f : Value) : (set6 KV o a b c d e f).length = KV.length := by simp [set6]
section
variable {kb B : Nat} {RX LY : List S3}
/-- a knot's cells: six of them written, and the bridges -/
theorem kd_set {KV : List Value} {k l z : Nat} {n : Nd} {vn bg : Value} {br bo ba bw : Nat} (h : KcAt KV k (kz n)) : KcAt ((set6 KV (k * 14 + 7) vn (.slice (some ⟨br, 0, none⟩) (l + 1) (l + 1)) (.slice (some ⟨bo, 0, none⟩) (l + 1) (l + 1)) (.int .i64 z) (.slice (some ⟨ba, 0, none⟩) (l / z + 1) (l / z + 1)) (.slice (some ⟨bw, 0, none⟩) (l + 1) (l + 1))).set (k * 14 + 13) bg) k (kd n l ⟨⟨vn, br, bo, ba, bw⟩, z, bg⟩) := by
  have h13 := (List.getElem?_eq_some_iff.1 (h 13 _ rfl)).1
  intro i u hu
  have hi : i < 14 := by have := (List.getElem?_eq_some_iff.1 hu).1; rw [kd_len] at this; exact this
  by_cases c1 : i < 7
  · rw [List.getElem?_set_ne (by omega), set6_out _ _ _ _ _ _ _ _ (by omega)]
    refine h i u ?_
    unfold kz
    unfold kd at hu
    rw [List.getElem?_append_left (by simp [nvs]; omega)] at hu ⊢
    exact hu
  · by_cases c2 : i < 13
    · rw [List.getElem?_set_ne (by omega), show k * 14 + i = k * 14 + 7 + (i - 7) by omega]
      refine set6_in _ _ _ _ _ _ _ _ (by omega) (i - 7) u ?_
      unfold kd at hu
      rw [List.getElem?_append_right (by simp [nvs]; omega), List.getElem?_append_left (by simp [nvs, nmc]; omega)] at hu
      simpa [nvs, nmc] using hu
    · obtain rfl : i = 13 := by omega
      rw [List.getElem?_set_self (by rw [set6_len]; exact h13)]
      exact hu
theorem kd_set0 {KV : List Value} {k l z : Nat} {n : Nd} {vn : Value} {br bo ba bw : Nat} (h : KcAt KV k (kz n)) : KcAt (set6 KV (k * 14 + 7) vn (.slice (some ⟨br, 0, none⟩) (l + 1) (l + 1)) (.slice (some ⟨bo, 0, none⟩) (l + 1) (l + 1)) (.int .i64 z) (.slice (some ⟨ba, 0, none⟩) (l / z + 1) (l / z + 1)) (.slice (some ⟨bw, 0, none⟩) (l + 1) (l + 1))) k (kd n l ⟨⟨vn, br, bo, ba, bw⟩, z, .slice none 0 0⟩) := by
  intro i u hu
  have h1 := kd_set (l := l) (z := z) (vn := vn) (bg := .slice none 0 0) (br := br) (bo := bo) (ba := ba) (bw := bw) h i u hu
  rw [List.getElem?_set] at h1
  split at h1
  · rename_i e
    split at h1
    · rw [← e, set6_out _ _ _ _ _ _ _ _ (by omega), ← h1]
      exact h 13 _ rfl
    · cases h1
  · exact h1
/-- a knot's own blocks behind the writes -/
theorem own_made {w w1 w2 w6 : World} {SP : List S3} {vn : Value} {np : NmP} {z : Nat} {KV : List Value} (hB1 : Below w.heap.size w w1) (hr : w1.ownsRow w.heap.size 32 1 vn SP.length ((ids SP).map (Value.int .u32))) (hB2 : Below w1.heap.size w1 w2) (hno : NoB w1 w2 SP.length z np) (hvn : np.vn = vn) (hE : EV 95 w2 kb KV) (ho : Off [kb] w2 w6) :
    KbM w w6 RX SP ⟨np, z, .slice none 0 0⟩ none := by
  have hkb : ∀ x ∈ mbl np, x ∉ [kb] := fun x hx hm => by
    rw [List.mem_singleton.1 hm] at hx
    exact hno.apart hE (by decide) (by decide) hx
  have h1 := hno.off ho hkb
  have hr2 := row_keep hr hB2
  refine ⟨⟨h1.r, h1.o, h1.a, h1.b, h1.ne, h1.zz, fun x hx => Nat.le_trans hB1.size (h1.new x hx)⟩, ?_, fun _ => rfl, fun m e => by cases e⟩
  show w6.ownsRow _ _ _ np.vn _ _
  rw [hvn]
  refine row_at hr2 (fun k hk => ⟨ho.block k (row_lt hr2 hk).2 (fun hm => ?_), (row_lt hr2 hk).1⟩)
  obtain ⟨c, e⟩ := row_type hr2 hk
  exact types_ne e hE (by decide) (List.mem_singleton.1 hm)
set_option maxRecDepth 100000 in
set_option maxHeartbeats 6400000 in
theorem fill_leaf (hpl : PlI RX LY) {w : World} {b f m cap : Nat} {v : Value} {KV : List Value} (hE : EV 95 w kb KV) (c5 : w.cell? ⟨B, 5, none⟩ = some (.slice (some ⟨kb, 0, none⟩) m cap)) (hbm : b < m) (hz : KcAt KV b (kz (lfN f))) (hv : SeR w 0 RX (SR RX LY f (f + 1)) v) :
    Calls Tryz.prog 64 #[.pointer (some ⟨B, 0, none⟩), .int .i64 (b : Nat), v] w fun e w' => e = .returned (.tuple #[]) ∧ ∃ KV' ps, EV 95 w' kb KV' ∧ (∀ i, (i < b * 14 ∨ (b + 1) * 14 ≤ i) → KV'[i]? = KV[i]?) ∧ KdT w w' RX LY KV' ps .lf b f ∧ Dj ps b (b + 1) ∧ Off [kb] w w' := by
  have hfew := SR_few hpl f (f + 1)
  have HNM := Lib.hid (names_any hv (by omega))
  have HE := Lib.hid hE
  have HZ := Lib.hid hz
  obtain ⟨sl, hsl⟩ : ∃ sl, sl = (SR RX LY f (f + 1)).length := ⟨_, rfl⟩
  have HSL := Lib.hid hsl
  have HNO := Lib.hid (fun X pn cn => namesOf_any X pn sl cn (by omega))
  have n0 := hE.cell (hz 0 _ rfl)
  simp only [Nat.add_zero] at n0
  obtain ⟨p, c, rfl, -⟩ := hv.shape
  rw [← hsl] at HNM ⊢
  clear hE hz hv hsl hfew
  go_enter Tryz.func64, Tryz.ntmps64
  go_wp2_with (first
    | (go_at_call 102; (with_reducible refine HNM.out.mono ?_); rintro e w1 ⟨⟨v2, rfl, hr2⟩, hb⟩; have hr2' := hr2; rw [HSL.out, ← ids_len] at hr2'; obtain ⟨-, pn, cn, ev2, -, -, -⟩ := row_u hr2'; rw [ids_len, ← HSL.out] at ev2; subst ev2; have HB1 := Lib.hid hb; have HR2 := Lib.hid hr2; have HN1 := Lib.hid (HNO.out w1 pn cn); clear hb hr2 hr2')
    | (go_at_call 101; refine HN1.out.mono ?_; rintro e w2 ⟨⟨vn, br, bo, ba, bw⟩, z, hvn, rfl, hno, hb⟩; simp only at hvn; subst hvn; have HB2 := Lib.hid hb; have HNB := Lib.hid hno; have hE2 := (HE.out.keep HB1.out HE.out.lt).keep hb (Nat.lt_of_lt_of_le HE.out.lt HB1.out.size); have HE2 := Lib.hid hE2; have e7 := hE2.cell (HZ.out 7 _ rfl); have f7 := hE2.free (b * 14 + 7); have e8 := hE2.cell (HZ.out 8 _ rfl); have f8 := hE2.free (b * 14 + 8); have e9 := hE2.cell (HZ.out 9 _ rfl); have f9 := hE2.free (b * 14 + 9); have ea := hE2.cell (HZ.out 10 _ rfl); have fa := hE2.free (b * 14 + 10); have eb := hE2.cell (HZ.out 11 _ rfl); have fb := hE2.free (b * 14 + 11); have ec := hE2.cell (HZ.out 12 _ rfl); have fc := hE2.free (b * 14 + 12); have m0 := ((HB1.out.trans (hb.mono HB1.out.size)).cell (World.block_lt_of_cell? _ _ n0)).trans n0; clear hb hno hE2; unfold nmc; simp only []))
  refine bodyPost_ret (results_none rfl _ _ _) rfl ?_
  have hs6 : Off [kb] w2 ((((((w2.setCell ⟨kb, b * 14 + 7, none⟩ (.slice pn sl cn)).setCell ⟨kb, b * 14 + 8, none⟩ (.slice (some ⟨br, 0, none⟩) (sl + 1) (sl + 1))).setCell ⟨kb, b * 14 + 9, none⟩ (.slice (some ⟨bo, 0, none⟩) (sl + 1) (sl + 1))).setCell ⟨kb, b * 14 + 10, none⟩ (.int .i64 z)).setCell ⟨kb, b * 14 + 11, none⟩ (.slice (some ⟨ba, 0, none⟩) (sl / z + 1) (sl / z + 1))).setCell ⟨kb, b * 14 + 12, none⟩ (.slice (some ⟨bw, 0, none⟩) (sl + 1) (sl + 1))) := ((((((Off.refl [kb] w2).set _ _ (.inl (by simp))).set _ _ (.inl (by simp))).set _ _ (.inl (by simp))).set _ _ (.inl (by simp))).set _ _ (.inl (by simp))).set _ _ (.inl (by simp))
  have hown : KbM w _ RX (SR RX LY f (f + 1)) ⟨⟨.slice pn sl cn, br, bo, ba, bw⟩, z, .slice none 0 0⟩ none := own_made (RX := RX) HB1.out (by have := HR2.out; rw [HSL.out] at this; rw [← HSL.out] at this ⊢; exact this) HB2.out (by rw [← HSL.out]; exact HNB.out) rfl HE2.out hs6
  refine ⟨rfl, _, fun _ => ⟨⟨.slice pn sl cn, br, bo, ba, bw⟩, z, .slice none 0 0⟩, ((((((HE2.out.set (b * 14 + 7) _).set (b * 14 + 8) _).set (b * 14 + 9) _).set (b * 14 + 10) _).set (b * 14 + 11) _).set (b * 14 + 12) _), fun i hi => set6_out KV (b * 14 + 7) _ _ _ _ _ _ (by omega), ⟨by rw [← HSL.out]; exact kd_set0 HZ.out, hown⟩, ⟨fun j k a1 a2 a3 a4 hjk => absurd (show j = k by omega) hjk, fun j k _ _ _ _ => hown.rm (fun x hx => by cases hx)⟩, ((Off.of (S := [kb]) HB1.out (Nat.le_refl _)).trans (Off.of (S := [kb]) HB2.out (Nat.le_refl _))).trans hs6⟩
end
end Go.Proofs.YtajpboclicnopaaGreat.Ca
/-
  The lists of a node over two kids, and of those below it, are made (fill). No condition but those typed at each theorem.
-/
namespace Go.Proofs.YtajpboclicnopaaGreat.Ca
open Go.RowKit Go.Sort Bd
theorem set_same {α : Type} {L : List α} {i : Nat} {a : α} (h : L[i]? = some a) : L.set i a = L := by
  refine List.ext_getElem? (fun j => ?_)
  rw [List.getElem?_set]
  split
  · rename_i e
    subst e
    rw [if_pos (List.getElem?_eq_some_iff.1 h).1, h]
  · rfl
theorem set_twice {α : Type} (L : List α) (i : Nat) (a b : α) : (L.set i a).set i b = L.set i b := by simp
/-- what fill does -/
def FillR (kb : Nat) (RX LY : List S3) (w : World) (KV : List Value) (t : Tr) (b f : Nat) (e : Ending) (w' : World) : Prop :=
  e = .returned (.tuple #[]) ∧ ∃ KV' ps, EV 95 w' kb KV' ∧ (∀ i, (i < b * 14 ∨ (b + sz t) * 14 ≤ i) → KV'[i]? = KV[i]?) ∧ KdT w w' RX LY KV' ps t b f ∧ Dj ps b (b + sz t) ∧ Off [kb] w w'
/-- a number put behind the numbers of a row of one's own that lies in a cell -/
theorem row_base' {w : World} {base base' n : Nat} {e : TypeId} {size : Nat} {v : Value} {xs : List Value} (h : w.ownsRow base e size v n xs) (hb : ∀ k, v.ownBlock = some k → base' ≤ k) : w.ownsRow base' e size v n xs := row_at h (fun k hk => ⟨rfl, hb k hk⟩)
section
variable {kb B : Nat} {RX LY : List S3}
/-- the left kid's, and the right kid's, of the first ones -/
def lfS (RX : List S3) (mid : Nat) (SP : List S3) (i : Nat) : List S3 := (SP.take i).filter (fun s => decide (RX.idxOf s < mid))
def rgS (RX : List S3) (mid : Nat) (SP : List S3) (i : Nat) : List S3 := (SP.take i).filter (fun s => !decide (RX.idxOf s < mid))
theorem lfS_len (RX : List S3) (mid : Nat) (SP : List S3) (i : Nat) : (lfS RX mid SP i).length = brg RX mid SP i := by unfold lfS brg; rw [List.countP_eq_length_filter]
theorem lfS_step {RX : List S3} {mid : Nat} {SP : List S3} {i : Nat} {s : S3} (h : SP[i]? = some s) : lfS RX mid SP (i + 1) = lfS RX mid SP i ++ (if RX.idxOf s < mid then [s] else []) := by
  unfold lfS
  rw [List.take_add_one, h, List.filter_append]
  by_cases c : RX.idxOf s < mid <;> simp [c]
theorem rgS_step {RX : List S3} {mid : Nat} {SP : List S3} {i : Nat} {s : S3} (h : SP[i]? = some s) : rgS RX mid SP (i + 1) = rgS RX mid SP i ++ (if RX.idxOf s < mid then [] else [s]) := by
  unfold rgS
  rw [List.take_add_one, h, List.filter_append]
  by_cases c : RX.idxOf s < mid <;> simp [c]
theorem brs_take {RX : List S3} {m : Nat} {SP : List S3} {i : Nat} (h : i ≤ SP.length) : (brs RX m SP).take (i + 1) = (brs RX m SP).take i ++ [((brg RX m SP i : Nat) : Int)] := by
  rw [List.take_add_one, brs_get RX m SP h]
  rfl
/-- in the midst of the loop -/
structure FlM (wN wr : World) (kb k : Nat) (RX : List S3) (mid : Nat) (SP : List S3) (S6 : List Value) (i : Nat) (vl vr vb : Value) : Prop where
  sl : SeR wr wN.heap.size RX (lfS RX mid SP i) vl
  sr : SeR wr wN.heap.size RX (rgS RX mid SP i) vr
  rb : wr.ownsRow wN.heap.size 3 1 vb i (((brs RX mid SP).take i).map (Value.int .i64))
  ev : EV 95 wr kb (S6.set (k * 14 + 13) vb)
  lr : ∀ x, vl.ownBlock = some x → vr.ownBlock ≠ some x
  off : Off [kb] wN wr
section
variable {wN wr w' : World} {k mid i : Nat} {SP : List S3} {S6 : List Value} {vl vr vb : Value}
theorem FlM.keep (h : FlM wN wr kb k RX mid SP S6 i vl vr vb) (g : Below wr.heap.size wr w') : FlM wN w' kb k RX mid SP S6 i vl vr vb :=
  ⟨h.sl.keep g, h.sr.keep g, row_keep h.rb g, h.ev.keep g h.ev.lt, h.lr, h.off.bel g⟩
theorem FlM.kbb (h : FlM wN wr kb k RX mid SP S6 i vl vr vb) : some kb ≠ vb.ownBlock := fun c => by
  obtain ⟨x, e⟩ := row_type h.rb c.symm
  exact types_ne h.ev e (by decide) rfl
/-- one bridge more is laid -/
structure FmM (wN wr : World) (kb k : Nat) (RX : List S3) (mid : Nat) (SP : List S3) (S6 : List Value) (i : Nat) (vl vr vb : Value) : Prop where
  sl : SeR wr wN.heap.size RX (lfS RX mid SP i) vl
  sr : SeR wr wN.heap.size RX (rgS RX mid SP i) vr
  rb : wr.ownsRow wN.heap.size 3 1 vb (i + 1) (((brs RX mid SP).take (i + 1)).map (Value.int .i64))
  ev : EV 95 wr kb (S6.set (k * 14 + 13) vb)
  lr : ∀ x, vl.ownBlock = some x → vr.ownBlock ≠ some x
  off : Off [kb] wN wr
theorem FmM.keep (h : FmM wN wr kb k RX mid SP S6 i vl vr vb) (g : Below wr.heap.size wr w') : FmM wN w' kb k RX mid SP S6 i vl vr vb :=
  ⟨h.sl.keep g, h.sr.keep g, row_keep h.rb g, h.ev.keep g h.ev.lt, h.lr, h.off.bel g⟩
theorem FlM.brid {W w5 : World} {g cap : Nat} (h : FlM wN W kb k RX mid SP S6 i vl vr vb) (hi : i ≤ SP.length) (o : Obj) (r1 : w5.ownsRow 0 3 1 (.slice (some ⟨g, 0, none⟩) (i + 1) cap) (i + 1) (((brs RX mid SP).take i).map (Value.int .i64) ++ [.int .i64 (brg RX mid SP i : Nat)])) (r2 : (W.alloc o).grownBy w5 vb.ownBlock) (r3 : vb.ownBlock = some g ∨ g = (W.alloc o).heap.size) :
    FmM wN (w5.setCell ⟨kb, k * 14 + 13, none⟩ (.slice (some ⟨g, 0, none⟩) (i + 1) cap)) kb k RX mid SP S6 i vl vr (.slice (some ⟨g, 0, none⟩) (i + 1) cap) := by
  have hoff : Off vb.ownBlock.toList W w5 := ((Off.refl _ W).all _).grow r2 (fun k e => .inl (by simp [e]))
  have hE5 := EV.grown (h.ev.all o) r2 h.kbb
  have hset := (Off.refl [kb] w5).set ⟨kb, k * 14 + 13, none⟩ (.slice (some ⟨g, 0, none⟩) (i + 1) cap) (.inl (by simp))
  have tS : ∀ {v : Value} {M : List S3}, SeR W wN.heap.size RX M v → SeR (w5.setCell ⟨kb, k * 14 + 13, none⟩ (.slice (some ⟨g, 0, none⟩) (i + 1) cap)) wN.heap.size RX M v := fun {v M} hv => by
    have h1 := hv.off hoff (fun x hx hm => by
      obtain ⟨c1, e1⟩ := row_type hv hx
      obtain ⟨c2, e2⟩ := row_type h.rb (by simpa using hm)
      exact types_ne e1 e2 (by decide) rfl)
    refine h1.off hset (fun x hx hm => ?_)
    obtain ⟨c1, e1⟩ := row_type h1 hx
    exact types_ne e1 hE5 (by decide) (List.mem_singleton.1 hm)
  have hoffN : Off [kb] wN w5 := h.off.via hoff (fun x hx hm => by have := (row_lt h.rb (by simpa using hm)).1; omega)
  have hgl : wN.heap.size ≤ g := r3.elim (fun e => (row_lt h.rb e).1) (fun e => by have := h.off.size; simp at e; omega)
  refine ⟨tS h.sl, tS h.sr, ?_, ?_, h.lr, hoffN.trans hset⟩
  · rw [brs_take hi, List.map_append]
    have h1 : w5.ownsRow wN.heap.size 3 1 (.slice (some ⟨g, 0, none⟩) (i + 1) cap) (i + 1) (((brs RX mid SP).take i).map (Value.int .i64) ++ [.int .i64 (brg RX mid SP i : Nat)]) := row_base' r1 (fun x hx => by simp [Value.ownBlock] at hx; subst hx; exact hgl)
    refine row_at h1 (fun x hx => ⟨hset.block x (row_lt h1 hx).2 (fun hm => ?_), (row_lt h1 hx).1⟩)
    obtain ⟨c1, e1⟩ := row_type h1 hx
    exact types_ne e1 hE5 (by decide) (List.mem_singleton.1 hm)
  · have := hE5.set (k * 14 + 13) (.slice (some ⟨g, 0, none⟩) (i + 1) cap)
    rw [set_twice] at this
    exact this
/-- one seat more, on the left -/
theorem FmM.left {W w5 : World} {g cap : Nat} {s : S3} (h : FmM wN W kb k RX mid SP S6 i vl vr vb) (hs : SP[i]? = some s) (hlt : RX.idxOf s < mid) (o : Obj) (r1 : w5.ownsRow 0 133 2 (.slice (some ⟨g, 0, none⟩) ((lfS RX mid SP i).length + 1) cap) ((lfS RX mid SP i).length + 1) (flatS RX (lfS RX mid SP i) ++ stv RX s)) (r2 : (W.alloc o).grownBy w5 vl.ownBlock) (r3 : vl.ownBlock = some g ∨ g = (W.alloc o).heap.size) :
    FlM wN w5 kb k RX mid SP S6 (i + 1) (.slice (some ⟨g, 0, none⟩) ((lfS RX mid SP i).length + 1) cap) vr vb := by
  have hoff : Off vl.ownBlock.toList W w5 := ((Off.refl _ W).all _).grow r2 (fun k e => .inl (by simp [e]))
  have hgl : wN.heap.size ≤ g := r3.elim (fun e => (row_lt h.sl e).1) (fun e => by have := h.off.size; simp at e; omega)
  have tl : ∀ {t : TypeId} {c : Array Value} {x : Nat}, W.heap[x]? = some (.cells c t (0, 0)) → t ≠ 133 → x ∉ vl.ownBlock.toList := fun {t c x} e ht hm => by
    obtain ⟨c', e'⟩ := row_type h.sl (by simpa using hm)
    exact types_ne e e' ht rfl
  refine ⟨?_, ?_, row_at h.rb (fun x hx => ?_), h.ev.off hoff (tl h.ev (by decide)), fun x hx hy => ?_, h.off.via hoff (fun x hx hm => by have := (row_lt h.sl (by simpa using hm)).1; omega)⟩
  · rw [lfS_step hs, if_pos hlt]
    show w5.ownsRow _ _ _ _ _ _
    rw [flatS_snoc, List.length_append, List.length_singleton]
    exact row_base' r1 (fun x hx => by simp [Value.ownBlock] at hx; subst hx; exact hgl)
  · rw [rgS_step hs, if_pos hlt, List.append_nil]
    exact h.sr.off hoff (fun x hx hm => h.lr x (by simpa using hm) hx)
  · obtain ⟨c, e⟩ := row_type h.rb hx
    exact ⟨hoff.block x (row_lt h.rb hx).2 (tl e (by decide)), (row_lt h.rb hx).1⟩
  · simp [Value.ownBlock] at hx
    subst hx
    rcases r3 with e | e
    · exact h.lr _ e hy
    · have := (row_lt h.sr hy).2; simp at e; omega
/-- one seat more, on the right -/
theorem FmM.right {W w5 : World} {g cap : Nat} {s : S3} (h : FmM wN W kb k RX mid SP S6 i vl vr vb) (hs : SP[i]? = some s) (hlt : ¬ RX.idxOf s < mid) (o : Obj) (r1 : w5.ownsRow 0 133 2 (.slice (some ⟨g, 0, none⟩) ((rgS RX mid SP i).length + 1) cap) ((rgS RX mid SP i).length + 1) (flatS RX (rgS RX mid SP i) ++ stv RX s)) (r2 : (W.alloc o).grownBy w5 vr.ownBlock) (r3 : vr.ownBlock = some g ∨ g = (W.alloc o).heap.size) :
    FlM wN w5 kb k RX mid SP S6 (i + 1) vl (.slice (some ⟨g, 0, none⟩) ((rgS RX mid SP i).length + 1) cap) vb := by
  have hoff : Off vr.ownBlock.toList W w5 := ((Off.refl _ W).all _).grow r2 (fun k e => .inl (by simp [e]))
  have hgl : wN.heap.size ≤ g := r3.elim (fun e => (row_lt h.sr e).1) (fun e => by have := h.off.size; simp at e; omega)
  have tl : ∀ {t : TypeId} {c : Array Value} {x : Nat}, W.heap[x]? = some (.cells c t (0, 0)) → t ≠ 133 → x ∉ vr.ownBlock.toList := fun {t c x} e ht hm => by
    obtain ⟨c', e'⟩ := row_type h.sr (by simpa using hm)
    exact types_ne e e' ht rfl
  refine ⟨?_, ?_, row_at h.rb (fun x hx => ?_), h.ev.off hoff (tl h.ev (by decide)), fun x hx hy => ?_, h.off.via hoff (fun x hx hm => by have := (row_lt h.sr (by simpa using hm)).1; omega)⟩
  · rw [lfS_step hs, if_neg hlt, List.append_nil]
    exact h.sl.off hoff (fun x hx hm => h.lr x hx (by simpa using hm))
  · rw [rgS_step hs, if_neg hlt]
    show w5.ownsRow _ _ _ _ _ _
    rw [flatS_snoc, List.length_append, List.length_singleton]
    exact row_base' r1 (fun x hx => by simp [Value.ownBlock] at hx; subst hx; exact hgl)
  · obtain ⟨c, e⟩ := row_type h.rb hx
    exact ⟨hoff.block x (row_lt h.rb hx).2 (tl e (by decide)), (row_lt h.rb hx).1⟩
  · simp [Value.ownBlock] at hy
    subst hy
    rcases r3 with e | e
    · exact h.lr _ hx e
    · have := (row_lt h.sl hx).2; simp at e; omega
end
end
end Go.Proofs.YtajpboclicnopaaGreat.Ca
