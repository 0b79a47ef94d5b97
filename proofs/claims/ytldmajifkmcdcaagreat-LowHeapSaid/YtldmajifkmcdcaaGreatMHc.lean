/-
  A heap's search as it goes on or stops, how one is put in, how one is found on its way down: plain words. No condition but those typed at each theorem.
-/
import Derived.Test.YtldmajifkmcdcaaGreatMH
import Derived.Test.YtldmajifkmcdcaaGreatMN
import Derived.Test.YtldmajifkmcdcaaGreatMBa
import Derived.Test.YtldmajifkmcdcaaGreatMP
namespace Go.Proofs.YtldmajifkmcdcaaGreat.Hp
section
variable {lt : S3 → S3 → Bool} {pl : S3 → Nat}
/-- a search of the places from a on, ahead of b, up to y: what is told, whether more is asked for yet, how many nodes are entered; more: whether who is told asks for more -/
def goT (pl : S3 → Nat) (a b : Nat) (y : Int) (more : Bool) : Nat → HT → List S3 × Bool × Nat
  | f, .lf h => if b ≤ f ∨ f + 1 ≤ a then ([], true, 1) else match h with
    | none => ([], true, 1)
    | some s => if s.2.1 ≤ y then (if a ≤ pl s ∧ pl s < b then ([s], more, 1) else ([], true, 1)) else ([], true, 1)
  | f, .nd h l r => if b ≤ f ∨ f + (lvT l + lvT r) ≤ a then ([], true, 1) else match h with
    | none => ([], true, 1)
    | some s => if s.2.1 ≤ y then (if (a ≤ pl s ∧ pl s < b) ∧ more = false then ([s], false, 1) else
        if (goT pl a b y more f l).2.1 = true then ((if a ≤ pl s ∧ pl s < b then [s] else []) ++ ((goT pl a b y more f l).1 ++ (goT pl a b y more (f + lvT l) r).1), (goT pl a b y more (f + lvT l) r).2.1, 1 + (goT pl a b y more f l).2.2 + (goT pl a b y more (f + lvT l) r).2.2)
        else ((if a ≤ pl s ∧ pl s < b then [s] else []) ++ (goT pl a b y more f l).1, false, 1 + (goT pl a b y more f l).2.2)) else ([], true, 1)
section
variable {a b f : Nat} {y : Int} {more : Bool}
theorem go_lf_out {h : Option S3} (ho : b ≤ f ∨ f + 1 ≤ a) : goT pl a b y more f (.lf h) = ([], true, 1) := by
  cases h <;> simp only [goT, if_pos ho]
theorem go_lf_none : goT pl a b y more f (.lf none) = ([], true, 1) := by
  simp only [goT]
  split <;> rfl
theorem go_lf_some {s : S3} (ho : ¬ (b ≤ f ∨ f + 1 ≤ a)) : goT pl a b y more f (.lf (some s)) = if s.2.1 ≤ y then (if a ≤ pl s ∧ pl s < b then ([s], more, 1) else ([], true, 1)) else ([], true, 1) := by
  simp only [goT, if_neg ho]
theorem go_nd_out {h : Option S3} {l r : HT} (ho : b ≤ f ∨ f + (lvT l + lvT r) ≤ a) : goT pl a b y more f (.nd h l r) = ([], true, 1) := by
  cases h <;> simp only [goT, if_pos ho]
theorem go_nd_none {l r : HT} : goT pl a b y more f (.nd none l r) = ([], true, 1) := by
  simp only [goT]
  split <;> rfl
theorem go_nd_some {s : S3} {l r : HT} (ho : ¬ (b ≤ f ∨ f + (lvT l + lvT r) ≤ a)) : goT pl a b y more f (.nd (some s) l r) = if s.2.1 ≤ y then (if (a ≤ pl s ∧ pl s < b) ∧ more = false then ([s], false, 1) else
        if (goT pl a b y more f l).2.1 = true then ((if a ≤ pl s ∧ pl s < b then [s] else []) ++ ((goT pl a b y more f l).1 ++ (goT pl a b y more (f + lvT l) r).1), (goT pl a b y more (f + lvT l) r).2.1, 1 + (goT pl a b y more f l).2.2 + (goT pl a b y more (f + lvT l) r).2.2)
        else ((if a ≤ pl s ∧ pl s < b then [s] else []) ++ (goT pl a b y more f l).1, false, 1 + (goT pl a b y more f l).2.2)) else ([], true, 1) := by
  rw [goT, if_neg ho]
end
/-- who is told was entered -/
theorem told_ent {a b : Nat} {y : Int} : ∀ T f, (toldT pl a b y f T).length ≤ entT a b y f T
  | .lf none, f => by
    simp only [toldT, entT]
    split <;> simp
  | .lf (some s), f => by
    simp only [toldT, entT]
    split
    · simp
    · split
      · split <;> simp
      · simp
  | .nd none l r, f => by
    simp only [toldT, entT]
    split <;> simp
  | .nd (some s) l r, f => by
    have h1 := told_ent (a := a) (b := b) (y := y) l f
    have h2 := told_ent (a := a) (b := b) (y := y) r (f + lvT l)
    have u : (if a ≤ pl s ∧ pl s < b then [s] else []).length ≤ 1 := by split <;> simp
    simp only [toldT, entT]
    split
    · simp
    · split
      · simp only [List.length_append]
        omega
      · simp
/-- who always asks for more is told all -/
theorem go_all {a b : Nat} {y : Int} : ∀ T f, goT pl a b y true f T = (toldT pl a b y f T, true, entT a b y f T)
  | .lf none, f => by
    simp only [goT, toldT, entT]
    split <;> rfl
  | .lf (some s), f => by
    simp only [goT, toldT, entT]
    by_cases h1 : b ≤ f ∨ f + 1 ≤ a
    · simp only [if_pos h1]
    · by_cases h2 : s.2.1 ≤ y <;> by_cases h3 : a ≤ pl s ∧ pl s < b <;> simp [if_neg h1, h2, h3]
  | .nd none l r, f => by
    simp only [goT, toldT, entT]
    split <;> rfl
  | .nd (some s) l r, f => by
    have h1 := go_all (a := a) (b := b) (y := y) l f
    have h2 := go_all (a := a) (b := b) (y := y) r (f + lvT l)
    simp only [goT, toldT, entT, h1, h2]
    by_cases h1 : b ≤ f ∨ f + (lvT l + lvT r) ≤ a
    · simp only [if_pos h1]
    · by_cases h2 : s.2.1 ≤ y <;> simp [if_neg h1, h2]
/-- who asks for no more is told one, if there is any -/
theorem go_one {a b : Nat} {y : Int} : ∀ T f, (goT pl a b y false f T).2.1 = !(anyT pl a b y f T).1 ∧ (goT pl a b y false f T).2.2 = (anyT pl a b y f T).2 ∧ ((goT pl a b y false f T).1 = [] ↔ (anyT pl a b y f T).1 = false)
  | .lf none, f => by
    simp only [goT, anyT]
    split <;> simp
  | .lf (some s), f => by
    simp only [goT, anyT]
    by_cases h1 : b ≤ f ∨ f + 1 ≤ a
    · simp [if_pos h1]
    · by_cases h2 : s.2.1 ≤ y <;> by_cases h3 : a ≤ pl s ∧ pl s < b <;> simp [if_neg h1, h2, h3]
  | .nd none l r, f => by
    simp only [goT, anyT]
    split <;> simp
  | .nd (some s) l r, f => by
    obtain ⟨p1, p2, p3⟩ := go_one (a := a) (b := b) (y := y) l f
    obtain ⟨q1, q2, q3⟩ := go_one (a := a) (b := b) (y := y) r (f + lvT l)
    simp only [goT, anyT]
    by_cases h1 : b ≤ f ∨ f + (lvT l + lvT r) ≤ a
    · simp [if_pos h1]
    · rw [if_neg h1, if_neg h1]
      by_cases h2 : s.2.1 ≤ y
      · rw [if_pos h2, if_pos h2]
        by_cases hc : a ≤ pl s ∧ pl s < b
        · simp [hc]
        · rw [if_neg (fun h => hc h.1), if_neg hc, if_neg hc]
          cases ha : (anyT pl a b y f l).1 with
          | true =>
            rw [ha] at p1 p3
            rw [if_neg (by rw [p1]; simp), if_pos rfl]
            simp [p2, p3]
          | false =>
            rw [ha] at p1 p3
            rw [if_pos (by rw [p1]; rfl), if_neg (by simp)]
            simp [p2, q1, q2, p3.2 rfl, q3]
      · rw [if_neg h2, if_neg h2]
        simp
theorem go_len {a b : Nat} {y : Int} {more : Bool} : ∀ T f, (goT pl a b y more f T).1.length + 1 ≤ 2 * lvT T ∧ (goT pl a b y more f T).2.2 + 1 ≤ 2 * lvT T
  | .lf h, f => by
    unfold goT
    split
    · simp [lvT]
    · split
      · simp [lvT]
      · split
        · split <;> simp [lvT]
        · simp [lvT]
  | .nd h l r, f => by
    obtain ⟨p1, p2⟩ := go_len (a := a) (b := b) (y := y) (more := more) l f
    obtain ⟨q1, q2⟩ := go_len (a := a) (b := b) (y := y) (more := more) r (f + lvT l)
    have u : ∀ s : S3, (if a ≤ pl s ∧ pl s < b then [s] else []).length ≤ 1 := fun s => by split <;> simp
    have h3 := lvT_pos l
    have h4 := lvT_pos r
    unfold goT
    simp only [lvT]
    split
    · simp only [List.length_nil]; omega
    · split
      · simp only [List.length_nil]; omega
      · have := u ‹S3›
        split
        · split
          · simp only [List.length_singleton]; omega
          · split
            · simp only [List.length_append]; omega
            · simp only [List.length_append]; omega
        · simp only [List.length_nil]; omega
/-- put where the first place is free on the way to its leaf -/
def putT (s : S3) (p : Nat) : Nat → HT → HT
  | _, .lf none => .lf (some s)
  | _, .lf (some x) => .lf (some x)
  | _, .nd none l r => .nd (some s) l r
  | f, .nd (some x) l r => if p < f + lvT l then .nd (some x) (putT s p f l) r else .nd (some x) l (putT s p (f + lvT l) r)
/-- filled by one more -/
theorem fill_snoc {s : S3} : ∀ T f L, fillT pl f T (L ++ [s]) = putT s (pl s) f (fillT pl f T L)
  | .lf h, f, [] => rfl
  | .lf h, f, a :: L => rfl
  | .nd h l r, f, [] => by
    simp only [fillT, List.nil_append, List.head?_cons, List.tail_cons, List.head?_nil, List.tail_nil, List.filter_nil, putT]
  | .nd h l r, f, a :: L => by
    have h1 := fill_snoc (s := s) l f
    have h2 := fill_snoc (s := s) r (f + lvT l)
    simp only [fillT, List.cons_append, List.head?_cons, List.tail_cons, List.filter_append, putT, fill_lv]
    by_cases hp : pl s < f + lvT l
    · rw [if_pos hp]
      simp only [List.filter_cons, hp, decide_true, if_true, List.filter_nil, Bool.not_true, Bool.false_eq_true, if_false, List.append_nil, h1]
    · rw [if_neg hp]
      simp only [List.filter_cons, hp, decide_false, if_true, List.filter_nil, Bool.not_false, Bool.false_eq_true, if_false, List.append_nil, h2]
end
section
variable {g g' : Nat → Option S3}
/-- nothing held: filled by nothing -/
theorem rd_empty {pl : S3 → Nat} : ∀ t b f, rd (fun _ => none) b t = fillT pl f (rd (fun _ => none) b t) []
  | .lf, b, f => rfl
  | .nd l r, b, f => by
    simp only [rd, fillT, List.head?_nil, List.tail_nil, List.filter_nil]
    rw [← rd_empty l, ← rd_empty r]
/-- the part t0 from b0 and f0 on is one of t's -/
inductive Prt : Nat → Nat → Tr → Nat → Nat → Tr → Prop where
  | here (b f t) : Prt b f t b f t
  | left {b0 f0 t0 b f l r} : Prt b0 f0 t0 b f l → Prt b0 f0 t0 b f (.nd l r)
  | right {b0 f0 t0 b f l r} : Prt b0 f0 t0 (b + sz l) (f + lv l) r → Prt b0 f0 t0 b f (.nd l r)
theorem Prt.in {b0 f0 t0 b f t} (h : Prt b0 f0 t0 b f t) : b ≤ b0 ∧ b0 + sz t0 ≤ b + sz t := by
  induction h with
  | here => exact ⟨Nat.le_refl _, Nat.le_refl _⟩
  | left _ ih => rw [sz_nd]; omega
  | right _ ih => rw [sz_nd]; omega
theorem Prt.sg {L : List Nd} {b0 f0 t0 b f t} (h : Prt b0 f0 t0 b f t) (hS : SG L b f t) : SG L b0 f0 t0 := by
  induction h with
  | here => exact hS
  | left _ ih => exact ih hS.left
  | right _ ih => exact ih hS.right
/-- found on the way to its leaf: the first node that holds it; else it stays -/
theorem find_way {s : S3} {p : Nat} : ∀ t b f, (∀ k ∈ pt p t b f, g k ≠ some s) ∧ dropT ltY s p f (rd g b t) = rd g b t ∧ hasT s p f (rd g b t) = false ∨
    ∃ P Q b0 f0 t0, pt p t b f = P ++ rt b0 t0 :: Q ∧ (∀ k ∈ P, g k ≠ some s) ∧ g (rt b0 t0) = some s ∧ Prt b0 f0 t0 b f t ∧ hasT s p f (rd g b t) = true ∧ ∀ g', rd g' b0 t0 = pull ltY (rd g b0 t0) → Same b0 t0 g g' → rd g' b t = dropT ltY s p f (rd g b t) ∧ Same b t g g'
  | .lf, b, f => by
    by_cases h : g b = some s
    · refine .inr ⟨[], [], b, f, .lf, by simp [pt, rt, lv], by simp, by simpa [rt, lv] using h, .here .., by simp [rd, hasT, h], fun g' h1 h2 => ⟨?_, h2⟩⟩
      rw [h1, rd, dropT, if_pos h, pull]
    · refine .inl ⟨by simpa [pt] using h, ?_, by simp [rd, hasT, h]⟩
      rw [rd, dropT, if_neg h]
  | .nd l r, b, f => by
    have e2 := rt_nd b l r
    by_cases h : g (rt b (.nd l r)) = some s
    · refine .inr ⟨[], _, b, f, .nd l r, by rw [pt]; rfl, by simp, h, .here .., by simp [rd, hasT, h], fun g' h1 h2 => ⟨?_, h2⟩⟩
      rw [h1]
      conv => rhs; rw [rd, dropT, if_pos h]
      rw [rd]
    · have hl := lv_rd (g := g) l b
      by_cases hp : p < f + lv l
      · have ept : pt p (.nd l r) b f = rt b (.nd l r) :: pt p l b f := by rw [pt, if_pos hp]
        have eh : hasT s p f (rd g b (.nd l r)) = hasT s p f (rd g b l) := by simp [rd, hasT, h, hl, hp]
        have ed : dropT ltY s p f (rd g b (.nd l r)) = .nd (g (rt b (.nd l r))) (dropT ltY s p f (rd g b l)) (rd g (b + sz l) r) := by rw [rd, dropT, if_neg h, if_pos (by rw [hl]; exact hp)]
        rcases find_way (s := s) (p := p) l b f with ⟨h1, h2, h3⟩ | ⟨P, Q, b0, f0, t0, h1, h2, h3, h4, h5, h6⟩
        · refine .inl ⟨by rw [ept]; simpa [h] using h1, ?_, by rw [eh, h3]⟩
          rw [ed, h2, ← rd]
        · refine .inr ⟨_ :: P, Q, b0, f0, t0, by rw [ept, h1]; rfl, by simpa [h] using h2, h3, .left h4, by rw [eh, h5], fun g' q1 q2 => ?_⟩
          obtain ⟨q3, q4⟩ := h6 g' q1 q2
          exact ⟨by rw [rd_left q4, q3, ed], q4.left⟩
      · have ept : pt p (.nd l r) b f = rt b (.nd l r) :: pt p r (b + sz l) (f + lv l) := by rw [pt, if_neg hp]
        have eh : hasT s p f (rd g b (.nd l r)) = hasT s p (f + lv l) (rd g (b + sz l) r) := by simp [rd, hasT, h, hl, hp]
        have ed : dropT ltY s p f (rd g b (.nd l r)) = .nd (g (rt b (.nd l r))) (rd g b l) (dropT ltY s p (f + lv l) (rd g (b + sz l) r)) := by rw [rd, dropT, if_neg h, if_neg (by rw [hl]; exact hp), hl]
        rcases find_way (s := s) (p := p) r (b + sz l) (f + lv l) with ⟨h1, h2, h3⟩ | ⟨P, Q, b0, f0, t0, h1, h2, h3, h4, h5, h6⟩
        · refine .inl ⟨by rw [ept]; simpa [h] using h1, ?_, by rw [eh, h3]⟩
          rw [ed, h2, ← rd]
        · refine .inr ⟨_ :: P, Q, b0, f0, t0, by rw [ept, h1]; rfl, by simpa [h] using h2, h3, .right h4, by rw [eh, h5], fun g' q1 q2 => ?_⟩
          obtain ⟨q3, q4⟩ := h6 g' q1 q2
          exact ⟨by rw [rd_right q4, q3, ed], q4.right⟩
/-- put where the first place is free on the way to its leaf, place by place -/
theorem put_way {s : S3} {p : Nat} : ∀ t b f, (∀ k ∈ pt p t b f, g k ≠ none) ∧ putT s p f (rd g b t) = rd g b t ∨
    ∃ P k Q, pt p t b f = P ++ k :: Q ∧ (∀ k ∈ P, g k ≠ none) ∧ g k = none ∧ (b ≤ k ∧ k < b + sz t) ∧ rd (upG g k (some s)) b t = putT s p f (rd g b t)
  | .lf, b, f => by
    cases h : g b with
    | none =>
      refine .inr ⟨[], b, [], by simp [pt], by simp, h, ⟨Nat.le_refl _, by simp [sz, lv]⟩, ?_⟩
      rw [rd_up_lf, rd, h, putT]
    | some x =>
      refine .inl ⟨by simp [pt, h], ?_⟩
      rw [rd, h, putT]
  | .nd l r, b, f => by
    have e1 := sz_nd l r
    have e2 := rt_nd b l r
    cases h : g (rt b (.nd l r)) with
    | none =>
      refine .inr ⟨[], _, _, by rw [pt]; rfl, by simp, h, ⟨by omega, by omega⟩, ?_⟩
      rw [rd_up_nd, rd, h, putT]
    | some x =>
      have hl := lv_rd (g := g) l b
      by_cases hp : p < f + lv l
      · have ept : pt p (.nd l r) b f = rt b (.nd l r) :: pt p l b f := by rw [pt, if_pos hp]
        have ed : putT s p f (rd g b (.nd l r)) = .nd (g (rt b (.nd l r))) (putT s p f (rd g b l)) (rd g (b + sz l) r) := by rw [rd, h, putT, if_pos (by rw [hl]; exact hp)]
        rcases put_way (s := s) (p := p) l b f with ⟨h1, h2⟩ | ⟨P, k, Q, h1, h2, h3, h4, h5⟩
        · refine .inl ⟨by rw [ept]; simpa [h] using h1, ?_⟩
          rw [ed, h2, ← rd]
        · refine .inr ⟨_ :: P, k, Q, by rw [ept, h1]; rfl, by simpa [h] using h2, h3, ⟨h4.1, by omega⟩, ?_⟩
          rw [rd_left (same_up h4.1 h4.2 _), h5, ed]
      · have ept : pt p (.nd l r) b f = rt b (.nd l r) :: pt p r (b + sz l) (f + lv l) := by rw [pt, if_neg hp]
        have ed : putT s p f (rd g b (.nd l r)) = .nd (g (rt b (.nd l r))) (rd g b l) (putT s p (f + lv l) (rd g (b + sz l) r)) := by rw [rd, h, putT, if_neg (by rw [hl]; exact hp), hl]
        rcases put_way (s := s) (p := p) r (b + sz l) (f + lv l) with ⟨h1, h2⟩ | ⟨P, k, Q, h1, h2, h3, h4, h5⟩
        · refine .inl ⟨by rw [ept]; simpa [h] using h1, ?_⟩
          rw [ed, h2, ← rd]
        · refine .inr ⟨_ :: P, k, Q, by rw [ept, h1]; rfl, by simpa [h] using h2, h3, ⟨by omega, by omega⟩, ?_⟩
          rw [rd_right (same_up h4.1 h4.2 _), h5, ed]
/-- the places on the way are nodes, few of them -/
theorem pt_in {p : Nat} : ∀ t b f k, k ∈ pt p t b f → b ≤ k ∧ k < b + sz t
  | .lf, b, f, k, h => by
    simp only [pt, List.mem_singleton] at h
    subst h
    simp [sz, lv]
  | .nd l r, b, f, k, h => by
    have e1 := sz_nd l r
    have e2 := rt_nd b l r
    rw [pt, List.mem_cons] at h
    rcases h with rfl | h
    · omega
    · split at h
      · have := pt_in l b f k h
        omega
      · have := pt_in r (b + sz l) (f + lv l) k h
        omega
theorem pt_len {p : Nat} : ∀ t b f, (pt p t b f).length ≤ lv t
  | .lf, b, f => by simp [pt, lv]
  | .nd l r, b, f => by
    have h1 := pt_len (p := p) l b f
    have h2 := pt_len (p := p) r (b + sz l) (f + lv l)
    have h3 := lv_pos l
    have h4 := lv_pos r
    rw [pt, List.length_cons, lv]
    split <;> omega
end
end Go.Proofs.YtldmajifkmcdcaaGreat.Hp
/-
  A heap's nodes in memory, and what each of them holds. No condition but those typed at each theorem.
-/
namespace Go.Proofs.YtldmajifkmcdcaaGreat.Hp
open Go.RowKit Go.Sort Bd
/-- what a node has of what it holds is a pointer; qb tells where each point lies -/
def hv (qb : S3 → Nat) : Option S3 → Value
  | none => .pointer none
  | some s => .pointer (some ⟨qb s, 0, none⟩)
/-- a node's cells, then what it holds -/
def kh (n : Nd) (v : Value) : List Value := nvs n ++ [v]
/-- the cells from a node's place on -/
def KhAt (KV : List Value) (k : Nat) (vs : List Value) : Prop := ∀ q v, vs[q]? = some v → KV[k * 8 + q]? = some v
/-- the nodes over n leaves, and what each of them holds: all of that is among D -/
structure KnM (w : World) (kb n : Nat) (qb : S3 → Nat) (D : List S3) (g : Nat → Option S3) : Prop where
  ev : ∃ KV, EV 148 w kb KV ∧ ∀ k nd, (ndN n)[k]? = some nd → KhAt KV k (kh nd (hv qb (g k)))
  gm : ∀ k s, k < 2 * n - 1 → g k = some s → s ∈ D
  pt : ∀ s ∈ D, EV 34 w (qb s) (tvs s)
section
variable {w w' : World} {kb n : Nat} {qb : S3 → Nat} {D : List S3} {g : Nat → Option S3}
theorem KnM.ty (h : KnM w kb n qb D g) : ∃ c, w.heap[kb]? = some (.cells c 148 (0, 0)) := by
  obtain ⟨KV, e, -⟩ := h.ev
  exact ⟨_, e⟩
theorem KnM.lt (h : KnM w kb n qb D g) : kb < w.heap.size := by
  obtain ⟨KV, e, -⟩ := h.ev
  exact e.lt
theorem KnM.free (h : KnM w kb n qb D g) (i : Nat) : w.frozen? ⟨kb, i, none⟩ = false := by
  obtain ⟨KV, e, -⟩ := h.ev
  exact e.free i
theorem KnM.nd (h : KnM w kb n qb D g) {k : Nat} {nd : Nd} (e : (ndN n)[k]? = some nd) : N1 w kb (k * 8) nd := by
  obtain ⟨KV, hE, hK⟩ := h.ev
  have hK := hK k nd e
  exact ⟨hE.cell (hK 0 _ rfl), hE.cell (hK 1 _ rfl), hE.cell (hK 2 _ rfl), hE.cell (hK 3 _ rfl), hE.cell (hK 4 _ rfl), hE.cell (hK 5 _ rfl), hE.cell (hK 6 _ rfl)⟩
theorem nd_at {k : Nat} (hk : k < 2 * n - 1) : ∃ nd, (ndN n)[k]? = some nd := ⟨_, List.getElem?_eq_getElem (by rw [ndN_len]; exact hk)⟩
theorem KnM.hc (h : KnM w kb n qb D g) {k : Nat} (hk : k < 2 * n - 1) : w.cell? ⟨kb, k * 8 + 7, none⟩ = some (hv qb (g k)) := by
  obtain ⟨KV, hE, hK⟩ := h.ev
  obtain ⟨nd, e⟩ := nd_at hk
  exact hE.cell (hK k nd e 7 _ rfl)
theorem KnM.p1 (h : KnM w kb n qb D g) {s : S3} (hs : s ∈ D) : T1 w (qb s) 0 s := by
  have hE := h.pt s hs
  exact ⟨hE.cell (i := 0) rfl, hE.cell (i := 1) rfl, hE.cell (i := 2) rfl⟩
theorem KnM.off (h : KnM w kb n qb D g) {S : List Nat} (o : Off S w w') (h1 : kb ∉ S) (h2 : ∀ s ∈ D, qb s ∉ S) : KnM w' kb n qb D g := by
  obtain ⟨KV, hE, hK⟩ := h.ev
  exact ⟨⟨KV, hE.off o h1, hK⟩, h.gm, fun s hs => (h.pt s hs).off o (h2 s hs)⟩
theorem KnM.keep (h : KnM w kb n qb D g) (o : Below w.heap.size w w') : KnM w' kb n qb D g := h.off (Off.of (S := []) o (Nat.le_refl _)) (by simp) (by simp)
theorem KnM.apart (h : KnM w kb n qb D g) {s : S3} (hs : s ∈ D) : qb s ≠ kb := by
  obtain ⟨KV, hE, -⟩ := h.ev
  exact types_ne (h.pt s hs) hE (by decide)
/-- a node holds another thing -/
theorem KnM.up (h : KnM w kb n qb D g) {k : Nat} {o : Option S3} (hk : k < 2 * n - 1) (ho : ∀ s, o = some s → s ∈ D) : KnM (w.setCell ⟨kb, k * 8 + 7, none⟩ (hv qb o)) kb n qb D (upG g k o) := by
  obtain ⟨KV, hE, hK⟩ := h.ev
  refine ⟨⟨_, hE.set (k * 8 + 7) _, fun j nd e q v hv => ?_⟩, fun j s hj e => ?_, fun s hs => ?_⟩
  · have hq : q < 8 := by
      have := (List.getElem?_eq_some_iff.1 hv).1
      simpa [kh, nvs] using this
    by_cases hjk : j = k
    · subst hjk
      rw [upG_at] at hv
      by_cases hq7 : q = 7
      · subst hq7
        have hl := (List.getElem?_eq_some_iff.1 (hK j nd e 7 _ rfl)).1
        rw [List.getElem?_set_self hl]
        exact hv
      · rw [List.getElem?_set_ne (by omega)]
        refine hK j nd e q v ?_
        rw [← hv]
        unfold kh
        rw [List.getElem?_append_left (by simp [nvs]; omega), List.getElem?_append_left (by simp [nvs]; omega)]
    · rw [upG_ne hjk] at hv
      rw [List.getElem?_set_ne (by omega)]
      exact hK j nd e q v hv
  · by_cases hjk : j = k
    · subst hjk
      rw [upG_at] at e
      exact ho s e
    · rw [upG_ne hjk] at e
      exact h.gm j s hj e
  · refine (h.pt s hs).off ((Off.refl [kb] w).set _ _ (.inl (by simp))) ?_
    have := h.apart hs
    simpa using this
/-- one point more is there -/
theorem KnM.add (h : KnM w kb n qb D g) {s : S3} {b : Nat} (hs : s ∉ D) (hE : EV 34 w b (tvs s)) : KnM w kb n (fun x => if x = s then b else qb x) (D ++ [s]) g := by
  obtain ⟨KV, hV, hK⟩ := h.ev
  have hne : ∀ x ∈ D, x ≠ s := fun x hx e => hs (e ▸ hx)
  refine ⟨⟨KV, hV, fun k nd e => ?_⟩, fun k x hk e => List.mem_append_left _ (h.gm k x hk e), fun x hx => ?_⟩
  · have hk := (List.getElem?_eq_some_iff.1 e).1
    rw [ndN_len] at hk
    have : hv (fun x => if x = s then b else qb x) (g k) = hv qb (g k) := by
      cases hg : g k with
      | none => rfl
      | some x => simp only [hv, if_neg (hne x (h.gm k x hk hg))]
    rw [this]
    exact hK k nd e
  · rcases List.mem_append.1 hx with hx | hx
    · simp only [if_neg (hne x hx)]
      exact h.pt x hx
    · obtain rfl := List.mem_singleton.1 hx
      simp only [if_true]
      exact hE
theorem KnM.same {D' : List S3} (h : KnM w kb n qb D g) (hD : ∀ s, s ∈ D' ↔ s ∈ D) : KnM w kb n qb D' g :=
  ⟨h.ev, fun k s hk e => (hD s).2 (h.gm k s hk e), fun s hs => h.pt s ((hD s).1 hs)⟩
end
/-- where a tree lies -/
structure HpP where
  B : Nat
  F : Nat
  kb : Nat
  rva : Value
  rvn : Value
  kv : Value
  qb : S3 → Nat
/-- a tree: built of the points RX (by X), of which those of A are there -/
structure HpM (w : World) (P : HpP) (RX A : List S3) : Prop where
  ev : EV 97 w P.B [.pointer (some ⟨P.B, 0, none⟩), P.rva, P.rvn, .pointer (some ⟨P.F, 0, none⟩), P.kv, .int .i64 A.length]
  row : OrR w kx RX P.rva P.rvn
  ord : Ord kx RX
  fr : ∃ d pp, FR w P.F RX.length d pp
  kv1 : RX.length ≠ 0 → ∃ cap, P.kv = .slice (some ⟨P.kb, 0, none⟩) (2 * RX.length - 1) cap
  kn : RX.length ≠ 0 → ∃ g, KnM w P.kb RX.length P.qb RX g ∧ HpI RX A g
  z0 : RX.length = 0 → P.kb = P.B ∧ A = []
  wf : ∀ s ∈ RX, Wf3 s
  few : RX.length ≤ 400
/-- the blocks of a tree -/
def hblk (P : HpP) (RX : List S3) : List Nat := P.B :: P.F :: P.kb :: (P.rva.ownBlock.toList ++ P.rvn.ownBlock.toList ++ RX.map P.qb)
section
variable {w w' : World} {P : HpP} {RX A : List S3}
theorem HpM.off (h : HpM w P RX A) {S : List Nat} (o : Off S w w') (hS : ∀ k ∈ hblk P RX, k ∉ S) : HpM w' P RX A := by
  obtain ⟨d, pp, hF⟩ := h.fr
  refine ⟨h.ev.off o (hS _ (by simp [hblk])), h.row.off o (fun k hk => hS k (by simp [hblk, hk])) (fun k hk => hS k (by simp [hblk, hk])), h.ord, ⟨d, pp, hF.block (o.block _ hF.lt (hS _ (by simp [hblk])))⟩, h.kv1, fun h0 => ?_, h.z0, h.wf, h.few⟩
  obtain ⟨g, h1, h2⟩ := h.kn h0
  exact ⟨g, h1.off o (hS _ (by simp [hblk])) (fun s hs => hS _ (by simp only [hblk, List.mem_cons, List.mem_append, List.mem_map]; exact .inr (.inr (.inr (.inr ⟨s, hs, rfl⟩))))), h2⟩
theorem HpM.keep (h : HpM w P RX A) (o : Below w.heap.size w w') : HpM w' P RX A := h.off (Off.of (S := []) o (Nat.le_refl _)) (by simp)
theorem HpM.lies (h : HpM w P RX A) : ∀ k ∈ hblk P RX, k < w.heap.size := by
  intro k hk
  obtain ⟨d, pp, hF⟩ := h.fr
  simp only [hblk, List.mem_cons, List.mem_append, List.mem_map, Option.mem_toList] at hk
  rcases hk with rfl | rfl | rfl | (hk | hk) | ⟨s, hs, rfl⟩
  · exact h.ev.lt
  · exact hF.lt
  · by_cases h0 : RX.length = 0
    · rw [(h.z0 h0).1]; exact h.ev.lt
    · obtain ⟨g, h1, -⟩ := h.kn h0
      exact h1.lt
  · exact (row_lt h.row.ra hk).2
  · exact (row_lt h.row.rn hk).2
  · have h0 : RX.length ≠ 0 := fun e => by rw [List.length_eq_zero_iff.1 e] at hs; cases hs
    obtain ⟨g, h1, -⟩ := h.kn h0
    exact (h1.pt s hs).lt
end
end Go.Proofs.YtldmajifkmcdcaaGreat.Hp
/-
  Whether a point is in a box; whether Build answered a tree, how many points it has. No condition but those typed at each theorem.
-/
namespace Go.Proofs.YtldmajifkmcdcaaGreat.Hp
open Go.RowKit Go.Sort Bd
/-- is a point in a box? -/
def inD (s : S3) (b : B4) : Bool := decide (b.1 ≤ s.1) && decide (s.1 ≤ b.2.1) && decide (b.2.2.1 ≤ s.2.1) && decide (s.2.1 ≤ b.2.2.2)
set_option maxRecDepth 100000 in
set_option maxHeartbeats 400000 in
theorem in_any (s : S3) (b : B5) (w : World) :
    Calls Tryz.prog 97 #[tv s, bv b] w fun e w' => e = .returned (.bool (inD s b.1)) ∧ Below w.heap.size w w' := by
  obtain ⟨⟨a, b, c, d⟩, j⟩ := b
  obtain ⟨x, y, i⟩ := s
  unfold tv bv
  simp only
  by_cases h1 : a ≤ x
  rotate_left
  · (go_enter Tryz.func97, Tryz.ntmps97; go_wp2 <;> go_ret <;> exact ⟨retb (by simp [inD] <;> omega), (((Below.refl _ _).alloc (Nat.le_refl _) _).alloc (by simp) _)⟩)
  by_cases h2 : x ≤ b
  rotate_left
  · (go_enter Tryz.func97, Tryz.ntmps97; go_wp2 <;> go_ret <;> exact ⟨retb (by simp [inD] <;> omega), (((Below.refl _ _).alloc (Nat.le_refl _) _).alloc (by simp) _)⟩)
  by_cases h3 : c ≤ y
  rotate_left
  · (go_enter Tryz.func97, Tryz.ntmps97; go_wp2 <;> go_ret <;> exact ⟨retb (by simp [inD] <;> omega), (((Below.refl _ _).alloc (Nat.le_refl _) _).alloc (by simp) _)⟩)
  by_cases h4 : y ≤ d
  rotate_left
  · (go_enter Tryz.func97, Tryz.ntmps97; go_wp2 <;> go_ret <;> exact ⟨retb (by simp [inD] <;> omega), (((Below.refl _ _).alloc (Nat.le_refl _) _).alloc (by simp) _)⟩)
  (go_enter Tryz.func97, Tryz.ntmps97; go_wp2 <;> go_ret <;> exact ⟨retb (by simp [inD] <;> omega), (((Below.refl _ _).alloc (Nat.le_refl _) _).alloc (by simp) _)⟩)
section
variable {w : World} {P : HpP} {RX A : List S3}
theorem eqSameH (a : Addr) (w : World) : (binOp .eql 51 (.pointer (some a)) (.pointer (some a))).run Tryz.prog w = .ok (.bool true) w := by
  obtain ⟨j, hj⟩ := Option.isSome_iff_exists.1 (show (Tryz.prog.info? 97).isSome = true by kernel_rfl)
  exact run_eql_ptr_same w a Tryz.underlying51 hj
set_option maxRecDepth 100000 in
theorem hmade_yes (h : HpM w P RX A) : Calls Tryz.prog 40 #[.pointer (some ⟨P.B, 0, none⟩)] w fun e w' => e = .returned (.bool true) ∧ w' = w := by
  have c0 := h.ev.cell (i := 0) rfl
  have q := @eqSameH
  clear h
  go_enter Tryz.func40, Tryz.ntmps40
  go_wp2
  go_ret
  exact ⟨rfl, rfl⟩
set_option maxRecDepth 100000 in
theorem hmade_nil (w : World) : Calls Tryz.prog 40 #[.pointer none] w fun e w' => e = .returned (.bool false) ∧ w' = w := by
  go_enter Tryz.func40, Tryz.ntmps40
  go_wp2
  go_ret
  exact ⟨rfl, rfl⟩
set_option maxRecDepth 100000 in
theorem hlen_any (h : HpM w P RX A) : Calls Tryz.prog 182 #[.pointer (some ⟨P.B, 0, none⟩)] w fun e w' => e = .returned (.int .i64 A.length) ∧ Below w.heap.size w w' := by
  have HM := Lib.hid (hmade_yes h)
  have c5 := h.ev.cell (i := 5) rfl
  clear h
  go_enter Tryz.func182, Tryz.ntmps182
  go_wp2_with (go_at_call 40; (with_reducible refine HM.out.mono ?_); rintro e wM ⟨rfl, hM⟩; subst wM)
  go_ret
  exact ⟨rfl, Below.refl _ _⟩
theorem hlen_nil (w : World) : Calls Tryz.prog 182 #[.pointer none] w fun e w' => e = .returned (.int .i64 0) ∧ Below w.heap.size w w' := by
  have HM := Lib.hid (hmade_nil w)
  go_enter Tryz.func182, Tryz.ntmps182
  go_wp2_with (go_at_call 40; (with_reducible refine HM.out.mono ?_); rintro e wM ⟨rfl, hM⟩; subst wM)
  go_ret
  exact ⟨rfl, Below.refl _ _⟩
end
end Go.Proofs.YtldmajifkmcdcaaGreat.Hp
