/-
  What is asked of a tree that tells three sides, whatever it is made of; three sides in plain words. No condition but those typed at each theorem.
-/
import Derived.Test.YtldmajifkmcdcaaGreatMP
import Derived.Test.YtldmajifkmcdcaaGreatMF
namespace Go.Proofs.YtldmajifkmcdcaaGreat.Hp
open Go.RowKit
/-- so many things more than it tells are touched at most -/
def most (n : Nat) : Nat := 6 * lgN (n + 1) + 6
/-- do three sides have a point? -/
def thB (x1 x2 y : Int) (s : S3) : Bool := decide (x1 ≤ s.1) && decide (s.1 ≤ x2) && decide (s.2.1 ≤ y)
/-- the names of those that are so -/
def nmL (f : S3 → Bool) (A : List S3) : List Int := (A.filter f).map (·.2.2)
/-- the same, rising -/
def nmS (f : S3 → Bool) (A : List S3) : List Int := nsort (nmL f A)
section
variable {f g : S3 → Bool} {A B : List S3} {s : S3}
theorem nmL_len (f : S3 → Bool) (A : List S3) : (nmL f A).length ≤ A.length := by
  unfold nmL
  rw [List.length_map]
  exact List.length_filter_le _ _
theorem nmS_len (f : S3 → Bool) (A : List S3) : (nmS f A).length ≤ A.length := by
  unfold nmS
  rw [nsort_len]
  exact nmL_len f A
theorem nmS_perm (h : A.Perm B) (f : S3 → Bool) : nmS f A = nmS f B := nsort_eq ((h.filter _).map _)
theorem nmS_congr (h : ∀ s ∈ A, f s = g s) : nmS f A = nmS g A := by
  unfold nmS nmL
  rw [List.filter_congr h]
theorem nmS_none (h : ∀ s ∈ A, f s = false) : nmS f A = [] := by
  unfold nmS nmL
  rw [show A.filter f = [] from List.filter_eq_nil_iff.2 (fun s hs => by rw [h s hs]; simp)]
  rfl
end
/-- TS X v n S A: v is a tree that was built of n points, those of A are there, the blocks S are its own -/
structure HeapC (TS : World → Value → Nat → List Nat → List S3 → Prop) : Prop where
  keep : ∀ {X X' v n S A T}, TS X v n S A → Off T X X' → (∀ k ∈ S, k ∉ T) → TS X' v n S A
  lies : ∀ {X v n S A}, TS X v n S A → ∀ k ∈ S, k < X.heap.size
  build : ∀ (w : World) (p : Option Addr) (c : Nat) (L : List S3), TsS w p L → L.length ≤ 400 → L.length ≤ c → (p = none → c = 0) → (∀ s ∈ L, Wf3 s) → Calls Tryz.prog 20 #[.slice p L.length c] w (Built TS w L)
  len : ∀ {X v n S A}, TS X v n S A → Calls Tryz.prog 182 #[v] X fun e X' => e = .returned (.int .i64 A.length) ∧ Below X.heap.size X X'
  three : ∀ {X v n S A} (x1 x2 y : Int), TS X v n S A → (Lit.int .i64 x1).wf = true → (Lit.int .i64 x2).wf = true → (Lit.int .i64 y).wf = true → Calls Tryz.prog 22 #[v, .int .i64 x1, .int .i64 x2, .int .i64 y] X fun e X' => (∃ r, ∃ t : Nat, e = .returned (.tuple #[r, .int .i64 t]) ∧ RL X' r (nmS (thB x1 x2 y) A) ∧ (nmS (thB x1 x2 y) A).length ≤ t ∧ t ≤ 2 * (nmS (thB x1 x2 y) A).length + most n) ∧ Below X.heap.size X X'
  drop : ∀ {X v n S A} (s : S3), TS X v n S A → Wf3 s → Calls Tryz.prog 21 #[v, tv s] X fun e X' => e = .returned (.bool (decide (s ∈ A))) ∧ ∃ S', TS X' v n S' (drp A s) ∧ Off S X X' ∧ ∀ k ∈ S', k ∈ S ∨ X.heap.size ≤ k
  few : ∀ {X v n S A}, TS X v n S A → A.length ≤ n ∧ n ≤ 400 ∧ Rg A
theorem HeapC.bel {TS : World → Value → Nat → List Nat → List S3 → Prop} {X X' : World} {v : Value} {n : Nat} {S : List Nat} {A : List S3} (C : HeapC TS) (h : TS X v n S A) (hb : Below X.heap.size X X') : TS X' v n S A := C.keep h (Off.of (S := []) hb (Nat.le_refl _)) (by simp)
end Go.Proofs.YtldmajifkmcdcaaGreat.Hp
/-
  A tree that is a heap, in plain words: what each node holds, what is held below, how one is taken out, how it is filled, what a search of three sides tells and how much it enters. No condition but those typed at each theorem.
-/
namespace Go.Proofs.YtldmajifkmcdcaaGreat.Hp
/-- a node with what it holds -/
inductive HT where
  | lf (h : Option S3)
  | nd (h : Option S3) (l r : HT)
def top : HT → Option S3
  | .lf h => h
  | .nd h _ _ => h
/-- how many leaves -/
def lvT : HT → Nat
  | .lf _ => 1
  | .nd _ l r => lvT l + lvT r
/-- how many edges down -/
def htT : HT → Nat
  | .lf _ => 0
  | .nd _ l r => 1 + max (htT l) (htT r)
/-- all that is held -/
def all : HT → List S3
  | .lf h => h.toList
  | .nd h l r => h.toList ++ (all l ++ all r)
theorem lvT_pos : ∀ T, 1 ≤ lvT T
  | .lf _ => Nat.le_refl _
  | .nd _ l r => by have := lvT_pos l; simp only [lvT]; omega
/-- the lesser one over the others, each over its leaf; nothing is held below a node that holds nothing -/
def Ok (lt : S3 → S3 → Bool) (pl : S3 → Nat) : Nat → HT → Prop
  | f, .lf h => ∀ s, h = some s → pl s = f
  | f, .nd h l r => Ok lt pl f l ∧ Ok lt pl (f + lvT l) r ∧ (h = none → all l = [] ∧ all r = []) ∧ ∀ s, h = some s → (f ≤ pl s ∧ pl s < f + (lvT l + lvT r)) ∧ ∀ x, x ∈ all l ∨ x ∈ all r → lt s x = true
section
variable {lt : S3 → S3 → Bool} {pl : S3 → Nat}
theorem mem_all_nd {h : Option S3} {l r : HT} {s : S3} : s ∈ all (.nd h l r) ↔ h = some s ∨ s ∈ all l ∨ s ∈ all r := by
  simp only [all, List.mem_append, Option.mem_toList]
theorem Ok.place : ∀ {T f}, Ok lt pl f T → ∀ s ∈ all T, f ≤ pl s ∧ pl s < f + lvT T
  | .lf h, f, hO, s, hs => by
    have := hO s (by simpa [all] using hs)
    simp only [lvT]
    omega
  | .nd h l r, f, ⟨hl, hr, _, h2⟩, s, hs => by
    simp only [lvT]
    rcases mem_all_nd.1 hs with h1 | h1 | h1
    · exact (h2 s h1).1
    · have := hl.place s h1
      omega
    · have := hr.place s h1
      omega
theorem Ok.empty : ∀ {T f}, Ok lt pl f T → top T = none → all T = []
  | .lf h, f, _, ht => by
    simp only [top] at ht
    subst ht
    rfl
  | .nd h l r, f, ⟨_, _, h1, _⟩, ht => by
    simp only [top] at ht
    subst ht
    simp [all, h1 rfl]
theorem top_mem : ∀ {T : HT} {s}, top T = some s → s ∈ all T
  | .lf h, s, ht => by simp only [top] at ht; simp [all, ht]
  | .nd h l r, s, ht => mem_all_nd.2 (.inl ht)
theorem Ok.top_le : ∀ {T f s}, Ok lt pl f T → top T = some s → ∀ x ∈ all T, x = s ∨ lt s x = true
  | .lf h, f, s, _, ht, x, hx => by
    simp only [top] at ht
    subst ht
    simp only [all, Option.toList, List.mem_singleton] at hx
    exact .inl hx
  | .nd h l r, f, s, ⟨_, _, _, h2⟩, ht, x, hx => by
    simp only [top] at ht
    rcases mem_all_nd.1 hx with h1 | h1
    · rw [ht] at h1
      exact .inl (Option.some.inj h1).symm
    · exact .inr ((h2 s ht).2 x h1)
/-- what the root holds goes, the lesser one of what both kids hold goes up, and so on -/
def pull (lt : S3 → S3 → Bool) : HT → HT
  | .lf _ => .lf none
  | .nd _ l r => match top l, top r with
    | none, none => .nd none l r
    | some a, none => .nd (some a) (pull lt l) r
    | none, some b => .nd (some b) l (pull lt r)
    | some a, some b => if lt a b = true then .nd (some a) (pull lt l) r else .nd (some b) l (pull lt r)
theorem pull_lv : ∀ T, lvT (pull lt T) = lvT T
  | .lf _ => rfl
  | .nd h l r => by
    have h1 := pull_lv l
    have h2 := pull_lv r
    unfold pull
    split
    · rfl
    · simp only [lvT, h1]
    · simp only [lvT, h2]
    · split
      · simp only [lvT, h1]
      · simp only [lvT, h2]
/-- all the others are left -/
theorem pull_all : ∀ {T f s}, Ok lt pl f T → top T = some s → (s :: all (pull lt T)).Perm (all T)
  | .lf h, f, s, _, ht => by
    simp only [top] at ht
    subst ht
    simp [pull, all]
  | .nd h l r, f, s, ⟨hl, hr, _, _⟩, ht => by
    simp only [top] at ht
    subst ht
    unfold pull
    split
    · rename_i h1 h2
      simp [all]
    · rename_i a h1 h2
      have := pull_all hl h1
      simp only [all, Option.toList, List.singleton_append]
      exact List.Perm.cons _ (by simpa using this.append_right (all r))
    · rename_i b h1 h2
      have := pull_all hr h2
      simp only [all, Option.toList, List.singleton_append]
      exact List.Perm.cons _ (List.perm_middle.symm.trans (this.append_left (all l)))
    · rename_i a b h1 h2
      split
      · have := pull_all hl h1
        simp only [all, Option.toList, List.singleton_append]
        exact List.Perm.cons _ (by simpa using this.append_right (all r))
      · have := pull_all hr h2
        simp only [all, Option.toList, List.singleton_append]
        exact List.Perm.cons _ (List.perm_middle.symm.trans (this.append_left (all l)))
theorem pull_mem {T : HT} {f : Nat} {s x : S3} (hO : Ok lt pl f T) (ht : top T = some s) (hx : x ∈ all (pull lt T)) : x ∈ all T :=
  (pull_all hO ht).mem_iff.1 (List.mem_cons_of_mem _ hx)
theorem pull_ok (htr : ∀ a b c, lt a b = true → lt b c = true → lt a c = true) : ∀ {T f}, (∀ a ∈ all T, ∀ b ∈ all T, a ≠ b → lt a b = false → lt b a = true) → Ok lt pl f T → (all T).Nodup → Ok lt pl f (pull lt T)
  | .lf h, f, _, _, _ => by simp [pull, Ok]
  | .nd h l r, f, hto, ⟨hl, hr, hn, hs⟩, hd => by
    simp only [all] at hd
    have hd2 := (List.nodup_append.1 hd).2.1
    obtain ⟨hdl, hdr, hdx⟩ := List.nodup_append.1 hd2
    have ihl := pull_ok htr (fun a ha b hb => hto a (mem_all_nd.2 (.inr (.inl ha))) b (mem_all_nd.2 (.inr (.inl hb)))) hl hdl
    have ihr := pull_ok htr (fun a ha b hb => hto a (mem_all_nd.2 (.inr (.inr ha))) b (mem_all_nd.2 (.inr (.inr hb)))) hr hdr
    have pa : ∀ {a}, top l = some a → ∀ x ∈ all (pull lt l), lt a x = true := fun {a} h1 x hx => by
      rcases hl.top_le h1 x (pull_mem hl h1 hx) with rfl | h2
      · exact absurd hx (List.nodup_cons.1 ((pull_all hl h1).nodup_iff.2 hdl)).1
      · exact h2
    have pb : ∀ {b}, top r = some b → ∀ x ∈ all (pull lt r), lt b x = true := fun {b} h1 x hx => by
      rcases hr.top_le h1 x (pull_mem hr h1 hx) with rfl | h2
      · exact absurd hx (List.nodup_cons.1 ((pull_all hr h1).nodup_iff.2 hdr)).1
      · exact h2
    have la : ∀ {a}, top l = some a → f ≤ pl a ∧ pl a < f + (lvT l + lvT r) := fun {a} h1 => by
      have := hl.place a (top_mem h1)
      omega
    have lb : ∀ {b}, top r = some b → f ≤ pl b ∧ pl b < f + (lvT l + lvT r) := fun {b} h1 => by
      have := hr.place b (top_mem h1)
      omega
    unfold pull
    split
    · rename_i h1 h2
      exact ⟨hl, hr, fun _ => ⟨hl.empty h1, hr.empty h2⟩, fun s h => by cases h⟩
    · rename_i a h1 h2
      refine ⟨ihl, by rw [pull_lv]; exact hr, (fun h => by cases h), fun s h => ?_⟩
      obtain rfl := Option.some.inj h
      refine ⟨by rw [pull_lv]; exact la h1, fun x hx => hx.elim (pa h1 x) (fun h3 => ?_)⟩
      rw [hr.empty h2] at h3
      cases h3
    · rename_i b h1 h2
      refine ⟨hl, ihr, (fun h => by cases h), fun s h => ?_⟩
      obtain rfl := Option.some.inj h
      refine ⟨by rw [pull_lv]; exact lb h2, fun x hx => hx.elim (fun h3 => ?_) (pb h2 x)⟩
      rw [hl.empty h1] at h3
      cases h3
    · rename_i a b h1 h2
      split
      · rename_i hab
        refine ⟨ihl, by rw [pull_lv]; exact hr, (fun h => by cases h), fun s h => ?_⟩
        obtain rfl := Option.some.inj h
        refine ⟨by rw [pull_lv]; exact la h1, fun x hx => hx.elim (pa h1 x) (fun h3 => ?_)⟩
        rcases hr.top_le h2 x h3 with rfl | h4
        · exact hab
        · exact htr _ _ _ hab h4
      · rename_i hab
        have hba : lt b a = true := hto a (mem_all_nd.2 (.inr (.inl (top_mem h1)))) b (mem_all_nd.2 (.inr (.inr (top_mem h2)))) (fun e => hdx a (top_mem h1) b (top_mem h2) e) (by simpa using hab)
        refine ⟨hl, ihr, (fun h => by cases h), fun s h => ?_⟩
        obtain rfl := Option.some.inj h
        refine ⟨by rw [pull_lv]; exact lb h2, fun x hx => hx.elim (fun h3 => ?_) (pb h2 x)⟩
        rcases hl.top_le h1 x h3 with rfl | h4
        · exact hba
        · exact htr _ _ _ hba h4
/-- from the root on the way to a place it is looked for; where it is held, it is taken out -/
def dropT (lt : S3 → S3 → Bool) (s : S3) (p : Nat) : Nat → HT → HT
  | _, .lf h => if h = some s then .lf none else .lf h
  | f, .nd h l r => if h = some s then pull lt (.nd h l r) else if p < f + lvT l then .nd h (dropT lt s p f l) r else .nd h l (dropT lt s p (f + lvT l) r)
theorem drop_lv {s : S3} {p : Nat} : ∀ T f, lvT (dropT lt s p f T) = lvT T
  | .lf h, f => by unfold dropT; split <;> rfl
  | .nd h l r, f => by
    have h1 := drop_lv (s := s) (p := p) l f
    have h2 := drop_lv (s := s) (p := p) r (f + lvT l)
    unfold dropT
    split
    · exact pull_lv _
    · split
      · simp only [lvT, h1]
      · simp only [lvT, h2]
theorem drop_all {s : S3} : ∀ {T f}, Ok lt pl f T → s ∈ all T → (s :: all (dropT lt s (pl s) f T)).Perm (all T)
  | .lf h, f, _, hs => by
    have : h = some s := by simpa [all] using hs
    subst this
    simp [dropT, all]
  | .nd h l r, f, hO, hs => by
    unfold dropT
    by_cases h1 : h = some s
    · rw [if_pos h1]
      exact pull_all hO h1
    · rw [if_neg h1]
      obtain ⟨hl, hr, -, -⟩ := hO
      rcases (mem_all_nd.1 hs).resolve_left h1 with h2 | h2
      · rw [if_pos (hl.place s h2).2]
        have := drop_all hl h2
        simp only [all]
        refine List.perm_middle.symm.trans (List.Perm.append_left _ ?_)
        simpa using this.append_right (all r)
      · rw [if_neg (by have := (hr.place s h2).1; omega)]
        have := drop_all hr h2
        simp only [all]
        refine List.perm_middle.symm.trans (List.Perm.append_left _ ?_)
        exact List.perm_middle.symm.trans (this.append_left (all l))
theorem drop_ok (htr : ∀ a b c, lt a b = true → lt b c = true → lt a c = true) {s : S3} : ∀ {T f}, (∀ a ∈ all T, ∀ b ∈ all T, a ≠ b → lt a b = false → lt b a = true) → Ok lt pl f T → (all T).Nodup → s ∈ all T → Ok lt pl f (dropT lt s (pl s) f T)
  | .lf h, f, _, hO, _, _ => by
    unfold dropT
    split
    · simp [Ok]
    · exact hO
  | .nd h l r, f, hto, hO, hd, hs => by
    unfold dropT
    by_cases h1 : h = some s
    · rw [if_pos h1]
      exact pull_ok htr hto hO hd
    · rw [if_neg h1]
      obtain ⟨hl, hr, hn, hh⟩ := hO
      simp only [all] at hd
      have hd2 := (List.nodup_append.1 hd).2.1
      obtain ⟨hdl, hdr, -⟩ := List.nodup_append.1 hd2
      rcases (mem_all_nd.1 hs).resolve_left h1 with h2 | h2
      · rw [if_pos (hl.place s h2).2]
        have hp := drop_all hl h2
        refine ⟨drop_ok htr (fun a ha b hb => hto a (mem_all_nd.2 (.inr (.inl ha))) b (mem_all_nd.2 (.inr (.inl hb)))) hl hdl h2, by rw [drop_lv]; exact hr, (fun h => ?_), fun x h => ?_⟩
        · rw [(hn h).1] at h2
          cases h2
        · rw [drop_lv]
          exact ⟨(hh x h).1, fun y hy => (hh x h).2 y (hy.imp (fun h3 => hp.mem_iff.1 (List.mem_cons_of_mem _ h3)) id)⟩
      · rw [if_neg (by have := (hr.place s h2).1; omega)]
        have hp := drop_all hr h2
        refine ⟨hl, drop_ok htr (fun a ha b hb => hto a (mem_all_nd.2 (.inr (.inr ha))) b (mem_all_nd.2 (.inr (.inr hb)))) hr hdr h2, (fun h => ?_), fun x h => ?_⟩
        · rw [(hn h).2] at h2
          cases h2
        · rw [drop_lv]
          exact ⟨(hh x h).1, fun y hy => (hh x h).2 y (hy.imp id (fun h3 => hp.mem_iff.1 (List.mem_cons_of_mem _ h3)))⟩
/-- whether it is held on the way down to a place -/
def hasT (s : S3) (p : Nat) : Nat → HT → Bool
  | _, .lf h => decide (h = some s)
  | f, .nd h l r => decide (h = some s) || (if p < f + lvT l then hasT s p f l else hasT s p (f + lvT l) r)
theorem has_is {s : S3} : ∀ {T f}, Ok lt pl f T → hasT s (pl s) f T = decide (s ∈ all T)
  | .lf h, f, _ => by
    simp only [hasT, all, Option.mem_toList]
  | .nd h l r, f, hO => by
    obtain ⟨hl, hr, -, -⟩ := hO
    have h1 := has_is (s := s) hl
    have h2 := has_is (s := s) hr
    simp only [hasT, h1, h2]
    by_cases h0 : h = some s
    · simp [mem_all_nd, h0]
    · simp only [mem_all_nd, h0, decide_false, Bool.false_or, false_or]
      split
      · rename_i hp
        have : s ∉ all r := fun h3 => by have := (hr.place s h3).1; omega
        simp [this]
      · rename_i hp
        have : s ∉ all l := fun h3 => hp (hl.place s h3).2
        simp [this]
/-- filled by things that rise: the first one stays, the others go to the kid that is over their leaf -/
def fillT (pl : S3 → Nat) : Nat → HT → List S3 → HT
  | _, .lf _, L => .lf L.head?
  | f, .nd _ l r, L => .nd L.head? (fillT pl f l (L.tail.filter fun s => decide (pl s < f + lvT l))) (fillT pl (f + lvT l) r (L.tail.filter fun s => !decide (pl s < f + lvT l)))
theorem fill_lv : ∀ T f L, lvT (fillT pl f T L) = lvT T
  | .lf h, f, L => rfl
  | .nd h l r, f, L => by simp only [fillT, lvT, fill_lv l, fill_lv r]
theorem filter_not_perm {p : S3 → Bool} : ∀ L : List S3, (L.filter p ++ L.filter fun s => !p s).Perm L
  | [] => List.Perm.refl _
  | a :: L => by
    have ih := filter_not_perm (p := p) L
    by_cases h : p a = true
    · simp only [List.filter_cons, h, if_true, Bool.not_true, Bool.false_eq_true, if_false, List.cons_append]
      exact ih.cons a
    · have h' : p a = false := by simpa using h
      simp only [List.filter_cons, h', Bool.false_eq_true, if_false, Bool.not_false, if_true]
      exact List.perm_middle.trans (ih.cons a)
theorem fill_all : ∀ {T f L}, (∀ s ∈ L, f ≤ pl s ∧ pl s < f + lvT T) → (L.map pl).Nodup → (all (fillT pl f T L)).Perm L
  | .lf h, f, L, hr, hd => by
    match L, hr, hd with
    | [], _, _ => exact List.Perm.refl _
    | [a], _, _ => exact List.Perm.refl _
    | a :: b :: L, hr, hd =>
      have h1 := hr a (by simp)
      have h2 := hr b (by simp)
      simp only [lvT] at h1 h2
      simp only [List.map_cons, List.nodup_cons, List.mem_cons, not_or] at hd
      omega
  | .nd h l r, f, L, hr, hd => by
    match L, hr, hd with
    | [], _, _ =>
      have h1 := fill_all (T := l) (f := f) (L := []) (by simp) (by simp)
      have h2 := fill_all (T := r) (f := f + lvT l) (L := []) (by simp) (by simp)
      simpa [fillT, all] using h1.append h2
    | a :: L, hr, hd =>
      simp only [List.map_cons, List.nodup_cons] at hd
      have h1 := fill_all (T := l) (f := f) (L := L.filter fun s => decide (pl s < f + lvT l)) (fun s hs => by
        obtain ⟨h3, h4⟩ := List.mem_filter.1 hs
        have := hr s (List.mem_cons_of_mem _ h3)
        simp only [decide_eq_true_eq] at h4
        exact ⟨this.1, h4⟩) (hd.2.sublist ((List.filter_sublist (l := L)).map pl))
      have h2 := fill_all (T := r) (f := f + lvT l) (L := L.filter fun s => !decide (pl s < f + lvT l)) (fun s hs => by
        obtain ⟨h3, h4⟩ := List.mem_filter.1 hs
        have := hr s (List.mem_cons_of_mem _ h3)
        simp only [lvT] at this
        simp only [Bool.not_eq_true', decide_eq_false_iff_not] at h4
        omega) (hd.2.sublist ((List.filter_sublist (l := L)).map pl))
      simp only [fillT, all, List.head?_cons, List.tail_cons, Option.toList, List.singleton_append]
      exact ((h1.append h2).trans (filter_not_perm L)).cons a
theorem fill_ok : ∀ {T f L}, (∀ s ∈ L, f ≤ pl s ∧ pl s < f + lvT T) → (L.map pl).Nodup → L.Pairwise (fun a b => lt a b = true) → Ok lt pl f (fillT pl f T L)
  | .lf h, f, L, hr, hd, _ => by
    intro s hs
    have := hr s (List.mem_of_head? hs)
    simp only [lvT] at this
    omega
  | .nd h l r, f, L, hr, hd, hp => by
    match L, hr, hd, hp with
    | [], _, _, _ =>
      have a1 := fill_all (pl := pl) (T := l) (f := f) (L := []) (by simp) (by simp)
      have a2 := fill_all (pl := pl) (T := r) (f := f + lvT l) (L := []) (by simp) (by simp)
      have h1 := fill_ok (T := l) (f := f) (L := []) (by simp) (by simp) .nil
      have h2 := fill_ok (T := r) (f := f + lvT l) (L := []) (by simp) (by simp) .nil
      refine ⟨h1, by rw [fill_lv]; exact h2, (fun _ => ⟨a1.eq_nil, a2.eq_nil⟩), fun s h => by cases h⟩
    | a :: L, hr, hd, hp =>
      simp only [List.map_cons, List.nodup_cons] at hd
      have hp' := List.pairwise_cons.1 hp
      have q1 : ∀ s ∈ L.filter (fun s => decide (pl s < f + lvT l)), f ≤ pl s ∧ pl s < f + lvT l := fun s hs => by
        obtain ⟨h3, h4⟩ := List.mem_filter.1 hs
        have := hr s (List.mem_cons_of_mem _ h3)
        simp only [decide_eq_true_eq] at h4
        exact ⟨this.1, h4⟩
      have q2 : ∀ s ∈ L.filter (fun s => !decide (pl s < f + lvT l)), f + lvT l ≤ pl s ∧ pl s < f + lvT l + lvT r := fun s hs => by
        obtain ⟨h3, h4⟩ := List.mem_filter.1 hs
        have := hr s (List.mem_cons_of_mem _ h3)
        simp only [lvT] at this
        simp only [Bool.not_eq_true', decide_eq_false_iff_not] at h4
        omega
      have n1 := hd.2.sublist ((List.filter_sublist (l := L) (p := fun s => decide (pl s < f + lvT l))).map pl)
      have n2 := hd.2.sublist ((List.filter_sublist (l := L) (p := fun s => !decide (pl s < f + lvT l))).map pl)
      have h1 := fill_ok (T := l) q1 n1 (hp'.2.sublist List.filter_sublist)
      have h2 := fill_ok (T := r) q2 n2 (hp'.2.sublist List.filter_sublist)
      refine ⟨h1, by rw [fill_lv]; exact h2, (fun h => by cases h), fun s h => ?_⟩
      obtain rfl := Option.some.inj h
      refine ⟨?_, fun x hx => hp'.1 x ?_⟩
      · have := hr a List.mem_cons_self
        simpa only [lvT, fill_lv] using this
      · rcases hx with hx | hx
        · exact (List.mem_filter.1 ((fill_all q1 n1).mem_iff.1 hx)).1
        · exact (List.mem_filter.1 ((fill_all q2 n2).mem_iff.1 hx)).1
/-- what a search of the places from a on, ahead of b, up to y tells, as it comes by: a node ahead of its kids, the left kid ahead of the right one -/
def toldT (pl : S3 → Nat) (a b : Nat) (y : Int) : Nat → HT → List S3
  | f, .lf h => if b ≤ f ∨ f + 1 ≤ a then [] else match h with
    | none => []
    | some s => if s.2.1 ≤ y then (if a ≤ pl s ∧ pl s < b then [s] else []) else []
  | f, .nd h l r => if b ≤ f ∨ f + (lvT l + lvT r) ≤ a then [] else match h with
    | none => []
    | some s => if s.2.1 ≤ y then (if a ≤ pl s ∧ pl s < b then [s] else []) ++ (toldT pl a b y f l ++ toldT pl a b y (f + lvT l) r) else []
/-- how many nodes are entered for it, those that turn back at once counted too -/
def entT (a b : Nat) (y : Int) : Nat → HT → Nat
  | _, .lf _ => 1
  | f, .nd h l r => if b ≤ f ∨ f + (lvT l + lvT r) ≤ a then 1 else match h with
    | none => 1
    | some s => if s.2.1 ≤ y then 1 + entT a b y f l + entT a b y (f + lvT l) r else 1
theorem told_is (hmo : ∀ a b, lt a b = true → a.2.1 ≤ b.2.1) {a b : Nat} {y : Int} : ∀ {T f}, Ok lt pl f T → toldT pl a b y f T = (all T).filter fun s => decide (a ≤ pl s) && decide (pl s < b) && decide (s.2.1 ≤ y)
  | .lf h, f, hO => by
    match h, hO with
    | none, _ => unfold toldT; split <;> rfl
    | some s, hO =>
      have hs := hO s rfl
      unfold toldT
      by_cases hout : b ≤ f ∨ f + 1 ≤ a
      · rw [if_pos hout, eq_comm]
        refine List.filter_eq_nil_iff.2 (fun x hx => ?_)
        obtain rfl : x = s := by simpa [all] using hx
        rcases hout with h1 | h1
        · simp [show ¬ pl x < b by omega]
        · simp [show ¬ a ≤ pl x by omega]
      · rw [if_neg hout]
        simp only [all, Option.toList, List.filter_cons, List.filter_nil]
        by_cases h1 : s.2.1 ≤ y <;> by_cases h2 : a ≤ pl s <;> by_cases h3 : pl s < b <;> simp [h1, h2, h3]
  | .nd h l r, f, hO => by
    have hO' := hO
    obtain ⟨hl, hr, hn, hh⟩ := hO
    have e1 := told_is hmo (a := a) (b := b) (y := y) hl
    have e2 := told_is hmo (a := a) (b := b) (y := y) hr
    unfold toldT
    by_cases hout : b ≤ f ∨ f + (lvT l + lvT r) ≤ a
    · rw [if_pos hout, eq_comm]
      refine List.filter_eq_nil_iff.2 (fun x hx => ?_)
      have := hO'.place x hx
      simp only [lvT] at this
      rcases hout with h1 | h1
      · simp [show ¬ pl x < b by omega]
      · simp [show ¬ a ≤ pl x by omega]
    · rw [if_neg hout, e1, e2]
      match h, hn, hh with
      | none, hn, _ =>
        have := hn rfl
        simp [all, this]
      | some s, _, hh =>
        simp only [all, Option.toList, List.filter_append, List.singleton_append, List.filter_cons]
        by_cases h1 : s.2.1 ≤ y
        · rw [if_pos h1]
          by_cases h2 : a ≤ pl s <;> by_cases h3 : pl s < b <;> simp [h1, h2, h3]
        · have q : ∀ x, x ∈ all l ∨ x ∈ all r → ¬ x.2.1 ≤ y := fun x hx => by
            have := hmo _ _ ((hh s rfl).2 x hx)
            omega
          rw [if_neg h1]
          have f1 : (all l).filter (fun s => decide (a ≤ pl s) && decide (pl s < b) && decide (s.2.1 ≤ y)) = [] := List.filter_eq_nil_iff.2 (fun x hx => by simp [q x (.inl hx)])
          have f2 : (all r).filter (fun s => decide (a ≤ pl s) && decide (pl s < b) && decide (s.2.1 ≤ y)) = [] := List.filter_eq_nil_iff.2 (fun x hx => by simp [q x (.inr hx)])
          simp [h1, f1, f2]
theorem ent_out {a b : Nat} {y : Int} : ∀ {T f}, b ≤ f ∨ f + lvT T ≤ a → entT a b y f T = 1
  | .lf _, _, _ => rfl
  | .nd h l r, f, ho => by
    simp only [lvT] at ho
    unfold entT
    rw [if_pos ho]
/-- wholly within: two for each that is told -/
theorem ent_in {a b : Nat} {y : Int} : ∀ {T f}, Ok lt pl f T → a ≤ f → f + lvT T ≤ b → entT a b y f T ≤ 1 + 2 * (toldT pl a b y f T).length
  | .lf h, f, _, _, _ => by simp only [entT]; omega
  | .nd h l r, f, hO, ha, hb => by
    obtain ⟨hl, hr, hn, hh⟩ := hO
    simp only [lvT] at hb
    have h1 := ent_in (a := a) (b := b) (y := y) hl ha (by omega)
    have h2 := ent_in (a := a) (b := b) (y := y) hr (by omega) (by omega)
    have := lvT_pos l
    unfold entT toldT
    rw [if_neg (by omega), if_neg (by omega)]
    match h, hh with
    | none, _ => simp
    | some s, hh =>
      have hs := (hh s rfl).1
      by_cases hy : s.2.1 ≤ y
      · simp only [if_pos hy, if_pos (show a ≤ pl s ∧ pl s < b by omega), List.length_append, List.length_singleton]
        omega
      · simp only [if_neg hy]
        omega
/-- within but for the one end -/
theorem ent_one {a b : Nat} {y : Int} : ∀ {T f}, Ok lt pl f T → (a ≤ f ∨ f + lvT T ≤ b) → entT a b y f T ≤ 1 + 2 * htT T + 2 * (toldT pl a b y f T).length
  | .lf h, f, _, _ => by simp only [entT]; omega
  | .nd h l r, f, hO, hab => by
    obtain ⟨hl, hr, hn, hh⟩ := hO
    simp only [lvT] at hab
    have := lvT_pos l
    by_cases hout : b ≤ f ∨ f + (lvT l + lvT r) ≤ a
    · rw [ent_out (by simpa only [lvT] using hout)]
      omega
    · have k : entT a b y f l + entT a b y (f + lvT l) r ≤ 2 + 2 * max (htT l) (htT r) + 2 * ((toldT pl a b y f l).length + (toldT pl a b y (f + lvT l) r).length) := by
        rcases hab with h1 | h1
        · have p1 := ent_one (y := y) hl (.inl h1 : a ≤ f ∨ f + lvT l ≤ b)
          have p2 := ent_one (y := y) hr (.inl (by omega) : a ≤ f + lvT l ∨ f + lvT l + lvT r ≤ b)
          by_cases h2 : f + lvT l ≤ b
          · have := ent_in (y := y) hl h1 h2
            omega
          · have := ent_out (T := r) (a := a) (b := b) (y := y) (f := f + lvT l) (.inl (by omega))
            omega
        · have p1 := ent_one (y := y) hl (.inr (by omega) : a ≤ f ∨ f + lvT l ≤ b)
          have p2 := ent_one (y := y) hr (.inr (by omega) : a ≤ f + lvT l ∨ f + lvT l + lvT r ≤ b)
          by_cases h2 : a ≤ f + lvT l
          · have := ent_in (a := a) (b := b) (y := y) hr h2 (by omega)
            omega
          · have := ent_out (T := l) (a := a) (b := b) (y := y) (f := f) (.inr (by omega))
            omega
      unfold entT toldT
      rw [if_neg hout, if_neg hout]
      simp only [htT]
      match h with
      | none => simp only []; omega
      | some s =>
        by_cases hy : s.2.1 ≤ y
        · simp only [if_pos hy, List.length_append]
          omega
        · simp only [if_neg hy]
          omega
/-- a search of three sides enters few nodes that tell nothing -/
theorem ent_few {a b : Nat} {y : Int} : ∀ {T f}, Ok lt pl f T → entT a b y f T ≤ 1 + 4 * htT T + 2 * (toldT pl a b y f T).length
  | .lf h, f, _ => by simp only [entT]; omega
  | .nd h l r, f, hO => by
    obtain ⟨hl, hr, hn, hh⟩ := hO
    have := lvT_pos l
    by_cases hout : b ≤ f ∨ f + (lvT l + lvT r) ≤ a
    · rw [ent_out (by simpa only [lvT] using hout)]
      omega
    · have k : entT a b y f l + entT a b y (f + lvT l) r ≤ 3 + 4 * max (htT l) (htT r) + 2 * ((toldT pl a b y f l).length + (toldT pl a b y (f + lvT l) r).length) := by
        by_cases h1 : b ≤ f + lvT l
        · have := ent_out (T := r) (a := a) (b := b) (y := y) (f := f + lvT l) (.inl h1)
          have := ent_few (a := a) (b := b) (y := y) hl
          omega
        · by_cases h2 : f + lvT l ≤ a
          · have := ent_out (T := l) (a := a) (b := b) (y := y) (f := f) (.inr h2)
            have := ent_few (a := a) (b := b) (y := y) hr
            omega
          · have := ent_one (a := a) (b := b) (y := y) hl (.inr (by omega))
            have := ent_one (a := a) (b := b) (y := y) hr (.inl (by omega))
            omega
      unfold entT toldT
      rw [if_neg hout, if_neg hout]
      simp only [htT]
      match h with
      | none => simp only []; omega
      | some s =>
        by_cases hy : s.2.1 ≤ y
        · simp only [if_pos hy, List.length_append]
          omega
        · simp only [if_neg hy]
          omega
/-- a search that ends at the first one: whether there was one, how many nodes were entered -/
def anyT (pl : S3 → Nat) (a b : Nat) (y : Int) : Nat → HT → Bool × Nat
  | f, .lf h => if b ≤ f ∨ f + 1 ≤ a then (false, 1) else match h with
    | none => (false, 1)
    | some s => if s.2.1 ≤ y then (if a ≤ pl s ∧ pl s < b then (true, 1) else (false, 1)) else (false, 1)
  | f, .nd h l r => if b ≤ f ∨ f + (lvT l + lvT r) ≤ a then (false, 1) else match h with
    | none => (false, 1)
    | some s => if s.2.1 ≤ y then (if a ≤ pl s ∧ pl s < b then (true, 1) else if (anyT pl a b y f l).1 then (true, 1 + (anyT pl a b y f l).2) else ((anyT pl a b y (f + lvT l) r).1, 1 + (anyT pl a b y f l).2 + (anyT pl a b y (f + lvT l) r).2)) else (false, 1)
theorem any_is {a b : Nat} {y : Int} : ∀ T f, (anyT pl a b y f T).1 = decide (0 < (toldT pl a b y f T).length)
  | .lf h, f => by
    unfold anyT toldT
    split
    · rfl
    · split
      · rfl
      · split
        · split <;> rfl
        · rfl
  | .nd h l r, f => by
    have h1 := any_is (a := a) (b := b) (y := y) l f
    have h2 := any_is (a := a) (b := b) (y := y) r (f + lvT l)
    unfold anyT toldT
    split
    · rfl
    · split
      · rfl
      · split
        · split
          · simp
          · simp only [List.nil_append, List.length_append]
            split
            · rename_i h3
              rw [h1] at h3
              have := of_decide_eq_true h3
              exact (decide_eq_true (by omega)).symm
            · rename_i h3
              rw [h1] at h3
              have h4 : ¬ 0 < (toldT pl a b y f l).length := fun h => h3 (decide_eq_true h)
              rw [h2]
              congr 1
              exact propext ⟨fun h => by omega, fun h => by omega⟩
        · rfl
theorem any_out {a b : Nat} {y : Int} : ∀ {T f}, b ≤ f ∨ f + lvT T ≤ a → anyT pl a b y f T = (false, 1)
  | .lf _, _, ho => by
    unfold anyT
    rw [if_pos (by simpa only [lvT] using ho)]
  | .nd h l r, f, ho => by
    simp only [lvT] at ho
    unfold anyT
    rw [if_pos ho]
theorem any_in {a b : Nat} {y : Int} : ∀ {T f}, Ok lt pl f T → a ≤ f → f + lvT T ≤ b → (anyT pl a b y f T).2 = 1
  | .lf h, f, _, _, _ => by
    unfold anyT
    split
    · rfl
    · split
      · rfl
      · split
        · split <;> rfl
        · rfl
  | .nd h l r, f, hO, ha, hb => by
    obtain ⟨hl, hr, hn, hh⟩ := hO
    simp only [lvT] at hb
    unfold anyT
    split
    · rfl
    · match h, hh with
      | none, _ => rfl
      | some s, hh =>
        have hs := (hh s rfl).1
        simp only [if_pos (show a ≤ pl s ∧ pl s < b by omega)]
        split <;> rfl
theorem any_step {a b : Nat} {y : Int} {h : Option S3} {l r : HT} {f : Nat} : (anyT pl a b y f (.nd h l r)).2 ≤ 1 + ((anyT pl a b y f l).2 + (anyT pl a b y (f + lvT l) r).2) := by
  cases h with
  | none => rw [anyT]; split <;> simp
  | some s =>
    rw [anyT]
    split
    · simp
    · split
      · split
        · simp
        · split
          · simp only []
            omega
          · simp only []
            omega
      · simp
theorem any_one {a b : Nat} {y : Int} : ∀ {T f}, Ok lt pl f T → (a ≤ f ∨ f + lvT T ≤ b) → (anyT pl a b y f T).2 ≤ 1 + 2 * htT T
  | .lf h, f, _, _ => by
    unfold anyT
    split
    · simp
    · split
      · simp
      · split
        · split <;> simp
        · simp
  | .nd h l r, f, hO, hab => by
    obtain ⟨hl, hr, hn, hh⟩ := hO
    simp only [lvT] at hab
    have := lvT_pos l
    refine Nat.le_trans any_step ?_
    simp only [htT]
    rcases hab with h1 | h1
    · have p1 := any_one (y := y) hl (.inl h1 : a ≤ f ∨ f + lvT l ≤ b)
      have p2 := any_one (y := y) hr (.inl (by omega) : a ≤ f + lvT l ∨ f + lvT l + lvT r ≤ b)
      by_cases h2 : f + lvT l ≤ b
      · have := any_in (y := y) hl h1 h2
        omega
      · have := congrArg Prod.snd (any_out (pl := pl) (T := r) (a := a) (b := b) (y := y) (f := f + lvT l) (.inl (by omega)))
        simp only [] at this
        omega
    · have p1 := any_one (y := y) hl (.inr (by omega) : a ≤ f ∨ f + lvT l ≤ b)
      have p2 := any_one (y := y) hr (.inr (by omega) : a ≤ f + lvT l ∨ f + lvT l + lvT r ≤ b)
      by_cases h2 : a ≤ f + lvT l
      · have := any_in (a := a) (b := b) (y := y) hr h2 (by omega)
        omega
      · have := congrArg Prod.snd (any_out (pl := pl) (T := l) (a := a) (b := b) (y := y) (f := f) (.inr (by omega)))
        simp only [] at this
        omega
theorem any_few {a b : Nat} {y : Int} : ∀ {T f}, Ok lt pl f T → (anyT pl a b y f T).2 ≤ 1 + 4 * htT T
  | .lf h, f, _ => by
    unfold anyT
    split
    · simp
    · split
      · simp
      · split
        · split <;> simp
        · simp
  | .nd h l r, f, hO => by
    obtain ⟨hl, hr, hn, hh⟩ := hO
    have := lvT_pos l
    refine Nat.le_trans any_step ?_
    simp only [htT]
    by_cases h1 : b ≤ f + lvT l
    · have := congrArg Prod.snd (any_out (pl := pl) (T := r) (a := a) (b := b) (y := y) (f := f + lvT l) (.inl h1))
      have := any_few (a := a) (b := b) (y := y) hl
      simp only [] at *
      omega
    · by_cases h2 : f + lvT l ≤ a
      · have := congrArg Prod.snd (any_out (pl := pl) (T := l) (a := a) (b := b) (y := y) (f := f) (.inr h2))
        have := any_few (a := a) (b := b) (y := y) hr
        simp only [] at *
        omega
      · have := any_one (a := a) (b := b) (y := y) hl (.inr (by omega))
        have := any_one (a := a) (b := b) (y := y) hr (.inl (by omega))
        omega
/-- what is left without one of them -/
theorem perm_drp {A B : List S3} {s : S3} (hp : (s :: B).Perm A) (hd : A.Nodup) : B.Perm (drp A s) := by
  have h1 : s ∉ B := (List.nodup_cons.1 (hp.nodup_iff.2 hd)).1
  have h2 := hp.filter (fun y => decide (y ≠ s))
  rw [List.filter_cons, if_neg (by simp), List.filter_eq_self.2 (fun x hx => show decide (x ≠ s) = true from decide_eq_true (fun e => h1 (e ▸ hx)))] at h2
  exact h2
theorem drp_none {A : List S3} {s : S3} (h : s ∉ A) : drp A s = A := List.filter_eq_self.2 (fun x hx => show decide (x ≠ s) = true from decide_eq_true (fun e => h (e ▸ hx)))
/-- the names that are told, put in order, are those of the three sides -/
theorem told_names (hmo : ∀ a b, lt a b = true → a.2.1 ≤ b.2.1) {T : HT} {A : List S3} {a b f : Nat} {x1 x2 y : Int} (hO : Ok lt pl f T) (hp : (all T).Perm A) (hpl : ∀ s ∈ A, (a ≤ pl s ∧ pl s < b ↔ x1 ≤ s.1 ∧ s.1 ≤ x2)) :
    nsort ((toldT pl a b y f T).map (·.2.2)) = nmS (thB x1 x2 y) A := by
  rw [told_is hmo hO, ← nmS_perm hp]
  show nmS _ (all T) = _
  refine nmS_congr (fun s hs => ?_)
  have := hpl s (hp.mem_iff.1 hs)
  unfold thB
  congr 1
  rw [← Bool.decide_and, ← Bool.decide_and]
  exact decide_eq_decide.2 this
end
end Go.Proofs.YtldmajifkmcdcaaGreat.Hp
/-
  What the places of a frame's nodes hold, read as a tree; the order by Y; what is asked of all of it. Plain words. No condition but those typed at each theorem.
-/
namespace Go.Proofs.YtldmajifkmcdcaaGreat.Hp
/-- ahead by Y, then by name -/
def ltY (a b : S3) : Bool := decide (a.2.1 < b.2.1 ∨ (a.2.1 = b.2.1 ∧ a.2.2 < b.2.2))
theorem ltY_trans (a b c : S3) (h1 : ltY a b = true) (h2 : ltY b c = true) : ltY a c = true := by
  simp only [ltY, decide_eq_true_eq] at *
  omega
theorem ltY_mono (a b : S3) (h : ltY a b = true) : a.2.1 ≤ b.2.1 := by
  simp only [ltY, decide_eq_true_eq] at h
  omega
/-- of two names one is ahead -/
theorem ltY_total {a b : S3} (hn : a.2.2 ≠ b.2.2) (h : ltY a b = false) : ltY b a = true := by
  simp only [ltY, decide_eq_true_eq, decide_eq_false_iff_not] at *
  omega
/-- a part of a frame, and what its places hold -/
def rd (g : Nat → Option S3) : Nat → Tr → HT
  | b, .lf => .lf (g b)
  | b, .nd l r => .nd (g (rt b (.nd l r))) (rd g b l) (rd g (b + sz l) r)
section
variable {g g' : Nat → Option S3}
theorem lv_rd : ∀ t b, lvT (rd g b t) = lv t
  | .lf, b => rfl
  | .nd l r, b => by simp only [rd, lvT, lv, lv_rd l, lv_rd r]
theorem ht_rd : ∀ t b, htT (rd g b t) = ht t
  | .lf, b => rfl
  | .nd l r, b => by
    simp only [rd, htT, ht, ht_rd l, ht_rd r]
    omega
theorem top_rd : ∀ t b, top (rd g b t) = g (rt b t)
  | .lf, b => by simp [rd, top, rt, lv]
  | .nd l r, b => rfl
theorem rd_congr : ∀ {t b}, (∀ i, b ≤ i → i < b + sz t → g i = g' i) → rd g b t = rd g' b t
  | .lf, b, h => by
    have := h b (Nat.le_refl _) (by simp [sz, lv])
    simp only [rd, this]
  | .nd l r, b, h => by
    have h1 := sz_nd l r
    have h2 := sz_pos l
    have h3 := sz_pos r
    have e1 := rd_congr (t := l) (b := b) (fun i q1 q2 => h i q1 (by omega))
    have e2 := rd_congr (t := r) (b := b + sz l) (fun i q1 q2 => h i (by omega) (by omega))
    have e3 := h (rt b (.nd l r)) (by rw [rt_nd]; omega) (by rw [rt_nd]; omega)
    simp only [rd, e1, e2, e3]
/-- all but a part's places hold what they held -/
def Same (b : Nat) (t : Tr) (g g' : Nat → Option S3) : Prop := ∀ i, i < b ∨ b + sz t ≤ i → g' i = g i
theorem Same.refl (b : Nat) (t : Tr) (g : Nat → Option S3) : Same b t g g := fun _ _ => rfl
theorem Same.trans {b : Nat} {t : Tr} {g'' : Nat → Option S3} (h1 : Same b t g g') (h2 : Same b t g' g'') : Same b t g g'' := fun i hi => (h2 i hi).trans (h1 i hi)
theorem Same.left {b : Nat} {l r : Tr} (h : Same b l g g') : Same b (.nd l r) g g' := fun i hi => h i (by have := sz_nd l r; omega)
theorem Same.right {b : Nat} {l r : Tr} (h : Same (b + sz l) r g g') : Same b (.nd l r) g g' := fun i hi => h i (by have := sz_nd l r; omega)
theorem rd_left {b : Nat} {l r : Tr} (h : Same b l g g') : rd g' b (.nd l r) = .nd (g (rt b (.nd l r))) (rd g' b l) (rd g (b + sz l) r) := by
  have h1 := sz_pos l
  rw [rd, h (rt b (.nd l r)) (by rw [rt_nd]; omega), rd_congr (g := g') (g' := g) (t := r) (fun i q1 _ => h i (by omega))]
theorem rd_right {b : Nat} {l r : Tr} (h : Same (b + sz l) r g g') : rd g' b (.nd l r) = .nd (g (rt b (.nd l r))) (rd g b l) (rd g' (b + sz l) r) := by
  have h1 := sz_pos l
  rw [rd, h (rt b (.nd l r)) (by rw [rt_nd]; omega), rd_congr (g := g') (g' := g) (t := l) (fun i _ q2 => h i (by omega))]
/-- one place holds another thing -/
def upG (g : Nat → Option S3) (k : Nat) (h : Option S3) : Nat → Option S3 := fun i => if i = k then h else g i
theorem upG_at (g : Nat → Option S3) (k : Nat) (h : Option S3) : upG g k h k = h := if_pos rfl
theorem upG_ne {i k : Nat} (hi : i ≠ k) (g : Nat → Option S3) (h : Option S3) : upG g k h i = g i := if_neg hi
theorem same_up {b : Nat} {t : Tr} {k : Nat} (h1 : b ≤ k) (h2 : k < b + sz t) (h : Option S3) : Same b t g (upG g k h) := fun i hi => upG_ne (by omega) _ _
theorem rd_up_nd {b : Nat} {l r : Tr} (h : Option S3) : rd (upG g (rt b (.nd l r)) h) b (.nd l r) = .nd h (rd g b l) (rd g (b + sz l) r) := by
  have e := rt_nd b l r
  have e1 : rd (upG g (rt b (.nd l r)) h) b l = rd g b l := rd_congr (fun i _ q2 => upG_ne (by omega) _ _)
  have e2 : rd (upG g (rt b (.nd l r)) h) (b + sz l) r = rd g (b + sz l) r := rd_congr (fun i _ q2 => upG_ne (by omega) _ _)
  rw [rd, upG_at, e1, e2]
theorem rd_up_lf {b : Nat} (h : Option S3) : rd (upG g b h) b .lf = .lf h := by rw [rd, upG_at]
/-- one pulled up, place by place -/
theorem pull_up {lt : S3 → S3 → Bool} {b : Nat} {l r : Tr} {a : S3} (hs : Same b l (upG g (rt b (.nd l r)) (some a)) g') (hp : rd g' b l = pull lt (rd g b l)) (ht : g (rt b l) = some a) (hc : ∀ c, g (rt (b + sz l) r) = some c → lt a c = true) :
    rd g' b (.nd l r) = pull lt (rd g b (.nd l r)) ∧ Same b (.nd l r) g g' := by
  have e := rt_nd b l r
  have h1 := sz_nd l r
  refine ⟨?_, Same.trans (same_up (by omega) (by omega) (some a)) hs.left⟩
  rw [rd_left hs, upG_at, hp, rd_congr (g := upG g (rt b (.nd l r)) (some a)) (g' := g) (t := r) (fun i _ q2 => upG_ne (by omega) _ _)]
  conv => rhs; rw [rd, pull]
  rw [top_rd, top_rd, ht]
  cases hr : g (rt (b + sz l) r) with
  | none => rfl
  | some c => simp only [hc c hr, if_true]
theorem pull_up2 {lt : S3 → S3 → Bool} {b : Nat} {l r : Tr} {c : S3} (hs : Same (b + sz l) r (upG g (rt b (.nd l r)) (some c)) g') (hp : rd g' (b + sz l) r = pull lt (rd g (b + sz l) r)) (ht : g (rt (b + sz l) r) = some c) (ha : ∀ a, g (rt b l) = some a → lt a c = false) :
    rd g' b (.nd l r) = pull lt (rd g b (.nd l r)) ∧ Same b (.nd l r) g g' := by
  have e := rt_nd b l r
  have h1 := sz_nd l r
  refine ⟨?_, Same.trans (same_up (by omega) (by omega) (some c)) hs.right⟩
  rw [rd_right hs, upG_at, hp, rd_congr (g := upG g (rt b (.nd l r)) (some c)) (g' := g) (t := l) (fun i _ q2 => upG_ne (by omega) _ _)]
  conv => rhs; rw [rd, pull]
  rw [top_rd, top_rd, ht]
  cases hl : g (rt b l) with
  | none => rfl
  | some a => simp only [ha a hl, Bool.false_eq_true, if_false]
theorem pull_end {lt : S3 → S3 → Bool} {b : Nat} {l r : Tr} (h1 : g (rt b l) = none) (h2 : g (rt (b + sz l) r) = none) :
    rd (upG g (rt b (.nd l r)) none) b (.nd l r) = pull lt (rd g b (.nd l r)) := by
  rw [rd_up_nd, rd, pull, top_rd, top_rd, h1, h2]
end
/-- RX: the row by X; A: who is there; g: what the places of the frame's nodes hold -/
structure HpI (RX A : List S3) (g : Nat → Option S3) : Prop where
  few : 1 ≤ RX.length ∧ RX.length ≤ 400
  nd : RX.Nodup
  rg : Rg RX
  sub : ∀ s ∈ A, s ∈ RX
  ok : Ok ltY (fun s => RX.idxOf s) 0 (rd g 0 (tr RX.length))
  pm : (all (rd g 0 (tr RX.length))).Perm A
  rga : Rg A
section
variable {RX A : List S3} {g : Nat → Option S3}
theorem HpI.three (h : HpI RX A g) {a b : Nat} {x1 x2 y : Int} (hpl : ∀ s ∈ RX, (a ≤ RX.idxOf s ∧ RX.idxOf s < b ↔ x1 ≤ s.1 ∧ s.1 ≤ x2)) :
    nsort ((toldT (fun s => RX.idxOf s) a b y 0 (rd g 0 (tr RX.length))).map (·.2.2)) = nmS (thB x1 x2 y) A :=
  told_names ltY_mono h.ok h.pm (fun s hs => hpl s (h.sub s hs))
theorem HpI.high (h : HpI RX A g) : htT (rd g 0 (tr RX.length)) = lgN RX.length := by
  rw [ht_rd, ht_tr h.few.1 (by have := h.few.2; omega)]
theorem HpI.nodup (h : HpI RX A g) : (all (rd g 0 (tr RX.length))).Nodup := h.pm.nodup_iff.2 h.rga.once
theorem HpI.tot (h : HpI RX A g) : ∀ a ∈ all (rd g 0 (tr RX.length)), ∀ b ∈ all (rd g 0 (tr RX.length)), a ≠ b → ltY a b = false → ltY b a = true := fun a ha b hb hne => by
  refine ltY_total (fun e => hne ?_)
  have ha := h.pm.mem_iff.1 ha
  have hb := h.pm.mem_iff.1 hb
  exact h.rga.names ha hb e
theorem HpI.drop (h : HpI RX A g) {g' : Nat → Option S3} {s : S3} (hs : s ∈ A) (hg : rd g' 0 (tr RX.length) = dropT ltY s (RX.idxOf s) 0 (rd g 0 (tr RX.length))) : HpI RX (drp A s) g' where
  few := h.few
  nd := h.nd
  rg := h.rg
  sub x hx := h.sub x (List.mem_filter.1 hx).1
  ok := by
    rw [hg]
    exact drop_ok (pl := fun s => RX.idxOf s) ltY_trans h.tot h.ok h.nodup (h.pm.mem_iff.2 hs)
  pm := by
    rw [hg]
    exact perm_drp ((drop_all (pl := fun s => RX.idxOf s) h.ok (h.pm.mem_iff.2 hs)).trans h.pm) (h.pm.nodup_iff.1 h.nodup)
  rga := h.rga.sub List.filter_sublist
theorem HpI.has (h : HpI RX A g) (s : S3) : hasT s (RX.idxOf s) 0 (rd g 0 (tr RX.length)) = decide (s ∈ A) := by
  rw [has_is (pl := fun s => RX.idxOf s) h.ok]
  exact decide_eq_decide.2 h.pm.mem_iff
/-- filled by the points as they rise by Y -/
theorem HpI.fill (h0 : 1 ≤ RX.length ∧ RX.length ≤ 400) (hd : RX.Nodup) (hr : Rg RX) {LY : List S3} (hp : LY.Perm RX) (hs : LY.Pairwise (fun a b => ltY a b = true)) {T : HT} (hT : lvT T = RX.length) (hg : rd g 0 (tr RX.length) = fillT (fun s => RX.idxOf s) 0 T LY) : HpI RX LY g where
  few := h0
  nd := hd
  rg := hr
  sub x hx := hp.mem_iff.1 hx
  ok := by
    rw [hg]
    refine fill_ok (fun s h => ?_) ?_ hs
    · have := List.idxOf_lt_length_of_mem (hp.mem_iff.1 h)
      omega
    · refine (hp.map _).nodup_iff.2 ?_
      refine List.pairwise_map.2 (List.Pairwise.imp_of_mem (fun {a b} ha hb hab e => hab ?_) hd)
      have h1 := List.getElem_idxOf (List.idxOf_lt_length_of_mem ha)
      have h2 := List.getElem_idxOf (List.idxOf_lt_length_of_mem hb)
      rw [← h1, ← h2]
      exact getElem_congr_idx e
  pm := by
    rw [hg]
    refine fill_all (fun s h => ?_) ?_
    · have := List.idxOf_lt_length_of_mem (hp.mem_iff.1 h)
      omega
    · refine (hp.map _).nodup_iff.2 ?_
      refine List.pairwise_map.2 (List.Pairwise.imp_of_mem (fun {a b} ha hb hab e => hab ?_) hd)
      have h1 := List.getElem_idxOf (List.idxOf_lt_length_of_mem ha)
      have h2 := List.getElem_idxOf (List.idxOf_lt_length_of_mem hb)
      rw [← h1, ← h2]
      exact getElem_congr_idx e
  rga := Rg.perm hp.symm hr
end
end Go.Proofs.YtldmajifkmcdcaaGreat.Hp
