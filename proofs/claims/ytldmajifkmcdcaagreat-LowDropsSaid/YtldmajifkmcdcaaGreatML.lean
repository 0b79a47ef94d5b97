/-
  The lowest points between two numbers of X, in order; what is asked of a tree that tells them, whatever it is made of. No condition but those typed at each theorem.
-/
import Derived.Test.YtldmajifkmcdcaaGreatMP
import Derived.Test.YtldmajifkmcdcaaGreatMQ
namespace Go.Proofs.YtldmajifkmcdcaaGreat.Lw
open Go.RowKit
/-- ahead by Y, then by name -/
def ltL (a b : S3) : Bool := decide (a.2.1 < b.2.1 ∨ (a.2.1 = b.2.1 ∧ a.2.2 < b.2.2))
theorem ltL_iff {a b : S3} : ltL a b = true ↔ a.2.1 < b.2.1 ∨ (a.2.1 = b.2.1 ∧ a.2.2 < b.2.2) := decide_eq_true_iff
theorem ltL_not {a b : S3} : ltL a b = false ↔ b.2.1 < a.2.1 ∨ (b.2.1 = a.2.1 ∧ b.2.2 ≤ a.2.2) := by
  unfold ltL
  rw [decide_eq_false_iff_not]
  omega
/-- put where it belongs -/
def insY (s : S3) : List S3 → List S3
  | [] => [s]
  | x :: l => if ltL s x = true then s :: x :: l else x :: insY s l
def psort (L : List S3) : List S3 := L.foldl (fun o a => insY a o) []
/-- nothing stands behind what it is ahead of -/
def Up (L : List S3) : Prop := L.Pairwise (fun a b => ltL b a = false)
theorem psort_snoc (l : List S3) (a : S3) : psort (l ++ [a]) = insY a (psort l) := by simp [psort]
theorem insY_perm (a : S3) (l : List S3) : (insY a l).Perm (a :: l) := by
  induction l with
  | nil => exact List.Perm.refl _
  | cons x l ih =>
    unfold insY
    split
    · exact List.Perm.refl _
    · exact (ih.cons x).trans (List.Perm.swap a x l)
theorem insY_up (a : S3) {l : List S3} (h : Up l) : Up (insY a l) := by
  induction l with
  | nil => simp [insY, Up]
  | cons x l ih =>
    obtain ⟨h1, h2⟩ := List.pairwise_cons.1 h
    unfold insY
    split
    · rename_i h3
      refine List.pairwise_cons.2 ⟨fun b hb => ?_, h⟩
      rcases List.mem_cons.1 hb with rfl | hb
      · rw [ltL_not]; rw [ltL_iff] at h3; omega
      · have := h1 b hb
        rw [ltL_not] at this ⊢; rw [ltL_iff] at h3; omega
    · rename_i h3
      refine List.pairwise_cons.2 ⟨fun b hb => ?_, ih h2⟩
      rcases List.mem_cons.1 ((insY_perm a l).mem_iff.1 hb) with rfl | hb
      · simpa using h3
      · exact h1 b hb
theorem psort_perm (l : List S3) : (psort l).Perm l := by
  induction l using snoc_rec with
  | h0 => exact List.Perm.refl _
  | h1 l a ih =>
    rw [psort_snoc]
    exact ((insY_perm a _).trans (ih.cons a)).trans (List.perm_append_singleton a l).symm
theorem psort_len (l : List S3) : (psort l).length = l.length := (psort_perm l).length_eq
theorem psort_up (l : List S3) : Up (psort l) := by
  induction l using snoc_rec with
  | h0 => exact List.Pairwise.nil
  | h1 l a ih => rw [psort_snoc]; exact insY_up a ih
/-- where it comes to stand -/
theorem insY_take (a : S3) (l : List S3) (k : Nat) (hk : k ≤ l.length) (h1 : ∀ x ∈ l.take k, ltL a x = false) (h2 : ∀ x ∈ l.drop k, ltL a x = true) : insY a l = l.take k ++ a :: l.drop k := by
  induction l generalizing k with
  | nil => simp [insY]
  | cons x l ih =>
    cases k with
    | zero =>
      have := h2 x (by simp)
      simp [insY, this]
    | succ k =>
      have h3 := h1 x (by simp)
      have := ih k (by simpa using hk) (fun y hy => h1 y (by simp [hy])) (fun y hy => h2 y (by simpa using hy))
      simp [insY, h3, this]
/-- of unlike names the order is one -/
theorem up_strict {L : List S3} (hr : Rg L) (h : Up L) : L.Pairwise (fun a b => ltL a b = true) := by
  have h1 : L.Pairwise (fun a b => a.2.2 ≠ b.2.2) := List.pairwise_map.1 hr
  refine (List.pairwise_and_iff.2 ⟨h, h1⟩).imp (fun {a b} hab => ?_)
  have := hab.1
  have := hab.2
  rw [ltL_not] at *
  rw [ltL_iff]
  omega
theorem up_unique {L M : List S3} (hp : L.Perm M) (hr : Rg L) (hL : Up L) (hM : Up M) : L = M := by
  refine List.Perm.eq_of_pairwise (le := fun a b => ltL a b = true) (fun a b _ _ h1 h2 => ?_) (up_strict hr hL) (up_strict (hr.perm hp) hM) hp
  rw [ltL_iff] at h1 h2
  omega
/-- between two numbers of X -/
def inX (x1 x2 : Int) (s : S3) : Bool := decide (x1 ≤ s.1) && decide (s.1 ≤ x2)
/-- those of them, the lowest first -/
def lwL (x1 x2 : Int) (A : List S3) : List S3 := psort (A.filter (inX x1 x2))
theorem lwL_len (x1 x2 : Int) (A : List S3) : (lwL x1 x2 A).length ≤ A.length := by
  unfold lwL
  rw [psort_len]
  exact List.length_filter_le _ _
theorem lwL_perm {A B : List S3} (hp : A.Perm B) (hr : Rg A) (x1 x2 : Int) : lwL x1 x2 A = lwL x1 x2 B :=
  up_unique (((psort_perm _).trans (hp.filter _)).trans (psort_perm _).symm) ((hr.sub List.filter_sublist).perm (psort_perm _).symm) (psort_up _) (psort_up _)
theorem mem_lwL {x1 x2 : Int} {A : List S3} {s : S3} : s ∈ lwL x1 x2 A ↔ s ∈ A ∧ x1 ≤ s.1 ∧ s.1 ≤ x2 := by
  unfold lwL inX
  rw [(psort_perm _).mem_iff, List.mem_filter]
  simp
theorem lwL_rg {x1 x2 : Int} {A : List S3} (hr : Rg A) : Rg (lwL x1 x2 A) := (hr.sub List.filter_sublist).perm (psort_perm _).symm
theorem lwL_strict {x1 x2 : Int} {A : List S3} (hr : Rg A) : (lwL x1 x2 A).Pairwise (fun a b => ltL a b = true) := up_strict (lwL_rg hr) (psort_up _)
/-- so many things more are touched at most: by Lowest, and by Lows beside those for each that it tells -/
def mostL (n : Nat) : Nat := 8 * lgN (n + 1) + 8
def eachL (n : Nat) : Nat := 2 * lgN (n + 1) + 3
/-- a slice of these points -/
def PL (w : World) (v : Value) (L : List S3) : Prop := ∃ q c, v = .slice q L.length c ∧ TsS w q L ∧ (q = none → c = 0) ∧ L.length ≤ c ∧ c ≤ maxLen
/-- the same, in memory made since -/
def PN (N : Nat) (w : World) (v : Value) (L : List S3) : Prop := PL w v L ∧ ∀ a m c, v = .slice (some a) m c → N ≤ a.block
/-- what the first one is, if there is one -/
def fstL : List S3 → Value × Bool
  | [] => (.agg #[.int .i64 0, .int .i64 0, .int .u32 0], false)
  | s :: _ => (tv s, true)
/-- TS X v n S A: v is a tree that was built of n points, those of A are there, the blocks S are its own -/
structure LowC (TS : World → Value → Nat → List Nat → List S3 → Prop) : Prop where
  keep : ∀ {X X' v n S A T}, TS X v n S A → Off T X X' → (∀ k ∈ S, k ∉ T) → TS X' v n S A
  lies : ∀ {X v n S A}, TS X v n S A → ∀ k ∈ S, k < X.heap.size
  build : ∀ (w : World) (p : Option Addr) (c : Nat) (L : List S3), TsS w p L → L.length ≤ 400 → L.length ≤ c → (p = none → c = 0) → (∀ s ∈ L, Wf3 s) → Calls Tryz.prog 10 #[.slice p L.length c] w (Built TS w L)
  len : ∀ {X v n S A}, TS X v n S A → Calls Tryz.prog 12 #[v] X fun e X' => e = .returned (.int .i64 A.length) ∧ Below X.heap.size X X'
  lows : ∀ {X v n S A} (x1 x2 k : Int), TS X v n S A → (Lit.int .i64 x1).wf = true → (Lit.int .i64 x2).wf = true → (Lit.int .i64 k).wf = true → Calls Tryz.prog 18 #[v, .int .i64 x1, .int .i64 x2, .int .i64 k] X fun e X' => (∃ r, ∃ t : Nat, e = .returned (.tuple #[r, .int .i64 t]) ∧ PN X.heap.size X' r ((lwL x1 x2 A).take k.toNat) ∧ ((lwL x1 x2 A).take k.toNat).length ≤ t ∧ t ≤ mostL n + ((lwL x1 x2 A).take k.toNat).length * eachL n) ∧ Below X.heap.size X X'
  lowest : ∀ {X v n S A} (x1 x2 : Int), TS X v n S A → (Lit.int .i64 x1).wf = true → (Lit.int .i64 x2).wf = true → Calls Tryz.prog 17 #[v, .int .i64 x1, .int .i64 x2] X fun e X' => (∃ t : Nat, e = .returned (.tuple #[(fstL (lwL x1 x2 A)).1, .bool (fstL (lwL x1 x2 A)).2, .int .i64 t]) ∧ t ≤ mostL n) ∧ Below X.heap.size X X'
  drop : ∀ {X v n S A} (s : S3), TS X v n S A → Wf3 s → Calls Tryz.prog 15 #[v, tv s] X fun e X' => e = .returned (.bool (decide (s ∈ A))) ∧ ∃ S', TS X' v n S' (drp A s) ∧ Off S X X' ∧ ∀ k ∈ S', k ∈ S ∨ X.heap.size ≤ k
  few : ∀ {X v n S A}, TS X v n S A → A.length ≤ n ∧ n ≤ 400 ∧ Rg A ∧ ∀ s ∈ A, Wf3 s
theorem LowC.bel {TS : World → Value → Nat → List Nat → List S3 → Prop} {X X' : World} {v : Value} {n : Nat} {S : List Nat} {A : List S3} (C : LowC TS) (h : TS X v n S A) (hb : Below X.heap.size X X') : TS X' v n S A := C.keep h (Off.of (S := []) hb (Nat.le_refl _)) (by simp)
end Go.Proofs.YtldmajifkmcdcaaGreat.Lw
/-
  A row of points of one's own, with room, that may be written: point by point. No condition but those typed at each theorem.
-/
namespace Go.Proofs.YtldmajifkmcdcaaGreat.Lw
open Go.RowKit
theorem flatT_set (L : List S3) (i : Nat) (s : S3) (hi : i < L.length) : flatT (L.set i s) = (((flatT L).set (i * 3) (.int .i64 s.1)).set (i * 3 + 1) (.int .i64 s.2.1)).set (i * 3 + 2) (.int .u32 s.2.2) := by
  induction L generalizing i with
  | nil => simp at hi
  | cons a L ih =>
    cases i with
    | zero =>
      rw [List.set_cons_zero, show flatT (s :: L) = tvs s ++ flatT L from rfl, show flatT (a :: L) = tvs a ++ flatT L from rfl]
      simp [tvs]
    | succ i =>
      have h := ih i (by simpa using hi)
      rw [List.set_cons_succ, show flatT (a :: L.set i s) = tvs a ++ flatT (L.set i s) from rfl, show flatT (a :: L) = tvs a ++ flatT L from rfl, h]
      obtain ⟨x, y, z⟩ := a
      have e1 : (i + 1) * 3 = i * 3 + 3 := by omega
      have e2 : (i + 1) * 3 + 1 = (i * 3 + 1) + 3 := by omega
      have e3 : (i + 1) * 3 + 2 = (i * 3 + 2) + 3 := by omega
      rw [e3, e2, e1]
      simp [tvs]
/-- the block g, with room for so many, begins with these points, and may be written -/
def TB (w : World) (g cap : Nat) (L : List S3) : Prop :=
  ∃ cur : Array Value, w.heap[g]? = some (.cells cur 34 (0, 0)) ∧ L.length ≤ cap ∧ cap ≤ maxLen ∧ cur.size = cap * 3 ∧ cur.toList.take (L.length * 3) = flatT L
section
variable {w w' : World} {g cap : Nat} {L : List S3}
theorem TB.lt (h : TB w g cap L) : g < w.heap.size := by obtain ⟨cur, h, _⟩ := h; exact lt_of_block h
theorem TB.own (h : TB w g cap L) {base n : Nat} (hb : base ≤ g) (hn : n = L.length) : w.ownsRow base 34 3 (.slice (some ⟨g, 0, none⟩) n cap) n (flatT L) := by
  subst hn
  obtain ⟨cur, h1, h2, h3, h4, h5⟩ := h
  exact ⟨flatT_len L, .inr ⟨g, cap, cur, rfl, hb, h1, h2, h3, h4, h5⟩⟩
theorem tb_of {base n : Nat} {v : Value} (h : w.ownsRow base 34 3 v n (flatT L)) (hn : 0 < n) : ∃ g cap, v = .slice (some ⟨g, 0, none⟩) n cap ∧ base ≤ g ∧ TB w g cap L := by
  obtain ⟨h1, h2⟩ := h
  rw [flatT_len] at h1
  rcases h2 with ⟨rfl, h2⟩ | ⟨g, cap, cur, rfl, hb, hg, hnc, hcm, hcs, htk⟩
  · omega
  · exact ⟨g, cap, rfl, hb, cur, hg, by omega, hcm, hcs, by rw [← htk]; congr 1⟩
theorem TB.at (h : TB w g cap L) {i : Nat} {s : S3} (e : L[i]? = some s) : T1 w g (i * 3) s := by
  have hn : 0 < L.length := by have := (List.getElem?_eq_some_iff.1 e).1; omega
  obtain ⟨-, p, c, hv, hts, -⟩ := row_ts (h.own (base := 0) (Nat.zero_le _) rfl)
  cases hv
  obtain ⟨b, off, hp, ht⟩ := hts.at e
  cases hp
  simpa using ht
theorem TB.free (h : TB w g cap L) (i : Nat) : w.frozen? ⟨g, i, none⟩ = false := by
  obtain ⟨cur, h1, _⟩ := h
  simp [World.frozen?, h1]
theorem TB.keep {N : Nat} (h : TB w g cap L) (hb : Below N w w') (hN : g < N) : TB w' g cap L := by
  obtain ⟨cur, h1, h2⟩ := h
  exact ⟨cur, (hb.block g hN).trans h1, h2⟩
theorem TB.drew (h : TB w g cap L) : TB w.drew g cap L := h
theorem TB.eq {M : List S3} (h : TB w g cap L) (e : L = M) : TB w g cap M := e ▸ h
/-- the world in which this point is written -/
def set3 (w : World) (g i : Nat) (s : S3) : World := ((w.setCell ⟨g, i * 3, none⟩ (.int .i64 s.1)).setCell ⟨g, i * 3 + 1, none⟩ (.int .i64 s.2.1)).setCell ⟨g, i * 3 + 2, none⟩ (.int .u32 s.2.2)
theorem TB.set (h : TB w g cap L) {i : Nat} (s : S3) (hi : i < L.length) : TB (set3 w g i s) g cap (L.set i s) := by
  obtain ⟨cur, h1, h2, h3, h4, h5⟩ := h
  refine ⟨((cur.setIfInBounds (i * 3) (.int .i64 s.1)).setIfInBounds (i * 3 + 1) (.int .i64 s.2.1)).setIfInBounds (i * 3 + 2) (.int .u32 s.2.2), ?_, by simpa using h2, h3, by simpa using h4, ?_⟩
  · exact heap_setCell_same _ _ _ _ _ _ (heap_setCell_same _ _ _ _ _ _ (heap_setCell_same _ _ _ _ _ _ h1))
  · rw [List.length_set, flatT_set L i s hi, Array.toList_setIfInBounds, Array.toList_setIfInBounds, Array.toList_setIfInBounds, List.take_set, List.take_set, List.take_set, h5]
theorem below_set3 {N : Nat} (h : Below N w w') {i : Nat} (s : S3) (hg : N ≤ g) : Below N w (set3 w' g i s) := ((h.setCell (show N ≤ (⟨g, i * 3, none⟩ : Addr).block from hg) _).setCell (show N ≤ (⟨g, i * 3 + 1, none⟩ : Addr).block from hg) _).setCell (show N ≤ (⟨g, i * 3 + 2, none⟩ : Addr).block from hg) _
end
/-- the points S, something at the place a, as a new one is carried down to it -/
def hol (S : List S3) (a : Nat) (z : S3) : List S3 := S.take a ++ z :: S.drop a
theorem hol_len {S : List S3} {a : Nat} {z : S3} (h : a ≤ S.length) : (hol S a z).length = S.length + 1 := by simp [hol]; omega
theorem hol_at {S : List S3} {a : Nat} {z : S3} (h : a ≤ S.length) : (hol S a z)[a]? = some z := by
  unfold hol
  rw [List.getElem?_append_right (by simp; omega)]
  simp [Nat.min_eq_left h]
theorem hol_below {S : List S3} {a j : Nat} {z : S3} (h : j < a) (hs : a ≤ S.length) : (hol S a z)[j]? = S[j]? := by
  unfold hol
  rw [List.getElem?_append_left (by simp; omega), List.getElem?_take_of_lt h]
theorem hol_set {S : List S3} {a : Nat} {z y : S3} (h : a ≤ S.length) : (hol S a z).set a y = hol S a y := by
  unfold hol
  rw [List.set_append_right _ _ (by simp; omega)]
  simp [Nat.min_eq_left h]
theorem hol_down {S : List S3} {a : Nat} {z y : S3} (h : a < S.length) (e : S[a]? = some y) : (hol S (a + 1) z).set (a + 1) y = hol S a y := by
  rw [hol_set (by omega)]
  unfold hol
  obtain ⟨h1, h2⟩ := List.getElem?_eq_some_iff.1 e
  rw [List.take_add_one, e, List.drop_eq_getElem_cons h1, h2]
  simp
theorem hol_end (S : List S3) (z : S3) : hol S S.length z = S ++ [z] := by simp [hol]
end Go.Proofs.YtldmajifkmcdcaaGreat.Lw
/-
  The document's lower, and its Lows. No condition but those typed at each theorem.
-/
namespace Go.Proofs.YtldmajifkmcdcaaGreat.Lw
open Go.RowKit
set_option maxRecDepth 100000 in
set_option maxHeartbeats 1600000 in
theorem lower_any (s t : S3) (w : World) : Calls Tryz.prog 53 #[tv s, tv t] w fun e w' => e = .returned (.bool (ltL s t)) ∧ Below w.heap.size w w' := by
  obtain ⟨x, y, n⟩ := s
  obtain ⟨x', y', n'⟩ := t
  have HB : Hid (Below w.heap.size w ((w.alloc (.cells #[.int .i64 x, .int .i64 y, .int .u32 n] 34)).alloc (.cells #[.int .i64 x', .int .i64 y', .int .u32 n'] 34))) := Lib.hid (((Below.refl _ w).alloc (Nat.le_refl _) _).alloc (by simp) _)
  unfold tv
  simp only
  by_cases h1 : y < y'
  · have e : ltL (x, y, n) (x', y', n') = true := ltL_iff.2 (.inl h1)
    rw [e]
    go_enter Tryz.func53, Tryz.ntmps53
    go_wp2
    go_ret
    exact ⟨rfl, HB.out⟩
  · by_cases h2 : y = y'
    · subst h2
      by_cases h3 : n < n'
      · have e : ltL (x, y, n) (x', y, n') = true := ltL_iff.2 (.inr ⟨rfl, h3⟩)
        rw [e]
        go_enter Tryz.func53, Tryz.ntmps53
        go_wp2
        go_ret
        exact ⟨rfl, HB.out⟩
      · have e : ltL (x, y, n) (x', y, n') = false := ltL_not.2 (.inr ⟨rfl, by simp only; omega⟩)
        rw [e]
        go_enter Tryz.func53, Tryz.ntmps53
        go_wp2
        go_ret
        exact ⟨rfl, HB.out⟩
    · have e : ltL (x, y, n) (x', y', n') = false := ltL_not.2 (.inl (by simp only; omega))
      rw [e]
      go_enter Tryz.func53, Tryz.ntmps53
      go_wp2
      go_ret
      exact ⟨rfl, HB.out⟩
theorem lwL_snoc (x1 x2 : Int) (A : List S3) (s : S3) : lwL x1 x2 (A ++ [s]) = if inX x1 x2 s = true then insY s (lwL x1 x2 A) else lwL x1 x2 A := by
  unfold lwL
  rw [List.filter_append, List.filter_cons, List.filter_nil]
  split
  · exact psort_snoc _ _
  · rw [List.append_nil]
set_option maxRecDepth 100000 in
set_option maxHeartbeats 6400000 in
theorem RLows (w : World) (p : Option Addr) (c : Nat) (L : List S3) (x1 x2 K : Int) (hx : TsS w p L) (hl : L.length ≤ 8192) :
    Calls Tryz.prog 27 #[.slice p L.length c, .int .i64 x1, .int .i64 x2, .int .i64 K] w fun e w' => ∃ v, e = .returned v ∧ PL w' v ((lwL x1 x2 L).take K.toNat) ∧ Below w.heap.size w w' := by
  have HX := Lib.hid hx
  obtain ⟨d, hd⟩ : ∃ d, d = L.length := ⟨_, rfl⟩
  have HD := Lib.hid hd
  rw [← hd] at hl ⊢
  clear hd hx
  go_enter Tryz.func27, Tryz.ntmps27
  go_wp2
  go_loopw [9, 10] (fun v9 v10 wr => ∃ (k : Nat) (S : List S3), k ≤ d ∧ v10 = .int .i64 k ∧ Hid (S = lwL x1 x2 (L.take k)) ∧ S.length ≤ k ∧ (∃ q cq, v9 = .slice q S.length cq) ∧ Hid (wr.ownsRow w.heap.size 34 3 v9 S.length (flatT S)) ∧ Hid (Below w.heap.size w wr)) (fun _ v _ => d - (intOf v).toNat)
  case atStart => exact ⟨0, [], Nat.zero_le _, rfl, Lib.hid rfl, Nat.le_refl _, ⟨none, 0, rfl⟩, Lib.hid (World.ownsRow_nil _ _ _ _), Lib.hid (Below.refl _ _)⟩
  case round =>
    obtain ⟨k, S, hk, rfl, HS, hSk, ⟨q, cq, rfl⟩, HR, HB⟩ := hrel
    by_cases hlt : k < d
    · have hltz : (k : Int) < d := by omega
      obtain ⟨s, hse⟩ : ∃ s, L[k]? = some s := ⟨_, List.getElem?_eq_getElem (by have := HD.out; omega)⟩
      obtain ⟨b, off, rfl, h1⟩ := HX.out.at hse
      have HT1 := Lib.hid h1
      have HBL := Lib.hid h1.lt
      have HST := Lib.hid (show lwL x1 x2 (L.take (k + 1)) = if inX x1 x2 s = true then insY s S else S by rw [List.take_add_one, hse, HS.out]; exact lwL_snoc _ _ _ _)
      have HSP := Lib.hid (show Up S by rw [HS.out]; exact psort_up _)
      have g1 := h1.keep HB.out h1.lt
      have n0 := g1.c0
      have n1 := g1.c1
      have n2 := g1.c2
      clear hse h1 g1
      obtain ⟨sx, sy, si⟩ := s
      simp only at n0 n1 n2
      by_cases hA : sx < x1
      · have HFIN := Lib.hid (show S = lwL x1 x2 (L.take (k + 1)) by rw [HST.out, if_neg (by simp [inX]; omega)])
        clear HST HT1
        go_wp2
        go_roundw
        case rel => exact ⟨k + 1, S, by omega, by go_num, HFIN, by omega, ⟨_, _, rfl⟩, HR, HB⟩
        case measure => simp [intOf]; omega
      · by_cases hZ : x2 < sx
        · have HFIN := Lib.hid (show S = lwL x1 x2 (L.take (k + 1)) by rw [HST.out, if_neg (by simp [inX]; omega)])
          clear HST HT1
          go_wp2
          go_roundw
          case rel => exact ⟨k + 1, S, by omega, by go_num, HFIN, by omega, ⟨_, _, rfl⟩, HR, HB⟩
          case measure => simp [intOf]; omega
        · have hST := HST.out
          rw [if_pos (by simp [inX]; omega)] at hST
          have HST := Lib.hid hST
          clear hST
          have hk8 : k ≤ 8192 := by omega
          obtain ⟨sl, hsl⟩ : ∃ sl, sl = S.length := ⟨_, rfl⟩
          have HSL := Lib.hid hsl.symm
          rw [← hsl] at HR hSk ⊢
          clear hsl
          go_wp2_with (at_builtin; refine wpList_more Tryz.info34 rfl (by decide) (by decide) Tryz.underlying22 _ rfl (.tmp 36) (.tmp 41) rfl (.slice q sl cq) sl (flatT S) rfl (row_at (base' := 0) (World.ownsRow.alloc HR.out _) (fun _ _ => ⟨rfl, Nat.zero_le _⟩)) ⟨wr.heap.size, 0, none⟩ 1 1 (tvs (sx, sy, si)) rfl rfl (td_at wr (sx, sy, si) _) (tvs_one _) (by omega) (by decide) ?_; intro g1 c1 w1 h1 h2 h3; have H1 := Lib.hid h1; have HB1 := Lib.hid ((HB.out.alloc HB.out.size (.cells (tvs (sx, sy, si)).toArray 34)).grown ⟨h2.os, h2.tape, h2.output, h2.size, h2.block⟩ (by have := HB.out.size; simp; omega) (fun k e => (HR.out.lt k e).1)); have HG1 := Lib.hid (show w.heap.size ≤ g1 from h3.elim (fun e => (HR.out.lt _ e).1) (fun e => by have := HB.out.size; simp at e; omega)); clear h1 h2 h3)
          have hrb : TB w1 g1 c1 (hol S sl (sx, sy, si)) := by
            have h := H1.out
            rw [← flatT_snoc] at h
            obtain ⟨g2, c2, e, -, h5⟩ := tb_of h (by omega)
            cases e
            have := hol_end S (sx, sy, si)
            rw [HSL.out] at this
            rw [this]
            exact h5
          have HRB := Lib.hid hrb
          have hgb : g1 ≠ b := by have := HG1.out; have := HBL.out; omega
          clear hrb HR HB n0 n1 n2 H1
          go_loopw [11] (fun v11 wz => ∃ (a : Nat) (z : S3), a ≤ sl ∧ v11 = .int .i64 a ∧ Hid (TB wz g1 c1 (hol S a z)) ∧ Hid (∀ y ∈ S.drop a, ltL (sx, sy, si) y = true) ∧ Hid (Below w.heap.size w wz)) (fun v11 _ => (intOf v11).toNat)
          case atStart => exact ⟨sl, (sx, sy, si), Nat.le_refl _, rfl, HRB, Lib.hid (by rw [List.drop_of_length_le (by have := HSL.out; omega)]; simp), HB1⟩
          case round =>
            clear HRB HB1
            obtain ⟨a, z, ha, rfl, HRB, HY, HB⟩ := hrel
            have gs := HT1.out.keep HB.out HBL.out
            have n0 := gs.c0
            have n1 := gs.c1
            have n2 := gs.c2
            simp only at n0 n1 n2
            clear gs
            obtain ⟨zx, zy, zi⟩ := z
            cases a with
            | zero =>
              have hz0 : ¬ (0 : Int) < ((0 : Nat) : Int) := by omega
              have f0 := HRB.out.free 0
              have f1 := HRB.out.free 1
              have f2 := HRB.out.free 2
              have cg := HRB.out.at (hol_at (S := S) (a := 0) (z := (zx, zy, zi)) (by omega))
              have e0 := cg.c0
              have e1 := cg.c1
              have e2 := cg.c2
              simp only [Nat.zero_mul, Nat.zero_add] at e0 e1 e2
              have HRS := Lib.hid (fun nn => show TB (set3 (wr.drewN nn) g1 0 (sx, sy, si)) g1 c1 (hol S 0 (sx, sy, si)) from (TB.set (w := wr.drewN nn) HRB.out (sx, sy, si) (by rw [hol_len (by omega)]; omega)).eq (hol_set (S := S) (a := 0) (by omega)))
              have HFIN := Lib.hid (show hol S 0 (sx, sy, si) = lwL x1 x2 (L.take (k + 1)) by
                rw [HST.out]
                exact (insY_take (sx, sy, si) S 0 (Nat.zero_le _) (by simp) HY.out).symm)
              have HBS := Lib.hid (fun nn => show Below w.heap.size w (set3 (wr.drewN nn) g1 0 (sx, sy, si)) from below_set3 (below_drewN HB.out nn) (i := 0) (sx, sy, si) HG1.out)
              clear HY HRB HB HST HS cg
              go_upto_region 8 with fail
              go_quiet (fail)
              go_wp2
              go_roundw
              case rel =>
                have hlen : (hol S 0 (sx, sy, si)).length = sl + 1 := by rw [hol_len (by have := HSL.out; omega), HSL.out]
                exact ⟨k + 1, hol S 0 (sx, sy, si), by omega, by go_num, HFIN, by omega, ⟨_, _, by rw [hlen]⟩, Lib.hid (by rw [hlen]; exact (HRS.out nq).own (base := w.heap.size) (n := sl + 1) HG1.out hlen.symm), Lib.hid (HBS.out nq)⟩
              case measure => simp [intOf]; omega
            | succ a =>
              obtain ⟨y, hye⟩ : ∃ y, S[a]? = some y := ⟨_, List.getElem?_eq_getElem (by have := HSL.out; omega)⟩
              have hz0 : (0 : Int) < (a : Int) + 1 := by omega
              have f0 := HRB.out.free ((a + 1) * 3)
              have f1 := HRB.out.free ((a + 1) * 3 + 1)
              have f2 := HRB.out.free ((a + 1) * 3 + 2)
              have cg := HRB.out.at (hol_at (S := S) (a := a + 1) (z := (zx, zy, zi)) (by have := HSL.out; omega))
              have e0 := cg.c0
              have e1 := cg.c1
              have e2 := cg.c2
              have cy := HRB.out.at (i := a) (s := y) (by rw [hol_below (by omega) (by have := HSL.out; omega)]; exact hye)
              have y0 := cy.c0
              have y1 := cy.c1
              have y2 := cy.c2
              obtain ⟨yx, yy, yi⟩ := y
              simp only at e0 e1 e2 y0 y1 y2
              have ha8 : a + 1 ≤ sl := ha
              have HLO := Lib.hid (fun X => lower_any (sx, sy, si) (yx, yy, yi) X)
              unfold tv at HLO
              simp only at HLO
              have inst : Nonempty (Wd (Bw wr)) := ⟨⟨wr, Below.refl _ _⟩⟩
              have k0 : ∀ z : Wd (Bw wr), z.w.cell? ⟨b, off + k * 3, none⟩ = _ := fun z => Bw.cell z n0
              have k1 : ∀ z : Wd (Bw wr), z.w.cell? ⟨b, off + k * 3 + 1, none⟩ = _ := fun z => Bw.cell z n1
              have k2 : ∀ z : Wd (Bw wr), z.w.cell? ⟨b, off + k * 3 + 2, none⟩ = _ := fun z => Bw.cell z n2
              have l0 : ∀ z : Wd (Bw wr), z.w.cell? ⟨g1, a * 3, none⟩ = _ := fun z => Bw.cell z y0
              have l1 : ∀ z : Wd (Bw wr), z.w.cell? ⟨g1, a * 3 + 1, none⟩ = _ := fun z => Bw.cell z y1
              have l2 : ∀ z : Wd (Bw wr), z.w.cell? ⟨g1, a * 3 + 2, none⟩ = _ := fun z => Bw.cell z y2
              clear cg cy
              go_upto_region 8 with fail
              by_cases hxy : ltL (sx, sy, si) (yx, yy, yi) = true
              · rw [hxy] at HLO
                refine wp_region_wd (Bw wr) (by kernel_rfl) (by kernel_rfl) ((Below.refl _ wr).drew) ?_
                repeat (first
                  | go_big_quiet_step (first | (go_at_call 53; with_reducible exact calls_wd (fun _ _ h hb => h.keep hb) _ (HLO.out _)))
                  | quiet_step (first | (go_at_call 53; with_reducible exact calls_wd (fun _ _ h hb => h.keep hb) _ (HLO.out _))))
                refine wpQuiet_nil ?_
                rintro _ ⟨z, rfl⟩
                have HZ := Lib.hid (HRB.out.keep z.h HRB.out.lt)
                have HBZ := Lib.hid (HB.out.trans (Below.mono z.h HB.out.size))
                have p0 := k0 z
                have p1 := k1 z
                have p2 := k2 z
                have r0 := l0 z
                have r1 := l1 z
                have r2 := l2 z
                clear k0 k1 k2 l0 l1 l2 n0 n1 n2 y0 y1 y2 e0 e1 e2 f0 f1 f2
                obtain ⟨X, hX⟩ : ∃ X, X = z.w := ⟨_, rfl⟩
                rw [← hX] at HZ HBZ p0 p1 p2 r0 r1 r2 ⊢
                clear hX z HRB HB
                have f0 := HZ.out.free ((a + 1) * 3)
                have f1 := HZ.out.free ((a + 1) * 3 + 1)
                have f2 := HZ.out.free ((a + 1) * 3 + 2)
                have cg := HZ.out.at (hol_at (S := S) (a := a + 1) (z := (zx, zy, zi)) (by have := HSL.out; omega))
                have e0 := cg.c0
                have e1 := cg.c1
                have e2 := cg.c2
                simp only at e0 e1 e2
                clear cg
                have HRS := Lib.hid ((HZ.out.set (yx, yy, yi) (i := a + 1) (by rw [hol_len (by have := HSL.out; omega)]; have := HSL.out; omega)).eq (hol_down (by have := HSL.out; omega) hye))
                have HYY := Lib.hid (show ∀ e ∈ S.drop a, ltL (sx, sy, si) e = true by
                  obtain ⟨h1, h2⟩ := List.getElem?_eq_some_iff.1 hye
                  rw [List.drop_eq_getElem_cons h1, h2]
                  intro e he
                  rcases List.mem_cons.1 he with rfl | he
                  · exact hxy
                  · exact HY.out e he)
                have HBS := Lib.hid (below_set3 HBZ.out (i := a + 1) (yx, yy, yi) HG1.out)
                clear HY HZ HBZ hye
                go_wp2
                go_roundw
                case rel => exact ⟨a, (yx, yy, yi), by omega, by go_num, HRS, HYY, HBS⟩
                case measure => simp [intOf]
              · have hxy' : ltL (sx, sy, si) (yx, yy, yi) = false := by simpa using hxy
                rw [hxy'] at HLO
                refine wp_region_wd (Bw wr) (by kernel_rfl) (by kernel_rfl) ((Below.refl _ wr).drew) ?_
                repeat (first
                  | go_big_quiet_step (first | (go_at_call 53; with_reducible exact calls_wd (fun _ _ h hb => h.keep hb) _ (HLO.out _)))
                  | quiet_step (first | (go_at_call 53; with_reducible exact calls_wd (fun _ _ h hb => h.keep hb) _ (HLO.out _))))
                refine wpQuiet_nil ?_
                rintro _ ⟨z, rfl⟩
                have HZ := Lib.hid (HRB.out.keep z.h HRB.out.lt)
                have HBZ := Lib.hid (HB.out.trans (Below.mono z.h HB.out.size))
                have p0 := k0 z
                have p1 := k1 z
                have p2 := k2 z
                have r0 := l0 z
                have r1 := l1 z
                have r2 := l2 z
                clear k0 k1 k2 l0 l1 l2 n0 n1 n2 y0 y1 y2 e0 e1 e2 f0 f1 f2
                obtain ⟨X, hX⟩ : ∃ X, X = z.w := ⟨_, rfl⟩
                rw [← hX] at HZ HBZ p0 p1 p2 r0 r1 r2 ⊢
                clear hX z HRB HB
                have f0 := HZ.out.free ((a + 1) * 3)
                have f1 := HZ.out.free ((a + 1) * 3 + 1)
                have f2 := HZ.out.free ((a + 1) * 3 + 2)
                have cg := HZ.out.at (hol_at (S := S) (a := a + 1) (z := (zx, zy, zi)) (by have := HSL.out; omega))
                have e0 := cg.c0
                have e1 := cg.c1
                have e2 := cg.c2
                simp only at e0 e1 e2
                clear cg
                have HRS := Lib.hid ((HZ.out.set (sx, sy, si) (i := a + 1) (by rw [hol_len (by have := HSL.out; omega)]; have := HSL.out; omega)).eq (hol_set (by have := HSL.out; omega)))
                have HFIN := Lib.hid (show hol S (a + 1) (sx, sy, si) = lwL x1 x2 (L.take (k + 1)) by
                  rw [HST.out]
                  refine (insY_take (sx, sy, si) S (a + 1) (by have := HSL.out; omega) (fun e he => ?_) HY.out).symm
                  obtain ⟨h1, h2⟩ := List.getElem?_eq_some_iff.1 hye
                  rw [List.take_add_one, hye] at he
                  rcases List.mem_append.1 he with he | he
                  · have hp2 := HSP.out
                    unfold Up at hp2
                    rw [← List.take_append_drop a S, List.drop_eq_getElem_cons h1, h2] at hp2
                    have := (List.pairwise_append.1 hp2).2.2 e he (yx, yy, yi) List.mem_cons_self
                    rw [ltL_not] at this hxy' ⊢
                    simp only at this hxy' ⊢
                    omega
                  · simp at he
                    subst he
                    exact hxy')
                have HBS := Lib.hid (below_set3 HBZ.out (i := a + 1) (sx, sy, si) HG1.out)
                clear HY HZ HBZ HST HS hye
                go_wp2
                go_roundw
                case rel =>
                  have hlen : (hol S (a + 1) (sx, sy, si)).length = sl + 1 := by rw [hol_len (by have := HSL.out; omega), HSL.out]
                  exact ⟨k + 1, hol S (a + 1) (sx, sy, si), by omega, by go_num, HFIN, by omega, ⟨_, _, by rw [hlen]⟩, Lib.hid (by rw [hlen]; exact HRS.out.own (base := w.heap.size) (n := sl + 1) HG1.out hlen.symm), HBS⟩
                case measure => simp [intOf]; omega
    · obtain rfl : k = d := by omega
      have hltz : ¬ (k : Int) < k := by omega
      have hS := HS.out
      rw [List.take_of_length_le (by have := HD.out; omega)] at hS
      obtain ⟨-, p1, c1, hv, hts, hpc, hlc, hcm, -⟩ := row_ts HR.out
      cases hv
      have HTS := Lib.hid hts
      have HPC := Lib.hid hpc
      have HSX := Lib.hid hS
      clear hts hpc hS HR HS HX
      have HPL := Lib.hid (show ∀ h, h ≤ S.length → PL wr (.slice q h cq) (S.take h) from fun h hh => ⟨q, cq, by rw [List.length_take, Nat.min_eq_left hh], HTS.out.take h, fun e => (HPC.out e).1, by rw [List.length_take]; omega, hcm⟩)
      clear hcm HTS HPC
      have hSz : S.length ≤ 8192 := by omega
      obtain ⟨n, hn⟩ : ∃ n, n = K.toNat := ⟨_, rfl⟩
      have HQ : Hid (∀ h, n = h ∨ (S.length ≤ n ∧ h = S.length) → h ≤ S.length → PL wr (.slice q h cq) ((lwL x1 x2 L).take K.toNat)) := Lib.hid (fun h h1 h2 => by
        rw [← HSX.out, ← hn]
        rcases h1 with rfl | ⟨h1, rfl⟩
        · exact HPL.out _ h2
        · have := HPL.out S.length (Nat.le_refl _)
          rw [List.take_of_length_le (Nat.le_refl _)] at this
          rw [List.take_of_length_le h1]
          exact this)
      have HSLC := Lib.hid (fun X h (hh : h ≤ cq) => slP_to X q S.length cq h hh)
      clear HPL HSX
      generalize hsl : S.length = sl at *
      by_cases hK0 : K < 0
      · have hn0 : n = 0 := by omega
        by_cases hS0 : 0 < sl
        · have hs := HSLC.out
          have hs0 := fun X => hs X 0 (Nat.zero_le _)
          simp only [Int.ofNat_zero] at hs0
          have hS0z : (0 : Int) < sl := by omega
          clear HSLC hs
          go_wp2
          go_ret
          exact ⟨_, rfl, HQ.out 0 (.inl hn0) (by omega), HB.out⟩
        · have hS0z : ¬ (0 : Int) < sl := by omega
          go_wp2
          go_ret
          exact ⟨_, rfl, HQ.out sl (.inr ⟨by omega, rfl⟩) (by omega), HB.out⟩
      · have hKn : K = (n : Int) := by omega
        subst hKn
        clear hn hK0
        by_cases hS0 : n < sl
        · have hs := fun X => HSLC.out X n (by omega)
          have hS0z : (n : Int) < sl := by omega
          clear HSLC
          go_wp2
          go_ret
          exact ⟨_, rfl, HQ.out n (.inl rfl) (by omega), HB.out⟩
        · have hS0z : ¬ (n : Int) < sl := by omega
          go_wp2
          go_ret
          exact ⟨_, rfl, HQ.out sl (.inr ⟨by omega, rfl⟩) (by omega), HB.out⟩
end Go.Proofs.YtldmajifkmcdcaaGreat.Lw
/-
  The law's Same over points. No condition but those typed at each theorem.
-/
namespace Go.Proofs.YtldmajifkmcdcaaGreat.Lw
open Go.RowKit
set_option maxRecDepth 100000 in
set_option maxHeartbeats 3200000 in
theorem same_any (w : World) (p q : Option Addr) (ca cb : Nat) (xs ys : List S3) (hx : TsS w p xs) (hy : TsS w q ys) (hn : xs.length ≤ 8192) :
    Calls Tryz.prog 19 #[.slice p xs.length ca, .slice q ys.length cb] w fun e w' => e = .returned (.bool (decide (xs = ys))) ∧ Below w.heap.size w w' := by
  have hnT := neT
  by_cases hlen : xs.length = ys.length
  · have HX := Lib.hid hx
    have HY := Lib.hid hy
    obtain ⟨d, hd⟩ : ∃ d, d = xs.length := ⟨_, rfl⟩
    have HD := Lib.hid hd
    have HD2 := Lib.hid (hd.trans hlen)
    rw [← hlen, ← hd]
    rw [← hd] at hn
    clear hx hy hlen hd
    go_enter Tryz.func19, Tryz.ntmps19
    go_wp2
    go_loopw [13] (fun i wr => ∃ k : Nat, k ≤ d ∧ i = .int .i64 k ∧ Hid (xs.take k = ys.take k) ∧ Hid (Below w.heap.size w wr)) (fun i _ => d - (intOf i).toNat)
    case atStart => exact ⟨0, Nat.zero_le _, rfl, Lib.hid rfl, Lib.hid (Below.refl _ _)⟩
    case round =>
      obtain ⟨k, hk, rfl, HT, HB⟩ := hrel
      by_cases hlt : k < d
      · have hltz : (k : Int) < d := by omega
        obtain ⟨x, hxe⟩ : ∃ x, xs[k]? = some x := ⟨_, List.getElem?_eq_getElem (by have := HD.out; omega)⟩
        obtain ⟨y, hye⟩ : ∃ y, ys[k]? = some y := ⟨_, List.getElem?_eq_getElem (by have := HD2.out; omega)⟩
        obtain ⟨b1, o1, rfl, h1⟩ := (HX.out.keep HB.out).at hxe
        obtain ⟨b2, o2, rfl, h2⟩ := (HY.out.keep HB.out).at hye
        have n0 := h1.c0
        have n1 := h1.c1
        have n2 := h1.c2
        have m0 := h2.c0
        have m1 := h2.c1
        have m2 := h2.c2
        have HXE := Lib.hid hxe
        have HYE := Lib.hid hye
        clear hxe hye h1 h2
        obtain ⟨a, b, c⟩ := x
        obtain ⟨a', b', c'⟩ := y
        simp only at n0 n1 n2 m0 m1 m2
        by_cases hxy : (a, b, c) = (a', b', c')
        · have hdd : (!decide ((a, b, c) = (a', b', c'))) = false := by rw [decide_eq_true hxy]; rfl
          go_upto_region 6 with fail
          go_quiet (fail)
          go_wp2
          go_roundw
          case rel =>
            refine ⟨k + 1, by omega, by go_num, Lib.hid ?_, Lib.hid (drewB HB.out)⟩
            rw [List.take_add_one, List.take_add_one, HT.out, HXE.out, HYE.out, hxy]
          case measure => simp [intOf]; omega
        · have hdd : (!decide ((a, b, c) = (a', b', c'))) = true := by rw [decide_eq_false hxy]; rfl
          go_upto_region 6 with fail
          go_quiet (fail)
          go_wp2
          go_ret
          refine ⟨retB ?_, drewB HB.out⟩
          simp
          intro e
          have h1 := HXE.out
          rw [e, HYE.out] at h1
          exact hxy (Option.some.inj h1).symm
      · obtain rfl : k = d := by omega
        have hltz : ¬ (k : Int) < k := by omega
        go_wp2
        go_ret
        refine ⟨retB ?_, HB.out⟩
        have h1 := HT.out
        rw [List.take_of_length_le (by have := HD.out; omega), List.take_of_length_le (by have := HD2.out; omega)] at h1
        simp [h1]
  · have hne : ¬ (xs.length : Int) = ys.length := by omega
    have hne2 : xs ≠ ys := fun e => hlen (by rw [e])
    have HNE := Lib.hid hne2
    clear hx hy hlen hne2
    generalize hd : xs.length = d at *
    generalize he : ys.length = d' at *
    clear hd he
    go_enter Tryz.func19, Tryz.ntmps19
    go_wp2
    go_ret
    exact ⟨retB (by simp [HNE.out]), Below.refl _ _⟩
end Go.Proofs.YtldmajifkmcdcaaGreat.Lw
