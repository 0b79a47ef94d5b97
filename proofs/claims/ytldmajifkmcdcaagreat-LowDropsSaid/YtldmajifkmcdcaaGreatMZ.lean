/-
  A heap in a row of numbers, plain: one goes up, one goes down, the first one is the least. No condition but those typed at each theorem.
-/
import Derived.Test.YtldmajifkmcdcaaGreatMGen
namespace Go.Proofs.YtldmajifkmcdcaaGreat.Pq
/-- the number at a place -/
def at0 (xs : List Nat) (i : Nat) : Nat := xs.getD i 0
/-- two places exchanged -/
def swp (xs : List Nat) (i j : Nat) : List Nat := (xs.set i (at0 xs j)).set j (at0 xs i)
theorem at0_some {xs : List Nat} {i a : Nat} (h : xs[i]? = some a) : at0 xs i = a := by simp [at0, List.getD, h]
theorem at0_get {xs : List Nat} {i : Nat} (h : i < xs.length) : xs[i]? = some (at0 xs i) := by
  unfold at0
  rw [List.getD_eq_getElem?_getD, List.getElem?_eq_getElem h]
  rfl
theorem swp_len (xs : List Nat) (i j : Nat) : (swp xs i j).length = xs.length := by simp [swp]
theorem swp_at {xs : List Nat} {i j k : Nat} (hi : i < xs.length) (hj : j < xs.length) : at0 (swp xs i j) k = if k = j then at0 xs i else if k = i then at0 xs j else at0 xs k := by
  by_cases h1 : k = j
  · subst h1
    rw [if_pos rfl]
    exact at0_some (by rw [swp, List.getElem?_set_self (by simpa using hj)])
  · rw [if_neg h1]
    by_cases h2 : k = i
    · subst h2
      rw [if_pos rfl]
      exact at0_some (by rw [swp, List.getElem?_set_ne (by omega), List.getElem?_set_self hi])
    · rw [if_neg h2]
      unfold at0
      rw [List.getD_eq_getElem?_getD, List.getD_eq_getElem?_getD, swp, List.getElem?_set_ne (by omega), List.getElem?_set_ne (by omega)]
theorem set_perm : ∀ {xs : List Nat} {i a : Nat} {b : Nat}, xs[i]? = some a → (a :: xs.set i b).Perm (b :: xs)
  | [], _, _, _, h => by simp at h
  | x :: xs, 0, a, b, h => by
    simp at h
    subst h
    exact List.Perm.swap _ _ _
  | x :: xs, i + 1, a, b, h => by
    have := set_perm (xs := xs) (i := i) (b := b) (by simpa using h)
    exact (List.Perm.swap _ _ _).trans ((this.cons x).trans (List.Perm.swap _ _ _))
theorem swp_perm {xs : List Nat} {i j : Nat} (hi : i < xs.length) (hj : j < xs.length) : (swp xs i j).Perm xs := by
  have h1 := set_perm (b := at0 xs j) (at0_get hi)
  have h2 : (xs.set i (at0 xs j))[j]? = some (at0 xs j) := by
    by_cases h : i = j
    · subst h
      exact List.getElem?_set_self hi
    · rw [List.getElem?_set_ne h]
      exact at0_get hj
  have h3 := set_perm (b := at0 xs i) h2
  exact (List.perm_cons (at0 xs j)).1 (h3.trans h1)
/-- the place over a place -/
def up1 (k : Nat) : Nat := (k - 1) / 2
/-- a strict order of which 'not ahead' goes on, too -/
structure Lt (lt : Nat → Nat → Bool) : Prop where
  irr : ∀ a, lt a a = false
  asy : ∀ a b, lt a b = true → lt b a = false
  neg : ∀ a b c, lt a b = false → lt b c = false → lt a c = false
section
variable {lt : Nat → Nat → Bool} {xs : List Nat} {n : Nat}
/-- no one of the first n is ahead of the one over it -/
def HP (lt : Nat → Nat → Bool) (xs : List Nat) (n : Nat) : Prop := ∀ k, 0 < k → k < n → lt (at0 xs k) (at0 xs (up1 k)) = false
theorem HP.least (L : Lt lt) (h : HP lt xs n) : ∀ k, k < n → lt (at0 xs k) (at0 xs 0) = false := by
  intro k
  induction k using Nat.strongRecOn with
  | _ k ih =>
    intro hk
    by_cases h0 : k = 0
    · subst h0
      exact L.irr _
    · have h1 : up1 k < k := by unfold up1; omega
      exact L.neg _ _ _ (h k (by omega) hk) (ih _ h1 (by omega))
/-- in the midst of going up: but for the place j -/
structure UpI (lt : Nat → Nat → Bool) (xs : List Nat) (n j : Nat) : Prop where
  jn : j < n
  ok : ∀ k, 0 < k → k < n → k ≠ j → lt (at0 xs k) (at0 xs (up1 k)) = false
  kid : ∀ k, 0 < k → k < n → up1 k = j → 0 < j → lt (at0 xs k) (at0 xs (up1 j)) = false
theorem UpI.stop {j : Nat} (h : UpI lt xs n j) (hs : j = 0 ∨ lt (at0 xs j) (at0 xs (up1 j)) = false) : HP lt xs n := fun k h1 h2 => by
  by_cases hk : k = j
  · subst hk
    exact hs.resolve_left (by omega)
  · exact h.ok k h1 h2 hk
theorem UpI.step (L : Lt lt) {j : Nat} (h : UpI lt xs n j) (hn : n ≤ xs.length) (hj : 0 < j) (hs : lt (at0 xs j) (at0 xs (up1 j)) = true) : UpI lt (swp xs (up1 j) j) n (up1 j) := by
  have hp : up1 j < j := by unfold up1; omega
  have hjn := h.jn
  have e : ∀ k, at0 (swp xs (up1 j) j) k = if k = j then at0 xs (up1 j) else if k = up1 j then at0 xs j else at0 xs k := fun k => swp_at (by omega) (by omega)
  have hno := L.asy _ _ hs
  refine ⟨by omega, fun k h1 h2 h3 => ?_, fun k h1 h2 h3 h4 => ?_⟩
  · have hkp : up1 k < k := by unfold up1; omega
    rw [e, e]
    by_cases a1 : k = j
    · subst a1
      rw [if_pos rfl, if_neg (by omega), if_pos rfl]
      exact hno
    · rw [if_neg a1, if_neg h3]
      by_cases a2 : up1 k = j
      · rw [if_pos a2]
        exact h.kid k h1 h2 a2 hj
      · rw [if_neg a2]
        by_cases a3 : up1 k = up1 j
        · rw [if_pos a3]
          have := h.ok k h1 h2 a1
          rw [a3] at this
          exact L.neg _ _ _ this hno
        · rw [if_neg a3]
          exact h.ok k h1 h2 a1
  · have hpp : up1 (up1 j) < up1 j := by unfold up1 at *; omega
    have o1 := h.ok (up1 j) h4 (by omega) (by omega)
    rw [e, e, if_neg (by omega : ¬ up1 (up1 j) = j), if_neg (by omega : ¬ up1 (up1 j) = up1 j)]
    by_cases a1 : k = j
    · rw [if_pos a1]
      exact o1
    · have hkp : up1 k < k := by unfold up1; omega
      rw [if_neg a1, if_neg (by omega)]
      have := h.ok k h1 h2 a1
      rw [h3] at this
      exact L.neg _ _ _ this o1
/-- one put behind a heap -/
theorem UpI.start {a : Nat} (h : HP lt xs xs.length) : UpI lt (xs ++ [a]) (xs.length + 1) xs.length := by
  have e : ∀ k, k < xs.length → at0 (xs ++ [a]) k = at0 xs k := fun k hk => by
    unfold at0
    rw [List.getD_eq_getElem?_getD, List.getD_eq_getElem?_getD, List.getElem?_append_left hk]
  refine ⟨by omega, fun k h1 h2 h3 => ?_, fun k h1 h2 h3 h4 => ?_⟩
  · have hp : up1 k < k := by unfold up1; omega
    rw [e k (by omega), e (up1 k) (by omega)]
    exact h k h1 (by omega)
  · unfold up1 at h3
    omega
/-- in the midst of going down: but for those below the place i -/
structure DnI (lt : Nat → Nat → Bool) (xs : List Nat) (n i : Nat) : Prop where
  ok : ∀ k, 0 < k → k < n → up1 k ≠ i → lt (at0 xs k) (at0 xs (up1 k)) = false
  kid : ∀ k, 0 < k → k < n → up1 k = i → 0 < i → lt (at0 xs k) (at0 xs (up1 i)) = false
theorem DnI.leaf {i : Nat} (h : DnI lt xs n i) (hs : n ≤ 2 * i + 1) : HP lt xs n := fun k h1 h2 => h.ok k h1 h2 (by unfold up1; omega)
/-- the lesser one of the kids -/
def kidN (lt : Nat → Nat → Bool) (xs : List Nat) (n i : Nat) : Nat := if 2 * i + 2 < n ∧ lt (at0 xs (2 * i + 2)) (at0 xs (2 * i + 1)) = true then 2 * i + 2 else 2 * i + 1
theorem kidN_least (L : Lt lt) {i : Nat} (h : 2 * i + 1 < n) : (kidN lt xs n i < n ∧ up1 (kidN lt xs n i) = i ∧ i < kidN lt xs n i) ∧ ∀ k, 0 < k → k < n → up1 k = i → lt (at0 xs k) (at0 xs (kidN lt xs n i)) = false := by
  unfold kidN
  by_cases hc : 2 * i + 2 < n ∧ lt (at0 xs (2 * i + 2)) (at0 xs (2 * i + 1)) = true
  · rw [if_pos hc]
    refine ⟨⟨hc.1, by unfold up1; omega, by omega⟩, fun k h1 h2 h3 => ?_⟩
    have : k = 2 * i + 1 ∨ k = 2 * i + 2 := by unfold up1 at h3; omega
    rcases this with rfl | rfl
    · exact L.asy _ _ hc.2
    · exact L.irr _
  · rw [if_neg hc]
    refine ⟨⟨h, by unfold up1; omega, by omega⟩, fun k h1 h2 h3 => ?_⟩
    have : k = 2 * i + 1 ∨ k = 2 * i + 2 := by unfold up1 at h3; omega
    rcases this with rfl | rfl
    · exact L.irr _
    · cases hl : lt (at0 xs (2 * i + 2)) (at0 xs (2 * i + 1)) with
      | true => exact absurd ⟨h2, hl⟩ hc
      | false => rfl
theorem DnI.stop (L : Lt lt) {i : Nat} (h : DnI lt xs n i) (hk : 2 * i + 1 < n) (hs : lt (at0 xs (kidN lt xs n i)) (at0 xs i) = false) : HP lt xs n := fun k h1 h2 => by
  by_cases hi : up1 k = i
  · rw [hi]
    exact L.neg _ _ _ ((kidN_least L hk).2 k h1 h2 hi) hs
  · exact h.ok k h1 h2 hi
theorem DnI.step (L : Lt lt) {i : Nat} (h : DnI lt xs n i) (hn : n ≤ xs.length) (hk : 2 * i + 1 < n) (hs : lt (at0 xs (kidN lt xs n i)) (at0 xs i) = true) : DnI lt (swp xs i (kidN lt xs n i)) n (kidN lt xs n i) := by
  obtain ⟨⟨q1, q2, q3⟩, q4⟩ := kidN_least (xs := xs) L hk
  generalize kidN lt xs n i = j at *
  have e : ∀ k, at0 (swp xs i j) k = if k = j then at0 xs i else if k = i then at0 xs j else at0 xs k := fun k => swp_at (by omega) (by omega)
  have hno := L.asy _ _ hs
  refine ⟨fun k h1 h2 h3 => ?_, fun k h1 h2 h3 h4 => ?_⟩
  · have hkp : up1 k < k := by unfold up1; omega
    rw [e, e, if_neg h3]
    by_cases a1 : k = j
    · subst a1
      rw [if_pos rfl, if_pos q2]
      exact hno
    · rw [if_neg a1]
      by_cases a2 : up1 k = i
      · rw [if_pos a2, if_neg (by omega)]
        exact q4 k h1 h2 a2
      · rw [if_neg a2]
        by_cases a3 : k = i
        · subst a3
          rw [if_pos rfl]
          exact h.kid j (by omega) q1 q2 h1
        · rw [if_neg a3]
          exact h.ok k h1 h2 a2
  · have hkp : up1 k < k := by unfold up1; omega
    rw [e, e, if_neg (by omega : ¬ k = j), if_neg (by omega : ¬ k = i), q2, if_neg (by omega), if_pos rfl]
    have := h.ok k h1 h2 (by omega)
    rw [h3] at this
    exact this
/-- the last one put in the first one's place -/
theorem DnI.start (h : HP lt xs xs.length) {m : Nat} (hm : xs.length = m + 1) : DnI lt (swp xs 0 m) m 0 := by
  have e : ∀ k, at0 (swp xs 0 m) k = if k = m then at0 xs 0 else if k = 0 then at0 xs m else at0 xs k := fun k => swp_at (by omega) (by omega)
  refine ⟨fun k h1 h2 h3 => ?_, fun k h1 h2 h3 h4 => absurd h4 (Nat.lt_irrefl 0)⟩
  have hkp : up1 k < k := by unfold up1; omega
  rw [e, e, if_neg (by omega), if_neg (by omega), if_neg (by omega), if_neg (by omega)]
  exact h k h1 (by omega)
theorem HP.take (h : HP lt xs n) (hn : n ≤ xs.length) : HP lt (xs.take n) (xs.take n).length := fun k h1 h2 => by
  have hl : (xs.take n).length = n := by rw [List.length_take]; omega
  rw [hl] at h2
  have e : ∀ k, k < n → at0 (xs.take n) k = at0 xs k := fun k hk => by
    unfold at0
    rw [List.getD_eq_getElem?_getD, List.getD_eq_getElem?_getD, List.getElem?_take, if_pos hk]
  have hp : up1 k < k := by unfold up1; omega
  rw [e k h2, e (up1 k) (by omega)]
  exact h k h1 h2
end
end Go.Proofs.YtldmajifkmcdcaaGreat.Pq
/-
  container/heap over whatever tells its length, which of two is ahead, swaps two, takes one in behind all, takes the last one out. No condition but those typed at each theorem.
-/
namespace Go.Proofs.YtldmajifkmcdcaaGreat.Pq
open Go.RowKit
/-- what is asked of such a thing: v, of the type T; Q xs: it holds these numbers -/
structure PqC (T : TypeId) (v : Value) (lt : Nat → Nat → Bool) (Q : List Nat → World → Prop) : Prop where
  few : ∀ xs w, Q xs w → xs.length ≤ 100000
  drew : ∀ xs w, Q xs w → Q xs w.drew
  mLen : ∃ f, (∀ n w, (method (n + 1) T v "Len").run Tryz.prog w = .ok (f, v) w) ∧ (∀ args w, (callFunc f args).run Tryz.prog w = .ok (.enter f args) w) ∧ ∀ xs w, Q xs w → Calls Tryz.prog f #[v] w fun e w' => e = .returned (.int .i64 xs.length) ∧ Q xs w'
  mLess : ∃ f, (∀ n w, (method (n + 1) T v "Less").run Tryz.prog w = .ok (f, v) w) ∧ (∀ args w, (callFunc f args).run Tryz.prog w = .ok (.enter f args) w) ∧ ∀ xs w (i j : Nat), Q xs w → i < xs.length → j < xs.length → Calls Tryz.prog f #[v, .int .i64 i, .int .i64 j] w fun e w' => e = .returned (.bool (lt (at0 xs i) (at0 xs j))) ∧ Q xs w'
  mSwap : ∃ f, (∀ n w, (method (n + 1) T v "Swap").run Tryz.prog w = .ok (f, v) w) ∧ (∀ args w, (callFunc f args).run Tryz.prog w = .ok (.enter f args) w) ∧ ∀ xs w (i j : Nat), Q xs w → i < xs.length → j < xs.length → Calls Tryz.prog f #[v, .int .i64 i, .int .i64 j] w fun e w' => e = .returned (.tuple #[]) ∧ Q (swp xs i j) w'
set_option maxRecDepth 100000 in
set_option maxHeartbeats 1600000 in
theorem up_any {T : TypeId} {v : Value} {lt : Nat → Nat → Bool} {Q : List Nat → World → Prop} (C : PqC T v lt Q) (L : Lt lt) (w : World) (xs : List Nat) (j : Nat) (hQ : Q xs w) (hU : UpI lt xs xs.length j) :
    Calls Tryz.prog 118 #[.iface T v, .int .i64 j] w fun e w' => e = .returned (.tuple #[]) ∧ ∃ ys, ys.Perm xs ∧ HP lt ys ys.length ∧ Q ys w' := by
  obtain ⟨fS, hmS, egS, hS⟩ := C.mSwap
  obtain ⟨fL, hmL, egL, hL⟩ := C.mLess
  have HS := Lib.hid hS
  have HL := Lib.hid hL
  have hl := C.few xs w hQ
  have HQ := Lib.hid hQ
  have HU := Lib.hid hU
  have hjl : j ≤ 100000 := by have := hU.jn; omega
  obtain ⟨n, hn⟩ : ∃ n, n = xs.length := ⟨_, rfl⟩
  have HN := Lib.hid hn
  clear hS hL hQ hU
  go_enter Tryz.func118, Tryz.ntmps118
  go_wp2
  go_loopw [1] (fun iv wr => ∃ (k : Nat) (ys : List Nat), k ≤ 100000 ∧ iv = .int .i64 k ∧ Hid (ys.Perm xs) ∧ Hid (UpI lt ys n k) ∧ Hid (ys.length = n) ∧ Hid (Q ys wr)) (fun iv _ => (intOf iv).toNat)
  case atStart => exact ⟨j, xs, hjl, rfl, Lib.hid (List.Perm.refl _), Lib.hid (by rw [HN.out]; exact HU.out), Lib.hid HN.out.symm, HQ⟩
  case round =>
    clear HQ HU
    obtain ⟨k, ys, hk, rfl, HP1, HU, HY, HQ⟩ := hrel
    by_cases h0 : k = 0
    · subst h0
      go_wp2
      go_end0
      exact ⟨rfl, ys, HP1.out, by rw [HY.out]; exact HU.out.stop (.inl rfl), HQ.out⟩
    · obtain ⟨p, hp⟩ : ∃ p, p = up1 k := ⟨_, rfl⟩
      have hpk : p < k := by rw [hp]; unfold up1; omega
      have h1 : (k : Int) - 1 = (k - 1 : Nat) := by omega
      have h2 : Int.tdiv ((k - 1 : Nat) : Int) 2 = (p : Int) := by rw [hp]; unfold up1; rfl
      have h3 : ¬ (p : Int) = k := by omega
      have h3b : ((p : Int) == (k : Int)) = false := by rw [beq_eq_false_iff_ne]; omega
      have HKN := Lib.hid HU.out.jn
      have HPP := Lib.hid hp
      have HCL := Lib.hid (HL.out ys wr k p HQ.out (by rw [HY.out]; exact HKN.out) (by rw [HY.out]; have := HKN.out; omega))
      clear hp
      cases hlt : lt (at0 ys k) (at0 ys p) with
      | false =>
        rw [hlt] at HCL
        have HLT := Lib.hid hlt
        clear hlt
        go_wp2_with (go_at_fn fL; (refine HCL.out.mono ?_); rintro e w2 ⟨rfl, hq⟩; have HQ2 := Lib.hid hq; clear hq)
        go_end0
        exact ⟨rfl, ys, HP1.out, by rw [HY.out]; exact HU.out.stop (.inr (by rw [← HPP.out]; exact HLT.out)), HQ2.out⟩
      | true =>
        rw [hlt] at HCL
        have HLT := Lib.hid hlt
        clear hlt
        go_wp2_with (first
          | (go_at_fn fL; (refine HCL.out.mono ?_); rintro e w2 ⟨rfl, hq⟩; have HCS := Lib.hid (HS.out ys w2 p k hq (by rw [HY.out]; have := HKN.out; omega) (by rw [HY.out]; exact HKN.out)); clear hq)
          | (go_at_fn fS; (refine HCS.out.mono ?_); rintro e w3 ⟨rfl, hq⟩; have HQ3 := Lib.hid hq; clear hq))
        go_roundw
        case rel =>
          refine ⟨p, swp ys p k, by omega, rfl, Lib.hid ((swp_perm (by rw [HY.out]; have := HKN.out; omega) (by rw [HY.out]; exact HKN.out)).trans HP1.out), Lib.hid ?_, Lib.hid (by rw [swp_len]; exact HY.out), HQ3⟩
          have := HU.out.step L (by rw [HY.out]; exact Nat.le_refl _) (by omega) (by rw [← HPP.out]; exact HLT.out)
          rw [← HPP.out] at this
          exact this
        case measure => simp [intOf]; omega
end Go.Proofs.YtldmajifkmcdcaaGreat.Pq
/-
  container/heap: down, Push, Pop. No condition but those typed at each theorem.
-/
namespace Go.Proofs.YtldmajifkmcdcaaGreat.Pq
open Go.RowKit
theorem swp_drop {xs : List Nat} {i j n : Nat} (hi : i < n) (hj : j < n) : (swp xs i j).drop n = xs.drop n := by
  unfold swp
  rw [List.drop_set_of_lt hj, List.drop_set_of_lt hi]
/-- a Bool is told -/
def DnE (e : Ending) : Prop := ∃ b, e = .returned (.bool b)
/-- a round of going down is over -/
def DnR (lt : Nat → Nat → Bool) (Q : List Nat → World → Prop) (xs : List Nat) (n : Nat) (w' : World) : Prop := ∃ ys, ys.Perm xs ∧ ys.drop n = xs.drop n ∧ HP lt ys n ∧ Q ys w'
set_option maxRecDepth 100000 in
set_option maxHeartbeats 3200000 in
theorem down_any {T : TypeId} {v : Value} {lt : Nat → Nat → Bool} {Q : List Nat → World → Prop} (C : PqC T v lt Q) (L : Lt lt) (w : World) (xs : List Nat) (i0 n : Nat) (hQ : Q xs w) (hn : n ≤ xs.length) (hi0 : i0 ≤ n) (hD : DnI lt xs n i0) :
    Calls Tryz.prog 96 #[.iface T v, .int .i64 i0, .int .i64 n] w fun e w' => DnE e ∧ DnR lt Q xs n w' := by
  obtain ⟨fS, hmS, egS, hS⟩ := C.mSwap
  obtain ⟨fL, hmL, egL, hL⟩ := C.mLess
  have HS := Lib.hid hS
  have HL := Lib.hid hL
  have hl := C.few xs w hQ
  have HQ := Lib.hid hQ
  have HD := Lib.hid hD
  have hnl : n ≤ 100000 := by omega
  have HN := Lib.hid hn
  obtain ⟨xl, hxl⟩ : ∃ xl, xl = xs.length := ⟨_, rfl⟩
  have HXL := Lib.hid hxl
  clear hS hL hQ hD hn hl hxl
  go_enter Tryz.func96, Tryz.ntmps96
  go_wp2
  go_loopw [7] (fun iv wr => ∃ (i : Nat) (ys : List Nat), i ≤ n ∧ iv = .int .i64 i ∧ Hid (ys.Perm xs) ∧ Hid (ys.drop n = xs.drop n) ∧ Hid (DnI lt ys n i) ∧ Hid (Q ys wr)) (fun iv _ => n - (intOf iv).toNat)
  case atStart => exact ⟨i0, xs, hi0, rfl, Lib.hid (List.Perm.refl _), Lib.hid rfl, HD, HQ⟩
  case round =>
    clear HQ HD
    obtain ⟨i, ys, hi, rfl, HP1, HDR, HD, HQ⟩ := hrel
    have HY : Hid (ys.length = xl) := Lib.hid (by rw [HP1.out.length_eq, HXL.out])
    have HNX : Hid (n ≤ xl) := Lib.hid (by rw [HXL.out]; exact HN.out)
    obtain ⟨c1, hc1⟩ : ∃ c1, c1 = 2 * i + 1 := ⟨_, rfl⟩
    have e1 : 2 * (i : Int) + 1 = (c1 : Int) := by omega
    have e3 : ¬ (c1 : Int) < 0 := by omega
    have HC1 := Lib.hid hc1
    by_cases h1 : c1 < n
    · have h1z : ¬ (n : Int) ≤ (c1 : Int) := by omega
      obtain ⟨c2, hc2⟩ : ∃ c2, c2 = c1 + 1 := ⟨_, rfl⟩
      have e2 : (c1 : Int) + 1 = (c2 : Int) := by omega
      have HC2 := Lib.hid hc2
      have HKL : Hid ((kidN lt ys n i < n ∧ up1 (kidN lt ys n i) = i ∧ i < kidN lt ys n i) ∧ ∀ k, 0 < k → k < n → up1 k = i → lt (at0 ys k) (at0 ys (kidN lt ys n i)) = false) := Lib.hid (kidN_least L (by omega))
      have HIN : Hid (i < n) := Lib.hid (by omega)
      have HB1 := Lib.hid h1
      by_cases h2 : c2 < n
      · have h2z : (c2 : Int) < n := by omega
        have HB2 := Lib.hid h2
        have HLA := Lib.hid (fun X (h : Q ys X) => HL.out ys X c2 c1 h (by rw [HY.out]; have := HNX.out; omega) (by rw [HY.out]; have := HNX.out; omega))
        cases hk : lt (at0 ys c2) (at0 ys c1) with
        | true =>
          have HKJ : Hid (kidN lt ys n i = c2) := Lib.hid (by
            have h3 := HC1.out
            have h4 := HC2.out
            unfold kidN
            rw [show 2 * i + 2 = c2 by omega, show 2 * i + 1 = c1 by omega, if_pos ⟨h2, hk⟩])
          rw [hk] at HLA
          clear hk hc1 hc2
          have HLB := Lib.hid (fun X (h : Q ys X) => HL.out ys X c2 i h (by rw [HY.out]; have := HNX.out; omega) (by rw [HY.out]; have := HNX.out; have := HIN.out; omega))
          have HSB := Lib.hid (fun X (h : Q ys X) => HS.out ys X i c2 h (by rw [HY.out]; have := HNX.out; have := HIN.out; omega) (by rw [HY.out]; have := HNX.out; omega))
          cases hs : lt (at0 ys c2) (at0 ys i) with
          | false =>
            rw [hs] at HLB
            have HST := Lib.hid (HD.out.stop L (by have := HC1.out; have := HB1.out; omega) (by rw [HKJ.out]; exact hs))
            clear hs
            go_wp2_with (first | (go_at_fn fL; (with_reducible refine (HLA.out _ HQ.out).mono ?_); rintro e w2 ⟨rfl, hq⟩; have HQA := Lib.hid hq; clear hq) | (go_at_fn fL; (with_reducible refine (HLB.out _ HQA.out).mono ?_); rintro e w3 ⟨rfl, hq⟩; have HQ2 := Lib.hid hq; clear hq))
            go_ret
            exact ⟨⟨_, rfl⟩, ys, HP1.out, HDR.out, HST.out, HQ2.out⟩
          | true =>
            rw [hs] at HLB
            have HST := Lib.hid (HD.out.step L (by rw [HY.out]; exact HNX.out) (by have := HC1.out; have := HB1.out; omega) (by rw [HKJ.out]; exact hs))
            rw [HKJ.out] at HST HKL
            have HKI := Lib.hid HKL.out.1
            clear hs
            go_wp2_with (first | (go_at_fn fL; (with_reducible refine (HLA.out _ HQ.out).mono ?_); rintro e w2 ⟨rfl, hq⟩; have HQA := Lib.hid hq; clear hq) | (go_at_fn fL; (with_reducible refine (HLB.out _ HQA.out).mono ?_); rintro e w3 ⟨rfl, hq⟩; have HQ2 := Lib.hid hq; clear hq) | (go_at_fn fS; (with_reducible refine (HSB.out _ HQ2.out).mono ?_); rintro e w4 ⟨rfl, hq⟩; have HQ3 := Lib.hid hq; clear hq))
            go_roundw
            case rel =>
              exact ⟨c2, swp ys i c2, by have := HKI.out.1; omega, rfl, Lib.hid ((swp_perm (by rw [HY.out]; have := HNX.out; have := HIN.out; omega) (by rw [HY.out]; have := HNX.out; have := HKI.out.1; omega)).trans HP1.out), Lib.hid ((swp_drop HIN.out HKI.out.1).trans HDR.out), HST, HQ3⟩
            case measure =>
              have := HKI.out
              simp [intOf]
              omega
        | false =>
          have HKJ : Hid (kidN lt ys n i = c1) := Lib.hid (by
            have h3 := HC1.out
            have h4 := HC2.out
            unfold kidN
            rw [show 2 * i + 2 = c2 by omega, show 2 * i + 1 = c1 by omega, if_neg (fun h => by rw [hk] at h; cases h.2)])
          rw [hk] at HLA
          clear hk hc1 hc2
          have HLB := Lib.hid (fun X (h : Q ys X) => HL.out ys X c1 i h (by rw [HY.out]; have := HNX.out; omega) (by rw [HY.out]; have := HNX.out; have := HIN.out; omega))
          have HSB := Lib.hid (fun X (h : Q ys X) => HS.out ys X i c1 h (by rw [HY.out]; have := HNX.out; have := HIN.out; omega) (by rw [HY.out]; have := HNX.out; omega))
          cases hs : lt (at0 ys c1) (at0 ys i) with
          | false =>
            rw [hs] at HLB
            have HST := Lib.hid (HD.out.stop L (by have := HC1.out; have := HB1.out; omega) (by rw [HKJ.out]; exact hs))
            clear hs
            go_wp2_with (first | (go_at_fn fL; (with_reducible refine (HLA.out _ HQ.out).mono ?_); rintro e w2 ⟨rfl, hq⟩; have HQA := Lib.hid hq; clear hq) | (go_at_fn fL; (with_reducible refine (HLB.out _ HQA.out).mono ?_); rintro e w3 ⟨rfl, hq⟩; have HQ2 := Lib.hid hq; clear hq))
            go_ret
            exact ⟨⟨_, rfl⟩, ys, HP1.out, HDR.out, HST.out, HQ2.out⟩
          | true =>
            rw [hs] at HLB
            have HST := Lib.hid (HD.out.step L (by rw [HY.out]; exact HNX.out) (by have := HC1.out; have := HB1.out; omega) (by rw [HKJ.out]; exact hs))
            rw [HKJ.out] at HST HKL
            have HKI := Lib.hid HKL.out.1
            clear hs
            go_wp2_with (first | (go_at_fn fL; (with_reducible refine (HLA.out _ HQ.out).mono ?_); rintro e w2 ⟨rfl, hq⟩; have HQA := Lib.hid hq; clear hq) | (go_at_fn fL; (with_reducible refine (HLB.out _ HQA.out).mono ?_); rintro e w3 ⟨rfl, hq⟩; have HQ2 := Lib.hid hq; clear hq) | (go_at_fn fS; (with_reducible refine (HSB.out _ HQ2.out).mono ?_); rintro e w4 ⟨rfl, hq⟩; have HQ3 := Lib.hid hq; clear hq))
            go_roundw
            case rel =>
              exact ⟨c1, swp ys i c1, by have := HKI.out.1; omega, rfl, Lib.hid ((swp_perm (by rw [HY.out]; have := HNX.out; have := HIN.out; omega) (by rw [HY.out]; have := HNX.out; have := HKI.out.1; omega)).trans HP1.out), Lib.hid ((swp_drop HIN.out HKI.out.1).trans HDR.out), HST, HQ3⟩
            case measure =>
              have := HKI.out
              simp [intOf]
              omega
      · have h2z : ¬ (c2 : Int) < n := by omega
        have HKJ : Hid (kidN lt ys n i = c1) := Lib.hid (by
          have h3 := HC1.out
          have h4 := HC2.out
          unfold kidN
          rw [show 2 * i + 2 = c2 by omega, show 2 * i + 1 = c1 by omega, if_neg (fun h => h2 h.1)])
        clear hc1 hc2
        have HLB := Lib.hid (fun X (h : Q ys X) => HL.out ys X c1 i h (by rw [HY.out]; have := HNX.out; omega) (by rw [HY.out]; have := HNX.out; have := HIN.out; omega))
        have HSB := Lib.hid (fun X (h : Q ys X) => HS.out ys X i c1 h (by rw [HY.out]; have := HNX.out; have := HIN.out; omega) (by rw [HY.out]; have := HNX.out; omega))
        cases hs : lt (at0 ys c1) (at0 ys i) with
        | false =>
          rw [hs] at HLB
          have HST := Lib.hid (HD.out.stop L (by have := HC1.out; have := HB1.out; omega) (by rw [HKJ.out]; exact hs))
          clear hs
          go_wp2_with (go_at_fn fL; (with_reducible refine (HLB.out _ HQ.out).mono ?_); rintro e w3 ⟨rfl, hq⟩; have HQ2 := Lib.hid hq; clear hq)
          go_ret
          exact ⟨⟨_, rfl⟩, ys, HP1.out, HDR.out, HST.out, HQ2.out⟩
        | true =>
          rw [hs] at HLB
          have HST := Lib.hid (HD.out.step L (by rw [HY.out]; exact HNX.out) (by have := HC1.out; have := HB1.out; omega) (by rw [HKJ.out]; exact hs))
          rw [HKJ.out] at HST HKL
          have HKI := Lib.hid HKL.out.1
          clear hs
          go_wp2_with (first | (go_at_fn fL; (with_reducible refine (HLB.out _ HQ.out).mono ?_); rintro e w3 ⟨rfl, hq⟩; have HQ2 := Lib.hid hq; clear hq) | (go_at_fn fS; (with_reducible refine (HSB.out _ HQ2.out).mono ?_); rintro e w4 ⟨rfl, hq⟩; have HQ3 := Lib.hid hq; clear hq))
          go_roundw
          case rel =>
            exact ⟨c1, swp ys i c1, by have := HKI.out.1; omega, rfl, Lib.hid ((swp_perm (by rw [HY.out]; have := HNX.out; have := HIN.out; omega) (by rw [HY.out]; have := HNX.out; have := HKI.out.1; omega)).trans HP1.out), Lib.hid ((swp_drop HIN.out HKI.out.1).trans HDR.out), HST, HQ3⟩
          case measure =>
            have := HKI.out
            simp [intOf]
            omega
    · have h1z : (n : Int) ≤ (c1 : Int) := by omega
      clear hc1
      go_wp2
      go_ret
      exact ⟨⟨_, rfl⟩, ys, HP1.out, HDR.out, HD.out.leaf (by have := HC1.out; omega), HQ.out⟩
/-- what is asked of what takes one in behind all, and takes the last one out; X: what a number is when it is handed in -/
structure PqD (T : TypeId) (v : Value) (box : Nat → Value) (ok : Nat → Prop) (Q : List Nat → World → Prop) : Prop where
  mPush : ∃ f, (∀ n w, (method (n + 1) T v "Push").run Tryz.prog w = .ok (f, v) w) ∧ (∀ args w, (callFunc f args).run Tryz.prog w = .ok (.enter f args) w) ∧ ∀ xs w a, Q xs w → xs.length + 1 ≤ 100000 → ok a → Calls Tryz.prog f #[v, box a] w fun e w' => e = .returned (.tuple #[]) ∧ Q (xs ++ [a]) w'
  mPop : ∃ f, (∀ n w, (method (n + 1) T v "Pop").run Tryz.prog w = .ok (f, v) w) ∧ (∀ args w, (callFunc f args).run Tryz.prog w = .ok (.enter f args) w) ∧ ∀ xs w m, Q xs w → xs.length = m + 1 → Calls Tryz.prog f #[v] w fun e w' => e = .returned (box (at0 xs m)) ∧ Q (xs.take m) w'
set_option maxRecDepth 100000 in
set_option maxHeartbeats 1600000 in
theorem push_any {T : TypeId} {v : Value} {lt : Nat → Nat → Bool} {box : Nat → Value} {ok : Nat → Prop} {Q : List Nat → World → Prop} (C : PqC T v lt Q) (D : PqD T v box ok Q) (L : Lt lt) (w : World) (xs : List Nat) (a : Nat) (hQ : Q xs w) (hH : HP lt xs xs.length) (ha : ok a) (hl : xs.length + 1 ≤ 100000) :
    Calls Tryz.prog 95 #[.iface T v, box a] w fun e w' => e = .returned (.tuple #[]) ∧ ∃ ys, ys.Perm (a :: xs) ∧ HP lt ys ys.length ∧ Q ys w' := by
  obtain ⟨fP, hmP, egP, hP⟩ := D.mPush
  obtain ⟨fN, hmN, egN, hN⟩ := C.mLen
  have HP0 := Lib.hid (hP xs w a hQ hl ha)
  have HN := Lib.hid (fun X (h : Q (xs ++ [a]) X) => hN (xs ++ [a]) X h)
  have HU := Lib.hid (fun X (h : Q (xs ++ [a]) X) => up_any C L X (xs ++ [a]) xs.length h (by rw [List.length_append, List.length_singleton]; exact UpI.start hH))
  rw [List.length_append, List.length_singleton] at HN
  obtain ⟨m, hm⟩ : ∃ m, m = xs.length := ⟨_, rfl⟩
  rw [← hm] at HN HU hl
  have e1 : ((m + 1 : Nat) : Int) - 1 = (m : Int) := by omega
  generalize box a = b at *
  clear hQ hH hP hN hm
  go_enter Tryz.func95, Tryz.ntmps95
  go_wp2_with (first
    | (go_at_fn fP; (with_reducible refine HP0.out.mono ?_); rintro e w2 ⟨rfl, hq⟩; have HQ2 := Lib.hid hq; clear hq)
    | (go_at_fn fN; (with_reducible refine (HN.out _ HQ2.out).mono ?_); rintro e w3 ⟨rfl, hq⟩; have HQ3 := Lib.hid hq; clear hq)
    | (go_at_call 118; (with_reducible refine (HU.out _ HQ3.out).mono ?_); rintro e w4 ⟨rfl, hq⟩; have HQ4 := Lib.hid hq; clear hq))
  go_end0
  obtain ⟨ys, q1, q2, q3⟩ := HQ4.out
  exact ⟨rfl, ys, q1.trans (List.perm_append_singleton a xs), q2, q3⟩
set_option maxRecDepth 100000 in
set_option maxHeartbeats 1600000 in
theorem pop_any {T : TypeId} {v : Value} {lt : Nat → Nat → Bool} {box : Nat → Value} {ok : Nat → Prop} {Q : List Nat → World → Prop} (C : PqC T v lt Q) (D : PqD T v box ok Q) (L : Lt lt) (w : World) (xs : List Nat) (hQ : Q xs w) (hH : HP lt xs xs.length) (h0 : xs ≠ []) :
    Calls Tryz.prog 66 #[.iface T v] w fun e w' => e = .returned (box (at0 xs 0)) ∧ ∃ ys, (at0 xs 0 :: ys).Perm xs ∧ HP lt ys ys.length ∧ Q ys w' := by
  obtain ⟨fP, hmP, egP, hP⟩ := D.mPop
  obtain ⟨fN, hmN, egN, hN⟩ := C.mLen
  obtain ⟨fS, hmS, egS, hS⟩ := C.mSwap
  have hfew := C.few xs w hQ
  obtain ⟨m, hm⟩ : ∃ m, xs.length = m + 1 := ⟨xs.length - 1, by have := List.length_pos_iff.2 h0; omega⟩
  have HN := Lib.hid (hN xs w hQ)
  rw [hm] at HN
  have HS := Lib.hid (fun X (h : Q xs X) => hS xs X 0 m h (by omega) (by omega))
  have HD := Lib.hid (fun X (h : Q (swp xs 0 m) X) => down_any C L X (swp xs 0 m) 0 m h (by rw [swp_len]; omega) (Nat.zero_le _) (DnI.start hH hm))
  have HP0 := Lib.hid (fun X ys (h : Q ys X) (hl : ys.length = m + 1) => hP ys X m h hl)
  have HX := Lib.hid (show xs.length = m + 1 from hm)
  have e1 : ((m + 1 : Nat) : Int) - 1 = (m : Int) := by omega
  clear hQ hH hP hN hS h0
  rw [hm] at hfew
  clear hm
  go_enter Tryz.func66, Tryz.ntmps66
  go_wp2_with (first
    | (go_at_fn fN; (with_reducible refine HN.out.mono ?_); rintro e w2 ⟨rfl, hq⟩; have HQ2 := Lib.hid hq; clear hq)
    | (go_at_fn fS; (refine (HS.out _ HQ2.out).mono ?_); rintro e w3 ⟨rfl, hq⟩; have HQ3 := Lib.hid hq; clear hq)
    | (go_at_call 96; (refine (HD.out _ HQ3.out).mono ?_); rintro e w4 ⟨⟨b, rfl⟩, ys, q1, q2, q3, q4⟩; have HY1 := Lib.hid q1; have HY2 := Lib.hid q2; have HY3 := Lib.hid q3; have HPC := Lib.hid (HP0.out w4 ys q4 (by rw [q1.length_eq, swp_len]; exact HX.out)); clear q1 q2 q3 q4)
    | (go_at_fn fP; (refine HPC.out.mono ?_); rintro e w5 ⟨rfl, hq⟩; have HQ5 := Lib.hid hq; clear hq))
  go_ret
  have hx := HX.out
  have hyl : ys.length = m + 1 := by rw [HY1.out.length_eq, swp_len]; exact hx
  have hlast : at0 ys m = at0 xs 0 := by
    have h1 : (ys.drop m)[0]? = ((swp xs 0 m).drop m)[0]? := by rw [HY2.out]
    rw [List.getElem?_drop, List.getElem?_drop, Nat.add_zero, at0_get (by omega), at0_get (by rw [swp_len]; omega)] at h1
    rw [Option.some.inj h1, swp_at (by omega) (by omega), if_pos rfl]
  have hsplit : ys = ys.take m ++ [at0 ys m] := by
    have h1 : ys.drop m = [at0 ys m] := by
      rw [List.drop_eq_getElem_cons (by omega), List.drop_of_length_le (by omega)]
      congr 1
      exact (at0_some (List.getElem?_eq_getElem (by omega))).symm
    rw [← h1, List.take_append_drop]
  refine ⟨by rw [hlast]; rfl, ys.take m, ?_, HY3.out.take (by omega), HQ5.out⟩
  rw [← hlast]
  refine List.Perm.trans ?_ (HY1.out.trans (swp_perm (by omega) (by omega)))
  conv => rhs; rw [hsplit]
  exact (List.perm_append_singleton _ _).symm
end Go.Proofs.YtldmajifkmcdcaaGreat.Pq
