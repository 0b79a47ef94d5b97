/-
  What is asked of a tree that tells corners, whatever it is made of; corners in plain words. No condition but those typed at each theorem.
-/
import Derived.Test.YtadlobmhnkfnfaaGreatMP
import Derived.Test.YtadlobmhnkfnfaaGreatMQ
import Derived.Test.YtadlobmhnkfnfaaGreatMM
namespace Go.Proofs.YtadlobmhnkfnfaaGreat.Co
open Go.RowKit
/-- so many things more than it tells are touched at most -/
def most (n : Nat) : Nat := 8 * lgN (n + 1) + 8
/-- is a number another one, or on from there, up or down? -/
def onB (n x : Int) (up : Bool) : Bool := decide (n = x) || (decide (x < n) == up)
/-- does a corner have a point? -/
def coB (x y : Int) (way : Nat) (s : S3) : Bool := decide (way < 4) && onB s.1 x (decide (way % 2 = 1)) && onB s.2.1 y (decide (2 ≤ way))
/-- is p over q? -/
def ovB (p q : S3) : Bool := decide (q.1 ≤ p.1) && decide (q.2.1 ≤ p.2.1) && (decide (q.1 < p.1) || decide (q.2.1 < p.2.1))
/-- the names of those that are so -/
def nmL (f : S3 → Bool) (A : List S3) : List Int := (A.filter f).map (·.2.2)
/-- the same, rising -/
def nmS (f : S3 → Bool) (A : List S3) : List Int := nsort (nmL f A)
section
variable {f g : S3 → Bool} {A B : List S3} {s : S3}
theorem hs_nm (b : B4) (A : List S3) : hsS A b = nmS (hsB b) A := rfl
theorem nmL_snoc (f : S3 → Bool) (A : List S3) (s : S3) : nmL f (A ++ [s]) = nmL f A ++ (if f s then [s.2.2] else []) := by
  unfold nmL
  rw [List.filter_append, List.map_append]
  cases h : f s <;> simp [h]
theorem nmL_len (f : S3 → Bool) (A : List S3) : (nmL f A).length ≤ A.length := by
  unfold nmL
  rw [List.length_map]
  exact List.length_filter_le _ _
theorem nmS_len (f : S3 → Bool) (A : List S3) : (nmS f A).length ≤ A.length := by
  unfold nmS
  rw [nsort_len]
  exact nmL_len f A
theorem nmS_perm (h : A.Perm B) (f : S3 → Bool) : nmS f A = nmS f B := nsort_eq ((h.filter _).map _)
theorem nmS_congr (h : ∀ s ∈ A, f s = g s) : nmS f A = nmS g A := by
  unfold nmS nmL
  rw [List.filter_congr h]
theorem mem_nmS {n : Int} : n ∈ nmS f A ↔ ∃ s ∈ A, f s = true ∧ s.2.2 = n := by
  unfold nmS nmL
  rw [(nsort_perm _).mem_iff, List.mem_map]
  simp only [List.mem_filter, and_assoc]
theorem nmS_nil (f : S3 → Bool) : nmS f [] = [] := rfl
theorem nmS_none (h : ∀ s ∈ A, f s = false) : nmS f A = [] := by
  unfold nmS nmL
  rw [show A.filter f = [] from List.filter_eq_nil_iff.2 (fun s hs => by rw [h s hs]; simp)]
  rfl
theorem nmS_map (p : S3 → S3) (hp : ∀ s, (p s).2.2 = s.2.2) (f : S3 → Bool) : ∀ A : List S3, nmS f (A.map p) = nmS (fun s => f (p s)) A := by
  intro A
  unfold nmS nmL
  rw [List.filter_map, List.map_map]
  congr 1
  refine List.map_congr_left (fun s _ => ?_)
  exact hp s
theorem nmS_rise (hA : Rg A) (f : S3 → Bool) : (nmS f A).Pairwise (· < ·) := by
  have h1 := nsort_sorted (nmL f A)
  have h2 : (nmS f A).Nodup := by
    unfold nmS
    rw [(nsort_perm _).nodup_iff]
    exact ((List.filter_sublist (l := A) (p := f)).map _).nodup hA
  have h3 := List.pairwise_and_iff.2 ⟨h1, h2⟩
  exact h3.imp (fun h => by have := h.1; have := h.2; omega)
end
/-- TS X v n S A: v is a tree that was built of n points, those of A are there, the blocks S are its own -/
structure CornC (TS : World → Value → Nat → List Nat → List S3 → Prop) : Prop where
  keep : ∀ {X X' v n S A T}, TS X v n S A → Off T X X' → (∀ k ∈ S, k ∉ T) → TS X' v n S A
  lies : ∀ {X v n S A}, TS X v n S A → ∀ k ∈ S, k < X.heap.size
  build : ∀ (w : World) (p : Option Addr) (c : Nat) (L : List S3), TsS w p L → L.length ≤ 400 → L.length ≤ c → (p = none → c = 0) → (∀ s ∈ L, Wf3 s) → Calls Tryz.prog 10 #[.slice p L.length c] w (Built TS w L)
  len : ∀ {X v n S A}, TS X v n S A → Calls Tryz.prog 12 #[v] X fun e X' => e = .returned (.int .i64 A.length) ∧ Below X.heap.size X X'
  report : ∀ {X v n S A} (x y : Int) (way : Nat), TS X v n S A → (Lit.int .i64 x).wf = true → (Lit.int .i64 y).wf = true → way ≤ 255 → Calls Tryz.prog 17 #[v, .int .i64 x, .int .i64 y, .int .u8 way] X fun e X' => (∃ r, ∃ t : Nat, e = .returned (.tuple #[r, .int .i64 t]) ∧ RL X' r (nmS (coB x y way) A) ∧ (nmS (coB x y way) A).length ≤ t ∧ t ≤ (nmS (coB x y way) A).length + most n) ∧ Below X.heap.size X X'
  count : ∀ {X v n S A} (x y : Int) (way : Nat), TS X v n S A → (Lit.int .i64 x).wf = true → (Lit.int .i64 y).wf = true → way ≤ 255 → Calls Tryz.prog 18 #[v, .int .i64 x, .int .i64 y, .int .u8 way] X fun e X' => (∃ t : Nat, e = .returned (.tuple #[.int .i64 (nmS (coB x y way) A).length, .int .i64 t]) ∧ t ≤ most n) ∧ Below X.heap.size X X'
  over : ∀ {X v n S A} (s : S3), TS X v n S A → Wf3 s → Calls Tryz.prog 19 #[v, tv s] X fun e X' => (∃ r, ∃ t : Nat, e = .returned (.tuple #[r, .int .i64 t]) ∧ RL X' r (nmS (fun q => ovB q s) A) ∧ (nmS (fun q => ovB q s) A).length ≤ t ∧ t ≤ (nmS (fun q => ovB q s) A).length + 2 * most n) ∧ Below X.heap.size X X'
  under : ∀ {X v n S A} (s : S3), TS X v n S A → Wf3 s → Calls Tryz.prog 20 #[v, tv s] X fun e X' => (∃ r, ∃ t : Nat, e = .returned (.tuple #[r, .int .i64 t]) ∧ RL X' r (nmS (ovB s) A) ∧ (nmS (ovB s) A).length ≤ t ∧ t ≤ (nmS (ovB s) A).length + 2 * most n) ∧ Below X.heap.size X X'
  drop : ∀ {X v n S A} (s : S3), TS X v n S A → Wf3 s → Calls Tryz.prog 15 #[v, tv s] X fun e X' => e = .returned (.bool (decide (s ∈ A))) ∧ ∃ S', TS X' v n S' (drp A s) ∧ Off S X X' ∧ ∀ k ∈ S', k ∈ S ∨ X.heap.size ≤ k
  few : ∀ {X v n S A}, TS X v n S A → A.length ≤ n ∧ n ≤ 400 ∧ Rg A
theorem CornC.bel {TS : World → Value → Nat → List Nat → List S3 → Prop} {X X' : World} {v : Value} {n : Nat} {S : List Nat} {A : List S3} (C : CornC TS) (h : TS X v n S A) (hb : Below X.heap.size X X') : TS X' v n S A := C.keep h (Off.of (S := []) hb (Nat.le_refl _)) (by simp)
end Go.Proofs.YtadlobmhnkfnfaaGreat.Co
/-
  Layer 12's document: a corner, over, under, by loops. No condition but those typed at each theorem.
-/
namespace Go.Proofs.YtadlobmhnkfnfaaGreat.Co
open Go.RowKit
theorem on_any (w : World) (n x : Int) (up : Bool) : Calls Tryz.prog 39 #[.int .i64 n, .int .i64 x, .bool up] w fun e w' => e = .returned (.bool (onB n x up)) ∧ w' = w := by
  by_cases h : n = x
  · go_enter Tryz.func39, Tryz.ntmps39
    go_wp2
    go_ret
    exact ⟨by simp [onB, h], rfl⟩
  · have hx : (n == x) = false := by simpa using h
    by_cases h2 : x < n
    · go_enter Tryz.func39, Tryz.ntmps39
      cases up
      · go_wp2
        go_ret
        exact ⟨by simp [onB, h, h2], rfl⟩
      · go_wp2
        go_ret
        exact ⟨by simp [onB, h, h2], rfl⟩
    · have h3 : n < x := by omega
      have HO := Lib.hid (show ∀ up, onB n x up = !up by intro up; unfold onB; rw [decide_eq_false h, decide_eq_false h2]; cases up <;> rfl)
      go_enter Tryz.func39, Tryz.ntmps39
      cases up
      · go_wp2
        go_ret
        exact ⟨by rw [HO.out]; rfl, rfl⟩
      · go_wp2
        go_ret
        exact ⟨by rw [HO.out]; rfl, rfl⟩
set_option maxRecDepth 100000 in
set_option maxHeartbeats 3200000 in
theorem over_any (w : World) (p q : S3) : Calls Tryz.prog 41 #[tv p, tv q] w fun e w' => e = .returned (.bool (ovB p q)) ∧ Below w.heap.size w w' := by
  obtain ⟨W, hW⟩ : ∃ W, W = (w.alloc (.cells (tvs p).toArray 33)).alloc (.cells (tvs q).toArray 33) := ⟨_, rfl⟩
  have hp : T1 W w.heap.size 0 p := by rw [hW]; exact (T1.new w p _).keep ((Below.refl _ _).alloc (Nat.le_refl _) _) (by simp)
  have hq : T1 W (w.heap.size + 1) 0 q := by
    have := T1.new (w.alloc (.cells (tvs p).toArray 33)) q 33
    rw [hW]
    simpa using this
  have hb : Below w.heap.size w W := by rw [hW]; exact ((Below.refl _ w).alloc (Nat.le_refl _) _).alloc (by simp) _
  have HB := Lib.hid hb
  have m0 := hp.c0
  have m1 := hp.c1
  have n0 := hq.c0
  have n1 := hq.c1
  simp only [Nat.zero_add] at m0 m1 n0 n1
  clear hp hq hb
  obtain ⟨px, py, pi⟩ := p
  obtain ⟨qx, qy, qi⟩ := q
  unfold tvs at hW
  unfold tv
  simp only at m0 m1 n0 n1 hW ⊢
  have HW := Lib.hid hW
  clear hW
  by_cases h1 : qx ≤ px
  · by_cases h2 : qy ≤ py
    · by_cases h3 : qx < px
      · have HO := Lib.hid (show ovB (px, py, pi) (qx, qy, qi) = true by simp [ovB, h1, h2, h3])
        go_enter Tryz.func41, Tryz.ntmps41
        go_upto_region 1 with fail
        rw [← HW.out]
        go_wp2
        go_ret
        exact ⟨by rw [HO.out]; rfl, HB.out⟩
      · by_cases h4 : qy < py
        · have HO := Lib.hid (show ovB (px, py, pi) (qx, qy, qi) = true by simp [ovB, h1, h2, h4])
          go_enter Tryz.func41, Tryz.ntmps41
          go_upto_region 1 with fail
          rw [← HW.out]
          go_wp2
          go_ret
          exact ⟨by rw [HO.out]; rfl, HB.out⟩
        · have HO := Lib.hid (show ovB (px, py, pi) (qx, qy, qi) = false by simp [ovB, h3, h4])
          go_enter Tryz.func41, Tryz.ntmps41
          go_upto_region 1 with fail
          rw [← HW.out]
          go_wp2
          go_ret
          exact ⟨by rw [HO.out]; rfl, HB.out⟩
    · have HO := Lib.hid (show ovB (px, py, pi) (qx, qy, qi) = false by simp [ovB, h2])
      go_enter Tryz.func41, Tryz.ntmps41
      go_upto_region 1 with fail
      rw [← HW.out]
      go_wp2
      go_ret
      exact ⟨by rw [HO.out]; rfl, HB.out⟩
  · have HO := Lib.hid (show ovB (px, py, pi) (qx, qy, qi) = false by simp [ovB, h1])
    go_enter Tryz.func41, Tryz.ntmps41
    go_upto_region 1 with fail
    rw [← HW.out]
    go_wp2
    go_ret
    exact ⟨by rw [HO.out]; rfl, HB.out⟩
set_option maxRecDepth 100000 in
set_option maxHeartbeats 6400000 in
theorem RCorner0 (w : World) (p : Option Addr) (c : Nat) (L : List S3) (x y : Int) (hx : TsS w p L) (hl : L.length ≤ 8192) :
    Calls Tryz.prog 27 #[.slice p L.length c, .int .i64 x, .int .i64 y, .int .u8 0] w fun e w' => ∃ v, e = .returned v ∧ w'.ownsRow w.heap.size 31 1 v (nmS (coB x y 0) L).length ((nmS (coB x y 0) L).map (Value.int .u32)) ∧ Below w.heap.size w w' := by
  have HX := Lib.hid hx
  obtain ⟨d, hd⟩ : ∃ d, d = L.length := ⟨_, rfl⟩
  have HD := Lib.hid hd
  rw [← hd] at hl ⊢
  clear hd hx
  go_enter Tryz.func27, Tryz.ntmps27
  go_wp2
  go_loopw [9, 10] (fun v9 v10 wr => ∃ k : Nat, k ≤ d ∧ v10 = .int .i64 k ∧ Hid (wr.ownsRow w.heap.size 31 1 v9 (nmL (coB x y 0) (L.take k)).length ((nmL (coB x y 0) (L.take k)).map (Value.int .u32))) ∧ Hid (Below w.heap.size w wr)) (fun _ v _ => d - (intOf v).toNat)
  case atStart => exact ⟨0, Nat.zero_le _, rfl, Lib.hid (World.ownsRow_nil _ _ _ _), Lib.hid (Below.refl _ _)⟩
  case round =>
    obtain ⟨k, hk, rfl, HR, HB⟩ := hrel
    by_cases hlt : k < d
    · have hltz : (k : Int) < d := by omega
      obtain ⟨s, hse⟩ : ∃ s, L[k]? = some s := ⟨_, List.getElem?_eq_getElem (by have := HD.out; omega)⟩
      obtain ⟨bb, off, rfl, h1⟩ := (HX.out.keep HB.out).at hse
      have n0 := h1.c0
      have n1 := h1.c1
      have n2 := h1.c2
      have HST := Lib.hid (show nmL (coB x y 0) (L.take (k + 1)) = nmL (coB x y 0) (L.take k) ++ (if coB x y 0 s then [s.2.2] else []) by rw [List.take_add_one, hse]; exact nmL_snoc _ _ _)
      obtain ⟨S, hS⟩ : ∃ S, S = nmL (coB x y 0) (L.take k) := ⟨_, rfl⟩
      have hSl : S.length ≤ k := by rw [hS]; exact Nat.le_trans (nmL_len _ _) (by simp; omega)
      rw [← hS] at HR HST
      obtain ⟨px, py, id⟩ := s
      simp only at n0 n1 n2 HST
      have HO1 := Lib.hid (fun X => on_any X px x false)
      have HO2 := Lib.hid (fun X => on_any X py y false)
      clear hS hse h1
      cases hb1 : onB px x false with
      | false =>
        have HE := Lib.hid (show coB x y 0 (px, py, id) = false by simp [coB, hb1])
        rw [hb1] at HO1
        clear hb1
        go_wp2_with (first | (go_at_call 39; (with_reducible refine (HO1.out _).mono ?_); rintro e w5 ⟨rfl, hw⟩; replace hw := hw.symm; subst hw) | (go_at_call 39; (with_reducible refine (HO2.out _).mono ?_); rintro e w5 ⟨rfl, hw⟩; replace hw := hw.symm; subst hw))
        go_roundw
        case rel => exact ⟨k + 1, by omega, by go_num, Lib.hid (by rw [HST.out, if_neg (by rw [HE.out]; simp), List.append_nil]; exact HR.out), HB⟩
        case measure => simp [intOf]; omega
      | true =>
        cases hb2 : onB py y false with
        | false =>
          have HE := Lib.hid (show coB x y 0 (px, py, id) = false by simp [coB, hb2])
          rw [hb1] at HO1
          rw [hb2] at HO2
          clear hb1 hb2
          go_wp2_with (first | (go_at_call 39; (with_reducible refine (HO1.out _).mono ?_); rintro e w5 ⟨rfl, hw⟩; replace hw := hw.symm; subst hw) | (go_at_call 39; (with_reducible refine (HO2.out _).mono ?_); rintro e w5 ⟨rfl, hw⟩; replace hw := hw.symm; subst hw))
          go_roundw
          case rel => exact ⟨k + 1, by omega, by go_num, Lib.hid (by rw [HST.out, if_neg (by rw [HE.out]; simp), List.append_nil]; exact HR.out), HB⟩
          case measure => simp [intOf]; omega
        | true =>
          have HE := Lib.hid (show coB x y 0 (px, py, id) = true by simp [coB, hb1, hb2])
          rw [hb1] at HO1
          rw [hb2] at HO2
          clear hb1 hb2
          go_wp2_with (first | (go_at_call 39; (with_reducible refine (HO1.out _).mono ?_); rintro e w5 ⟨rfl, hw⟩; replace hw := hw.symm; subst hw) | (go_at_call 39; (with_reducible refine (HO2.out _).mono ?_); rintro e w5 ⟨rfl, hw⟩; replace hw := hw.symm; subst hw) | (at_builtin; refine wpList_more Tryz.info31 rfl (by decide) (by decide) Tryz.underlying40 _ rfl (.tmp 42) (.tmp 48) rfl u9 S.length (S.map (Value.int .u32)) rfl (row_at (base' := 0) (World.ownsRow.alloc HR.out _) (fun _ _ => ⟨rfl, Nat.zero_le _⟩)) ⟨wr.heap.size, 0, none⟩ 1 1 [.int .u32 id] rfl rfl (one_at _ _ _) (by simp [Value.oneCell']) (by omega) (by decide) ?_; intro g1 c1 w1 h1 h2 h3; have H1 := Lib.hid h1; have HB1 := Lib.hid ((HB.out.alloc HB.out.size (.cells #[.int .u32 id] 31)).grown h2 (by have := HB.out.size; simp; omega) (fun k e => (HR.out.lt k e).1)); have HG1 := Lib.hid (show w.heap.size ≤ g1 from h3.elim (fun e => (HR.out.lt _ e).1) (fun e => by have := HB.out.size; simp at e; omega)); clear h1 h2 h3))
          go_roundw
          case rel =>
            refine ⟨k + 1, by omega, by go_num, Lib.hid ?_, HB1⟩
            rw [HST.out, if_pos HE.out]
            have h := row_at (base' := w.heap.size) H1.out (fun q e => ⟨rfl, by simp [Value.ownBlock] at e; subst e; exact HG1.out⟩)
            simpa using h
          case measure => simp [intOf]; omega
    · obtain rfl : k = d := by omega
      have hltz : ¬ (k : Int) < k := by omega
      have hR := HR.out
      rw [List.take_of_length_le (by have := HD.out; omega)] at hR
      obtain ⟨-, q, cq, rfl, hq, -⟩ := row_u hR
      have hl2 : (nmL (coB x y 0) L).length ≤ 8192 := Nat.le_trans (nmL_len _ _) (by have := HD.out; omega)
      have HSO := Lib.hid (RSorted wr q cq (nmL (coB x y 0) L) hq hl2)
      clear hR hq hl2 HR
      go_wp2_with (go_at_call 40; (with_reducible refine HSO.out.mono ?_); rintro e w2 ⟨v, rfl, hr, hb⟩; have HR2 := Lib.hid hr; have HB2 := Lib.hid (HB.out.trans (hb.mono HB.out.size)); clear hr hb)
      go_ret
      exact ⟨_, rfl, by unfold nmS; rw [nsort_len]; exact row_at HR2.out (fun q e => ⟨rfl, Nat.le_trans HB.out.size (HR2.out.lt q e).1⟩), HB2.out⟩
set_option maxRecDepth 100000 in
set_option maxHeartbeats 6400000 in
theorem RCorner1 (w : World) (p : Option Addr) (c : Nat) (L : List S3) (x y : Int) (hx : TsS w p L) (hl : L.length ≤ 8192) :
    Calls Tryz.prog 27 #[.slice p L.length c, .int .i64 x, .int .i64 y, .int .u8 1] w fun e w' => ∃ v, e = .returned v ∧ w'.ownsRow w.heap.size 31 1 v (nmS (coB x y 1) L).length ((nmS (coB x y 1) L).map (Value.int .u32)) ∧ Below w.heap.size w w' := by
  have HX := Lib.hid hx
  obtain ⟨d, hd⟩ : ∃ d, d = L.length := ⟨_, rfl⟩
  have HD := Lib.hid hd
  rw [← hd] at hl ⊢
  clear hd hx
  go_enter Tryz.func27, Tryz.ntmps27
  go_wp2
  go_loopw [9, 10] (fun v9 v10 wr => ∃ k : Nat, k ≤ d ∧ v10 = .int .i64 k ∧ Hid (wr.ownsRow w.heap.size 31 1 v9 (nmL (coB x y 1) (L.take k)).length ((nmL (coB x y 1) (L.take k)).map (Value.int .u32))) ∧ Hid (Below w.heap.size w wr)) (fun _ v _ => d - (intOf v).toNat)
  case atStart => exact ⟨0, Nat.zero_le _, rfl, Lib.hid (World.ownsRow_nil _ _ _ _), Lib.hid (Below.refl _ _)⟩
  case round =>
    obtain ⟨k, hk, rfl, HR, HB⟩ := hrel
    by_cases hlt : k < d
    · have hltz : (k : Int) < d := by omega
      obtain ⟨s, hse⟩ : ∃ s, L[k]? = some s := ⟨_, List.getElem?_eq_getElem (by have := HD.out; omega)⟩
      obtain ⟨bb, off, rfl, h1⟩ := (HX.out.keep HB.out).at hse
      have n0 := h1.c0
      have n1 := h1.c1
      have n2 := h1.c2
      have HST := Lib.hid (show nmL (coB x y 1) (L.take (k + 1)) = nmL (coB x y 1) (L.take k) ++ (if coB x y 1 s then [s.2.2] else []) by rw [List.take_add_one, hse]; exact nmL_snoc _ _ _)
      obtain ⟨S, hS⟩ : ∃ S, S = nmL (coB x y 1) (L.take k) := ⟨_, rfl⟩
      have hSl : S.length ≤ k := by rw [hS]; exact Nat.le_trans (nmL_len _ _) (by simp; omega)
      rw [← hS] at HR HST
      obtain ⟨px, py, id⟩ := s
      simp only at n0 n1 n2 HST
      have HO1 := Lib.hid (fun X => on_any X px x true)
      have HO2 := Lib.hid (fun X => on_any X py y false)
      clear hS hse h1
      cases hb1 : onB px x true with
      | false =>
        have HE := Lib.hid (show coB x y 1 (px, py, id) = false by simp [coB, hb1])
        rw [hb1] at HO1
        clear hb1
        go_wp2_with (first | (go_at_call 39; (with_reducible refine (HO1.out _).mono ?_); rintro e w5 ⟨rfl, hw⟩; replace hw := hw.symm; subst hw) | (go_at_call 39; (with_reducible refine (HO2.out _).mono ?_); rintro e w5 ⟨rfl, hw⟩; replace hw := hw.symm; subst hw))
        go_roundw
        case rel => exact ⟨k + 1, by omega, by go_num, Lib.hid (by rw [HST.out, if_neg (by rw [HE.out]; simp), List.append_nil]; exact HR.out), HB⟩
        case measure => simp [intOf]; omega
      | true =>
        cases hb2 : onB py y false with
        | false =>
          have HE := Lib.hid (show coB x y 1 (px, py, id) = false by simp [coB, hb2])
          rw [hb1] at HO1
          rw [hb2] at HO2
          clear hb1 hb2
          go_wp2_with (first | (go_at_call 39; (with_reducible refine (HO1.out _).mono ?_); rintro e w5 ⟨rfl, hw⟩; replace hw := hw.symm; subst hw) | (go_at_call 39; (with_reducible refine (HO2.out _).mono ?_); rintro e w5 ⟨rfl, hw⟩; replace hw := hw.symm; subst hw))
          go_roundw
          case rel => exact ⟨k + 1, by omega, by go_num, Lib.hid (by rw [HST.out, if_neg (by rw [HE.out]; simp), List.append_nil]; exact HR.out), HB⟩
          case measure => simp [intOf]; omega
        | true =>
          have HE := Lib.hid (show coB x y 1 (px, py, id) = true by simp [coB, hb1, hb2])
          rw [hb1] at HO1
          rw [hb2] at HO2
          clear hb1 hb2
          go_wp2_with (first | (go_at_call 39; (with_reducible refine (HO1.out _).mono ?_); rintro e w5 ⟨rfl, hw⟩; replace hw := hw.symm; subst hw) | (go_at_call 39; (with_reducible refine (HO2.out _).mono ?_); rintro e w5 ⟨rfl, hw⟩; replace hw := hw.symm; subst hw) | (at_builtin; refine wpList_more Tryz.info31 rfl (by decide) (by decide) Tryz.underlying40 _ rfl (.tmp 42) (.tmp 48) rfl u9 S.length (S.map (Value.int .u32)) rfl (row_at (base' := 0) (World.ownsRow.alloc HR.out _) (fun _ _ => ⟨rfl, Nat.zero_le _⟩)) ⟨wr.heap.size, 0, none⟩ 1 1 [.int .u32 id] rfl rfl (one_at _ _ _) (by simp [Value.oneCell']) (by omega) (by decide) ?_; intro g1 c1 w1 h1 h2 h3; have H1 := Lib.hid h1; have HB1 := Lib.hid ((HB.out.alloc HB.out.size (.cells #[.int .u32 id] 31)).grown h2 (by have := HB.out.size; simp; omega) (fun k e => (HR.out.lt k e).1)); have HG1 := Lib.hid (show w.heap.size ≤ g1 from h3.elim (fun e => (HR.out.lt _ e).1) (fun e => by have := HB.out.size; simp at e; omega)); clear h1 h2 h3))
          go_roundw
          case rel =>
            refine ⟨k + 1, by omega, by go_num, Lib.hid ?_, HB1⟩
            rw [HST.out, if_pos HE.out]
            have h := row_at (base' := w.heap.size) H1.out (fun q e => ⟨rfl, by simp [Value.ownBlock] at e; subst e; exact HG1.out⟩)
            simpa using h
          case measure => simp [intOf]; omega
    · obtain rfl : k = d := by omega
      have hltz : ¬ (k : Int) < k := by omega
      have hR := HR.out
      rw [List.take_of_length_le (by have := HD.out; omega)] at hR
      obtain ⟨-, q, cq, rfl, hq, -⟩ := row_u hR
      have hl2 : (nmL (coB x y 1) L).length ≤ 8192 := Nat.le_trans (nmL_len _ _) (by have := HD.out; omega)
      have HSO := Lib.hid (RSorted wr q cq (nmL (coB x y 1) L) hq hl2)
      clear hR hq hl2 HR
      go_wp2_with (go_at_call 40; (with_reducible refine HSO.out.mono ?_); rintro e w2 ⟨v, rfl, hr, hb⟩; have HR2 := Lib.hid hr; have HB2 := Lib.hid (HB.out.trans (hb.mono HB.out.size)); clear hr hb)
      go_ret
      exact ⟨_, rfl, by unfold nmS; rw [nsort_len]; exact row_at HR2.out (fun q e => ⟨rfl, Nat.le_trans HB.out.size (HR2.out.lt q e).1⟩), HB2.out⟩
set_option maxRecDepth 100000 in
set_option maxHeartbeats 6400000 in
theorem RCorner2 (w : World) (p : Option Addr) (c : Nat) (L : List S3) (x y : Int) (hx : TsS w p L) (hl : L.length ≤ 8192) :
    Calls Tryz.prog 27 #[.slice p L.length c, .int .i64 x, .int .i64 y, .int .u8 2] w fun e w' => ∃ v, e = .returned v ∧ w'.ownsRow w.heap.size 31 1 v (nmS (coB x y 2) L).length ((nmS (coB x y 2) L).map (Value.int .u32)) ∧ Below w.heap.size w w' := by
  have HX := Lib.hid hx
  obtain ⟨d, hd⟩ : ∃ d, d = L.length := ⟨_, rfl⟩
  have HD := Lib.hid hd
  rw [← hd] at hl ⊢
  clear hd hx
  go_enter Tryz.func27, Tryz.ntmps27
  go_wp2
  go_loopw [9, 10] (fun v9 v10 wr => ∃ k : Nat, k ≤ d ∧ v10 = .int .i64 k ∧ Hid (wr.ownsRow w.heap.size 31 1 v9 (nmL (coB x y 2) (L.take k)).length ((nmL (coB x y 2) (L.take k)).map (Value.int .u32))) ∧ Hid (Below w.heap.size w wr)) (fun _ v _ => d - (intOf v).toNat)
  case atStart => exact ⟨0, Nat.zero_le _, rfl, Lib.hid (World.ownsRow_nil _ _ _ _), Lib.hid (Below.refl _ _)⟩
  case round =>
    obtain ⟨k, hk, rfl, HR, HB⟩ := hrel
    by_cases hlt : k < d
    · have hltz : (k : Int) < d := by omega
      obtain ⟨s, hse⟩ : ∃ s, L[k]? = some s := ⟨_, List.getElem?_eq_getElem (by have := HD.out; omega)⟩
      obtain ⟨bb, off, rfl, h1⟩ := (HX.out.keep HB.out).at hse
      have n0 := h1.c0
      have n1 := h1.c1
      have n2 := h1.c2
      have HST := Lib.hid (show nmL (coB x y 2) (L.take (k + 1)) = nmL (coB x y 2) (L.take k) ++ (if coB x y 2 s then [s.2.2] else []) by rw [List.take_add_one, hse]; exact nmL_snoc _ _ _)
      obtain ⟨S, hS⟩ : ∃ S, S = nmL (coB x y 2) (L.take k) := ⟨_, rfl⟩
      have hSl : S.length ≤ k := by rw [hS]; exact Nat.le_trans (nmL_len _ _) (by simp; omega)
      rw [← hS] at HR HST
      obtain ⟨px, py, id⟩ := s
      simp only at n0 n1 n2 HST
      have HO1 := Lib.hid (fun X => on_any X px x false)
      have HO2 := Lib.hid (fun X => on_any X py y true)
      clear hS hse h1
      cases hb1 : onB px x false with
      | false =>
        have HE := Lib.hid (show coB x y 2 (px, py, id) = false by simp [coB, hb1])
        rw [hb1] at HO1
        clear hb1
        go_wp2_with (first | (go_at_call 39; (with_reducible refine (HO1.out _).mono ?_); rintro e w5 ⟨rfl, hw⟩; replace hw := hw.symm; subst hw) | (go_at_call 39; (with_reducible refine (HO2.out _).mono ?_); rintro e w5 ⟨rfl, hw⟩; replace hw := hw.symm; subst hw))
        go_roundw
        case rel => exact ⟨k + 1, by omega, by go_num, Lib.hid (by rw [HST.out, if_neg (by rw [HE.out]; simp), List.append_nil]; exact HR.out), HB⟩
        case measure => simp [intOf]; omega
      | true =>
        cases hb2 : onB py y true with
        | false =>
          have HE := Lib.hid (show coB x y 2 (px, py, id) = false by simp [coB, hb2])
          rw [hb1] at HO1
          rw [hb2] at HO2
          clear hb1 hb2
          go_wp2_with (first | (go_at_call 39; (with_reducible refine (HO1.out _).mono ?_); rintro e w5 ⟨rfl, hw⟩; replace hw := hw.symm; subst hw) | (go_at_call 39; (with_reducible refine (HO2.out _).mono ?_); rintro e w5 ⟨rfl, hw⟩; replace hw := hw.symm; subst hw))
          go_roundw
          case rel => exact ⟨k + 1, by omega, by go_num, Lib.hid (by rw [HST.out, if_neg (by rw [HE.out]; simp), List.append_nil]; exact HR.out), HB⟩
          case measure => simp [intOf]; omega
        | true =>
          have HE := Lib.hid (show coB x y 2 (px, py, id) = true by simp [coB, hb1, hb2])
          rw [hb1] at HO1
          rw [hb2] at HO2
          clear hb1 hb2
          go_wp2_with (first | (go_at_call 39; (with_reducible refine (HO1.out _).mono ?_); rintro e w5 ⟨rfl, hw⟩; replace hw := hw.symm; subst hw) | (go_at_call 39; (with_reducible refine (HO2.out _).mono ?_); rintro e w5 ⟨rfl, hw⟩; replace hw := hw.symm; subst hw) | (at_builtin; refine wpList_more Tryz.info31 rfl (by decide) (by decide) Tryz.underlying40 _ rfl (.tmp 42) (.tmp 48) rfl u9 S.length (S.map (Value.int .u32)) rfl (row_at (base' := 0) (World.ownsRow.alloc HR.out _) (fun _ _ => ⟨rfl, Nat.zero_le _⟩)) ⟨wr.heap.size, 0, none⟩ 1 1 [.int .u32 id] rfl rfl (one_at _ _ _) (by simp [Value.oneCell']) (by omega) (by decide) ?_; intro g1 c1 w1 h1 h2 h3; have H1 := Lib.hid h1; have HB1 := Lib.hid ((HB.out.alloc HB.out.size (.cells #[.int .u32 id] 31)).grown h2 (by have := HB.out.size; simp; omega) (fun k e => (HR.out.lt k e).1)); have HG1 := Lib.hid (show w.heap.size ≤ g1 from h3.elim (fun e => (HR.out.lt _ e).1) (fun e => by have := HB.out.size; simp at e; omega)); clear h1 h2 h3))
          go_roundw
          case rel =>
            refine ⟨k + 1, by omega, by go_num, Lib.hid ?_, HB1⟩
            rw [HST.out, if_pos HE.out]
            have h := row_at (base' := w.heap.size) H1.out (fun q e => ⟨rfl, by simp [Value.ownBlock] at e; subst e; exact HG1.out⟩)
            simpa using h
          case measure => simp [intOf]; omega
    · obtain rfl : k = d := by omega
      have hltz : ¬ (k : Int) < k := by omega
      have hR := HR.out
      rw [List.take_of_length_le (by have := HD.out; omega)] at hR
      obtain ⟨-, q, cq, rfl, hq, -⟩ := row_u hR
      have hl2 : (nmL (coB x y 2) L).length ≤ 8192 := Nat.le_trans (nmL_len _ _) (by have := HD.out; omega)
      have HSO := Lib.hid (RSorted wr q cq (nmL (coB x y 2) L) hq hl2)
      clear hR hq hl2 HR
      go_wp2_with (go_at_call 40; (with_reducible refine HSO.out.mono ?_); rintro e w2 ⟨v, rfl, hr, hb⟩; have HR2 := Lib.hid hr; have HB2 := Lib.hid (HB.out.trans (hb.mono HB.out.size)); clear hr hb)
      go_ret
      exact ⟨_, rfl, by unfold nmS; rw [nsort_len]; exact row_at HR2.out (fun q e => ⟨rfl, Nat.le_trans HB.out.size (HR2.out.lt q e).1⟩), HB2.out⟩
set_option maxRecDepth 100000 in
set_option maxHeartbeats 6400000 in
theorem RCorner3 (w : World) (p : Option Addr) (c : Nat) (L : List S3) (x y : Int) (hx : TsS w p L) (hl : L.length ≤ 8192) :
    Calls Tryz.prog 27 #[.slice p L.length c, .int .i64 x, .int .i64 y, .int .u8 3] w fun e w' => ∃ v, e = .returned v ∧ w'.ownsRow w.heap.size 31 1 v (nmS (coB x y 3) L).length ((nmS (coB x y 3) L).map (Value.int .u32)) ∧ Below w.heap.size w w' := by
  have HX := Lib.hid hx
  obtain ⟨d, hd⟩ : ∃ d, d = L.length := ⟨_, rfl⟩
  have HD := Lib.hid hd
  rw [← hd] at hl ⊢
  clear hd hx
  go_enter Tryz.func27, Tryz.ntmps27
  go_wp2
  go_loopw [9, 10] (fun v9 v10 wr => ∃ k : Nat, k ≤ d ∧ v10 = .int .i64 k ∧ Hid (wr.ownsRow w.heap.size 31 1 v9 (nmL (coB x y 3) (L.take k)).length ((nmL (coB x y 3) (L.take k)).map (Value.int .u32))) ∧ Hid (Below w.heap.size w wr)) (fun _ v _ => d - (intOf v).toNat)
  case atStart => exact ⟨0, Nat.zero_le _, rfl, Lib.hid (World.ownsRow_nil _ _ _ _), Lib.hid (Below.refl _ _)⟩
  case round =>
    obtain ⟨k, hk, rfl, HR, HB⟩ := hrel
    by_cases hlt : k < d
    · have hltz : (k : Int) < d := by omega
      obtain ⟨s, hse⟩ : ∃ s, L[k]? = some s := ⟨_, List.getElem?_eq_getElem (by have := HD.out; omega)⟩
      obtain ⟨bb, off, rfl, h1⟩ := (HX.out.keep HB.out).at hse
      have n0 := h1.c0
      have n1 := h1.c1
      have n2 := h1.c2
      have HST := Lib.hid (show nmL (coB x y 3) (L.take (k + 1)) = nmL (coB x y 3) (L.take k) ++ (if coB x y 3 s then [s.2.2] else []) by rw [List.take_add_one, hse]; exact nmL_snoc _ _ _)
      obtain ⟨S, hS⟩ : ∃ S, S = nmL (coB x y 3) (L.take k) := ⟨_, rfl⟩
      have hSl : S.length ≤ k := by rw [hS]; exact Nat.le_trans (nmL_len _ _) (by simp; omega)
      rw [← hS] at HR HST
      obtain ⟨px, py, id⟩ := s
      simp only at n0 n1 n2 HST
      have HO1 := Lib.hid (fun X => on_any X px x true)
      have HO2 := Lib.hid (fun X => on_any X py y true)
      clear hS hse h1
      cases hb1 : onB px x true with
      | false =>
        have HE := Lib.hid (show coB x y 3 (px, py, id) = false by simp [coB, hb1])
        rw [hb1] at HO1
        clear hb1
        go_wp2_with (first | (go_at_call 39; (with_reducible refine (HO1.out _).mono ?_); rintro e w5 ⟨rfl, hw⟩; replace hw := hw.symm; subst hw) | (go_at_call 39; (with_reducible refine (HO2.out _).mono ?_); rintro e w5 ⟨rfl, hw⟩; replace hw := hw.symm; subst hw))
        go_roundw
        case rel => exact ⟨k + 1, by omega, by go_num, Lib.hid (by rw [HST.out, if_neg (by rw [HE.out]; simp), List.append_nil]; exact HR.out), HB⟩
        case measure => simp [intOf]; omega
      | true =>
        cases hb2 : onB py y true with
        | false =>
          have HE := Lib.hid (show coB x y 3 (px, py, id) = false by simp [coB, hb2])
          rw [hb1] at HO1
          rw [hb2] at HO2
          clear hb1 hb2
          go_wp2_with (first | (go_at_call 39; (with_reducible refine (HO1.out _).mono ?_); rintro e w5 ⟨rfl, hw⟩; replace hw := hw.symm; subst hw) | (go_at_call 39; (with_reducible refine (HO2.out _).mono ?_); rintro e w5 ⟨rfl, hw⟩; replace hw := hw.symm; subst hw))
          go_roundw
          case rel => exact ⟨k + 1, by omega, by go_num, Lib.hid (by rw [HST.out, if_neg (by rw [HE.out]; simp), List.append_nil]; exact HR.out), HB⟩
          case measure => simp [intOf]; omega
        | true =>
          have HE := Lib.hid (show coB x y 3 (px, py, id) = true by simp [coB, hb1, hb2])
          rw [hb1] at HO1
          rw [hb2] at HO2
          clear hb1 hb2
          go_wp2_with (first | (go_at_call 39; (with_reducible refine (HO1.out _).mono ?_); rintro e w5 ⟨rfl, hw⟩; replace hw := hw.symm; subst hw) | (go_at_call 39; (with_reducible refine (HO2.out _).mono ?_); rintro e w5 ⟨rfl, hw⟩; replace hw := hw.symm; subst hw) | (at_builtin; refine wpList_more Tryz.info31 rfl (by decide) (by decide) Tryz.underlying40 _ rfl (.tmp 42) (.tmp 48) rfl u9 S.length (S.map (Value.int .u32)) rfl (row_at (base' := 0) (World.ownsRow.alloc HR.out _) (fun _ _ => ⟨rfl, Nat.zero_le _⟩)) ⟨wr.heap.size, 0, none⟩ 1 1 [.int .u32 id] rfl rfl (one_at _ _ _) (by simp [Value.oneCell']) (by omega) (by decide) ?_; intro g1 c1 w1 h1 h2 h3; have H1 := Lib.hid h1; have HB1 := Lib.hid ((HB.out.alloc HB.out.size (.cells #[.int .u32 id] 31)).grown h2 (by have := HB.out.size; simp; omega) (fun k e => (HR.out.lt k e).1)); have HG1 := Lib.hid (show w.heap.size ≤ g1 from h3.elim (fun e => (HR.out.lt _ e).1) (fun e => by have := HB.out.size; simp at e; omega)); clear h1 h2 h3))
          go_roundw
          case rel =>
            refine ⟨k + 1, by omega, by go_num, Lib.hid ?_, HB1⟩
            rw [HST.out, if_pos HE.out]
            have h := row_at (base' := w.heap.size) H1.out (fun q e => ⟨rfl, by simp [Value.ownBlock] at e; subst e; exact HG1.out⟩)
            simpa using h
          case measure => simp [intOf]; omega
    · obtain rfl : k = d := by omega
      have hltz : ¬ (k : Int) < k := by omega
      have hR := HR.out
      rw [List.take_of_length_le (by have := HD.out; omega)] at hR
      obtain ⟨-, q, cq, rfl, hq, -⟩ := row_u hR
      have hl2 : (nmL (coB x y 3) L).length ≤ 8192 := Nat.le_trans (nmL_len _ _) (by have := HD.out; omega)
      have HSO := Lib.hid (RSorted wr q cq (nmL (coB x y 3) L) hq hl2)
      clear hR hq hl2 HR
      go_wp2_with (go_at_call 40; (with_reducible refine HSO.out.mono ?_); rintro e w2 ⟨v, rfl, hr, hb⟩; have HR2 := Lib.hid hr; have HB2 := Lib.hid (HB.out.trans (hb.mono HB.out.size)); clear hr hb)
      go_ret
      exact ⟨_, rfl, by unfold nmS; rw [nsort_len]; exact row_at HR2.out (fun q e => ⟨rfl, Nat.le_trans HB.out.size (HR2.out.lt q e).1⟩), HB2.out⟩
theorem coB_none {x y : Int} {way : Nat} (h : ¬ way < 4) (L : List S3) : nmS (coB x y way) L = [] := nmS_none (fun s _ => by unfold coB; rw [decide_eq_false h]; rfl)
set_option maxRecDepth 100000 in
set_option maxHeartbeats 6400000 in
theorem RCornerN (w : World) (p : Option Addr) (c : Nat) (L : List S3) (x y : Int) (way : Nat) (hw : ¬ way < 4) (hl : L.length ≤ 8192) :
    Calls Tryz.prog 27 #[.slice p L.length c, .int .i64 x, .int .i64 y, .int .u8 way] w fun e w' => ∃ v, e = .returned v ∧ w'.ownsRow w.heap.size 31 1 v ([] : List Int).length (([] : List Int).map (Value.int .u32)) ∧ Below w.heap.size w w' := by
  have hwz : ¬ (way : Int) < 4 := by omega
  have HSO : Hid (∀ X, Calls Tryz.prog 40 #[.slice none 0 0] X fun e w' => ∃ v, e = .returned v ∧ w'.ownsRow X.heap.size 31 1 v ([] : List Int).length (([] : List Int).map (Value.int .u32)) ∧ Below X.heap.size X w') := Lib.hid (fun X => RSorted X none 0 [] (.inl rfl) (by simp))
  obtain ⟨d, hd⟩ : ∃ d, d = L.length := ⟨_, rfl⟩
  rw [← hd] at hl ⊢
  clear hd hw
  go_enter Tryz.func27, Tryz.ntmps27
  go_wp2
  go_loopw [9, 10] (fun v9 v10 wr => ∃ k : Nat, k ≤ d ∧ v10 = .int .i64 k ∧ v9 = .slice none 0 0 ∧ Hid (Below w.heap.size w wr)) (fun _ v _ => d - (intOf v).toNat)
  case atStart => exact ⟨0, Nat.zero_le _, rfl, rfl, Lib.hid (Below.refl _ _)⟩
  case round =>
    obtain ⟨k, hk, rfl, rfl, HB⟩ := hrel
    by_cases hlt : k < d
    · have hltz : (k : Int) < d := by omega
      go_wp2
      go_roundw
      case rel => exact ⟨k + 1, by omega, by go_num, rfl, HB⟩
      case measure => simp [intOf]; omega
    · obtain rfl : k = d := by omega
      have hltz : ¬ (k : Int) < k := by omega
      go_wp2_with (go_at_call 40; (with_reducible refine (HSO.out _).mono ?_); rintro e w2 ⟨v, rfl, hr, hb⟩; have HR2 := Lib.hid hr; have HB2 := Lib.hid (HB.out.trans (hb.mono HB.out.size)); clear hr hb)
      go_ret
      exact ⟨_, rfl, row_at HR2.out (fun q e => ⟨rfl, Nat.le_trans HB.out.size (HR2.out.lt q e).1⟩), HB2.out⟩
theorem RCorner (w : World) (p : Option Addr) (c : Nat) (L : List S3) (x y : Int) (way : Nat) (hx : TsS w p L) (hl : L.length ≤ 8192) :
    Calls Tryz.prog 27 #[.slice p L.length c, .int .i64 x, .int .i64 y, .int .u8 way] w fun e w' => ∃ v, e = .returned v ∧ w'.ownsRow w.heap.size 31 1 v (nmS (coB x y way) L).length ((nmS (coB x y way) L).map (Value.int .u32)) ∧ Below w.heap.size w w' := by
  by_cases h : way < 4
  · obtain rfl | rfl | rfl | rfl : way = 0 ∨ way = 1 ∨ way = 2 ∨ way = 3 := by omega
    · exact RCorner0 w p c L x y hx hl
    · exact RCorner1 w p c L x y hx hl
    · exact RCorner2 w p c L x y hx hl
    · exact RCorner3 w p c L x y hx hl
  · rw [coB_none h]
    exact RCornerN w p c L x y way h hl
set_option maxRecDepth 100000 in
set_option maxHeartbeats 6400000 in
theorem ROver (w : World) (p : Option Addr) (c : Nat) (L : List S3) (g : S3) (hx : TsS w p L) (hl : L.length ≤ 8192) :
    Calls Tryz.prog 28 #[.slice p L.length c, tv g] w fun e w' => ∃ v, e = .returned v ∧ w'.ownsRow w.heap.size 31 1 v (nmS (fun q => ovB q g) L).length ((nmS (fun q => ovB q g) L).map (Value.int .u32)) ∧ Below w.heap.size w w' := by
  have HX := Lib.hid hx
  obtain ⟨d, hd⟩ : ∃ d, d = L.length := ⟨_, rfl⟩
  have HD := Lib.hid hd
  rw [← hd] at hl ⊢
  clear hd hx
  obtain ⟨W, hW⟩ : ∃ W, W = w.alloc (.cells (tvs g).toArray 33) := ⟨_, rfl⟩
  have hWN := T1.new w g 33
  rw [← hW] at hWN
  have hWB : Below w.heap.size w W := by rw [hW]; exact (Below.refl _ w).alloc (Nat.le_refl _) _
  have HWN := Lib.hid hWN
  have HWB := Lib.hid hWB
  have HW := Lib.hid hW
  clear hWN hWB hW
  have HOV := Lib.hid (fun X s => over_any X s g)
  obtain ⟨F, hF⟩ : ∃ F : S3 → Bool, F = (fun q => ovB q g) := ⟨_, rfl⟩
  have HFF := Lib.hid (show ∀ s, F s = ovB s g by intro s; rw [hF])
  rw [← hF]
  obtain ⟨gx, gy, gi⟩ := g
  unfold tv
  unfold tvs at HW
  simp only at HW ⊢
  clear hF
  go_enter Tryz.func28, Tryz.ntmps28
  go_upto_block 0 with fail
  rw [← HW.out]
  go_wp2
  go_loopw [5, 6] (fun v5 v6 wr => ∃ k : Nat, k ≤ d ∧ v6 = .int .i64 k ∧ Hid (wr.ownsRow w.heap.size 31 1 v5 (nmL F (L.take k)).length ((nmL F (L.take k)).map (Value.int .u32))) ∧ Hid (∀ b, v5.ownBlock = some b → w.heap.size < b) ∧ Hid (T1 wr w.heap.size 0 (gx, gy, gi)) ∧ Hid (Below w.heap.size w wr)) (fun _ v _ => d - (intOf v).toNat)
  case atStart => exact ⟨0, Nat.zero_le _, rfl, Lib.hid (World.ownsRow_nil _ _ _ _), Lib.hid (fun b e => by cases e), HWN, HWB⟩
  case round =>
    clear HWN HWB HW
    obtain ⟨k, hk, rfl, HR, HNX, HN, HB⟩ := hrel
    by_cases hlt : k < d
    · have hltz : (k : Int) < d := by omega
      obtain ⟨s, hse⟩ : ∃ s, L[k]? = some s := ⟨_, List.getElem?_eq_getElem (by have := HD.out; omega)⟩
      obtain ⟨bb, off, rfl, h1⟩ := (HX.out.keep HB.out).at hse
      have HBL := Lib.hid h1.lt
      have HS1 := Lib.hid h1
      have n0 := h1.c0
      have n1 := h1.c1
      have n2 := h1.c2
      have m0 := HN.out.c0
      have m1 := HN.out.c1
      have m2 := HN.out.c2
      have HST := Lib.hid (show nmL F (L.take (k + 1)) = nmL F (L.take k) ++ (if F s then [s.2.2] else []) by rw [List.take_add_one, hse]; exact nmL_snoc _ _ _)
      obtain ⟨S, hS⟩ : ∃ S, S = nmL F (L.take k) := ⟨_, rfl⟩
      have hSl : S.length ≤ k := by rw [hS]; exact Nat.le_trans (nmL_len _ _) (by simp; omega)
      rw [← hS] at HR HST
      have HOS := Lib.hid (fun X => HOV.out X s)
      simp only [← HFF.out] at HOS
      simp only [Nat.zero_add] at m0 m1 m2
      clear hS hse h1
      cases hb1 : F s with
      | false =>
        rw [hb1] at HOS
        have HE := Lib.hid hb1
        obtain ⟨px, py, id⟩ := s
        unfold tv at HOS
        simp only at n0 n1 n2 HOS
        clear hb1
        go_upto_region 5 with fail
        have inst : Nonempty (Wd (Bw wr)) := ⟨⟨wr, Below.refl _ _⟩⟩
        have a0 : ∀ z : Wd (Bw wr), z.w.cell? ⟨bb, off + k * 3, none⟩ = _ := fun z => Bw.cell z n0
        have a1 : ∀ z : Wd (Bw wr), z.w.cell? ⟨bb, off + k * 3 + 1, none⟩ = _ := fun z => Bw.cell z n1
        have a2 : ∀ z : Wd (Bw wr), z.w.cell? ⟨bb, off + k * 3 + 2, none⟩ = _ := fun z => Bw.cell z n2
        have b0 : ∀ z : Wd (Bw wr), z.w.cell? ⟨w.heap.size, 0, none⟩ = _ := fun z => Bw.cell z m0
        have b1 : ∀ z : Wd (Bw wr), z.w.cell? ⟨w.heap.size, 1, none⟩ = _ := fun z => Bw.cell z m1
        have b2 : ∀ z : Wd (Bw wr), z.w.cell? ⟨w.heap.size, 2, none⟩ = _ := fun z => Bw.cell z m2
        refine wp_region_wd (Bw wr) (by kernel_rfl) (by kernel_rfl) ((Below.refl _ wr).drew) ?_
        repeat (first
          | go_big_quiet_step (first | (go_at_call 41; with_reducible exact calls_wd (fun _ _ h hb => h.keep hb) _ (HOS.out _)))
          | quiet_step (first | (go_at_call 41; with_reducible exact calls_wd (fun _ _ h hb => h.keep hb) _ (HOS.out _))))
        refine wpQuiet_nil ?_
        rintro _ ⟨z, rfl⟩
        have HR5 := Lib.hid (row_at (base' := w.heap.size) HR.out (fun q e => ⟨z.h.block q (HR.out.lt q e).2, (HR.out.lt q e).1⟩))
        have HN5 := Lib.hid (HN.out.keep z.h HN.out.lt)
        have HB5 := Lib.hid (HB.out.trans (z.h.mono HB.out.size))
        go_wp2
        go_roundw
        case rel => exact ⟨k + 1, by omega, by go_num, Lib.hid (by rw [HST.out, if_neg (by rw [HE.out]; simp), List.append_nil]; exact HR5.out), HNX, HN5, HB5⟩
        case measure => simp [intOf]; omega
      | true =>
        rw [hb1] at HOS
        have HE := Lib.hid hb1
        obtain ⟨px, py, id⟩ := s
        unfold tv at HOS
        simp only at n0 n1 n2 HOS
        clear hb1
        go_upto_region 5 with fail
        have inst : Nonempty (Wd (Bw wr)) := ⟨⟨wr, Below.refl _ _⟩⟩
        have a0 : ∀ z : Wd (Bw wr), z.w.cell? ⟨bb, off + k * 3, none⟩ = _ := fun z => Bw.cell z n0
        have a1 : ∀ z : Wd (Bw wr), z.w.cell? ⟨bb, off + k * 3 + 1, none⟩ = _ := fun z => Bw.cell z n1
        have a2 : ∀ z : Wd (Bw wr), z.w.cell? ⟨bb, off + k * 3 + 2, none⟩ = _ := fun z => Bw.cell z n2
        have b0 : ∀ z : Wd (Bw wr), z.w.cell? ⟨w.heap.size, 0, none⟩ = _ := fun z => Bw.cell z m0
        have b1 : ∀ z : Wd (Bw wr), z.w.cell? ⟨w.heap.size, 1, none⟩ = _ := fun z => Bw.cell z m1
        have b2 : ∀ z : Wd (Bw wr), z.w.cell? ⟨w.heap.size, 2, none⟩ = _ := fun z => Bw.cell z m2
        refine wp_region_wd (Bw wr) (by kernel_rfl) (by kernel_rfl) ((Below.refl _ wr).drew) ?_
        repeat (first
          | go_big_quiet_step (first | (go_at_call 41; with_reducible exact calls_wd (fun _ _ h hb => h.keep hb) _ (HOS.out _)))
          | quiet_step (first | (go_at_call 41; with_reducible exact calls_wd (fun _ _ h hb => h.keep hb) _ (HOS.out _))))
        refine wpQuiet_nil ?_
        rintro _ ⟨z, rfl⟩
        have HR5 := Lib.hid (row_at (base' := w.heap.size) HR.out (fun q e => ⟨z.h.block q (HR.out.lt q e).2, (HR.out.lt q e).1⟩))
        have HN5 := Lib.hid (HN.out.keep z.h HN.out.lt)
        have HB5 := Lib.hid (HB.out.trans (z.h.mono HB.out.size))
        have k2 := a2 z
        have HR := HR5
        go_wp2_with (at_builtin; refine wpList_more Tryz.info31 rfl (by decide) (by decide) Tryz.underlying40 _ rfl (.tmp 19) (.tmp 25) rfl u5 S.length (S.map (Value.int .u32)) rfl (row_at (base' := 0) (World.ownsRow.alloc HR.out _) (fun _ _ => ⟨rfl, Nat.zero_le _⟩)) ⟨z.w.heap.size, 0, none⟩ 1 1 [.int .u32 id] rfl rfl (one_at _ _ _) (by simp [Value.oneCell']) (by omega) (by decide) ?_; intro g1 c1 w1 h1 h2 h3; have H1 := Lib.hid h1; have HB1 := Lib.hid ((HB5.out.alloc HB5.out.size (.cells #[.int .u32 id] 31)).grown h2 (by have := HB5.out.size; simp; omega) (fun k e => (HR.out.lt k e).1)); have HG1 := Lib.hid (show w.heap.size ≤ g1 from h3.elim (fun e => (HR.out.lt _ e).1) (fun e => by have := HB5.out.size; simp at e; omega)); have HGX := Lib.hid (show w.heap.size < g1 from h3.elim (fun e => HNX.out _ e) (fun e => by have := HN5.out.lt; simp at e; omega)); have HN1 := Lib.hid (HN5.out.block (w' := w1) ((h2.block w.heap.size (by have := HN5.out.lt; simp; omega) (fun e => by have := (HR.out.lt _ e.symm); have := HNX.out _ e.symm; omega)).trans (Below.heap_alloc _ _ _ HN5.out.lt))); clear h1 h2 h3)
        go_roundw
        case rel =>
          refine ⟨k + 1, by omega, by go_num, Lib.hid ?_, Lib.hid (fun b e => by simp [Value.ownBlock] at e; subst e; exact HGX.out), HN1, HB1⟩
          rw [HST.out, if_pos HE.out]
          have h := row_at (base' := w.heap.size) H1.out (fun q e => ⟨rfl, by simp [Value.ownBlock] at e; subst e; exact HG1.out⟩)
          simpa using h
        case measure => simp [intOf]; omega
    · obtain rfl : k = d := by omega
      have hltz : ¬ (k : Int) < k := by omega
      have hR := HR.out
      rw [List.take_of_length_le (by have := HD.out; omega)] at hR
      obtain ⟨-, q, cq, rfl, hq, -⟩ := row_u hR
      have hl2 : (nmL (F) L).length ≤ 8192 := Nat.le_trans (nmL_len _ _) (by have := HD.out; omega)
      have HSO := Lib.hid (RSorted wr q cq (nmL (F) L) hq hl2)
      clear hR hq hl2 HR
      go_wp2_with (go_at_call 40; (with_reducible refine HSO.out.mono ?_); rintro e w2 ⟨v, rfl, hr, hb⟩; have HR2 := Lib.hid hr; have HB2 := Lib.hid (HB.out.trans (hb.mono HB.out.size)); clear hr hb)
      go_ret
      exact ⟨_, rfl, by unfold nmS; rw [nsort_len]; exact row_at HR2.out (fun q e => ⟨rfl, Nat.le_trans HB.out.size (HR2.out.lt q e).1⟩), HB2.out⟩
set_option maxRecDepth 100000 in
set_option maxHeartbeats 6400000 in
theorem RUnder (w : World) (p : Option Addr) (c : Nat) (L : List S3) (g : S3) (hx : TsS w p L) (hl : L.length ≤ 8192) :
    Calls Tryz.prog 29 #[.slice p L.length c, tv g] w fun e w' => ∃ v, e = .returned v ∧ w'.ownsRow w.heap.size 31 1 v (nmS (ovB g) L).length ((nmS (ovB g) L).map (Value.int .u32)) ∧ Below w.heap.size w w' := by
  have HX := Lib.hid hx
  obtain ⟨d, hd⟩ : ∃ d, d = L.length := ⟨_, rfl⟩
  have HD := Lib.hid hd
  rw [← hd] at hl ⊢
  clear hd hx
  obtain ⟨W, hW⟩ : ∃ W, W = w.alloc (.cells (tvs g).toArray 33) := ⟨_, rfl⟩
  have hWN := T1.new w g 33
  rw [← hW] at hWN
  have hWB : Below w.heap.size w W := by rw [hW]; exact (Below.refl _ w).alloc (Nat.le_refl _) _
  have HWN := Lib.hid hWN
  have HWB := Lib.hid hWB
  have HW := Lib.hid hW
  clear hWN hWB hW
  have HOV := Lib.hid (fun X s => over_any X g s)
  obtain ⟨F, hF⟩ : ∃ F : S3 → Bool, F = (ovB g) := ⟨_, rfl⟩
  have HFF := Lib.hid (show ∀ s, F s = ovB g s by intro s; rw [hF])
  rw [← hF]
  obtain ⟨gx, gy, gi⟩ := g
  unfold tv
  unfold tvs at HW
  simp only at HW ⊢
  clear hF
  go_enter Tryz.func29, Tryz.ntmps29
  go_upto_block 0 with fail
  rw [← HW.out]
  go_wp2
  go_loopw [5, 6] (fun v5 v6 wr => ∃ k : Nat, k ≤ d ∧ v6 = .int .i64 k ∧ Hid (wr.ownsRow w.heap.size 31 1 v5 (nmL F (L.take k)).length ((nmL F (L.take k)).map (Value.int .u32))) ∧ Hid (∀ b, v5.ownBlock = some b → w.heap.size < b) ∧ Hid (T1 wr w.heap.size 0 (gx, gy, gi)) ∧ Hid (Below w.heap.size w wr)) (fun _ v _ => d - (intOf v).toNat)
  case atStart => exact ⟨0, Nat.zero_le _, rfl, Lib.hid (World.ownsRow_nil _ _ _ _), Lib.hid (fun b e => by cases e), HWN, HWB⟩
  case round =>
    clear HWN HWB HW
    obtain ⟨k, hk, rfl, HR, HNX, HN, HB⟩ := hrel
    by_cases hlt : k < d
    · have hltz : (k : Int) < d := by omega
      obtain ⟨s, hse⟩ : ∃ s, L[k]? = some s := ⟨_, List.getElem?_eq_getElem (by have := HD.out; omega)⟩
      obtain ⟨bb, off, rfl, h1⟩ := (HX.out.keep HB.out).at hse
      have HBL := Lib.hid h1.lt
      have HS1 := Lib.hid h1
      have n0 := h1.c0
      have n1 := h1.c1
      have n2 := h1.c2
      have m0 := HN.out.c0
      have m1 := HN.out.c1
      have m2 := HN.out.c2
      have HST := Lib.hid (show nmL F (L.take (k + 1)) = nmL F (L.take k) ++ (if F s then [s.2.2] else []) by rw [List.take_add_one, hse]; exact nmL_snoc _ _ _)
      obtain ⟨S, hS⟩ : ∃ S, S = nmL F (L.take k) := ⟨_, rfl⟩
      have hSl : S.length ≤ k := by rw [hS]; exact Nat.le_trans (nmL_len _ _) (by simp; omega)
      rw [← hS] at HR HST
      have HOS := Lib.hid (fun X => HOV.out X s)
      simp only [← HFF.out] at HOS
      simp only [Nat.zero_add] at m0 m1 m2
      clear hS hse h1
      cases hb1 : F s with
      | false =>
        rw [hb1] at HOS
        have HE := Lib.hid hb1
        obtain ⟨px, py, id⟩ := s
        unfold tv at HOS
        simp only at n0 n1 n2 HOS
        clear hb1
        go_upto_region 5 with fail
        have inst : Nonempty (Wd (Bw wr)) := ⟨⟨wr, Below.refl _ _⟩⟩
        have a0 : ∀ z : Wd (Bw wr), z.w.cell? ⟨bb, off + k * 3, none⟩ = _ := fun z => Bw.cell z n0
        have a1 : ∀ z : Wd (Bw wr), z.w.cell? ⟨bb, off + k * 3 + 1, none⟩ = _ := fun z => Bw.cell z n1
        have a2 : ∀ z : Wd (Bw wr), z.w.cell? ⟨bb, off + k * 3 + 2, none⟩ = _ := fun z => Bw.cell z n2
        have b0 : ∀ z : Wd (Bw wr), z.w.cell? ⟨w.heap.size, 0, none⟩ = _ := fun z => Bw.cell z m0
        have b1 : ∀ z : Wd (Bw wr), z.w.cell? ⟨w.heap.size, 1, none⟩ = _ := fun z => Bw.cell z m1
        have b2 : ∀ z : Wd (Bw wr), z.w.cell? ⟨w.heap.size, 2, none⟩ = _ := fun z => Bw.cell z m2
        refine wp_region_wd (Bw wr) (by kernel_rfl) (by kernel_rfl) ((Below.refl _ wr).drew) ?_
        repeat (first
          | go_big_quiet_step (first | (go_at_call 41; with_reducible exact calls_wd (fun _ _ h hb => h.keep hb) _ (HOS.out _)))
          | quiet_step (first | (go_at_call 41; with_reducible exact calls_wd (fun _ _ h hb => h.keep hb) _ (HOS.out _))))
        refine wpQuiet_nil ?_
        rintro _ ⟨z, rfl⟩
        have HR5 := Lib.hid (row_at (base' := w.heap.size) HR.out (fun q e => ⟨z.h.block q (HR.out.lt q e).2, (HR.out.lt q e).1⟩))
        have HN5 := Lib.hid (HN.out.keep z.h HN.out.lt)
        have HB5 := Lib.hid (HB.out.trans (z.h.mono HB.out.size))
        go_wp2
        go_roundw
        case rel => exact ⟨k + 1, by omega, by go_num, Lib.hid (by rw [HST.out, if_neg (by rw [HE.out]; simp), List.append_nil]; exact HR5.out), HNX, HN5, HB5⟩
        case measure => simp [intOf]; omega
      | true =>
        rw [hb1] at HOS
        have HE := Lib.hid hb1
        obtain ⟨px, py, id⟩ := s
        unfold tv at HOS
        simp only at n0 n1 n2 HOS
        clear hb1
        go_upto_region 5 with fail
        have inst : Nonempty (Wd (Bw wr)) := ⟨⟨wr, Below.refl _ _⟩⟩
        have a0 : ∀ z : Wd (Bw wr), z.w.cell? ⟨bb, off + k * 3, none⟩ = _ := fun z => Bw.cell z n0
        have a1 : ∀ z : Wd (Bw wr), z.w.cell? ⟨bb, off + k * 3 + 1, none⟩ = _ := fun z => Bw.cell z n1
        have a2 : ∀ z : Wd (Bw wr), z.w.cell? ⟨bb, off + k * 3 + 2, none⟩ = _ := fun z => Bw.cell z n2
        have b0 : ∀ z : Wd (Bw wr), z.w.cell? ⟨w.heap.size, 0, none⟩ = _ := fun z => Bw.cell z m0
        have b1 : ∀ z : Wd (Bw wr), z.w.cell? ⟨w.heap.size, 1, none⟩ = _ := fun z => Bw.cell z m1
        have b2 : ∀ z : Wd (Bw wr), z.w.cell? ⟨w.heap.size, 2, none⟩ = _ := fun z => Bw.cell z m2
        refine wp_region_wd (Bw wr) (by kernel_rfl) (by kernel_rfl) ((Below.refl _ wr).drew) ?_
        repeat (first
          | go_big_quiet_step (first | (go_at_call 41; with_reducible exact calls_wd (fun _ _ h hb => h.keep hb) _ (HOS.out _)))
          | quiet_step (first | (go_at_call 41; with_reducible exact calls_wd (fun _ _ h hb => h.keep hb) _ (HOS.out _))))
        refine wpQuiet_nil ?_
        rintro _ ⟨z, rfl⟩
        have HR5 := Lib.hid (row_at (base' := w.heap.size) HR.out (fun q e => ⟨z.h.block q (HR.out.lt q e).2, (HR.out.lt q e).1⟩))
        have HN5 := Lib.hid (HN.out.keep z.h HN.out.lt)
        have HB5 := Lib.hid (HB.out.trans (z.h.mono HB.out.size))
        have k2 := a2 z
        have HR := HR5
        go_wp2_with (at_builtin; refine wpList_more Tryz.info31 rfl (by decide) (by decide) Tryz.underlying40 _ rfl (.tmp 19) (.tmp 25) rfl u5 S.length (S.map (Value.int .u32)) rfl (row_at (base' := 0) (World.ownsRow.alloc HR.out _) (fun _ _ => ⟨rfl, Nat.zero_le _⟩)) ⟨z.w.heap.size, 0, none⟩ 1 1 [.int .u32 id] rfl rfl (one_at _ _ _) (by simp [Value.oneCell']) (by omega) (by decide) ?_; intro g1 c1 w1 h1 h2 h3; have H1 := Lib.hid h1; have HB1 := Lib.hid ((HB5.out.alloc HB5.out.size (.cells #[.int .u32 id] 31)).grown h2 (by have := HB5.out.size; simp; omega) (fun k e => (HR.out.lt k e).1)); have HG1 := Lib.hid (show w.heap.size ≤ g1 from h3.elim (fun e => (HR.out.lt _ e).1) (fun e => by have := HB5.out.size; simp at e; omega)); have HGX := Lib.hid (show w.heap.size < g1 from h3.elim (fun e => HNX.out _ e) (fun e => by have := HN5.out.lt; simp at e; omega)); have HN1 := Lib.hid (HN5.out.block (w' := w1) ((h2.block w.heap.size (by have := HN5.out.lt; simp; omega) (fun e => by have := (HR.out.lt _ e.symm); have := HNX.out _ e.symm; omega)).trans (Below.heap_alloc _ _ _ HN5.out.lt))); clear h1 h2 h3)
        go_roundw
        case rel =>
          refine ⟨k + 1, by omega, by go_num, Lib.hid ?_, Lib.hid (fun b e => by simp [Value.ownBlock] at e; subst e; exact HGX.out), HN1, HB1⟩
          rw [HST.out, if_pos HE.out]
          have h := row_at (base' := w.heap.size) H1.out (fun q e => ⟨rfl, by simp [Value.ownBlock] at e; subst e; exact HG1.out⟩)
          simpa using h
        case measure => simp [intOf]; omega
    · obtain rfl : k = d := by omega
      have hltz : ¬ (k : Int) < k := by omega
      have hR := HR.out
      rw [List.take_of_length_le (by have := HD.out; omega)] at hR
      obtain ⟨-, q, cq, rfl, hq, -⟩ := row_u hR
      have hl2 : (nmL (F) L).length ≤ 8192 := Nat.le_trans (nmL_len _ _) (by have := HD.out; omega)
      have HSO := Lib.hid (RSorted wr q cq (nmL (F) L) hq hl2)
      clear hR hq hl2 HR
      go_wp2_with (go_at_call 40; (with_reducible refine HSO.out.mono ?_); rintro e w2 ⟨v, rfl, hr, hb⟩; have HR2 := Lib.hid hr; have HB2 := Lib.hid (HB.out.trans (hb.mono HB.out.size)); clear hr hb)
      go_ret
      exact ⟨_, rfl, by unfold nmS; rw [nsort_len]; exact row_at HR2.out (fun q e => ⟨rfl, Nat.le_trans HB.out.size (HR2.out.lt q e).1⟩), HB2.out⟩
end Go.Proofs.YtadlobmhnkfnfaaGreat.Co
/-
  Layer 12's sameIDs; the law's asked over any tree that tells corners. No condition but those typed at each theorem.
-/
namespace Go.Proofs.YtadlobmhnkfnfaaGreat.Co
open Go.RowKit
set_option maxRecDepth 100000 in
set_option maxHeartbeats 3200000 in
theorem sameIDs_any (w : World) (p q : Option Addr) (ca cb : Nat) (xs ys : List Int) (hx : NS w p .u32 xs) (hy : NS w q .u32 ys) (hn : xs.length ≤ 8192) :
    Calls Tryz.prog 23 #[.slice p xs.length ca, .slice q ys.length cb] w fun e w' => e = .returned (.bool (decide (xs = ys))) ∧ Below w.heap.size w w' := by
  by_cases hlen : xs.length = ys.length
  · have HX := Lib.hid hx
    have HY := Lib.hid hy
    obtain ⟨d, hd⟩ : ∃ d, d = xs.length := ⟨_, rfl⟩
    have HD := Lib.hid hd
    have HD2 := Lib.hid (hd.trans hlen)
    rw [← hlen, ← hd]
    rw [← hd] at hn
    clear hx hy hlen hd
    go_enter Tryz.func23, Tryz.ntmps23
    go_wp2
    go_loopw [13] (fun i wr => ∃ k : Nat, k ≤ d ∧ i = .int .i64 k ∧ Hid (xs.take k = ys.take k) ∧ Hid (Below w.heap.size w wr)) (fun i _ => d - (intOf i).toNat)
    case atStart => exact ⟨0, Nat.zero_le _, rfl, Lib.hid rfl, Lib.hid (Below.refl _ _)⟩
    case round =>
      obtain ⟨k, hk, rfl, HT, HB⟩ := hrel
      by_cases hlt : k < d
      · have hltz : (k : Int) < d := by omega
        obtain ⟨x, hxe⟩ : ∃ x, xs[k]? = some x := ⟨_, List.getElem?_eq_getElem (by have := HD.out; omega)⟩
        obtain ⟨y, hye⟩ : ∃ y, ys[k]? = some y := ⟨_, List.getElem?_eq_getElem (by have := HD2.out; omega)⟩
        rcases HX.out with h0 | ⟨b1, o1, rfl, h1⟩
        · rw [h0] at hxe; simp at hxe
        · rcases HY.out with h0 | ⟨b2, o2, rfl, h2⟩
          · rw [h0] at hye; simp at hye
          · have cx : wr.cell? ⟨b1, o1 + k, none⟩ = some (.int .u32 x) := (HB.out.cell (World.block_lt_of_cell? w _ (h1 k x hxe))).trans (h1 k x hxe)
            have cy : wr.cell? ⟨b2, o2 + k, none⟩ = some (.int .u32 y) := (HB.out.cell (World.block_lt_of_cell? w _ (h2 k y hye))).trans (h2 k y hye)
            have HXE := Lib.hid hxe
            have HYE := Lib.hid hye
            clear hxe hye h1 h2
            go_upto_region 6 with fail
            go_quiet (fail)
            by_cases hxy : x = y
            · go_wp2
              go_roundw
              case rel =>
                refine ⟨k + 1, by omega, by go_num, Lib.hid ?_, Lib.hid (drewB HB.out)⟩
                rw [List.take_add_one, List.take_add_one, HT.out, HXE.out, HYE.out, hxy]
              case measure => simp [intOf]; omega
            · go_wp2
              go_ret
              refine ⟨retB ?_, drewB HB.out⟩
              simp
              intro e
              have h1 := HXE.out
              rw [e, HYE.out] at h1
              exact hxy (Option.some.inj h1).symm
      · obtain rfl : k = d := by omega
        have hltz : ¬ (k : Int) < k := by omega
        go_wp2
        go_ret
        refine ⟨retB ?_, HB.out⟩
        have h1 := HT.out
        rw [List.take_of_length_le (by have := HD.out; omega), List.take_of_length_le (by have := HD2.out; omega)] at h1
        simp [h1]
  · have hne : ¬ (xs.length : Int) = ys.length := by omega
    have hne2 : xs ≠ ys := fun e => hlen (by rw [e])
    have HNE := Lib.hid hne2
    clear hx hy hlen hne2
    generalize hd : xs.length = d at *
    generalize he : ys.length = d' at *
    clear hd he
    go_enter Tryz.func23, Tryz.ntmps23
    go_wp2
    go_ret
    exact ⟨retB (by simpa using HNE.out), Below.refl _ _⟩
section
variable {TS : World → Value → Nat → List Nat → List S3 → Prop} {X : World} {v : Value} {n : Nat} {S : List Nat} {A : List S3}
set_option maxRecDepth 100000 in
set_option maxHeartbeats 12800000 in
theorem asked_any (C : CornC TS) (h : TS X v n S A) (p q : Option Addr) (c d : Nat) (L : List S3) (xs : List S3) (way : Nat) (hway : way ≤ 255) (hL : TsS X p L) (hx : TsS X q xs) (hw : ∀ x ∈ xs, Wf3 x) (hl : L.length ≤ 8192) (hxl : xs.length ≤ 8192) (hp : A.Perm L) :
    Calls Tryz.prog 13 #[v, .slice p L.length c, .slice q xs.length d, .int .u8 way] X fun e X' => e = .returned (.bool true) ∧ Below X.heap.size X X' := by
  have HN := Lib.hid (fun Y (hb : Below X.heap.size X Y) => by have := C.len (C.bel h hb); rw [hp.length_eq] at this; exact this)
  have HRC := Lib.hid (fun Y x y (hb : Below X.heap.size X Y) => RCorner Y p c L x y way (hL.keep hb) hl)
  have HRO := Lib.hid (fun Y s (hb : Below X.heap.size X Y) => ROver Y p c L s (hL.keep hb) hl)
  have HRV := Lib.hid (fun Y s (hb : Below X.heap.size X Y) => RUnder Y p c L s (hL.keep hb) hl)
  have HRE := Lib.hid (fun Y (s : S3) (hb : Below X.heap.size X Y) (hw : Wf3 s) => by have := C.report s.1 s.2.1 way (C.bel h hb) hw.1 hw.2.1 hway; rw [nmS_perm hp] at this; exact this)
  have HCO := Lib.hid (fun Y (s : S3) (hb : Below X.heap.size X Y) (hw : Wf3 s) => by have := C.count s.1 s.2.1 way (C.bel h hb) hw.1 hw.2.1 hway; rw [nmS_perm hp] at this; exact this)
  have HOV := Lib.hid (fun Y (s : S3) (hb : Below X.heap.size X Y) (hw : Wf3 s) => by have := C.over s (C.bel h hb) hw; rw [nmS_perm hp] at this; exact this)
  have HUN := Lib.hid (fun Y (s : S3) (hb : Below X.heap.size X Y) (hw : Wf3 s) => by have := C.under s (C.bel h hb) hw; rw [nmS_perm hp] at this; exact this)
  have HF := Lib.hid (show ∀ f, (nmS f L).length ≤ 8192 from fun f => Nat.le_trans (nmS_len f L) hl)
  have HX := Lib.hid hx
  have HW := Lib.hid hw
  obtain ⟨m, hm⟩ : ∃ m, m = xs.length := ⟨_, rfl⟩
  have HM := Lib.hid hm
  rw [← hm] at hxl ⊢
  clear h hL hx hw hm hp
  generalize hll : L.length = l at *
  clear hll
  go_enter Tryz.func13, Tryz.ntmps13
  go_wp2
  go_loopw [21] (fun i wr => ∃ k : Nat, k ≤ m ∧ i = .int .i64 k ∧ Hid (Below X.heap.size X wr)) (fun i _ => m - (intOf i).toNat)
  case atStart => exact ⟨0, Nat.zero_le _, rfl, Lib.hid (Below.refl _ _)⟩
  case round =>
    obtain ⟨k, hk, rfl, HB⟩ := hrel
    by_cases hlt : k < m
    · have hltz : (k : Int) < m := by omega
      obtain ⟨s, hse⟩ : ∃ s, xs[k]? = some s := ⟨_, List.getElem?_eq_getElem (by have := HM.out; omega)⟩
      obtain ⟨bb, off, rfl, h1⟩ := (HX.out.keep HB.out).at hse
      have HWB := Lib.hid (HW.out s (List.mem_of_getElem? hse))
      have n0 := h1.c0
      have n1 := h1.c1
      have n2 := h1.c2
      obtain ⟨W, hW⟩ : ∃ W, W = wr.alloc (.cells (tvs s).toArray 33) := ⟨_, rfl⟩
      have HN1 := Lib.hid (show T1 W wr.heap.size 0 s by rw [hW]; exact T1.new wr s _)
      have HBW := Lib.hid (show Below X.heap.size X W by rw [hW]; exact HB.out.alloc HB.out.size _)
      have HLT := Lib.hid HN1.out.lt
      have HS1 := Lib.hid (fun Y (h : Below X.heap.size X Y) => HRE.out Y s h HWB.out)
      have HS2 := Lib.hid (fun Y (h : Below X.heap.size X Y) => HCO.out Y s h HWB.out)
      have HS3 := Lib.hid (fun Y (h : Below X.heap.size X Y) => HOV.out Y s h HWB.out)
      have HS4 := Lib.hid (fun Y (h : Below X.heap.size X Y) => HUN.out Y s h HWB.out)
      have HS5 := Lib.hid (fun Y (h : Below X.heap.size X Y) => HRC.out Y s.1 s.2.1 h)
      have HS6 := Lib.hid (fun Y (h : Below X.heap.size X Y) => HRO.out Y s h)
      have HS7 := Lib.hid (fun Y (h : Below X.heap.size X Y) => HRV.out Y s h)
      have HI : ∀ f, Hid (∀ X q1 c1 q2 c2, NS X q1 .u32 (nmS f L) → NS X q2 .u32 (nmS f L) → Calls Tryz.prog 23 #[.slice q1 (nmS f L).length c1, .slice q2 (nmS f L).length c2] X fun e w' => e = .returned (.bool true) ∧ Below X.heap.size X w') := fun f => Lib.hid (fun X q1 c1 q2 c2 h1 h2 => by
        refine (sameIDs_any X q1 q2 c1 c2 _ _ h1 h2 (HF.out f)).mono ?_
        rintro e w' ⟨rfl, hb⟩
        exact ⟨by simp, hb⟩)
      have HI1 := HI (coB s.1 s.2.1 way)
      have HI2 := HI (fun q => ovB q s)
      have HI3 := HI (ovB s)
      clear h1 HB HI HRC HRO HRV HRE HCO HOV HUN
      generalize nmS (coB s.1 s.2.1 way) L = Z1 at *
      generalize nmS (fun q => ovB q s) L = Z2 at *
      generalize nmS (ovB s) L = Z3 at *
      have HRU : ∀ Z : List Int, Hid (∀ (Y : World) r, RL Y r Z → ∃ q c, r = .slice q Z.length c ∧ NS Y q .u32 Z) := fun Z => Lib.hid (fun Y r h => by obtain ⟨q, c, h1, h2, -⟩ := h; exact ⟨q, c, h1, h2⟩)
      have HU1 := HRU Z1
      have HU2 := HRU Z2
      have HU3 := HRU Z3
      clear HRU
      generalize hz1 : Z1.length = zl1 at *
      generalize hz2 : Z2.length = zl2 at *
      generalize hz3 : Z3.length = zl3 at *
      clear hz1 hz2 hz3
      obtain ⟨px, py, pi⟩ := s
      unfold tvs at hW
      unfold tv at HS3 HS4 HS6 HS7
      simp only at n0 n1 n2 hW HS1 HS2 HS3 HS4 HS5 HS6 HS7
      have HW1 := Lib.hid hW
      clear hW hse
      have m0 := HN1.out.c0
      have m1 := HN1.out.c1
      have m2 := HN1.out.c2
      simp only [Nat.zero_add] at m0 m1 m2
      go_upto_region 4 with fail
      rw [← HW1.out]
      clear HW1 n0 n1 n2
      have HB := HBW
      go_wp2_with (first
        | (go_at_call 17; (with_reducible refine (HS1.out _ HB.out).mono ?_); rintro e w5 ⟨⟨r, t, rfl, hr, -, -⟩, hb⟩; obtain ⟨q1, c1, rfl, hq⟩ := HU1.out _ _ hr; have HQ1 := Lib.hid hq; clear hr hq; have HN1 := Lib.hid (HN1.out.keep hb HLT.out); have HLT := Lib.hid HN1.out.lt; have m0 := HN1.out.c0; have m1 := HN1.out.c1; have m2 := HN1.out.c2; simp only [Nat.zero_add] at m0 m1 m2; have HB := Lib.hid (HB.out.trans (hb.mono HB.out.size)); clear hb)
        | (go_at_call 18; (with_reducible refine (HS2.out _ HB.out).mono ?_); rintro e w6 ⟨⟨t2, rfl, -⟩, hb⟩; have HQ1 := Lib.hid (HQ1.out.keep hb); have HN1 := Lib.hid (HN1.out.keep hb HLT.out); have HLT := Lib.hid HN1.out.lt; have m0 := HN1.out.c0; have m1 := HN1.out.c1; have m2 := HN1.out.c2; simp only [Nat.zero_add] at m0 m1 m2; have HB := Lib.hid (HB.out.trans (hb.mono HB.out.size)); clear hb)
        | (go_at_call 19; (with_reducible refine (HS3.out _ HB.out).mono ?_); rintro e w7 ⟨⟨r, t3, rfl, hr, -, -⟩, hb⟩; obtain ⟨q2, c2, rfl, hq⟩ := HU2.out _ _ hr; have HQ2 := Lib.hid hq; clear hr hq; have HQ1 := Lib.hid (HQ1.out.keep hb); have HN1 := Lib.hid (HN1.out.keep hb HLT.out); have HLT := Lib.hid HN1.out.lt; have m0 := HN1.out.c0; have m1 := HN1.out.c1; have m2 := HN1.out.c2; simp only [Nat.zero_add] at m0 m1 m2; have HB := Lib.hid (HB.out.trans (hb.mono HB.out.size)); clear hb)
        | (go_at_call 20; (with_reducible refine (HS4.out _ HB.out).mono ?_); rintro e w8 ⟨⟨r, t4, rfl, hr, -, -⟩, hb⟩; obtain ⟨q3, c3, rfl, hq⟩ := HU3.out _ _ hr; have HQ3 := Lib.hid hq; clear hr hq; have HQ1 := Lib.hid (HQ1.out.keep hb); have HQ2 := Lib.hid (HQ2.out.keep hb); have HN1 := Lib.hid (HN1.out.keep hb HLT.out); have HLT := Lib.hid HN1.out.lt; have m0 := HN1.out.c0; have m1 := HN1.out.c1; have m2 := HN1.out.c2; simp only [Nat.zero_add] at m0 m1 m2; have HB := Lib.hid (HB.out.trans (hb.mono HB.out.size)); clear hb)
        | (go_at_call 27; (with_reducible refine (HS5.out _ HB.out).mono ?_); rintro e w9 ⟨r, rfl, hr, hb⟩; obtain ⟨-, q4, c4, rfl, hq, -⟩ := row_u hr; have HQ4 := Lib.hid hq; clear hr hq; have HQ1 := Lib.hid (HQ1.out.keep hb); have HQ2 := Lib.hid (HQ2.out.keep hb); have HQ3 := Lib.hid (HQ3.out.keep hb); have HN1 := Lib.hid (HN1.out.keep hb HLT.out); have HLT := Lib.hid HN1.out.lt; have m0 := HN1.out.c0; have m1 := HN1.out.c1; have m2 := HN1.out.c2; simp only [Nat.zero_add] at m0 m1 m2; have HB := Lib.hid (HB.out.trans (hb.mono HB.out.size)); clear hb)
        | (go_at_call 23; (with_reducible refine (HI1.out _ _ _ _ _ HQ1.out HQ4.out).mono ?_); rintro e w10 ⟨rfl, hb⟩; have HQ2 := Lib.hid (HQ2.out.keep hb); have HQ3 := Lib.hid (HQ3.out.keep hb); have HN1 := Lib.hid (HN1.out.keep hb HLT.out); have HLT := Lib.hid HN1.out.lt; have m0 := HN1.out.c0; have m1 := HN1.out.c1; have m2 := HN1.out.c2; simp only [Nat.zero_add] at m0 m1 m2; have HB := Lib.hid (HB.out.trans (hb.mono HB.out.size)); clear hb)
        | (go_at_call 28; (with_reducible refine (HS6.out _ HB.out).mono ?_); rintro e w11 ⟨r, rfl, hr, hb⟩; obtain ⟨-, q5, c5, rfl, hq, -⟩ := row_u hr; have HQ5 := Lib.hid hq; clear hr hq; have HQ2 := Lib.hid (HQ2.out.keep hb); have HQ3 := Lib.hid (HQ3.out.keep hb); have HN1 := Lib.hid (HN1.out.keep hb HLT.out); have HLT := Lib.hid HN1.out.lt; have m0 := HN1.out.c0; have m1 := HN1.out.c1; have m2 := HN1.out.c2; simp only [Nat.zero_add] at m0 m1 m2; have HB := Lib.hid (HB.out.trans (hb.mono HB.out.size)); clear hb)
        | (go_at_call 23; (with_reducible refine (HI2.out _ _ _ _ _ HQ2.out HQ5.out).mono ?_); rintro e w12 ⟨rfl, hb⟩; have HQ3 := Lib.hid (HQ3.out.keep hb); have HN1 := Lib.hid (HN1.out.keep hb HLT.out); have HLT := Lib.hid HN1.out.lt; have m0 := HN1.out.c0; have m1 := HN1.out.c1; have m2 := HN1.out.c2; simp only [Nat.zero_add] at m0 m1 m2; have HB := Lib.hid (HB.out.trans (hb.mono HB.out.size)); clear hb)
        | (go_at_call 29; (with_reducible refine (HS7.out _ HB.out).mono ?_); rintro e w13 ⟨r, rfl, hr, hb⟩; obtain ⟨-, q6, c6, rfl, hq, -⟩ := row_u hr; have HQ6 := Lib.hid hq; clear hr hq; have HQ3 := Lib.hid (HQ3.out.keep hb); have HN1 := Lib.hid (HN1.out.keep hb HLT.out); have HLT := Lib.hid HN1.out.lt; have m0 := HN1.out.c0; have m1 := HN1.out.c1; have m2 := HN1.out.c2; simp only [Nat.zero_add] at m0 m1 m2; have HB := Lib.hid (HB.out.trans (hb.mono HB.out.size)); clear hb)
        | (go_at_call 23; (with_reducible refine (HI3.out _ _ _ _ _ HQ3.out HQ6.out).mono ?_); rintro e w14 ⟨rfl, hb⟩; have HN1 := Lib.hid (HN1.out.keep hb HLT.out); have HLT := Lib.hid HN1.out.lt; have m0 := HN1.out.c0; have m1 := HN1.out.c1; have m2 := HN1.out.c2; simp only [Nat.zero_add] at m0 m1 m2; have HB := Lib.hid (HB.out.trans (hb.mono HB.out.size)); clear hb))
      go_roundw
      case rel => exact ⟨k + 1, by omega, by go_num, HB⟩
      case measure => simp [intOf]; omega
    · have hltz : ¬ (k : Int) < m := by omega
      go_wp2_with (go_at_call 12; (with_reducible refine (HN.out _ HB.out).mono ?_); rintro e w1 ⟨rfl, hb⟩; have HB1 := Lib.hid (HB.out.trans (hb.mono HB.out.size)); clear hb)
      go_ret
      exact ⟨rfl, HB1.out⟩
end
end Go.Proofs.YtadlobmhnkfnfaaGreat.Co
/-
  The examples of layer 12's statements hold (awake), over any tree that tells corners. No condition but those typed at each theorem.
-/
namespace Go.Proofs.YtadlobmhnkfnfaaGreat.Co
open Go.RowKit
def L0 : List S3 := [(0, 0, 1), (2, 5, 2), (2, 1, 3), (7, 3, 4)]
theorem rg0 : Rg L0 := by decide
theorem wf0 : ∀ s ∈ L0, Wf3 s := by
  intro s hs
  simp [L0] at hs
  rcases hs with rfl | rfl | rfl | rfl <;> exact ⟨rfl, rfl, rfl⟩
/-- sameIDs with a list written beside -/
theorem same_new {X : World} {q : Option Addr} (c : Nat) (t : TypeId) (xs : List Int) (h : NS X q .u32 xs) (hl : xs.length ≤ 8192) :
    Calls Tryz.prog 23 #[.slice q xs.length c, .slice (some ⟨X.heap.size, 0, none⟩) xs.length xs.length] (X.alloc (.cells (xs.map (Value.int .u32)).toArray t)) fun e X' => e = .returned (.bool true) ∧ Below X.heap.size X X' := by
  have hb := (Below.refl _ X).alloc (Nat.le_refl _) (.cells (xs.map (Value.int .u32)).toArray t)
  refine (sameIDs_any _ q (some ⟨X.heap.size, 0, none⟩) c _ xs xs (h.keep hb) ((EB.new .u32 t X xs).eq (List.append_nil xs).symm).ns hl).mono ?_
  rintro e w' ⟨rfl, h2⟩
  exact ⟨by simp, hb.trans (h2.mono (by simp))⟩
section
variable {TS : World → Value → Nat → List Nat → List S3 → Prop} {w1 : World} {v : Value} {n : Nat} {S : List Nat}
theorem rep0 (C : CornC TS) (h : TS w1 v n S L0) (way : Nat) (hw : way ≤ 255) (Z : List Int) (hZ : nmS (coB 2 1 way) L0 = Z) (Y : World) (hb : Below w1.heap.size w1 Y) : Calls Tryz.prog 17 #[v, .int .i64 2, .int .i64 1, .int .u8 way] Y fun e Y' => (∃ q c, ∃ t : Nat, e = .returned (.tuple #[.slice q Z.length c, .int .i64 t]) ∧ NS Y' q .u32 Z) ∧ Below Y.heap.size Y Y' := by
  refine (C.report 2 1 way (C.bel h hb) rfl rfl hw).mono ?_
  rintro e w' ⟨⟨r, t, rfl, ⟨q, c, rfl, hq, -⟩, -, -⟩, hb⟩
  rw [hZ] at hq ⊢
  exact ⟨⟨q, c, t, rfl, hq⟩, hb⟩
theorem ov0 (C : CornC TS) (h : TS w1 v n S L0) (s : S3) (hw : Wf3 s) (Z : List Int) (hZ : nmS (fun q => ovB q s) L0 = Z) (Y : World) (hb : Below w1.heap.size w1 Y) : Calls Tryz.prog 19 #[v, tv s] Y fun e Y' => (∃ q c, ∃ t : Nat, e = .returned (.tuple #[.slice q Z.length c, .int .i64 t]) ∧ NS Y' q .u32 Z) ∧ Below Y.heap.size Y Y' := by
  refine (C.over s (C.bel h hb) hw).mono ?_
  rintro e w' ⟨⟨r, t, rfl, ⟨q, c, rfl, hq, -⟩, -, -⟩, hb⟩
  rw [hZ] at hq ⊢
  exact ⟨⟨q, c, t, rfl, hq⟩, hb⟩
theorem un0 (C : CornC TS) (h : TS w1 v n S L0) (s : S3) (hw : Wf3 s) (Z : List Int) (hZ : nmS (ovB s) L0 = Z) (Y : World) (hb : Below w1.heap.size w1 Y) : Calls Tryz.prog 20 #[v, tv s] Y fun e Y' => (∃ q c, ∃ t : Nat, e = .returned (.tuple #[.slice q Z.length c, .int .i64 t]) ∧ NS Y' q .u32 Z) ∧ Below Y.heap.size Y Y' := by
  refine (C.under s (C.bel h hb) hw).mono ?_
  rintro e w' ⟨⟨r, t, rfl, ⟨q, c, rfl, hq, -⟩, -, -⟩, hb⟩
  rw [hZ] at hq ⊢
  exact ⟨⟨q, c, t, rfl, hq⟩, hb⟩
end
set_option maxRecDepth 100000 in
set_option maxHeartbeats 6400000 in
theorem awake_any {TS : World → Value → Nat → List Nat → List S3 → Prop} (C : CornC TS) (w : World) : Calls Tryz.prog 9 #[] w fun e w' => e = .returned (.bool true) ∧ Below w.heap.size w w' := by
  obtain ⟨W, hW⟩ : ∃ W, W = w.alloc (.cells (flatT L0).toArray 33) := ⟨_, rfl⟩
  have HTS : Hid (Ts W w.heap.size 0 L0) := Lib.hid (by rw [hW]; exact Ts.new w L0 _)
  have HBW : Hid (Below w.heap.size w W) := Lib.hid (by rw [hW]; exact (Below.refl _ w).alloc (Nat.le_refl _) _)
  have HLW : Hid (w.heap.size < W.heap.size) := Lib.hid (by rw [hW]; simp)
  have HBU : Hid (Calls Tryz.prog 10 #[.slice (some ⟨w.heap.size, 0, none⟩) 4 4] W (Built TS W L0)) := Lib.hid (C.build _ (some ⟨w.heap.size, 0, none⟩) 4 L0 (.inr ⟨_, 0, rfl, HTS.out⟩) (by decide) (by decide) (fun h => by cases h) wf0)
  have HW : Hid (w.alloc (.cells #[.int .i64 0, .int .i64 0, .int .u32 1, .int .i64 2, .int .i64 5, .int .u32 2, .int .i64 2, .int .i64 1, .int .u32 3, .int .i64 7, .int .i64 3, .int .u32 4] 33) = W) := Lib.hid hW.symm
  clear hW
  have HE234 := Lib.hid (fun X q c (h : NS X q .u32 [2, 3, 4]) => same_new c 31 [2, 3, 4] h (by decide))
  have HE23 := Lib.hid (fun X q c (h : NS X q .u32 [2, 3]) => same_new c 31 [2, 3] h (by decide))
  have HE24 := Lib.hid (fun X q c (h : NS X q .u32 [2, 4]) => same_new c 31 [2, 4] h (by decide))
  have HE13 := Lib.hid (fun X q c (h : NS X q .u32 [1, 3]) => same_new c 31 [1, 3] h (by decide))
  simp only [List.map_cons, List.map_nil, List.length_cons, List.length_nil, Nat.zero_add, Nat.reduceAdd] at HE234 HE23 HE24 HE13
  go_enter Tryz.func9, Tryz.ntmps9
  go_upto_region 2 with fail
  rw [HW.out]
  clear HW
  go_upto_region 3 with (go_at_call 10; (with_reducible refine HBU.out.mono ?_); rintro e w1 ⟨hb, hor⟩; rcases hor with ⟨-, v, S, rfl, hT, hS⟩ | ⟨hn, -⟩; rotate_left; (exact absurd rg0 hn); have HT := Lib.hid hT; have HB := Lib.hid (HBW.out.trans (hb.mono HBW.out.size)); have HP := Lib.hid (show Below W.heap.size W w1 from hb); clear hb hT hS)
  have HC := Lib.hid (Below.refl w1.heap.size w1)
  have HTS1 := Lib.hid (fun (Y : World) (hb : Below w1.heap.size w1 Y) (i : Nat) (s : S3) (e : L0[i]? = some s) => ((HTS.out i s e).keep HP.out HLW.out).keep hb (Nat.lt_of_lt_of_le HLW.out HP.out.size))
  have HR3 := Lib.hid (rep0 C HT.out 3 (by decide) [2, 3, 4] (by decide))
  have HR2 := Lib.hid (rep0 C HT.out 2 (by decide) [2, 3] (by decide))
  have HR4 := Lib.hid (rep0 C HT.out 4 (by decide) [] (by decide))
  have HO0 := Lib.hid (ov0 C HT.out (0, 0, 1) ⟨rfl, rfl, rfl⟩ [2, 3, 4] (by decide))
  have HO1 := Lib.hid (ov0 C HT.out (2, 5, 2) ⟨rfl, rfl, rfl⟩ [] (by decide))
  have HO2 := Lib.hid (ov0 C HT.out (2, 1, 3) ⟨rfl, rfl, rfl⟩ [2, 4] (by decide))
  have HU3 := Lib.hid (un0 C HT.out (7, 3, 4) ⟨rfl, rfl, rfl⟩ [1, 3] (by decide))
  unfold tv at HO0 HO1 HO2 HU3
  simp only [List.length_cons, List.length_nil, Nat.zero_add, Nat.reduceAdd, Int.cast_ofNat_Int] at HR3 HR2 HR4 HO0 HO1 HO2 HU3
  go_wp2_with (first
    | (go_at_call 17; (with_reducible refine (HR3.out _ HC.out).mono ?_); rintro e w3 ⟨⟨qa, ca, ta, rfl, hq⟩, hb⟩; have HQa := Lib.hid hq; have HC := Lib.hid (HC.out.trans (hb.mono HC.out.size)); clear hb hq)
    | (go_at_call 17; (with_reducible refine (HR2.out _ HC.out).mono ?_); rintro e w4 ⟨⟨qb, cb, tb, rfl, hq⟩, hb⟩; have HQb := Lib.hid hq; have HQa := Lib.hid (HQa.out.keep hb); have HC := Lib.hid (HC.out.trans (hb.mono HC.out.size)); clear hb hq)
    | (go_at_call 17; (with_reducible refine (HR4.out _ HC.out).mono ?_); rintro e w5 ⟨⟨qc, cc, tc, rfl, hq⟩, hb⟩; have HQc := Lib.hid hq; have HQa := Lib.hid (HQa.out.keep hb); have HQb := Lib.hid (HQb.out.keep hb); have HC := Lib.hid (HC.out.trans (hb.mono HC.out.size)); have k0 : w5.cell? ⟨w.heap.size, 0, none⟩ = some (.int .i64 0) := (HTS1.out _ HC.out 0 (0, 0, 1) rfl).c0; have k1 : w5.cell? ⟨w.heap.size, 1, none⟩ = some (.int .i64 0) := (HTS1.out _ HC.out 0 (0, 0, 1) rfl).c1; have k2 : w5.cell? ⟨w.heap.size, 2, none⟩ = some (.int .u32 1) := (HTS1.out _ HC.out 0 (0, 0, 1) rfl).c2; clear hb hq)
    | (go_at_call 19; (with_reducible refine (HO0.out _ HC.out).mono ?_); rintro e w6 ⟨⟨qd, cd, td, rfl, hq⟩, hb⟩; have HQd := Lib.hid hq; have HQa := Lib.hid (HQa.out.keep hb); have HQb := Lib.hid (HQb.out.keep hb); have HQc := Lib.hid (HQc.out.keep hb); have HC := Lib.hid (HC.out.trans (hb.mono HC.out.size)); have k0 : w6.cell? ⟨w.heap.size, 3, none⟩ = some (.int .i64 2) := (HTS1.out _ HC.out 1 (2, 5, 2) rfl).c0; have k1 : w6.cell? ⟨w.heap.size, 4, none⟩ = some (.int .i64 5) := (HTS1.out _ HC.out 1 (2, 5, 2) rfl).c1; have k2 : w6.cell? ⟨w.heap.size, 5, none⟩ = some (.int .u32 2) := (HTS1.out _ HC.out 1 (2, 5, 2) rfl).c2; clear hb hq)
    | (go_at_call 19; (with_reducible refine (HO1.out _ HC.out).mono ?_); rintro e w7 ⟨⟨qe, ce, te, rfl, hq⟩, hb⟩; have HQe := Lib.hid hq; have HQa := Lib.hid (HQa.out.keep hb); have HQb := Lib.hid (HQb.out.keep hb); have HQc := Lib.hid (HQc.out.keep hb); have HQd := Lib.hid (HQd.out.keep hb); have HC := Lib.hid (HC.out.trans (hb.mono HC.out.size)); have k0 : w7.cell? ⟨w.heap.size, 6, none⟩ = some (.int .i64 2) := (HTS1.out _ HC.out 2 (2, 1, 3) rfl).c0; have k1 : w7.cell? ⟨w.heap.size, 7, none⟩ = some (.int .i64 1) := (HTS1.out _ HC.out 2 (2, 1, 3) rfl).c1; have k2 : w7.cell? ⟨w.heap.size, 8, none⟩ = some (.int .u32 3) := (HTS1.out _ HC.out 2 (2, 1, 3) rfl).c2; clear hb hq)
    | (go_at_call 19; (with_reducible refine (HO2.out _ HC.out).mono ?_); rintro e w8 ⟨⟨qf, cf, tf, rfl, hq⟩, hb⟩; have HQf := Lib.hid hq; have HQa := Lib.hid (HQa.out.keep hb); have HQb := Lib.hid (HQb.out.keep hb); have HQc := Lib.hid (HQc.out.keep hb); have HQd := Lib.hid (HQd.out.keep hb); have HQe := Lib.hid (HQe.out.keep hb); have HC := Lib.hid (HC.out.trans (hb.mono HC.out.size)); have k0 : w8.cell? ⟨w.heap.size, 9, none⟩ = some (.int .i64 7) := (HTS1.out _ HC.out 3 (7, 3, 4) rfl).c0; have k1 : w8.cell? ⟨w.heap.size, 10, none⟩ = some (.int .i64 3) := (HTS1.out _ HC.out 3 (7, 3, 4) rfl).c1; have k2 : w8.cell? ⟨w.heap.size, 11, none⟩ = some (.int .u32 4) := (HTS1.out _ HC.out 3 (7, 3, 4) rfl).c2; clear hb hq)
    | (go_at_call 20; (with_reducible refine (HU3.out _ HC.out).mono ?_); rintro e w9 ⟨⟨qg, cg, tg, rfl, hq⟩, hb⟩; have HQg := Lib.hid hq; have HQa := Lib.hid (HQa.out.keep hb); have HQb := Lib.hid (HQb.out.keep hb); have HQc := Lib.hid (HQc.out.keep hb); have HQd := Lib.hid (HQd.out.keep hb); have HQe := Lib.hid (HQe.out.keep hb); have HQf := Lib.hid (HQf.out.keep hb); have HC := Lib.hid (HC.out.trans (hb.mono HC.out.size)); clear hb hq)
    | (go_at_call 23; (with_reducible refine (HE234.out _ _ _ HQa.out).mono ?_); rintro e w10 ⟨rfl, hb⟩; have HQa := Lib.hid (HQa.out.keep hb); have HQb := Lib.hid (HQb.out.keep hb); have HQc := Lib.hid (HQc.out.keep hb); have HQd := Lib.hid (HQd.out.keep hb); have HQe := Lib.hid (HQe.out.keep hb); have HQf := Lib.hid (HQf.out.keep hb); have HQg := Lib.hid (HQg.out.keep hb); have HC := Lib.hid (HC.out.trans (hb.mono HC.out.size)); clear hb)
    | (go_at_call 23; (with_reducible refine (HE23.out _ _ _ HQb.out).mono ?_); rintro e w11 ⟨rfl, hb⟩; have HQa := Lib.hid (HQa.out.keep hb); have HQb := Lib.hid (HQb.out.keep hb); have HQc := Lib.hid (HQc.out.keep hb); have HQd := Lib.hid (HQd.out.keep hb); have HQe := Lib.hid (HQe.out.keep hb); have HQf := Lib.hid (HQf.out.keep hb); have HQg := Lib.hid (HQg.out.keep hb); have HC := Lib.hid (HC.out.trans (hb.mono HC.out.size)); clear hb)
    | (go_at_call 23; (with_reducible refine (HE234.out _ _ _ HQd.out).mono ?_); rintro e w12 ⟨rfl, hb⟩; have HQa := Lib.hid (HQa.out.keep hb); have HQb := Lib.hid (HQb.out.keep hb); have HQc := Lib.hid (HQc.out.keep hb); have HQd := Lib.hid (HQd.out.keep hb); have HQe := Lib.hid (HQe.out.keep hb); have HQf := Lib.hid (HQf.out.keep hb); have HQg := Lib.hid (HQg.out.keep hb); have HC := Lib.hid (HC.out.trans (hb.mono HC.out.size)); clear hb)
    | (go_at_call 23; (with_reducible refine (HE24.out _ _ _ HQf.out).mono ?_); rintro e w13 ⟨rfl, hb⟩; have HQa := Lib.hid (HQa.out.keep hb); have HQb := Lib.hid (HQb.out.keep hb); have HQc := Lib.hid (HQc.out.keep hb); have HQd := Lib.hid (HQd.out.keep hb); have HQe := Lib.hid (HQe.out.keep hb); have HQf := Lib.hid (HQf.out.keep hb); have HQg := Lib.hid (HQg.out.keep hb); have HC := Lib.hid (HC.out.trans (hb.mono HC.out.size)); clear hb)
    | (go_at_call 23; (with_reducible refine (HE13.out _ _ _ HQg.out).mono ?_); rintro e w14 ⟨rfl, hb⟩; have HQa := Lib.hid (HQa.out.keep hb); have HQb := Lib.hid (HQb.out.keep hb); have HQc := Lib.hid (HQc.out.keep hb); have HQd := Lib.hid (HQd.out.keep hb); have HQe := Lib.hid (HQe.out.keep hb); have HQf := Lib.hid (HQf.out.keep hb); have HQg := Lib.hid (HQg.out.keep hb); have HC := Lib.hid (HC.out.trans (hb.mono HC.out.size)); clear hb))
  go_ret
  exact ⟨rfl, HB.out.trans (HC.out.mono HB.out.size)⟩
end Go.Proofs.YtadlobmhnkfnfaaGreat.Co
/-
  The lesser of a number and a few (min, built in), at layer 12. No condition but those typed at each theorem.
-/
namespace Go.Proofs.YtadlobmhnkfnfaaGreat.Co
open Go.RowKit
theorem min8 (X : World) (ty : TypeId) (n : Nat) (k : Int) (hk : k = ((min n 8 : Nat) : Int)) : (Builtin.min_ #[3, 3] ty #[.int .i64 n, .int .i64 8]).run Tryz.prog X = .ok (.int .i64 k) X := by
  subst hk
  by_cases h : n ≤ 8
  · have h2 : ¬ (8 : Int) < n := by omega
    simp [Builtin.min_, Builtin.min2, go_sem, Nat.min_eq_left h, h2]
  · have h2 : (8 : Int) < n := by omega
    simp [Builtin.min_, Builtin.min2, go_sem, Nat.min_eq_right (by omega : 8 ≤ n), h2]
theorem min10 (X : World) (ty : TypeId) (n : Nat) (k : Int) (hk : k = ((min n 10 : Nat) : Int)) : (Builtin.min_ #[3, 3] ty #[.int .i64 n, .int .i64 10]).run Tryz.prog X = .ok (.int .i64 k) X := by
  subst hk
  by_cases h : n ≤ 10
  · have h2 : ¬ (10 : Int) < n := by omega
    simp [Builtin.min_, Builtin.min2, go_sem, Nat.min_eq_left h, h2]
  · have h2 : (10 : Int) < n := by omega
    simp [Builtin.min_, Builtin.min2, go_sem, Nat.min_eq_right (by omega : 10 ≤ n), h2]
end Go.Proofs.YtadlobmhnkfnfaaGreat.Co
/-
  Four corners that have no number in common part the points; plain words. No condition but those typed at each theorem.
-/
namespace Go.Proofs.YtadlobmhnkfnfaaGreat.Co
open Go.RowKit
theorem onB_up (n x : Int) : onB n x true = decide (x ≤ n) := by
  unfold onB
  by_cases h : n = x
  · simp [h]
  · by_cases h2 : x < n
    · rw [decide_eq_false h, decide_eq_true h2, decide_eq_true (by omega : x ≤ n)]
      rfl
    · rw [decide_eq_false h, decide_eq_false h2, decide_eq_false (by omega : ¬ x ≤ n)]
      rfl
theorem onB_down (n x : Int) : onB n x false = decide (n ≤ x) := by
  unfold onB
  by_cases h : n = x
  · simp [h]
  · by_cases h2 : x < n
    · rw [decide_eq_false h, decide_eq_true h2, decide_eq_false (by omega : ¬ n ≤ x)]
      rfl
    · rw [decide_eq_false h, decide_eq_false h2, decide_eq_true (by omega : n ≤ x)]
      rfl
/-- the names that the first k of four corners have -/
def fourN (L : List S3) (x y : Int) : Nat → List Int
  | 0 => []
  | k + 1 => fourN L x y k ++ nmS (coB (x + (k % 2 : Nat)) (y + (k / 2 : Nat)) k) L
theorem four_sub (L : List S3) (x y : Int) : ∀ {j k : Nat}, j ≤ k → (fourN L x y j).Sublist (fourN L x y k) := by
  intro j k h
  induction k with
  | zero =>
    obtain rfl : j = 0 := by omega
    exact List.Sublist.refl _
  | succ k ih =>
    by_cases h2 : j = k + 1
    · rw [h2]
      exact List.Sublist.refl _
    · exact (ih (by omega)).trans (List.sublist_append_left _ _)
theorem co_four (x y : Int) (s : S3) :
    coB (x + (0 % 2 : Nat)) (y + (0 / 2 : Nat)) 0 s = (decide (s.1 ≤ x) && decide (s.2.1 ≤ y)) ∧
    coB (x + (1 % 2 : Nat)) (y + (1 / 2 : Nat)) 1 s = (decide (x + 1 ≤ s.1) && decide (s.2.1 ≤ y)) ∧
    coB (x + (2 % 2 : Nat)) (y + (2 / 2 : Nat)) 2 s = (decide (s.1 ≤ x) && decide (y + 1 ≤ s.2.1)) ∧
    coB (x + (3 % 2 : Nat)) (y + (3 / 2 : Nat)) 3 s = (decide (x + 1 ≤ s.1) && decide (y + 1 ≤ s.2.1)) := by
  refine ⟨?_, ?_, ?_, ?_⟩ <;> simp [coB, onB_up, onB_down]
theorem nmS_two {f g h : S3 → Bool} {L : List S3} (hs : ∀ s ∈ L, h s = (f s || g s) ∧ ¬ (f s = true ∧ g s = true)) {M N : List Int} (hM : M.Perm (nmS f L)) (hN : N.Perm (nmS g L)) : (M ++ N).Perm (nmS h L) := by
  have h1 := (filter_or h f g L hs).map (fun s : S3 => s.2.2)
  rw [List.map_append] at h1
  unfold nmS nmL at hM hN ⊢
  exact ((hM.trans (nsort_perm _)).append (hN.trans (nsort_perm _))).trans (h1.trans (nsort_perm _).symm)
theorem four_all (L : List S3) (x y : Int) : (fourN L x y 4).Perm (nmS (fun _ => true) L) := by
  have c := co_four x y
  have e1 : (fourN L x y 1).Perm (nmS (coB (x + (0 % 2 : Nat)) (y + (0 / 2 : Nat)) 0) L) := List.Perm.refl _
  have e2 : (fourN L x y 2).Perm (nmS (fun s => decide (s.2.1 ≤ y)) L) := nmS_two (fun s _ => by
    rw [(c s).1, (c s).2.1]
    by_cases h1 : s.1 ≤ x <;> by_cases h2 : s.2.1 ≤ y <;> by_cases h3 : x + 1 ≤ s.1 <;> first | omega | simp [h1, h2, h3]) e1 (List.Perm.refl _)
  have e3 : (fourN L x y 3).Perm (nmS (fun s => decide (s.2.1 ≤ y) || decide (s.1 ≤ x)) L) := nmS_two (fun s _ => by
    rw [(c s).2.2.1]
    by_cases h1 : s.1 ≤ x <;> by_cases h2 : s.2.1 ≤ y <;> by_cases h3 : y + 1 ≤ s.2.1 <;> first | omega | simp [h1, h2, h3]) e2 (List.Perm.refl _)
  exact nmS_two (fun s _ => by
    rw [(c s).2.2.2]
    by_cases h1 : s.1 ≤ x <;> by_cases h2 : s.2.1 ≤ y <;> by_cases h3 : y + 1 ≤ s.2.1 <;> by_cases h4 : x + 1 ≤ s.1 <;> first | omega | simp [h1, h2, h3, h4]) e3 (List.Perm.refl _)
theorem four_once {L : List S3} (h : Rg L) (x y : Int) {k : Nat} (hk : k ≤ 4) : (fourN L x y k).Nodup := by
  refine List.Nodup.sublist (four_sub L x y hk) ?_
  rw [(four_all L x y).nodup_iff]
  exact (nmS_rise h _).imp (fun {a b} h e => by omega)
theorem four_len (L : List S3) (x y : Int) {k : Nat} (hk : k ≤ 4) : (fourN L x y k).length ≤ L.length := by
  refine Nat.le_trans (four_sub L x y hk).length_le ?_
  rw [(four_all L x y).length_eq]
  exact nmS_len _ _
theorem four_len4 (L : List S3) (x y : Int) : (fourN L x y 4).length = L.length := by
  rw [(four_all L x y).length_eq]
  unfold nmS nmL
  rw [nsort_len, List.length_map, List.filter_eq_self.2 (fun _ _ => rfl)]
theorem four_mem {L : List S3} {s : S3} (h : s ∈ L) (x y : Int) : s.2.2 ∈ fourN L x y 4 := (four_all L x y).mem_iff.2 (mem_nmS.2 ⟨s, h, rfl, rfl⟩)
theorem nm_wf {L : List S3} (hw : ∀ s ∈ L, Wf3 s) {f : S3 → Bool} {n : Int} (h : n ∈ nmS f L) : (Lit.int .u32 n).wf = true := by
  obtain ⟨s, hs, -, rfl⟩ := mem_nmS.1 h
  exact (hw s hs).2.2
/-- numbers do not lie in a map's block -/
theorem cell_map {w : World} {b : Nat} {es : Array MapEntry} {clock : Nat} (hm : w.heap[b]? = some (.map es clock)) {a : Addr} {v : Value} (h : w.cell? a = some v) : a.block ≠ b := by
  rintro rfl
  unfold World.cell? at h
  rw [hm] at h
  cases h
theorem ns_mapped {P : Program} {k : TypeId} {w w' : World} {b : Nat} {M : List (Int × Value)} (hm : MP P k w b M) {q : Option Addr} {xs : List Int} (h : NS w q .u32 xs) (g : Off [b] w w') : NS w' q .u32 xs := by
  obtain ⟨es, cl, hb, -⟩ := hm
  rcases h with h | ⟨b2, off, rfl, h⟩
  · exact .inl h
  · refine .inr ⟨b2, off, rfl, fun j x e => ?_⟩
    have hc := h j x e
    have hne := cell_map hb hc
    exact (World.cell?_of_block (a := ⟨b2, off + j, none⟩) (g.block b2 (World.block_lt_of_cell? w _ hc) (by simpa using hne))).trans hc
end Go.Proofs.YtadlobmhnkfnfaaGreat.Co
