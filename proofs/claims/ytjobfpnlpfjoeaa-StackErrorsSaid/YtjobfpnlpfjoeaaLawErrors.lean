/-
  StackErrors: of nodes that are not right each walk is ErrPool, of a place that is none ErrArg; nothing is told beside; else what is told lies apart, for any nodes, any place, any range. No condition.
-/
import Derived.Test.YtjobfpnlpfjoeaaLawTells
import Derived.Test.YtjobfpnlpfjoeaaApartN
namespace Go.Proofs.Ytjobfpnlpfjoeaa
open Go.ChangeShapes Go.WideShapes Go.ChangeAt Go.RowKit Go.Joins

theorem row_shape {w : World} {base n : Nat} {v : Value} {xs : List Value} (h : w.ownsRow base 3 1 v n xs) : ∃ (p : Option Addr) (A c : Nat), v = .slice p n c ∧ n ≤ c ∧ c ≤ maxLen ∧ (0 < c → p = some ⟨A, 0, none⟩ ∧ v.ownBlock = some A ∧ base ≤ A ∧ ∃ L, EV 3 w A L ∧ L.length = c) := by
  obtain ⟨h1, h2⟩ := h
  rcases h2 with ⟨rfl, h2⟩ | ⟨g, cap, cur, hv, hb, hg, hnc, hcm, hcs, htk⟩
  · exact ⟨none, 0, 0, by rw [h2], by omega, Nat.zero_le _, fun h => by omega⟩
  · exact ⟨_, g, cap, hv, hnc, hcm, fun _ => ⟨rfl, by rw [hv]; rfl, hb, cur.toList, by simpa [EV] using hg, by simpa using hcs⟩⟩

theorem apart_two (w : World) (v1 v2 : Value) (b1 n1 b2 n2 : Nat) (xs1 xs2 : List Value) (h1 : w.ownsRow b1 3 1 v1 n1 xs1) (h2 : w.ownsRow b2 3 1 v2 n2 xs2) (hd : ∀ q, v1.ownBlock = some q → v2.ownBlock ≠ some q) :
    Calls Try.prog 21 #[.slice (some ⟨w.heap.size, 0, none⟩) 2 2] (w.alloc (.cells #[v1, v2] 25)) fun e w' => e = .returned (.bool true) ∧ Off (v1.ownBlock.toList ++ v2.ownBlock.toList) w w' := by
  have hmx : maxLen = 9223372036854775807 := rfl
  have l1 := fun k hk => (h1.lt k hk).2
  have l2 := fun k hk => (h2.lt k hk).2
  obtain ⟨p1, A1, c1, rfl, e1, m1, k1⟩ := row_shape h1
  obtain ⟨p2, A2, c2, rfl, e2, m2, k2⟩ := row_shape h2
  obtain ⟨B1, hB1⟩ : ∃ B, B = if c1 = 0 then 0 else A1 := ⟨_, rfl⟩
  obtain ⟨B2, hB2⟩ : ∃ B, B = if c2 = 0 then 1 else A2 := ⟨_, rfl⟩
  have hP1 : 0 < c1 → B1 = A1 := fun h => by rw [hB1, if_neg (by omega)]
  have hP2 : 0 < c2 → B2 = A2 := fun h => by rw [hB2, if_neg (by omega)]
  have hown : ∀ A, A ∈ bo [(B1, c1), (B2, c2)] → A ∈ (Value.slice p1 n1 c1).ownBlock.toList ++ (Value.slice p2 n2 c2).ownBlock.toList := by
    intro A hA
    obtain ⟨c, hm, hc⟩ := bo_mem hA
    simp at hm
    rcases hm with ⟨rfl, rfl⟩ | ⟨rfl, rfl⟩
    · rw [hP1 hc, (k1 hc).2.1]
      simp
    · rw [hP2 hc, (k2 hc).2.1]
      simp
  refine (apart_anyN (fun k => if k = 0 then p1 else p2) (w.alloc (.cells #[.slice p1 n1 c1, .slice p2 n2 c2] 25)) w.heap.size [(B1, c1), (B2, c2)] [(B1, n1, c1), (B2, n2, c2)] ?_ rfl ?_ ?_ ?_ (by simp) ?_).mono ?_
  · intro i j a b ei ej ha hb hab
    match i, j with
    | 0, 0 => rfl
    | 1, 1 => rfl
    | 0, 1 =>
      cases ei
      cases ej
      simp only at ha hb hab
      rw [hP1 ha, hP2 hb] at hab
      exact absurd (by rw [(k2 hb).2.1, hab]) (hd A1 (k1 ha).2.1)
    | 1, 0 =>
      cases ei
      cases ej
      simp only at ha hb hab
      rw [hP1 hb, hP2 ha] at hab
      exact absurd (by rw [(k2 ha).2.1, hab]) (hd A1 (k1 hb).2.1)
    | i + 2, _ => simp at ei
    | 0, j + 2 => simp at ej
    | 1, j + 2 => simp at ej
  · intro j b l ej el
    match j with
    | 0 =>
      cases ej
      cases el
      refine ⟨rfl, rfl, e1, (World.cell?_alloc_new (w := w) _ _ 0).trans ?_⟩
      by_cases h : c1 = 0
      · subst h
        obtain rfl : n1 = 0 := by omega
        simp [hB1]
      · rw [(k1 (by omega)).1, hP1 (by omega)]
        simp [h]
    | 1 =>
      cases ej
      cases el
      refine ⟨rfl, rfl, e2, (World.cell?_alloc_new (w := w) _ _ 1).trans ?_⟩
      by_cases h : c2 = 0
      · subst h
        obtain rfl : n2 = 0 := by omega
        simp [hB2]
      · rw [(k2 (by omega)).1, hP2 (by omega)]
        simp [h]
    | j + 2 => simp at ej
  · intro hS
    have := hown _ hS
    simp only [List.mem_append, Option.mem_toList] at this
    rcases this with h | h
    · have := l1 _ h
      omega
    · have := l2 _ h
      omega
  · intro j b ej hp
    match j with
    | 0 =>
      cases ej
      obtain ⟨-, -, -, L, hE, hl⟩ := k1 hp
      exact ⟨L, hl, by simp only; rw [hP1 hp]; exact hE.all _, fun h => by omega⟩
    | 1 =>
      cases ej
      obtain ⟨-, -, -, L, hE, hl⟩ := k2 hp
      exact ⟨L, hl, by simp only; rw [hP2 hp]; exact hE.all _, fun h => by omega⟩
    | j + 2 => simp at ej
  · intro b hb
    simp at hb
    rcases hb with rfl | rfl <;> simp <;> omega
  · rintro e w' ⟨rfl, hO⟩
    exact ⟨rfl, ((Off.refl _ w).all _).trans (hO.mono (fun k _ hk => hown k hk))⟩
theorem en_pos' {N : List Nd} (P : Nd → Bool) {i : Int} (h0 : 0 ≤ i) (hi : i < N.length) : 0 < (en N P i).length := List.length_pos_iff.2 (en_pos P h0 hi)
theorem en_le {N : List Nd} (hR : Rt N) (P : Nd → Bool) {i : Int} (h0 : 0 ≤ i) (hi : i < N.length) : (en N P i).length ≤ (en N (fun _ => true) i).length := by
  have h1 := (en_below hR P i.toNat i (Nat.le_refl _) h0 hi).length_le
  have h2 : ∀ (m : Nat) (i : Int), i.toNat ≤ m → 0 ≤ i → i < N.length → (en N (fun _ => true) i).length = ((below N i.toNat).map Int.ofNat).length := by
    intro m
    induction m with
    | zero =>
      intro i h1 h0 h2
      have e : N[i.toNat]? = some (N[i.toNat]'(by omega)) := List.getElem?_eq_getElem _
      have hk : ksL (N[i.toNat]'(by omega)) = [] := by
        cases hk : ksL (N[i.toNat]'(by omega)) with
        | nil => rfl
        | cons x xs =>
          have := hR.kid e (x := x) (by rw [hk]; simp)
          omega
      rw [en_at hR _ e, if_pos rfl, below_kids hR e, hk]
      simp
    | succ m ih =>
      intro i h1 h0 h2
      have e : N[i.toNat]? = some (N[i.toNat]'(by omega)) := List.getElem?_eq_getElem _
      rw [en_at hR _ e, if_pos rfl, below_kids hR e, List.map_cons, List.length_cons, List.length_cons]
      congr 1
      have hk : ∀ x ∈ ksL (N[i.toNat]'(by omega)), 0 ≤ x ∧ x < i.toNat := fun x hx => hR.kid e hx
      generalize ksL (N[i.toNat]'(by omega)) = ks at hk
      induction ks with
      | nil => rfl
      | cons x ks ihk =>
        rw [List.flatMap_cons, List.flatMap_cons, List.map_append, List.length_append, List.length_append, ihk (fun y hy => hk y (List.mem_cons_of_mem _ hy)), ih x (by have := hk x List.mem_cons_self; omega) (hk x List.mem_cons_self).1 (by have := hk x List.mem_cons_self; omega)]
  rw [h2 i.toNat i (Nat.le_refl _) h0 hi]
  exact h1

set_option maxRecDepth 100000 in
set_option maxHeartbeats 6400000 in
theorem errors_walk (w : World) (p : Option Addr) (c : Nat) (N : List Nd) (r a b : Int) (hx : NdS w p N) :
    Calls Try.prog 7 #[.slice p N.length c, .int .i64 r, .int .i64 a, .int .i64 b] w fun e w' => e = .returned (.bool true) ∧ Below w.heap.size w w' := by
  have HAW := Lib.hid awake_any
  by_cases hbig : N.length ≤ 200
  · have hbz : ¬ (200 : Int) < N.length := by omega
    have hl : N.length ≤ 8192 := by omega
    have HA := Lib.hid (All_any w p c N r hx hl)
    have HL := Lib.hid (fun X (hX : Below w.heap.size w X) => Leaves_any X p c N r a b (hx.keep hX) hl)
    have HR := Lib.hid (fun X (hX : Below w.heap.size w X) => Right_any X p c N (hx.keep hX) hl)
    by_cases hk : chk N r = 0
    · obtain ⟨hR, h0, h1⟩ := chk_ok hk
      have hrz : ¬ r < 0 := by omega
      have hrz2 : ¬ (N.length : Int) ≤ r := by omega
      have ha : 0 < (allR N r).length := by rw [allR, if_pos hk]; exact en_pos' _ h0 h1
      have hb1 : 0 < (ranR N a b r).length := by rw [ranR, if_pos hk]; exact en_pos' _ h0 h1
      have hb2 : (ranR N a b r).length ≤ (allR N r).length := by rw [allR, ranR, if_pos hk, if_pos hk]; exact en_le hR _ h0 h1
      rw [hk] at HA HL
      rw [(rtB_iff N).2 hR] at HR
      have hla := allR_len (N := N) (r := r)
      have hlb := Nat.le_trans (tls_len N a b (ranR N a b r)) (ranR_len (N := N) (a := a) (b := b) (r := r))
      clear hx hl hk hR h0 h1
      generalize tls N a b (ranR N a b r) = L2 at *
      generalize (ranR N a b r).length = m2 at *
      generalize allR N r = L1 at *
      generalize N.length = d at *
      obtain ⟨m1, hm1⟩ : ∃ m1, m1 = L1.length := ⟨_, rfl⟩
      obtain ⟨m3, hm3⟩ : ∃ m3, m3 = L2.length := ⟨_, rfl⟩
      have HTA : Hid (∀ (X : World) b0 v, X.ownsRow b0 3 1 v L1.length (L1.map (Value.int .i64)) → ∃ q cq, v = .slice q m1 cq) := Lib.hid (fun X b0 v h => by
        obtain ⟨q, cq, e, h2⟩ := row_ints h
        rw [← hm1] at e
        exact ⟨q, cq, e⟩)
      have HTB : Hid (∀ (X : World) b0 v, X.ownsRow b0 3 1 v L2.length (L2.map (Value.int .i64)) → ∃ q cq, v = .slice q m3 cq) := Lib.hid (fun X b0 v h => by
        obtain ⟨q, cq, e, h2⟩ := row_ints h
        rw [← hm3] at e
        exact ⟨q, cq, e⟩)
      rw [← hm1] at ha hb2 hla
      rw [← hm3] at hlb
      have haz : (0 : Int) < m1 := by omega
      have hbz1 : (0 : Int) < m2 := by omega
      have hbz2 : (m2 : Int) ≤ m1 := by omega
      clear hm1 hm3
      go_enter Try.func7, Try.ntmps7
      go_wp2_with (first
        | (go_at_call 10; (with_reducible refine HA.out.mono ?_); rintro e w1 ⟨v, rfl, hr, hb⟩; obtain ⟨q1, c1, rfl⟩ := HTA.out w1 _ v hr; have HR1 := Lib.hid hr; have HB1 := Lib.hid hb; clear hr hb)
        | (go_at_call 13; (with_reducible refine (HL.out _ HB1.out).mono ?_); rintro e w2 ⟨v, rfl, hr, hb⟩; obtain ⟨q2, c2, rfl⟩ := HTB.out w2 _ v hr; have HR2 := Lib.hid hr; have HD := Lib.hid (show ∀ q, (Value.slice q1 m1 c1).ownBlock = some q → (Value.slice q2 m3 c2).ownBlock ≠ some q from fun q e1 e2 => by have h1 := (HR2.out.lt q e2).1; have h2 := (HR1.out.lt q e1).2; omega); have HR1 := Lib.hid (row_at (base' := w.heap.size) HR1.out (fun k e => ⟨hb.block k (HR1.out.lt k e).2, (HR1.out.lt k e).1⟩)); have HB2 := Lib.hid (HB1.out.trans (hb.mono HB1.out.size)); clear hr hb)
        | (go_at_call 16; (with_reducible refine (HR.out _ HB2.out).mono ?_); rintro e w3 ⟨rfl, hb⟩; have HR1 := Lib.hid (row_at (base' := w.heap.size) HR1.out (fun k e => ⟨hb.block k (HR1.out.lt k e).2, (HR1.out.lt k e).1⟩)); have HR2 := Lib.hid (row_at (base' := w.heap.size) HR2.out (fun k e => ⟨hb.block k (HR2.out.lt k e).2, Nat.le_trans HB1.out.size (HR2.out.lt k e).1⟩)); have HB3 := Lib.hid (HB2.out.trans (hb.mono HB2.out.size)); clear hb)
        | (go_at_call 21; (with_reducible refine (apart_two w3 _ _ _ _ _ _ _ _ HR1.out HR2.out HD.out).mono ?_); rintro e w4 ⟨rfl, hO⟩; have HB4 := Lib.hid (HB3.out.trans (hO.below (N := w.heap.size) HB3.out.size (fun k hk => by simp only [List.mem_append, Option.mem_toList] at hk; exact hk.elim (fun h => (HR1.out.lt k h).1) (fun h => (HR2.out.lt k h).1)))); clear hO)
        | (go_at_call 8; (with_reducible refine (HAW.out _).mono ?_); rintro e w9 ⟨rfl, hb⟩; have HB9 := Lib.hid (HB4.out.trans (hb.mono HB4.out.size)); clear hb))
      go_ret
      exact ⟨rfl, HB9.out⟩
    · have hL1 : allR N r = [] := by rw [allR, if_neg hk]
      have hL2 : ranR N a b r = [] := by rw [ranR, if_neg hk]
      rw [hL1] at HA
      rw [hL2] at HL
      have htn : tls N a b [] = [] := rfl
      rw [htn] at HL
      have HTA : Hid (∀ (X : World) b0 v, X.ownsRow b0 3 1 v ([] : List Int).length (([] : List Int).map (Value.int .i64)) → ∃ q cq, v = .slice q 0 cq) := Lib.hid (fun X b0 v h => by
        obtain ⟨q, cq, e, h2⟩ := row_ints h
        exact ⟨q, cq, e⟩)
      by_cases hR : rtB N = true
      · have hr2 : r < 0 ∨ (0 ≤ r ∧ (N.length : Int) ≤ r) := by
          by_cases h1 : r < 0
          · exact .inl h1
          · refine .inr ⟨by omega, ?_⟩
            by_cases h2 : (N.length : Int) ≤ r
            · exact h2
            · exact absurd (by unfold chk; rw [if_pos hR, if_neg (by omega)]) hk
        have hc2 : chk N r = 2 := by unfold chk; rw [if_pos hR, if_pos (by omega)]
        rw [hc2] at HA HL
        rw [hR] at HR
        clear hx hl hk hR hL1 hL2 htn hc2
        generalize N.length = d at *
        rcases hr2 with h1 | ⟨h1, h2⟩
        all_goals (
          go_enter Try.func7, Try.ntmps7
          go_wp2_with (first
            | (go_at_call 10; (with_reducible refine HA.out.mono ?_); rintro e w1 ⟨v, rfl, hr, hb⟩; obtain ⟨q1, c1, rfl⟩ := HTA.out w1 _ v hr; have HB1 := Lib.hid hb; clear hr hb)
            | (go_at_call 13; (with_reducible refine (HL.out _ HB1.out).mono ?_); rintro e w2 ⟨v, rfl, hr, hb⟩; obtain ⟨q2, c2, rfl⟩ := HTA.out w2 _ v hr; have HB2 := Lib.hid (HB1.out.trans (hb.mono HB1.out.size)); clear hr hb)
            | (go_at_call 16; (with_reducible refine (HR.out _ HB2.out).mono ?_); rintro e w3 ⟨rfl, hb⟩; have HB3 := Lib.hid (HB2.out.trans (hb.mono HB2.out.size)); clear hb)
            | (go_at_call 8; (with_reducible refine (HAW.out _).mono ?_); rintro e w9 ⟨rfl, hb⟩; have HB9 := Lib.hid (HB3.out.trans (hb.mono HB3.out.size)); clear hb))
          go_ret
          exact ⟨rfl, HB9.out⟩)
      · have hR' : rtB N = false := by simpa using hR
        have hc2 : chk N r = 50 := by unfold chk; rw [if_neg hR]
        rw [hc2] at HA HL
        rw [hR'] at HR
        clear hx hl hk hR hR' hL1 hL2 htn hc2
        generalize N.length = d at *
        go_enter Try.func7, Try.ntmps7
        go_wp2_with (first
          | (go_at_call 10; (with_reducible refine HA.out.mono ?_); rintro e w1 ⟨v, rfl, hr, hb⟩; obtain ⟨q1, c1, rfl⟩ := HTA.out w1 _ v hr; have HB1 := Lib.hid hb; clear hr hb)
          | (go_at_call 13; (with_reducible refine (HL.out _ HB1.out).mono ?_); rintro e w2 ⟨v, rfl, hr, hb⟩; obtain ⟨q2, c2, rfl⟩ := HTA.out w2 _ v hr; have HB2 := Lib.hid (HB1.out.trans (hb.mono HB1.out.size)); clear hr hb)
          | (go_at_call 16; (with_reducible refine (HR.out _ HB2.out).mono ?_); rintro e w3 ⟨rfl, hb⟩; have HB3 := Lib.hid (HB2.out.trans (hb.mono HB2.out.size)); clear hb)
          | (go_at_call 8; (with_reducible refine (HAW.out _).mono ?_); rintro e w9 ⟨rfl, hb⟩; have HB9 := Lib.hid (HB3.out.trans (hb.mono HB3.out.size)); clear hb))
        go_ret
        exact ⟨rfl, HB9.out⟩
  · have hbz : (200 : Int) < N.length := by omega
    clear hx
    generalize N.length = d at *
    go_enter Try.func7, Try.ntmps7
    go_wp2_with (go_at_call 8; (with_reducible refine (HAW.out _).mono ?_); rintro e w9 ⟨rfl, hb⟩; have HB := Lib.hid hb; clear hb)
    go_ret
    exact ⟨rfl, HB.out⟩

/- the row -/
set_option maxRecDepth 100000 in
theorem errorslaw_lifted (os : Os) (started : os.Started) (H : Type) (enc : TypeId × Value → H) :
    ReturnsInHanded {} Try.checked os 7 .any (Rows.stackErrorsSpec.pre6 enc Try.prog Try.f7 Rows.stackErrorsRow.domain false) (Rows.stackErrorsSpec.post enc Try.prog Try.f7 false true false false) := by
  refine returnsInHanded_of_change (C := Try.checked) Try.own started (by kernel_rfl) Try.func7
    (ChangeSpec.witness6 (enc := enc) (C := Try.checked) false ⟨#[], #[.slice none 0 0, .int .i64 0, .int .i64 0, .int .i64 0], []⟩ 8 (by kernel_rfl) (by kernel_rfl) (by kernel_rfl) (by kernel_rfl)) ?_
  intro W base args ds gs before hval0 hW hcnd _
  have hval : ∀ (j : Nat) t v, Try.f7.params[j]? = some t → args[j]? = some v → Value.okWide Try.prog W .any base t v := hval0
  have hW' := hW
  obtain ⟨p, q, hA0, hV, rfl, hfz, hnd⟩ := hW
  have hA : DataW.TrodAll enc Try.prog W 0 (fun _ => true) true Try.f7.params.toList args.toList ds p := hA0
  rw [Try.params7] at hA hval
  obtain ⟨v0, vs0, d0, ds0, p0, q0, hargs, rfl, rfl, h0, r0⟩ := trodAll_cons hA
  obtain ⟨v1, vs1, d1, ds1, p1, q1, rfl, rfl, rfl, h1, r1⟩ := trodAll_cons r0
  obtain ⟨v2, vs2, d2, ds2, p2, q2, rfl, rfl, rfl, h2, r2⟩ := trodAll_cons r1
  obtain ⟨v3, vs3, d3, ds3, p3, q3, rfl, rfl, rfl, h3, r3⟩ := trodAll_cons r2
  obtain ⟨rfl, rfl, rfl⟩ := trodAll_nil r3
  obtain rfl : args = #[v0, v1, v2, v3] := by cases args; simp_all
  obtain ⟨rfl, rfl⟩ := trodVars_none hV
  obtain ⟨a0, len0, cap0, rfl⟩ := okWide_slice Try.underlying22 (hval 0 22 v0 rfl rfl)
  obtain ⟨xs0, rfl, hx0, hp0⟩ := open_nodes h0
  obtain ⟨a1, rfl, rfl, rfl, w1⟩ := open_int Try.underlying3 (hval 1 3 v1 rfl rfl) h1
  obtain ⟨a2, rfl, rfl, rfl, w2⟩ := open_int Try.underlying3 (hval 2 3 v2 rfl rfl) h2
  obtain ⟨a3, rfl, rfl, rfl, w3⟩ := open_int Try.underlying3 (hval 3 3 v3 rfl rfl) h3
  clear hA0 hval0
  simp only [List.append_nil] at hW'
  have hlt : ∀ x ∈ p0, x.block < W.heap.size := fun x hx => by simpa using hW'.lt x (by simpa using hx)
  refine (errors_walk W _ _ _ _ _ _ hx0).mono fun e W' ⟨he, hb⟩ => ?_
  subst he
  have hR : DataW.TrodAll enc Try.prog W' 0 (fun b => decide (b < W.heap.size)) true _ _ _ _ := (trodAll_cons_mk (Below.trod Try.laidOut (by kernel_rfl) (of_decide_eq_true (by kernel_rfl)) h0 hb (fun x hx => hlt x (by simp [hx]))) (trodAll_cons_mk (shut_int Try.underlying3 w1) (trodAll_cons_mk (shut_int Try.underlying3 w2) (trodAll_cons_mk (shut_int Try.underlying3 w3) trodAll_mk0))))
  simp only [List.append_nil] at hR
  exact ⟨_, rfl, law_post hW' (trodAll_cons_mk (shut_bool Try.underlying4 _) trodAll_mk0) hR rfl hb⟩

theorem errorslaw_holds : Rows.StackErrorsSaid :=
  OpenClaim.holds_of_wide 7 Try.f7 rfl rfl rfl rfl rfl rfl rfl ⟨rfl, rfl, rfl, rfl, rfl⟩ rfl rfl rfl rfl rfl (by kernel_rfl) Try.func7 (by kernel_rfl)
    (of_decide_eq_true (by kernel_rfl)) (by unfold Func.isWrapper; first | (rw [if_pos (by decide +kernel)]; kernel_rfl) | (rw [if_neg (by decide +kernel)]; exact ⟨rfl, rfl⟩))
    (fun os started H enc _ => errorslaw_lifted os started H enc)
end Go.Proofs.Ytjobfpnlpfjoeaa
