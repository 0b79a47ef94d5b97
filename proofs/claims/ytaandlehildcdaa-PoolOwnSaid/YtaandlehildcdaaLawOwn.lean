/-
  PoolOwn: what is told of a pool is in memory of its own: written over it changes nothing. For every list of nodes; no condition.
-/
import Derived.Test.YtaandlehildcdaaApart0
namespace Go.Proofs.Ytaandlehildcdaa
open Go.ChangeShapes Go.WideShapes Go.ChangeAt Go.RowKit Go.Joins

theorem own_apart (w : World) (g3 c3 g6 c6 r : Nat) (L3 L6 : List Value) (h3 : EV 3 w g3 L3) (hl3 : L3.length = c3) (h6 : EV 3 w g6 L6) (hl6 : L6.length = c6) (hne : g3 ≠ g6) (hr3 : r ≤ c3) (hr6 : r ≤ c6) (hm3 : c3 ≤ maxLen) (hm6 : c6 ≤ maxLen) :
    Calls Try.prog 29 #[.slice (some ⟨w.heap.size, 0, none⟩) 2 2] (w.alloc (.cells #[.slice (some ⟨g3, 0, none⟩) r c3, .slice (some ⟨g6, 0, none⟩) r c6] 43)) fun e w' => e = .returned (.bool true) ∧ Off [g3, g6] w w' := by
  have hmx : maxLen = 9223372036854775807 := rfl
  have l3 := h3.lt
  have l6 := h6.lt
  refine (apart_any (w.alloc (.cells #[.slice (some ⟨g3, 0, none⟩) r c3, .slice (some ⟨g6, 0, none⟩) r c6] 43)) w.heap.size [(g3, c3), (g6, c6)] [(g3, r, c3), (g6, r, c6)] (by simp [hne]) rfl ?_ (by simp; omega) ?_ (by simp) ?_).mono ?_
  · intro j b l e1 e2
    match j with
    | 0 => cases e1; cases e2; exact ⟨rfl, rfl, hr3, (World.cell?_alloc_new (w := w) _ _ 0).trans rfl⟩
    | 1 => cases e1; cases e2; exact ⟨rfl, rfl, hr6, (World.cell?_alloc_new (w := w) _ _ 1).trans rfl⟩
    | j + 2 => simp at e1
  · intro j b e1
    match j with
    | 0 => cases e1; exact ⟨L3, hl3, h3.all _, fun h => by omega⟩
    | 1 => cases e1; exact ⟨L6, hl6, h6.all _, fun h => by omega⟩
    | j + 2 => simp at e1
  · intro b hb
    simp at hb
    rcases hb with rfl | rfl <;> simp <;> omega
  · rintro e w' ⟨rfl, hO⟩
    exact ⟨rfl, ((Off.refl _ w).all _).trans hO⟩
theorem roots_pos {N : List Nd} (hR : Rt N) (h : N ≠ []) : 0 < (rootsI N).length := by
  have h0 : 0 < N.length := List.length_pos_iff.2 h
  have h1 : N.length - 1 ∈ rootsL N := by
    rw [mem_rootsL]
    refine ⟨by omega, ?_⟩
    unfold kidB
    rw [List.any_eq_false]
    intro n hn
    obtain ⟨j, hj⟩ := List.mem_iff_getElem?.1 hn
    rw [hasKid_mem (by omega)]
    intro hx
    have := hR.kid hj hx
    have := (List.getElem?_eq_some_iff.1 hj).1
    omega
  unfold rootsI
  rw [List.length_map]
  exact List.length_pos_of_mem h1
theorem NS.off {w w' : World} {p : Option Addr} {k : IntKind} {xs : List Int} {S : List Nat} (h : NS w p k xs) (g : Off S w w') (hS : ∀ b off, p = some ⟨b, off, none⟩ → xs ≠ [] → b ∉ S) : NS w' p k xs := by
  by_cases h0 : xs = []
  · exact .inl h0
  rcases h with h | ⟨b, off, rfl, h⟩
  · exact .inl h
  · exact .inr ⟨b, off, rfl, fun j x e => g.cell (h j x e) (hS b off rfl h0)⟩
theorem NS.lt {w : World} {k : IntKind} {xs : List Int} {b off : Nat} (h : NS w (some ⟨b, off, none⟩) k xs) (h0 : xs ≠ []) : b < w.heap.size := by
  rcases h with h | ⟨b2, off2, e, h⟩
  · exact absurd h h0
  · cases e
    cases xs with
    | nil => exact absurd rfl h0
    | cons x xs => exact World.block_lt_of_cell? w _ (h 0 x rfl)
/-- the pool holds what could be put of the first so many -/
def OS (w X : World) (P k : Nat) : Prop := ∃ N, PK w X P 100 N ∧ N.length ≤ k

set_option maxRecDepth 100000 in
set_option maxHeartbeats 6400000 in
theorem own_walk (p : Option Addr) (cap : Nat) (ns : List Nd) (w : World) (hx : NdS w p ns) :
    Calls Try.prog 8 #[.slice p ns.length cap] w fun e w' => e = .returned (.bool true) ∧ Below w.heap.size w w' := by
  have HX := Lib.hid hx
  have HNEW := Lib.hid (New_pk w w 100 (Below.refl _ _) (by decide))
  obtain ⟨m, hm⟩ : ∃ m, m = ns.length := ⟨_, rfl⟩
  have HM := Lib.hid hm
  rw [← hm]
  clear hx hm
  go_enter Try.func8, Try.ntmps8
  go_wp2_with (go_at_call 16; (with_reducible refine HNEW.out.mono ?_); rintro e w1 ⟨rfl, hP⟩; have HS := Lib.hid (show OS w w1 w.heap.size 0 from ⟨[], hP, Nat.le_refl _⟩); clear hP)
  go_loopw [5] (fun i wr => ∃ k : Nat, k ≤ m ∧ k ≤ 100 ∧ i = .int .i64 k ∧ Hid (OS w wr w.heap.size k)) (fun i _ => m - (intOf i).toNat)
  case atStart => exact ⟨0, Nat.zero_le _, Nat.zero_le _, rfl, HS⟩
  case round =>
    clear HS HNEW
    obtain ⟨k, hk, hk2, rfl, HS⟩ := hrel
    by_cases hgo : k < m ∧ k < 100
    · obtain ⟨hlt, hlt2⟩ := hgo
      have hltz : (k : Int) < m := by omega
      have hltz2 : (k : Int) < 100 := by omega
      obtain ⟨n, hne⟩ : ∃ n, ns[k]? = some n := ⟨_, List.getElem?_eq_getElem (by have := HM.out; omega)⟩
      obtain ⟨b, off, rfl, h1⟩ := HX.out.at hne
      obtain ⟨N, hP, hN⟩ := HS.out
      have h2 := h1.keep hP.below h1.lt
      have n0 := h2.c0
      have n1 := h2.c1
      have n2 := h2.c2
      have n3 := h2.c3
      have n4 := h2.c4
      have n5 := h2.c5
      have n6 := h2.c6
      have hC := hP.put n (by omega)
      have hlen := put_len N 100 n
      have HC := Lib.hid hC
      have HLEN := Lib.hid (show (putN N 100 n).1.length ≤ k + 1 by omega)
      obtain ⟨pn, hpn⟩ : ∃ pn, pn = putN N 100 n := ⟨_, rfl⟩
      rw [← hpn] at HC HLEN
      clear h1 h2 hne hP hN hC hlen HS hpn
      obtain ⟨N', at', e'⟩ := pn
      obtain ⟨kk, L, R, g, t, a, q⟩ := n
      simp only at n0 n1 n2 n3 n4 n5 n6
      unfold nv told at HC
      dsimp only at HC HLEN
      go_wp2_with (go_at_call 17; (with_reducible refine HC.out.mono ?_); rintro e w3 ⟨rfl, hP⟩; have HS := Lib.hid (show OS w w3 w.heap.size (k + 1) from ⟨N', hP, HLEN.out⟩); clear hP)
      go_roundw
      case rel => exact ⟨k + 1, by omega, by omega, by go_num, HS⟩
      case measure => simp [intOf]; omega
    · obtain ⟨N, hP, hN⟩ := HS.out
      clear HS
      have hB := hP.below
      have hNO := fun Y (hY : Below wr.heap.size wr Y) => (hP.keep hY).Nodes (by omega)
      have hRO := fun Y (hY : Below wr.heap.size wr Y) => (hP.keep hY).Roots (by omega)
      have HB := Lib.hid hB
      have HNO := Lib.hid hNO
      have HRO := Lib.hid hRO
      have HBW := Lib.hid (Below.refl wr.heap.size wr)
      obtain ⟨wr0, hwr0⟩ : ∃ x, x = wr := ⟨_, rfl⟩
      rw [← hwr0] at hP HNO HRO HBW HB
      rw [← hwr0]
      clear hwr0
      have htests : ¬ (k : Int) < m ∨ ((k : Int) < m ∧ ¬ (k : Int) < 100) := by omega
      by_cases hN0 : N = []
      · subst hN0
        obtain ⟨v1, v2, hPO, -, -⟩ := hP
        have HRO := Lib.hid (fun Y (hY : Below wr0.heap.size wr0 Y) => Roots_none Y w.heap.size v1 v2 100 (hPO.keep hY))
        have HCN : Hid (∀ (Y : World) q c, (q = none → c = 0) → Calls Try.prog 10 #[.slice q 0 c] Y fun e w' => ∃ p4 c4, e = .returned (.slice p4 0 c4) ∧ Below Y.heap.size Y w') := Lib.hid (fun Y q c hq => by
          refine (CopyNodes_any Y q c [] (.inl rfl) hq (by decide)).mono ?_
          rintro e w' ⟨v, rfl, hR, hb⟩
          obtain ⟨-, p4, c4, rfl, -⟩ := row_nds hR
          exact ⟨p4, c4, rfl, hb⟩)
        have HCI : Hid (∀ (Y : World), Calls Try.prog 28 #[.slice none 0 0] Y fun e w' => ∃ p4 c4, e = .returned (.slice p4 0 c4) ∧ Below Y.heap.size Y w') := Lib.hid (fun Y => by
          refine (CopyInts_any Y none 0 [] (.inl rfl) (fun _ => rfl) (by decide)).mono ?_
          rintro e w' ⟨v, rfl, hR, hb⟩
          obtain ⟨p4, c4, rfl, -⟩ := row_ints hR
          exact ⟨p4, c4, rfl, hb⟩)
        have HEN : Hid (∀ (Y : World) q c q' c', Calls Try.prog 15 #[.slice q 0 c, .slice q' 0 c'] Y fun e w' => e = .returned (.bool true) ∧ Below Y.heap.size Y w') := Lib.hid (fun Y q c q' c' => by
          have := nodes_any Y q q' c c' [] [] (.inl rfl) (.inl rfl) (by decide)
          rw [decide_eq_true rfl] at this
          exact this)
        have HEI : Hid (∀ (Y : World) q c q' c', Calls Try.prog 22 #[.slice q 0 c, .slice q' 0 c'] Y fun e w' => e = .returned (.bool true) ∧ Below Y.heap.size Y w') := Lib.hid (fun Y q c q' c' => by
          have := ints_any Y q q' c c' [] [] (.inl rfl) (.inl rfl) (by decide)
          rw [decide_eq_true rfl] at this
          exact this)
        have HAP : Hid (∀ Y : World, Calls Try.prog 29 #[.slice (some ⟨Y.heap.size, 0, none⟩) 2 2] (Y.alloc (.cells #[.slice none 0 0, .slice none 0 0] 43)) fun e w' => e = .returned (.bool true) ∧ Below Y.heap.size Y w') := Lib.hid (fun Y => by
          refine (apart_nil (Y.alloc (.cells #[.slice none 0 0, .slice none 0 0] 43)) Y.heap.size ((World.cell?_alloc_new (w := Y) _ _ 0).trans rfl) ((World.cell?_alloc_new (w := Y) _ _ 1).trans rfl)).mono ?_
          rintro e w' ⟨rfl, hO⟩
          exact ⟨rfl, ((Off.refl [] Y).all _ |>.trans hO).below (Nat.le_refl _) (by simp)⟩)
        simp only [List.length_nil] at HNO
        clear hPO hB hNO hRO hgo HX HM hN
        have HB := Lib.hid HB.out
        rcases htests with ht | ⟨ht, ht2⟩
        all_goals go_wp2_with (first
          | (go_at_call 21; (with_reducible refine (HNO.out _ HBW.out).mono ?_); rintro e w2 ⟨p2, c2, rfl, -, -, hp, hb⟩; have HPN := Lib.hid hp; have HBW := Lib.hid (HBW.out.trans (hb.mono HBW.out.size)); clear hb hp)
          | (go_at_call 23; (with_reducible refine (HRO.out _ HBW.out).mono ?_); rintro e w3 ⟨rfl, rfl⟩)
          | (go_at_call 10; (with_reducible refine (HCN.out _ _ _ HPN.out).mono ?_); rintro e w4 ⟨p4, c4, rfl, hb⟩; have HBW := Lib.hid (HBW.out.trans (hb.mono HBW.out.size)); clear hb)
          | (go_at_call 28; (with_reducible refine (HCI.out _).mono ?_); rintro e w5 ⟨p5, c5, rfl, hb⟩; have HBW := Lib.hid (HBW.out.trans (hb.mono HBW.out.size)); clear hb))
        all_goals (
          go_loopw [43] (fun i wq => i = .int .i64 0 ∧ Hid (Below wr0.heap.size wr0 wq)) (fun _ _ => 0)
          case atStart => exact ⟨rfl, HBW⟩
          case round =>
            clear HBW
            obtain ⟨rfl, HBW⟩ := hrel
            go_wp2_with (first
              | (go_at_call 21; (with_reducible refine (HNO.out _ HBW.out).mono ?_); rintro e w2 ⟨p9, c9, rfl, -, -, -, hb⟩; have HBW := Lib.hid (HBW.out.trans (hb.mono HBW.out.size)); clear hb)
              | (go_at_call 23; (with_reducible refine (HRO.out _ HBW.out).mono ?_); rintro e w3 ⟨rfl, rfl⟩)
              | (go_at_call 29; (with_reducible refine (HAP.out _).mono ?_); rintro e w6 ⟨rfl, hb⟩; have HBW := Lib.hid (HBW.out.trans (hb.mono HBW.out.size)); clear hb)
              | (go_at_call 15; (with_reducible refine (HEN.out _ _ _ _ _).mono ?_); rintro e w7 ⟨rfl, hb⟩; have HBW := Lib.hid (HBW.out.trans (hb.mono HBW.out.size)); clear hb)
              | (go_at_call 22; (with_reducible refine (HEI.out _ _ _ _ _).mono ?_); rintro e w8 ⟨rfl, hb⟩; have HBW := Lib.hid (HBW.out.trans (hb.mono HBW.out.size)); clear hb)
              | (go_at_call 9; (with_reducible refine (awake_any _).mono ?_); rintro e w9 ⟨rfl, hb⟩; have HBW := Lib.hid (HBW.out.trans (hb.mono HBW.out.size)); clear hb))
            go_ret
            exact ⟨rfl, HB.out.trans (HBW.out.mono HB.out.size)⟩)
      · have hn1 : 0 < N.length := List.length_pos_iff.2 hN0
        have hrl := roots_len hP.rt
        have hr1 : 0 < (rootsI N).length := roots_pos hP.rt hN0
        clear hgo
        obtain ⟨n, hn⟩ : ∃ n, n = N.length := ⟨_, rfl⟩
        obtain ⟨r, hr⟩ : ∃ r, r = (rootsI N).length := ⟨_, rfl⟩
        rw [← hn] at HNO hn1
        rw [← hr] at HRO hr1
        have HN := Lib.hid hn
        have HR := Lib.hid hr
        have HRT := Lib.hid hP.rt
        clear hP hB hNO hRO hrl hn hr
        have hN8 : n ≤ 8000 := by have := HN.out; omega
        have hr8 : (rootsI N).length ≤ 8000 := by
          have := roots_len (show Rt N from HRT.out)
          unfold rootsI
          rw [List.length_map]
          omega
        have HCN : Hid (∀ (Y : World) q c, NdS Y q N → (q = none → c = 0) → Calls Try.prog 10 #[.slice q n c] Y fun e w' => ∃ p4 c4, e = .returned (.slice p4 n c4) ∧ NdS w' p4 N ∧ (∀ b o, p4 = some ⟨b, o, none⟩ → Y.heap.size ≤ b) ∧ Below Y.heap.size Y w') := Lib.hid (fun Y q c hY hq => by
          have := CopyNodes_any Y q c N hY hq (by omega)
          rw [← HN.out] at this
          refine this.mono ?_
          rintro e w' ⟨v, rfl, hR, hb⟩
          obtain ⟨-, p4, c4, rfl, hNd, -⟩ := row_nds hR
          exact ⟨p4, c4, rfl, hNd, fun b o e => own_geB hR b (by rw [e]; rfl), hb⟩)
        have HCI : Hid (∀ (Y : World) q c, NS Y q .i64 (rootsI N) → (q = none → c = 0) → Calls Try.prog 28 #[.slice q r c] Y fun e w' => ∃ p4 c4, e = .returned (.slice p4 r c4) ∧ NS w' p4 .i64 (rootsI N) ∧ (∀ b o, p4 = some ⟨b, o, none⟩ → Y.heap.size ≤ b) ∧ Below Y.heap.size Y w') := Lib.hid (fun Y q c hY hq => by
          have := CopyInts_any Y q c (rootsI N) hY hq (by omega)
          rw [← HR.out] at this
          refine this.mono ?_
          rintro e w' ⟨v, rfl, hR, hb⟩
          obtain ⟨p4, c4, rfl, hNS⟩ := row_ints hR
          exact ⟨p4, c4, rfl, hNS, fun b o e => own_geB hR b (by rw [e]; rfl), hb⟩)
        have HEN : Hid (∀ (Y : World) q c q' c', NdS Y q N → NdS Y q' N → Calls Try.prog 15 #[.slice q n c, .slice q' n c'] Y fun e w' => e = .returned (.bool true) ∧ Below Y.heap.size Y w') := Lib.hid (fun Y q c q' c' h1 h2 => by
          have := nodes_any Y q q' c c' N N h1 h2 (by omega)
          rw [decide_eq_true rfl, ← HN.out] at this
          exact this)
        have HEI : Hid (∀ (Y : World) q c q' c', NS Y q .i64 (rootsI N) → NS Y q' .i64 (rootsI N) → Calls Try.prog 22 #[.slice q r c, .slice q' r c'] Y fun e w' => e = .returned (.bool true) ∧ Below Y.heap.size Y w') := Lib.hid (fun Y q c q' c' h1 h2 => by
          have := ints_any Y q q' c c' (rootsI N) (rootsI N) h1 h2 (by omega)
          rw [decide_eq_true rfl, ← HR.out] at this
          exact this)
        have hr9 : r ≤ 8000 := by have := HR.out; omega
        have HNE := Lib.hid hN0
        have HRE : Hid (rootsI N ≠ []) := Lib.hid (fun e => by have := HR.out; rw [e] at this; simp at this; omega)
        clear hr8 HRT hN hN0 HX HM HN HR
        rcases htests with ht | ⟨ht, ht2⟩
        all_goals go_wp2_with (first
          | (go_at_call 21; (with_reducible refine (HNO.out _ HBW.out).mono ?_); rintro e w2 ⟨p2, c2, rfl, hNd, hRow, -, hb⟩
             obtain ⟨g2, c2', L2, hv, hg, hE, hL, hnc, hcm⟩ := row_whole hRow hn1
             cases hv
             have HE2 := Lib.hid hE
             have HG2L := Lib.hid hE.lt
             have HN2 := Lib.hid hNd
             have HG2 := Lib.hid hg
             have HL2 := Lib.hid hL
             have HBW := Lib.hid hb
             clear hRow hNd hg hE hL hb hcm)
          | (go_at_call 23; (with_reducible refine (HRO.out _ HBW.out).mono ?_); rintro e w3 ⟨p3, c3, rfl, hNS, hRow, hb⟩
             obtain ⟨g3, c3', L3, hv, hg, hE, hL, hnc3, hcm⟩ := row_whole hRow hr1
             cases hv
             have HE3 := Lib.hid hE
             have HG3L := Lib.hid hE.lt
             have HN3 := Lib.hid hNS
             have HG3 := Lib.hid hg
             have HL3 := Lib.hid hL
             have HC3 := Lib.hid hcm
             have HB3 := Lib.hid hb
             have HBW := Lib.hid (HBW.out.trans (hb.mono HBW.out.size))
             clear hRow hNS hg hE hL hb hcm)
          | (go_at_call 10; (with_reducible refine (HCN.out _ _ _ (HN2.out.keep HB3.out) (fun h => by cases h)).mono ?_); rintro e w4 ⟨p4, c4, rfl, hNd, hg4, hb⟩
             have HE2 := Lib.hid ((HE2.out.keep HB3.out HE2.out.lt).keep hb (Nat.lt_of_lt_of_le HE2.out.lt HB3.out.size))
             have HE3 := Lib.hid (HE3.out.keep hb HE3.out.lt)
             have HN3 := Lib.hid (HN3.out.keep hb)
             have HN4 := Lib.hid hNd
             have HG4 := Lib.hid hg4
             have HB4 := Lib.hid hb
             have HBW := Lib.hid (HBW.out.trans (hb.mono HBW.out.size))
             clear hNd hg4 hb)
          | (go_at_call 28; (with_reducible refine (HCI.out _ _ _ HN3.out (fun h => by cases h)).mono ?_); rintro e w5 ⟨p5, c5, rfl, hNS, hg5, hb⟩
             have HE2 := Lib.hid (HE2.out.keep hb HE2.out.lt)
             have HE3 := Lib.hid (HE3.out.keep hb HE3.out.lt)
             have HN4 := Lib.hid (HN4.out.keep hb)
             have HN5 := Lib.hid hNS
             have HG5 := Lib.hid hg5
             have HB5 := Lib.hid hb
             have HBW := Lib.hid (HBW.out.trans (hb.mono HBW.out.size))
             clear hNS hg5 hb))
        all_goals (
          go_loopw [43] (fun i wq => ∃ (z : Nat) (L : List Value), z ≤ n ∧ i = .int .i64 z ∧ L.length = c2 * 7 ∧ Hid (EV 34 wq g2 L) ∧ Hid (Off [g2] w5 wq)) (fun i _ => n - (intOf i).toNat)
          case atStart => exact ⟨0, L2, Nat.zero_le _, rfl, HL2.out, HE2, Lib.hid (Off.refl _ _)⟩
          case round =>
            obtain ⟨z, L, hz, rfl, hL, HE, HO⟩ := hrel
            by_cases hzl : z < n
            · have hzz : (z : Int) < n := by omega
              have hcell : ∀ j, j < 7 → ∃ x, L[z * 7 + j]? = some x := fun j hj => ⟨_, List.getElem?_eq_getElem (by omega)⟩
              obtain ⟨x0, q0⟩ := hcell 0 (by omega)
              obtain ⟨x1, q1⟩ := hcell 1 (by omega)
              obtain ⟨x2, q2⟩ := hcell 2 (by omega)
              obtain ⟨x3, q3⟩ := hcell 3 (by omega)
              obtain ⟨x4, q4⟩ := hcell 4 (by omega)
              obtain ⟨x5, q5⟩ := hcell 5 (by omega)
              obtain ⟨x6, q6⟩ := hcell 6 (by omega)
              go_wp2_with (go_at_call 27; (with_reducible refine (inner_any _ _ _).mono ?_); rintro e w6 ⟨rfl, hO⟩; unfold nv innerN
                           have hE := HE.out.off hO (by simp)
                           have k0 := hE.cell q0
                           have k1 := hE.cell q1
                           have k2 := hE.cell q2
                           have k3 := hE.cell q3
                           have k4 := hE.cell q4
                           have k5 := hE.cell q5
                           have k6 := hE.cell q6
                           simp only [Nat.add_zero] at k0
                           have f0 := hE.free
                           have HE6 := Lib.hid hE
                           have HO6 := Lib.hid (HO.out.trans (hO.mono (by simp)))
                           clear hE hO)
              exact ⟨⟨z + 1, _, by omega, by go_num, by simpa using hL, Lib.hid (((((((HE6.out.set (z * 7) (.int .u8 2)).set (z * 7 + 1) (.int .i64 7)).set (z * 7 + 2) (.int .i64 8)).set (z * 7 + 3) (.int .i64 0)).set (z * 7 + 4) (.int .i64 0)).set (z * 7 + 5) (.int .i64 0)).set (z * 7 + 6) (.int .i64 0)), Lib.hid (((((((HO6.out.set ⟨g2, z * 7, none⟩ (.int .u8 2) (.inl (by simp))).set ⟨g2, z * 7 + 1, none⟩ (.int .i64 7) (.inl (by simp))).set ⟨g2, z * 7 + 2, none⟩ (.int .i64 8) (.inl (by simp))).set ⟨g2, z * 7 + 3, none⟩ (.int .i64 0) (.inl (by simp))).set ⟨g2, z * 7 + 4, none⟩ (.int .i64 0) (.inl (by simp))).set ⟨g2, z * 7 + 5, none⟩ (.int .i64 0) (.inl (by simp))).set ⟨g2, z * 7 + 6, none⟩ (.int .i64 0) (.inl (by simp)))⟩, by simp [intOf]; omega⟩
            · obtain rfl : z = n := by omega
              have hzz : ¬ (z : Int) < z := by omega
              have s2 := HBW.out.size
              have s3 := HB3.out.size
              have s4 := HB4.out.size
              have s5 := HB5.out.size
              have g2l : g2 < w2.heap.size := HG2L.out
              have g3l : g3 < w3.heap.size := HG3L.out
              have gg2 := HG2.out
              have gg3 := HG3.out
              have HE3 := Lib.hid (HE3.out.off HO.out (by simp; omega))
              have HN4L : Hid (∀ b o, p4 = some ⟨b, o, none⟩ → w3.heap.size ≤ b ∧ b < w5.heap.size) := Lib.hid (fun b o e => ⟨HG4.out b o e, by have h := HN4.out; rw [e] at h; exact h.lt HNE.out⟩)
              have HN5L : Hid (∀ b o, p5 = some ⟨b, o, none⟩ → w4.heap.size ≤ b ∧ b < w5.heap.size) := Lib.hid (fun b o e => ⟨HG5.out b o e, by have h := HN5.out; rw [e] at h; exact h.lt HRE.out⟩)
              have HN4 := Lib.hid (HN4.out.off HO.out (fun b o e _ => by have := HN4L.out b o e; simp; omega))
              have HN5 := Lib.hid (HN5.out.off HO.out (fun b o e _ => by have := HN5L.out b o e; simp; omega))
              have HS5 := Lib.hid HO.out.size
              have HBW := Lib.hid (HBW.out.trans (HO.out.below (N := wr0.heap.size) (by omega) (by simp; omega)))
              clear HCN HCI HO HE HN2 HG2 HG4 HG5 HB4 HB5 hL
              go_wp2_with (first
                | (go_at_call 23; (with_reducible refine (HRO.out _ HBW.out).mono ?_); rintro e w7 ⟨p6, c6, rfl, hNS, hRow, hb⟩
                   obtain ⟨g6, c6', L6, hv, hg, hE, hL, hnc6, hcm⟩ := row_whole hRow hr1
                   cases hv
                   have HE6 := Lib.hid hE
                   have HN6 := Lib.hid hNS
                   have HG6 := Lib.hid hg
                   have HL6 := Lib.hid hL
                   have HC6 := Lib.hid hcm
                   have HE3 := Lib.hid (HE3.out.keep hb HE3.out.lt)
                   have HN4 := Lib.hid (HN4.out.keep hb)
                   have HN5 := Lib.hid (HN5.out.keep hb)
                   have HBW := Lib.hid (HBW.out.trans (hb.mono HBW.out.size))
                   clear hRow hNS hg hE hL hb hcm)
                | (go_at_call 29; (with_reducible refine (own_apart w7 g3 c3 g6 c6 r L3 L6 HE3.out (by have := HL3.out; omega) HE6.out (by have := HL6.out; omega) (by have := HG6.out; have := HS5.out; omega) hnc3 hnc6 HC3.out HC6.out).mono ?_); rintro e w8 ⟨rfl, hO⟩
                   have hs7 := HBW.out.size
                   have hg6 := HG6.out
                   have hs5 := HS5.out
                   have HN4 := Lib.hid (HN4.out.off hO (fun b o e _ => by have := HN4L.out b o e; simp; omega))
                   have HN5 := Lib.hid (HN5.out.off hO (fun b o e _ => by have := HN5L.out b o e; simp; omega))
                   have hbo := hO.below (N := wr0.heap.size) (by omega) (by simp; omega)
                   have HBW := Lib.hid (HBW.out.trans hbo)
                   clear hO hbo hs7 hg6 hs5)
                | (go_at_call 21; (with_reducible refine (HNO.out _ HBW.out).mono ?_); rintro e w9 ⟨p9, c9, rfl, hNd, -, -, hb⟩
                   have HN9 := Lib.hid hNd
                   have HN4 := Lib.hid (HN4.out.keep hb)
                   have HN5 := Lib.hid (HN5.out.keep hb)
                   have HBW := Lib.hid (HBW.out.trans (hb.mono HBW.out.size))
                   clear hNd hb)
                | (go_at_call 15; (with_reducible refine (HEN.out _ _ _ _ _ HN9.out HN4.out).mono ?_); rintro e w10 ⟨rfl, hb⟩
                   have HN5 := Lib.hid (HN5.out.keep hb)
                   have HN4 := Lib.hid (HN4.out.keep hb)
                   have HBW := Lib.hid (HBW.out.trans (hb.mono HBW.out.size))
                   clear hb)
                | (go_at_call 23; (with_reducible refine (HRO.out _ HBW.out).mono ?_); rintro e w7 ⟨p6, c6, rfl, hNS, hRow, hb⟩
                   have HN6 := Lib.hid hNS
                   have HN5 := Lib.hid (HN5.out.keep hb)
                   have HBW := Lib.hid (HBW.out.trans (hb.mono HBW.out.size))
                   clear hRow hNS hb)
                | (go_at_call 22; (with_reducible refine (HEI.out _ _ _ _ _ HN6.out HN5.out).mono ?_); rintro e w11 ⟨rfl, hb⟩
                   have HBW := Lib.hid (HBW.out.trans (hb.mono HBW.out.size))
                   clear hb)
                | (go_at_call 9; (with_reducible refine (awake_any _).mono ?_); rintro e w12 ⟨rfl, hb⟩
                   have HBW := Lib.hid (HBW.out.trans (hb.mono HBW.out.size))
                   clear hb))
              go_ret
              exact ⟨rfl, HB.out.trans (HBW.out.mono HB.out.size)⟩)

set_option maxRecDepth 100000 in
theorem ownlaw_lifted (os : Os) (started : os.Started) (H : Type) (enc : TypeId × Value → H) :
    ReturnsInHanded {} Try.checked os 8 .any (Rows.poolOwnSpec.pre6 enc Try.prog Try.f8 Rows.poolOwnRow.domain false) (Rows.poolOwnSpec.post enc Try.prog Try.f8 false true false false) := by
  refine returnsInHanded_of_change (C := Try.checked) Try.own started (by kernel_rfl) Try.func8
    (ChangeSpec.witness6 (enc := enc) (C := Try.checked) false ⟨#[], #[.slice none 0 0], []⟩ 8 (by kernel_rfl) (by kernel_rfl) (by kernel_rfl) (by kernel_rfl)) ?_
  intro W base args ds gs before hval0 hW hcnd _
  have hval : ∀ (j : Nat) t v, Try.f8.params[j]? = some t → args[j]? = some v → Value.okWide Try.prog W .any base t v := hval0
  have hW' := hW
  obtain ⟨p, q, hA0, hV, rfl, hfz, hnd⟩ := hW
  have hA : DataW.TrodAll enc Try.prog W 0 (fun _ => true) true Try.f8.params.toList args.toList ds p := hA0
  rw [Try.params8] at hA hval
  obtain ⟨v0, vs0, d0, ds0, p0, q0, hargs, rfl, rfl, h0, r0⟩ := trodAll_cons hA
  obtain ⟨rfl, rfl, rfl⟩ := trodAll_nil r0
  obtain rfl : args = #[v0] := by cases args; simp_all
  obtain ⟨rfl, rfl⟩ := trodVars_none hV
  obtain ⟨a0, len0, cap0, rfl⟩ := okWide_slice Try.underlying22 (hval 0 22 v0 rfl rfl)
  obtain ⟨xs0, rfl, hx0, hp0⟩ := open_nodes h0
  clear hA0 hval0
  simp only [List.append_nil] at hW'
  have hlt : ∀ x ∈ p0, x.block < W.heap.size := fun x hx => by simpa using hW'.lt x (by simpa using hx)
  refine (own_walk _ _ _ W hx0).mono fun e W' ⟨he, hb⟩ => ?_
  subst he
  have hR : DataW.TrodAll enc Try.prog W' 0 (fun b => decide (b < W.heap.size)) true _ _ _ _ := (trodAll_cons_mk (Below.trod Try.laidOut (by kernel_rfl) (of_decide_eq_true (by kernel_rfl)) h0 hb (fun x hx => hlt x (by simp [hx]))) trodAll_mk0)
  simp only [List.append_nil] at hR
  exact ⟨_, rfl, law_post hW' (trodAll_cons_mk (shut_bool Try.underlying4 _) trodAll_mk0) hR rfl hb⟩

theorem ownlaw_holds : Rows.PoolOwnSaid :=
  OpenClaim.holds_of_wide 8 Try.f8 rfl rfl rfl rfl rfl rfl rfl ⟨rfl, rfl, rfl, rfl, rfl⟩ rfl rfl rfl rfl rfl (by kernel_rfl) Try.func8 (by kernel_rfl)
    (of_decide_eq_true (by kernel_rfl)) (by unfold Func.isWrapper; first | (rw [if_pos (by decide +kernel)]; kernel_rfl) | (rw [if_neg (by decide +kernel)]; exact ⟨rfl, rfl⟩))
    (fun os started H enc _ => ownlaw_lifted os started H enc)
end Go.Proofs.Ytaandlehildcdaa
