/-
  The statements' own examples hold (awake): for every world, no condition.
-/
import Derived.Test.YtaandlehildcdaaEqN
import Derived.Deep.RegionHeld3
namespace Go.Proofs.Ytaandlehildcdaa
open Go.RowKit

/-- the examples: a node, and what is told of it -/
def tb : List (Nd × Int × Int) :=
  [(leafN, 0, 0), (leafN, 1, 0), (innerN 0 0, 0, 50), (innerN 0 2, 0, 50), (innerN 1 0, 2, 0), (leafN, 0, 5), (innerN 1 (-1), 0, 50), (innerN (-1) (-1), 0, 50), ((1, 0, -1, 0, 0, 0, 0), 0, 50)]
/-- what lies in the pool as far as k -/
def tst (k : Nat) : List Nd := (tb.take k).foldl (fun N x => (putN N 3 x.1).1) []
theorem tb_ok : ∀ k, k < 9 → ∀ x, tb[k]? = some x → putN (tst k) 3 x.1 = (tst (k + 1), x.2.1, x.2.2) := by
  intro k hk x hx
  have hc : k = 0 ∨ k = 1 ∨ k = 2 ∨ k = 3 ∨ k = 4 ∨ k = 5 ∨ k = 6 ∨ k = 7 ∨ k = 8 := by omega
  rcases hc with h | h | h | h | h | h | h | h | h <;> subst h <;> cases hx <;> decide
def tbc : List Value := tb.flatMap (fun x => nvs x.1 ++ [.int .i64 x.2.1, .int .i64 x.2.2])

theorem tbc_at : ∀ k, k < 9 → ∀ x, tb[k]? = some x → tbc[k * 9]? = some (.int .u8 x.1.1) ∧ tbc[k * 9 + 1]? = some (.int .i64 x.1.2.1) ∧ tbc[k * 9 + 2]? = some (.int .i64 x.1.2.2.1) ∧ tbc[k * 9 + 3]? = some (.int .i64 x.1.2.2.2.1) ∧ tbc[k * 9 + 4]? = some (.int .i64 x.1.2.2.2.2.1) ∧ tbc[k * 9 + 5]? = some (.int .i64 x.1.2.2.2.2.2.1) ∧ tbc[k * 9 + 6]? = some (.int .i64 x.1.2.2.2.2.2.2) ∧ tbc[k * 9 + 7]? = some (.int .i64 x.2.1) ∧ tbc[k * 9 + 8]? = some (.int .i64 x.2.2) := by
  intro k hk x hx
  have hc : k = 0 ∨ k = 1 ∨ k = 2 ∨ k = 3 ∨ k = 4 ∨ k = 5 ∨ k = 6 ∨ k = 7 ∨ k = 8 := by omega
  rcases hc with h | h | h | h | h | h | h | h | h <;> subst h <;> cases hx <;> exact ⟨rfl, rfl, rfl, rfl, rfl, rfl, rfl, rfl, rfl⟩
theorem tst_len : ∀ k, k ≤ 9 → (tst k).length ≤ 3 := by
  intro k hk
  have hc : k = 0 ∨ k = 1 ∨ k = 2 ∨ k = 3 ∨ k = 4 ∨ k = 5 ∨ k = 6 ∨ k = 7 ∨ k = 8 ∨ k = 9 := by omega
  rcases hc with h | h | h | h | h | h | h | h | h | h <;> subst h <;> decide
theorem tst_9 : tst 9 = [leafN, leafN, innerN 1 0] := by decide
theorem row_ints {w : World} {base n : Nat} {v : Value} {xs : List Int} {k : IntKind} (h : w.ownsRow base 3 1 v n (xs.map (Value.int k))) : ∃ p c, v = .slice p n c ∧ NS w p k xs := by
  obtain ⟨h1, h2⟩ := h
  have hn : xs.length = n := by rw [List.length_map] at h1; omega
  rcases h2 with ⟨rfl, h2⟩ | ⟨g, cap, cur, rfl, hb, hg, hnc, hcm, hcs, htk⟩
  · subst h2
    exact ⟨none, 0, rfl, .inl (List.length_eq_zero_iff.1 hn)⟩
  · refine ⟨some ⟨g, 0, none⟩, cap, rfl, .inr ⟨g, 0, rfl, fun j x e => ?_⟩⟩
    have := row_cells (w := w) (base := base) (n := n) (e := 3) (g := g) (c := cap) (j := j) (xs := xs.map (Value.int k)) ⟨h1, .inr ⟨g, cap, cur, rfl, hb, hg, hnc, hcm, hcs, htk⟩⟩ (u := .int k x) (by rw [List.getElem?_map, e]; rfl)
    rw [Nat.zero_add]
    exact this.1
/-- the pool in the midst of the examples -/
def AK (w wr : World) (T k : Nat) : Prop := ∃ v1 v2, PO wr w.heap.size v1 v2 3 (tst k) ∧ wr.heap[T]? = some (.cells tbc.toArray 56 (0, 0)) ∧ Below w.heap.size w wr ∧ ∀ q ∈ pbl w.heap.size v1 v2, w.heap.size ≤ q
theorem pbl_types {w : World} {P : Nat} {v1 v2 : Value} {most : Int} {N : List Nd} (h : PO w P v1 v2 most N) {k : Nat} {c : Array Value} {t : TypeId} (hk : w.heap[k]? = some (.cells c t (0, 0))) (h1 : t ≠ 52) (h2 : t ≠ 34) (h3 : t ≠ 4) : k ∉ pbl P v1 v2 := by
  intro e
  rw [mem_pbl] at e
  rcases e with rfl | e | e
  · rw [h.box] at hk
    injection hk with hk
    injection hk with _ hk
    exact h1 hk.symm
  · obtain ⟨cur, h'⟩ := row_type h.ns e
    exact types_ne hk h' h2 rfl
  · obtain ⟨cur, h'⟩ := row_type h.ts e
    exact types_ne hk h' h3 rfl

set_option maxRecDepth 100000 in
set_option maxHeartbeats 6400000 in
theorem awake_any (w : World) : Calls Try.prog 9 #[] w fun e w' => e = .returned (.bool true) ∧ Below w.heap.size w w' := by
  go_enter Try.func9, Try.ntmps9
  go_upto_region 6 with (first
    | (go_at_call 16; (with_reducible refine (New_any _ 3 (by decide)).mono ?_); rintro e w1 ⟨rfl, hP, hB⟩; have HP := Lib.hid hP; have HB := Lib.hid hB; clear hP hB)
    | (go_at_call 26; (with_reducible refine (leaf_any _).mono ?_); rintro e w2 ⟨rfl, hO⟩; unfold nv leafN; have HO := Lib.hid hO; clear hO))
  obtain ⟨W, hW⟩ : ∃ W, W = (w2.alloc (.cells #[.int .u8 1, .int .i64 0, .int .i64 (-1), .int .i64 0, .int .i64 0, .int .i64 0, .int .i64 0] 34)) := ⟨_, rfl⟩
  have hOW : Off [] w1 W := by rw [hW]; exact HO.out.all _
  have hN : N1 W w2.heap.size 0 (1, 0, -1, 0, 0, 0, 0) := by rw [hW]; exact N1.new w2 (1, 0, -1, 0, 0, 0, 0) _
  rw [← hW]
  clear hW
  have n0 := hN.c0
  have n1 := hN.c1
  have n2 := hN.c2
  have n3 := hN.c3
  have n4 := hN.c4
  have n5 := hN.c5
  have n6 := hN.c6
  simp only [Nat.zero_add] at n0 n1 n2 n3 n4 n5 n6
  have HOW := Lib.hid hOW
  have HO := Lib.hid (show Off [] W W.drew from (Off.refl _ W).drew)
  clear hOW hN
  go_cut [39, 40, 41] from 21 to 41 (fun v39 v40 v41 wx => ∃ T, v39 = .slice (some ⟨T, 0, none⟩) 9 9 ∧ v40 = .int .i64 9 ∧ v41 = .int .i64 0 ∧ Hid (wx.heap[T]? = some (.cells tbc.toArray 56 (0, 0))) ∧ Hid (Off [] W wx))
  case first =>
    go_region_held3 (fun w' => w'.cell? ⟨w2.heap.size, 0, none⟩ = some (.int .u8 1) ∧ w'.cell? ⟨w2.heap.size, 1, none⟩ = some (.int .i64 0) ∧ w'.cell? ⟨w2.heap.size, 2, none⟩ = some (.int .i64 (-1)) ∧ w'.cell? ⟨w2.heap.size, 3, none⟩ = some (.int .i64 0) ∧ w'.cell? ⟨w2.heap.size, 4, none⟩ = some (.int .i64 0) ∧ w'.cell? ⟨w2.heap.size, 5, none⟩ = some (.int .i64 0) ∧ w'.cell? ⟨w2.heap.size, 6, none⟩ = some (.int .i64 0))
      (first | go_keep | (exact ⟨HO.out.cell n0 (by simp), HO.out.cell n1 (by simp), HO.out.cell n2 (by simp), HO.out.cell n3 (by simp), HO.out.cell n4 (by simp), HO.out.cell n5 (by simp), HO.out.cell n6 (by simp)⟩) | (exact ⟨(HO.out.all _).cell n0 (by simp), (HO.out.all _).cell n1 (by simp), (HO.out.all _).cell n2 (by simp), (HO.out.all _).cell n3 (by simp), (HO.out.all _).cell n4 (by simp), (HO.out.all _).cell n5 (by simp), (HO.out.all _).cell n6 (by simp)⟩))
      (first
        | (go_at_call 26; (with_reducible refine (leaf_any _).mono ?_); rintro e w3 ⟨rfl, hO⟩; unfold nv leafN; have HO := Lib.hid (HO.out.trans hO))
        | (go_at_call 27; (with_reducible refine (inner_any _ _ _).mono ?_); rintro e w3 ⟨rfl, hO⟩; unfold nv innerN; have HO := Lib.hid (HO.out.trans hO)))
    all_goals (go_wp2_with fail)
    all_goals go_meet
    all_goals exact ⟨w3.heap.size, rfl, rfl, rfl, Lib.hid (heap_alloc_new w3 _), Lib.hid (HO.out.all _)⟩
  case rest =>
    obtain ⟨T, rfl, rfl, rfl, HT, HW⟩ := hcut
    clear n0 n1 n2 n3 n4 n5 n6 HO
    have hPc : PO wc w.heap.size (.slice none 0 0) (.slice none 0 0) 3 (tst 0) := (HP.out.off (HOW.out.trans HW.out) (by simp))
    have hBc : Below w.heap.size w wc := HB.out.trans ((HOW.out.trans HW.out).below (N := w.heap.size) HB.out.size (by simp))
    have HS0 : Hid (AK w wc T 0) := Lib.hid ⟨_, _, hPc, HT.out, hBc, fun q hq => by simp [pbl, Value.ownBlock] at hq; omega⟩
    clear hPc hBc HP HB HOW HW HT
    go_wp2
    go_loopw [41] (fun i wr => ∃ k : Nat, k ≤ 9 ∧ i = .int .i64 k ∧ Hid (AK w wr T k)) (fun i _ => 9 - (intOf i).toNat)
    case atStart => exact ⟨0, by omega, rfl, HS0⟩
    case round =>
      clear HS0
      obtain ⟨k, hk, rfl, HA⟩ := hrel
      by_cases hlt : k < 9
      · have hltz : (k : Int) < 9 := by omega
        obtain ⟨x, hx⟩ : ∃ x, tb[k]? = some x := ⟨_, List.getElem?_eq_getElem (by show k < 9; exact hlt)⟩
        obtain ⟨v1, v2, hP, hT, hB, hq⟩ := HA.out
        have hc := tbc_at k hlt x hx
        have ht : ∀ i v, tbc[i]? = some v → wr.cell? ⟨T, i, none⟩ = some v := fun i v e => by simp [World.cell?, hT, e]
        obtain ⟨a0, a1, a2, a3, a4, a5, a6, a7, a8⟩ := hc
        have t0 := ht _ _ a0
        have t1 := ht _ _ a1
        have t2 := ht _ _ a2
        have t3 := ht _ _ a3
        have t4 := ht _ _ a4
        have t5 := ht _ _ a5
        have t6 := ht _ _ a6
        have t7 := ht _ _ a7
        have t8 := ht _ _ a8
        have HPUT := Lib.hid (fun o => by
          have := Put_any (wr.alloc o) w.heap.size v1 v2 3 (tst k) x.1 (hP.keep ((Below.refl _ wr).alloc (Nat.le_refl _) o)) (by have := tst_len k (by omega); omega)
          rw [tb_ok k hlt x hx] at this
          exact this)
        have HLT := Lib.hid hP.lt
        have HNT := Lib.hid (pbl_types hP hT (by decide) (by decide) (by decide))
        have HT := Lib.hid hT
        have HB := Lib.hid hB
        have HQ := Lib.hid hq
        obtain ⟨⟨k1, l, r, f, t, a, m⟩, at', e'⟩ := x
        simp only at t0 t1 t2 t3 t4 t5 t6 t7 t8
        unfold nv told at HPUT
        clear hx a0 a1 a2 a3 a4 a5 a6 a7 a8 ht hP hT hB hq HA
        go_wp2_with (go_at_call 17; (with_reducible refine (HPUT.out _).mono ?_); rintro e w3 ⟨u1, u2, rfl, hP', hO', hW'⟩
                     have b7 : w3.cell? ⟨wr.heap.size, 7, none⟩ = some (.int .i64 at') := hO'.cell (by simp) (fun h => by have := HLT.out _ h; simp at this)
                     have b8 : w3.cell? ⟨wr.heap.size, 8, none⟩ = some (.int .i64 e') := hO'.cell (by simp) (fun h => by have := HLT.out _ h; simp at this)
                     have HP := Lib.hid hP'
                     have HO := Lib.hid hO'
                     have HW := Lib.hid hW'
                     clear hP' hO' hW')
        refine ⟨⟨k + 1, by omega, by go_num, Lib.hid ⟨u1, u2, HP.out, ?_, ?_, ?_⟩⟩, by simp [intOf]; omega⟩
        · have hlT := lt_of_block HT.out
          exact ((HO.out.block T (by simp; omega) HNT.out).trans (Below.heap_alloc _ _ _ hlT)).trans HT.out
        · have hs := HB.out.size
          exact (HB.out.trans ((Below.refl _ wr).alloc hs _)).trans (HO.out.below (N := w.heap.size) (by simp; omega) HQ.out)
        · intro q hq
          have hs := HB.out.size
          rcases HW.out q hq with h | h
          · exact HQ.out q h
          · simp at h
            omega
      · obtain rfl : k = 9 := by omega
        obtain ⟨v1, v2, hP, -, hB, -⟩ := HA.out
        rw [tst_9] at hP
        have HPO := Lib.hid hP
        have HB := Lib.hid hB
        have HNO := Lib.hid (fun X (hX : PO X w.heap.size v1 v2 3 [leafN, leafN, innerN 1 0]) => Nodes_any X w.heap.size v1 v2 3 _ hX (by decide))
        have HRO : Hid (∀ X, PO X w.heap.size v1 v2 3 [leafN, leafN, innerN 1 0] → Calls Try.prog 23 #[.pointer (some ⟨w.heap.size, 0, none⟩)] X fun e w' => ∃ p c, e = .returned (.slice p 1 c) ∧ NS w' p .i64 [2] ∧ Below X.heap.size X w') := Lib.hid (fun X hX => by
          have := Roots_any X w.heap.size v1 v2 3 _ hX (by decide)
          rw [show rootsI [leafN, leafN, innerN 1 0] = [2] by decide] at this
          refine this.mono ?_
          rintro e w' ⟨v, rfl, hR, hb⟩
          obtain ⟨p, c, rfl, hNS⟩ := row_ints hR
          exact ⟨p, c, rfl, hNS, hb⟩)
        have HLO := Lib.hid (fun X (hX : PO X w.heap.size v1 v2 3 [leafN, leafN, innerN 1 0]) => Len_any X w.heap.size v1 v2 3 _ hX)
        have HHI : Hid (∀ X p c, NdS X p [leafN, leafN, innerN 1 0] → Calls Try.prog 11 #[.slice p 3 c, .int .i64 2] X fun e w' => e = .returned (.tuple #[.int .i64 1, .int .i64 0]) ∧ Below X.heap.size X w') := Lib.hid (fun X p c hX => by
          refine (Height_any X p c [leafN, leafN, innerN 1 0] 2 hX (by decide) ((rtB_iff _).1 (by decide)) (by decide)).mono ?_
          rintro e w' ⟨h, rfl, h1, h2⟩
          rw [show (hl [leafN, leafN, innerN 1 0])[2]? = some 1 by decide] at h1
          cases h1
          exact ⟨rfl, h2⟩)
        have HRI : Hid (∀ X p c, NdS X p [leafN, leafN, innerN 1 0] → Calls Try.prog 13 #[.slice p 3 c] X fun e w' => e = .returned (.bool true) ∧ Below X.heap.size X w') := Lib.hid (fun X p c hX => by
          have := Right_any X p c [leafN, leafN, innerN 1 0] hX (by decide)
          rw [show rtB [leafN, leafN, innerN 1 0] = true by decide] at this
          exact this)
        have HIN : Hid (∀ (X : World) p c, NS X p .i64 [2] → Calls Try.prog 22 #[.slice p 1 c, .slice (some ⟨X.heap.size, 0, none⟩) 1 1] (X.alloc (.cells #[.int .i64 2] 3)) fun e w' => e = .returned (.bool true) ∧ Below X.heap.size X w') := Lib.hid (fun X p c hX => by
          have h1 := (Below.refl _ X).alloc (Nat.le_refl _) (.cells #[.int .i64 2] 3)
          refine (ints_any (X.alloc (.cells #[.int .i64 2] 3)) p (some ⟨X.heap.size, 0, none⟩) c 1 [2] [2] (hX.keep h1) (((EB.new .i64 3 X [2]).eq (List.append_nil [2]).symm).ns) (by decide)).mono ?_
          rintro e w' ⟨rfl, hb⟩
          exact ⟨rfl, h1.trans (hb.mono (by simp))⟩)
        clear hP hB HA
        go_wp2_with (first
          | (go_at_call 21; (with_reducible refine (HNO.out _ HPO.out).mono ?_); rintro e w4 ⟨v, rfl, hR, hb⟩
             obtain ⟨-, p, c, rfl, hNd, -⟩ := row_nds hR
             have HND := Lib.hid hNd
             have HB := Lib.hid (HB.out.trans (hb.mono HB.out.size))
             have HPO := Lib.hid (HPO.out.keep hb)
             clear hR hb hNd)
          | (go_at_call 11; (with_reducible refine (HHI.out _ _ _ HND.out).mono ?_); rintro e w5 ⟨rfl, hb⟩
             have HB := Lib.hid (HB.out.trans (hb.mono HB.out.size))
             have HPO := Lib.hid (HPO.out.keep hb)
             clear hb)
          | (go_at_call 23; (with_reducible refine (HRO.out _ HPO.out).mono ?_); rintro e w6 ⟨p, c, rfl, hNS, hb⟩
             have HNS := Lib.hid hNS
             have HB := Lib.hid (HB.out.trans (hb.mono HB.out.size))
             have HPO := Lib.hid (HPO.out.keep hb)
             clear hb hNS)
          | (go_at_call 22; (with_reducible refine (HIN.out _ _ _ HNS.out).mono ?_); rintro e w7 ⟨rfl, hb⟩
             have HB := Lib.hid (HB.out.trans (hb.mono HB.out.size))
             have HPO := Lib.hid (HPO.out.keep hb)
             clear hb)
          | (go_at_call 20; (with_reducible refine (HLO.out _ HPO.out).mono ?_); rintro e w8 ⟨rfl, rfl⟩)
          | (go_at_call 13; (with_reducible refine (HRI.out _ _ _ HND.out).mono ?_); rintro e w9 ⟨rfl, hb⟩
             have HB := Lib.hid (HB.out.trans (hb.mono HB.out.size))
             clear hb))
        go_ret
        exact ⟨rfl, HB.out⟩
end Go.Proofs.Ytaandlehildcdaa
