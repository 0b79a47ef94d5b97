/-
  A pool's Len, Get, Nodes, Roots; pool.Right. No condition but those typed at each theorem.
-/
import Derived.Test.YtjobfpnlpfjoeaaNodes
namespace Go.Proofs.Ytjobfpnlpfjoeaa
open Go.RowKit

set_option maxRecDepth 100000 in
theorem Nodes_nil (w : World) : Calls Try.prog 19 #[.pointer none] w fun e w' => e = .returned (.slice none 0 0) ∧ w' = w := by
  go_enter Try.func19, Try.ntmps19
  go_wp2_with (go_at_call 33; (with_reducible refine (made_nil _).mono ?_); rintro e w1 ⟨rfl, rfl⟩)
  go_ret
  exact ⟨rfl, rfl⟩
set_option maxRecDepth 100000 in
theorem Nodes_any (w : World) (P : Nat) (v1 v2 : Value) (most : Int) (N : List Nd) (h : PO w P v1 v2 most N) (hl : N.length ≤ 8192) :
    Calls Try.prog 19 #[.pointer (some ⟨P, 0, none⟩)] w fun e w' => ∃ v, e = .returned v ∧ w'.ownsRow w.heap.size 36 7 v N.length (flatN N) ∧ Below w.heap.size w w' := by
  obtain ⟨-, p1, c1, rfl, hN, hp, -⟩ := row_nds h.ns
  have HM := Lib.hid (made_yes w P _ v2 most N h)
  have HC := Lib.hid (Clone_any w p1 c1 N hN (fun e => (hp e).1) hl)
  have k2 := h.c2
  clear h hN hp hl
  generalize N.length = d at *
  go_enter Try.func19, Try.ntmps19
  go_wp2_with (first
    | (go_at_call 33; (with_reducible refine HM.out.mono ?_); rintro e w1 ⟨rfl, rfl⟩)
    | (go_at_call 34; (with_reducible refine HC.out.mono ?_); rintro e w2 ⟨v, rfl, h1, h2⟩; have H1 := Lib.hid h1; have H2 := Lib.hid h2; clear h1 h2))
  go_ret
  exact ⟨_, rfl, H1.out, H2.out⟩

/-- the places of which this list says no, as far as k -/
def noes (T : List Bool) (k : Nat) : List Int := ((List.range k).filter (fun i => !(T.getD i true))).map Int.ofNat
theorem noes_yes {T : List Bool} {k : Nat} (h : T[k]? = some true) : noes T (k + 1) = noes T k := by
  unfold noes
  rw [List.range_succ, List.filter_append]
  simp [List.getD_eq_getElem?_getD, h]
theorem noes_no {T : List Bool} {k : Nat} (h : T[k]? = some false) : noes T (k + 1) = noes T k ++ [(k : Int)] := by
  unfold noes
  rw [List.range_succ, List.filter_append]
  simp [List.getD_eq_getElem?_getD, h]
theorem noes_len (T : List Bool) (k : Nat) : (noes T k).length ≤ k := by
  unfold noes
  rw [List.length_map]
  exact Nat.le_trans (List.length_filter_le _ _) (by simp)
/-- the roots' places, as numbers -/
def rootsI (N : List Nd) : List Int := (rootsL N).map Int.ofNat
theorem noes_tk (N : List Nd) : noes (tk N) N.length = rootsI N := by
  unfold noes rootsI rootsL
  congr 1
  refine List.filter_congr (fun i hi => ?_)
  rw [List.getD_eq_getElem?_getD, tk_get N (by simpa using hi)]
  rfl

set_option maxRecDepth 100000 in
theorem Roots_nil (w : World) : Calls Try.prog 20 #[.pointer none] w fun e w' => e = .returned (.slice none 0 0) ∧ w' = w := by
  go_enter Try.func20, Try.ntmps20
  go_wp2_with (go_at_call 33; (with_reducible refine (made_nil _).mono ?_); rintro e w1 ⟨rfl, rfl⟩)
  go_ret
  exact ⟨rfl, rfl⟩
set_option maxRecDepth 100000 in
set_option maxHeartbeats 1600000 in
theorem Roots_any (w : World) (P : Nat) (v1 v2 : Value) (most : Int) (N : List Nd) (h : PO w P v1 v2 most N) (hl : N.length ≤ 8192) :
    Calls Try.prog 20 #[.pointer (some ⟨P, 0, none⟩)] w fun e w' => ∃ v, e = .returned v ∧ w'.ownsRow w.heap.size 3 1 v (rootsI N).length ((rootsI N).map (Value.int .i64)) ∧ Below w.heap.size w w' := by
  obtain ⟨hlt, p2, c2, rfl, hY⟩ := row_yn h.ts
  have HM := Lib.hid (made_yes w P v1 _ most N h)
  have HT : Hid (∀ k, k < N.length → ∃ b off y, p2 = some ⟨b, off, none⟩ ∧ (tk N)[k]? = some y ∧ w.cell? ⟨b, off + k, none⟩ = some (.bool y)) := Lib.hid (fun k hk => by
    have e : (tk N)[k]? = some ((tk N)[k]'(by omega)) := List.getElem?_eq_getElem _
    rcases hY with h0 | ⟨b, off, hp, hc⟩
    · rw [h0] at hlt; simp at hlt; omega
    · exact ⟨b, off, _, hp, e, hc k _ e⟩)
  have HE := Lib.hid (noes_tk N)
  have k3 := h.c3
  clear h hY hlt
  generalize tk N = T at *
  generalize rootsI N = RI at *
  generalize N.length = d at *
  go_enter Try.func20, Try.ntmps20
  go_wp2_with (go_at_call 33; (with_reducible refine HM.out.mono ?_); rintro e w1 ⟨rfl, rfl⟩)
  go_loopw [3, 14] (fun v i wr => ∃ k : Nat, k ≤ d ∧ i = .int .i64 k ∧ Hid (wr.ownsRow w1.heap.size 3 1 v (noes T k).length ((noes T k).map (Value.int .i64))) ∧ Hid (Below w1.heap.size w1 wr)) (fun _ i _ => d - (intOf i).toNat)
  case atStart => exact ⟨0, Nat.zero_le _, rfl, Lib.hid (World.ownsRow_nil _ _ _ _), Lib.hid (Below.refl _ _)⟩
  case round =>
    rename_i v i
    obtain ⟨k, hk, rfl, HR, HB⟩ := hrel
    by_cases hlt : k < d
    · have hltz : (k : Int) < d := by omega
      obtain ⟨b, off, y, rfl, hye, hc⟩ := HT.out k hlt
      have hcx : wr.cell? ⟨b, off + k, none⟩ = some (.bool y) := (HB.out.cell (World.block_lt_of_cell? w1 _ hc)).trans hc
      have HY := Lib.hid hye
      clear hye hc
      cases y
      · have HA := Lib.hid (HR.out.alloc (.cells #[.int .i64 (k : Int)] 3))
        have HLN := Lib.hid (noes_len T k)
        go_wp2_with (at_builtin; refine wpList_list Try.info3 rfl (by decide) (by decide) Try.underlying25 _ rfl (.tmp 21) (.tmp 23) rfl w1.heap.size _ _ _ rfl HA.out (some ⟨wr.heap.size, 0, none⟩) 1 1 [.int .i64 (k : Int)] rfl rfl (.inr ⟨_, rfl, one_at _ _ _⟩) (by simp [Value.oneCell']) (by have := HLN.out; omega) (by have := HB.out.size; simp; omega) ?_; intro v' w' h1 h2 _; have H1 := Lib.hid h1; have H2 := Lib.hid h2; clear h1 h2)
        go_roundw
        case rel =>
          refine ⟨k + 1, by omega, by go_num, Lib.hid ?_, Lib.hid ?_⟩
          · rw [noes_no HY.out]
            simpa using H1.out
          · exact (HB.out.trans ((Below.refl _ wr).alloc HB.out.size (.cells #[.int .i64 (k : Int)] 3))).grown H2.out (by have := HB.out.size; simp; omega) (fun q hq => (HR.out.lt q hq).1)
        case measure => simp [intOf]; omega
      · go_wp2
        go_roundw
        case rel => exact ⟨k + 1, by omega, by go_num, Lib.hid (by rw [noes_yes HY.out]; exact HR.out), HB⟩
        case measure => simp [intOf]; omega
    · have hltz : ¬ (k : Int) < d := by omega
      obtain rfl : k = d := by omega
      go_wp2
      go_ret
      exact ⟨_, rfl, by rw [← HE.out]; exact HR.out, HB.out⟩

theorem row_ints {w : World} {base n : Nat} {v : Value} {xs : List Int} {k : IntKind} (h : w.ownsRow base 3 1 v n (xs.map (Value.int k))) : ∃ p c, v = .slice p n c ∧ NS w p k xs := by
  obtain ⟨h1, h2⟩ := h
  have hn : xs.length = n := by rw [List.length_map] at h1; omega
  rcases h2 with ⟨rfl, h2⟩ | ⟨g, cap, cur, rfl, hb, hg, hnc, hcm, hcs, htk⟩
  · subst h2
    exact ⟨none, 0, rfl, .inl (List.length_eq_zero_iff.1 hn)⟩
  · refine ⟨some ⟨g, 0, none⟩, cap, rfl, .inr ⟨g, 0, rfl, fun j x e => ?_⟩⟩
    have := row_cells (w := w) (base := base) (n := n) (e := 3) (g := g) (c := cap) (j := j) (xs := xs.map (Value.int k)) ⟨h1, .inr ⟨g, cap, cur, rfl, hb, hg, hnc, hcm, hcs, htk⟩⟩ (u := .int k x) (by rw [List.getElem?_map, e]; rfl)
    rw [Nat.zero_add]
    exact this.1
theorem pbl_types {w : World} {P : Nat} {v1 v2 : Value} {most : Int} {N : List Nd} (h : PO w P v1 v2 most N) {k : Nat} {c : Array Value} {t : TypeId} (hk : w.heap[k]? = some (.cells c t (0, 0))) (h1 : t ≠ 57) (h2 : t ≠ 36) (h3 : t ≠ 4) : k ∉ pbl P v1 v2 := by
  intro e
  rw [mem_pbl] at e
  rcases e with rfl | e | e
  · rw [h.box] at hk
    injection hk with hk
    injection hk with _ hk
    exact h1 hk.symm
  · obtain ⟨cur, h'⟩ := row_type h.ns e
    exact types_ne hk h' h2 rfl
  · obtain ⟨cur, h'⟩ := row_type h.ts e
    exact types_ne hk h' h3 rfl

end Go.Proofs.Ytjobfpnlpfjoeaa
