/-
  A pool's Len, Get, Nodes, Roots; pool.Right. No condition but those typed at each theorem.
-/
import Derived.Test.YtaandlehildcdaaNodes
namespace Go.Proofs.Ytaandlehildcdaa
open Go.RowKit

set_option maxRecDepth 100000 in
theorem Len_nil (w : World) : Calls Try.prog 20 #[.pointer none] w fun e w' => e = .returned (.int .i64 0) ∧ w' = w := by
  go_enter Try.func20, Try.ntmps20
  go_wp2_with (go_at_call 35; (with_reducible refine (made_nil _).mono ?_); rintro e w1 ⟨rfl, rfl⟩)
  go_ret
  exact ⟨rfl, rfl⟩
set_option maxRecDepth 100000 in
theorem Len_any (w : World) (P : Nat) (v1 v2 : Value) (most : Int) (N : List Nd) (h : PO w P v1 v2 most N) :
    Calls Try.prog 20 #[.pointer (some ⟨P, 0, none⟩)] w fun e w' => e = .returned (.int .i64 N.length) ∧ w' = w := by
  obtain ⟨-, p1, c1, rfl, -⟩ := row_nds h.ns
  have HM := Lib.hid (made_yes w P _ v2 most N h)
  have k2 := h.c2
  clear h
  generalize N.length = d at *
  go_enter Try.func20, Try.ntmps20
  go_wp2_with (go_at_call 35; (with_reducible refine HM.out.mono ?_); rintro e w1 ⟨rfl, rfl⟩)
  go_ret
  exact ⟨rfl, rfl⟩

/-- a node, and whether there is one -/
def nod (n : Nd) (b : Bool) : Value := .tuple #[nv n, .bool b]

set_option maxRecDepth 100000 in
set_option maxHeartbeats 1600000 in
theorem Get_nil (w : World) : Calls Try.prog 19 #[.pointer none, .int .i64 0] w fun e w' => e = .returned (nod (0, 0, 0, 0, 0, 0, 0) false) ∧ Below w.heap.size w w' := by
  unfold nod nv
  go_enter Try.func19, Try.ntmps19
  go_wp2_with (go_at_call 20; (with_reducible refine (Len_nil _).mono ?_); rintro e w1 ⟨rfl, rfl⟩)
  refine bodyPost_ret (v := .tuple #[.agg #[.int .u8 0, .int .i64 0, .int .i64 0, .int .i64 0, .int .i64 0, .int .i64 0, .int .i64 0], .bool false]) ?_ rfl ⟨rfl, (Below.refl _ w).alloc (Nat.le_refl _) _⟩
  simp [results, Try.f19, go_sem]
set_option maxRecDepth 100000 in
set_option maxHeartbeats 1600000 in
theorem Get_not (w : World) (P : Nat) (v1 v2 : Value) (most i : Int) (N : List Nd) (h : PO w P v1 v2 most N) (hi : ¬ (0 ≤ i ∧ i < N.length)) :
    Calls Try.prog 19 #[.pointer (some ⟨P, 0, none⟩), .int .i64 i] w fun e w' => e = .returned (nod (0, 0, 0, 0, 0, 0, 0) false) ∧ Below w.heap.size w w' := by
  unfold nod nv
  have HL := Lib.hid (fun o => Len_any (w.alloc o) P v1 v2 most N (h.keep ((Below.refl _ w).alloc (Nat.le_refl _) o)))
  clear h
  generalize N.length = d at *
  by_cases h1 : i < 0
  · go_enter Try.func19, Try.ntmps19
    go_wp2
    refine bodyPost_ret (v := .tuple #[.agg #[.int .u8 0, .int .i64 0, .int .i64 0, .int .i64 0, .int .i64 0, .int .i64 0, .int .i64 0], .bool false]) ?_ rfl ⟨rfl, (Below.refl _ w).alloc (Nat.le_refl _) _⟩
    simp [results, Try.f19, go_sem]
  · have h2 : (d : Int) ≤ i := by omega
    go_enter Try.func19, Try.ntmps19
    go_wp2_with (go_at_call 20; (with_reducible refine (HL.out _).mono ?_); rintro e w1 ⟨rfl, rfl⟩)
    refine bodyPost_ret (v := .tuple #[.agg #[.int .u8 0, .int .i64 0, .int .i64 0, .int .i64 0, .int .i64 0, .int .i64 0, .int .i64 0], .bool false]) ?_ rfl ⟨rfl, (Below.refl _ w).alloc (Nat.le_refl _) _⟩
    simp [results, Try.f19, go_sem]
set_option maxRecDepth 100000 in
set_option maxHeartbeats 1600000 in
theorem Get_any (w : World) (P : Nat) (v1 v2 : Value) (most : Int) (N : List Nd) (i : Nat) (n : Nd) (h : PO w P v1 v2 most N) (hn : N[i]? = some n) :
    Calls Try.prog 19 #[.pointer (some ⟨P, 0, none⟩), .int .i64 i] w fun e w' => e = .returned (nod n true) ∧ Below w.heap.size w w' := by
  have hX := fun o => h.keep ((Below.refl _ w).alloc (Nat.le_refl _) o)
  have HL := Lib.hid (fun o => Len_any (w.alloc o) P v1 v2 most N (hX o))
  obtain ⟨-, p1, c1, rfl, hN, -⟩ := row_nds h.ns
  obtain ⟨b, off, rfl, h1⟩ := hN.at hn
  have h2 := (hX (.cells #[.int .u8 0, .int .i64 0, .int .i64 0, .int .i64 0, .int .i64 0, .int .i64 0, .int .i64 0] 34)).c2
  have h3 := h1.block (w' := w.alloc (.cells #[.int .u8 0, .int .i64 0, .int .i64 0, .int .i64 0, .int .i64 0, .int .i64 0, .int .i64 0] 34)) (Below.heap_alloc _ _ _ h1.lt)
  have n0 := h3.c0
  have n1 := h3.c1
  have n2 := h3.c2
  have n3 := h3.c3
  have n4 := h3.c4
  have n5 := h3.c5
  have n6 := h3.c6
  have hlt : i < N.length := (List.getElem?_eq_some_iff.1 hn).1
  clear h hX h1 h3 hN hn
  generalize N.length = d at *
  have hltz : (i : Int) < d := by omega
  obtain ⟨k, L, R, f, t, a, q⟩ := n
  unfold nod nv
  simp only at n0 n1 n2 n3 n4 n5 n6
  go_enter Try.func19, Try.ntmps19
  go_wp2_with (go_at_call 20; (with_reducible refine (HL.out _).mono ?_); rintro e w1 ⟨rfl, rfl⟩)
  refine bodyPost_ret (v := .tuple #[.agg #[.int .u8 k, .int .i64 L, .int .i64 R, .int .i64 f, .int .i64 t, .int .i64 a, .int .i64 q], .bool true]) ?_ rfl ⟨rfl, (Below.refl _ w).alloc (Nat.le_refl _) _⟩
  simp [results, Try.f19, go_sem]

set_option maxRecDepth 100000 in
theorem Nodes_nil (w : World) : Calls Try.prog 21 #[.pointer none] w fun e w' => e = .returned (.slice none 0 0) ∧ w' = w := by
  go_enter Try.func21, Try.ntmps21
  go_wp2_with (go_at_call 35; (with_reducible refine (made_nil _).mono ?_); rintro e w1 ⟨rfl, rfl⟩)
  go_ret
  exact ⟨rfl, rfl⟩
set_option maxRecDepth 100000 in
theorem Nodes_any (w : World) (P : Nat) (v1 v2 : Value) (most : Int) (N : List Nd) (h : PO w P v1 v2 most N) (hl : N.length ≤ 8192) :
    Calls Try.prog 21 #[.pointer (some ⟨P, 0, none⟩)] w fun e w' => ∃ v, e = .returned v ∧ w'.ownsRow w.heap.size 34 7 v N.length (flatN N) ∧ Below w.heap.size w w' := by
  obtain ⟨-, p1, c1, rfl, hN, hp, -⟩ := row_nds h.ns
  have HM := Lib.hid (made_yes w P _ v2 most N h)
  have HC := Lib.hid (Clone_any w p1 c1 N hN (fun e => (hp e).1) hl)
  have k2 := h.c2
  clear h hN hp hl
  generalize N.length = d at *
  go_enter Try.func21, Try.ntmps21
  go_wp2_with (first
    | (go_at_call 35; (with_reducible refine HM.out.mono ?_); rintro e w1 ⟨rfl, rfl⟩)
    | (go_at_call 36; (with_reducible refine HC.out.mono ?_); rintro e w2 ⟨v, rfl, h1, h2⟩; have H1 := Lib.hid h1; have H2 := Lib.hid h2; clear h1 h2))
  go_ret
  exact ⟨_, rfl, H1.out, H2.out⟩

/-- the places of which this list says no, as far as k -/
def noes (T : List Bool) (k : Nat) : List Int := ((List.range k).filter (fun i => !(T.getD i true))).map Int.ofNat
theorem noes_yes {T : List Bool} {k : Nat} (h : T[k]? = some true) : noes T (k + 1) = noes T k := by
  unfold noes
  rw [List.range_succ, List.filter_append]
  simp [List.getD_eq_getElem?_getD, h]
theorem noes_no {T : List Bool} {k : Nat} (h : T[k]? = some false) : noes T (k + 1) = noes T k ++ [(k : Int)] := by
  unfold noes
  rw [List.range_succ, List.filter_append]
  simp [List.getD_eq_getElem?_getD, h]
theorem noes_len (T : List Bool) (k : Nat) : (noes T k).length ≤ k := by
  unfold noes
  rw [List.length_map]
  exact Nat.le_trans (List.length_filter_le _ _) (by simp)
/-- the roots' places, as numbers -/
def rootsI (N : List Nd) : List Int := (rootsL N).map Int.ofNat
theorem noes_tk (N : List Nd) : noes (tk N) N.length = rootsI N := by
  unfold noes rootsI rootsL
  congr 1
  refine List.filter_congr (fun i hi => ?_)
  rw [List.getD_eq_getElem?_getD, tk_get N (by simpa using hi)]
  rfl

set_option maxRecDepth 100000 in
theorem Roots_nil (w : World) : Calls Try.prog 23 #[.pointer none] w fun e w' => e = .returned (.slice none 0 0) ∧ w' = w := by
  go_enter Try.func23, Try.ntmps23
  go_wp2_with (go_at_call 35; (with_reducible refine (made_nil _).mono ?_); rintro e w1 ⟨rfl, rfl⟩)
  go_ret
  exact ⟨rfl, rfl⟩
set_option maxRecDepth 100000 in
set_option maxHeartbeats 1600000 in
theorem Roots_any (w : World) (P : Nat) (v1 v2 : Value) (most : Int) (N : List Nd) (h : PO w P v1 v2 most N) (hl : N.length ≤ 8192) :
    Calls Try.prog 23 #[.pointer (some ⟨P, 0, none⟩)] w fun e w' => ∃ v, e = .returned v ∧ w'.ownsRow w.heap.size 3 1 v (rootsI N).length ((rootsI N).map (Value.int .i64)) ∧ Below w.heap.size w w' := by
  obtain ⟨hlt, p2, c2, rfl, hY⟩ := row_yn h.ts
  have HM := Lib.hid (made_yes w P v1 _ most N h)
  have HT : Hid (∀ k, k < N.length → ∃ b off y, p2 = some ⟨b, off, none⟩ ∧ (tk N)[k]? = some y ∧ w.cell? ⟨b, off + k, none⟩ = some (.bool y)) := Lib.hid (fun k hk => by
    have e : (tk N)[k]? = some ((tk N)[k]'(by omega)) := List.getElem?_eq_getElem _
    rcases hY with h0 | ⟨b, off, hp, hc⟩
    · rw [h0] at hlt; simp at hlt; omega
    · exact ⟨b, off, _, hp, e, hc k _ e⟩)
  have HE := Lib.hid (noes_tk N)
  have k3 := h.c3
  clear h hY hlt
  generalize tk N = T at *
  generalize rootsI N = RI at *
  generalize N.length = d at *
  go_enter Try.func23, Try.ntmps23
  go_wp2_with (go_at_call 35; (with_reducible refine HM.out.mono ?_); rintro e w1 ⟨rfl, rfl⟩)
  go_loopw [3, 14] (fun v i wr => ∃ k : Nat, k ≤ d ∧ i = .int .i64 k ∧ Hid (wr.ownsRow w1.heap.size 3 1 v (noes T k).length ((noes T k).map (Value.int .i64))) ∧ Hid (Below w1.heap.size w1 wr)) (fun _ i _ => d - (intOf i).toNat)
  case atStart => exact ⟨0, Nat.zero_le _, rfl, Lib.hid (World.ownsRow_nil _ _ _ _), Lib.hid (Below.refl _ _)⟩
  case round =>
    rename_i v i
    obtain ⟨k, hk, rfl, HR, HB⟩ := hrel
    by_cases hlt : k < d
    · have hltz : (k : Int) < d := by omega
      obtain ⟨b, off, y, rfl, hye, hc⟩ := HT.out k hlt
      have hcx : wr.cell? ⟨b, off + k, none⟩ = some (.bool y) := (HB.out.cell (World.block_lt_of_cell? w1 _ hc)).trans hc
      have HY := Lib.hid hye
      clear hye hc
      cases y
      · have HA := Lib.hid (HR.out.alloc (.cells #[.int .i64 (k : Int)] 3))
        have HLN := Lib.hid (noes_len T k)
        go_wp2_with (at_builtin; refine wpList_list Try.info3 rfl (by decide) (by decide) Try.underlying43 _ rfl (.tmp 21) (.tmp 23) rfl w1.heap.size _ _ _ rfl HA.out (some ⟨wr.heap.size, 0, none⟩) 1 1 [.int .i64 (k : Int)] rfl rfl (.inr ⟨_, rfl, one_at _ _ _⟩) (by simp [Value.oneCell']) (by have := HLN.out; omega) (by have := HB.out.size; simp; omega) ?_; intro v' w' h1 h2 _; have H1 := Lib.hid h1; have H2 := Lib.hid h2; clear h1 h2)
        go_roundw
        case rel =>
          refine ⟨k + 1, by omega, by go_num, Lib.hid ?_, Lib.hid ?_⟩
          · rw [noes_no HY.out]
            simpa using H1.out
          · exact (HB.out.trans ((Below.refl _ wr).alloc HB.out.size (.cells #[.int .i64 (k : Int)] 3))).grown H2.out (by have := HB.out.size; simp; omega) (fun q hq => (HR.out.lt q hq).1)
        case measure => simp [intOf]; omega
      · go_wp2
        go_roundw
        case rel => exact ⟨k + 1, by omega, by go_num, Lib.hid (by rw [noes_yes HY.out]; exact HR.out), HB⟩
        case measure => simp [intOf]; omega
    · have hltz : ¬ (k : Int) < d := by omega
      obtain rfl : k = d := by omega
      go_wp2
      go_ret
      exact ⟨_, rfl, by rw [← HE.out]; exact HR.out, HB.out⟩
end Go.Proofs.Ytaandlehildcdaa
