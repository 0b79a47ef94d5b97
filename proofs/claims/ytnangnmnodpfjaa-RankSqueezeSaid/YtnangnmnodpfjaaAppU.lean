/-
  Numbers put behind numbers in memory of one's own; CopyLongs; slices.Clone of an empty list. No condition but those typed at each theorem.
-/
import Derived.Test.YtnangnmnodpfjaaSqu
import Derived.Laws.AppendOwnNone
namespace Go.Proofs.Ytnangnmnodpfjaa
open Go.RowKit Go.Sort

theorem encU_one (xs : List Int) : ∀ u ∈ xs.map encU, u.oneCell' = true := by
  intro u hu
  simp at hu
  obtain ⟨a, _, rfl⟩ := hu
  rfl
theorem encU_at {w : World} {b off : Nat} {xs : List Int} (h : Ns w b off .i64 xs) : ∀ j u, (xs.map encU)[j]? = some u → w.cell? ((⟨b, off, none⟩ : Addr).add j) = some u := by
  intro j u hu
  have e : ((⟨b, off, none⟩ : Addr).add j) = ⟨b, off + j, none⟩ := by unfold Addr.add; split <;> simp_all
  rw [e]
  rw [List.getElem?_map] at hu
  cases he : xs[j]? with
  | none => rw [he] at hu; cases hu
  | some x => rw [he] at hu; cases hu; exact h j x he
theorem NS.own {w : World} {base n : Nat} {v : Value} {xs : List Int} (h : w.ownsRow base 2 1 v n (xs.map encU)) : ∃ p c, v = .slice p xs.length c ∧ xs.length = n ∧ NS w p .i64 xs ∧ (p = none → c = 0) ∧ (p = none ∨ ∃ g, p = some ⟨g, 0, none⟩) := by
  obtain ⟨h1, h2⟩ := h
  rw [List.length_map] at h1
  have hn : xs.length = n := by omega
  rcases h2 with ⟨rfl, h2⟩ | ⟨g, cap, cur, rfl, hb, hg, hnc, hcm, hcs, htk⟩
  · exact ⟨none, 0, by rw [hn, h2], hn, .inl (List.length_eq_zero_iff.1 (by omega)), fun _ => rfl, .inl rfl⟩
  · refine ⟨some ⟨g, 0, none⟩, cap, by rw [hn], hn, .inr ⟨g, 0, rfl, fun j k e => ?_⟩, (fun h => by cases h), .inr ⟨g, rfl⟩⟩
    have h3 : (xs.map encU)[j]? = some (encU k) := by rw [List.getElem?_map, e]; rfl
    rw [← htk] at h3
    have hj : j < xs.length := (List.getElem?_eq_some_iff.1 e).1
    simp only [List.getElem?_take, show j < n * 1 by omega, if_true, Array.getElem?_toList] at h3
    simp [World.cell?, hg, h3]

theorem run_appU (w : World) (base n : Nat) (v : Value) (xs ys : List Int) (p : Option Addr) (c : Nat) (ty : TypeId) (hown : w.ownsRow base 2 1 v n (xs.map encU)) (hy : NS w p .i64 ys) (hn : p = none → c = 0) (hl : n + ys.length ≤ 100000) (hb : base ≤ w.heap.size) :
    ∃ v' w', (Builtin.append_ #[22, 22] ty #[v, .slice p ys.length c]).run Try.prog w = .ok v' w' ∧ w'.ownsRow base 2 1 v' (n + ys.length) ((xs ++ ys).map encU) ∧ w.grownBy w' v.ownBlock ∧ (v ≠ .slice none 0 0 → v' ≠ .slice none 0 0) := by
  obtain ⟨i0, hi, hz0, hz1, hz2⟩ := info_parts Try.info2
  have hmx : maxLen = 9223372036854775807 := rfl
  cases p with
  | none =>
    have he : ys = [] := by
      rcases hy with h | ⟨b, off, h, -⟩
      · exact h
      · cases h
    subst he
    have hc : c = 0 := hn rfl
    subst hc
    refine ⟨v, w, run_append_owned_none (P := Try.prog) (w := w) base 22 ty 2 i0 1 Try.underlying22 hi v n (xs.map encU) hown, by simpa using hown, ⟨rfl, rfl, rfl, Nat.le_refl _, fun _ _ _ => rfl⟩, id⟩
  | some a =>
    have hc : ∀ j u, (ys.map encU)[j]? = some u → w.cell? (a.add j) = some u := by
      rcases hy with rfl | ⟨b, off, h, hk⟩
      · intro j u hu; simp at hu
      · cases h; exact encU_at hk
    obtain ⟨v', w', h1, h2, h3, h4⟩ := run_append_own (P := Try.prog) w base 22 ty 2 i0 _ 1 8 Try.underlying22 hi hz0 hz1 hz2 rfl (by decide) v n (xs.map encU) hown a ys.length c (ys.map encU) (by simp) hc (encU_one ys) (by omega) (by omega) hb
    exact ⟨v', w', h1, by rw [List.map_append]; exact h2, h3, fun hv e => hv (h4.1 e).1⟩
theorem wpList_appU {ops : Array Oper} {rest : List Oper} {op : Oper} {a : Act} {Q : Exit → Act → World → Prop} {w : World} (hgd : op.guard = none) (s x : Operand)
    (ho : op.op = .call { callee := .builtin .append, args := #[s, x], argTypes := #[22, 22] }) (base n : Nat) (v : Value) (xs ys : List Int) (p : Option Addr) (c : Nat)
    (hs : a.eval s = v) (hx : a.eval x = .slice p ys.length c) (hown : w.ownsRow base 2 1 v n (xs.map encU)) (hy : NS w p .i64 ys) (hn : p = none → c = 0) (hl : n + ys.length ≤ 100000) (hb : base ≤ w.heap.size)
    (h : ∀ v' w', w'.ownsRow base 2 1 v' (n + ys.length) ((xs ++ ys).map encU) → w.grownBy w' v.ownBlock → (v ≠ .slice none 0 0 → v' ≠ .slice none 0 0) → wpList Try.prog ops Q rest (a.put op.dst v') w') : wpList Try.prog ops Q (op :: rest) a w :=
  wpList_plain hgd fun K hK => by
    obtain ⟨v', w', hr, h2, h3, h4⟩ := run_appU w base n v xs ys p c op.type hown hy hn hl hb
    unfold Oper.wp execOp
    simp only [ho, resolve, invoke, builtin, Sem.run_bind, Sem.run_pure, Result.andThen_ok, List.map_toArray, List.map_cons, List.map_nil, hs, hx, hr]
    exact hK _ _ (h v' w' h2 h3 h4)

set_option maxRecDepth 100000 in
set_option maxHeartbeats 1600000 in
theorem CopyLongs_any (w : World) (p : Option Addr) (c : Nat) (xs : List Int) (hx : NS w p .i64 xs) (hn : p = none → c = 0) (hl : xs.length ≤ 8192) :
    Calls Try.prog 10 #[.slice p xs.length c] w fun e w' => ∃ v, e = .returned v ∧ w'.ownsRow w.heap.size 2 1 v xs.length (xs.map encU) ∧ Below w.heap.size w w' := by
  have hO := World.ownsRow_made (base := w.heap.size) (e := 2) (size := 1) w #[] 0 (Nat.le_refl _) (by simp [maxLen]) rfl
  have HO := Lib.hid hO
  have HK := Lib.hid (hx.keep ((Below.refl _ w).alloc (Nat.le_refl _) (.cells #[] 2)))
  clear hO hx
  go_enter Try.func10, Try.ntmps10
  go_wp2_with (at_builtin; refine wpList_appU rfl (.tmp 3) (.tmp 4) rfl w.heap.size 0 (.slice (some ⟨w.heap.size, 0, none⟩) 0 0) [] xs p c rfl rfl HO.out HK.out hn (by omega) (by simp) ?_; intro v' w' h1 h2 _; have H1 := Lib.hid h1; have H2 := Lib.hid h2; clear h1 h2)
  go_ret
  refine ⟨_, rfl, by simpa using H1.out, ?_⟩
  exact ((Below.refl _ w).alloc (Nat.le_refl _) (.cells #[] 2)).grown H2.out (by simp) (fun k hk => by simp [Value.ownBlock] at hk; omega)

set_option maxRecDepth 100000 in
set_option maxHeartbeats 1600000 in
theorem Clone_some (w : World) (b : Addr) (c : Nat) (xs : List Int) (hx : NS w (some b) .i64 xs) (hl : xs.length ≤ 8192) :
    Calls Try.prog 25 #[.slice (some b) xs.length c] w fun e w' => ∃ v, e = .returned v ∧ w'.ownsRow w.heap.size 2 1 v xs.length (xs.map encU) ∧ v ≠ .slice none 0 0 ∧ Below w.heap.size w w' := by
  have hO := World.ownsRow_made (base := w.heap.size) (e := 2) (size := 1) w #[] 0 (Nat.le_refl _) (by simp [maxLen]) rfl
  have HO := Lib.hid hO
  have HK := Lib.hid (hx.keep ((Below.refl _ w).alloc (Nat.le_refl _) (.cells #[] 2)))
  have q22 : ∀ (w : World) (a : Option Addr) (n c n' c' : Nat), (binOp .eql 22 (.slice a n c) (.slice none n' c')).run Try.prog w = .ok (.bool a.isNone) w := fun w a n c n' c' => Lib.run_eql_slice_nil w _ _ a n c n' c' Try.underlying22
  clear hO hx
  go_enter Try.func25, Try.ntmps25
  go_wp2_with (at_builtin; refine wpList_appU rfl (.tmp 5) (.tmp 6) rfl w.heap.size 0 (.slice (some ⟨w.heap.size, 0, none⟩) 0 0) [] xs (some b) c rfl rfl HO.out HK.out (fun h => by cases h) (by omega) (by simp) ?_; intro v' w' h1 h2 h3; have H1 := Lib.hid h1; have H2 := Lib.hid h2; have H3 := Lib.hid (h3 (fun h => by cases h)); clear h1 h2 h3)
  go_ret
  refine ⟨_, rfl, by simpa using H1.out, H3.out, ?_⟩
  exact ((Below.refl _ w).alloc (Nat.le_refl _) (.cells #[] 2)).grown H2.out (by simp) (fun k hk => by simp [Value.ownBlock] at hk; omega)
end Go.Proofs.Ytnangnmnodpfjaa
