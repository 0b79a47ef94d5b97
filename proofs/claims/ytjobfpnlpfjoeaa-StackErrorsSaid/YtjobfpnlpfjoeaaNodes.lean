/-
  Lists put behind rows of one's own; CopyNodes, CopyInts, slices.Clone of nodes; a pool's Len, Get, Nodes. No condition but those typed at each theorem.
-/
import Derived.Test.YtjobfpnlpfjoeaaPut
namespace Go.Proofs.Ytjobfpnlpfjoeaa
open Go.RowKit

/-- a slice from which these cells are read -/
def Src (w : World) (p : Option Addr) (m c : Nat) (news : List Value) : Prop := (p = none ∧ m = 0 ∧ c = 0 ∧ news = []) ∨ ∃ a, p = some a ∧ ∀ j u, news[j]? = some u → w.cell? (a.add j) = some u
theorem Src.keep {w w' : World} {p : Option Addr} {m c : Nat} {news : List Value} (h : Src w p m c news) (hb : Below w.heap.size w w') : Src w' p m c news := by
  rcases h with h | ⟨a, h1, h2⟩
  · exact .inl h
  · refine .inr ⟨a, h1, fun j u e => (World.cell?_of_block (hb.block _ (World.block_lt_of_cell? w _ (h2 j u e)))).trans (h2 j u e)⟩
theorem NdS.src {w : World} {p : Option Addr} {c : Nat} {ns : List Nd} (h : NdS w p ns) (hp : p = none → c = 0) : Src w p ns.length c (flatN ns) := by
  cases p with
  | none =>
    have he : ns = [] := by
      rcases h with h | ⟨b, off, h, -⟩
      · exact h
      · cases h
    subst he
    exact .inl ⟨rfl, rfl, hp rfl, rfl⟩
  | some a =>
    refine .inr ⟨a, rfl, fun j u e => ?_⟩
    have hj := (List.getElem?_eq_some_iff.1 e).1
    rw [flatN_len] at hj
    obtain ⟨n, hn⟩ : ∃ n, ns[j / 7]? = some n := ⟨_, List.getElem?_eq_getElem (by omega)⟩
    obtain ⟨b, off, hp', h1⟩ := h.at hn
    cases hp'
    have hm : j % 7 < 7 := Nat.mod_lt _ (by omega)
    have e2 := flatN_get ns hn hm
    rw [show j / 7 * 7 + j % 7 = j by omega] at e2
    rw [e2] at e
    rw [Addr.add_lit, show off + j = off + j / 7 * 7 + j % 7 by omega]
    obtain ⟨i, hi⟩ : ∃ i, i = j % 7 := ⟨_, rfl⟩
    rw [← hi] at e hm ⊢
    have hcases : i = 0 ∨ i = 1 ∨ i = 2 ∨ i = 3 ∨ i = 4 ∨ i = 5 ∨ i = 6 := by omega
    rcases hcases with h | h | h | h | h | h | h <;> subst h <;> simp [nvs] at e <;> subst e
    · exact h1.c0
    · exact h1.c1
    · exact h1.c2
    · exact h1.c3
    · exact h1.c4
    · exact h1.c5
    · exact h1.c6
theorem NS.src {w : World} {p : Option Addr} {c : Nat} {xs : List Int} {k : IntKind} (h : NS w p k xs) (hp : p = none → c = 0) : Src w p xs.length c (xs.map (Value.int k)) := by
  cases p with
  | none =>
    have he : xs = [] := by
      rcases h with h | ⟨b, off, h, -⟩
      · exact h
      · cases h
    subst he
    exact .inl ⟨rfl, rfl, hp rfl, rfl⟩
  | some a =>
    refine .inr ⟨a, rfl, fun j u e => ?_⟩
    rw [List.getElem?_map] at e
    cases hx : xs[j]? with
    | none => rw [hx] at e; cases e
    | some x =>
      rw [hx] at e
      cases e
      rcases h with rfl | ⟨b, off, h1, h2⟩
      · simp at hx
      · cases h1
        rw [Addr.add_lit]
        exact h2 j x hx
theorem run_list {P : Program} {e : TypeId} {z : Value} {size bytes : Nat} (hi : (P.info? e).map (fun i => (i.zero, i.size, i.bytes)) = some (some z, size, bytes)) (hzs : z.cells.size = size) (hsz : 0 < size) (hby : bytes ≤ 64)
    {t : TypeId} (ht : P.underlying t = some (.slice e)) (ty : TypeId) (w : World) (base : Nat) (v : Value) (n : Nat) (xs : List Value) (hown : w.ownsRow base e size v n xs) (p : Option Addr) (m c : Nat) (news : List Value) (hl : news.length = m * size)
    (hs : Src w p m c news) (h1 : ∀ u ∈ news, u.oneCell' = true) (hn : n + m ≤ 100000) (hb : base ≤ w.heap.size) :
    ∃ v' w', (Builtin.append_ #[t, t] ty #[v, .slice p m c]).run P w = .ok v' w' ∧ w'.ownsRow base e size v' (n + m) (xs ++ news) ∧ w.grownBy w' v.ownBlock ∧ (v ≠ .slice none 0 0 → v' ≠ .slice none 0 0) := by
  obtain ⟨i0, hi0, hz0, hz1, hz2⟩ := info_parts hi
  have hmx : maxLen = 9223372036854775807 := rfl
  have hbb : (n + m) * bytes ≤ 100000 * 64 := Nat.mul_le_mul hn hby
  rcases hs with ⟨rfl, rfl, rfl, rfl⟩ | ⟨a, rfl, hc⟩
  · exact ⟨v, w, run_append_owned_none (P := P) (w := w) base t ty e i0 size ht hi0 v n xs hown, by simpa using hown, ⟨rfl, rfl, rfl, Nat.le_refl _, fun _ _ _ => rfl⟩, id⟩
  · obtain ⟨v', w', h3, h4, h5, h6⟩ := run_append_own (P := P) w base t ty e i0 z size bytes ht hi0 hz0 hz1 hz2 hzs hsz v n xs hown a m c news hl hc h1 (by omega) (by omega) hb
    exact ⟨v', w', h3, h4, h5, fun hv e => hv (h6.1 e).1⟩
theorem wpList_list {P : Program} {e : TypeId} {z : Value} {size bytes : Nat} (hi : (P.info? e).map (fun i => (i.zero, i.size, i.bytes)) = some (some z, size, bytes)) (hzs : z.cells.size = size) (hsz : 0 < size) (hby : bytes ≤ 64)
    {t : TypeId} (ht : P.underlying t = some (.slice e)) (w : World) {ops : Array Oper} {rest : List Oper} {o : Oper} {a : Act} {Q : Exit → Act → World → Prop} (hg : o.guard = none) (s x : Operand) (hop : o.op = Op.call { callee := Callee.builtin Builtin.append, args := #[s, x], argTypes := #[t, t] })
    (base : Nat) (v : Value) (n : Nat) (xs : List Value) (hs : a.eval s = v) (hown : w.ownsRow base e size v n xs) (p : Option Addr) (m c : Nat) (news : List Value) (hx : a.eval x = .slice p m c) (hl : news.length = m * size)
    (hsrc : Src w p m c news) (h1 : ∀ u ∈ news, u.oneCell' = true) (hn : n + m ≤ 100000) (hb : base ≤ w.heap.size)
    (hK : ∀ v' w', w'.ownsRow base e size v' (n + m) (xs ++ news) → w.grownBy w' v.ownBlock → (v ≠ .slice none 0 0 → v' ≠ .slice none 0 0) → wpList P ops Q rest (a.put o.dst v') w') :
    wpList P ops Q (o :: rest) a w :=
  wpList_plain hg fun K hK' => by
    obtain ⟨v', w', hr, r1, r2, r3⟩ := run_list hi hzs hsz hby ht o.type w base v n xs hown p m c news hl hsrc h1 hn hb
    unfold Oper.wp execOp
    simp only [hop, resolve, invoke, builtin, Sem.run_bind, Sem.run_pure, Result.andThen_ok, List.map_toArray, List.map_cons, List.map_nil, hs, hx, hr]
    exact hK' _ _ (hK v' w' r1 r2 r3)

theorem ints_one (xs : List Int) (k : IntKind) : ∀ u ∈ xs.map (Value.int k), u.oneCell' = true := by
  intro u hu
  simp at hu
  obtain ⟨a, _, rfl⟩ := hu
  rfl

set_option maxRecDepth 100000 in
set_option maxHeartbeats 1600000 in
theorem CopyNodes_any (w : World) (p : Option Addr) (c : Nat) (ns : List Nd) (hx : NdS w p ns) (hp : p = none → c = 0) (hl : ns.length ≤ 8192) :
    Calls Try.prog 9 #[.slice p ns.length c] w fun e w' => ∃ v, e = .returned v ∧ w'.ownsRow w.heap.size 36 7 v ns.length (flatN ns) ∧ Below w.heap.size w w' := by
  have HO := Lib.hid (World.ownsRow_made (base := w.heap.size) (e := 36) (size := 7) w #[] 0 (Nat.le_refl _) (by simp [maxLen]) rfl)
  have HK := Lib.hid ((hx.src hp).keep ((Below.refl _ w).alloc (Nat.le_refl _) (.cells #[] 36)))
  clear hx hp
  go_enter Try.func9, Try.ntmps9
  go_wp2_with (at_builtin; refine wpList_list Try.info36 rfl (by decide) (by decide) Try.underlying22 _ rfl (.tmp 3) (.tmp 4) rfl w.heap.size (.slice (some ⟨w.heap.size, 0, none⟩) 0 0) 0 [] rfl HO.out p ns.length c (flatN ns) rfl (flatN_len ns) HK.out (flatN_one ns) (by omega) (by simp) ?_; intro v' w' h1 h2 _; have H1 := Lib.hid h1; have H2 := Lib.hid h2; clear h1 h2)
  go_ret
  refine ⟨_, rfl, by simpa using H1.out, ?_⟩
  exact ((Below.refl _ w).alloc (Nat.le_refl _) (.cells #[] 36)).grown H2.out (by simp) (fun k hk => by simp [Value.ownBlock] at hk; omega)

set_option maxRecDepth 100000 in
set_option maxHeartbeats 1600000 in
theorem Clone_any (w : World) (p : Option Addr) (c : Nat) (ns : List Nd) (hx : NdS w p ns) (hp : p = none → c = 0) (hl : ns.length ≤ 8192) :
    Calls Try.prog 34 #[.slice p ns.length c] w fun e w' => ∃ v, e = .returned v ∧ w'.ownsRow w.heap.size 36 7 v ns.length (flatN ns) ∧ Below w.heap.size w w' := by
  have HO := Lib.hid (World.ownsRow_made (base := w.heap.size) (e := 36) (size := 7) w #[] 0 (Nat.le_refl _) (by simp [maxLen]) rfl)
  have HK := Lib.hid ((hx.src hp).keep ((Below.refl _ w).alloc (Nat.le_refl _) (.cells #[] 36)))
  have q22 : ∀ (w : World) (a : Option Addr) (n c n' c' : Nat), (binOp .eql 22 (.slice a n c) (.slice none n' c')).run Try.prog w = .ok (.bool a.isNone) w := fun w a n c n' c' => Lib.run_eql_slice_nil w _ _ a n c n' c' Try.underlying22
  cases p with
  | none =>
    have he : ns = [] := by
      rcases hx with h | ⟨b, off, h, -⟩
      · exact h
      · cases h
    subst he
    clear hx HK
    go_enter Try.func34, Try.ntmps34
    go_wp2
    go_ret
    exact ⟨_, rfl, World.ownsRow_nil _ _ _ _, Below.refl _ _⟩
  | some b =>
    clear hx hp
    go_enter Try.func34, Try.ntmps34
    go_wp2_with (at_builtin; refine wpList_list Try.info36 rfl (by decide) (by decide) Try.underlying22 _ rfl (.tmp 5) (.tmp 6) rfl w.heap.size (.slice (some ⟨w.heap.size, 0, none⟩) 0 0) 0 [] rfl HO.out (some b) ns.length c (flatN ns) rfl (flatN_len ns) HK.out (flatN_one ns) (by omega) (by simp) ?_; intro v' w' h1 h2 _; have H1 := Lib.hid h1; have H2 := Lib.hid h2; clear h1 h2)
    go_ret
    refine ⟨_, rfl, by simpa using H1.out, ?_⟩
    exact ((Below.refl _ w).alloc (Nat.le_refl _) (.cells #[] 36)).grown H2.out (by simp) (fun k hk => by simp [Value.ownBlock] at hk; omega)
end Go.Proofs.Ytjobfpnlpfjoeaa
