/-
  Keys put behind keys in memory of one's own; CopyKeys. No condition but those typed at each theorem.
-/
import Derived.Test.YtomchimjogdkkaaMath2
import Derived.Laws.AppendOwnNone
namespace Go.Proofs.Ytomchimjogdkkaa
open Go.RowKit

def kcells (ks : List (Int × Int)) : List Value := ks.flatMap fun k => [.int .i64 k.1, .int .u32 k.2]
theorem kcells_len (ks : List (Int × Int)) : (kcells ks).length = ks.length * 2 := by
  induction ks with
  | nil => rfl
  | cons k ks ih => simp [kcells] at ih ⊢; omega
theorem kcells_append (a b : List (Int × Int)) : kcells (a ++ b) = kcells a ++ kcells b := by simp [kcells]
theorem kcells_get (ks : List (Int × Int)) (j : Nat) (k : Int × Int) (h : ks[j]? = some k) : (kcells ks)[j * 2]? = some (.int .i64 k.1) ∧ (kcells ks)[j * 2 + 1]? = some (.int .u32 k.2) := by
  induction ks generalizing j with
  | nil => simp at h
  | cons x ks ih =>
    cases j with
    | zero => simp at h; subst h; simp [kcells]
    | succ j =>
      simp at h
      have := ih j h
      simp only [kcells, List.flatMap_cons] at this ⊢
      rw [show (j + 1) * 2 = j * 2 + 2 by omega, show j * 2 + 2 + 1 = j * 2 + 1 + 2 by omega]
      simpa using this
theorem kcells_one (ks : List (Int × Int)) : ∀ u ∈ kcells ks, u.oneCell' = true := by
  intro u hu
  simp [kcells] at hu
  obtain ⟨a, b, _, rfl | rfl⟩ := hu <;> rfl
theorem kcells_at {w : World} {b off : Nat} {ks : List (Int × Int)} (h : Ks w b off ks) : ∀ j u, (kcells ks)[j]? = some u → w.cell? ((⟨b, off, none⟩ : Addr).add j) = some u := by
  intro j u hu
  have hj : j < ks.length * 2 := by have := (List.getElem?_eq_some_iff.1 hu).1; rwa [kcells_len] at this
  have e : ((⟨b, off, none⟩ : Addr).add j) = ⟨b, off + j, none⟩ := by unfold Addr.add; split <;> simp_all
  rw [e]
  have hk : ks[j / 2]? = some ks[j / 2] := List.getElem?_eq_getElem (by omega)
  have h1 := h (j / 2) _ hk
  have h2 := kcells_get ks (j / 2) _ hk
  rcases Nat.mod_two_eq_zero_or_one j with h3 | h3
  · rw [show off + j = off + j / 2 * 2 by omega, h1.1, ← h2.1, ← hu, show j / 2 * 2 = j by omega]
  · rw [show off + j = off + j / 2 * 2 + 1 by omega, h1.2, ← h2.2, ← hu, show j / 2 * 2 + 1 = j by omega]
theorem KS.own {w : World} {base n : Nat} {v : Value} {ks : List (Int × Int)} (h : w.ownsRow base 40 2 v n (kcells ks)) : ∃ p c, v = .slice p ks.length c ∧ ks.length = n ∧ KS w p ks ∧ (ks = [] → p = none → c = 0) := by
  obtain ⟨h1, h2⟩ := h
  rw [kcells_len] at h1
  have hn : ks.length = n := by omega
  rcases h2 with ⟨rfl, h2⟩ | ⟨g, cap, cur, rfl, hb, hg, hnc, hcm, hcs, htk⟩
  · exact ⟨none, 0, by rw [hn, h2], hn, .inl (List.length_eq_zero_iff.1 (by omega)), fun _ _ => rfl⟩
  · refine ⟨some ⟨g, 0, none⟩, cap, by rw [hn], hn, .inr ⟨g, 0, rfl, fun j k e => ?_, lt_of_block hg⟩, fun _ h => by cases h⟩
    have h3 := kcells_get ks j k e
    rw [← htk] at h3
    have hj : j < ks.length := (List.getElem?_eq_some_iff.1 e).1
    simp only [List.getElem?_take, show j * 2 < n * 2 by omega, show j * 2 + 1 < n * 2 by omega, if_true, Array.getElem?_toList] at h3
    simp [World.cell?, hg, h3]
theorem KS.one (X : World) (x : Int × Int) : KS (X.alloc (.cells #[.int .i64 x.1, .int .u32 x.2] 40)) (some ⟨X.heap.size, 0, none⟩) [x] := by
  have R := Row.new X [.int .i64 x.1, .int .u32 x.2] 40 rfl
  refine .inr ⟨X.heap.size, 0, rfl, ?_, by simp⟩
  intro t k e
  match t, e with
  | 0, e => cases e; exact ⟨R 0 _ rfl, R 1 _ rfl⟩
theorem EB.nsn {k : IntKind} {t : TypeId} {w : World} {A : Nat} {L r : List Int} (h : EB k t w A (L ++ r)) : Ns w A 0 k L :=
  fun j x e => h.cell (by rw [Nat.zero_add, List.getElem?_append_left (List.getElem?_eq_some_iff.1 e).1]; exact e)
theorem Ns.to {w : World} {A o : Nat} {k : IntKind} {xs : List Int} (h : Ns w A o k xs) : NS w (some ⟨A, o, none⟩) k xs := .inr ⟨A, o, rfl, h⟩
theorem Try.info40 : (Try.prog.info? 40).map (fun i => (i.zero, i.size, i.bytes)) = some (some (.agg #[.int .i64 0, .int .u32 0]), 2, 16) := by kernel_rfl

theorem run_appK (w : World) (base n : Nat) (v : Value) (xs ys : List (Int × Int)) (p : Option Addr) (c : Nat) (ty : TypeId) (hown : w.ownsRow base 40 2 v n (kcells xs)) (hy : KS w p ys) (hn : ys = [] → p = none → c = 0) (hl : n + ys.length ≤ 100000) (hb : base ≤ w.heap.size) :
    ∃ v' w', (Builtin.append_ #[22, 22] ty #[v, .slice p ys.length c]).run Try.prog w = .ok v' w' ∧ w'.ownsRow base 40 2 v' (n + ys.length) (kcells (xs ++ ys)) ∧ w.grownBy w' v.ownBlock := by
  obtain ⟨i0, hi, hz0, hz1, hz2⟩ := info_parts Try.info40
  have hmx : maxLen = 9223372036854775807 := rfl
  cases p with
  | none =>
    have he : ys = [] := by
      rcases hy with h | ⟨b, off, h, -⟩
      · exact h
      · cases h
    subst he
    have hc : c = 0 := hn rfl rfl
    subst hc
    refine ⟨v, w, run_append_owned_none (P := Try.prog) (w := w) base 22 ty 40 i0 2 Try.underlying22 hi v n (kcells xs) hown, by simpa using hown, ⟨rfl, rfl, rfl, Nat.le_refl _, fun _ _ _ => rfl⟩⟩
  | some a =>
    have hc : ∀ j u, (kcells ys)[j]? = some u → w.cell? (a.add j) = some u := by
      rcases hy with rfl | ⟨b, off, h, hk, -⟩
      · intro j u hu; simp [kcells] at hu
      · cases h; exact kcells_at hk
    obtain ⟨v', w', h1, h2, h3, -⟩ := run_append_own (P := Try.prog) w base 22 ty 40 i0 _ 2 16 Try.underlying22 hi hz0 hz1 hz2 rfl (by decide) v n (kcells xs) hown a ys.length c (kcells ys) (kcells_len ys) hc (kcells_one ys) (by omega) (by omega) hb
    exact ⟨v', w', h1, by rw [kcells_append]; exact h2, h3⟩
theorem wpList_appK {ops : Array Oper} {rest : List Oper} {op : Oper} {a : Act} {Q : Exit → Act → World → Prop} {w : World} (hgd : op.guard = none) (s x : Operand)
    (ho : op.op = .call { callee := .builtin .append, args := #[s, x], argTypes := #[22, 22] }) (base n : Nat) (v : Value) (xs ys : List (Int × Int)) (p : Option Addr) (c : Nat)
    (hs : a.eval s = v) (hx : a.eval x = .slice p ys.length c) (hown : w.ownsRow base 40 2 v n (kcells xs)) (hy : KS w p ys) (hn : ys = [] → p = none → c = 0) (hl : n + ys.length ≤ 100000) (hb : base ≤ w.heap.size)
    (h : ∀ v' w', w'.ownsRow base 40 2 v' (n + ys.length) (kcells (xs ++ ys)) → w.grownBy w' v.ownBlock → wpList Try.prog ops Q rest (a.put op.dst v') w') : wpList Try.prog ops Q (op :: rest) a w :=
  wpList_plain hgd fun K hK => by
    obtain ⟨v', w', hr, h2, h3⟩ := run_appK w base n v xs ys p c op.type hown hy hn hl hb
    unfold Oper.wp execOp
    simp only [ho, resolve, invoke, builtin, Sem.run_bind, Sem.run_pure, Result.andThen_ok, List.map_toArray, List.map_cons, List.map_nil, hs, hx, hr]
    exact hK _ _ (h v' w' h2 h3)

set_option maxRecDepth 100000 in
set_option maxHeartbeats 1600000 in
theorem CopyKeys_any (w : World) (p : Option Addr) (c : Nat) (ks : List (Int × Int)) (hk : KS w p ks) (hn : ks = [] → p = none → c = 0) (hl : ks.length ≤ 8192) :
    Calls Try.prog 10 #[.slice p ks.length c] w fun e w' => ∃ v, e = .returned v ∧ w'.ownsRow w.heap.size 40 2 v ks.length (kcells ks) ∧ Below w.heap.size w w' := by
  have hO := World.ownsRow_made (base := w.heap.size) (e := 40) (size := 2) w #[] 0 (Nat.le_refl _) (by simp [maxLen]) rfl
  have HO := Lib.hid hO
  have HK := Lib.hid (hk.keep ((Below.refl _ w).alloc (Nat.le_refl _) (.cells #[] 40)))
  clear hO
  go_enter Try.func10, Try.ntmps10
  go_wp2_with (at_builtin; refine wpList_appK rfl (.tmp 3) (.tmp 4) rfl w.heap.size 0 (.slice (some ⟨w.heap.size, 0, none⟩) 0 0) [] ks p c rfl rfl HO.out HK.out hn (by omega) (by simp) ?_; intro v' w' h1 h2; have H1 := Lib.hid h1; have H2 := Lib.hid h2; clear h1 h2)
  go_ret
  refine ⟨_, rfl, by simpa using H1.out, ?_⟩
  exact ((Below.refl _ w).alloc (Nat.le_refl _) (.cells #[] 40)).grown H2.out (by simp) (fun k hk => by simp [Value.ownBlock] at hk; omega)
end Go.Proofs.Ytomchimjogdkkaa
