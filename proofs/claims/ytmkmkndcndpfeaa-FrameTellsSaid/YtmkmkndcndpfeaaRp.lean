/-
  The document's Path. No condition but those typed at each theorem.
-/
import Derived.Test.YtmkmkndcndpfeaaRd
namespace Go.Proofs.Ytmkmkndcndpfeaa
open Go.RowKit

theorem head_is {post : List Nat} {i : Nat} (hp : post.Pairwise (· > ·)) (h : ∀ k ∈ post, k < i + 1) (hi : i ∈ post) : ∃ tl, post = i :: tl ∧ ∀ k ∈ tl, k < i := by
  cases post with
  | nil => simp at hi
  | cons a tl =>
    rw [List.pairwise_cons] at hp
    have ha := h a (by simp)
    rcases List.mem_cons.1 hi with e | e
    · subst e
      exact ⟨tl, rfl, fun k hk => hp.1 k hk⟩
    · have := hp.1 i e
      omega
theorem ints_snoc (l : List Nat) (k : Nat) : ints (l ++ [k]) = ints l ++ [(k : Int)] := by simp [ints]

set_option maxRecDepth 100000 in
set_option maxHeartbeats 3200000 in
theorem RPath (w : World) (p : Option Addr) (c : Nat) (L : List Nd) (leaf : Nat) (P : List Nat) (hx : NdS w p L) (hl : L.length ≤ 5000) (hP : ∀ k a, L[k]? = some a → (k ∈ P ↔ nf a ≤ leaf ∧ (leaf : Int) < nt a)) (hd : P.Pairwise (· > ·)) (hk : ∀ k ∈ P, k < L.length) (hpl : P.length ≤ 5000) :
    Calls Try.prog 16 #[.slice p L.length c, .int .i64 leaf] w fun e w' => ∃ v, e = .returned v ∧ w'.ownsRow w.heap.size 3 1 v P.length ((ints P).map (Value.int .i64)) ∧ Below w.heap.size w w' := by
  have HX := Lib.hid hx
  have HP := Lib.hid hP
  have HD := Lib.hid hd
  have HK := Lib.hid hk
  obtain ⟨z, hz⟩ : ∃ z, z = L.length := ⟨_, rfl⟩
  have HZ := Lib.hid hz
  rw [← hz] at hl HK
  rw [← hz]
  clear hx hP hd hk hz
  go_enter Try.func16, Try.ntmps16
  go_wp2
  go_loopw [5, 6] (fun v s wr => ∃ (j : Nat) (a : Int) (pre post : List Nat), j ≤ z ∧ s = .int .i64 a ∧ a = (j : Int) - 1 ∧ pre.length ≤ 5000 ∧ Hid (P = pre ++ post ∧ (∀ k ∈ pre, j ≤ k) ∧ ∀ k ∈ post, k < j) ∧ Hid (wr.ownsRow w.heap.size 3 1 v pre.length ((ints pre).map (Value.int .i64))) ∧ Hid (Below w.heap.size w wr)) (fun _ s _ => (intOf s + 1).toNat)
  case atStart => exact ⟨z, _, [], P, Nat.le_refl _, rfl, by rfl, by simp, Lib.hid ⟨rfl, by simp, HK.out⟩, Lib.hid (World.ownsRow_nil _ _ _ _), Lib.hid (Below.refl _ _)⟩
  case round =>
    rename_i v s
    obtain ⟨j, a, pre, post, hj, rfl, ha, hpre, HPP, HR, HB⟩ := hrel
    by_cases hj0 : j = 0
    · obtain rfl : a = -1 := by omega
      clear ha
      go_wp2
      go_ret
      have h1 := HPP.out
      have hpost : post = [] := by
        cases post with
        | nil => rfl
        | cons k tl => have := h1.2.2 k (by simp); omega
      rw [hpost, List.append_nil] at h1
      exact ⟨_, rfl, by rw [h1.1]; exact HR.out, HB.out⟩
    · obtain ⟨i, hi⟩ : ∃ i, j = i + 1 := ⟨j - 1, by omega⟩
      obtain rfl : a = (i : Int) := by omega
      have hi0 : ¬ (i : Int) < 0 := by omega
      have hiz : (i : Int) < z := by omega
      obtain ⟨n, hn⟩ : ∃ n, L[i]? = some n := ⟨_, List.getElem?_eq_getElem (by have := HZ.out; omega)⟩
      obtain ⟨b, off, rfl, h1⟩ := HX.out.at hn
      have h2 := h1.keep HB.out h1.lt
      have n3 := h2.c3
      have n4 := h2.c4
      have hmem := HP.out i n hn
      have HJ := Lib.hid hi
      clear h1 h2 hn ha
      obtain ⟨kk, l, r, f, t, aa, q⟩ := n
      simp only [nf, nt] at n3 n4 hmem
      have hcase : (f ≤ (leaf : Int) ∧ (leaf : Int) < t ∧ i ∈ P) ∨ (¬ f ≤ (leaf : Int) ∧ i ∉ P) ∨ (f ≤ (leaf : Int) ∧ ¬ (leaf : Int) < t ∧ i ∉ P) := by
        by_cases q1 : f ≤ (leaf : Int)
        · by_cases q2 : (leaf : Int) < t
          · exact .inl ⟨q1, q2, hmem.2 ⟨q1, q2⟩⟩
          · exact .inr (.inr ⟨q1, q2, fun h => q2 (hmem.1 h).2⟩)
        · exact .inr (.inl ⟨q1, fun h => q1 (hmem.1 h).1⟩)
      clear hmem hi hj0
      have HNO : Hid (i ∉ P → P = pre ++ post ∧ (∀ k ∈ pre, i ≤ k) ∧ ∀ k ∈ post, k < i) := Lib.hid (fun hni => by
        obtain ⟨g1, g2, g3⟩ := HPP.out
        refine ⟨g1, fun k hk => by have := g2 k hk; have := HJ.out; omega, fun k hk => ?_⟩
        have h3 := g3 k hk
        have h4 : k ≠ i := fun e => hni (by rw [g1, ← e]; exact List.mem_append.2 (.inr hk))
        have := HJ.out
        omega)
      rcases hcase with ⟨q1, q2, q3⟩ | ⟨q1, q3⟩ | ⟨q1, q2, q3⟩
      · have hpp : ∃ tl, P = pre ++ [i] ++ tl ∧ (∀ k ∈ pre ++ [i], i ≤ k) ∧ ∀ k ∈ tl, k < i := by
          obtain ⟨g1, g2, g3⟩ := HPP.out
          have hip : i ∈ post := by
            rw [g1] at q3
            rcases List.mem_append.1 q3 with h | h
            · have := g2 i h; have := HJ.out; omega
            · exact h
          have hdp : post.Pairwise (· > ·) := by have := HD.out; rw [g1] at this; exact (List.pairwise_append.1 this).2.1
          obtain ⟨tl, e, h5⟩ := head_is hdp (fun k hk => by have := g3 k hk; have := HJ.out; omega) hip
          refine ⟨tl, by rw [g1, e]; simp, fun k hk => ?_, h5⟩
          rcases List.mem_append.1 hk with h | h
          · have := g2 k h; have := HJ.out; omega
          · simp at h; omega
        obtain ⟨tl, hpp⟩ := hpp
        have HPP2 := Lib.hid hpp
        have hpre2 : (pre ++ [i]).length ≤ 5000 := by have := congrArg List.length hpp.1; simp at this ⊢; omega
        have HA := Lib.hid (HR.out.alloc (.cells #[.int .i64 (i : Int)] 3))
        clear hpp HPP HNO q3
        go_wp2_with (at_builtin; refine wpList_list Try.info3 rfl (by decide) (by decide) Try.underlying29 _ rfl (.tmp 30) (.tmp 32) rfl w.heap.size _ _ _ rfl HA.out (some ⟨_, 0, none⟩) 1 1 [.int .i64 (i : Int)] rfl rfl (.inr ⟨_, rfl, one_at _ _ _⟩) (by simp [Value.oneCell']) (by omega) (by have := HB.out.size; simp; omega) ?_; intro v' w' h1 h2 _; have H1 := Lib.hid h1; have H2 := Lib.hid h2; clear h1 h2)
        go_roundw
        case rel =>
          refine ⟨i, (i : Int) - 1, pre ++ [i], tl, by omega, rfl, rfl, hpre2, HPP2, Lib.hid ?_, Lib.hid ?_⟩
          · rw [ints_snoc, List.map_append, List.length_append]
            exact H1.out
          · exact (HB.out.alloc HB.out.size (.cells #[.int .i64 (i : Int)] 3)).grown H2.out (by have := HB.out.size; simp; omega) (fun q hq => (HR.out.lt q hq).1)
        case measure => simp [intOf]
      · have HPP2 := Lib.hid (HNO.out q3)
        clear HPP HNO q3
        go_wp2
        go_roundw
        case rel => exact ⟨i, (i : Int) - 1, pre, post, by omega, rfl, rfl, hpre, HPP2, HR, HB⟩
        case measure => simp [intOf]
      · have HPP2 := Lib.hid (HNO.out q3)
        clear HPP HNO q3
        go_wp2
        go_roundw
        case rel => exact ⟨i, (i : Int) - 1, pre, post, by omega, rfl, rfl, hpre, HPP2, HR, HB⟩
        case measure => simp [intOf]
end Go.Proofs.Ytmkmkndcndpfeaa
