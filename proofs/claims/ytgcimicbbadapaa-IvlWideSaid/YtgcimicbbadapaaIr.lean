/-
  What is asked of a tree of spans by their middles, whatever it is made of; the program's tree is one. No condition but those typed at each theorem.
-/
import Derived.Test.YtgcimicbbadapaaIg
import Derived.Test.YtgcimicbbadapaaIe
import Derived.Test.YtgcimicbbadapaaSr
namespace Go.Proofs.Ytgcimicbbadapaa.Iv
open Go.RowKit

theorem IvM.offS {X X' : World} {P : IvP} {E : List Int} {row RI FA A : List S3} {T : List Nat} (h : IvM X P E row RI FA A) (o : Off T X X') (hS : ∀ k ∈ blks P E row RI FA, k ∉ T) : IvM X' P E row RI FA A := by
  have hm : ∀ k ∈ [P.g, P.sb, P.br, P.bo, P.fr, P.fo, P.wr, P.wo], k ∉ T := fun k hk => hS k (List.mem_append_left _ hk)
  have hp : ∀ k, (k ∈ pb P.qe E.length ∨ k ∈ pb P.pr RI.length ∨ k ∈ pb P.pf FA.length ∨ k ∈ pb P.pw row.length ∨ k ∈ pb P.pl row.length) → k ∉ T := fun k hk => hS k (by
    unfold blks
    rw [List.mem_append, List.mem_append, List.mem_append, List.mem_append, List.mem_append]
    exact .inr hk)
  have hg : P.g ∉ T := hm _ (by simp)
  obtain ⟨R1, O1, h1⟩ := h.ri
  obtain ⟨R2, O2, h2⟩ := h.fa
  obtain ⟨R3, O3, h3⟩ := h.ro
  obtain ⟨L, hL⟩ := h.blk
  exact ⟨o.cell h.self hg, ⟨o.cell h.en.cell hg, h.en.ns.offF o (fun b off e hne => hp b (.inl (pb_mem.2 ⟨by simpa using hne, off, e⟩))), h.en.few⟩, o.cell h.st hg, h.stb.off o (hm _ (by simp)),
    ⟨R1, O1, h1.off o hg (hm _ (by simp)) (hm _ (by simp)) (fun b off e hne => hp b (.inr (.inl (pb_mem.2 ⟨by simpa using hne, off, e⟩))))⟩,
    ⟨R2, O2, h2.off o hg (hm _ (by simp)) (hm _ (by simp)) (fun b off e hne => hp b (.inr (.inr (.inl (pb_mem.2 ⟨by simpa using hne, off, e⟩)))))⟩,
    ⟨R3, O3, h3.off o hg (hm _ (by simp)) (hm _ (by simp)) (fun b off e hne => hp b (.inr (.inr (.inr (.inl (pb_mem.2 ⟨by simpa using hne, off, e⟩))))))⟩,
    o.cell h.los hg, h.lns.offF o (fun b off e hne => hp b (.inr (.inr (.inr (.inr (pb_mem.2 ⟨by simpa using hne, off, e⟩)))))), o.cell h.cnt hg, ⟨L, hL.off o hg⟩⟩
theorem IvM.lies {X : World} {P : IvP} {E : List Int} {row RI FA A : List S3} (h : IvM X P E row RI FA A) : ∀ k ∈ blks P E row RI FA, k < X.heap.size := by
  obtain ⟨R1, O1, h1⟩ := h.ri
  obtain ⟨R2, O2, h2⟩ := h.fa
  obtain ⟨R3, O3, h3⟩ := h.ro
  refine blks_all ?_ (fun x off e hne => ?_) (fun x off e hne => ?_) (fun x off e hne => ?_) (fun x off e hne => ?_) (fun x off e hne => ?_)
  · have a1 := World.block_lt_of_cell? _ _ h.self
    have a2 := h.stb.lt
    have a3 := h1.rb.lt
    have a4 := h1.ob.lt
    have a5 := h2.rb.lt
    have a6 := h2.ob.lt
    have a7 := h3.rb.lt
    have a8 := h3.ob.lt
    intro k hk
    simp only [List.mem_cons, List.not_mem_nil, or_false] at hk
    rcases hk with rfl | rfl | rfl | rfl | rfl | rfl | rfl | rfl <;> assumption
  · have := h.en.ns; rw [e] at this; exact this.ltF hne
  · have := h1.ts; rw [e] at this; exact this.lt hne
  · have := h2.ts; rw [e] at this; exact this.lt hne
  · have := h3.ts; rw [e] at this; exact this.lt hne
  · have := h.lns; rw [e] at this; exact this.ltF (by simpa using hne)
theorem rg_eq {L : List S3} (h : Rg L) {s t : S3} (hs : s ∈ L) (ht : t ∈ L) (e : s.2.2 = t.2.2) : s = t := by
  obtain ⟨i, hi, rfl⟩ := List.mem_iff_getElem.1 hs
  obtain ⟨j, hj, rfl⟩ := List.mem_iff_getElem.1 ht
  have : i = j := (List.getElem?_inj (l := L.map (·.2.2)) (by simpa using hi) h.2).1 (by simp [hi, hj, e])
  subst this
  rfl
theorem rg_of {L A : List S3} (h : Rg L) (hA : A.Nodup) (hs : ∀ s ∈ A, s ∈ L) : Rg A :=
  ⟨fun s m => h.1 s (hs s m), List.pairwise_map.2 (List.Pairwise.imp_of_mem (fun {a b} ha hb hne e => hne (rg_eq h (hs a ha) (hs b hb) e)) hA)⟩
/-- the program's tree -/
def TSi (X : World) (v : Value) (n : Nat) (S : List Nat) (A : List S3) : Prop := ∃ P E row RI FA row2, v = .pointer (some ⟨P.g, 0, none⟩) ∧ IvM X P E row RI FA A ∧ IvI E row RI FA row2 ∧ IvNe P E ∧ A.Nodup ∧ (∀ s ∈ A, s ∈ row) ∧ row.length = n ∧ E.length ≤ 2 * n ∧ S = blks P E row RI FA
/-- what Build hands back: a tree, and no error; or an error, and none -/
def IBuilt (TS : World → Value → Nat → List Nat → List S3 → Prop) (w : World) (L : List S3) (e : Ending) (w' : World) : Prop :=
  Below w.heap.size w w' ∧ ((Rg L ∧ ∃ v S, e = .returned (.tuple #[v, .int .i64 0]) ∧ TS w' v L.length S L ∧ ∀ k ∈ S, w.heap.size ≤ k) ∨ (¬ Rg L ∧ e = .returned (.tuple #[.pointer none, .int .i64 2])))
/-- TS X v n S A: v is a tree that was built of n spans, those of A are there, the blocks S are its own -/
structure IvlC (TS : World → Value → Nat → List Nat → List S3 → Prop) : Prop where
  keep : ∀ {X X' v n S A T}, TS X v n S A → Off T X X' → (∀ k ∈ S, k ∉ T) → TS X' v n S A
  lies : ∀ {X v n S A}, TS X v n S A → ∀ k ∈ S, k < X.heap.size
  build : ∀ (w : World) (p : Option Addr) (c : Nat) (L : List S3), TsS w p L → L.length ≤ 400 → L.length ≤ c → (∀ s ∈ L, Wf3 s) → Calls Try.prog 23 #[.slice p L.length c] w (IBuilt TS w L)
  stab : ∀ {X v n S A} (x : Int), TS X v n S A → Calls Try.prog 36 #[v, .int .i64 x] X fun e X' => (∃ r, ∃ t : Nat, e = .returned (.tuple #[r, .int .i64 t]) ∧ TL X' r (stb A x).length (stb A x) ∧ (stb A x).length ≤ t ∧ t ≤ (stb A x).length + (2 * lgN (2 * n + 1) + 2)) ∧ Below X.heap.size X X'
  meet : ∀ {X v n S A} (lo hi : Int), TS X v n S A → Calls Try.prog 24 #[v, .int .i64 lo, .int .i64 hi] X fun e X' => (∃ r, ∃ t : Nat, e = .returned (.tuple #[r, .int .i64 t]) ∧ TL X' r (mtS A lo hi).length (mtS A lo hi) ∧ (mtS A lo hi).length ≤ t ∧ t ≤ (mtS A lo hi).length + (4 * lgN (2 * n + 1) + 8)) ∧ Below X.heap.size X X'
  few : ∀ {X v n S A}, TS X v n S A → A.length ≤ n ∧ n ≤ 400 ∧ Rg A
  stabN : ∀ X (x : Int), Calls Try.prog 36 #[.pointer none, .int .i64 x] X fun e X' => e = .returned (.tuple #[.slice none 0 0, .int .i64 0]) ∧ Below X.heap.size X X'
  meetN : ∀ X (lo hi : Int), Calls Try.prog 24 #[.pointer none, .int .i64 lo, .int .i64 hi] X fun e X' => e = .returned (.tuple #[.slice none 0 0, .int .i64 0]) ∧ Below X.heap.size X X'
set_option maxRecDepth 100000 in
set_option maxHeartbeats 1600000 in
theorem ibuild_any (w : World) (p : Option Addr) (c : Nat) (L : List S3) (hx : TsS w p L) (hl : L.length ≤ 400) (hc : L.length ≤ c) (hw : ∀ s ∈ L, Wf3 s) :
    Calls Try.prog 23 #[.slice p L.length c] w (IBuilt TSi w L) := by
  have HR := right_any w p c L hx hl hw
  by_cases hr : Rg L
  · rw [decide_eq_true hr] at HR
    have HR := Lib.hid HR
    have HG := Lib.hid (fun Y (hb : Below w.heap.size w Y) => grown_any Y p c L (hx.keep hb) hl hc hr)
    have HRG := Lib.hid hr
    obtain ⟨d, hd⟩ : ∃ d, d = L.length := ⟨_, rfl⟩
    have HD := Lib.hid hd
    rw [← hd] at hl HR HG ⊢
    have hmax : ¬ (d : Int) > 2147483648 := by omega
    clear hx hw hr hd hc
    go_enter Try.func23, Try.ntmps23
    go_wp2_with (first
      | (go_at_call 26; (with_reducible refine HR.out.mono ?_); rintro e w1 ⟨rfl, hb⟩; have HB1 := Lib.hid hb; clear hb)
      | (go_at_call 39; (with_reducible refine (HG.out _ HB1.out).mono ?_); rintro e w2 ⟨P, E, row, RI, FA, row2, rfl, h1, h2, h3, h4, h5, h6, h7⟩; have HT := Lib.hid (show TSi w2 (.pointer (some ⟨P.g, 0, none⟩)) d (blks P E row RI FA) L from ⟨P, E, row, RI, FA, row2, rfl, h1, h2, h3, HRG.out.once, fun s hs => h4.mem_iff.2 hs, by rw [h4.length_eq, HD.out], h5, rfl⟩); have HK := Lib.hid (show ∀ k ∈ blks P E row RI FA, w.heap.size ≤ k from fun k hk => Nat.le_trans HB1.out.size (h6 k hk)); have HB2 := Lib.hid (HB1.out.trans (h7.mono HB1.out.size)); clear h1 h2 h3 h4 h5 h6 h7))
    go_ret2
    refine ⟨HB2.out, .inl ⟨HRG.out, _, _, rfl, ?_, HK.out⟩⟩
    rw [← HD.out]
    exact HT.out
  · rw [decide_eq_false hr] at HR
    have HR := Lib.hid HR
    have HRG := Lib.hid hr
    obtain ⟨d, hd⟩ : ∃ d, d = L.length := ⟨_, rfl⟩
    rw [← hd] at hl HR ⊢
    have hmax : ¬ (d : Int) > 2147483648 := by omega
    clear hx hw hr hd hc
    go_enter Try.func23, Try.ntmps23
    go_wp2_with (go_at_call 26; (with_reducible refine HR.out.mono ?_); rintro e w1 ⟨rfl, hb⟩; have HB1 := Lib.hid hb; clear hb)
    go_ret2
    exact ⟨HB1.out, .inr ⟨HRG.out, rfl⟩⟩
theorem lgN_mono {a b : Nat} (h : a ≤ b) (hb : b ≤ 100000) : lgN a ≤ lgN b := bl_mono (by omega) (by omega)
/-- the program's tree does all that is asked of one -/
theorem ivlC : IvlC TSi where
  keep := by
    rintro X X' v n S A T ⟨P, E, row, RI, FA, row2, rfl, h1, h2, h3, h4, h5, h6, h7, rfl⟩ o hS
    exact ⟨P, E, row, RI, FA, row2, rfl, h1.offS o hS, h2, h3, h4, h5, h6, h7, rfl⟩
  lies := by
    rintro X v n S A ⟨P, E, row, RI, FA, row2, rfl, h1, h2, h3, h4, h5, h6, h7, rfl⟩
    exact h1.lies
  build := ibuild_any
  stab := by
    rintro X v n S A x ⟨P, E, row, RI, FA, row2, rfl, h1, h2, h3, h4, h5, h6, h7, rfl⟩
    refine (stab_yes h1 h2 h4 h5 x).mono ?_
    rintro e w' ⟨⟨r, t, rfl, ht, a1, a2⟩, hb⟩
    have hf := h2.few.1
    have := lgN_mono (a := E.length + 1) (b := 2 * n + 1) (by omega) (by omega)
    exact ⟨⟨r, t, rfl, ht, a1, by omega⟩, hb⟩
  meet := by
    rintro X v n S A lo hi ⟨P, E, row, RI, FA, row2, rfl, h1, h2, h3, h4, h5, h6, h7, rfl⟩
    by_cases hlh : lo ≤ hi
    · refine (meet_yes h1 h2 h4 h5 lo hi hlh).mono ?_
      rintro e w' ⟨⟨r, t, rfl, ht, a1, a2⟩, hb⟩
      have hf := h2.few.1
      have := lgN_mono (a := E.length + 1) (b := 2 * n + 1) (by omega) (by omega)
      have := lgN_mono (a := row.length + 1) (b := 2 * n + 1) (by omega) (by omega)
      exact ⟨⟨r, t, rfl, ht, a1, by omega⟩, hb⟩
    · refine (meet_not h1 lo hi (by omega)).mono ?_
      rintro e w' ⟨rfl, hb⟩
      have e0 : mtS A lo hi = [] := by unfold mtS mtL; rw [if_neg hlh]; rfl
      rw [e0]
      exact ⟨⟨.slice none 0 0, 0, rfl, ⟨rfl, .inl ⟨rfl, rfl⟩⟩, Nat.le_refl _, by omega⟩, hb⟩
  few := by
    rintro X v n S A ⟨P, E, row, RI, FA, row2, rfl, h1, h2, h3, h4, h5, h6, h7, rfl⟩
    exact ⟨by have := sub_len h4 h5; omega, by have := h2.few.1; omega, rg_of h2.rg h4 h5⟩
  stabN := fun X x => (stab_no X x).mono (by rintro e w' ⟨rfl, rfl⟩; exact ⟨rfl, Below.refl _ _⟩)
  meetN := meet_no
end Go.Proofs.Ytgcimicbbadapaa.Iv
