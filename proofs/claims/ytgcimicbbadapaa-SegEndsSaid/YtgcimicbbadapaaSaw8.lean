/-
  The examples of layer 8's statements hold (awake), over any tree of spans. No condition but those typed at each theorem.
-/
import Derived.Test.YtgcimicbbadapaaSif
namespace Go.Proofs.Ytgcimicbbadapaa
open Go.RowKit

def L0 : List S3 := [(0, 4, 1), (4, 9, 2), (6, 6, 3)]
theorem rg0 : Rg L0 := by decide
theorem dr0 : drp L0 (4, 9, 2) = [(0, 4, 1), (6, 6, 3)] := by decide
theorem dr1 : drp [(0, 4, 1), (6, 6, 3)] (6, 7, 3) = [(0, 4, 1), (6, 6, 3)] := by decide
theorem wf0 : ∀ s ∈ L0, Wf3 s := by
  intro s hs
  simp [L0] at hs
  rcases hs with rfl | rfl | rfl <;> exact ⟨rfl, rfl, rfl⟩
theorem nsN (X : World) (xs : List Int) (t : TypeId) : NS (X.alloc (.cells (xs.map (Value.int .u32)).toArray t)) (some ⟨X.heap.size, 0, none⟩) .u32 xs :=
  ((EB.new .u32 t X xs).eq (List.append_nil xs).symm).ns
/-- the law's stabs with a list written beside -/
theorem stabs_new {TS : World → Value → Nat → List Nat → List S3 → Prop} {X : World} {v : Value} {n : Nat} {S : List Nat} {A : List S3} (C : SegC TS) (h : TS X v n S A) (x : Int) (hx : (Lit.int .i64 x).wf = true) (t : TypeId) (xs : List Int) (hs : stb A x = xs) :
    Calls Try.prog 25 #[v, .int .i64 x, .slice (some ⟨X.heap.size, 0, none⟩) xs.length xs.length] (X.alloc (.cells (xs.map (Value.int .u32)).toArray t)) fun e X' => e = .returned (.bool true) ∧ Below X.heap.size X X' := by
  subst hs
  have hb := (Below.refl _ X).alloc (Nat.le_refl _) (.cells ((stb A x).map (Value.int .u32)).toArray t)
  refine (stabs_any C (C.bel h hb) x hx (some ⟨X.heap.size, 0, none⟩) _ (nsN X _ t)).mono ?_
  rintro e w' ⟨rfl, h2⟩
  exact ⟨rfl, hb.trans (h2.mono (by simp))⟩

set_option maxRecDepth 100000 in
set_option maxHeartbeats 6400000 in
theorem awake_any {TS : World → Value → Nat → List Nat → List S3 → Prop} (C : SegC TS) (w : World) : Calls Try.prog 10 #[] w fun e w' => e = .returned (.bool true) ∧ Below w.heap.size w w' := by
  have HBU : Hid (Calls Try.prog 11 #[.slice (some ⟨w.heap.size, 0, none⟩) 3 3] (w.alloc (.cells (flatT L0).toArray 34)) (Built TS (w.alloc (.cells (flatT L0).toArray 34)) L0)) := Lib.hid (C.build _ (some ⟨w.heap.size, 0, none⟩) 3 L0 (.inr ⟨_, 0, rfl, Ts.new w L0 _⟩) (by decide) (by decide) wf0)
  have hB0 := (Below.refl _ w).alloc (Nat.le_refl _) (.cells (flatT L0).toArray 34)
  have HB0 := Lib.hid hB0
  have HS4 := Lib.hid (fun X v n S (h : TS X v n S L0) => stabs_new C h 4 rfl 32 [1, 2] (by decide))
  have HS5 := Lib.hid (fun X v n S (h : TS X v n S L0) => stabs_new C h 5 rfl 32 [2] (by decide))
  have HS6 := Lib.hid (fun X v n S (h : TS X v n S L0) => stabs_new C h 6 rfl 32 [2, 3] (by decide))
  have HS10 : Hid (∀ X v n S, TS X v n S L0 → Calls Try.prog 25 #[v, .int .i64 10, .slice none 0 0] X fun e X' => e = .returned (.bool true) ∧ Below X.heap.size X X') := Lib.hid (fun X v n S h => stabs_any C h 10 rfl none 0 (.inl (by decide)))
  have HS63 := Lib.hid (fun X v n S (h : TS X v n S [(0, 4, 1), (6, 6, 3)]) => stabs_new C h 6 rfl 32 [3] (by decide))
  have HLE : Hid (∀ X v n S, TS X v n S L0 → Calls Try.prog 13 #[v] X fun e X' => e = .returned (.int .i64 3) ∧ Below X.heap.size X X') := Lib.hid (fun X v n S h => C.len h)
  have HLE2 : Hid (∀ X v n S, TS X v n S [(0, 4, 1), (6, 6, 3)] → Calls Try.prog 13 #[v] X fun e X' => e = .returned (.int .i64 2) ∧ Below X.heap.size X X') := Lib.hid (fun X v n S h => C.len h)
  have HDR := Lib.hid (fun X v n S (h : TS X v n S L0) => C.drop (4, 9, 2) h ⟨rfl, rfl, rfl⟩)
  have HDN := Lib.hid (fun X v n S (h : TS X v n S [(0, 4, 1), (6, 6, 3)]) => C.drop (6, 7, 3) h ⟨rfl, rfl, rfl⟩)
  rw [dr0] at HDR
  rw [dr1] at HDN
  have ht : decide (((4, 9, 2) : S3) ∈ L0) = true := by decide
  have hf : decide (((6, 7, 3) : S3) ∈ [((0, 4, 1) : S3), (6, 6, 3)]) = false := by decide
  rw [ht] at HDR
  rw [hf] at HDN
  have hfl : (flatT L0).toArray = #[.int .i64 0, .int .i64 4, .int .u32 1, .int .i64 4, .int .i64 9, .int .u32 2, .int .i64 6, .int .i64 6, .int .u32 3] := rfl
  rw [hfl] at HBU HB0
  simp only [List.map_cons, List.map_nil, List.length_cons, List.length_nil, Nat.zero_add, Nat.reduceAdd] at HS4 HS5 HS6 HS63
  unfold tv at HDR HDN
  clear hB0 ht hf hfl
  go_enter Try.func10, Try.ntmps10
  go_wp2_with (first
    | (go_at_call 11; (with_reducible refine HBU.out.mono ?_); rintro e w1 ⟨hb, hor⟩; rcases hor with ⟨-, v, S, rfl, hT, hS⟩ | ⟨hn, -⟩; rotate_left; (exact absurd rg0 hn); have HT := Lib.hid hT; have HB := Lib.hid (HB0.out.trans (hb.mono HB0.out.size)); have HSS := Lib.hid (show ∀ k ∈ S, w.heap.size ≤ k from fun k hk => Nat.le_trans HB0.out.size (hS k hk)); clear hb hT hS)
    | (go_at_call 25; (with_reducible refine (HS4.out _ _ _ _ HT.out).mono ?_); rintro e w2 ⟨rfl, hb⟩; have HT := Lib.hid (C.bel HT.out hb); have HB := Lib.hid (HB.out.trans (hb.mono HB.out.size)); clear hb)
    | (go_at_call 25; (with_reducible refine (HS5.out _ _ _ _ HT.out).mono ?_); rintro e w2 ⟨rfl, hb⟩; have HT := Lib.hid (C.bel HT.out hb); have HB := Lib.hid (HB.out.trans (hb.mono HB.out.size)); clear hb)
    | (go_at_call 25; (with_reducible refine (HS6.out _ _ _ _ HT.out).mono ?_); rintro e w2 ⟨rfl, hb⟩; have HT := Lib.hid (C.bel HT.out hb); have HB := Lib.hid (HB.out.trans (hb.mono HB.out.size)); clear hb)
    | (go_at_call 25; (with_reducible refine (HS10.out _ _ _ _ HT.out).mono ?_); rintro e w2 ⟨rfl, hb⟩; have HT := Lib.hid (C.bel HT.out hb); have HB := Lib.hid (HB.out.trans (hb.mono HB.out.size)); clear hb)
    | (go_at_call 13; (with_reducible refine (HLE.out _ _ _ _ HT.out).mono ?_); rintro e w2 ⟨rfl, hb⟩; have HT := Lib.hid (C.bel HT.out hb); have HB := Lib.hid (HB.out.trans (hb.mono HB.out.size)); clear hb)
    | (go_at_call 17; (with_reducible refine (HDR.out _ _ _ _ HT.out).mono ?_); rintro e w3 ⟨rfl, S2, hT, hO, hS2⟩; have HT := Lib.hid hT; have HB3 := Lib.hid (HB.out.trans (hO.below (N := w.heap.size) HB.out.size HSS.out)); have HSS := Lib.hid (show ∀ k ∈ S2, w.heap.size ≤ k from fun k hk => (hS2 k hk).elim (HSS.out k) (Nat.le_trans HB.out.size)); have HB := HB3; clear hT hO hS2)
    | (go_at_call 25; (with_reducible refine (HS63.out _ _ _ _ HT.out).mono ?_); rintro e w2 ⟨rfl, hb⟩; have HT := Lib.hid (C.bel HT.out hb); have HB := Lib.hid (HB.out.trans (hb.mono HB.out.size)); clear hb)
    | (go_at_call 17; (with_reducible refine (HDN.out _ _ _ _ HT.out).mono ?_); rintro e w3 ⟨rfl, S2, hT, hO, hS2⟩; have HT := Lib.hid hT; have HB3 := Lib.hid (HB.out.trans (hO.below (N := w.heap.size) HB.out.size HSS.out)); have HSS := Lib.hid (show ∀ k ∈ S2, w.heap.size ≤ k from fun k hk => (hS2 k hk).elim (HSS.out k) (Nat.le_trans HB.out.size)); have HB := HB3; clear hT hO hS2)
    | (go_at_call 13; (with_reducible refine (HLE2.out _ _ _ _ HT.out).mono ?_); rintro e w2 ⟨rfl, hb⟩; have HT := Lib.hid (C.bel HT.out hb); have HB := Lib.hid (HB.out.trans (hb.mono HB.out.size)); clear hb))
  go_ret
  exact ⟨rfl, HB.out⟩
end Go.Proofs.Ytgcimicbbadapaa
