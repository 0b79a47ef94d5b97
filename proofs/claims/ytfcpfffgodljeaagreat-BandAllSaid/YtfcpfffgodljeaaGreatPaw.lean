/-
  The examples of layer 10's statements hold (awake), over any tree of points. No condition but those typed at each theorem.
-/
import Derived.Test.YtfcpfffgodljeaaGreatPif
namespace Go.Proofs.YtfcpfffgodljeaaGreat
open Go.RowKit

def L0 : List S3 := [(0, 0, 1), (2, 5, 2), (2, 1, 3), (7, 3, 4)]
def L1 : List S3 := [(0, 0, 1), (2, 5, 2), (7, 3, 4)]
theorem rg0 : Rg L0 := by decide
theorem dr0 : drp L0 (2, 1, 3) = L1 := by decide
theorem wf0 : ∀ s ∈ L0, Wf3 s := by
  intro s hs
  simp [L0] at hs
  rcases hs with rfl | rfl | rfl | rfl <;> exact ⟨rfl, rfl, rfl⟩
theorem nsN (X : World) (xs : List Int) (t : TypeId) : NS (X.alloc (.cells (xs.map (Value.int .u32)).toArray t)) (some ⟨X.heap.size, 0, none⟩) .u32 xs :=
  ((EB.new .u32 t X xs).eq (List.append_nil xs).symm).ns
/-- the law's has with a list written beside -/
theorem has_new {TS : World → Value → Nat → List Nat → List S3 → Prop} {X : World} {v : Value} {n : Nat} {S : List Nat} {A : List S3} (C : BandC TS) (h : TS X v n S A) (b : B5) (hw : Wf5 b) (t : TypeId) (xs : List Int) (hs : hsS A b.1 = xs) :
    Calls Tryz.prog 37 #[v, bv b, .slice (some ⟨X.heap.size, 0, none⟩) xs.length xs.length] (X.alloc (.cells (xs.map (Value.int .u32)).toArray t)) fun e X' => e = .returned (.bool true) ∧ Below X.heap.size X X' := by
  subst hs
  have hb := (Below.refl _ X).alloc (Nat.le_refl _) (.cells ((hsS A b.1).map (Value.int .u32)).toArray t)
  refine (has_any C (C.bel h hb) b hw (some ⟨X.heap.size, 0, none⟩) _ (nsN X _ t)).mono ?_
  rintro e w' ⟨rfl, h2⟩
  exact ⟨rfl, hb.trans (h2.mono (by simp))⟩

set_option maxRecDepth 100000 in
set_option maxHeartbeats 6400000 in
theorem awake_any {TS : World → Value → Nat → List Nat → List S3 → Prop} (C : BandC TS) (w : World) : Calls Tryz.prog 15 #[] w fun e w' => e = .returned (.bool true) ∧ Below w.heap.size w w' := by
  have HBU : Hid (Calls Tryz.prog 16 #[.slice (some ⟨w.heap.size, 0, none⟩) 4 4] (w.alloc (.cells (flatT L0).toArray 34)) (Built TS (w.alloc (.cells (flatT L0).toArray 34)) L0)) := Lib.hid (C.build _ (some ⟨w.heap.size, 0, none⟩) 4 L0 (.inr ⟨_, 0, rfl, Ts.new w L0 _⟩) (by decide) (by decide) (fun h => by cases h) wf0)
  have hB0 := (Below.refl _ w).alloc (Nat.le_refl _) (.cells (flatT L0).toArray 34)
  have HB0 := Lib.hid hB0
  have HC1 : Hid (∀ X v n S, TS X v n S L0 → Calls Tryz.prog 25 #[v, bv ((0, 7, 0, 3), 0)] X fun e X' => (∃ t : Nat, e = .returned (.tuple #[.int .i64 3, .int .i64 t])) ∧ Below X.heap.size X X') := Lib.hid (fun X v n S h => by
    refine (C.count ((0, 7, 0, 3), 0) h ⟨⟨rfl, rfl, rfl, rfl⟩, rfl⟩).mono ?_
    rintro e w' ⟨⟨t, rfl, -⟩, hb⟩
    exact ⟨⟨t, rfl⟩, hb⟩)
  have HS1 := Lib.hid (fun X v n S (h : TS X v n S L0) => has_new C h ((0, 2, 1, 5), 0) ⟨⟨rfl, rfl, rfl, rfl⟩, rfl⟩ 32 [2, 3] (by decide))
  have HS2 := Lib.hid (fun X v n S (h : TS X v n S L0) => has_new C h ((2, 2, 1, 1), 0) ⟨⟨rfl, rfl, rfl, rfl⟩, rfl⟩ 32 [3] (by decide))
  have HS3 : Hid (∀ X v n S, TS X v n S L0 → Calls Tryz.prog 37 #[v, bv ((3, 1, 0, 9), 0), .slice none 0 0] X fun e X' => e = .returned (.bool true) ∧ Below X.heap.size X X') := Lib.hid (fun X v n S h => has_any C h ((3, 1, 0, 9), 0) ⟨⟨rfl, rfl, rfl, rfl⟩, rfl⟩ none 0 (.inl (by decide)))
  have HS4 := Lib.hid (fun X v n S (h : TS X v n S L1) => has_new C h ((0, 2, 1, 5), 0) ⟨⟨rfl, rfl, rfl, rfl⟩, rfl⟩ 32 [2] (by decide))
  have HDR := Lib.hid (fun X v n S (h : TS X v n S L0) => C.drop (2, 1, 3) h ⟨rfl, rfl, rfl⟩)
  rw [dr0] at HDR
  have ht : decide (((2, 1, 3) : S3) ∈ L0) = true := by decide
  rw [ht] at HDR
  have hfl : (flatT L0).toArray = #[.int .i64 0, .int .i64 0, .int .u32 1, .int .i64 2, .int .i64 5, .int .u32 2, .int .i64 2, .int .i64 1, .int .u32 3, .int .i64 7, .int .i64 3, .int .u32 4] := rfl
  rw [hfl] at HBU HB0
  simp only [List.map_cons, List.map_nil, List.length_cons, List.length_nil, Nat.zero_add, Nat.reduceAdd] at HS1 HS2 HS4
  unfold tv at HDR
  unfold bv at HC1 HS1 HS2 HS3 HS4
  clear hB0 ht hfl
  go_enter Tryz.func15, Tryz.ntmps15
  go_upto_region 2 with (go_at_call 16; (with_reducible refine HBU.out.mono ?_); rintro e w1 ⟨hb, hor⟩; rcases hor with ⟨-, v, S, rfl, hT, hS⟩ | ⟨hn, -⟩; rotate_left; (exact absurd rg0 hn); have HT := Lib.hid hT; have HB := Lib.hid (HB0.out.trans (hb.mono HB0.out.size)); have HSS := Lib.hid (show ∀ k ∈ S, w.heap.size ≤ k from fun k hk => Nat.le_trans HB0.out.size (hS k hk)); clear hb hT hS)
  have HSL := Lib.hid (C.lies HT.out)
  obtain ⟨W, hW⟩ : ∃ W, W = w1.alloc (.cells (bvs ((0, 2, 1, 5), 0)).toArray 42) := ⟨_, rfl⟩
  have HN := Lib.hid (show X1 W w1.heap.size 0 ((0, 2, 1, 5), 0) by rw [hW]; exact X1.new w1 ((0, 2, 1, 5), 0) _)
  have HTW := Lib.hid (show TS W v _ S L0 by rw [hW]; exact C.bel HT.out ((Below.refl _ w1).alloc (Nat.le_refl _) _))
  have HBW := Lib.hid (show Below w.heap.size w W by rw [hW]; exact HB.out.alloc HB.out.size _)
  have HW1 := Lib.hid (show w1.alloc (.cells #[.int .i64 0, .int .i64 2, .int .i64 1, .int .i64 5, .int .u32 0] 42) = W from hW.symm)
  have HLT := Lib.hid HN.out.lt
  clear hW HT HB
  have HT := HTW
  have HB := HBW
  clear HTW HBW
  go_upto_region 3 with fail
  rw [HW1.out]
  clear HW1
  have k0 := HN.out.c0
  have k1 := HN.out.c1
  have k2 := HN.out.c2
  have k3 := HN.out.c3
  have k4 := HN.out.c4
  simp only [Nat.zero_add] at k0 k1 k2 k3 k4
  go_wp2_with (first
    | (go_at_call 25; (with_reducible refine (HC1.out _ _ _ _ HT.out).mono ?_); rintro e w2 ⟨⟨t, rfl⟩, hb⟩; have HN := Lib.hid (HN.out.keep hb HLT.out); have HLT := Lib.hid HN.out.lt; have k0 := HN.out.c0; have k1 := HN.out.c1; have k2 := HN.out.c2; have k3 := HN.out.c3; have k4 := HN.out.c4; simp only [Nat.zero_add] at k0 k1 k2 k3 k4; have HT := Lib.hid (C.bel HT.out hb); have HSL := Lib.hid (show ∀ k ∈ S, k < w1.heap.size from HSL.out); have HB := Lib.hid (HB.out.trans (hb.mono HB.out.size)); clear hb)
    | (go_at_call 37; (with_reducible refine (HS1.out _ _ _ _ HT.out).mono ?_); rintro e w3 ⟨rfl, hb⟩; have HN := Lib.hid (HN.out.keep hb HLT.out); have HLT := Lib.hid HN.out.lt; have k0 := HN.out.c0; have k1 := HN.out.c1; have k2 := HN.out.c2; have k3 := HN.out.c3; have k4 := HN.out.c4; simp only [Nat.zero_add] at k0 k1 k2 k3 k4; have HT := Lib.hid (C.bel HT.out hb); have HSL := Lib.hid (show ∀ k ∈ S, k < w1.heap.size from HSL.out); have HB := Lib.hid (HB.out.trans (hb.mono HB.out.size)); clear hb)
    | (go_at_call 37; (with_reducible refine (HS2.out _ _ _ _ HT.out).mono ?_); rintro e w4 ⟨rfl, hb⟩; have HN := Lib.hid (HN.out.keep hb HLT.out); have HLT := Lib.hid HN.out.lt; have k0 := HN.out.c0; have k1 := HN.out.c1; have k2 := HN.out.c2; have k3 := HN.out.c3; have k4 := HN.out.c4; simp only [Nat.zero_add] at k0 k1 k2 k3 k4; have HT := Lib.hid (C.bel HT.out hb); have HSL := Lib.hid (show ∀ k ∈ S, k < w1.heap.size from HSL.out); have HB := Lib.hid (HB.out.trans (hb.mono HB.out.size)); clear hb)
    | (go_at_call 37; (with_reducible refine (HS3.out _ _ _ _ HT.out).mono ?_); rintro e w5 ⟨rfl, hb⟩; have HN := Lib.hid (HN.out.keep hb HLT.out); have HLT := Lib.hid HN.out.lt; have k0 := HN.out.c0; have k1 := HN.out.c1; have k2 := HN.out.c2; have k3 := HN.out.c3; have k4 := HN.out.c4; simp only [Nat.zero_add] at k0 k1 k2 k3 k4; have HT := Lib.hid (C.bel HT.out hb); have HSL := Lib.hid (show ∀ k ∈ S, k < w1.heap.size from HSL.out); have HB := Lib.hid (HB.out.trans (hb.mono HB.out.size)); clear hb)
    | (go_at_call 22; (with_reducible refine (HDR.out _ _ _ _ HT.out).mono ?_); rintro e w6 ⟨rfl, S2, hT, hO, hS2⟩; have HN := Lib.hid (HN.out.off hO (fun h => by have := HSL.out _ h; omega)); have HLT := Lib.hid HN.out.lt; have k0 := HN.out.c0; have k1 := HN.out.c1; have k2 := HN.out.c2; have k3 := HN.out.c3; have k4 := HN.out.c4; simp only [Nat.zero_add] at k0 k1 k2 k3 k4; have HT := Lib.hid hT; have HB3 := Lib.hid (HB.out.trans (hO.below (N := w.heap.size) HB.out.size HSS.out)); have HB := HB3; clear hT hO hS2)
    | (go_at_call 37; (with_reducible refine (HS4.out _ _ _ _ HT.out).mono ?_); rintro e w7 ⟨rfl, hb⟩; have HB := Lib.hid (HB.out.trans (hb.mono HB.out.size)); clear hb))
  go_ret
  exact ⟨rfl, HB.out⟩
end Go.Proofs.YtfcpfffgodljeaaGreat
