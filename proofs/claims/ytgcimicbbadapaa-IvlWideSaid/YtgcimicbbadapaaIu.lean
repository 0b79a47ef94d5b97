/-
  The law's sameIDs, meets and examples (awake), over any tree of spans by their middles. No condition but those typed at each theorem.
-/
import Derived.Test.YtgcimicbbadapaaIr
namespace Go.Proofs.Ytgcimicbbadapaa.Iv
open Go.RowKit

set_option maxRecDepth 100000 in
set_option maxHeartbeats 3200000 in
theorem sameIDs_any (w : World) (p q : Option Addr) (ca cb : Nat) (xs ys : List Int) (hx : NS w p .u32 xs) (hy : NS w q .u32 ys) (hn : xs.length ≤ 8192) :
    Calls Try.prog 37 #[.slice p xs.length ca, .slice q ys.length cb] w fun e w' => e = .returned (.bool (decide (xs = ys))) ∧ Below w.heap.size w w' := by
  by_cases hlen : xs.length = ys.length
  · have HX := Lib.hid hx
    have HY := Lib.hid hy
    obtain ⟨d, hd⟩ : ∃ d, d = xs.length := ⟨_, rfl⟩
    have HD := Lib.hid hd
    have HD2 := Lib.hid (hd.trans hlen)
    rw [← hlen, ← hd]
    rw [← hd] at hn
    clear hx hy hlen hd
    go_enter Try.func37, Try.ntmps37
    go_wp2
    go_loopw [13] (fun i wr => ∃ k : Nat, k ≤ d ∧ i = .int .i64 k ∧ Hid (xs.take k = ys.take k) ∧ Hid (Below w.heap.size w wr)) (fun i _ => d - (intOf i).toNat)
    case atStart => exact ⟨0, Nat.zero_le _, rfl, Lib.hid rfl, Lib.hid (Below.refl _ _)⟩
    case round =>
      obtain ⟨k, hk, rfl, HT, HB⟩ := hrel
      by_cases hlt : k < d
      · have hltz : (k : Int) < d := by omega
        obtain ⟨x, hxe⟩ : ∃ x, xs[k]? = some x := ⟨_, List.getElem?_eq_getElem (by have := HD.out; omega)⟩
        obtain ⟨y, hye⟩ : ∃ y, ys[k]? = some y := ⟨_, List.getElem?_eq_getElem (by have := HD2.out; omega)⟩
        rcases HX.out with h0 | ⟨b1, o1, rfl, h1⟩
        · rw [h0] at hxe; simp at hxe
        · rcases HY.out with h0 | ⟨b2, o2, rfl, h2⟩
          · rw [h0] at hye; simp at hye
          · have cx : wr.cell? ⟨b1, o1 + k, none⟩ = some (.int .u32 x) := (HB.out.cell (World.block_lt_of_cell? w _ (h1 k x hxe))).trans (h1 k x hxe)
            have cy : wr.cell? ⟨b2, o2 + k, none⟩ = some (.int .u32 y) := (HB.out.cell (World.block_lt_of_cell? w _ (h2 k y hye))).trans (h2 k y hye)
            have HXE := Lib.hid hxe
            have HYE := Lib.hid hye
            clear hxe hye h1 h2
            go_upto_region 6 with fail
            go_quiet (fail)
            by_cases hxy : x = y
            · go_wp2
              go_roundw
              case rel =>
                refine ⟨k + 1, by omega, by go_num, Lib.hid ?_, Lib.hid (drewB HB.out)⟩
                rw [List.take_add_one, List.take_add_one, HT.out, HXE.out, HYE.out, hxy]
              case measure => simp [intOf]; omega
            · go_wp2
              go_ret
              refine ⟨retB ?_, drewB HB.out⟩
              simp
              intro e
              have h1 := HXE.out
              rw [e, HYE.out] at h1
              exact hxy (Option.some.inj h1).symm
      · obtain rfl : k = d := by omega
        have hltz : ¬ (k : Int) < k := by omega
        go_wp2
        go_ret
        refine ⟨retB ?_, HB.out⟩
        have h1 := HT.out
        rw [List.take_of_length_le (by have := HD.out; omega), List.take_of_length_le (by have := HD2.out; omega)] at h1
        simp [h1]
  · have hne : ¬ (xs.length : Int) = ys.length := by omega
    have hne2 : xs ≠ ys := fun e => hlen (by rw [e])
    have HNE := Lib.hid hne2
    clear hx hy hlen hne2
    generalize hd : xs.length = d at *
    generalize he : ys.length = d' at *
    clear hd he
    go_enter Try.func37, Try.ntmps37
    go_wp2
    go_ret
    exact ⟨retB (by simpa using HNE.out), Below.refl _ _⟩
theorem mtS_len (A : List S3) (lo hi : Int) : (mtS A lo hi).length ≤ A.length := by
  unfold mtS mtL
  rw [nsort_len]
  split
  · rw [List.length_map]; exact List.length_filter_le _ _
  · simp
section
variable {TS : World → Value → Nat → List Nat → List S3 → Prop} {X X' : World} {v : Value} {n : Nat} {S : List Nat} {A : List S3}
theorem IvlC.bel (C : IvlC TS) (h : TS X v n S A) (hb : Below X.heap.size X X') : TS X' v n S A := C.keep h (Off.of (S := []) hb (Nat.le_refl _)) (by simp)
theorem nsL (X : World) (xs : List Int) (t : TypeId) : NS (X.alloc (.cells (xs.map (Value.int .u32)).toArray t)) (some ⟨X.heap.size, 0, none⟩) .u32 xs :=
  ((EB.new .u32 t X xs).eq (List.append_nil xs).symm).ns
/-- sameIDs with a list written beside -/
theorem same_new (Y : World) (q : Option Addr) (cq : Nat) (xs : List Int) (h : NS Y q .u32 xs) (hn : xs.length ≤ 8192) (t : TypeId) :
    Calls Try.prog 37 #[.slice q xs.length cq, .slice (some ⟨Y.heap.size, 0, none⟩) xs.length xs.length] (Y.alloc (.cells (xs.map (Value.int .u32)).toArray t)) fun e w' => e = .returned (.bool true) ∧ Below Y.heap.size Y w' := by
  have hb := (Below.refl _ Y).alloc (Nat.le_refl _) (.cells (xs.map (Value.int .u32)).toArray t)
  refine (sameIDs_any _ q _ cq _ xs xs (h.keep hb) (nsL Y xs t) hn).mono ?_
  rintro e w' ⟨rfl, h2⟩
  exact ⟨by simp, hb.trans (h2.mono (by simp))⟩

set_option maxRecDepth 100000 in
set_option maxHeartbeats 1600000 in
theorem imeets_any (C : IvlC TS) (h : TS X v n S A) (lo hi : Int) (p : Option Addr) (c : Nat) (hw : NS X p .u32 (mtS A lo hi)) :
    Calls Try.prog 38 #[v, .int .i64 lo, .int .i64 hi, .slice p (mtS A lo hi).length c] X fun e X' => e = .returned (.bool true) ∧ Below X.heap.size X X' := by
  have hf := C.few h
  have HS := Lib.hid (C.meet lo hi h)
  have hl := mtS_len A lo hi
  have HW := Lib.hid hw
  have HI : Hid (∀ Y q cq, NS Y q .u32 (mtS A lo hi) → NS Y p .u32 (mtS A lo hi) → Calls Try.prog 37 #[.slice q (mtS A lo hi).length cq, .slice p (mtS A lo hi).length c] Y fun e w' => e = .returned (.bool true) ∧ Below Y.heap.size Y w') := Lib.hid (fun Y q cq h1 h2 => by
    refine (sameIDs_any Y q p cq c _ _ h1 h2 (by omega)).mono ?_
    rintro e w' ⟨rfl, hb⟩
    exact ⟨by simp, hb⟩)
  clear h hw
  generalize mtS A lo hi = L at *
  generalize hm : L.length = m at *
  clear hm
  go_enter Try.func38, Try.ntmps38
  go_wp2_with (first
    | (go_at_call 24; (with_reducible refine HS.out.mono ?_); rintro e w1 ⟨⟨r, t, rfl, hr, -, -⟩, hb⟩; obtain ⟨-, q, cq, rfl, hq, -⟩ := hr.u; have HQ := Lib.hid hq; have HB := Lib.hid hb; clear hr hb hq)
    | (go_at_call 37; (with_reducible refine (HI.out _ _ _ HQ.out (HW.out.keep HB.out)).mono ?_); rintro e w3 ⟨rfl, hb⟩; have HB := Lib.hid (HB.out.trans (hb.mono HB.out.size)); clear hb))
  go_ret
  exact ⟨rfl, HB.out⟩
/-- the law's meets with a list written beside -/
theorem meets_new (C : IvlC TS) (h : TS X v n S A) (lo hi : Int) (t : TypeId) (xs : List Int) (hs : mtS A lo hi = xs) :
    Calls Try.prog 38 #[v, .int .i64 lo, .int .i64 hi, .slice (some ⟨X.heap.size, 0, none⟩) xs.length xs.length] (X.alloc (.cells (xs.map (Value.int .u32)).toArray t)) fun e X' => e = .returned (.bool true) ∧ Below X.heap.size X X' := by
  subst hs
  have hb := (Below.refl _ X).alloc (Nat.le_refl _) (.cells ((mtS A lo hi).map (Value.int .u32)).toArray t)
  refine (imeets_any C (C.bel h hb) lo hi (some ⟨X.heap.size, 0, none⟩) _ (nsL X _ t)).mono ?_
  rintro e w' ⟨rfl, h2⟩
  exact ⟨rfl, hb.trans (h2.mono (by simp))⟩
end
def L9 : List S3 := [(0, 4, 1), (4, 9, 2), (6, 6, 3)]
theorem rg9 : Rg L9 := by decide
theorem wf9 : ∀ s ∈ L9, Wf3 s := by
  intro s hs
  simp [L9] at hs
  rcases hs with rfl | rfl | rfl <;> exact ⟨rfl, rfl, rfl⟩

set_option maxRecDepth 100000 in
set_option maxHeartbeats 6400000 in
theorem awake_any {TS : World → Value → Nat → List Nat → List S3 → Prop} (C : IvlC TS) (w : World) : Calls Try.prog 22 #[] w fun e w' => e = .returned (.bool true) ∧ Below w.heap.size w w' := by
  have HBU : Hid (Calls Try.prog 23 #[.slice (some ⟨w.heap.size, 0, none⟩) 3 3] (w.alloc (.cells (flatT L9).toArray 34)) (IBuilt TS (w.alloc (.cells (flatT L9).toArray 34)) L9)) := Lib.hid (C.build _ (some ⟨w.heap.size, 0, none⟩) 3 L9 (.inr ⟨_, 0, rfl, Ts.new w L9 _⟩) (by decide) (by decide) wf9)
  have hB0 := (Below.refl _ w).alloc (Nat.le_refl _) (.cells (flatT L9).toArray 34)
  have HB0 := Lib.hid hB0
  have s4 : stb L9 4 = [1, 2] := by decide
  have s7 : stb L9 7 = [2] := by decide
  have HS4 := Lib.hid (fun X v n S (h : TS X v n S L9) => C.stab 4 h)
  have HS7 := Lib.hid (fun X v n S (h : TS X v n S L9) => C.stab 7 h)
  rw [s4] at HS4
  rw [s7] at HS7
  have HI1 := Lib.hid (fun Y q cq (h : NS Y q .u32 [1, 2]) => same_new Y q cq [1, 2] h (by decide) 32)
  have HI2 := Lib.hid (fun Y q cq (h : NS Y q .u32 [2]) => same_new Y q cq [2] h (by decide) 32)
  have HM1 := Lib.hid (fun X v n S (h : TS X v n S L9) => meets_new C h 5 6 32 [2, 3] (by decide))
  have HM2 : Hid (∀ X v n S, TS X v n S L9 → Calls Try.prog 38 #[v, .int .i64 10, .int .i64 12, .slice none 0 0] X fun e X' => e = .returned (.bool true) ∧ Below X.heap.size X X') := Lib.hid (fun X v n S h => imeets_any C h 10 12 none 0 (.inl (by decide)))
  have HM3 : Hid (∀ X v n S, TS X v n S L9 → Calls Try.prog 38 #[v, .int .i64 6, .int .i64 5, .slice none 0 0] X fun e X' => e = .returned (.bool true) ∧ Below X.heap.size X X') := Lib.hid (fun X v n S h => imeets_any C h 6 5 none 0 (.inl (by decide)))
  have HM4 := Lib.hid (fun X v n S (h : TS X v n S L9) => meets_new C h (-3) 0 32 [1] (by decide))
  have hfl : (flatT L9).toArray = #[.int .i64 0, .int .i64 4, .int .u32 1, .int .i64 4, .int .i64 9, .int .u32 2, .int .i64 6, .int .i64 6, .int .u32 3] := rfl
  rw [hfl] at HBU HB0
  simp only [List.map_cons, List.map_nil, List.length_cons, List.length_nil, Nat.zero_add, Nat.reduceAdd] at HI1 HI2 HM1 HM4 HS4 HS7
  clear hB0 hfl s4 s7
  go_enter Try.func22, Try.ntmps22
  go_wp2_with (first
    | (go_at_call 23; (with_reducible refine HBU.out.mono ?_); rintro e w1 ⟨hb, hor⟩; rcases hor with ⟨-, v, S, rfl, hT, hS⟩ | ⟨hn, -⟩; rotate_left; (exact absurd rg9 hn); have HT := Lib.hid hT; have HB := Lib.hid (HB0.out.trans (hb.mono HB0.out.size)); clear hT hb hS)
    | (go_at_call 36; (with_reducible refine (HS4.out _ _ _ _ HT.out).mono ?_); rintro e w2 ⟨⟨r, t, rfl, hr, -, -⟩, hb⟩; obtain ⟨-, qa, ca, rfl, hq, -⟩ := hr.u; have HQa := Lib.hid hq; have HT := Lib.hid (C.bel HT.out hb); have HB := Lib.hid (HB.out.trans (hb.mono HB.out.size)); clear hr hb hq)
    | (go_at_call 36; (with_reducible refine (HS7.out _ _ _ _ HT.out).mono ?_); rintro e w3 ⟨⟨r, t, rfl, hr, -, -⟩, hb⟩; obtain ⟨-, qb, cb, rfl, hq, -⟩ := hr.u; have HQb := Lib.hid hq; have HQa := Lib.hid (HQa.out.keep hb); have HT := Lib.hid (C.bel HT.out hb); have HB := Lib.hid (HB.out.trans (hb.mono HB.out.size)); clear hr hb hq)
    | (go_at_call 37; (with_reducible refine (HI1.out _ _ _ HQa.out).mono ?_); rintro e w4 ⟨rfl, hb⟩; have HQb := Lib.hid (HQb.out.keep hb); have HT := Lib.hid (C.bel HT.out hb); have HB := Lib.hid (HB.out.trans (hb.mono HB.out.size)); clear hb)
    | (go_at_call 37; (with_reducible refine (HI2.out _ _ _ HQb.out).mono ?_); rintro e w5 ⟨rfl, hb⟩; have HT := Lib.hid (C.bel HT.out hb); have HB := Lib.hid (HB.out.trans (hb.mono HB.out.size)); clear hb)
    | (go_at_call 38; (with_reducible refine (HM1.out _ _ _ _ HT.out).mono ?_); rintro e w6 ⟨rfl, hb⟩; have HT := Lib.hid (C.bel HT.out hb); have HB := Lib.hid (HB.out.trans (hb.mono HB.out.size)); clear hb)
    | (go_at_call 38; (with_reducible refine (HM2.out _ _ _ _ HT.out).mono ?_); rintro e w7 ⟨rfl, hb⟩; have HT := Lib.hid (C.bel HT.out hb); have HB := Lib.hid (HB.out.trans (hb.mono HB.out.size)); clear hb)
    | (go_at_call 38; (with_reducible refine (HM3.out _ _ _ _ HT.out).mono ?_); rintro e w8 ⟨rfl, hb⟩; have HT := Lib.hid (C.bel HT.out hb); have HB := Lib.hid (HB.out.trans (hb.mono HB.out.size)); clear hb)
    | (go_at_call 38; (with_reducible refine (HM4.out _ _ _ _ HT.out).mono ?_); rintro e w9 ⟨rfl, hb⟩; have HT := Lib.hid (C.bel HT.out hb); have HB := Lib.hid (HB.out.trans (hb.mono HB.out.size)); clear hb))
  go_ret
  exact ⟨rfl, HB.out⟩
end Go.Proofs.Ytgcimicbbadapaa.Iv
