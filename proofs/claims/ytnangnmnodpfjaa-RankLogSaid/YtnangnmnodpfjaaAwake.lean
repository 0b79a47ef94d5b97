/-
  The statements' own examples hold (awake): for every world, no condition.
-/
import Derived.Test.YtnangnmnodpfjaaSorts
import Derived.Test.YtnangnmnodpfjaaLook
import Derived.Test.YtnangnmnodpfjaaLog
namespace Go.Proofs.Ytnangnmnodpfjaa
open Go.RowKit

theorem once_ex : onceL [3, 1, 3] = [1, 3] := by
  have : Sort.sort Sort.ltInt #[3, 1, 3] = #[1, 3, 3] := by
    rw [sort_small _ (by decide)]
    simp [Sort.insertionSort, Sort.insOuter, Sort.insInner, Sort.ltInt, Sort.swp]
  simp only [onceL, this]
  rfl
theorem NS.fresh (X : World) (k : IntKind) (t : TypeId) (xs : List Int) : NS (X.alloc (.cells (xs.map (Value.int k)).toArray t)) (some ⟨X.heap.size, 0, none⟩) k xs :=
  ((EB.new k t X xs).eq (List.append_nil xs).symm).ns
theorem OS.ns {w w' : World} {q : Option Addr} {xs : List Int} (h : OS w w' q xs) : NS w' q .i64 xs := by
  rcases h with h | ⟨g, rfl, -, h⟩
  · exact .inl h.2
  · refine .inr ⟨g, 0, rfl, fun j x e => ?_⟩
    obtain ⟨hj, he⟩ := List.getElem?_eq_some_iff.1 e
    have := (h j (by simpa using hj)).1
    simpa [getElem!_pos, hj, he] using this
theorem al (X : World) (o : Obj) : Below X.heap.size X (X.alloc o) := (Below.refl _ X).alloc (Nat.le_refl _) o

theorem f3_ex : firstP [1, 3, 3, 7] 3 = (1, 3) := by simp [firstP, lk, lkGo, notLess]
theorem a3_ex : aboveP [1, 3, 3, 7] 3 = (3, 2) := by simp [aboveP, lk, lkGo, isMore]
theorem f8_ex : firstP [1, 3, 3, 7] 8 = (4, 2) := by simp [firstP, lk, lkGo, notLess]
theorem f0_ex : firstP [1, 3, 3, 7] 0 = (0, 3) := by simp [firstP, lk, lkGo, notLess]
theorem fn_ex : firstP [] 3 = (0, 0) := by simp [firstP, lk, lkGo]

theorem F3 (X : World) (p : Option Addr) (c : Nat) (h : NS X p .i64 [1, 3, 3, 7]) : Calls Try.prog 11 #[.slice p 4 c, .int .i64 3] X fun e w' => e = .returned (.tuple #[.int .i64 1, .int .i64 3]) ∧ Below X.heap.size X w' := by
  have := First_any X p c [1, 3, 3, 7] 3 h (by decide)
  rw [f3_ex] at this
  exact this
theorem A3 (X : World) (p : Option Addr) (c : Nat) (h : NS X p .i64 [1, 3, 3, 7]) : Calls Try.prog 13 #[.slice p 4 c, .int .i64 3] X fun e w' => e = .returned (.tuple #[.int .i64 3, .int .i64 2]) ∧ Below X.heap.size X w' := by
  have := Above_any X p c [1, 3, 3, 7] 3 h (by decide)
  rw [a3_ex] at this
  exact this
theorem F8 (X : World) (p : Option Addr) (c : Nat) (h : NS X p .i64 [1, 3, 3, 7]) : Calls Try.prog 11 #[.slice p 4 c, .int .i64 8] X fun e w' => e = .returned (.tuple #[.int .i64 4, .int .i64 2]) ∧ Below X.heap.size X w' := by
  have := First_any X p c [1, 3, 3, 7] 8 h (by decide)
  rw [f8_ex] at this
  exact this
theorem F0 (X : World) (p : Option Addr) (c : Nat) (h : NS X p .i64 [1, 3, 3, 7]) : Calls Try.prog 11 #[.slice p 4 c, .int .i64 0] X fun e w' => e = .returned (.tuple #[.int .i64 0, .int .i64 3]) ∧ Below X.heap.size X w' := by
  have := First_any X p c [1, 3, 3, 7] 0 h (by decide)
  rw [f0_ex] at this
  exact this
theorem FN (X : World) : Calls Try.prog 11 #[.slice none 0 0, .int .i64 3] X fun e w' => e = .returned (.tuple #[.int .i64 0, .int .i64 0]) ∧ Below X.heap.size X w' := by
  have := First_any X none 0 [] 3 (.inl rfl) (by decide)
  rw [fn_ex] at this
  exact this
theorem I10 (X : World) : Calls Try.prog 20 #[.slice (some ⟨X.heap.size, 0, none⟩) 10 10, .slice (some ⟨X.heap.size + 1, 0, none⟩) 10 10]
    ((X.alloc (.cells #[.int .i64 1, .int .i64 3, .int .i64 3, .int .i64 2, .int .i64 4, .int .i64 2, .int .i64 0, .int .i64 3, .int .i64 0, .int .i64 0] 3)).alloc (.cells #[.int .i64 1, .int .i64 3, .int .i64 3, .int .i64 2, .int .i64 4, .int .i64 2, .int .i64 0, .int .i64 3, .int .i64 0, .int .i64 0] 3))
    fun e w' => e = .returned (.bool true) ∧ Below X.heap.size X w' := by
  have h1 := NS.fresh X .i64 3 [1, 3, 3, 2, 4, 2, 0, 3, 0, 0]
  have h2 := NS.fresh (X.alloc (.cells (([1, 3, 3, 2, 4, 2, 0, 3, 0, 0] : List Int).map (Value.int .i64)).toArray 3)) .i64 3 [1, 3, 3, 2, 4, 2, 0, 3, 0, 0]
  have hs : (X.alloc (.cells (([1, 3, 3, 2, 4, 2, 0, 3, 0, 0] : List Int).map (Value.int .i64)).toArray 3)).heap.size = X.heap.size + 1 := by simp
  rw [hs] at h2
  exact (ints_any _ (some ⟨X.heap.size, 0, none⟩) (some ⟨X.heap.size + 1, 0, none⟩) 10 10 [1, 3, 3, 2, 4, 2, 0, 3, 0, 0] [1, 3, 3, 2, 4, 2, 0, 3, 0, 0] (h1.keep (al _ _)) h2 (by decide)).mono
    fun _ _ h => ⟨h.1, ((al X _).trans ((al _ _).mono (by simp))).trans (h.2.mono (by simp; omega))⟩
theorem N2 (X : World) (p : Option Addr) (c : Nat) (h : NS X p .i64 [1, 3]) : Calls Try.prog 15 #[.slice p 2 c, .slice (some ⟨X.heap.size, 0, none⟩) 2 2] (X.alloc (.cells #[.int .i64 1, .int .i64 3] 2)) fun e w' => e = .returned (.bool true) ∧ Below X.heap.size X w' :=
  (longs_any _ p (some ⟨X.heap.size, 0, none⟩) c 2 [1, 3] [1, 3] (h.keep (al X _)) (NS.fresh X .i64 2 [1, 3]) (by decide)).mono fun _ _ h => ⟨h.1, (al X _).trans (h.2.mono (by simp))⟩
theorem U3 (X : World) : Calls Try.prog 16 #[.slice (some ⟨X.heap.size, 0, none⟩) 3 3] (X.alloc (.cells #[.int .i64 3, .int .i64 1, .int .i64 3] 2)) fun e w' => ∃ q c, e = .returned (.slice q 2 c) ∧ NS w' q .i64 [1, 3] ∧ Below X.heap.size X w' := by
  have := Squeeze_any (X.alloc (.cells #[.int .i64 3, .int .i64 1, .int .i64 3] 2)) (some ⟨X.heap.size, 0, none⟩) 3 [3, 1, 3] (NS.fresh X .i64 2 [3, 1, 3]) (by decide) (fun h => by cases h)
  rw [once_ex] at this
  exact this.mono fun _ _ ⟨q, c, h1, h2, _, h3⟩ => ⟨q, c, h1, h2.ns, (al X _).trans (h3.mono (by simp))⟩
theorem G1 (X : World) : Calls Try.prog 18 #[.int .i64 1] X fun e w' => e = .returned (.int .i64 0) ∧ w' = X := Log_any 1 X (by decide)
theorem G2 (X : World) : Calls Try.prog 18 #[.int .i64 2] X fun e w' => e = .returned (.int .i64 1) ∧ w' = X := Log_any 2 X (by decide)
theorem G3 (X : World) : Calls Try.prog 18 #[.int .i64 3] X fun e w' => e = .returned (.int .i64 2) ∧ w' = X := Log_any 3 X (by decide)
theorem G4 (X : World) : Calls Try.prog 18 #[.int .i64 4] X fun e w' => e = .returned (.int .i64 2) ∧ w' = X := Log_any 4 X (by decide)
theorem G5 (X : World) : Calls Try.prog 18 #[.int .i64 5] X fun e w' => e = .returned (.int .i64 3) ∧ w' = X := Log_any 5 X (by decide)

set_option maxRecDepth 100000 in
set_option maxHeartbeats 3200000 in
theorem awake_any (w : World) : Calls Try.prog 9 #[] w fun e w' => e = .returned (.bool true) ∧ Below w.heap.size w w' := by
  have HL0 : Hid (NS (w.alloc (.cells #[.int .i64 1, .int .i64 3, .int .i64 3, .int .i64 7] 2)) (some ⟨w.heap.size, 0, none⟩) .i64 [1, 3, 3, 7]) := Lib.hid (NS.fresh w .i64 2 [1, 3, 3, 7])
  have HB0 := Lib.hid (al w (.cells #[.int .i64 1, .int .i64 3, .int .i64 3, .int .i64 7] 2))
  go_enter Try.func9, Try.ntmps9
  go_wp2_with (first
    | (go_at_call 11; (with_reducible refine (F3 _ _ _ HL0.out).mono ?_); rintro e w1 ⟨rfl, hb⟩; have HL1 := Lib.hid (HL0.out.keep hb); have HB1 := Lib.hid (HB0.out.trans (hb.mono HB0.out.size)); clear hb)
    | (go_at_call 13; (with_reducible refine (A3 w1 _ _ HL1.out).mono ?_); rintro e w2 ⟨rfl, hb⟩; have HL2 := Lib.hid (HL1.out.keep hb); have HB2 := Lib.hid (HB1.out.trans (hb.mono HB1.out.size)); clear hb)
    | (go_at_call 11; (with_reducible refine (F8 w2 _ _ HL2.out).mono ?_); rintro e w3 ⟨rfl, hb⟩; have HL3 := Lib.hid (HL2.out.keep hb); have HB3 := Lib.hid (HB2.out.trans (hb.mono HB2.out.size)); clear hb)
    | (go_at_call 11; (with_reducible refine (F0 w3 _ _ HL3.out).mono ?_); rintro e w4 ⟨rfl, hb⟩; have HB4 := Lib.hid (HB3.out.trans (hb.mono HB3.out.size)); clear hb)
    | (go_at_call 11; (with_reducible refine (FN w4).mono ?_); rintro e w5 ⟨rfl, hb⟩; have HB5 := Lib.hid (HB4.out.trans (hb.mono HB4.out.size)); clear hb)
    | (go_at_call 20; (with_reducible refine (I10 w5).mono ?_); rintro e w6 ⟨rfl, hb⟩; have HB6 := Lib.hid (HB5.out.trans (hb.mono HB5.out.size)); clear hb)
    | (go_at_call 16; (with_reducible refine (U3 w6).mono ?_); rintro e w7 ⟨q, c, rfl, hq, hb⟩; have HQ := Lib.hid hq; have HB7 := Lib.hid (HB6.out.trans (hb.mono HB6.out.size)); clear hb hq)
    | (go_at_call 15; (with_reducible refine (N2 w7 _ _ HQ.out).mono ?_); rintro e w8 ⟨rfl, hb⟩; have HB8 := Lib.hid (HB7.out.trans (hb.mono HB7.out.size)); clear hb)
    | (go_at_call 18; (with_reducible refine (G1 _).mono ?_); rintro e w9 ⟨rfl, rfl⟩)
    | (go_at_call 18; (with_reducible refine (G2 _).mono ?_); rintro e w9 ⟨rfl, rfl⟩)
    | (go_at_call 18; (with_reducible refine (G3 _).mono ?_); rintro e w9 ⟨rfl, rfl⟩)
    | (go_at_call 18; (with_reducible refine (G4 _).mono ?_); rintro e w9 ⟨rfl, rfl⟩)
    | (go_at_call 18; (with_reducible refine (G5 _).mono ?_); rintro e w9 ⟨rfl, rfl⟩))
  go_ret
  exact ⟨rfl, HB8.out⟩
end Go.Proofs.Ytnangnmnodpfjaa
