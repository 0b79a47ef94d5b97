/-
  The statements' own examples hold (awake): for every world, no condition.
-/
import Derived.Test.YtomchimjogdkkaaTop
import Derived.Test.YtomchimjogdkkaaOnce
namespace Go.Proofs.Ytomchimjogdkkaa
open Go.RowKit

theorem srt_ex : srt [(5, 1), (3, 2), (5, 0)] = [1, 2, 0] := by
  have h1 : ∀ ah x, ord ah [x] = [x] := fun ah x => by rw [ord]; simp
  have h2 : ∀ ah x y, ord ah [x, y] = mrg ah [x] [y] := fun ah x y => by rw [ord]; simp [h1]
  have h3 : ∀ ah x y z, ord ah [x, y, z] = mrg ah [x] (mrg ah [y] [z]) := fun ah x y z => by rw [ord]; simp [h1, h2]
  have hu : upto 3 = [0, 1, 2] := by rfl
  simp [srt, hu, h3, mrg, ahK, kl]
theorem wrt_ex : wrt 3 = 5 := by
  have h1 : wrt 1 = 0 := by rw [wrt]; simp
  have h2 : wrt 2 = 2 := by rw [wrt]; simp [h1]
  rw [wrt]; simp [h1, h2]
theorem mgd_ex : mgd [(1, 1), (4, 1)] [(1, 1), (2, 9)] = [0, 2, 3, 1] := by
  have h1 : upto 2 = [0, 1] := by rfl
  have h2 : upto 4 = [0, 1, 2, 3] := by rfl
  simp [mgd, h1, h2, mrg, ahM, kl]
theorem once_ex : onceL [3, 1, 3] = [1, 3] := by
  have : Sort.sort Sort.ltInt #[3, 1, 3] = #[1, 3, 3] := by
    rw [sort_small _ (by decide)]
    simp [Sort.insertionSort, Sort.insOuter, Sort.insInner, Sort.ltInt, Sort.swp]
  simp only [onceL, this]
  rfl
theorem KS.two (X : World) (a i b j : Int) {n : Nat} (hn : n = X.heap.size) : KS (X.alloc (.cells #[.int .i64 a, .int .u32 i, .int .i64 b, .int .u32 j] 40)) (some ⟨n, 0, none⟩) [(a, i), (b, j)] := by
  have R := Row.new X [.int .i64 a, .int .u32 i, .int .i64 b, .int .u32 j] 40 hn
  refine .inr ⟨n, 0, rfl, ?_, by subst hn; simp⟩
  intro t k e
  match t, e with
  | 0, e => cases e; exact ⟨R 0 _ rfl, R 1 _ rfl⟩
  | 1, e => cases e; exact ⟨R 2 _ rfl, R 3 _ rfl⟩
theorem KS.three (X : World) (a i b j c m : Int) {n : Nat} (hn : n = X.heap.size) : KS (X.alloc (.cells #[.int .i64 a, .int .u32 i, .int .i64 b, .int .u32 j, .int .i64 c, .int .u32 m] 40)) (some ⟨n, 0, none⟩) [(a, i), (b, j), (c, m)] := by
  have R := Row.new X [.int .i64 a, .int .u32 i, .int .i64 b, .int .u32 j, .int .i64 c, .int .u32 m] 40 hn
  refine .inr ⟨n, 0, rfl, ?_, by subst hn; simp⟩
  intro t k e
  match t, e with
  | 0, e => cases e; exact ⟨R 0 _ rfl, R 1 _ rfl⟩
  | 1, e => cases e; exact ⟨R 2 _ rfl, R 3 _ rfl⟩
  | 2, e => cases e; exact ⟨R 4 _ rfl, R 5 _ rfl⟩

theorem NS.fresh (X : World) (k : IntKind) (t : TypeId) (xs : List Int) : NS (X.alloc (.cells (xs.map (Value.int k)).toArray t)) (some ⟨X.heap.size, 0, none⟩) k xs :=
  ((EB.new k t X xs).eq (List.append_nil xs).symm).ns
theorem OS.ns {w w' : World} {q : Option Addr} {xs : List Int} (h : OS w w' q xs) : NS w' q .u32 xs := by
  rcases h with h | ⟨g, rfl, -, h⟩
  · exact .inl h.2
  · refine .inr ⟨g, 0, rfl, fun j x e => ?_⟩
    obtain ⟨hj, he⟩ := List.getElem?_eq_some_iff.1 e
    have := (h j (by simpa using hj)).1
    simpa [getElem!_pos, hj, he] using this
theorem al (X : World) (o : Obj) : Below X.heap.size X (X.alloc o) := (Below.refl _ X).alloc (Nat.le_refl _) o
theorem I3 (X : World) (p : Option Addr) (c : Nat) (h : NS X p .i64 [1, 2, 0]) : Calls Try.prog 14 #[.slice p 3 c, .slice (some ⟨X.heap.size, 0, none⟩) 3 3] (X.alloc (.cells #[.int .i64 1, .int .i64 2, .int .i64 0] 3)) fun e w' => e = .returned (.bool true) ∧ Below X.heap.size X w' :=
  (ints_any _ p (some ⟨X.heap.size, 0, none⟩) c 3 [1, 2, 0] [1, 2, 0] (h.keep (al X _)) (NS.fresh X .i64 3 [1, 2, 0]) (by decide)).mono fun _ _ h => ⟨h.1, (al X _).trans (h.2.mono (by simp))⟩
theorem I4 (X : World) (p : Option Addr) (c : Nat) (h : NS X p .i64 [0, 2, 3, 1]) : Calls Try.prog 14 #[.slice p 4 c, .slice (some ⟨X.heap.size, 0, none⟩) 4 4] (X.alloc (.cells #[.int .i64 0, .int .i64 2, .int .i64 3, .int .i64 1] 3)) fun e w' => e = .returned (.bool true) ∧ Below X.heap.size X w' :=
  (ints_any _ p (some ⟨X.heap.size, 0, none⟩) c 4 [0, 2, 3, 1] [0, 2, 3, 1] (h.keep (al X _)) (NS.fresh X .i64 3 [0, 2, 3, 1]) (by decide)).mono fun _ _ h => ⟨h.1, (al X _).trans (h.2.mono (by simp))⟩
theorem N2 (X : World) (p : Option Addr) (c : Nat) (h : NS X p .u32 [1, 3]) : Calls Try.prog 17 #[.slice p 2 c, .slice (some ⟨X.heap.size, 0, none⟩) 2 2] (X.alloc (.cells #[.int .u32 1, .int .u32 3] 38)) fun e w' => e = .returned (.bool true) ∧ Below X.heap.size X w' :=
  (names_any _ p (some ⟨X.heap.size, 0, none⟩) c 2 [1, 3] [1, 3] (h.keep (al X _)) (NS.fresh X .u32 38 [1, 3]) (by decide)).mono fun _ _ h => ⟨h.1, (al X _).trans (h.2.mono (by simp))⟩
theorem U3 (X : World) : Calls Try.prog 18 #[.slice (some ⟨X.heap.size, 0, none⟩) 3 3] (X.alloc (.cells #[.int .u32 3, .int .u32 1, .int .u32 3] 38)) fun e w' => ∃ q c, e = .returned (.slice q 2 c) ∧ NS w' q .u32 [1, 3] ∧ Below X.heap.size X w' := by
  have h : Ns (X.alloc (.cells #[.int .u32 3, .int .u32 1, .int .u32 3] 38)) X.heap.size 0 .u32 [3, 1, 3] := by
    rcases NS.fresh X .u32 38 [3, 1, 3] with h | ⟨b, o, h, h'⟩
    · cases h
    · cases h; exact h'
  have := Once_some (X.alloc (.cells #[.int .u32 3, .int .u32 1, .int .u32 3] 38)) X.heap.size 0 3 [3, 1, 3] h (by decide) (sorts_small 3 (by decide))
  rw [once_ex] at this
  exact this.mono fun _ _ ⟨q, c, h1, h2, h3⟩ => ⟨q, c, h1, h2.ns, (al X _).trans (h3.mono (by simp))⟩

set_option maxRecDepth 100000 in
set_option maxHeartbeats 3200000 in
theorem awake_any (w : World) : Calls Try.prog 9 #[] w fun e w' => e = .returned (.bool true) ∧ Below w.heap.size w w' := by
  have O1 := Lib.hid (fun X p c (h : KS X p [(5, 1), (3, 2), (5, 0)]) => Order_any X p c _ h (by decide))
  rw [srt_ex] at O1
  simp only [List.length_cons, List.length_nil, Nat.zero_add, Nat.reduceAdd, wrt_ex] at O1
  have M1 := Lib.hid (fun X p q c d (h : KS X p [(1, 1), (4, 1)]) (h' : KS X q [(1, 1), (2, 9)]) => Merge_any X p q c d _ _ h h' (by decide))
  rw [mgd_ex] at M1
  simp only [show (risD [(1, 1), (4, 1)] && risD [(1, 1), (2, 9)]) = true from rfl, if_true, List.length_cons, List.length_nil, Nat.zero_add, Nat.reduceAdd] at M1
  have M2 := Lib.hid (fun X p c (h : KS X p [(2, 1), (1, 1)]) => Merge_any X p none c 0 _ [] h (.inl rfl) (by decide))
  simp only [show (risD [(2, 1), (1, 1)] && risD []) = false from rfl, if_false, Bool.false_eq_true, List.length_cons, List.length_nil, Nat.zero_add, Nat.reduceAdd] at M2
  go_enter Try.func9, Try.ntmps9
  go_upto_region 2 with (first
    | (go_at_call 12; (with_reducible refine (O1.out _ _ _ (KS.three w 5 1 3 2 5 0 rfl)).mono ?_); rintro e w1 ⟨A, rfl, hA, -, -, ⟨r, hr, hE1⟩, hB1⟩; have HE1 := Lib.hid hE1.ns; have HB1 := Lib.hid (((Below.refl _ w).alloc (Nat.le_refl _) _).trans (hB1.mono (by simp))); clear hE1 hB1 hr hA))
  go_upto_region 3 with (first
    | (go_at_call 15; (with_reducible refine (M1.out _ _ _ _ _ ((KS.two w1 1 1 4 1 rfl).keep (al _ _)) (KS.two (w1.alloc _) 1 1 2 9 (by simp))).mono ?_); rintro e w2 ⟨A2, rfl, hA, -, -, ⟨r2, hr, hE2⟩, hB2⟩; have HE2 := Lib.hid hE2.ns; have hb := (((Below.refl _ w1).alloc (Nat.le_refl _) _).alloc (by simp) _).trans (hB2.mono (by simp; omega)); have HE3 := Lib.hid (HE1.out.keep hb); have HB2 := Lib.hid (HB1.out.trans (hb.mono HB1.out.size)); clear hE2 hB2 hr hA hb HE1 HB1))
  go_upto_region 4 with (first
    | (go_at_call 15; (with_reducible refine (M2.out _ _ _ (KS.two w2 2 1 1 1 rfl)).mono ?_); rintro e w3 ⟨rfl, hB3⟩; have hb := (al w2 _).trans (hB3.mono (by simp)); have HE4 := Lib.hid (HE2.out.keep hb); have HE5 := Lib.hid (HE3.out.keep hb); have HB3 := Lib.hid (HB2.out.trans (hb.mono HB2.out.size)); clear hB3 hb HE2 HE3 HB2))
  go_wp2_with (first
    | (go_at_call 14; (with_reducible refine (I3 w3 _ _ HE5.out).mono ?_); rintro e w4 ⟨rfl, hb⟩; have HE6 := Lib.hid (HE4.out.keep hb); have HB4 := Lib.hid (HB3.out.trans (hb.mono HB3.out.size)); clear hb)
    | (go_at_call 14; (with_reducible refine (I4 w4 _ _ HE6.out).mono ?_); rintro e w5 ⟨rfl, hb⟩; have HB5 := Lib.hid (HB4.out.trans (hb.mono HB4.out.size)); clear hb)
    | (go_at_call 18; (with_reducible refine (U3 w5).mono ?_); rintro e w6 ⟨q, c, rfl, hq, hb⟩; have HQ := Lib.hid hq; have HB6 := Lib.hid (HB5.out.trans (hb.mono HB5.out.size)); clear hb hq)
    | (go_at_call 17; (with_reducible refine (N2 w6 _ _ HQ.out).mono ?_); rintro e w7 ⟨rfl, hb⟩; have HB7 := Lib.hid (HB6.out.trans (hb.mono HB6.out.size)); clear hb))
  go_ret
  exact ⟨rfl, HB7.out⟩
end Go.Proofs.Ytomchimjogdkkaa
