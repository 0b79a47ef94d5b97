/-
  The statements' own examples hold (awake): for every world, no condition.
-/
import Derived.Test.YtjobfpnlpfjoeaaStk
import Derived.Test.YtjobfpnlpfjoeaaEqN
namespace Go.Proofs.Ytjobfpnlpfjoeaa
open Go.RowKit

/-- the nodes of three leaves -/
def N3 : List Nd := [(1, -1, -1, 0, 1, 0, 0), (1, -1, -1, 1, 2, 0, 1), (2, 0, 1, 0, 2, 0, 0), (1, -1, -1, 2, 3, 0, 2), (2, 2, 3, 0, 3, 0, 0)]
theorem ck4 : chk N3 4 = 0 := by decide
theorem ck2 : chk N3 2 = 0 := by decide
theorem ck5 : chk N3 5 = 2 := by decide
theorem al4 : allR N3 4 = [4, 2, 0, 1, 3] := by decide
theorem al2 : allR N3 2 = [2, 0, 1] := by decide
theorem al5 : allR N3 5 = [] := by decide
theorem ra13 : ranR N3 1 3 4 = [4, 2, 0, 1, 3] := by decide
theorem ra00 : ranR N3 0 0 4 = [4] := by decide
theorem ra29 : ranR N3 2 9 4 = [4, 2, 3] := by decide
theorem tl13 : tls N3 1 3 (ranR N3 1 3 4) = [1, 2] := by decide
theorem tl00 : tls N3 0 0 (ranR N3 0 0 4) = [] := by decide
theorem tl29 : tls N3 2 9 (ranR N3 2 9 4) = [2] := by decide

/-- a new block that holds these nodes -/
theorem Nds.new (w : World) (ns : List Nd) (t : TypeId) : Nds (w.alloc (.cells (flatN ns).toArray t)) w.heap.size 0 ns := by
  intro j n e
  have h : ∀ i, i < 7 → (w.alloc (.cells (flatN ns).toArray t)).cell? ⟨w.heap.size, 0 + j * 7 + i, none⟩ = (nvs n)[i]? := fun i hi => by
    rw [Nat.zero_add, World.cell?_alloc_new, ← flatN_get ns e hi]
    simp
  exact ⟨h 0 (by omega), h 1 (by omega), h 2 (by omega), h 3 (by omega), h 4 (by omega), h 5 (by omega), h 6 (by omega)⟩

set_option maxRecDepth 100000 in
theorem leaf3_any (w : World) (i j : Int) (hj : i + 1 = j) (hi : 0 ≤ i ∧ i ≤ 5) : Calls Try.prog 35 #[.int .i64 i] w fun e w' => e = .returned (nv (1, -1, -1, i, j, 0, i)) ∧ Off [] w w' := by
  unfold nv
  have HJ := Lib.hid hj
  clear hj
  go_enter Try.func35, Try.ntmps35
  go_wp2
  refine bodyPost_ret (v := .agg #[.int .u8 1, .int .i64 (-1), .int .i64 (-1), .int .i64 i, .int .i64 (i + 1), .int .i64 0, .int .i64 i]) ?_ rfl ⟨by rw [HJ.out], (Off.refl _ w).all _⟩
  simp [results, Try.f35, go_sem]
set_option maxRecDepth 100000 in
set_option maxHeartbeats 1600000 in
theorem three_any (w : World) : Calls Try.prog 22 #[] w fun e w' => ∃ p, e = .returned (.slice p 5 5) ∧ NdS w' p N3 ∧ Below w.heap.size w w' := by
  have H0 := Lib.hid (fun w => leaf3_any w 0 1 rfl (by omega))
  have H1 := Lib.hid (fun w => leaf3_any w 1 2 rfl (by omega))
  have H2 := Lib.hid (fun w => leaf3_any w 2 3 rfl (by omega))
  unfold nv at H0 H1 H2
  have eg35 : ∀ args w, (callFunc 35 args).run Try.prog w = .ok (.enter 35 args) w := enters_of Try.func35 (by kernel_rfl) rfl
  go_enter Try.func22, Try.ntmps22
  go_wp2_with (first
    | (go_at_fn 35; (with_reducible refine (H0.out _).mono ?_); rintro e w1 ⟨rfl, hO⟩; have HO1 := Lib.hid hO; clear hO)
    | (go_at_fn 35; (with_reducible refine (H1.out _).mono ?_); rintro e w2 ⟨rfl, hO⟩; have HO2 := Lib.hid hO; clear hO)
    | (go_at_fn 35; (with_reducible refine (H2.out _).mono ?_); rintro e w3 ⟨rfl, hO⟩; have HO3 := Lib.hid hO; clear hO))
  go_ret
  refine ⟨_, rfl, .inr ⟨_, 0, rfl, Nds.new w3 N3 36⟩, ?_⟩
  exact (((HO1.out.trans HO2.out).trans HO3.out).all _).below (Nat.le_refl _) (by simp)

set_option maxRecDepth 100000 in
set_option maxHeartbeats 1600000 in
theorem lleaves_yes (w : World) (a b k : Int) (xs : List Int) (p : Option Addr) (c len : Nat) (hp : NS w p .i64 xs) (hlen : len = xs.length) (hl : xs.length ≤ 8) (hk : ((ranR N3 a b 4).length : Int) = k) (hxs : tls N3 a b (ranR N3 a b 4) = xs) :
    Calls Try.prog 23 #[.int .i64 a, .int .i64 b, .int .i64 k, .slice p len c] w fun e w' => e = .returned (.bool true) ∧ Below w.heap.size w w' := by
  have HL : Hid (∀ X p, NdS X p N3 → Calls Try.prog 13 #[.slice p 5 5, .int .i64 4, .int .i64 a, .int .i64 b] X (TL X xs k 0)) := Lib.hid (fun X p hX => by
    have := Leaves_any X p 5 N3 4 a b hX (by decide)
    rw [hxs, hk, ck4] at this
    exact this)
  have HI : Hid (∀ X v (n : Nat), n ≤ X.heap.size → Below w.heap.size w X → X.ownsRow n 3 1 v xs.length (xs.map (Value.int .i64)) → ∃ q cq, v = .slice q len cq ∧ Calls Try.prog 12 #[.slice q len cq, .slice p len c] X fun e w' => e = .returned (.bool true) ∧ Below X.heap.size X w') := Lib.hid (by
    intro X v n _ hX hr
    obtain ⟨q, cq, hv, hq⟩ := row_ints hr
    rw [← hlen] at hv
    refine ⟨q, cq, hv, ?_⟩
    have h1 := ints_any X q p cq c xs xs hq (hp.keep hX) ⟨by omega, by omega⟩
    rw [← hlen] at h1
    simpa using h1)
  have HT := Lib.hid three_any
  clear hp hxs hk hlen hl
  go_enter Try.func23, Try.ntmps23
  go_wp2_with (first
    | (go_at_call 22; (with_reducible refine (HT.out _).mono ?_); rintro e w1 ⟨q1, rfl, hN, hb⟩; have HN := Lib.hid hN; have HB1 := Lib.hid hb; clear hN hb)
    | (go_at_call 13; (with_reducible refine (HL.out _ _ HN.out).mono ?_); rintro e w2 ⟨v, rfl, hr, hb⟩; have HB2 := Lib.hid (HB1.out.trans (hb.mono HB1.out.size)); obtain ⟨q, cq, rfl, hI⟩ := HI.out w2 v _ hb.size HB2.out hr; have HI2 := Lib.hid hI; clear hr hb hI)
    | (go_at_call 12; (with_reducible refine HI2.out.mono ?_); rintro e w3 ⟨rfl, hb⟩; have HB3 := Lib.hid (HB2.out.trans (hb.mono HB2.out.size)); clear hb))
  go_ret
  exact ⟨rfl, HB3.out⟩

theorem ll13 (X : World) : Calls Try.prog 23 #[.int .i64 1, .int .i64 3, .int .i64 5, .slice (some ⟨X.heap.size, 0, none⟩) 2 2] (X.alloc (.cells #[.int .i64 1, .int .i64 2] 3)) fun e w' => e = .returned (.bool true) ∧ Below X.heap.size X w' :=
  (lleaves_yes (X.alloc (.cells #[.int .i64 1, .int .i64 2] 3)) 1 3 5 [1, 2] (some ⟨X.heap.size, 0, none⟩) 2 2 (EB.ns (r := []) (t := 3) (EB.new .i64 3 X [1, 2])) rfl (by decide) (by decide) tl13).mono
    (fun e w' hh => ⟨hh.1, ((Below.refl _ X).alloc (Nat.le_refl _) _).trans (hh.2.mono (by simp))⟩)
theorem ll29 (X : World) : Calls Try.prog 23 #[.int .i64 2, .int .i64 9, .int .i64 3, .slice (some ⟨X.heap.size, 0, none⟩) 1 1] (X.alloc (.cells #[.int .i64 2] 3)) fun e w' => e = .returned (.bool true) ∧ Below X.heap.size X w' :=
  (lleaves_yes (X.alloc (.cells #[.int .i64 2] 3)) 2 9 3 [2] (some ⟨X.heap.size, 0, none⟩) 1 1 (EB.ns (r := []) (t := 3) (EB.new .i64 3 X [2])) rfl (by decide) (by decide) tl29).mono
    (fun e w' hh => ⟨hh.1, ((Below.refl _ X).alloc (Nat.le_refl _) _).trans (hh.2.mono (by simp))⟩)
theorem ll00 (X : World) : Calls Try.prog 23 #[.int .i64 0, .int .i64 0, .int .i64 1, .slice none 0 0] X fun e w' => e = .returned (.bool true) ∧ Below X.heap.size X w' :=
  lleaves_yes X 0 0 1 [] none 0 0 (.inl rfl) rfl (by decide) (by decide) tl00
/-- a list and the one that is wanted -/
theorem ints_want (X : World) (q : Option Addr) (cq : Nat) (xs : List Int) (hq : NS X q .i64 xs) (hl : xs.length ≤ 8) :
    Calls Try.prog 12 #[.slice q xs.length cq, .slice (some ⟨X.heap.size, 0, none⟩) xs.length xs.length] (X.alloc (.cells (xs.map (Value.int .i64)).toArray 3)) fun e w' => e = .returned (.bool true) ∧ Below X.heap.size X w' := by
  have h1 := (Below.refl _ X).alloc (Nat.le_refl _) (.cells (xs.map (Value.int .i64)).toArray 3)
  refine (ints_any (X.alloc (.cells (xs.map (Value.int .i64)).toArray 3)) q (some ⟨X.heap.size, 0, none⟩) cq xs.length xs xs (hq.keep h1) ?_ ⟨by omega, by omega⟩).mono ?_
  · exact ((EB.new .i64 3 X xs).eq (List.append_nil xs).symm).ns
  · rintro e w' ⟨rfl, hb⟩
    exact ⟨by simp, h1.trans (hb.mono (by simp))⟩

set_option maxRecDepth 100000 in
set_option maxHeartbeats 3200000 in
theorem awake_any (w : World) : Calls Try.prog 8 #[] w fun e w' => e = .returned (.bool true) ∧ Below w.heap.size w w' := by
  have HT := Lib.hid three_any
  have HA4 : Hid (∀ X p, NdS X p N3 → Calls Try.prog 10 #[.slice p 5 5, .int .i64 4] X (TA X [4, 2, 0, 1, 3] 0)) := Lib.hid (fun X p hX => by
    have := All_any X p 5 N3 4 hX (by decide)
    rw [al4, ck4] at this
    exact this)
  have HA2 : Hid (∀ X p, NdS X p N3 → Calls Try.prog 10 #[.slice p 5 5, .int .i64 2] X (TA X [2, 0, 1] 0)) := Lib.hid (fun X p hX => by
    have := All_any X p 5 N3 2 hX (by decide)
    rw [al2, ck2] at this
    exact this)
  have HA5 : Hid (∀ X p, NdS X p N3 → Calls Try.prog 10 #[.slice p 5 5, .int .i64 5] X (TA X [] 2)) := Lib.hid (fun X p hX => by
    have := All_any X p 5 N3 5 hX (by decide)
    rw [al5, ck5] at this
    exact this)
  have H13 := Lib.hid ll13
  have H29 := Lib.hid ll29
  have H00 := Lib.hid ll00
  have HI5 := Lib.hid (fun X q cq hq => ints_want X q cq [4, 2, 0, 1, 3] hq (by decide))
  have HI3 := Lib.hid (fun X q cq hq => ints_want X q cq [2, 0, 1] hq (by decide))
  simp only [List.map_cons, List.map_nil, List.length_cons, List.length_nil, Nat.zero_add, Nat.reduceAdd] at HI5 HI3
  have HB := Lib.hid (Below.refl w.heap.size w)
  go_enter Try.func8, Try.ntmps8
  go_wp2_with (first
    | (go_at_call 22; (with_reducible refine (HT.out _).mono ?_); rintro e w1 ⟨q1, rfl, hN, hb⟩; have HN := Lib.hid hN; have HB := Lib.hid (HB.out.trans (hb.mono HB.out.size)); have HV4 := Lib.hid (HV4.out.keep hb); have HV2 := Lib.hid (HV2.out.keep hb); clear hN hb)
    | (go_at_call 22; (with_reducible refine (HT.out _).mono ?_); rintro e w1 ⟨q1, rfl, hN, hb⟩; have HN := Lib.hid hN; have HB := Lib.hid (HB.out.trans (hb.mono HB.out.size)); have HV4 := Lib.hid (HV4.out.keep hb); clear hN hb)
    | (go_at_call 22; (with_reducible refine (HT.out _).mono ?_); rintro e w1 ⟨q1, rfl, hN, hb⟩; have HN := Lib.hid hN; have HB := Lib.hid (HB.out.trans (hb.mono HB.out.size)); clear hN hb)
    | (go_at_call 10; (with_reducible refine (HA4.out _ _ HN.out).mono ?_); rintro e w2 ⟨v4, rfl, hr, hb⟩; obtain ⟨q4, c4, rfl, hq⟩ := row_ints hr; have HV4 := Lib.hid hq; have HB := Lib.hid (HB.out.trans (hb.mono HB.out.size)); clear hr hb hq)
    | (go_at_call 10; (with_reducible refine (HA2.out _ _ HN.out).mono ?_); rintro e w3 ⟨v2, rfl, hr, hb⟩; obtain ⟨q2, c2, rfl, hq⟩ := row_ints hr; have HV2 := Lib.hid hq; have HV4 := Lib.hid (HV4.out.keep hb); have HB := Lib.hid (HB.out.trans (hb.mono HB.out.size)); clear hr hb hq)
    | (go_at_call 10; (with_reducible refine (HA5.out _ _ HN.out).mono ?_); rintro e w5 ⟨v5, rfl, hr, hb⟩; have HV2 := Lib.hid (HV2.out.keep hb); have HV4 := Lib.hid (HV4.out.keep hb); have HB := Lib.hid (HB.out.trans (hb.mono HB.out.size)); clear hr hb)
    | (go_at_call 12; (with_reducible refine (HI5.out _ _ _ HV4.out).mono ?_); rintro e w6 ⟨rfl, hb⟩; have HV2 := Lib.hid (HV2.out.keep hb); have HB := Lib.hid (HB.out.trans (hb.mono HB.out.size)); clear hb)
    | (go_at_call 12; (with_reducible refine (HI3.out _ _ _ HV2.out).mono ?_); rintro e w7 ⟨rfl, hb⟩; have HB := Lib.hid (HB.out.trans (hb.mono HB.out.size)); clear hb)
    | (go_at_call 23; (with_reducible refine (H13.out _).mono ?_); rintro e w8 ⟨rfl, hb⟩; have HB := Lib.hid (HB.out.trans (hb.mono HB.out.size)); clear hb)
    | (go_at_call 23; (with_reducible refine (H00.out _).mono ?_); rintro e w9 ⟨rfl, hb⟩; have HB := Lib.hid (HB.out.trans (hb.mono HB.out.size)); clear hb)
    | (go_at_call 23; (with_reducible refine (H29.out _).mono ?_); rintro e w10 ⟨rfl, hb⟩; have HB := Lib.hid (HB.out.trans (hb.mono HB.out.size)); clear hb))
  go_ret
  exact ⟨rfl, HB.out⟩
end Go.Proofs.Ytjobfpnlpfjoeaa
