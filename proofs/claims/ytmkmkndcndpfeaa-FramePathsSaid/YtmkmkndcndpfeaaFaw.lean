/-
  The statements' own examples hold (awake): for every world, no condition.
-/
import Derived.Test.YtmkmkndcndpfeaaFask
import Derived.Test.YtmkmkndcndpfeaaFnodes
import Derived.Test.YtmkmkndcndpfeaaEqN
import Derived.Test.YtmkmkndcndpfeaaSame
namespace Go.Proofs.Ytmkmkndcndpfeaa
open Go.RowKit

theorem tr_3 : tr 3 = .nd (.nd .lf .lf) .lf := by
  rw [tr_two (by omega), tr_two (by omega), tr_one (by omega)]
theorem cn_02 : cnF 3 0 2 = ([2], 3) := by unfold cnF; rw [tr_3]; decide
theorem cn_13 : cnF 3 1 3 = ([1, 3], 5) := by unfold cnF; rw [tr_3]; decide
theorem cn_03 : cnF 3 0 3 = ([4], 1) := by unfold cnF; rw [tr_3]; decide
theorem pt_1 : pt 1 (tr 3) 0 0 = [4, 2, 1] := by rw [tr_3]; decide
theorem nd_3 : ndN 3 = [(1, -1, -1, 0, 1, 0, 0), (1, -1, -1, 1, 2, 0, 1), (2, 0, 1, 0, 2, 0, 0), (1, -1, -1, 2, 3, 0, 2), (2, 2, 3, 0, 3, 0, 0)] := by
  unfold ndN
  rw [tr_3]
  rfl
theorem row_ints {w : World} {base n : Nat} {v : Value} {xs : List Int} {k : IntKind} (h : w.ownsRow base 3 1 v n (xs.map (Value.int k))) : ∃ p c, v = .slice p n c ∧ NS w p k xs := by
  obtain ⟨h1, h2⟩ := h
  have hn : xs.length = n := by rw [List.length_map] at h1; omega
  rcases h2 with ⟨rfl, h2⟩ | ⟨g, cap, cur, rfl, hb, hg, hnc, hcm, hcs, htk⟩
  · subst h2
    exact ⟨none, 0, rfl, .inl (List.length_eq_zero_iff.1 hn)⟩
  · refine ⟨some ⟨g, 0, none⟩, cap, rfl, .inr ⟨g, 0, rfl, fun j x e => ?_⟩⟩
    have := row_cells (w := w) (base := base) (n := n) (e := 3) (g := g) (c := cap) (j := j) (xs := xs.map (Value.int k)) ⟨h1, .inr ⟨g, cap, cur, rfl, hb, hg, hnc, hcm, hcs, htk⟩⟩ (u := .int k x) (by rw [List.getElem?_map, e]; rfl)
    rw [Nat.zero_add]
    exact this.1

set_option maxRecDepth 100000 in
set_option maxHeartbeats 1600000 in
theorem lcanon_yes (w : World) (B n : Nat) (d : Int) (pp : Value) (h : FR w B n d pp) (x y : Nat) (hxy : x ≤ y) (hy : y ≤ n) (hn : n ≤ 1500) (k : Nat) (p : Option Addr) (c len : Nat) (xs : List Int) (hp : NS w p .i64 xs) (hlen : len = xs.length) (hk : k = (cnF n x y).2) (hxs : xs = ints (cnF n x y).1) :
    Calls Try.prog 29 #[.pointer (some ⟨B, 0, none⟩), .int .i64 x, .int .i64 y, .int .i64 k, .slice p len c] w fun e w' => e = .returned (.bool true) ∧ Below w.heap.size w w' := by
  have HC := Lib.hid (FCanon_any w B n d pp h x y hxy hy hn)
  have hcl : (cnF n x y).1.length ≤ 1500 := by
    unfold cnF
    split
    · simp
    · have := (cn_len x y (tr n) 0 0).1
      rw [lv_tr (by omega)] at this
      omega
  have HI : Hid (∀ X v, Below w.heap.size w X → X.ownsRow w.heap.size 3 1 v (cnF n x y).1.length ((ints (cnF n x y).1).map (Value.int .i64)) → ∃ q cq, v = .slice q len cq ∧ Calls Try.prog 14 #[.slice q len cq, .slice p len c] X fun e w' => e = .returned (.bool true) ∧ Below X.heap.size X w') := Lib.hid (by
    intro X v hX hr
    obtain ⟨q, cq, hv, hq⟩ := row_ints hr
    have hl2 : (cnF n x y).1.length = len := by rw [hlen, hxs, ints_len]
    rw [hl2] at hv
    refine ⟨q, cq, hv, ?_⟩
    have h1 := ints_any X q p cq c _ xs hq (hp.keep hX) ⟨by rw [ints_len]; omega, by rw [hxs, ints_len]; omega⟩
    rw [ints_len, hl2, ← hlen] at h1
    simpa [hxs] using h1)
  rw [← hk] at HC
  clear h hp hxs hk hlen hcl
  generalize (cnF n x y).1 = cl at *
  unfold tup3 at HC
  go_enter Try.func29, Try.ntmps29
  go_wp2_with (first
    | (go_at_call 12; (with_reducible refine HC.out.mono ?_); rintro e w2 ⟨v, rfl, hr, hb⟩; obtain ⟨q, cq, rfl, hI⟩ := HI.out w2 v hb hr; have HI2 := Lib.hid hI; have HB2 := Lib.hid hb; clear hr hb hI)
    | (go_at_call 14; (with_reducible refine HI2.out.mono ?_); rintro e w3 ⟨rfl, hb⟩; have HB3 := Lib.hid (HB2.out.trans (hb.mono HB2.out.size)); clear hb))
  go_ret
  exact ⟨rfl, HB3.out⟩

theorem eqN (X : World) (k l r f t a m : Int) :
    (binOp .eql 50 (.agg #[.int .u8 k, .int .i64 l, .int .i64 r, .int .i64 f, .int .i64 t, .int .i64 a, .int .i64 m]) (.agg #[.int .u8 k, .int .i64 l, .int .i64 r, .int .i64 f, .int .i64 t, .int .i64 a, .int .i64 m])).run Try.prog X = .ok (.bool true) X := by
  rw [run_eql_struct, run_equalIn_agg (ht := by kernel_rfl) (hp := stood34)]
  simp [go_sem, Program.fieldsOf, Op.eqFields]

theorem lc_02 (X : World) (B : Nat) (d : Int) (pp : Value) (h : FR X B 3 d pp) :
    Calls Try.prog 29 #[.pointer (some ⟨B, 0, none⟩), .int .i64 0, .int .i64 2, .int .i64 3, .slice (some ⟨X.heap.size, 0, none⟩) 1 1] (X.alloc (.cells #[.int .i64 2] 3)) fun e w' => e = .returned (.bool true) ∧ Below X.heap.size X w' :=
  (lcanon_yes (X.alloc (.cells #[.int .i64 2] 3)) B 3 d pp (h.keep ((Below.refl _ X).alloc (Nat.le_refl _) _)) 0 2 (by omega) (by omega) (by omega) 3 (some ⟨X.heap.size, 0, none⟩) 1 1 [2] (EB.ns (r := []) (t := 3) (EB.new .i64 3 X [2])) rfl (by rw [cn_02]) (by rw [cn_02]; rfl)).mono
    (fun e w' hh => ⟨hh.1, ((Below.refl _ X).alloc (Nat.le_refl _) _).trans (hh.2.mono (by simp))⟩)
theorem lc_13 (X : World) (B : Nat) (d : Int) (pp : Value) (h : FR X B 3 d pp) :
    Calls Try.prog 29 #[.pointer (some ⟨B, 0, none⟩), .int .i64 1, .int .i64 3, .int .i64 5, .slice (some ⟨X.heap.size, 0, none⟩) 2 2] (X.alloc (.cells #[.int .i64 1, .int .i64 3] 3)) fun e w' => e = .returned (.bool true) ∧ Below X.heap.size X w' :=
  (lcanon_yes (X.alloc (.cells #[.int .i64 1, .int .i64 3] 3)) B 3 d pp (h.keep ((Below.refl _ X).alloc (Nat.le_refl _) _)) 1 3 (by omega) (by omega) (by omega) 5 (some ⟨X.heap.size, 0, none⟩) 2 2 [1, 3] (EB.ns (r := []) (t := 3) (EB.new .i64 3 X [1, 3])) rfl (by rw [cn_13]) (by rw [cn_13]; rfl)).mono
    (fun e w' hh => ⟨hh.1, ((Below.refl _ X).alloc (Nat.le_refl _) _).trans (hh.2.mono (by simp))⟩)
theorem lc_03 (X : World) (B : Nat) (d : Int) (pp : Value) (h : FR X B 3 d pp) :
    Calls Try.prog 29 #[.pointer (some ⟨B, 0, none⟩), .int .i64 0, .int .i64 3, .int .i64 1, .slice (some ⟨X.heap.size, 0, none⟩) 1 1] (X.alloc (.cells #[.int .i64 4] 3)) fun e w' => e = .returned (.bool true) ∧ Below X.heap.size X w' :=
  (lcanon_yes (X.alloc (.cells #[.int .i64 4] 3)) B 3 d pp (h.keep ((Below.refl _ X).alloc (Nat.le_refl _) _)) 0 3 (by omega) (by omega) (by omega) 1 (some ⟨X.heap.size, 0, none⟩) 1 1 [4] (EB.ns (r := []) (t := 3) (EB.new .i64 3 X [4])) rfl (by rw [cn_03]) (by rw [cn_03]; rfl)).mono
    (fun e w' hh => ⟨hh.1, ((Below.refl _ X).alloc (Nat.le_refl _) _).trans (hh.2.mono (by simp))⟩)
theorem lc_22 (X : World) (B : Nat) (d : Int) (pp : Value) (h : FR X B 3 d pp) :
    Calls Try.prog 29 #[.pointer (some ⟨B, 0, none⟩), .int .i64 2, .int .i64 2, .int .i64 0, .slice none 0 0] X fun e w' => e = .returned (.bool true) ∧ Below X.heap.size X w' :=
  lcanon_yes X B 3 d pp h 2 2 (by omega) (by omega) (by omega) 0 none 0 0 [] (.inl rfl) rfl rfl rfl
theorem lc_00 (X : World) (B : Nat) (d : Int) (pp : Value) (h : FR X B 0 d pp) :
    Calls Try.prog 29 #[.pointer (some ⟨B, 0, none⟩), .int .i64 0, .int .i64 0, .int .i64 0, .slice none 0 0] X fun e w' => e = .returned (.bool true) ∧ Below X.heap.size X w' :=
  lcanon_yes X B 0 d pp h 0 0 (by omega) (by omega) (by omega) 0 none 0 0 [] (.inl rfl) rfl rfl rfl

theorem aw_nodes {w : World} {base : Nat} {v : Value} (h : w.ownsRow base 50 7 v (ndN 3).length (flatN (ndN 3))) : ∃ g c, v = .slice (some ⟨g, 0, none⟩) 5 c ∧ N1 w g 21 (1, -1, -1, 2, 3, 0, 2) ∧ N1 w g 28 (2, 2, 3, 0, 3, 0, 0) := by
  rw [nd_3] at h
  obtain ⟨-, p, c, hv, hN, -, -, -, hp⟩ := row_nds h
  rcases hp with hp | ⟨g, hp, -⟩
  · obtain ⟨b, off, h1, -⟩ := hN.at (j := 3) (n := (1, -1, -1, 2, 3, 0, 2)) rfl
    rw [hp] at h1
    cases h1
  · obtain ⟨b, off, h1, h2⟩ := hN.at (j := 3) (n := (1, -1, -1, 2, 3, 0, 2)) rfl
    obtain ⟨b', off', h1', h2'⟩ := hN.at (j := 4) (n := (2, 2, 3, 0, 3, 0, 0)) rfl
    rw [hp] at h1 h1'
    cases h1
    cases h1'
    exact ⟨_, c, by rw [hv, hp]; rfl, h2, h2'⟩

set_option maxRecDepth 100000 in
set_option maxHeartbeats 6400000 in
theorem awake_any (w : World) : Calls Try.prog 9 #[] w fun e w' => e = .returned (.bool true) ∧ Below w.heap.size w w' := by
  have HN3 : Hid (∀ X : World, Calls Try.prog 10 #[.int .i64 3] X fun e w' => e = .returned (.tuple #[.pointer (some ⟨X.heap.size, 0, none⟩), .int .i64 0]) ∧ FR w' X.heap.size 3 0 (.pointer none) ∧ Below X.heap.size X w') := Lib.hid (fun X => FNew_any X 3 (by decide))
  have HN0 : Hid (∀ X : World, Calls Try.prog 10 #[.int .i64 0] X fun e w' => e = .returned (.tuple #[.pointer (some ⟨X.heap.size, 0, none⟩), .int .i64 0]) ∧ FR w' X.heap.size 0 0 (.pointer none) ∧ Below X.heap.size X w') := Lib.hid (fun X => FNew_any X 0 (by decide))
  go_enter Try.func9, Try.ntmps9
  go_upto_region 5 with (first
    | (go_at_call 10; (with_reducible refine (HN3.out _).mono ?_); rintro e w1 ⟨rfl, hF, hB⟩; have HF1 := Lib.hid hF; have HB1 := Lib.hid hB; clear hF hB)
    | (go_at_call 10; (with_reducible refine (HN0.out _).mono ?_); rintro e w2 ⟨rfl, hF, hB⟩; have HF2 := Lib.hid hF; have HB2 := Lib.hid hB; clear hF hB))
  have HF12 := Lib.hid (HF1.out.keep HB2.out)
  have HPA : Hid (Calls Try.prog 15 #[.pointer (some ⟨w.heap.size, 0, none⟩), .int .i64 1] w2 fun e w' => ∃ v, e = .returned (.tuple #[v, .int .i64 0]) ∧ w'.ownsRow w2.heap.size 3 1 v 3 (([4, 2, 1] : List Int).map (Value.int .i64)) ∧ Below w2.heap.size w2 w') := Lib.hid (by
    have := FPath_any w2 _ _ _ _ HF12.out 1 (by omega) (by omega)
    rw [pt_1] at this
    exact this)
  have HCB : Hid (∀ X, Below w2.heap.size w2 X → Calls Try.prog 12 #[.pointer (some ⟨w1.heap.size, 0, none⟩), .int .i64 0, .int .i64 1] X fun e w' => e = .returned (.tuple #[.slice none 0 0, .int .i64 0, .int .i64 2]) ∧ w' = X) := Lib.hid (fun X hX => FCanon_bad X _ _ _ _ (HF2.out.keep hX) 0 1 (by omega))
  have HND := Lib.hid (fun X (hX : Below w2.heap.size w2 X) => FNodes_any X w.heap.size 3 [w.heap.size] (.inl ⟨HF12.out.keep hX, rfl⟩) (by omega))
  go_upto_region 8 with (first
    | (go_at_call 15; (with_reducible refine HPA.out.mono ?_); rintro e w3 ⟨v5, rfl, hr, hb⟩; have HR5 := Lib.hid hr; have HB3 := Lib.hid hb; clear hr hb)
    | (go_at_call 12; (with_reducible refine (HCB.out _ HB3.out).mono ?_); rintro e w4 ⟨rfl, rfl⟩)
    | (go_at_call 20; (with_reducible refine (HND.out _ HB3.out).mono ?_); rintro e w5 ⟨v9, rfl, hn⟩; have HN9 := Lib.hid hn; clear hn))
  obtain ⟨bl', hFS, hO, hbl, hrow, -⟩ := HN9.out
  obtain ⟨d, pp, hfa⟩ := hFS.fr
  have l1 := HF1.out.lt
  have hfb : FR w5 w1.heap.size 0 0 (.pointer none) := (HF2.out.keep HB3.out).block (hO.block _ (HF2.out.keep HB3.out).lt (by simp; omega))
  have hsz2 := HB2.out.size
  have hrp : w5.ownsRow w2.heap.size 3 1 v5 3 (([4, 2, 1] : List Int).map (Value.int .i64)) := row_at HR5.out (fun k e => ⟨hO.block k (HR5.out.lt k e).2 (by simp; have := (HR5.out.lt k e).1; omega), (HR5.out.lt k e).1⟩)
  obtain ⟨p, cp, rfl, hp⟩ := row_ints (k := .i64) hrp
  obtain ⟨g, c, rfl, hn3, hn4⟩ := aw_nodes hrow
  have HBW0 : Hid (Below w.heap.size w w5) := Lib.hid (((HB1.out.trans (HB2.out.mono HB1.out.size)).trans (HB3.out.mono (by have := HB1.out.size; omega))).trans (hO.below (by have := HB1.out.size; have := HB3.out.size; omega) (by simp)))
  have a0 := hn3.c0
  have a1 := hn3.c1
  have a2 := hn3.c2
  have a3 := hn3.c3
  have a4 := hn3.c4
  have a5 := hn3.c5
  have a6 := hn3.c6
  have b0 := hn4.c0
  have b1 := hn4.c1
  have b2 := hn4.c2
  have b3 := hn4.c3
  have b4 := hn4.c4
  have b5 := hn4.c5
  have b6 := hn4.c6
  simp only [Nat.reduceAdd] at a0 a1 a2 a3 a4 a5 a6 b0 b1 b2 b3 b4 b5 b6
  have HRA : Hid (∀ X, Below w5.heap.size w5 X → Calls Try.prog 18 #[.pointer (some ⟨w.heap.size, 0, none⟩)] X fun e w' => e = .returned (.int .i64 4) ∧ Below X.heap.size X w') := Lib.hid (fun X hX => Root_any X _ 3 4 d pp (hfa.keep hX) (by omega) (by omega) (by omega))
  have HRB : Hid (∀ X, Below w5.heap.size w5 X → Calls Try.prog 18 #[.pointer (some ⟨w1.heap.size, 0, none⟩)] X fun e w' => e = .returned (.int .i64 (-1)) ∧ w' = X) := Lib.hid (fun X hX => Root_none X _ _ _ (hfb.keep hX))
  have HIN : Hid (∀ X, Below w5.heap.size w5 X → Calls Try.prog 14 #[.slice p 3 cp, .slice (some ⟨X.heap.size, 0, none⟩) 3 3] (X.alloc (.cells #[.int .i64 4, .int .i64 2, .int .i64 1] 3)) fun e w' => e = .returned (.bool true) ∧ Below X.heap.size X w') := Lib.hid (fun X hX =>
    (ints_any (X.alloc (.cells #[.int .i64 4, .int .i64 2, .int .i64 1] 3)) p (some ⟨X.heap.size, 0, none⟩) cp 3 [4, 2, 1] [4, 2, 1] ((hp.keep hX).keep ((Below.refl _ X).alloc (Nat.le_refl _) _)) (EB.ns (r := []) (t := 3) (EB.new .i64 3 X [4, 2, 1])) (by simp)).mono
      (fun e w' hh => ⟨hh.1, ((Below.refl _ X).alloc (Nat.le_refl _) _).trans (hh.2.mono (by simp))⟩))
  have H02 := Lib.hid (fun X (hX : Below w5.heap.size w5 X) => lc_02 X _ d pp (hfa.keep hX))
  have H13 := Lib.hid (fun X (hX : Below w5.heap.size w5 X) => lc_13 X _ d pp (hfa.keep hX))
  have H03 := Lib.hid (fun X (hX : Below w5.heap.size w5 X) => lc_03 X _ d pp (hfa.keep hX))
  have H22 := Lib.hid (fun X (hX : Below w5.heap.size w5 X) => lc_22 X _ d pp (hfa.keep hX))
  have H00 := Lib.hid (fun X (hX : Below w5.heap.size w5 X) => lc_00 X _ _ _ (hfb.keep hX))
  have HBW := Lib.hid (Below.refl w5.heap.size w5)
  have hee := eqN
  clear hn3 hn4 hp hrp hfa hfb hFS hO hbl hrow HN3 HN0 HPA HCB HND l1 hsz2
  go_wp2_with (first
    | (go_at_call 18; (with_reducible refine (HRA.out _ HBW.out).mono ?_); rintro e w6 ⟨rfl, hb⟩; have HBW := Lib.hid (HBW.out.trans (hb.mono HBW.out.size)); clear hb)
    | (go_at_call 18; (with_reducible refine (HRB.out _ HBW.out).mono ?_); rintro e w6 ⟨rfl, rfl⟩)
    | (go_at_call 14; (with_reducible refine (HIN.out _ HBW.out).mono ?_); rintro e w7 ⟨rfl, hb⟩; have HBW := Lib.hid (HBW.out.trans (hb.mono HBW.out.size)); clear hb)
    | (go_at_call 29; (with_reducible refine (H02.out _ HBW.out).mono ?_); rintro e w7 ⟨rfl, hb⟩; have HBW := Lib.hid (HBW.out.trans (hb.mono HBW.out.size)); clear hb)
    | (go_at_call 29; (with_reducible refine (H13.out _ HBW.out).mono ?_); rintro e w7 ⟨rfl, hb⟩; have HBW := Lib.hid (HBW.out.trans (hb.mono HBW.out.size)); clear hb)
    | (go_at_call 29; (with_reducible refine (H03.out _ HBW.out).mono ?_); rintro e w7 ⟨rfl, hb⟩; have HBW := Lib.hid (HBW.out.trans (hb.mono HBW.out.size)); clear hb)
    | (go_at_call 29; (with_reducible refine (H22.out _ HBW.out).mono ?_); rintro e w7 ⟨rfl, hb⟩; have HBW := Lib.hid (HBW.out.trans (hb.mono HBW.out.size)); clear hb)
    | (go_at_call 29; (with_reducible refine (H00.out _ HBW.out).mono ?_); rintro e w7 ⟨rfl, hb⟩; have HBW := Lib.hid (HBW.out.trans (hb.mono HBW.out.size)); clear hb))
  go_ret
  exact ⟨rfl, HBW0.out.trans (HBW.out.mono HBW0.out.size)⟩
end Go.Proofs.Ytmkmkndcndpfeaa
