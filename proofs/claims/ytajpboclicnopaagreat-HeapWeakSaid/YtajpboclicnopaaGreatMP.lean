/-
  Boxes, records of five cells, in memory; a list of boxes that came in, opened. No condition but those typed at each theorem.
-/
import Derived.Test.YtajpboclicnopaaGreatP3
import Derived.Test.YtajpboclicnopaaGreatMLook
namespace Go.Proofs.YtajpboclicnopaaGreat
open Go.ChangeShapes Go.WideShapes Go.ChangeAt Go.RowKit Go.Joins
/-- a box and its name -/
abbrev B5 := B4 × Int
def bvs (n : B5) : List Value := [.int .i64 n.1.1, .int .i64 n.1.2.1, .int .i64 n.1.2.2.1, .int .i64 n.1.2.2.2, .int .u32 n.2]
def bv (n : B5) : Value := .agg #[.int .i64 n.1.1, .int .i64 n.1.2.1, .int .i64 n.1.2.2.1, .int .i64 n.1.2.2.2, .int .u32 n.2]
/-- from this place on a box lies -/
structure X1 (w : World) (b o : Nat) (n : B5) : Prop where
  c0 : w.cell? ⟨b, o, none⟩ = some (.int .i64 n.1.1)
  c1 : w.cell? ⟨b, o + 1, none⟩ = some (.int .i64 n.1.2.1)
  c2 : w.cell? ⟨b, o + 2, none⟩ = some (.int .i64 n.1.2.2.1)
  c3 : w.cell? ⟨b, o + 3, none⟩ = some (.int .i64 n.1.2.2.2)
  c4 : w.cell? ⟨b, o + 4, none⟩ = some (.int .u32 n.2)
theorem X1.lt {w : World} {b o : Nat} {n : B5} (h : X1 w b o n) : b < w.heap.size := World.block_lt_of_cell? w _ h.c0
theorem X1.block {w w' : World} {b o : Nat} {n : B5} (h : X1 w b o n) (hb : w'.heap[b]? = w.heap[b]?) : X1 w' b o n := by
  have k : ∀ i, w'.cell? ⟨b, i, none⟩ = w.cell? ⟨b, i, none⟩ := fun i => World.cell?_of_block (a := ⟨b, i, none⟩) hb
  exact ⟨(k _).trans h.c0, (k _).trans h.c1, (k _).trans h.c2, (k _).trans h.c3, (k _).trans h.c4⟩
theorem X1.keep {w w' : World} {b o N : Nat} {n : B5} (h : X1 w b o n) (hb : Below N w w') (hN : b < N) : X1 w' b o n := h.block (hb.block b hN)
theorem X1.off {w w' : World} {b o : Nat} {n : B5} {S : List Nat} (h : X1 w b o n) (hb : Off S w w') (hN : b ∉ S) : X1 w' b o n := h.block (hb.block b h.lt hN)
theorem X1.new (w : World) (n : B5) (t : TypeId) : X1 (w.alloc (.cells (bvs n).toArray t)) w.heap.size 0 n := by
  have k : ∀ i v, (bvs n)[i]? = some v → (w.alloc (.cells (bvs n).toArray t)).cell? ⟨w.heap.size, i, none⟩ = some v := fun i v e => by
    rw [World.cell?_alloc_new]
    simpa using e
  exact ⟨k 0 _ rfl, k 1 _ rfl, k 2 _ rfl, k 3 _ rfl, k 4 _ rfl⟩
/-- a box's numbers are in range -/
def Wf4 (b : B4) : Prop := (Lit.int .i64 b.1).wf = true ∧ (Lit.int .i64 b.2.1).wf = true ∧ (Lit.int .i64 b.2.2.1).wf = true ∧ (Lit.int .i64 b.2.2.2).wf = true
def Wf5 (b : B5) : Prop := Wf4 b.1 ∧ (Lit.int .u32 b.2).wf = true
end Go.Proofs.YtajpboclicnopaaGreat
/-
  The document's Sorted, Has, Drop. No condition but those typed at each theorem.
-/
namespace Go.Proofs.YtajpboclicnopaaGreat
open Go.RowKit
/-- the numbers S, something at the place a, as a new one is carried down to it -/
def hole (S : List Int) (a : Nat) (z : Int) : List Int := S.take a ++ z :: S.drop a
theorem hole_len {S : List Int} {a : Nat} {z : Int} (h : a ≤ S.length) : (hole S a z).length = S.length + 1 := by simp [hole]; omega
theorem hole_at {S : List Int} {a : Nat} {z : Int} (h : a ≤ S.length) : (hole S a z)[a]? = some z := by
  unfold hole
  rw [List.getElem?_append_right (by simp; omega)]
  simp [Nat.min_eq_left h]
theorem hole_below {S : List Int} {a j : Nat} {z : Int} (h : j < a) (hs : a ≤ S.length) : (hole S a z)[j]? = S[j]? := by
  unfold hole
  rw [List.getElem?_append_left (by simp; omega), List.getElem?_take_of_lt h]
theorem hole_set {S : List Int} {a : Nat} {z y : Int} (h : a ≤ S.length) : (hole S a z).set a y = hole S a y := by
  unfold hole
  rw [List.set_append_right _ _ (by simp; omega)]
  simp [Nat.min_eq_left h]
theorem hole_down {S : List Int} {a : Nat} {z y : Int} (h : a < S.length) (e : S[a]? = some y) : (hole S (a + 1) z).set (a + 1) y = hole S a y := by
  rw [hole_set (by omega)]
  unfold hole
  obtain ⟨h1, h2⟩ := List.getElem?_eq_some_iff.1 e
  rw [List.take_add_one, e, List.drop_eq_getElem_cons h1, h2]
  simp
theorem hole_end (S : List Int) (z : Int) : hole S S.length z = S ++ [z] := by simp [hole]
set_option maxRecDepth 100000 in
set_option maxHeartbeats 6400000 in
theorem RSorted (w : World) (p : Option Addr) (c : Nat) (xs : List Int) (hx : NS w p .u32 xs) (hl : xs.length ≤ 8192) :
    Calls Tryz.prog 54 #[.slice p xs.length c] w fun e w' => ∃ v, e = .returned v ∧ w'.ownsRow w.heap.size 32 1 v xs.length ((nsort xs).map (Value.int .u32)) ∧ Below w.heap.size w w' := by
  have HX := Lib.hid hx
  obtain ⟨d, hd⟩ : ∃ d, d = xs.length := ⟨_, rfl⟩
  have HD := Lib.hid hd
  rw [← hd] at hl ⊢
  clear hd hx
  go_enter Tryz.func54, Tryz.ntmps54
  go_wp2
  go_loopw [3, 4] (fun v3 v4 wr => ∃ k : Nat, k ≤ d ∧ v4 = .int .i64 k ∧ (∃ q cq, v3 = .slice q k cq) ∧ Hid (wr.ownsRow w.heap.size 32 1 v3 k ((nsort (xs.take k)).map (Value.int .u32))) ∧ Hid (Below w.heap.size w wr)) (fun _ v _ => d - (intOf v).toNat)
  case atStart => exact ⟨0, Nat.zero_le _, rfl, ⟨none, 0, rfl⟩, Lib.hid (World.ownsRow_nil _ _ _ _), Lib.hid (Below.refl _ _)⟩
  case round =>
    obtain ⟨k, hk, rfl, ⟨q, cq, rfl⟩, HR, HB⟩ := hrel
    by_cases hlt : k < d
    · have hltz : (k : Int) < d := by omega
      obtain ⟨x, hxe⟩ : ∃ x, xs[k]? = some x := ⟨_, List.getElem?_eq_getElem (by have := HD.out; omega)⟩
      rcases HX.out with h0 | ⟨b, off, rfl, h1⟩
      · rw [h0] at hxe; simp at hxe
      · have hcx := h1 k x hxe
        have hblt := World.block_lt_of_cell? w _ hcx
        have cx : wr.cell? ⟨b, off + k, none⟩ = some (.int .u32 x) := (HB.out.cell hblt).trans hcx
        obtain ⟨S, hS⟩ : ∃ S, S = nsort (xs.take k) := ⟨_, rfl⟩
        have HSS := Lib.hid hS
        have hSl : S.length = k := by rw [hS, nsort_len, List.length_take]; have := HD.out; omega
        have HSL := Lib.hid hSl
        have HST := Lib.hid (show nsort (xs.take (k + 1)) = insI x S by rw [List.take_add_one, hxe, hS]; exact nsort_snoc _ _)
        have HSP := Lib.hid (show S.Pairwise (· ≤ ·) by rw [hS]; exact nsort_sorted _)
        rw [← hS] at HR
        have HCX := Lib.hid hcx
        have HBL := Lib.hid hblt
        clear hS hxe h1 hSl hcx hblt
        have hk8 : k ≤ 8192 := by omega
        go_wp2_with (at_builtin; refine wpList_more Tryz.info32 rfl (by decide) (by decide) Tryz.underlying43 _ rfl (.tmp 14) (.tmp 19) rfl (.slice q k cq) k (S.map (Value.int .u32)) rfl (row_at (base' := 0) (World.ownsRow.alloc HR.out _) (fun _ _ => ⟨rfl, Nat.zero_le _⟩)) ⟨wr.heap.size, 0, none⟩ 1 1 [.int .u32 x] rfl rfl (one_at _ _ _) (by simp [Value.oneCell']) (by omega) (by decide) ?_; intro g1 c1 w1 h1 h2 h3; have H1 := Lib.hid h1; have HB1 := Lib.hid ((HB.out.alloc HB.out.size (.cells #[.int .u32 x] 32)).grown h2 (by have := HB.out.size; simp; omega) (fun k e => (HR.out.lt k e).1)); have HG1 := Lib.hid (show w.heap.size ≤ g1 from h3.elim (fun e => (HR.out.lt _ e).1) (fun e => by have := HB.out.size; simp at e; omega)); clear h1 h2 h3)
        have hrb : RB .u32 32 w1 g1 c1 (hole S k x) := by
          have h := H1.out
          rw [show S.map (Value.int .u32) ++ [Value.int .u32 x] = (S ++ [x]).map (Value.int .u32) by simp] at h
          obtain ⟨g2, c2, e, -, h5⟩ := rb_of h (by omega)
          cases e
          have := hole_end S x
          rw [HSL.out] at this
          rw [this]
          exact h5
        have HRB := Lib.hid hrb
        have hgb : g1 ≠ b := by have := HG1.out; have := HBL.out; omega
        clear hrb HR HB cx H1
        go_loopw [5] (fun v5 wz => ∃ (a : Nat) (z : Int), a ≤ k ∧ v5 = .int .i64 a ∧ Hid (RB .u32 32 wz g1 c1 (hole S a z)) ∧ Hid (∀ y ∈ S.drop a, x < y) ∧ Hid (Below w.heap.size w wz)) (fun v5 _ => (intOf v5).toNat)
        case atStart => exact ⟨k, x, Nat.le_refl _, rfl, HRB, Lib.hid (by rw [List.drop_of_length_le (by have := HSL.out; omega)]; simp), HB1⟩
        case round =>
          clear HRB HB1
          obtain ⟨a, z, ha, rfl, HRB, HY, HB⟩ := hrel
          have cx : wr.cell? ⟨b, off + k, none⟩ = some (.int .u32 x) := (HB.out.cell HBL.out).trans HCX.out
          have hhl := hole_len (S := S) (a := a) (z := z) (by have := HSL.out; omega)
          cases a with
          | zero =>
            have hz0 : ¬ (0 : Int) < ((0 : Nat) : Int) := by omega
            have fg := HRB.out.free 0
            have cg := HRB.out.cell (hole_at (S := S) (a := 0) (z := z) (by omega))
            have HRS := Lib.hid ((HRB.out.set 0 x).eq (hole_set (by omega)))
            have HFIN := Lib.hid (show hole S 0 x = nsort (xs.take (k + 1)) by
              rw [HST.out]
              exact (insI_take x S 0 (Nat.zero_le _) (by simp) HY.out).symm)
            have HBS := Lib.hid (HB.out.setCell (show w.heap.size ≤ (⟨g1, 0, none⟩ : Addr).block from HG1.out) (.int .u32 x))
            clear HY HRB HB HST HSS hhl
            go_upto_region 7 with fail
            go_quiet (fail)
            go_wp2
            go_roundw
            case rel => exact ⟨k + 1, by omega, by go_num, ⟨_, _, rfl⟩, Lib.hid (by rw [← HFIN.out]; have := (HRS.out).own (base := w.heap.size) (n := k + 1) HG1.out (by rw [hole_len (by omega), HSL.out]); exact this), Lib.hid (drewB HBS.out)⟩
            case measure => simp [intOf]; omega
          | succ a =>
            obtain ⟨y, hye⟩ : ∃ y, S[a]? = some y := ⟨_, List.getElem?_eq_getElem (by have := HSL.out; omega)⟩
            have hz0 : (0 : Int) < (a : Int) + 1 := by omega
            have cy := HRB.out.cell (i := a) (x := y) (by rw [hole_below (by omega) (by have := HSL.out; omega)]; exact hye)
            have fg := HRB.out.free (a + 1)
            have cg := HRB.out.cell (hole_at (S := S) (a := a + 1) (z := z) (by have := HSL.out; omega))
            have ha8 : a + 1 ≤ k := ha
            by_cases hxy : x < y
            · have HRS := Lib.hid ((HRB.out.set (a + 1) y).eq (hole_down (by have := HSL.out; omega) hye))
              have HYY := Lib.hid (show ∀ e ∈ S.drop a, x < e by
                obtain ⟨h1, h2⟩ := List.getElem?_eq_some_iff.1 hye
                rw [List.drop_eq_getElem_cons h1, h2]
                intro e he
                rcases List.mem_cons.1 he with rfl | he
                · exact hxy
                · exact HY.out e he)
              have HBS := Lib.hid (HB.out.setCell (show w.heap.size ≤ (⟨g1, a + 1, none⟩ : Addr).block from HG1.out) (.int .u32 y))
              clear HY HRB HB hye hhl
              go_upto_region 7 with fail
              go_quiet (fail)
              go_wp2
              go_roundw
              case rel => exact ⟨a, y, by omega, by go_num, HRS, HYY, Lib.hid (drewB HBS.out)⟩
              case measure => simp [intOf]
            · have HRS := Lib.hid ((HRB.out.set (a + 1) x).eq (hole_set (by have := HSL.out; omega)))
              have HFIN := Lib.hid (show hole S (a + 1) x = nsort (xs.take (k + 1)) by
                rw [HST.out]
                refine (insI_take x S (a + 1) (by have := HSL.out; omega) (fun e he => ?_) HY.out).symm
                have hp := HSP.out
                rw [← List.take_append_drop (a + 1) S] at hp
                obtain ⟨h1, h2⟩ := List.getElem?_eq_some_iff.1 hye
                rw [List.take_add_one, hye] at he
                rcases List.mem_append.1 he with he | he
                · have hp2 := HSP.out
                  rw [← List.take_append_drop a S, List.drop_eq_getElem_cons h1, h2] at hp2
                  have := (List.pairwise_append.1 hp2).2.2 e he y List.mem_cons_self
                  omega
                · simp at he
                  omega)
              have HBS := Lib.hid (HB.out.setCell (show w.heap.size ≤ (⟨g1, a + 1, none⟩ : Addr).block from HG1.out) (.int .u32 x))
              clear HY HRB HB HST HSS hye hhl
              go_upto_region 7 with fail
              go_quiet (fail)
              go_wp2
              go_roundw
              case rel => exact ⟨k + 1, by omega, by go_num, ⟨_, _, rfl⟩, Lib.hid (by rw [← HFIN.out]; have := (HRS.out).own (base := w.heap.size) (n := k + 1) HG1.out (by rw [hole_len (by have := HSL.out; omega), HSL.out]); exact this), Lib.hid (drewB HBS.out)⟩
              case measure => simp [intOf]; omega
    · obtain rfl : k = d := by omega
      have hltz : ¬ (k : Int) < k := by omega
      go_wp2
      go_ret
      refine ⟨_, rfl, ?_, HB.out⟩
      have h := HR.out
      rw [List.take_of_length_le (by have := HD.out; omega)] at h
      exact h
/-- one point in a block of its own -/
theorem td_at (W : World) (n : S3) (t : TypeId) : ∀ j u, (tvs n)[j]? = some u → (W.alloc (.cells (tvs n).toArray t)).cell? ((⟨W.heap.size, 0, none⟩ : Addr).add j) = some u := by
  intro j u hu
  rw [Addr.add_lit, Nat.zero_add, World.cell?_alloc_new]
  simpa using hu
set_option maxRecDepth 100000 in
set_option maxHeartbeats 3200000 in
theorem RDropP (w : World) (p : Option Addr) (c : Nat) (L : List S3) (s : S3) (hx : TsS w p L) (hl : L.length ≤ 8192) :
    Calls Tryz.prog 14 #[.slice p L.length c, tv s] w fun e w' => ∃ v, e = .returned (.tuple #[v, .bool (decide (s ∈ L))]) ∧ w'.ownsRow w.heap.size 34 3 v (drp L s).length (flatT (drp L s)) ∧ Below w.heap.size w w' := by
  have HX := Lib.hid hx
  obtain ⟨d, hd⟩ : ∃ d, d = L.length := ⟨_, rfl⟩
  have HD := Lib.hid hd
  rw [← hd] at hl ⊢
  clear hd hx
  have hne := neT
  obtain ⟨W, hW⟩ : ∃ W, W = w.alloc (.cells (tvs s).toArray 34) := ⟨_, rfl⟩
  have hWN := T1.new w s 34
  rw [← hW] at hWN
  have hWB : Below w.heap.size w W := by rw [hW]; exact (Below.refl _ w).alloc (Nat.le_refl _) _
  have HWN := Lib.hid hWN
  have HWB := Lib.hid hWB
  have HW := Lib.hid hW
  have HLW := Lib.hid hWN.lt
  clear hWN hWB hW
  obtain ⟨lo, h2, id⟩ := s
  unfold tv
  simp only
  go_enter Tryz.func14, Tryz.ntmps14
  go_upto_block 0 with fail
  rw [show w.alloc (.cells #[.int .i64 lo, .int .i64 h2, .int .u32 id] 34) = W from HW.out.symm]
  go_wp2
  go_loopw [6, 7] (fun v6 v7 wr => ∃ k : Nat, k ≤ d ∧ v7 = .int .i64 k ∧ (∃ q cq, v6 = .slice q (drp (L.take k) (lo, h2, id)).length cq) ∧ Hid (wr.ownsRow w.heap.size 34 3 v6 (drp (L.take k) (lo, h2, id)).length (flatT (drp (L.take k) (lo, h2, id)))) ∧ Hid (∀ b, v6.ownBlock = some b → w.heap.size < b) ∧ Hid (T1 wr w.heap.size 0 (lo, h2, id)) ∧ Hid (Below w.heap.size w wr)) (fun _ v _ => d - (intOf v).toNat)
  case atStart => exact ⟨0, Nat.zero_le _, rfl, ⟨none, 0, rfl⟩, Lib.hid (World.ownsRow_nil _ _ _ _), Lib.hid (fun b e => by cases e), HWN, HWB⟩
  case round =>
    clear HWN HWB
    obtain ⟨k, hk, rfl, ⟨q, cq, rfl⟩, HR, HNX, HN, HB⟩ := hrel
    by_cases hlt : k < d
    · have hltz : (k : Int) < d := by omega
      obtain ⟨y, hye⟩ : ∃ y, L[k]? = some y := ⟨_, List.getElem?_eq_getElem (by have := HD.out; omega)⟩
      rcases HX.out with h0 | ⟨b, off, rfl, h1⟩
      · rw [h0] at hye; simp at hye
      · have hs1 := (h1 k y hye).keep HB.out (h1 k y hye).lt
        have n0 := hs1.c0
        have n1 := hs1.c1
        have n2 := hs1.c2
        have m0 := HN.out.c0
        have m1 := HN.out.c1
        have m2 := HN.out.c2
        simp only [Nat.zero_add] at m0 m1 m2
        have HDS := Lib.hid (show drp (L.take (k + 1)) (lo, h2, id) = drp (L.take k) (lo, h2, id) ++ (if y = (lo, h2, id) then [] else [y]) by rw [List.take_add_one, hye]; exact drp_snoc _ _ _)
        obtain ⟨D, hD⟩ : ∃ D, D = drp (L.take k) (lo, h2, id) := ⟨_, rfl⟩
        have hDl : D.length ≤ k := by rw [hD]; exact Nat.le_trans (drp_len _ _) (by simp; omega)
        rw [← hD] at HR HNX HDS ⊢
        have HNL := Lib.hid HN.out.lt
        clear hD hs1 hye h1
        obtain ⟨l', h', i'⟩ := y
        simp only at n0 n1 n2
        by_cases he : (l', h', i') = (lo, h2, id)
        · have hdd : (!decide ((l', h', i') = (lo, h2, id))) = false := by rw [decide_eq_true he]; rfl
          obtain ⟨rfl, rfl, rfl⟩ : l' = lo ∧ h' = h2 ∧ i' = id := by simpa using he
          go_upto_region 5 with fail
          go_quiet (fail)
          go_wp2
          go_roundw
          case rel =>
            have h5 : drp (L.take (k + 1)) (l', h', i') = D := by rw [HDS.out, if_pos rfl, List.append_nil]
            exact ⟨k + 1, by omega, by go_num, ⟨q, cq, by rw [h5]⟩, Lib.hid (by rw [h5]; exact HR.out), HNX, Lib.hid ⟨HN.out.c0, HN.out.c1, HN.out.c2⟩, Lib.hid (drewB HB.out)⟩
          case measure => simp [intOf]; omega
        · have hdd : (!decide ((l', h', i') = (lo, h2, id))) = true := by rw [decide_eq_false he]; rfl
          go_upto_region 5 with fail
          go_quiet (fail)
          go_wp2_with (at_builtin; refine wpList_more Tryz.info34 rfl (by decide) (by decide) Tryz.underlying22 _ rfl (.tmp 20) (.tmp 25) rfl (.slice q D.length cq) D.length (flatT D) rfl (row_at (base' := 0) (World.ownsRow.alloc HR.out _) (fun _ _ => ⟨rfl, Nat.zero_le _⟩)) ⟨wr.heap.size, 0, none⟩ 1 1 (tvs (l', h', i')) rfl rfl (td_at wr (l', h', i') _) (tvs_one _) (by omega) (by decide) ?_; intro g1 c1 w1 h1 h2 h3; have H1 := Lib.hid h1; have HB1 := Lib.hid ((HB.out.alloc HB.out.size (.cells (tvs (l', h', i')).toArray 34)).grown ⟨h2.os, h2.tape, h2.output, h2.size, h2.block⟩ (by have := HB.out.size; simp; omega) (fun k e => (HR.out.lt k e).1)); have HG1 := Lib.hid (show w.heap.size ≤ g1 from h3.elim (fun e => (HR.out.lt _ e).1) (fun e => by have := HB.out.size; simp at e; omega)); have HGX := Lib.hid (show w.heap.size < g1 from h3.elim (fun e => HNX.out _ e) (fun e => by have := HNL.out; simp at e; omega)); have HN1 := Lib.hid (HN.out.block (w' := w1) ((h2.block w.heap.size (by have := HNL.out; simp; omega) (fun e => by have := (HR.out.lt _ e.symm); have := HNX.out _ e.symm; omega)).trans (Below.heap_alloc _ _ _ HNL.out))); clear h1 h2 h3)
          go_roundw
          case rel =>
            have h5 : drp (L.take (k + 1)) (lo, h2, id) = D ++ [(l', h', i')] := by rw [HDS.out, if_neg he]
            refine ⟨k + 1, by omega, by go_num, ⟨some ⟨g1, 0, none⟩, c1, by rw [h5]; simp⟩, Lib.hid ?_, Lib.hid (fun b e => by simp [Value.ownBlock] at e; subst e; exact HGX.out), HN1, HB1⟩
            rw [h5, flatT_snoc]
            have h := row_at (base' := w.heap.size) H1.out (fun q e => ⟨rfl, by simp [Value.ownBlock] at e; subst e; exact HG1.out⟩)
            simpa using h
          case measure => simp [intOf]; omega
    · obtain rfl : k = d := by omega
      have hltz : ¬ (k : Int) < k := by omega
      have hR := HR.out
      rw [List.take_of_length_le (by have := HD.out; omega)] at hR ⊢
      have hlen := drp_len L (lo, h2, id)
      have hless := drp_less (A := L) (s := (lo, h2, id))
      rw [← HD.out] at hlen hless
      have HRR := Lib.hid hR
      clear hR HR HNX
      by_cases hs : (lo, h2, id) ∈ L
      · have hz : ((drp L (lo, h2, id)).length : Int) < k := by have := hless.2 hs; omega
        have HS := Lib.hid hs
        clear hless hs
        go_wp2
        go_ret2
        refine ⟨_, ?_, HRR.out, HB.out⟩
        rw [decide_eq_true HS.out]
        rfl
      · have hz : ¬ ((drp L (lo, h2, id)).length : Int) < k := fun h => hs (hless.1 (by omega))
        have HS := Lib.hid hs
        clear hless hs
        go_wp2
        go_ret2
        refine ⟨_, ?_, HRR.out, HB.out⟩
        rw [decide_eq_false HS.out]
        rfl
end Go.Proofs.YtajpboclicnopaaGreat
/-
  Small tools of layer 10's laws: min, slices cut. No condition but those typed at each theorem.
-/
namespace Go.Proofs.YtajpboclicnopaaGreat
open Go.ChangeShapes Go.WideShapes Go.ChangeAt Go.RowKit Go.Joins
theorem Tryz.info5 : (Tryz.prog.info? 5).map (fun i => (i.zero, i.size, i.bytes)) = some (some (.int .u8 0), 1, 1) := by kernel_rfl
theorem min12 (X : World) (ty : TypeId) (n : Nat) (k : Int) (hk : k = ((min n 12 : Nat) : Int)) : (Builtin.min_ #[3, 3] ty #[.int .i64 n, .int .i64 12]).run Tryz.prog X = .ok (.int .i64 k) X := by
  subst hk
  by_cases h : n ≤ 12
  · have h2 : ¬ (12 : Int) < n := by omega
    simp [Builtin.min_, Builtin.min2, go_sem, Nat.min_eq_left h, h2]
  · have h2 : (12 : Int) < n := by omega
    simp [Builtin.min_, Builtin.min2, go_sem, Nat.min_eq_right (by omega : 12 ≤ n), h2]
theorem min20 (X : World) (ty : TypeId) (n : Nat) (k : Int) (hk : k = ((min n 20 : Nat) : Int)) : (Builtin.min_ #[3, 3] ty #[.int .i64 n, .int .i64 20]).run Tryz.prog X = .ok (.int .i64 k) X := by
  subst hk
  by_cases h : n ≤ 20
  · have h2 : ¬ (20 : Int) < n := by omega
    simp [Builtin.min_, Builtin.min2, go_sem, Nat.min_eq_left h, h2]
  · have h2 : (20 : Int) < n := by omega
    simp [Builtin.min_, Builtin.min2, go_sem, Nat.min_eq_right (by omega : 20 ≤ n), h2]
theorem min100 (X : World) (ty : TypeId) (n : Nat) (k : Int) (hk : k = ((min n 100 : Nat) : Int)) : (Builtin.min_ #[3, 3] ty #[.int .i64 n, .int .i64 100]).run Tryz.prog X = .ok (.int .i64 k) X := by
  subst hk
  by_cases h : n ≤ 100
  · have h2 : ¬ (100 : Int) < n := by omega
    simp [Builtin.min_, Builtin.min2, go_sem, Nat.min_eq_left h, h2]
  · have h2 : (100 : Int) < n := by omega
    simp [Builtin.min_, Builtin.min2, go_sem, Nat.min_eq_right (by omega : 100 ≤ n), h2]
theorem slP_to (X : World) (p : Option Addr) (n c h : Nat) (hm : h ≤ c) : (Instr.slice 22 (.slice p n c) none (some (.int .i64 h)) none).run Tryz.prog X = .ok (.slice p h c) X := by
  obtain ⟨i0, hi, hz0, hz1, hz2⟩ := info_parts Tryz.info34
  simp [Instr.slice, run_underlying Tryz.underlying22, Instr.sliceBounds, Instr.sliceBound, asIntOf, sizeOf, typeInfo, hi, hm]
  cases p <;> simp [Addr.add_zero']
theorem slB_to (X : World) (p : Option Addr) (n c h : Nat) (hm : h ≤ c) : (Instr.slice 39 (.slice p n c) none (some (.int .i64 h)) none).run Tryz.prog X = .ok (.slice p h c) X := by
  obtain ⟨i0, hi, hz0, hz1, hz2⟩ := info_parts Tryz.info5
  simp [Instr.slice, run_underlying Tryz.underlying39, Instr.sliceBounds, Instr.sliceBound, asIntOf, sizeOf, typeInfo, hi, hm]
  cases p <;> simp [Addr.add_zero']
theorem row_sp {w : World} {base : Nat} {v : Value} {L : List S3} {t : TypeId} (h : w.ownsRow base t 3 v L.length (flatT L)) : ∃ p c, v = .slice p L.length c ∧ TsS w p L ∧ L.length ≤ c ∧ (p = none → c = 0) := by
  obtain ⟨-, p, c, e, h2, h4, h3, -⟩ := row_ts h
  exact ⟨p, c, e, h2, h3, fun h => (h4 h).1⟩
theorem i64_range {x : Int} (h : (Lit.int .i64 x).wf = true) : -9223372036854775808 ≤ x ∧ x ≤ 9223372036854775807 := by
  simpa [Lit.wf, show IntKind.i64.min = -9223372036854775808 from rfl, show IntKind.i64.max = 9223372036854775807 from rfl] using h
end Go.Proofs.YtajpboclicnopaaGreat
/-
  What is asked of a tree of points, whatever it is made of. No condition but those typed at each theorem.
-/
namespace Go.Proofs.YtajpboclicnopaaGreat
open Go.RowKit
/-- v is a slice with these names -/
def RL (w : World) (v : Value) (xs : List Int) : Prop := ∃ p c, v = .slice p xs.length c ∧ NS w p .u32 xs ∧ (p = none → c = 0) ∧ xs.length ≤ c
/-- what Build hands back: a tree, and no error; or an error, and a tree of nothing -/
def Built (TS : World → Value → Nat → List Nat → List S3 → Prop) (w : World) (L : List S3) (e : Ending) (w' : World) : Prop :=
  Below w.heap.size w w' ∧ ((Rg L ∧ ∃ v S, e = .returned (.tuple #[v, .int .i64 0]) ∧ TS w' v L.length S L ∧ ∀ k ∈ S, w.heap.size ≤ k) ∨ (¬ Rg L ∧ ∃ v S, e = .returned (.tuple #[v, .int .i64 2]) ∧ TS w' v 0 S [] ∧ ∀ k ∈ S, w.heap.size ≤ k))
section
variable {TS : World → Value → Nat → List Nat → List S3 → Prop} {X X' : World} {v : Value} {n : Nat} {S : List Nat} {A : List S3}
end
end Go.Proofs.YtajpboclicnopaaGreat
/-
  What is asked of a tree of points with bridges, whatever it is made of; how many are counted by corners, in plain words. No condition but those typed at each theorem.
-/
namespace Go.Proofs.YtajpboclicnopaaGreat.Ca
open Go.RowKit
/-- so many things more than it tells are touched at most -/
def most (n : Nat) : Nat := 8 * lgN (n + 1) + 8
/-- TS X v n S A: v is a tree that was built of n points, those of A are there, the blocks S are its own -/
structure CascC (TS : World → Value → Nat → List Nat → List S3 → Prop) : Prop where
  keep : ∀ {X X' v n S A T}, TS X v n S A → Off T X X' → (∀ k ∈ S, k ∉ T) → TS X' v n S A
  lies : ∀ {X v n S A}, TS X v n S A → ∀ k ∈ S, k < X.heap.size
  build : ∀ (w : World) (p : Option Addr) (c : Nat) (L : List S3), TsS w p L → L.length ≤ 400 → L.length ≤ c → (p = none → c = 0) → (∀ s ∈ L, Wf3 s) → Calls Tryz.prog 19 #[.slice p L.length c] w (Built TS w L)
  len : ∀ {X v n S A}, TS X v n S A → Calls Tryz.prog 23 #[v] X fun e X' => e = .returned (.int .i64 A.length) ∧ Below X.heap.size X X'
  report : ∀ {X v n S A} (b : B5), TS X v n S A → Wf5 b → Calls Tryz.prog 21 #[v, bv b] X fun e X' => (∃ r, ∃ t : Nat, e = .returned (.tuple #[r, .int .i64 t]) ∧ RL X' r (hsS A b.1) ∧ (hsS A b.1).length ≤ t ∧ t ≤ (hsS A b.1).length + most n) ∧ Below X.heap.size X X'
  drop : ∀ {X v n S A} (s : S3), TS X v n S A → Wf3 s → Calls Tryz.prog 20 #[v, tv s] X fun e X' => e = .returned (.bool (decide (s ∈ A))) ∧ ∃ S', TS X' v n S' (drp A s) ∧ Off S X X' ∧ ∀ k ∈ S', k ∈ S ∨ X.heap.size ≤ k
  few : ∀ {X v n S A}, TS X v n S A → A.length ≤ n ∧ n ≤ 400 ∧ Rg A
theorem CascC.bel {TS : World → Value → Nat → List Nat → List S3 → Prop} {X X' : World} {v : Value} {n : Nat} {S : List Nat} {A : List S3} (C : CascC TS) (h : TS X v n S A) (hb : Below X.heap.size X X') : TS X' v n S A := C.keep h (Off.of (S := []) hb (Nat.le_refl _)) (by simp)
/-- one for yes -/
def i1 (b : Bool) : Int := if b then 1 else 0
/-- up to a place, it itself counting, or not, along each coordinate -/
def crB (x y : Int) (wide high : Bool) (s : S3) : Bool := (if wide then decide (s.1 ≤ x) else decide (s.1 < x)) && (if high then decide (s.2.1 ≤ y) else decide (s.2.1 < y))
def cr (L : List S3) (x y : Int) (wide high : Bool) : Nat := (L.filter (crB x y wide high)).length
end Go.Proofs.YtajpboclicnopaaGreat.Ca
