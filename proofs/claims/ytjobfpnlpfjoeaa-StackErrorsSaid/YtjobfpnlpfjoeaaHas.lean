/-
  pool.hasOwnKids. No condition but those typed at each theorem.
-/
import Derived.Test.YtjobfpnlpfjoeaaKids
namespace Go.Proofs.Ytjobfpnlpfjoeaa
open Go.RowKit Go.Shelf
attribute [local go_sem] Oper.semAt_some

/-- a slice's first place, and the yes-or-noes that it has -/
def YnS (w : World) (p : Option Addr) (T : List Bool) : Prop := T = [] ∨ ∃ b off, p = some ⟨b, off, none⟩ ∧ ∀ j x, T[j]? = some x → w.cell? ⟨b, off + j, none⟩ = some (.bool x)
theorem YnS.keep {w w' : World} {p : Option Addr} {T : List Bool} (h : YnS w p T) (hb : Below w.heap.size w w') : YnS w' p T := by
  rcases h with h | ⟨b, off, rfl, h⟩
  · exact .inl h
  · exact .inr ⟨b, off, rfl, fun j x e => (hb.cell (World.block_lt_of_cell? w _ (h j x e))).trans (h j x e)⟩

theorem one_new (W : World) (v : Value) (t : TypeId) : (W.alloc (.cells #[v] t)).cell? ⟨W.heap.size, 0, none⟩ = some v ∧ (W.alloc (.cells #[v] t)).frozen? ⟨W.heap.size, 0, none⟩ = false :=
  ⟨(World.cell?_alloc_new (w := W) #[v] t 0).trans rfl, by simp⟩
theorem cell_al {W : World} {a : Addr} {v : Value} (o : Obj) (h : W.cell? a = some v) : (W.alloc o).cell? a = some v := cell_kept h (World.grownBy_alloc W o none) (fun r e => by cases e)
theorem frozen_al {W : World} {a : Addr} {v : Value} (o : Obj) (h : W.cell? a = some v) (hf : W.frozen? a = false) : (W.alloc o).frozen? a = false := (frozen_kept h (World.grownBy_alloc W o none) (fun r e => by cases e)).trans hf

/-- all of them are free; one of them is not -/
def AllOk (T : List Bool) (xs : List Int) : Prop := xs.all (okT T) = true
def OneNot (T : List Bool) (xs : List Int) : Prop := xs.all (okT T) = false
theorem AllOk.snoc {T : List Bool} {xs : List Int} {x : Int} (h : AllOk T xs) (hx : okT T x = true) : AllOk T (xs ++ [x]) := by
  unfold AllOk at *
  rw [List.all_append, h]
  simp [hx]
theorem OneNot.last {T : List Bool} {xs : List Int} {x : Int} (hx : okT T x = false) : OneNot T (xs ++ [x]) := by
  unfold OneNot
  simp [hx]

set_option maxRecDepth 100000 in
set_option maxHeartbeats 4000000 in
theorem hasOwn_any (n : Nd) (w : World) (p : Option Addr) (cap : Nat) (T : List Bool) (hT : YnS w p T) :
    Calls Try.prog 38 #[nv n, .slice p T.length cap] w fun e w' => e = .returned (.bool (!decide (nl n = nr n) && (ksL n).all (okT T))) ∧ Below w.heap.size w w' := by
  have HT := Lib.hid hT
  obtain ⟨m, hm⟩ : ∃ m, m = T.length := ⟨_, rfl⟩
  have HM := Lib.hid hm
  rw [← hm]
  clear hT hm
  obtain ⟨n0, hn0⟩ : ∃ n0, n0 = n := ⟨_, rfl⟩
  have HK := Lib.hid (fun X => kids_any n0 X)
  have HS := Lib.hid (kids_stops 8 (by omega) n0)
  rw [hn0] at HK HS
  have HN := Lib.hid hn0
  clear hn0
  obtain ⟨k, L, R, f, t, a, q⟩ := n
  unfold nv nvs at *
  have HB2 : Hid (∀ x y z, Below w.heap.size w (((w.alloc x).alloc y).alloc z)) := Lib.hid fun x y z => (((Below.refl _ w).alloc (Nat.le_refl _) x).alloc (by simp) y).alloc (by simp; omega) z
  by_cases hLR : L = R
  · subst hLR
    refine (callsIn_wide (n := 9)).1 ?_
    refine callsIn_of_wp_marks Try.func38 rfl trivial ?_ rfl
    simp only [Try.ntmps38, List.size_toArray, List.length_cons, List.length_nil, Nat.reduceAdd, Nat.reduceSub, Array.replicate_succ, Array.replicate_zero, List.push_toArray, List.append_toArray, List.nil_append, List.cons_append]
    gi_wp2
    exact ⟨.bool false, by simp [results, Try.f38, go_sem], by simp [nl, nr], HB2.out _ _ _⟩
  · have hd : (!decide (nl (k, L, R, f, t, a, q) = nr (k, L, R, f, t, a, q))) = true := by simp [nl, nr, hLR]
    simp only [hd, Bool.true_and]
    obtain ⟨ks, hks⟩ : ∃ ks, ks = ksL (k, L, R, f, t, a, q) := ⟨_, rfl⟩
    rw [← hks] at HS
    rw [← hks]
    clear hks hd HB2
    refine (callsIn_wide (n := 9)).1 ?_
    refine callsIn_of_wp_marks Try.func38 rfl trivial ?_ rfl
    simp only [Try.ntmps38, List.size_toArray, List.length_cons, List.length_nil, Nat.reduceAdd, Nat.reduceSub, Array.replicate_succ, Array.replicate_zero, List.push_toArray, List.append_toArray, List.nil_append, List.cons_append]
    gi_wp2_with (refine ⟨trivial, ?_⟩; gi_at_call 39; refine (callsIn_wide.2 (HK.out _)).mono ?_; rintro e w' ⟨rfl, rfl⟩)
    obtain ⟨W0, hW0⟩ : ∃ W0, ((((w.alloc (.cells #[.int .u8 k, .int .i64 L, .int .i64 R, .int .i64 f, .int .i64 t, .int .i64 a, .int .i64 q] 36)).alloc (.cells #[.slice p m cap] 44)).alloc (.cells #[.bool false] 4)).alloc (.cells #[.int .u8 k, .int .i64 L, .int .i64 R, .int .i64 f, .int .i64 t, .int .i64 a, .int .i64 q] 36)) = W0 := ⟨_, rfl⟩
    have hsz : W0.heap.size = w.heap.size + 4 := by rw [← hW0]; simp
    have hB0 : Below w.heap.size w W0 := by rw [← hW0]; exact ((((Below.refl _ w).alloc (Nat.le_refl _) _).alloc (by simp) _).alloc (by simp; omega) _).alloc (by simp; omega) _
    have hN : N1 W0 (w.heap.size + 1 + 1 + 1) 0 (k, L, R, f, t, a, q) := by
      rw [← hW0]
      have := N1.new (((w.alloc (.cells #[.int .u8 k, .int .i64 L, .int .i64 R, .int .i64 f, .int .i64 t, .int .i64 a, .int .i64 q] 36)).alloc (.cells #[.slice p m cap] 44)).alloc (.cells #[.bool false] 4)) (k, L, R, f, t, a, q) 36
      simpa [nvs] using this
    have c1 : W0.cell? ⟨w.heap.size + 1, 0, none⟩ = some (.slice p m cap) := by
      have := (one_new (w.alloc (.cells #[.int .u8 k, .int .i64 L, .int .i64 R, .int .i64 f, .int .i64 t, .int .i64 a, .int .i64 q] 36)) (.slice p m cap) 44).1
      rw [World.size_alloc] at this
      rw [← hW0]
      exact cell_al _ (cell_al _ this)
    have c2 : W0.cell? ⟨w.heap.size + 1 + 1, 0, none⟩ = some (.bool false) ∧ W0.frozen? ⟨w.heap.size + 1 + 1, 0, none⟩ = false := by
      have := one_new ((w.alloc (.cells #[.int .u8 k, .int .i64 L, .int .i64 R, .int .i64 f, .int .i64 t, .int .i64 a, .int .i64 q] 36)).alloc (.cells #[.slice p m cap] 44)) (.bool false) 4
      simp only [World.size_alloc] at this
      rw [← hW0]
      exact ⟨cell_al _ this.1, frozen_al _ this.1 this.2⟩
    obtain ⟨c2, f2⟩ := c2
    rw [hW0]
    clear hW0 HK
    have HSS := HS.out (w.heap.size + 1 + 1 + 1) W0 (by omega) hN
    clear HS hN
    refine wpIn_rangeFunc_ownF rfl (by omega) (gf := 41) (lb := #[.pointer (some ⟨w.heap.size + 1 + 1 + 1, 0, none⟩)]) rfl trivial (enters_of Try.func41 (by kernel_rfl) rfl)
      HSS kpB_t kpB_b (Below.refl _ _) (fun _ => rfl)
      (fun pre W => (AllOk T pre ∧ W.cell? ⟨w.heap.size + 1, 0, none⟩ = some (.slice p m cap) ∧ W.cell? ⟨w.heap.size + 1 + 1, 0, none⟩ = some (.bool false) ∧ W.frozen? ⟨w.heap.size + 1 + 1, 0, none⟩ = false) ∧ Below w.heap.size w W)
      (fun c pre W => (c = .ret ∧ OneNot T pre ∧ W.cell? ⟨w.heap.size + 1 + 1, 0, none⟩ = some (.bool false)) ∧ Below w.heap.size w W)
      (OwnFrom.and (Own.from (fun s A B row hs hg hr => ⟨hs.1, cell_kept hs.2.1 hg hr, cell_kept hs.2.2.1 hg hr, (frozen_kept hs.2.2.1 hg hr).trans hs.2.2.2⟩) _) (ownFrom_below (Nat.le_refl _) (by omega)))
      (fun c => OwnFrom.and (Own.from (fun s A B row hs hg hr => ⟨hs.1, hs.2.1, cell_kept hs.2.2 hg hr⟩) _) (ownFrom_below (Nat.le_refl _) (by omega)))
      ⟨⟨rfl, c1, c2, f2⟩, hB0⟩
      (fun x => { tmps := #[.agg #[.int .u8 k, .int .i64 L, .int .i64 R, .int .i64 f, .int .i64 t, .int .i64 a, .int .i64 q], .slice p m cap, .pointer (some ⟨w.heap.size, 0, none⟩), .pointer (some ⟨w.heap.size + 1, 0, none⟩), .pointer (some ⟨w.heap.size + 1 + 1, 0, none⟩), .int .i64 x, .pointer (some ⟨w.heap.size, 1, none⟩), .int .i64 L, .pointer (some ⟨w.heap.size, 2, none⟩), .int .i64 R, .bool false, .agg #[.int .u8 k, .int .i64 L, .int .i64 R, .int .i64 f, .int .i64 t, .int .i64 a, .int .i64 q], .func (.func 41) #[] #[.pointer (some ⟨w.heap.size + 1 + 1 + 1, 0, none⟩)], .int .i64 x, undef, undef, undef, undef, undef, undef, undef, undef, undef, undef, undef, undef, undef, undef], defers := [] }) ?assign ?body ?done ?stop
    case assign =>
      intro l x W K hK
      gi_wp2
      exact hK
    case body =>
      rintro l pre x W ⟨⟨hp, hcw, hcr, hfr⟩, hB⟩ _
      have HT2 : YnS W p T := HT.out.keep hB
      have hM := HM.out
      have hset : Below w.heap.size w (W.setCell ⟨w.heap.size + 1 + 1, 0, none⟩ (.bool false)) := hB.setCell (p := ⟨w.heap.size + 1 + 1, 0, none⟩) (by simp; omega) _
      have hsame : (W.setCell ⟨w.heap.size + 1 + 1, 0, none⟩ (.bool false)).cell? ⟨w.heap.size + 1 + 1, 0, none⟩ = some (.bool false) := World.cell?_setCell_same' _ _ _ (by rw [hcr]; rfl)
      have HX : Hid (okT T x = false → KeepsOthers W (W.setCell ⟨w.heap.size + 1 + 1, 0, none⟩ (.bool false)) ∧ ((OneNot T (pre ++ [x]) ∧ (W.setCell ⟨w.heap.size + 1 + 1, 0, none⟩ (.bool false)).cell? ⟨w.heap.size + 1 + 1, 0, none⟩ = some (.bool false)) ∧ Below w.heap.size w (W.setCell ⟨w.heap.size + 1 + 1, 0, none⟩ (.bool false)))) :=
        Lib.hid fun hx => ⟨KeepsOthers.setCell _ _ _, ⟨OneNot.last hx, hsame⟩, hset⟩
      have HB := Lib.hid hB
      clear hset hsame hB
      by_cases h1 : x < 0
      · have hok : okT T x = false := by unfold okT; simp; omega
        clear HT2 hM
        gi_wp2
        exact ⟨(HX.out hok).1, ⟨rfl, (HX.out hok).2.1⟩, (HX.out hok).2.2⟩
      · obtain ⟨j, rfl⟩ : ∃ j : Nat, x = j := ⟨x.toNat, by omega⟩
        by_cases h2 : j < m
        · have h2z : (j : Int) < m := by omega
          obtain ⟨y, hy⟩ : ∃ y, T[j]? = some y := ⟨_, List.getElem?_eq_getElem (by omega)⟩
          rcases HT2 with rfl | ⟨b, off, rfl, hcT⟩
          · simp at hy
          have hcj := hcT j y hy
          have hok : okT T (j : Int) = !y := by
            unfold okT
            rw [Int.toNat_natCast, List.getD_eq_getElem?_getD, hy, Option.getD_some, ← hM]
            simp [h2z]
          clear hcT hM
          cases y
          · gi_wp2
            exact ⟨KeepsOthers.refl _, fun _ _ e => e, ⟨hp.snoc (by simp [hok]), hcw, hcr, hfr⟩, HB.out⟩
          · gi_wp2
            exact ⟨(HX.out (by simp [hok])).1, ⟨rfl, (HX.out (by simp [hok])).2.1⟩, (HX.out (by simp [hok])).2.2⟩
        · have h2z : ¬ (j : Int) < m := by omega
          have hok : okT T (j : Int) = false := by unfold okT; simp; omega
          clear HT2 hM
          gi_wp2
          exact ⟨(HX.out hok).1, ⟨rfl, (HX.out hok).2.1⟩, (HX.out hok).2.2⟩
    case done =>
      rintro D ys W hD rfl ⟨⟨hne, _, hcr, hfr⟩, hB⟩ hK
      gi_wp2
      have hK' := (KeepsOthers.setCell W ⟨w.heap.size + 1 + 1, 0, none⟩ (.bool true)).same D _ hK rfl
      refine ⟨by simp, .inl ⟨_, _, rfl, run_takeDeferred hK', ?_⟩⟩
      have hc5 := cell_kept (World.cell?_setCell_same' W ⟨w.heap.size + 1 + 1, 0, none⟩ (.bool true) (by rw [hcr]; rfl)) (grownBy_putObj' _ D (.deferred none)) (fun r e => by cases e; exact ⟨_, hK', rfl⟩)
      refine ⟨.bool true, ?_, by rw [show ys.all (okT T) = true from hne], (hB.setCell (p := ⟨w.heap.size + 1 + 1, 0, none⟩) (by simp; omega) _).trans (belowK_b (w := w) (Nat.le_refl _) _ D _ _ (by omega) hK' rfl rfl)⟩
      simp [results, Try.f38, go_sem, hc5]
    case stop =>
      rintro D c pre W hD hpre ⟨⟨rfl, hin, hcr⟩, hB⟩ hK
      gi_wp2
      refine ⟨by simp, .inl ⟨_, _, rfl, run_takeDeferred hK, ?_⟩⟩
      have hc5 := cell_kept hcr (grownBy_putObj' _ D (.deferred none)) (fun r e => by cases e; exact ⟨_, hK, rfl⟩)
      have hall : ks.all (okT T) = false := by
        obtain ⟨zs, rfl⟩ := hpre
        rw [List.all_append, show pre.all (okT T) = false from hin]
        rfl
      refine ⟨.bool false, ?_, by rw [hall], hB.trans (belowK_b (w := w) (Nat.le_refl _) W D _ _ (by omega) hK rfl rfl)⟩
      simp [results, Try.f38, go_sem, hc5]
end Go.Proofs.Ytjobfpnlpfjoeaa
