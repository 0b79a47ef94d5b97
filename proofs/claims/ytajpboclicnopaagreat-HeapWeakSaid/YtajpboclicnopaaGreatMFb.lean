/-
  frame's part: canon. No condition but those typed at each theorem.
-/
import Derived.Test.YtajpboclicnopaaGreatMFa
namespace Go.Proofs.YtajpboclicnopaaGreat
open Go.RowKit
theorem Tryz.info3 : (Tryz.prog.info? 3).map (fun i => (i.zero, i.size, i.bytes)) = some (some (.int .i64 0), 1, 8) := by kernel_rfl
def ints (l : List Nat) : List Int := l.map Int.ofNat
theorem row_keep {w w' : World} {base n : Nat} {e : TypeId} {size : Nat} {v : Value} {xs : List Value} (h : w.ownsRow base e size v n xs) (hb : Below w.heap.size w w') : w'.ownsRow base e size v n xs :=
  row_at h (fun k e => ⟨hb.block k (h.lt k e).2, (h.lt k e).1⟩)
end Go.Proofs.YtajpboclicnopaaGreat
/-
  frame's part: path; a frame's Canon and Path. No condition but those typed at each theorem.
-/
namespace Go.Proofs.YtajpboclicnopaaGreat
open Go.RowKit
theorem pt_nd {leaf : Nat} {l r : Tr} {b f : Nat} : pt leaf (.nd l r) b f = rt b (.nd l r) :: (if leaf < f + lv l then pt leaf l b f else pt leaf r (b + sz l) (f + lv l)) := rfl
theorem ht_le : ∀ t, ht t + 1 ≤ lv t
  | .lf => by simp [ht, lv]
  | .nd l r => by
    have h1 := ht_le l
    have h2 := ht_le r
    simp only [ht, lv]
    omega
/-- on the way down: what has been written, the part that is at hand -/
structure PS (w wr : World) (B : Nat) (v : Value) (leaf : Nat) (all : List Nat) (m : Nat) : Prop where
  st : ∃ b f pre, 1 ≤ m ∧ wr.heap[B]? = some (.cells #[.int .i64 (b : Nat), .int .i64 (f : Nat), .int .i64 (f + m : Nat)] 174 (0, 0)) ∧ pre ++ pt leaf (tr m) b f = all ∧
    wr.ownsRow w.heap.size 3 1 v (pre.length + 1) ((ints (pre ++ [rt b (tr m)])).map (Value.int .i64)) ∧ b + 2 * m ≤ 50000 ∧ f ≤ leaf ∧ leaf < f + m ∧ f + m ≤ 20000
  bel : Below w.heap.size w wr
  ne : v.ownBlock ≠ some B
theorem one_cell {w : World} {B : Nat} {cs : Array Value} {t : TypeId} (h : w.heap[B]? = some (.cells cs t (0, 0))) (i : Nat) (v : Value) (e : cs[i]? = some v) : w.cell? ⟨B, i, none⟩ = some v := by
  simp [World.cell?, h, e]
theorem heap_al {w : World} {B : Nat} {o : Obj} (h : w.heap[B]? = some o) (o' : Obj) : (w.alloc o').heap[B]? = some o := (Below.heap_alloc _ _ _ (by have := (Array.getElem?_eq_some_iff.1 h).1; exact this)).trans h
theorem sv_cell {w : World} {B : Nat} {cs : Array Value} {t : TypeId} (h : w.heap[B]? = some (.cells cs t (0, 0))) (o o' : Obj) (i : Nat) (v : Value) (e : cs[i]? = some v) : ((w.alloc o).alloc o').cell? ⟨B, i, none⟩ = some v := one_cell (heap_al (heap_al h o) o') i v e
theorem sv_fr {w : World} {B : Nat} {cs : Array Value} {t : TypeId} (h : w.heap[B]? = some (.cells cs t (0, 0))) (o o' : Obj) (i : Nat) : ((w.alloc o).alloc o').frozen? ⟨B, i, none⟩ = false := by
  simp [World.frozen?, heap_al (heap_al h o) o']
theorem ps_off {wr w3 : World} {B : Nat} (o o' : Obj) (y0 y1 y2 : Value) (h : Below wr.heap.size wr w3) : Off [B] wr (((((w3.alloc o).alloc o').setCell ⟨B, 0, none⟩ y0).setCell ⟨B, 1, none⟩ y1).setCell ⟨B, 2, none⟩ y2) :=
  (((((Off.of h (Nat.le_refl _)).all _).all _).set _ _ (.inl (by simp))).set _ _ (.inl (by simp))).set _ _ (.inl (by simp))
theorem ps_box {w3 : World} {B : Nat} {x0 x1 x2 : Value} {t : TypeId} (o o' : Obj) (y0 y1 y2 : Value) (h : w3.heap[B]? = some (.cells #[x0, x1, x2] t (0, 0))) :
    (((((w3.alloc o).alloc o').setCell ⟨B, 0, none⟩ y0).setCell ⟨B, 1, none⟩ y1).setCell ⟨B, 2, none⟩ y2).heap[B]? = some (.cells #[y0, y1, y2] t (0, 0)) := by
  have h1 := heap_al (heap_al h o) o'
  have h2 : (((w3.alloc o).alloc o').setCell ⟨B, 0, none⟩ y0).heap[B]? = _ := heap_setCell_same _ _ _ _ _ _ h1
  have h3 : ((((w3.alloc o).alloc o').setCell ⟨B, 0, none⟩ y0).setCell ⟨B, 1, none⟩ y1).heap[B]? = _ := heap_setCell_same _ _ _ _ _ _ h2
  rw [heap_setCell_same _ _ _ _ _ _ h3]
  rfl
theorem row_from {w' : World} {g n c base : Nat} {xs : List Value} (h : w'.ownsRow 0 3 1 (.slice (some ⟨g, 0, none⟩) n c) n xs) (hb : base ≤ g) : w'.ownsRow base 3 1 (.slice (some ⟨g, 0, none⟩) n c) n xs := by
  obtain ⟨h1, h2⟩ := h
  refine ⟨h1, ?_⟩
  rcases h2 with h2 | ⟨g', cap, cur, hv, hg, hr⟩
  · exact .inl h2
  · cases hv
    exact .inr ⟨_, _, cur, rfl, hb, hr⟩
theorem ps_next {w wr w5 w7 : World} {B : Nat} {u5 : Value} {leaf gk m' b b' f' r : Nat} {pre all : List Nat} {g cap : Nat} (hrow : wr.ownsRow w.heap.size 3 1 u5 (pre.length + 1) ((ints (pre ++ [rt b (tr gk)])).map (Value.int .i64))) (hB : w.heap.size ≤ B)
    (hbel : Below w.heap.size w wr) (hne : u5.ownBlock ≠ some B) (hO : Off [B] wr w5) (hbx : w5.heap[B]? = some (.cells #[.int .i64 (b' : Nat), .int .i64 (f' : Nat), .int .i64 (f' + m' : Nat)] 174 (0, 0)))
    (r1 : w7.ownsRow 0 3 1 (.slice (some ⟨g, 0, none⟩) (pre.length + 1 + 1) cap) (pre.length + 1 + 1) ((ints (pre ++ [rt b (tr gk)])).map (Value.int .i64) ++ [.int .i64 (r : Nat)]))
    (r2 : (w5.alloc (.cells #[.int .i64 (r : Nat)] 3)).grownBy w7 u5.ownBlock) (r3 : u5.ownBlock = some g ∨ g = (w5.alloc (.cells #[.int .i64 (r : Nat)] 3)).heap.size) (hr : r = rt b' (tr m'))
    (hm : 1 ≤ m') (hall : pre ++ [rt b (tr gk)] ++ pt leaf (tr m') b' f' = all) (h5 : b' + 2 * m' ≤ 50000) (h6 : f' ≤ leaf) (h7 : leaf < f' + m') (h8 : f' + m' ≤ 20000) :
    PS w w7 B (.slice (some ⟨g, 0, none⟩) (pre.length + 1 + 1) cap) leaf all m' := by
  have hs := hbel.size
  have hs5 := hO.size
  have hlt := lt_of_block hbx
  have hbl : ∀ k, u5.ownBlock = some k → w.heap.size ≤ k ∧ k < wr.heap.size := hrow.lt
  have hg : w.heap.size ≤ g ∧ g ≠ B := by
    rcases r3 with e | e
    · exact ⟨(hbl g e).1, fun e2 => hne (by rw [e, e2])⟩
    · simp at e
      omega
  have hpl : (pre ++ [rt b (tr gk)]).length + 1 = pre.length + 1 + 1 := by simp
  have hrow7 : w7.ownsRow w.heap.size 3 1 (.slice (some ⟨g, 0, none⟩) (pre.length + 1 + 1) cap) ((pre ++ [rt b (tr gk)]).length + 1) ((ints (pre ++ [rt b (tr gk)] ++ [rt b' (tr m')])).map (Value.int .i64)) := by
    rw [hpl]
    refine row_from ?_ hg.1
    have e : ints (pre ++ [rt b (tr gk)] ++ [rt b' (tr m')]) = ints (pre ++ [rt b (tr gk)]) ++ [(r : Int)] := by rw [hr]; simp [ints]
    rw [e, List.map_append]
    simpa using r1
  refine ⟨⟨b', f', pre ++ [rt b (tr gk)], hm, ?_, hall, hrow7, h5, h6, h7, h8⟩, ?_, ?_⟩
  · exact (r2.block B (by simp; omega) (fun e => hne e.symm)).trans (heap_al hbx _)
  · have h1 : Below w.heap.size w w5 := hbel.trans (hO.below hs (by simp; exact hB))
    refine (h1.alloc h1.size _).grown r2 ?_ (fun k e => (hbl k e).1)
    have := h1.size
    simp
    omega
  · simp [Value.ownBlock]
    exact hg.2
theorem ps_start (w w2 : World) (n leaf : Nat) (all : List Nat) (hn : n ≤ 20000) (hl : leaf < n) (hall : all = pt leaf (tr n) 0 0)
    (hB : Below (w.alloc (.cells #[.int .i64 0, .int .i64 0, .int .i64 n] 174)).heap.size (w.alloc (.cells #[.int .i64 0, .int .i64 0, .int .i64 n] 174)) w2) :
    PS w (w2.alloc (.cells #[.int .i64 (rt 0 (tr n) : Nat)] 3)) w.heap.size (.slice (some ⟨w2.heap.size, 0, none⟩) 1 1) leaf all n := by
  have hs := hB.size
  simp only [World.size_alloc] at hs
  refine ⟨⟨0, 0, [], by omega, ?_, by rw [hall]; rfl, ?_, by omega, by omega, by omega, by omega⟩, ?_, ?_⟩
  · rw [Below.heap_alloc _ _ _ (by omega), hB.block _ (by simp)]
    rw [heap_alloc_new, Nat.zero_add]
    rfl
  · exact ⟨by simp [ints], .inr ⟨w2.heap.size, 1, #[.int .i64 (rt 0 (tr n) : Nat)], rfl, by omega, heap_alloc_new w2 _, Nat.le_refl _, by simp [maxLen], rfl, by simp [ints]⟩⟩
  · exact (((Below.refl _ w).alloc (Nat.le_refl _) _).trans (hB.mono (by simp))).alloc (by omega) _
  · simp [Value.ownBlock]
    omega
set_option maxRecDepth 100000 in
set_option maxHeartbeats 3200000 in
theorem path_part (w : World) (n leaf : Nat) (hn : n ≤ 20000) (hl : leaf < n) :
    Calls Tryz.prog 117 #[.agg #[.int .i64 0, .int .i64 0, .int .i64 n], .int .i64 leaf] w fun e w' => ∃ v, e = .returned v ∧ w'.ownsRow w.heap.size 3 1 v (pt leaf (tr n) 0 0).length ((ints (pt leaf (tr n) 0 0)).map (Value.int .i64)) ∧ Below w.heap.size w w' := by
  have HR : Hid (∀ X, Calls Tryz.prog 91 #[.agg #[.int .i64 0, .int .i64 0, .int .i64 n]] X fun e w' => e = .returned (.int .i64 (rt 0 (tr n) : Nat)) ∧ Below X.heap.size X w') := Lib.hid (fun X => by
    have := root_any 0 0 n (rt 0 (tr n)) X (by omega) (by have := lv_tr (m := n) (by omega); unfold rt; omega) (by omega)
    rwa [Nat.zero_add] at this)
  obtain ⟨all, hall⟩ : ∃ all, all = pt leaf (tr n) 0 0 := ⟨_, rfl⟩
  rw [← hall]
  have HALL := Lib.hid hall
  clear hall
  go_enter Tryz.func117, Tryz.ntmps117
  go_wp2_with (go_at_call 91; (with_reducible refine (HR.out _).mono ?_); rintro e w2 ⟨rfl, hb⟩; have HB2 := Lib.hid hb; clear hb)
  have HP0 := Lib.hid (ps_start w w2 n leaf all hn hl HALL.out HB2.out)
  clear HR
  go_loopg [5] n (fun gk v wr => 1 ≤ gk ∧ Hid (PS w wr w.heap.size v leaf all gk))
  case atStart => exact ⟨by omega, HP0⟩
  case round =>
    clear HP0
    obtain ⟨hm, HP⟩ := hrel
    have hP := HP.out
    obtain ⟨⟨b, f, pre, -, hbx, hpre, hrow, hb5, hf1, hf2, hf3⟩, hbel, hne⟩ := hP
    have HBX := Lib.hid hbx
    have HPRE := Lib.hid hpre
    have HROW := Lib.hid hrow
    have HBEL := Lib.hid hbel
    have HNE := Lib.hid hne
    obtain ⟨t, ht⟩ : ∃ t, t = f + gk := ⟨_, rfl⟩
    have p0 : wr.cell? ⟨w.heap.size, 0, none⟩ = some (.int .i64 (b : Nat)) := one_cell hbx 0 _ rfl
    have p1 : wr.cell? ⟨w.heap.size, 1, none⟩ = some (.int .i64 (f : Nat)) := one_cell hbx 1 _ rfl
    have p2 : wr.cell? ⟨w.heap.size, 2, none⟩ = some (.int .i64 (f + gk : Nat)) := one_cell hbx 2 _ rfl
    have HIS := Lib.hid (fun X => isLeaf_any b f gk X hm (by omega))
    rw [← ht] at p2 HIS
    have HT := Lib.hid ht
    clear ht hbx hpre hrow hbel hne HP
    unfold pv pvs at HIS
    by_cases h1 : gk = 1
    · have hd : decide (gk = 1) = true := by simp [h1]
      rw [hd] at HIS
      go_wp2_with (go_at_call 132; (with_reducible refine (HIS.out _).mono ?_); rintro e w4 ⟨rfl, rfl⟩)
      go_ret
      subst h1
      have h2 := HPRE.out
      rw [tr_one (by omega)] at h2
      have h3 := HROW.out
      rw [tr_one (by omega)] at h3
      have h4 : pre ++ [rt b .lf] = all := h2
      refine ⟨_, rfl, row_keep ?_ ((Below.refl _ wr).alloc (Nat.le_refl _) _), HBEL.out.alloc HBEL.out.size _⟩
      rw [h4] at h3
      have h5 : pre.length + 1 = all.length := by rw [← h4]; simp
      rw [h5] at h3
      exact h3
    · have hm2 : 2 ≤ gk := by omega
      have hd : decide (gk = 1) = false := by simp [h1]
      rw [hd] at HIS
      obtain ⟨a, ha⟩ : ∃ a, a = gk - gk / 2 := ⟨_, rfl⟩
      obtain ⟨c, hc⟩ : ∃ c, c = gk / 2 := ⟨_, rfl⟩
      obtain ⟨mid, hmid⟩ : ∃ mid, mid = f + a := ⟨_, rfl⟩
      obtain ⟨z, hz⟩ : ∃ z, z = sz (tr a) := ⟨_, rfl⟩
      have etr : tr gk = .nd (tr a) (tr c) := by rw [tr_two hm2, ha, hc]
      have la : lv (tr a) = a := lv_tr (by omega)
      have lc : lv (tr c) = c := lv_tr (by omega)
      have hz1 : z + 1 = 2 * a := by rw [hz]; unfold sz; omega
      have hpt : pt leaf (tr gk) b f = rt b (tr gk) :: (if leaf < mid then pt leaf (tr a) b f else pt leaf (tr c) (b + z) mid) := by rw [etr, pt_nd, la, ← hz, ← hmid]
      have hft := HT.out
      have HHV := Lib.hid (fun X => halves_any b f gk a c z mid t X hm2 ha hc hz1 hmid hft (by omega))
      have HPT := Lib.hid hpt
      have HDD : Hid (mid = f + a ∧ z + 1 = 2 * a ∧ a + c = gk ∧ 1 ≤ a ∧ 1 ≤ c ∧ a < gk ∧ c < gk ∧ t = mid + c ∧ t = f + gk) := Lib.hid (by omega)
      obtain ⟨hd1, hd2, hd3, hd4, hd5, hd6, hd7, hd8, hd9⟩ := HDD.out
      have hrl : pre.length + 1 ≤ 60000 := by
        have h2 := congrArg List.length HPRE.out
        rw [List.length_append, HALL.out] at h2
        have h3 := (pt_len leaf (tr n) 0 0).2
        have h4 := ht_le (tr n)
        rw [lv_tr (by omega)] at h4
        have h5 := (pt_len leaf (tr gk) b f).1
        omega
      unfold pv at HHV
      have q0 : ∀ o, (wr.alloc o).cell? ⟨w.heap.size, 0, none⟩ = some (.int .i64 (b : Nat)) := fun o => cell_al o p0
      have q1 : ∀ o, (wr.alloc o).cell? ⟨w.heap.size, 1, none⟩ = some (.int .i64 (f : Nat)) := fun o => cell_al o p1
      have q2 : ∀ o, (wr.alloc o).cell? ⟨w.heap.size, 2, none⟩ = some (.int .i64 (t : Nat)) := fun o => cell_al o p2
      by_cases h5 : leaf < mid
      · have h5z : (leaf : Int) < mid := by omega
        obtain ⟨r, hrr⟩ : ∃ r, r = rt b (tr a) := ⟨_, rfl⟩
        have HR : Hid (∀ X, Calls Tryz.prog 91 #[.agg #[.int .i64 b, .int .i64 f, .int .i64 mid]] X fun e w' => e = .returned (.int .i64 (r : Nat)) ∧ Below X.heap.size X w') := Lib.hid (fun X => by
          have := root_any b f a r X (by omega) (by rw [hrr]; unfold rt; omega) (by omega)
          rwa [← hd1] at this)
        rw [if_pos h5] at hpt
        have HNX := Lib.hid (fun w5 w7 g cap (hO : Off [w.heap.size] wr w5) (hbx : w5.heap[w.heap.size]? = some (.cells #[.int .i64 (b : Nat), .int .i64 (f : Nat), .int .i64 (mid : Nat)] 174 (0, 0))) r1 r2 r3 => ps_next (leaf := leaf) (m' := a) (b' := b) (f' := f) (r := r) (all := all) (g := g) (cap := cap) (w7 := w7) HROW.out (Nat.le_refl _) HBEL.out HNE.out hO (by rw [← hd1]; exact hbx) r1 r2 r3 hrr (by omega) (by rw [← HPRE.out, hpt]; simp) (by omega) hf1 (by omega) (by omega))
        clear hd1 hd2 hd3 hd4 hd5 hd6 hd7 hd8 hd9 ha hc hmid hz hz1 hpt la lc etr hft hb5 hf3 hf2 hrr
        go_wp2_with (first
          | (go_at_call 132; (with_reducible refine (HIS.out _).mono ?_); rintro e w4 ⟨rfl, rfl⟩)
          | (go_at_call 134; (with_reducible refine (HHV.out _).mono ?_); rintro e w3 ⟨rfl, hb3⟩; have HB3 := Lib.hid (((Below.refl _ wr).alloc (Nat.le_refl _) _).trans (hb3.mono (by simp))); clear hb3; have hbx3 := (HB3.out.block _ (lt_of_block HBX.out)).trans HBX.out; have HBX3 := Lib.hid hbx3; have s0 := fun o o' => sv_cell hbx3 o o' 0 _ rfl; have s1 := fun o o' => sv_cell hbx3 o o' 1 _ rfl; have s2 := fun o o' => sv_cell hbx3 o o' 2 _ rfl; have f0 := fun o o' => sv_fr hbx3 o o' 0; have f1 := fun o o' => sv_fr hbx3 o o' 1; have f2 := fun o o' => sv_fr hbx3 o o' 2; clear hbx3)
          | (go_at_call 91; (with_reducible refine (HR.out _).mono ?_); rintro e w5 ⟨rfl, hb⟩; have HO5 := Lib.hid ((ps_off _ _ _ _ _ HB3.out).bel hb); have HX5 := Lib.hid ((hb.block _ (lt_of_block (ps_box _ _ _ _ _ HBX3.out))).trans (ps_box _ _ _ _ _ HBX3.out)); have HW5 := Lib.hid (((row_at HROW.out (fun k e => ⟨HO5.out.block k (HROW.out.lt k e).2 (by simp; exact fun e2 => HNE.out (by rw [e, e2])), Nat.zero_le _⟩)).alloc (.cells #[.int .i64 (r : Nat)] 3))); clear hb)
          | (at_builtin; refine wpList_more Tryz.info3 rfl (by decide) (by decide) Tryz.underlying87 _ rfl _ _ rfl u5 (pre.length + 1) _ rfl HW5.out ⟨w5.heap.size, 0, none⟩ 1 1 [.int .i64 (r : Nat)] rfl rfl (one_at _ _ _) (by simp [Value.oneCell']) (by omega) (by omega) ?_; intro g cap w7 r1 r2 r3; have HPS := Lib.hid (HNX.out w5 w7 g cap HO5.out HX5.out r1 r2 r3); clear r1 r2 r3))
        go_roundg a
        case measure => exact HDD.out.2.2.2.2.2.1
        case rel => exact ⟨HDD.out.2.2.2.1, HPS⟩
      · have h5z : ¬ (leaf : Int) < mid := by omega
        obtain ⟨r, hrr⟩ : ∃ r, r = rt (b + z) (tr c) := ⟨_, rfl⟩
        obtain ⟨bz, hbz⟩ : ∃ bz, bz = b + z := ⟨_, rfl⟩
        rw [← hbz] at HHV hpt hrr
        have HR : Hid (∀ X, Calls Tryz.prog 91 #[.agg #[.int .i64 bz, .int .i64 mid, .int .i64 t]] X fun e w' => e = .returned (.int .i64 (r : Nat)) ∧ Below X.heap.size X w') := Lib.hid (fun X => by
          have := root_any bz mid c r X (by omega) (by rw [hrr]; unfold rt; omega) (by omega)
          rwa [← hd8] at this)
        rw [if_neg h5] at hpt
        have HNX := Lib.hid (fun w5 w7 g cap (hO : Off [w.heap.size] wr w5) (hbx : w5.heap[w.heap.size]? = some (.cells #[.int .i64 (bz : Nat), .int .i64 (mid : Nat), .int .i64 (t : Nat)] 174 (0, 0))) r1 r2 r3 => ps_next (leaf := leaf) (m' := c) (b' := bz) (f' := mid) (r := r) (all := all) (g := g) (cap := cap) (w7 := w7) HROW.out (Nat.le_refl _) HBEL.out HNE.out hO (by rw [← hd8]; exact hbx) r1 r2 r3 hrr (by omega) (by rw [← HPRE.out, hpt]; simp) (by omega) (by omega) (by omega) (by omega))
        clear hd1 hd2 hd3 hd4 hd5 hd6 hd7 hd8 hd9 ha hc hmid hz hz1 hpt la lc etr hft hb5 hf3 hf2 hrr hbz
        go_wp2_with (first
          | (go_at_call 132; (with_reducible refine (HIS.out _).mono ?_); rintro e w4 ⟨rfl, rfl⟩)
          | (go_at_call 134; (with_reducible refine (HHV.out _).mono ?_); rintro e w3 ⟨rfl, hb3⟩; have HB3 := Lib.hid (((Below.refl _ wr).alloc (Nat.le_refl _) _).trans (hb3.mono (by simp))); clear hb3; have hbx3 := (HB3.out.block _ (lt_of_block HBX.out)).trans HBX.out; have HBX3 := Lib.hid hbx3; have s0 := fun o o' => sv_cell hbx3 o o' 0 _ rfl; have s1 := fun o o' => sv_cell hbx3 o o' 1 _ rfl; have s2 := fun o o' => sv_cell hbx3 o o' 2 _ rfl; have f0 := fun o o' => sv_fr hbx3 o o' 0; have f1 := fun o o' => sv_fr hbx3 o o' 1; have f2 := fun o o' => sv_fr hbx3 o o' 2; clear hbx3)
          | (go_at_call 91; (with_reducible refine (HR.out _).mono ?_); rintro e w5 ⟨rfl, hb⟩; have HO5 := Lib.hid ((ps_off _ _ _ _ _ HB3.out).bel hb); have HX5 := Lib.hid ((hb.block _ (lt_of_block (ps_box _ _ _ _ _ HBX3.out))).trans (ps_box _ _ _ _ _ HBX3.out)); have HW5 := Lib.hid (((row_at HROW.out (fun k e => ⟨HO5.out.block k (HROW.out.lt k e).2 (by simp; exact fun e2 => HNE.out (by rw [e, e2])), Nat.zero_le _⟩)).alloc (.cells #[.int .i64 (r : Nat)] 3))); clear hb)
          | (at_builtin; refine wpList_more Tryz.info3 rfl (by decide) (by decide) Tryz.underlying87 _ rfl _ _ rfl u5 (pre.length + 1) _ rfl HW5.out ⟨w5.heap.size, 0, none⟩ 1 1 [.int .i64 (r : Nat)] rfl rfl (one_at _ _ _) (by simp [Value.oneCell']) (by omega) (by omega) ?_; intro g cap w7 r1 r2 r3; have HPS := Lib.hid (HNX.out w5 w7 g cap HO5.out HX5.out r1 r2 r3); clear r1 r2 r3))
        go_roundg c
        case measure => exact HDD.out.2.2.2.2.2.2.1
        case rel => exact ⟨HDD.out.2.2.2.2.1, HPS⟩
end Go.Proofs.YtajpboclicnopaaGreat
/-
  A frame's Canon and Path. No condition but those typed at each theorem.
-/
namespace Go.Proofs.YtajpboclicnopaaGreat
open Go.RowKit
theorem row_up {w : World} {base base' n : Nat} {e : TypeId} {size : Nat} {v : Value} {xs : List Value} (h : w.ownsRow base e size v n xs) (hb : ∀ k, v.ownBlock = some k → base' ≤ k) : w.ownsRow base' e size v n xs := by
  obtain ⟨h1, h2⟩ := h
  refine ⟨h1, ?_⟩
  rcases h2 with h2 | ⟨g, cap, cur, hv, hg, hr⟩
  · exact .inl h2
  · exact .inr ⟨g, cap, cur, hv, hb g (by rw [hv]; rfl), hr⟩
def tupP (v : Value) (e : Int) : Value := .tuple #[v, .int .i64 e]
set_option maxRecDepth 100000 in
set_option maxHeartbeats 1600000 in
theorem FPath_any (w : World) (B n : Nat) (d : Int) (pp : Value) (h : FR w B n d pp) (leaf : Nat) (hl : leaf < n) (hn : n ≤ 1600) :
    Calls Tryz.prog 85 #[.pointer (some ⟨B, 0, none⟩), .int .i64 leaf] w fun e w' => ∃ v, e = .returned (tupP v 0) ∧ w'.ownsRow w.heap.size 3 1 v (pt leaf (tr n) 0 0).length ((ints (pt leaf (tr n) 0 0)).map (Value.int .i64)) ∧ Below w.heap.size w w' := by
  have HM := Lib.hid (fmade_yes w B n d pp h)
  have HW := Lib.hid (whole_any w B n d pp h)
  have HP := Lib.hid (fun X => path_part X n leaf (by omega) hl)
  have c4 := h.c4
  have h1 : ¬ (leaf : Int) < 0 := by omega
  have h2 : ¬ (n : Int) ≤ (leaf : Int) := by omega
  clear h
  unfold tupP
  generalize pt leaf (tr n) 0 0 = p at *
  go_enter Tryz.func85, Tryz.ntmps85
  go_wp2_with (first
    | (go_at_call 75; (with_reducible refine HM.out.mono ?_); rintro e w1 ⟨rfl, rfl⟩)
    | (go_at_call 90; (with_reducible refine HW.out.mono ?_); rintro e w2 ⟨rfl, hb⟩; have HB1 := Lib.hid hb; clear hb)
    | (go_at_call 117; (with_reducible refine (HP.out _).mono ?_); rintro e w3 ⟨v, rfl, hr, hb⟩; have HR := Lib.hid hr; have HB := Lib.hid (HB1.out.trans (hb.mono HB1.out.size)); clear hb hr))
  have hs := HB1.out.size
  go_ret2
  exact ⟨v, rfl, row_up HR.out (fun k hk => Nat.le_trans hs (HR.out.lt k hk).1), HB.out⟩
end Go.Proofs.YtajpboclicnopaaGreat
