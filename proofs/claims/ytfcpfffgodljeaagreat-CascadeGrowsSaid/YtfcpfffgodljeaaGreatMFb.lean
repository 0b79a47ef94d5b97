/-
  frame's part: canon. No condition but those typed at each theorem.
-/
import Derived.Test.YtfcpfffgodljeaaGreatMFa
namespace Go.Proofs.YtfcpfffgodljeaaGreat
open Go.RowKit

theorem Tryz.info3 : (Tryz.prog.info? 3).map (fun i => (i.zero, i.size, i.bytes)) = some (some (.int .i64 0), 1, 8) := by kernel_rfl

def ints (l : List Nat) : List Int := l.map Int.ofNat
theorem ints_len (l : List Nat) : (ints l).length = l.length := by simp [ints]
/-- numbers of one's own, in a block that was there or in a new one -/
structure CR (w w' : World) (v v' : Value) (L : List Int) : Prop where
  row : w'.ownsRow 0 3 1 v' L.length (L.map (Value.int .i64))
  off : Off v.ownBlock.toList w w'
  own : ∀ k, v'.ownBlock = some k → v.ownBlock = some k ∨ w.heap.size ≤ k
theorem CR.then {w X w' : World} {v v1 v2 : Value} {L M : List Int} (h : CR w X v v1 L) (g : CR X w' v1 v2 M) : CR w w' v v2 M := by
  refine ⟨g.row, ⟨g.off.os.trans h.off.os, g.off.tape.trans h.off.tape, g.off.output.trans h.off.output, Nat.le_trans h.off.size g.off.size, fun k hk hS => ?_⟩, fun k hk => ?_⟩
  · refine (g.off.block k (Nat.lt_of_lt_of_le hk h.off.size) (fun e => ?_)).trans (h.off.block k hk hS)
    have e2 : v1.ownBlock = some k := by simpa [Option.mem_toList] using e
    rcases h.own k e2 with g1 | g1
    · exact hS (by simpa [Option.mem_toList] using g1)
    · omega
  · rcases g.own k hk with g1 | g1
    · exact h.own k g1
    · exact .inr (Nat.le_trans h.off.size g1)
theorem CR.refl {w : World} {v : Value} {L : List Int} (h : w.ownsRow 0 3 1 v L.length (L.map (Value.int .i64))) : CR w w v v L := ⟨h, Off.refl _ _, fun _ e => .inl e⟩
theorem row_keep {w w' : World} {base n : Nat} {e : TypeId} {size : Nat} {v : Value} {xs : List Value} (h : w.ownsRow base e size v n xs) (hb : Below w.heap.size w w') : w'.ownsRow base e size v n xs :=
  row_at h (fun k e => ⟨hb.block k (h.lt k e).2, (h.lt k e).1⟩)
theorem CR.bel {w X w' : World} {v v' : Value} {L : List Int} (h : CR X w' v v' L) (hb : Below w.heap.size w X) : CR w w' v v' L :=
  ⟨h.row, (Off.of hb (Nat.le_refl _)).trans h.off, fun k hk => (h.own k hk).elim .inl (fun g => .inr (Nat.le_trans hb.size g))⟩
/-- one number more -/
theorem CR.more {X w' : World} {g cap : Nat} {v : Value} {r : Nat} {L : List Int} (r1 : w'.ownsRow 0 3 1 (.slice (some ⟨g, 0, none⟩) (L.length + 1) cap) (L.length + 1) (L.map (Value.int .i64) ++ [.int .i64 (r : Int)]))
    (r2 : X.grownBy w' v.ownBlock) (r3 : v.ownBlock = some g ∨ g = X.heap.size) : CR X w' v (.slice (some ⟨g, 0, none⟩) (L.length + 1) cap) (L ++ ints [r]) := by
  refine ⟨by simpa [ints] using r1, (Off.refl _ X).grow r2 (fun k e => .inl (by simpa [Option.mem_toList] using e)), fun k hk => ?_⟩
  simp [Value.ownBlock] at hk
  subst hk
  rcases r3 with h | h
  · exact .inl h
  · exact .inr (by omega)

theorem tup2 {v : Value} {k1 k2 : Nat} : Ending.returned (.tuple #[v, .int .i64 (1 + (k1 : Int) + (k2 : Int))]) = .returned (.tuple #[v, .int .i64 ((1 + k1 + k2 : Nat) : Int)]) := by
  have : 1 + (k1 : Int) + (k2 : Int) = ((1 + k1 + k2 : Nat) : Int) := by omega
  rw [this]
theorem cmid {w w3 w5 : World} {v v1 : Value} {L M : List Int} (x4 x5 : List Value) (hv : w.ownsRow 0 3 1 v L.length (L.map (Value.int .i64))) (hB : Below w.heap.size w w3)
    (h : CR ((w3.alloc (.cells x4.toArray 149)).alloc (.cells x5.toArray 149)) w5 v v1 M) : Row w5 (w3.heap.size + 1) x5 := by
  refine (Row.new (w3.alloc (.cells x4.toArray 149)) x5 _ (by simp)).off h.off (fun e => ?_)
  have e2 : v.ownBlock = some (w3.heap.size + 1) := by simpa [Option.mem_toList] using e
  have := (hv.lt _ e2).2
  have := hB.size
  omega

set_option maxRecDepth 100000 in
set_option maxHeartbeats 3200000 in
theorem canon_part (x y : Nat) (hx : x ≤ 20000) (hy : y ≤ 20000) : ∀ m b f t w v (L : List Int), 1 ≤ m → t = f + m → w.ownsRow 0 3 1 v L.length (L.map (Value.int .i64)) → L.length + m ≤ 50000 → b + 2 * m ≤ 50000 → f + m ≤ 20000 →
    Calls Tryz.prog 113 #[pv b f t, .int .i64 x, .int .i64 y, v] w fun e w' => ∃ v', e = .returned (.tuple #[v', .int .i64 ((cn x y (tr m) b f).2 : Nat)]) ∧ CR w w' v v' (L ++ ints (cn x y (tr m) b f).1) := by
  intro m
  induction m using Nat.strongRecOn with
  | _ m ih =>
    intro b f t w v L hm ht hv hlen hb hf
    have hlv : lv (tr m) = m := lv_tr hm
    have HV := Lib.hid hv
    have hB1 : ∀ o, Below w.heap.size w (w.alloc o) := fun o => (Below.refl _ w).alloc (Nat.le_refl _) o
    have HB1 := Lib.hid hB1
    clear hB1 hv
    by_cases h1 : t ≤ x
    · have hc : cn x y (tr m) b f = ([], 1) := cn_apart (.inl (by omega))
      rw [hc]
      have h1z : (t : Int) ≤ x := by omega
      clear ih hc hlv ht
      unfold pv
      go_enter Tryz.func113, Tryz.ntmps113
      go_wp2
      go_ret2
      exact ⟨v, rfl, by simpa [ints] using (CR.refl (row_keep HV.out (HB1.out _))).bel (HB1.out _)⟩
    by_cases h2 : y ≤ f
    · have hc : cn x y (tr m) b f = ([], 1) := cn_apart (.inr h2)
      rw [hc]
      have h1z : ¬ (t : Int) ≤ x := by omega
      have h2z : (y : Int) ≤ f := by omega
      clear ih hc hlv ht
      unfold pv
      go_enter Tryz.func113, Tryz.ntmps113
      go_wp2
      go_ret2
      exact ⟨v, rfl, by simpa [ints] using (CR.refl (row_keep HV.out (HB1.out _))).bel (HB1.out _)⟩
    have h1z : ¬ (t : Int) ≤ x := by omega
    have h2z : ¬ (y : Int) ≤ f := by omega
    by_cases h3 : x ≤ f ∧ t ≤ y
    · have hc : cn x y (tr m) b f = ([rt b (tr m)], 1) := cn_in ⟨h3.1, by omega⟩
      rw [hc]
      have h3z : (x : Int) ≤ f := by omega
      have h4z : (t : Int) ≤ y := by omega
      have HR : Hid (∀ X, Calls Tryz.prog 108 #[pv b f t] X fun e w' => e = .returned (.int .i64 (rt b (tr m) : Nat)) ∧ Below X.heap.size X w') := Lib.hid (fun X => by
        rw [ht]; exact root_any b f m _ X hm (by unfold rt; omega) (by omega))
      generalize rt b (tr m) = r at *
      clear ih hc hlv ht h3
      unfold pv at *
      go_enter Tryz.func113, Tryz.ntmps113
      go_wp2_with (first
        | (go_at_call 108; (with_reducible refine (HR.out _).mono ?_); rintro e w2 ⟨rfl, hb⟩; have HB2 := Lib.hid ((HB1.out _).trans (hb.mono (HB1.out _).size)); clear hb)
        | (at_builtin; refine wpList_more Tryz.info3 rfl (by decide) (by decide) Tryz.underlying78 _ rfl _ _ rfl v L.length _ rfl ((row_keep HV.out HB2.out).alloc _) ⟨w2.heap.size, 0, none⟩ 1 1 [.int .i64 (r : Int)] rfl rfl (one_at _ _ _) (by simp [Value.oneCell']) (by omega) (by omega) ?_; intro g cap w3 r1 r2 r3; have H3 := Lib.hid (CR.more r1 r2 r3); clear r1 r2 r3))
      go_ret2
      exact ⟨_, rfl, H3.out.bel (HB2.out.alloc HB2.out.size _)⟩
    · have hm2 : 2 ≤ m := by
        by_cases e : m = 1
        · exact absurd ⟨by omega, by omega⟩ h3
        · omega
      obtain ⟨a, ha⟩ : ∃ a, a = m - m / 2 := ⟨_, rfl⟩
      obtain ⟨c, hc⟩ : ∃ c, c = m / 2 := ⟨_, rfl⟩
      obtain ⟨mid, hmid⟩ : ∃ mid, mid = f + a := ⟨_, rfl⟩
      obtain ⟨z, hz⟩ : ∃ z, z = sz (tr a) := ⟨_, rfl⟩
      have etr : tr m = .nd (tr a) (tr c) := by rw [tr_two hm2, ha, hc]
      have la : lv (tr a) = a := lv_tr (by omega)
      have lc : lv (tr c) = c := lv_tr (by omega)
      have hz1 : z + 1 = 2 * a := by rw [hz]; unfold sz; omega
      have hcut := cn_cut (x := x) (y := y) (l := tr a) (r := tr c) (b := b) (f := f) (by omega) (by omega)
      rw [la, ← hz, ← hmid] at hcut
      have l1 := cn_len x y (tr a) b f
      have l2 := cn_len x y (tr c) (b + z) mid
      have s1 : sz (tr a) ≤ 50000 := by omega
      have s2 : sz (tr c) ≤ 50000 := by unfold sz; omega
      have HHV := Lib.hid (fun X => halves_any b f m a c z mid t X hm2 ha hc hz1 hmid ht (by omega))
      have HI1 := Lib.hid (fun X (hX : Below w.heap.size w X) => ih a (by omega) b f mid X v L (by omega) hmid (row_keep HV.out hX) (by omega) (by omega) (by omega))
      have HI2 := Lib.hid (fun X v1 (hX : X.ownsRow 0 3 1 v1 (L ++ ints (cn x y (tr a) b f).1).length ((L ++ ints (cn x y (tr a) b f).1).map (Value.int .i64))) => ih c (by omega) (b + z) mid t X v1 _ (by omega) (by omega) hX (by rw [List.length_append, ints_len]; omega) (by omega) (by omega))
      rw [etr, hcut]
      clear hcut ih hlv etr la lc hz1 hz ha hc hmid ht
      generalize (cn x y (tr a) b f) = c1 at *
      generalize (cn x y (tr c) (b + z) mid) = c2 at *
      generalize b + z = bz at *
      obtain ⟨c1, k1⟩ := c1
      obtain ⟨c2, k2⟩ := c2
      simp only at l1 l2 HI1 HI2 ⊢
      have hk1 : k1 ≤ 50000 := by omega
      have hk2 : k2 ≤ 50000 := by omega
      clear l1 l2 s1 s2
      obtain ⟨M, hM⟩ : ∃ M, M = L ++ ints (c1 ++ c2) := ⟨_, rfl⟩
      have HE : Hid (M = L ++ ints c1 ++ ints c2) := Lib.hid (by rw [hM]; simp [ints])
      rw [← hM]
      clear hM
      unfold pv at *
      by_cases h5 : x ≤ f
      · have h3z : (x : Int) ≤ f := by omega
        have h4z : ¬ (t : Int) ≤ y := by omega
        clear h3
        go_enter Tryz.func113, Tryz.ntmps113
        go_wp2_with (first
          | (go_at_call 110; (with_reducible refine (HHV.out _).mono ?_); rintro e w3 ⟨rfl, hb3⟩; have HB3 := Lib.hid ((HB1.out _).trans (hb3.mono (HB1.out _).size)); clear hb3)
          | (go_at_call 113; (with_reducible refine (HI1.out _ ((HB3.out.alloc HB3.out.size _).alloc (by have := HB3.out.size; simp; omega) _)).mono ?_); rintro e w5 ⟨v1, rfl, g1⟩; have hr5 := cmid [.int .i64 b, .int .i64 f, .int .i64 mid] [.int .i64 bz, .int .i64 mid, .int .i64 t] HV.out HB3.out g1; have x0 := hr5 0 _ rfl; have x1 := hr5 1 _ rfl; have x2 := hr5 2 _ rfl; have HG1 := Lib.hid (g1.bel ((HB3.out.alloc HB3.out.size _).alloc (by have := HB3.out.size; simp; omega) _)); clear g1 hr5)
          | (go_at_call 113; (with_reducible refine (HI2.out w5 v1 HG1.out.row).mono ?_); rintro e w6 ⟨v2, rfl, g1⟩; have HG2 := Lib.hid (HG1.out.then g1); clear g1))
        go_ret2
        exact ⟨v2, tup2, by rw [HE.out]; exact HG2.out⟩
      · have h3z : ¬ (x : Int) ≤ f := by omega
        clear h3
        go_enter Tryz.func113, Tryz.ntmps113
        go_wp2_with (first
          | (go_at_call 110; (with_reducible refine (HHV.out _).mono ?_); rintro e w3 ⟨rfl, hb3⟩; have HB3 := Lib.hid ((HB1.out _).trans (hb3.mono (HB1.out _).size)); clear hb3)
          | (go_at_call 113; (with_reducible refine (HI1.out _ ((HB3.out.alloc HB3.out.size _).alloc (by have := HB3.out.size; simp; omega) _)).mono ?_); rintro e w5 ⟨v1, rfl, g1⟩; have hr5 := cmid [.int .i64 b, .int .i64 f, .int .i64 mid] [.int .i64 bz, .int .i64 mid, .int .i64 t] HV.out HB3.out g1; have x0 := hr5 0 _ rfl; have x1 := hr5 1 _ rfl; have x2 := hr5 2 _ rfl; have HG1 := Lib.hid (g1.bel ((HB3.out.alloc HB3.out.size _).alloc (by have := HB3.out.size; simp; omega) _)); clear g1 hr5)
          | (go_at_call 113; (with_reducible refine (HI2.out w5 v1 HG1.out.row).mono ?_); rintro e w6 ⟨v2, rfl, g1⟩; have HG2 := Lib.hid (HG1.out.then g1); clear g1))
        go_ret2
        exact ⟨v2, tup2, by rw [HE.out]; exact HG2.out⟩
end Go.Proofs.YtfcpfffgodljeaaGreat
/-
  frame's part: path; a frame's Canon and Path. No condition but those typed at each theorem.
-/
namespace Go.Proofs.YtfcpfffgodljeaaGreat
open Go.RowKit

theorem pt_nd {leaf : Nat} {l r : Tr} {b f : Nat} : pt leaf (.nd l r) b f = rt b (.nd l r) :: (if leaf < f + lv l then pt leaf l b f else pt leaf r (b + sz l) (f + lv l)) := rfl
theorem ht_le : ∀ t, ht t + 1 ≤ lv t
  | .lf => by simp [ht, lv]
  | .nd l r => by
    have h1 := ht_le l
    have h2 := ht_le r
    simp only [ht, lv]
    omega
theorem pt_head (leaf : Nat) (t : Tr) (b f : Nat) : ∃ tl, pt leaf t b f = rt b t :: tl := by
  cases t with
  | lf => exact ⟨[], rfl⟩
  | nd l r => exact ⟨_, rfl⟩

/-- on the way down: what has been written, the part that is at hand -/
structure PS (w wr : World) (B : Nat) (v : Value) (leaf : Nat) (all : List Nat) (m : Nat) : Prop where
  st : ∃ b f pre, 1 ≤ m ∧ wr.heap[B]? = some (.cells #[.int .i64 (b : Nat), .int .i64 (f : Nat), .int .i64 (f + m : Nat)] 149 (0, 0)) ∧ pre ++ pt leaf (tr m) b f = all ∧
    wr.ownsRow w.heap.size 3 1 v (pre.length + 1) ((ints (pre ++ [rt b (tr m)])).map (Value.int .i64)) ∧ b + 2 * m ≤ 50000 ∧ f ≤ leaf ∧ leaf < f + m ∧ f + m ≤ 20000
  bel : Below w.heap.size w wr
  ne : v.ownBlock ≠ some B

theorem one_cell {w : World} {B : Nat} {cs : Array Value} {t : TypeId} (h : w.heap[B]? = some (.cells cs t (0, 0))) (i : Nat) (v : Value) (e : cs[i]? = some v) : w.cell? ⟨B, i, none⟩ = some v := by
  simp [World.cell?, h, e]
theorem heap_al {w : World} {B : Nat} {o : Obj} (h : w.heap[B]? = some o) (o' : Obj) : (w.alloc o').heap[B]? = some o := (Below.heap_alloc _ _ _ (by have := (Array.getElem?_eq_some_iff.1 h).1; exact this)).trans h
theorem sv_cell {w : World} {B : Nat} {cs : Array Value} {t : TypeId} (h : w.heap[B]? = some (.cells cs t (0, 0))) (o o' : Obj) (i : Nat) (v : Value) (e : cs[i]? = some v) : ((w.alloc o).alloc o').cell? ⟨B, i, none⟩ = some v := one_cell (heap_al (heap_al h o) o') i v e
theorem sv_fr {w : World} {B : Nat} {cs : Array Value} {t : TypeId} (h : w.heap[B]? = some (.cells cs t (0, 0))) (o o' : Obj) (i : Nat) : ((w.alloc o).alloc o').frozen? ⟨B, i, none⟩ = false := by
  simp [World.frozen?, heap_al (heap_al h o) o']
theorem ps_off {wr w3 : World} {B : Nat} (o o' : Obj) (y0 y1 y2 : Value) (h : Below wr.heap.size wr w3) : Off [B] wr (((((w3.alloc o).alloc o').setCell ⟨B, 0, none⟩ y0).setCell ⟨B, 1, none⟩ y1).setCell ⟨B, 2, none⟩ y2) :=
  (((((Off.of h (Nat.le_refl _)).all _).all _).set _ _ (.inl (by simp))).set _ _ (.inl (by simp))).set _ _ (.inl (by simp))
theorem ps_box {w3 : World} {B : Nat} {x0 x1 x2 : Value} {t : TypeId} (o o' : Obj) (y0 y1 y2 : Value) (h : w3.heap[B]? = some (.cells #[x0, x1, x2] t (0, 0))) :
    (((((w3.alloc o).alloc o').setCell ⟨B, 0, none⟩ y0).setCell ⟨B, 1, none⟩ y1).setCell ⟨B, 2, none⟩ y2).heap[B]? = some (.cells #[y0, y1, y2] t (0, 0)) := by
  have h1 := heap_al (heap_al h o) o'
  have h2 : (((w3.alloc o).alloc o').setCell ⟨B, 0, none⟩ y0).heap[B]? = _ := heap_setCell_same _ _ _ _ _ _ h1
  have h3 : ((((w3.alloc o).alloc o').setCell ⟨B, 0, none⟩ y0).setCell ⟨B, 1, none⟩ y1).heap[B]? = _ := heap_setCell_same _ _ _ _ _ _ h2
  rw [heap_setCell_same _ _ _ _ _ _ h3]
  rfl
theorem row_from {w' : World} {g n c base : Nat} {xs : List Value} (h : w'.ownsRow 0 3 1 (.slice (some ⟨g, 0, none⟩) n c) n xs) (hb : base ≤ g) : w'.ownsRow base 3 1 (.slice (some ⟨g, 0, none⟩) n c) n xs := by
  obtain ⟨h1, h2⟩ := h
  refine ⟨h1, ?_⟩
  rcases h2 with h2 | ⟨g', cap, cur, hv, hg, hr⟩
  · exact .inl h2
  · cases hv
    exact .inr ⟨_, _, cur, rfl, hb, hr⟩
theorem ps_next {w wr w5 w7 : World} {B : Nat} {u5 : Value} {leaf gk m' b b' f' r : Nat} {pre all : List Nat} {g cap : Nat} (hrow : wr.ownsRow w.heap.size 3 1 u5 (pre.length + 1) ((ints (pre ++ [rt b (tr gk)])).map (Value.int .i64))) (hB : w.heap.size ≤ B)
    (hbel : Below w.heap.size w wr) (hne : u5.ownBlock ≠ some B) (hO : Off [B] wr w5) (hbx : w5.heap[B]? = some (.cells #[.int .i64 (b' : Nat), .int .i64 (f' : Nat), .int .i64 (f' + m' : Nat)] 149 (0, 0)))
    (r1 : w7.ownsRow 0 3 1 (.slice (some ⟨g, 0, none⟩) (pre.length + 1 + 1) cap) (pre.length + 1 + 1) ((ints (pre ++ [rt b (tr gk)])).map (Value.int .i64) ++ [.int .i64 (r : Nat)]))
    (r2 : (w5.alloc (.cells #[.int .i64 (r : Nat)] 3)).grownBy w7 u5.ownBlock) (r3 : u5.ownBlock = some g ∨ g = (w5.alloc (.cells #[.int .i64 (r : Nat)] 3)).heap.size) (hr : r = rt b' (tr m'))
    (hm : 1 ≤ m') (hall : pre ++ [rt b (tr gk)] ++ pt leaf (tr m') b' f' = all) (h5 : b' + 2 * m' ≤ 50000) (h6 : f' ≤ leaf) (h7 : leaf < f' + m') (h8 : f' + m' ≤ 20000) :
    PS w w7 B (.slice (some ⟨g, 0, none⟩) (pre.length + 1 + 1) cap) leaf all m' := by
  have hs := hbel.size
  have hs5 := hO.size
  have hlt := lt_of_block hbx
  have hbl : ∀ k, u5.ownBlock = some k → w.heap.size ≤ k ∧ k < wr.heap.size := hrow.lt
  have hg : w.heap.size ≤ g ∧ g ≠ B := by
    rcases r3 with e | e
    · exact ⟨(hbl g e).1, fun e2 => hne (by rw [e, e2])⟩
    · simp at e
      omega
  have hpl : (pre ++ [rt b (tr gk)]).length + 1 = pre.length + 1 + 1 := by simp
  have hrow7 : w7.ownsRow w.heap.size 3 1 (.slice (some ⟨g, 0, none⟩) (pre.length + 1 + 1) cap) ((pre ++ [rt b (tr gk)]).length + 1) ((ints (pre ++ [rt b (tr gk)] ++ [rt b' (tr m')])).map (Value.int .i64)) := by
    rw [hpl]
    refine row_from ?_ hg.1
    have e : ints (pre ++ [rt b (tr gk)] ++ [rt b' (tr m')]) = ints (pre ++ [rt b (tr gk)]) ++ [(r : Int)] := by rw [hr]; simp [ints]
    rw [e, List.map_append]
    simpa using r1
  refine ⟨⟨b', f', pre ++ [rt b (tr gk)], hm, ?_, hall, hrow7, h5, h6, h7, h8⟩, ?_, ?_⟩
  · exact (r2.block B (by simp; omega) (fun e => hne e.symm)).trans (heap_al hbx _)
  · have h1 : Below w.heap.size w w5 := hbel.trans (hO.below hs (by simp; exact hB))
    refine (h1.alloc h1.size _).grown r2 ?_ (fun k e => (hbl k e).1)
    have := h1.size
    simp
    omega
  · simp [Value.ownBlock]
    exact hg.2
theorem ps_start (w w2 : World) (n leaf : Nat) (all : List Nat) (hn : n ≤ 20000) (hl : leaf < n) (hall : all = pt leaf (tr n) 0 0)
    (hB : Below (w.alloc (.cells #[.int .i64 0, .int .i64 0, .int .i64 n] 149)).heap.size (w.alloc (.cells #[.int .i64 0, .int .i64 0, .int .i64 n] 149)) w2) :
    PS w (w2.alloc (.cells #[.int .i64 (rt 0 (tr n) : Nat)] 3)) w.heap.size (.slice (some ⟨w2.heap.size, 0, none⟩) 1 1) leaf all n := by
  have hs := hB.size
  simp only [World.size_alloc] at hs
  refine ⟨⟨0, 0, [], by omega, ?_, by rw [hall]; rfl, ?_, by omega, by omega, by omega, by omega⟩, ?_, ?_⟩
  · rw [Below.heap_alloc _ _ _ (by omega), hB.block _ (by simp)]
    rw [heap_alloc_new, Nat.zero_add]
    rfl
  · exact ⟨by simp [ints], .inr ⟨w2.heap.size, 1, #[.int .i64 (rt 0 (tr n) : Nat)], rfl, by omega, heap_alloc_new w2 _, Nat.le_refl _, by simp [maxLen], rfl, by simp [ints]⟩⟩
  · exact (((Below.refl _ w).alloc (Nat.le_refl _) _).trans (hB.mono (by simp))).alloc (by omega) _
  · simp [Value.ownBlock]
    omega

set_option maxRecDepth 100000 in
set_option maxHeartbeats 3200000 in
theorem path_part (w : World) (n leaf : Nat) (hn : n ≤ 20000) (hl : leaf < n) :
    Calls Tryz.prog 77 #[.agg #[.int .i64 0, .int .i64 0, .int .i64 n], .int .i64 leaf] w fun e w' => ∃ v, e = .returned v ∧ w'.ownsRow w.heap.size 3 1 v (pt leaf (tr n) 0 0).length ((ints (pt leaf (tr n) 0 0)).map (Value.int .i64)) ∧ Below w.heap.size w w' := by
  have HR : Hid (∀ X, Calls Tryz.prog 108 #[.agg #[.int .i64 0, .int .i64 0, .int .i64 n]] X fun e w' => e = .returned (.int .i64 (rt 0 (tr n) : Nat)) ∧ Below X.heap.size X w') := Lib.hid (fun X => by
    have := root_any 0 0 n (rt 0 (tr n)) X (by omega) (by have := lv_tr (m := n) (by omega); unfold rt; omega) (by omega)
    rwa [Nat.zero_add] at this)
  obtain ⟨all, hall⟩ : ∃ all, all = pt leaf (tr n) 0 0 := ⟨_, rfl⟩
  rw [← hall]
  have HALL := Lib.hid hall
  clear hall
  go_enter Tryz.func77, Tryz.ntmps77
  go_wp2_with (go_at_call 108; (with_reducible refine (HR.out _).mono ?_); rintro e w2 ⟨rfl, hb⟩; have HB2 := Lib.hid hb; clear hb)
  have HP0 := Lib.hid (ps_start w w2 n leaf all hn hl HALL.out HB2.out)
  clear HR
  go_loopg [5] n (fun gk v wr => 1 ≤ gk ∧ Hid (PS w wr w.heap.size v leaf all gk))
  case atStart => exact ⟨by omega, HP0⟩
  case round =>
    clear HP0
    obtain ⟨hm, HP⟩ := hrel
    have hP := HP.out
    obtain ⟨⟨b, f, pre, -, hbx, hpre, hrow, hb5, hf1, hf2, hf3⟩, hbel, hne⟩ := hP
    have HBX := Lib.hid hbx
    have HPRE := Lib.hid hpre
    have HROW := Lib.hid hrow
    have HBEL := Lib.hid hbel
    have HNE := Lib.hid hne
    obtain ⟨t, ht⟩ : ∃ t, t = f + gk := ⟨_, rfl⟩
    have p0 : wr.cell? ⟨w.heap.size, 0, none⟩ = some (.int .i64 (b : Nat)) := one_cell hbx 0 _ rfl
    have p1 : wr.cell? ⟨w.heap.size, 1, none⟩ = some (.int .i64 (f : Nat)) := one_cell hbx 1 _ rfl
    have p2 : wr.cell? ⟨w.heap.size, 2, none⟩ = some (.int .i64 (f + gk : Nat)) := one_cell hbx 2 _ rfl
    have HIS := Lib.hid (fun X => isLeaf_any b f gk X hm (by omega))
    rw [← ht] at p2 HIS
    have HT := Lib.hid ht
    clear ht hbx hpre hrow hbel hne HP
    unfold pv pvs at HIS
    by_cases h1 : gk = 1
    · have hd : decide (gk = 1) = true := by simp [h1]
      rw [hd] at HIS
      go_wp2_with (go_at_call 109; (with_reducible refine (HIS.out _).mono ?_); rintro e w4 ⟨rfl, rfl⟩)
      go_ret
      subst h1
      have h2 := HPRE.out
      rw [tr_one (by omega)] at h2
      have h3 := HROW.out
      rw [tr_one (by omega)] at h3
      have h4 : pre ++ [rt b .lf] = all := h2
      refine ⟨_, rfl, row_keep ?_ ((Below.refl _ wr).alloc (Nat.le_refl _) _), HBEL.out.alloc HBEL.out.size _⟩
      rw [h4] at h3
      have h5 : pre.length + 1 = all.length := by rw [← h4]; simp
      rw [h5] at h3
      exact h3
    · have hm2 : 2 ≤ gk := by omega
      have hd : decide (gk = 1) = false := by simp [h1]
      rw [hd] at HIS
      obtain ⟨a, ha⟩ : ∃ a, a = gk - gk / 2 := ⟨_, rfl⟩
      obtain ⟨c, hc⟩ : ∃ c, c = gk / 2 := ⟨_, rfl⟩
      obtain ⟨mid, hmid⟩ : ∃ mid, mid = f + a := ⟨_, rfl⟩
      obtain ⟨z, hz⟩ : ∃ z, z = sz (tr a) := ⟨_, rfl⟩
      have etr : tr gk = .nd (tr a) (tr c) := by rw [tr_two hm2, ha, hc]
      have la : lv (tr a) = a := lv_tr (by omega)
      have lc : lv (tr c) = c := lv_tr (by omega)
      have hz1 : z + 1 = 2 * a := by rw [hz]; unfold sz; omega
      have hpt : pt leaf (tr gk) b f = rt b (tr gk) :: (if leaf < mid then pt leaf (tr a) b f else pt leaf (tr c) (b + z) mid) := by rw [etr, pt_nd, la, ← hz, ← hmid]
      have hft := HT.out
      have HHV := Lib.hid (fun X => halves_any b f gk a c z mid t X hm2 ha hc hz1 hmid hft (by omega))
      have HPT := Lib.hid hpt
      have HDD : Hid (mid = f + a ∧ z + 1 = 2 * a ∧ a + c = gk ∧ 1 ≤ a ∧ 1 ≤ c ∧ a < gk ∧ c < gk ∧ t = mid + c ∧ t = f + gk) := Lib.hid (by omega)
      obtain ⟨hd1, hd2, hd3, hd4, hd5, hd6, hd7, hd8, hd9⟩ := HDD.out
      have hrl : pre.length + 1 ≤ 60000 := by
        have h2 := congrArg List.length HPRE.out
        rw [List.length_append, HALL.out] at h2
        have h3 := (pt_len leaf (tr n) 0 0).2
        have h4 := ht_le (tr n)
        rw [lv_tr (by omega)] at h4
        have h5 := (pt_len leaf (tr gk) b f).1
        omega
      unfold pv at HHV
      have q0 : ∀ o, (wr.alloc o).cell? ⟨w.heap.size, 0, none⟩ = some (.int .i64 (b : Nat)) := fun o => cell_al o p0
      have q1 : ∀ o, (wr.alloc o).cell? ⟨w.heap.size, 1, none⟩ = some (.int .i64 (f : Nat)) := fun o => cell_al o p1
      have q2 : ∀ o, (wr.alloc o).cell? ⟨w.heap.size, 2, none⟩ = some (.int .i64 (t : Nat)) := fun o => cell_al o p2
      by_cases h5 : leaf < mid
      · have h5z : (leaf : Int) < mid := by omega
        obtain ⟨r, hrr⟩ : ∃ r, r = rt b (tr a) := ⟨_, rfl⟩
        have HR : Hid (∀ X, Calls Tryz.prog 108 #[.agg #[.int .i64 b, .int .i64 f, .int .i64 mid]] X fun e w' => e = .returned (.int .i64 (r : Nat)) ∧ Below X.heap.size X w') := Lib.hid (fun X => by
          have := root_any b f a r X (by omega) (by rw [hrr]; unfold rt; omega) (by omega)
          rwa [← hd1] at this)
        rw [if_pos h5] at hpt
        have HNX := Lib.hid (fun w5 w7 g cap (hO : Off [w.heap.size] wr w5) (hbx : w5.heap[w.heap.size]? = some (.cells #[.int .i64 (b : Nat), .int .i64 (f : Nat), .int .i64 (mid : Nat)] 149 (0, 0))) r1 r2 r3 => ps_next (leaf := leaf) (m' := a) (b' := b) (f' := f) (r := r) (all := all) (g := g) (cap := cap) (w7 := w7) HROW.out (Nat.le_refl _) HBEL.out HNE.out hO (by rw [← hd1]; exact hbx) r1 r2 r3 hrr (by omega) (by rw [← HPRE.out, hpt]; simp) (by omega) hf1 (by omega) (by omega))
        clear hd1 hd2 hd3 hd4 hd5 hd6 hd7 hd8 hd9 ha hc hmid hz hz1 hpt la lc etr hft hb5 hf3 hf2 hrr
        go_wp2_with (first
          | (go_at_call 109; (with_reducible refine (HIS.out _).mono ?_); rintro e w4 ⟨rfl, rfl⟩)
          | (go_at_call 110; (with_reducible refine (HHV.out _).mono ?_); rintro e w3 ⟨rfl, hb3⟩; have HB3 := Lib.hid (((Below.refl _ wr).alloc (Nat.le_refl _) _).trans (hb3.mono (by simp))); clear hb3; have hbx3 := (HB3.out.block _ (lt_of_block HBX.out)).trans HBX.out; have HBX3 := Lib.hid hbx3; have s0 := fun o o' => sv_cell hbx3 o o' 0 _ rfl; have s1 := fun o o' => sv_cell hbx3 o o' 1 _ rfl; have s2 := fun o o' => sv_cell hbx3 o o' 2 _ rfl; have f0 := fun o o' => sv_fr hbx3 o o' 0; have f1 := fun o o' => sv_fr hbx3 o o' 1; have f2 := fun o o' => sv_fr hbx3 o o' 2; clear hbx3)
          | (go_at_call 108; (with_reducible refine (HR.out _).mono ?_); rintro e w5 ⟨rfl, hb⟩; have HO5 := Lib.hid ((ps_off _ _ _ _ _ HB3.out).bel hb); have HX5 := Lib.hid ((hb.block _ (lt_of_block (ps_box _ _ _ _ _ HBX3.out))).trans (ps_box _ _ _ _ _ HBX3.out)); have HW5 := Lib.hid (((row_at HROW.out (fun k e => ⟨HO5.out.block k (HROW.out.lt k e).2 (by simp; exact fun e2 => HNE.out (by rw [e, e2])), Nat.zero_le _⟩)).alloc (.cells #[.int .i64 (r : Nat)] 3))); clear hb)
          | (at_builtin; refine wpList_more Tryz.info3 rfl (by decide) (by decide) Tryz.underlying78 _ rfl _ _ rfl u5 (pre.length + 1) _ rfl HW5.out ⟨w5.heap.size, 0, none⟩ 1 1 [.int .i64 (r : Nat)] rfl rfl (one_at _ _ _) (by simp [Value.oneCell']) (by omega) (by omega) ?_; intro g cap w7 r1 r2 r3; have HPS := Lib.hid (HNX.out w5 w7 g cap HO5.out HX5.out r1 r2 r3); clear r1 r2 r3))
        go_roundg a
        case measure => exact HDD.out.2.2.2.2.2.1
        case rel => exact ⟨HDD.out.2.2.2.1, HPS⟩
      · have h5z : ¬ (leaf : Int) < mid := by omega
        obtain ⟨r, hrr⟩ : ∃ r, r = rt (b + z) (tr c) := ⟨_, rfl⟩
        obtain ⟨bz, hbz⟩ : ∃ bz, bz = b + z := ⟨_, rfl⟩
        rw [← hbz] at HHV hpt hrr
        have HR : Hid (∀ X, Calls Tryz.prog 108 #[.agg #[.int .i64 bz, .int .i64 mid, .int .i64 t]] X fun e w' => e = .returned (.int .i64 (r : Nat)) ∧ Below X.heap.size X w') := Lib.hid (fun X => by
          have := root_any bz mid c r X (by omega) (by rw [hrr]; unfold rt; omega) (by omega)
          rwa [← hd8] at this)
        rw [if_neg h5] at hpt
        have HNX := Lib.hid (fun w5 w7 g cap (hO : Off [w.heap.size] wr w5) (hbx : w5.heap[w.heap.size]? = some (.cells #[.int .i64 (bz : Nat), .int .i64 (mid : Nat), .int .i64 (t : Nat)] 149 (0, 0))) r1 r2 r3 => ps_next (leaf := leaf) (m' := c) (b' := bz) (f' := mid) (r := r) (all := all) (g := g) (cap := cap) (w7 := w7) HROW.out (Nat.le_refl _) HBEL.out HNE.out hO (by rw [← hd8]; exact hbx) r1 r2 r3 hrr (by omega) (by rw [← HPRE.out, hpt]; simp) (by omega) (by omega) (by omega) (by omega))
        clear hd1 hd2 hd3 hd4 hd5 hd6 hd7 hd8 hd9 ha hc hmid hz hz1 hpt la lc etr hft hb5 hf3 hf2 hrr hbz
        go_wp2_with (first
          | (go_at_call 109; (with_reducible refine (HIS.out _).mono ?_); rintro e w4 ⟨rfl, rfl⟩)
          | (go_at_call 110; (with_reducible refine (HHV.out _).mono ?_); rintro e w3 ⟨rfl, hb3⟩; have HB3 := Lib.hid (((Below.refl _ wr).alloc (Nat.le_refl _) _).trans (hb3.mono (by simp))); clear hb3; have hbx3 := (HB3.out.block _ (lt_of_block HBX.out)).trans HBX.out; have HBX3 := Lib.hid hbx3; have s0 := fun o o' => sv_cell hbx3 o o' 0 _ rfl; have s1 := fun o o' => sv_cell hbx3 o o' 1 _ rfl; have s2 := fun o o' => sv_cell hbx3 o o' 2 _ rfl; have f0 := fun o o' => sv_fr hbx3 o o' 0; have f1 := fun o o' => sv_fr hbx3 o o' 1; have f2 := fun o o' => sv_fr hbx3 o o' 2; clear hbx3)
          | (go_at_call 108; (with_reducible refine (HR.out _).mono ?_); rintro e w5 ⟨rfl, hb⟩; have HO5 := Lib.hid ((ps_off _ _ _ _ _ HB3.out).bel hb); have HX5 := Lib.hid ((hb.block _ (lt_of_block (ps_box _ _ _ _ _ HBX3.out))).trans (ps_box _ _ _ _ _ HBX3.out)); have HW5 := Lib.hid (((row_at HROW.out (fun k e => ⟨HO5.out.block k (HROW.out.lt k e).2 (by simp; exact fun e2 => HNE.out (by rw [e, e2])), Nat.zero_le _⟩)).alloc (.cells #[.int .i64 (r : Nat)] 3))); clear hb)
          | (at_builtin; refine wpList_more Tryz.info3 rfl (by decide) (by decide) Tryz.underlying78 _ rfl _ _ rfl u5 (pre.length + 1) _ rfl HW5.out ⟨w5.heap.size, 0, none⟩ 1 1 [.int .i64 (r : Nat)] rfl rfl (one_at _ _ _) (by simp [Value.oneCell']) (by omega) (by omega) ?_; intro g cap w7 r1 r2 r3; have HPS := Lib.hid (HNX.out w5 w7 g cap HO5.out HX5.out r1 r2 r3); clear r1 r2 r3))
        go_roundg c
        case measure => exact HDD.out.2.2.2.2.2.2.1
        case rel => exact ⟨HDD.out.2.2.2.2.1, HPS⟩
end Go.Proofs.YtfcpfffgodljeaaGreat
/-
  A frame's Canon and Path. No condition but those typed at each theorem.
-/
namespace Go.Proofs.YtfcpfffgodljeaaGreat
open Go.RowKit

theorem row_up {w : World} {base base' n : Nat} {e : TypeId} {size : Nat} {v : Value} {xs : List Value} (h : w.ownsRow base e size v n xs) (hb : ∀ k, v.ownBlock = some k → base' ≤ k) : w.ownsRow base' e size v n xs := by
  obtain ⟨h1, h2⟩ := h
  refine ⟨h1, ?_⟩
  rcases h2 with h2 | ⟨g, cap, cur, hv, hg, hr⟩
  · exact .inl h2
  · exact .inr ⟨g, cap, cur, hv, hb g (by rw [hv]; rfl), hr⟩
/-- the canonical nodes of a range of a frame's leaves, and how many are entered -/
def cnF (n x y : Nat) : List Nat × Nat := if x = y then ([], 0) else cn x y (tr n) 0 0
def tup3 (v : Value) (k e : Int) : Value := .tuple #[v, .int .i64 k, .int .i64 e]
def tupP (v : Value) (e : Int) : Value := .tuple #[v, .int .i64 e]

set_option maxRecDepth 100000 in
set_option maxHeartbeats 1600000 in
theorem FCanon_any (w : World) (B n : Nat) (d : Int) (pp : Value) (h : FR w B n d pp) (x y : Nat) (hxy : x ≤ y) (hy : y ≤ n) (hn : n ≤ 1600) :
    Calls Tryz.prog 82 #[.pointer (some ⟨B, 0, none⟩), .int .i64 x, .int .i64 y] w fun e w' => ∃ v, e = .returned (tup3 v ((cnF n x y).2 : Nat) 0) ∧ w'.ownsRow w.heap.size 3 1 v (cnF n x y).1.length ((ints (cnF n x y).1).map (Value.int .i64)) ∧ Below w.heap.size w w' := by
  have HM := Lib.hid (fmade_yes w B n d pp h)
  have HW := Lib.hid (whole_any w B n d pp h)
  have c4 := h.c4
  have h1 : ¬ (x : Int) < 0 := by omega
  have h2 : ¬ (y : Int) < (x : Int) := by omega
  have h3 : ¬ (n : Int) < (y : Int) := by omega
  clear h
  unfold tup3
  by_cases e : x = y
  · have e2 : cnF n x y = ([], 0) := by unfold cnF; rw [if_pos e]
    rw [e2]
    subst e
    go_enter Tryz.func82, Tryz.ntmps82
    go_wp2_with (go_at_call 75; (with_reducible refine HM.out.mono ?_); rintro e w1 ⟨rfl, rfl⟩)
    refine bodyPost_ret (v := .tuple #[.slice none 0 0, .int .i64 0, .int .i64 0]) ?_ rfl ⟨_, rfl, World.ownsRow_nil _ _ _ _, Below.refl _ _⟩
    simp [results, Tryz.f82, go_sem]
  · have e2 : cnF n x y = cn x y (tr n) 0 0 := by unfold cnF; rw [if_neg e]
    have h4 : ((x : Int) == (y : Int)) = false := by simp; omega
    have HC : Hid (∀ X, Calls Tryz.prog 113 #[.agg #[.int .i64 0, .int .i64 0, .int .i64 n], .int .i64 x, .int .i64 y, .slice none 0 0] X fun e w' => ∃ v, e = .returned (.tuple #[v, .int .i64 ((cnF n x y).2 : Nat)]) ∧ w'.ownsRow X.heap.size 3 1 v (cnF n x y).1.length ((ints (cnF n x y).1).map (Value.int .i64)) ∧ Below X.heap.size X w') := Lib.hid (fun X => by
      rw [e2]
      refine (canon_part x y (by omega) (by omega) n 0 0 n X (.slice none 0 0) [] (by omega) (by omega) (World.ownsRow_nil _ _ _ _) (by simp; omega) (by omega) (by omega)).mono ?_
      rintro e w' ⟨v, rfl, hc⟩
      refine ⟨v, rfl, ?_, ⟨hc.off.os, hc.off.tape, hc.off.output, hc.off.size, fun k hk => hc.off.block k hk (by simp [Value.ownBlock])⟩⟩
      have h1 := hc.row
      rw [List.nil_append, ints_len] at h1
      refine row_up h1 (fun k hk => ?_)
      rcases hc.own k hk with g | g
      · cases g
      · exact g)
    clear e2 e
    generalize cnF n x y = c at *
    go_enter Tryz.func82, Tryz.ntmps82
    go_wp2_with (first
      | (go_at_call 75; (with_reducible refine HM.out.mono ?_); rintro e w1 ⟨rfl, rfl⟩)
      | (go_at_call 76; (with_reducible refine HW.out.mono ?_); rintro e w2 ⟨rfl, hb⟩; have HB1 := Lib.hid hb; clear hb)
      | (go_at_call 113; (with_reducible refine (HC.out _).mono ?_); rintro e w3 ⟨v, rfl, hr, hb⟩; have HR := Lib.hid hr; have HB := Lib.hid (HB1.out.trans (hb.mono HB1.out.size)); clear hb hr))
    have hs := HB1.out.size
    refine bodyPost_ret (v := .tuple #[v, .int .i64 (c.2 : Nat), .int .i64 0]) ?_ rfl ⟨v, rfl, row_up HR.out (fun k hk => Nat.le_trans hs (HR.out.lt k hk).1), HB.out⟩
    simp [results, Tryz.f82, go_sem]

set_option maxRecDepth 100000 in
set_option maxHeartbeats 1600000 in
theorem FCanon_bad (w : World) (B n : Nat) (d : Int) (pp : Value) (h : FR w B n d pp) (x y : Int) (hxy : ¬ (0 ≤ x ∧ x ≤ y ∧ y ≤ n)) :
    Calls Tryz.prog 82 #[.pointer (some ⟨B, 0, none⟩), .int .i64 x, .int .i64 y] w fun e w' => e = .returned (tup3 (.slice none 0 0) 0 2) ∧ w' = w := by
  have HM := Lib.hid (fmade_yes w B n d pp h)
  have c4 := h.c4
  clear h
  unfold tup3
  by_cases h1 : x < 0
  · go_enter Tryz.func82, Tryz.ntmps82
    go_wp2_with (go_at_call 75; (with_reducible refine HM.out.mono ?_); rintro e w1 ⟨rfl, rfl⟩)
    refine bodyPost_ret (v := .tuple #[.slice none 0 0, .int .i64 0, .int .i64 2]) ?_ rfl ⟨rfl, rfl⟩
    simp [results, Tryz.f82, go_sem]
  · by_cases h2 : y < x
    · go_enter Tryz.func82, Tryz.ntmps82
      go_wp2_with (go_at_call 75; (with_reducible refine HM.out.mono ?_); rintro e w1 ⟨rfl, rfl⟩)
      refine bodyPost_ret (v := .tuple #[.slice none 0 0, .int .i64 0, .int .i64 2]) ?_ rfl ⟨rfl, rfl⟩
      simp [results, Tryz.f82, go_sem]
    · have h3 : (n : Int) < y := by omega
      go_enter Tryz.func82, Tryz.ntmps82
      go_wp2_with (go_at_call 75; (with_reducible refine HM.out.mono ?_); rintro e w1 ⟨rfl, rfl⟩)
      refine bodyPost_ret (v := .tuple #[.slice none 0 0, .int .i64 0, .int .i64 2]) ?_ rfl ⟨rfl, rfl⟩
      simp [results, Tryz.f82, go_sem]

set_option maxRecDepth 100000 in
set_option maxHeartbeats 1600000 in
theorem FPath_any (w : World) (B n : Nat) (d : Int) (pp : Value) (h : FR w B n d pp) (leaf : Nat) (hl : leaf < n) (hn : n ≤ 1600) :
    Calls Tryz.prog 43 #[.pointer (some ⟨B, 0, none⟩), .int .i64 leaf] w fun e w' => ∃ v, e = .returned (tupP v 0) ∧ w'.ownsRow w.heap.size 3 1 v (pt leaf (tr n) 0 0).length ((ints (pt leaf (tr n) 0 0)).map (Value.int .i64)) ∧ Below w.heap.size w w' := by
  have HM := Lib.hid (fmade_yes w B n d pp h)
  have HW := Lib.hid (whole_any w B n d pp h)
  have HP := Lib.hid (fun X => path_part X n leaf (by omega) hl)
  have c4 := h.c4
  have h1 : ¬ (leaf : Int) < 0 := by omega
  have h2 : ¬ (n : Int) ≤ (leaf : Int) := by omega
  clear h
  unfold tupP
  generalize pt leaf (tr n) 0 0 = p at *
  go_enter Tryz.func43, Tryz.ntmps43
  go_wp2_with (first
    | (go_at_call 75; (with_reducible refine HM.out.mono ?_); rintro e w1 ⟨rfl, rfl⟩)
    | (go_at_call 76; (with_reducible refine HW.out.mono ?_); rintro e w2 ⟨rfl, hb⟩; have HB1 := Lib.hid hb; clear hb)
    | (go_at_call 77; (with_reducible refine (HP.out _).mono ?_); rintro e w3 ⟨v, rfl, hr, hb⟩; have HR := Lib.hid hr; have HB := Lib.hid (HB1.out.trans (hb.mono HB1.out.size)); clear hb hr))
  have hs := HB1.out.size
  go_ret2
  exact ⟨v, rfl, row_up HR.out (fun k hk => Nat.le_trans hs (HR.out.lt k hk).1), HB.out⟩
set_option maxRecDepth 100000 in
theorem FPath_bad (w : World) (B n : Nat) (d : Int) (pp : Value) (h : FR w B n d pp) (leaf : Int) (hl : ¬ (0 ≤ leaf ∧ leaf < n)) :
    Calls Tryz.prog 43 #[.pointer (some ⟨B, 0, none⟩), .int .i64 leaf] w fun e w' => e = .returned (tupP (.slice none 0 0) 2) ∧ w' = w := by
  have HM := Lib.hid (fmade_yes w B n d pp h)
  have c4 := h.c4
  clear h
  unfold tupP
  by_cases h1 : leaf < 0
  · go_enter Tryz.func43, Tryz.ntmps43
    go_wp2_with (go_at_call 75; (with_reducible refine HM.out.mono ?_); rintro e w1 ⟨rfl, rfl⟩)
    go_ret2
    exact ⟨rfl, rfl⟩
  · have h2 : (n : Int) ≤ leaf := by omega
    go_enter Tryz.func43, Tryz.ntmps43
    go_wp2_with (go_at_call 75; (with_reducible refine HM.out.mono ?_); rintro e w1 ⟨rfl, rfl⟩)
    go_ret2
    exact ⟨rfl, rfl⟩
end Go.Proofs.YtfcpfffgodljeaaGreat
