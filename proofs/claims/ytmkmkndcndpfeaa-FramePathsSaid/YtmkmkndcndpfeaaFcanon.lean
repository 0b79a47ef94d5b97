/-
  frame's part: canon. No condition but those typed at each theorem.
-/
import Derived.Test.YtmkmkndcndpfeaaFput
namespace Go.Proofs.Ytmkmkndcndpfeaa
open Go.RowKit

def ints (l : List Nat) : List Int := l.map Int.ofNat
theorem ints_len (l : List Nat) : (ints l).length = l.length := by simp [ints]
/-- numbers of one's own, in a block that was there or in a new one -/
structure CR (w w' : World) (v v' : Value) (L : List Int) : Prop where
  row : w'.ownsRow 0 3 1 v' L.length (L.map (Value.int .i64))
  off : Off v.ownBlock.toList w w'
  own : ∀ k, v'.ownBlock = some k → v.ownBlock = some k ∨ w.heap.size ≤ k
theorem CR.then {w X w' : World} {v v1 v2 : Value} {L M : List Int} (h : CR w X v v1 L) (g : CR X w' v1 v2 M) : CR w w' v v2 M := by
  refine ⟨g.row, ⟨g.off.os.trans h.off.os, g.off.tape.trans h.off.tape, g.off.output.trans h.off.output, Nat.le_trans h.off.size g.off.size, fun k hk hS => ?_⟩, fun k hk => ?_⟩
  · refine (g.off.block k (Nat.lt_of_lt_of_le hk h.off.size) (fun e => ?_)).trans (h.off.block k hk hS)
    have e2 : v1.ownBlock = some k := by simpa [Option.mem_toList] using e
    rcases h.own k e2 with g1 | g1
    · exact hS (by simpa [Option.mem_toList] using g1)
    · omega
  · rcases g.own k hk with g1 | g1
    · exact h.own k g1
    · exact .inr (Nat.le_trans h.off.size g1)
theorem CR.refl {w : World} {v : Value} {L : List Int} (h : w.ownsRow 0 3 1 v L.length (L.map (Value.int .i64))) : CR w w v v L := ⟨h, Off.refl _ _, fun _ e => .inl e⟩
theorem row_keep {w w' : World} {base n : Nat} {e : TypeId} {size : Nat} {v : Value} {xs : List Value} (h : w.ownsRow base e size v n xs) (hb : Below w.heap.size w w') : w'.ownsRow base e size v n xs :=
  row_at h (fun k e => ⟨hb.block k (h.lt k e).2, (h.lt k e).1⟩)
theorem CR.bel {w X w' : World} {v v' : Value} {L : List Int} (h : CR X w' v v' L) (hb : Below w.heap.size w X) : CR w w' v v' L :=
  ⟨h.row, (Off.of hb (Nat.le_refl _)).trans h.off, fun k hk => (h.own k hk).elim .inl (fun g => .inr (Nat.le_trans hb.size g))⟩
/-- one number more -/
theorem CR.more {X w' : World} {g cap : Nat} {v : Value} {r : Nat} {L : List Int} (r1 : w'.ownsRow 0 3 1 (.slice (some ⟨g, 0, none⟩) (L.length + 1) cap) (L.length + 1) (L.map (Value.int .i64) ++ [.int .i64 (r : Int)]))
    (r2 : X.grownBy w' v.ownBlock) (r3 : v.ownBlock = some g ∨ g = X.heap.size) : CR X w' v (.slice (some ⟨g, 0, none⟩) (L.length + 1) cap) (L ++ ints [r]) := by
  refine ⟨by simpa [ints] using r1, (Off.refl _ X).grow r2 (fun k e => .inl (by simpa [Option.mem_toList] using e)), fun k hk => ?_⟩
  simp [Value.ownBlock] at hk
  subst hk
  rcases r3 with h | h
  · exact .inl h
  · exact .inr (by omega)

theorem tup2 {v : Value} {k1 k2 : Nat} : Ending.returned (.tuple #[v, .int .i64 (1 + (k1 : Int) + (k2 : Int))]) = .returned (.tuple #[v, .int .i64 ((1 + k1 + k2 : Nat) : Int)]) := by
  have : 1 + (k1 : Int) + (k2 : Int) = ((1 + k1 + k2 : Nat) : Int) := by omega
  rw [this]
theorem cmid {w w3 w5 : World} {v v1 : Value} {L M : List Int} (x4 x5 : List Value) (hv : w.ownsRow 0 3 1 v L.length (L.map (Value.int .i64))) (hB : Below w.heap.size w w3)
    (h : CR ((w3.alloc (.cells x4.toArray 81)).alloc (.cells x5.toArray 81)) w5 v v1 M) : Row w5 (w3.heap.size + 1) x5 := by
  refine (Row.new (w3.alloc (.cells x4.toArray 81)) x5 _ (by simp)).off h.off (fun e => ?_)
  have e2 : v.ownBlock = some (w3.heap.size + 1) := by simpa [Option.mem_toList] using e
  have := (hv.lt _ e2).2
  have := hB.size
  omega

set_option maxRecDepth 100000 in
set_option maxHeartbeats 3200000 in
theorem canon_part (x y : Nat) (hx : x ≤ 20000) (hy : y ≤ 20000) : ∀ m b f t w v (L : List Int), 1 ≤ m → t = f + m → w.ownsRow 0 3 1 v L.length (L.map (Value.int .i64)) → L.length + m ≤ 50000 → b + 2 * m ≤ 50000 → f + m ≤ 20000 →
    Calls Try.prog 32 #[pv b f t, .int .i64 x, .int .i64 y, v] w fun e w' => ∃ v', e = .returned (.tuple #[v', .int .i64 ((cn x y (tr m) b f).2 : Nat)]) ∧ CR w w' v v' (L ++ ints (cn x y (tr m) b f).1) := by
  intro m
  induction m using Nat.strongRecOn with
  | _ m ih =>
    intro b f t w v L hm ht hv hlen hb hf
    have hlv : lv (tr m) = m := lv_tr hm
    have HV := Lib.hid hv
    have hB1 : ∀ o, Below w.heap.size w (w.alloc o) := fun o => (Below.refl _ w).alloc (Nat.le_refl _) o
    have HB1 := Lib.hid hB1
    clear hB1 hv
    by_cases h1 : t ≤ x
    · have hc : cn x y (tr m) b f = ([], 1) := cn_apart (.inl (by omega))
      rw [hc]
      have h1z : (t : Int) ≤ x := by omega
      clear ih hc hlv ht
      unfold pv
      go_enter Try.func32, Try.ntmps32
      go_wp2
      go_ret2
      exact ⟨v, rfl, by simpa [ints] using (CR.refl (row_keep HV.out (HB1.out _))).bel (HB1.out _)⟩
    by_cases h2 : y ≤ f
    · have hc : cn x y (tr m) b f = ([], 1) := cn_apart (.inr h2)
      rw [hc]
      have h1z : ¬ (t : Int) ≤ x := by omega
      have h2z : (y : Int) ≤ f := by omega
      clear ih hc hlv ht
      unfold pv
      go_enter Try.func32, Try.ntmps32
      go_wp2
      go_ret2
      exact ⟨v, rfl, by simpa [ints] using (CR.refl (row_keep HV.out (HB1.out _))).bel (HB1.out _)⟩
    have h1z : ¬ (t : Int) ≤ x := by omega
    have h2z : ¬ (y : Int) ≤ f := by omega
    by_cases h3 : x ≤ f ∧ t ≤ y
    · have hc : cn x y (tr m) b f = ([rt b (tr m)], 1) := cn_in ⟨h3.1, by omega⟩
      rw [hc]
      have h3z : (x : Int) ≤ f := by omega
      have h4z : (t : Int) ≤ y := by omega
      have HR : Hid (∀ X, Calls Try.prog 37 #[pv b f t] X fun e w' => e = .returned (.int .i64 (rt b (tr m) : Nat)) ∧ Below X.heap.size X w') := Lib.hid (fun X => by
        rw [ht]; exact root_any b f m _ X hm (by unfold rt; omega) (by omega))
      generalize rt b (tr m) = r at *
      clear ih hc hlv ht h3
      unfold pv at *
      go_enter Try.func32, Try.ntmps32
      go_wp2_with (first
        | (go_at_call 37; (with_reducible refine (HR.out _).mono ?_); rintro e w2 ⟨rfl, hb⟩; have HB2 := Lib.hid ((HB1.out _).trans (hb.mono (HB1.out _).size)); clear hb)
        | (at_builtin; refine wpList_more Try.info3 rfl (by decide) (by decide) Try.underlying29 _ rfl _ _ rfl v L.length _ rfl ((row_keep HV.out HB2.out).alloc _) ⟨w2.heap.size, 0, none⟩ 1 1 [.int .i64 (r : Int)] rfl rfl (one_at _ _ _) (by simp [Value.oneCell']) (by omega) (by omega) ?_; intro g cap w3 r1 r2 r3; have H3 := Lib.hid (CR.more r1 r2 r3); clear r1 r2 r3))
      go_ret2
      exact ⟨_, rfl, H3.out.bel (HB2.out.alloc HB2.out.size _)⟩
    · have hm2 : 2 ≤ m := by
        by_cases e : m = 1
        · exact absurd ⟨by omega, by omega⟩ h3
        · omega
      obtain ⟨a, ha⟩ : ∃ a, a = m - m / 2 := ⟨_, rfl⟩
      obtain ⟨c, hc⟩ : ∃ c, c = m / 2 := ⟨_, rfl⟩
      obtain ⟨mid, hmid⟩ : ∃ mid, mid = f + a := ⟨_, rfl⟩
      obtain ⟨z, hz⟩ : ∃ z, z = sz (tr a) := ⟨_, rfl⟩
      have etr : tr m = .nd (tr a) (tr c) := by rw [tr_two hm2, ha, hc]
      have la : lv (tr a) = a := lv_tr (by omega)
      have lc : lv (tr c) = c := lv_tr (by omega)
      have hz1 : z + 1 = 2 * a := by rw [hz]; unfold sz; omega
      have hcut := cn_cut (x := x) (y := y) (l := tr a) (r := tr c) (b := b) (f := f) (by omega) (by omega)
      rw [la, ← hz, ← hmid] at hcut
      have l1 := cn_len x y (tr a) b f
      have l2 := cn_len x y (tr c) (b + z) mid
      have s1 : sz (tr a) ≤ 50000 := by omega
      have s2 : sz (tr c) ≤ 50000 := by unfold sz; omega
      have HHV := Lib.hid (fun X => halves_any b f m a c z mid t X hm2 ha hc hz1 hmid ht (by omega))
      have HI1 := Lib.hid (fun X (hX : Below w.heap.size w X) => ih a (by omega) b f mid X v L (by omega) hmid (row_keep HV.out hX) (by omega) (by omega) (by omega))
      have HI2 := Lib.hid (fun X v1 (hX : X.ownsRow 0 3 1 v1 (L ++ ints (cn x y (tr a) b f).1).length ((L ++ ints (cn x y (tr a) b f).1).map (Value.int .i64))) => ih c (by omega) (b + z) mid t X v1 _ (by omega) (by omega) hX (by rw [List.length_append, ints_len]; omega) (by omega) (by omega))
      rw [etr, hcut]
      clear hcut ih hlv etr la lc hz1 hz ha hc hmid ht
      generalize (cn x y (tr a) b f) = c1 at *
      generalize (cn x y (tr c) (b + z) mid) = c2 at *
      generalize b + z = bz at *
      obtain ⟨c1, k1⟩ := c1
      obtain ⟨c2, k2⟩ := c2
      simp only at l1 l2 HI1 HI2 ⊢
      have hk1 : k1 ≤ 50000 := by omega
      have hk2 : k2 ≤ 50000 := by omega
      clear l1 l2 s1 s2
      obtain ⟨M, hM⟩ : ∃ M, M = L ++ ints (c1 ++ c2) := ⟨_, rfl⟩
      have HE : Hid (M = L ++ ints c1 ++ ints c2) := Lib.hid (by rw [hM]; simp [ints])
      rw [← hM]
      clear hM
      unfold pv at *
      by_cases h5 : x ≤ f
      · have h3z : (x : Int) ≤ f := by omega
        have h4z : ¬ (t : Int) ≤ y := by omega
        clear h3
        go_enter Try.func32, Try.ntmps32
        go_wp2_with (first
          | (go_at_call 45; (with_reducible refine (HHV.out _).mono ?_); rintro e w3 ⟨rfl, hb3⟩; have HB3 := Lib.hid ((HB1.out _).trans (hb3.mono (HB1.out _).size)); clear hb3)
          | (go_at_call 32; (with_reducible refine (HI1.out _ ((HB3.out.alloc HB3.out.size _).alloc (by have := HB3.out.size; simp; omega) _)).mono ?_); rintro e w5 ⟨v1, rfl, g1⟩; have hr5 := cmid [.int .i64 b, .int .i64 f, .int .i64 mid] [.int .i64 bz, .int .i64 mid, .int .i64 t] HV.out HB3.out g1; have x0 := hr5 0 _ rfl; have x1 := hr5 1 _ rfl; have x2 := hr5 2 _ rfl; have HG1 := Lib.hid (g1.bel ((HB3.out.alloc HB3.out.size _).alloc (by have := HB3.out.size; simp; omega) _)); clear g1 hr5)
          | (go_at_call 32; (with_reducible refine (HI2.out w5 v1 HG1.out.row).mono ?_); rintro e w6 ⟨v2, rfl, g1⟩; have HG2 := Lib.hid (HG1.out.then g1); clear g1))
        go_ret2
        exact ⟨v2, tup2, by rw [HE.out]; exact HG2.out⟩
      · have h3z : ¬ (x : Int) ≤ f := by omega
        clear h3
        go_enter Try.func32, Try.ntmps32
        go_wp2_with (first
          | (go_at_call 45; (with_reducible refine (HHV.out _).mono ?_); rintro e w3 ⟨rfl, hb3⟩; have HB3 := Lib.hid ((HB1.out _).trans (hb3.mono (HB1.out _).size)); clear hb3)
          | (go_at_call 32; (with_reducible refine (HI1.out _ ((HB3.out.alloc HB3.out.size _).alloc (by have := HB3.out.size; simp; omega) _)).mono ?_); rintro e w5 ⟨v1, rfl, g1⟩; have hr5 := cmid [.int .i64 b, .int .i64 f, .int .i64 mid] [.int .i64 bz, .int .i64 mid, .int .i64 t] HV.out HB3.out g1; have x0 := hr5 0 _ rfl; have x1 := hr5 1 _ rfl; have x2 := hr5 2 _ rfl; have HG1 := Lib.hid (g1.bel ((HB3.out.alloc HB3.out.size _).alloc (by have := HB3.out.size; simp; omega) _)); clear g1 hr5)
          | (go_at_call 32; (with_reducible refine (HI2.out w5 v1 HG1.out.row).mono ?_); rintro e w6 ⟨v2, rfl, g1⟩; have HG2 := Lib.hid (HG1.out.then g1); clear g1))
        go_ret2
        exact ⟨v2, tup2, by rw [HE.out]; exact HG2.out⟩
end Go.Proofs.Ytmkmkndcndpfeaa
