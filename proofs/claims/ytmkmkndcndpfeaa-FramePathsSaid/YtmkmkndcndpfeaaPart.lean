/-
  frame's part: size, root, isLeaf, halves. No condition but those typed at each theorem.
-/
import Derived.Test.YtmkmkndcndpfeaaPool2
import Derived.Test.YtmkmkndcndpfeaaFm
namespace Go.Proofs.Ytmkmkndcndpfeaa
open Go.RowKit

/-- a part: its first place, and its leaves from, ahead of to -/
def pvs (b f t : Nat) : List Value := [.int .i64 b, .int .i64 f, .int .i64 t]
def pv (b f t : Nat) : Value := .agg #[.int .i64 b, .int .i64 f, .int .i64 t]

theorem wrap64 {x : Int} (h : -9223372036854775808 ≤ x ∧ x ≤ 9223372036854775807) : IntKind.i64.wrap x = x := IntWalk.i64_in _ (by omega)
set_option maxRecDepth 100000 in
theorem size_any (b f m s : Nat) (w : World) (hm : 1 ≤ m) (hs : s + 1 = 2 * m) (h : b + f + m ≤ 100000) :
    Calls Try.prog 48 #[pv b f (f + m)] w fun e w' => e = .returned (.int .i64 s) ∧ w' = w.alloc (.cells (pvs b f (f + m)).toArray 81) := by
  unfold pv pvs
  obtain ⟨t, ht⟩ : ∃ t, t = f + m := ⟨_, rfl⟩
  rw [← ht]
  have HT := Lib.hid ht
  have hsub : (t : Int) - f = m := by omega
  clear ht
  go_enter Try.func48, Try.ntmps48
  go_wp2
  go_ret
  refine ⟨?_, rfl⟩
  go_num
set_option maxRecDepth 100000 in
theorem isLeaf_any (b f m : Nat) (w : World) (hm : 1 ≤ m) (h : b + f + m ≤ 100000) :
    Calls Try.prog 47 #[pv b f (f + m)] w fun e w' => e = .returned (.bool (decide (m = 1))) ∧ w' = w.alloc (.cells (pvs b f (f + m)).toArray 81) := by
  unfold pv pvs
  obtain ⟨t, ht⟩ : ∃ t, t = f + m := ⟨_, rfl⟩
  rw [← ht]
  have HT := Lib.hid ht
  have hsub : (t : Int) - f = m := by omega
  clear ht
  go_enter Try.func47, Try.ntmps47
  go_wp2
  go_ret
  exact ⟨retb (by simp; omega), rfl⟩
set_option maxRecDepth 100000 in
theorem root_any (b f m r : Nat) (w : World) (hm : 1 ≤ m) (hr : r + 2 = b + 2 * m) (h : b + f + m ≤ 100000) :
    Calls Try.prog 37 #[pv b f (f + m)] w fun e w' => e = .returned (.int .i64 r) ∧ Below w.heap.size w w' := by
  obtain ⟨z, hz⟩ : ∃ z, z + 1 = 2 * m := ⟨2 * m - 1, by omega⟩
  have HSZ := Lib.hid (fun X => size_any b f m z X hm hz h)
  unfold pv pvs at *
  obtain ⟨t, ht⟩ : ∃ t, t = f + m := ⟨_, rfl⟩
  rw [← ht] at HSZ
  rw [← ht]
  have HT := Lib.hid ht
  clear ht
  obtain ⟨w1, hw1⟩ : ∃ w1, w1 = w.alloc (.cells #[.int .i64 b, .int .i64 f, .int .i64 t] 81) := ⟨_, rfl⟩
  have q : ∀ k v, (pvs b f t)[k]? = some v → w1.cell? ⟨w.heap.size, k, none⟩ = some v := fun k v e => by
    rw [hw1, World.cell?_alloc_new]
    simpa [pvs] using e
  have q0 : ∀ s : Wd (Bw w1), s.w.cell? ⟨w.heap.size, 0, none⟩ = some (.int .i64 b) := fun s => Bw.cell s (q 0 _ rfl)
  have q1 : ∀ s : Wd (Bw w1), s.w.cell? ⟨w.heap.size, 1, none⟩ = some (.int .i64 f) := fun s => Bw.cell s (q 1 _ rfl)
  have q2 : ∀ s : Wd (Bw w1), s.w.cell? ⟨w.heap.size, 2, none⟩ = some (.int .i64 t) := fun s => Bw.cell s (q 2 _ rfl)
  have inst : Nonempty (Wd (Bw w1)) := ⟨⟨w1, Below.refl _ _⟩⟩
  have HB := Lib.hid (show Below w.heap.size w w1 by rw [hw1]; exact (Below.refl _ w).alloc (Nat.le_refl _) _)
  have hkp : Hid (∀ X w', Bw w1 X → Below X.heap.size X w' → Bw w1 w') := Lib.hid (fun X w' h hb => h.keep hb)
  have HC : Hid (∀ s : Wd (Bw w1), Calls Try.prog 48 #[.agg #[.int .i64 b, .int .i64 f, .int .i64 t]] s.w fun e w' => e = .returned (.int .i64 z) ∧ Below s.w.heap.size s.w w') := Lib.hid (fun s => (HSZ.out s.w).mono (by rintro e w' ⟨rfl, rfl⟩; exact ⟨rfl, (Below.refl _ s.w).alloc (Nat.le_refl _) _⟩))
  clear q
  go_enter Try.func37, Try.ntmps37
  go_upto_region 1 with fail
  rw [← hw1]
  clear hw1
  refine wp_region_wd (Bw w1) (by kernel_rfl) (by kernel_rfl) ((Below.refl _ w1).drew) ?_
  repeat (first | go_big_quiet_step (first | (go_at_call 48; with_reducible exact calls_wd hkp.out _ (HC.out _))) | quiet_step (first | (go_at_call 48; with_reducible exact calls_wd hkp.out _ (HC.out _))))
  refine wpQuiet_nil ?_
  rintro _ ⟨s, rfl⟩
  have HS := Lib.hid (HB.out.trans (Below.mono s.h HB.out.size))
  clear q0 q1 q2 inst
  go_wp2
  go_ret
  refine ⟨?_, HS.out⟩
  go_num

set_option maxRecDepth 100000 in
set_option maxHeartbeats 1600000 in
theorem halves_any (b f m a c z mid t : Nat) (w : World) (hm : 2 ≤ m) (ha : a = m - m / 2) (hc : c = m / 2) (hz : z + 1 = 2 * a) (hmid : mid = f + a) (ht : t = f + m) (h : b + f + m ≤ 100000) :
    Calls Try.prog 45 #[pv b f t] w fun e w' => e = .returned (.tuple #[pv b f mid, pv (b + z) mid t]) ∧ Below w.heap.size w w' := by
  have HSZ := Lib.hid (fun X => size_any b f a z X (by omega) hz (by omega))
  rw [← hmid] at HSZ
  have h1 : (t : Int) - f = m := by omega
  have h2 : (t : Int) - c = mid := by omega
  have h3 : Int.tdiv (m : Int) 2 = c := by rw [hc]; rfl
  have h4 : (b : Int) + z = ((b + z : Nat) : Int) := by omega
  have hle : b + z ≤ 300000 := by omega
  have HA := Lib.hid ha
  have HC := Lib.hid hc
  have HM := Lib.hid hmid
  have HT := Lib.hid ht
  clear ha hc hmid ht
  unfold pv pvs at *
  obtain ⟨bz, hbz⟩ : ∃ bz, bz = b + z := ⟨_, rfl⟩
  have hwr : IntKind.i64.wrap (bz : Int) = bz := wrap64 (by omega)
  rw [← hbz] at h4 ⊢
  clear hbz
  go_enter Try.func45, Try.ntmps45
  go_upto_region 3 with fail
  go_cut [] from 20 to 29 (fun wx => wx = ((((w.alloc (.cells #[.int .i64 b, .int .i64 f, .int .i64 t] 81)).alloc (.cells #[.int .i64 b, .int .i64 f, .int .i64 mid] 81)).alloc (.cells #[.int .i64 bz, .int .i64 mid, .int .i64 t] 81)).alloc (.cells #[.int .i64 b, .int .i64 f, .int .i64 mid] 81)).drew)
  case first =>
    go_region_with (go_at_call 48; (with_reducible refine (HSZ.out _).mono ?_); rintro e w4 ⟨rfl, rfl⟩)
    all_goals (go_wp2_with fail; go_meet; exact rfl)
  case rest =>
    subst hcut
    clear hwr h1 h2 h3 h4
    clear hle
    go_wp2
    go_region
    all_goals (go_wp2; refine bodyPost_ret (v := .tuple #[.agg #[.int .i64 b, .int .i64 f, .int .i64 mid], .agg #[.int .i64 bz, .int .i64 mid, .int .i64 t]]) ?_ rfl ⟨rfl, ?_⟩)
    · simp [results, Try.f45, go_sem]
    · exact ((((((Below.refl _ w).alloc (Nat.le_refl _) _).alloc (by simp) _).alloc (by simp; omega) _).alloc (by simp; omega) _).drew).drew
end Go.Proofs.Ytmkmkndcndpfeaa
