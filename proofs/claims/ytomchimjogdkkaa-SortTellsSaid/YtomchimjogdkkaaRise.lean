/-
  Whether keys rise: sort.rise. No condition but those typed at each theorem.
-/
import Derived.Test.YtomchimjogdkkaaMem
namespace Go.Proofs.Ytomchimjogdkkaa
open Go.RowKit

/-- no key stands ahead of the one ahead of it -/
def risB (ks : List (Int × Int)) (k : Nat) : Bool := (List.range k).all fun i => decide (i = 0) || !kl (ks.getD i (0, 0)) (ks.getD (i - 1) (0, 0))
def risD (ks : List (Int × Int)) : Bool := risB ks ks.length
theorem risB_succ (ks : List (Int × Int)) (k : Nat) (hk : 1 ≤ k) : risB ks (k + 1) = (risB ks k && !kl (ks.getD k (0, 0)) (ks.getD (k - 1) (0, 0))) := by
  simp only [risB, List.range_succ, List.all_append, List.all_cons, List.all_nil, Bool.and_true, show ¬ k = 0 by omega, decide_false, Bool.false_or]
theorem risB_no {ks : List (Int × Int)} {k : Nat} (hk : k < ks.length) (h0 : 1 ≤ k) (h : kl (ks.getD k (0, 0)) (ks.getD (k - 1) (0, 0)) = true) : risD ks = false := by
  simp only [risD, risB, List.all_eq_false, List.mem_range]
  exact ⟨k, hk, by rw [h]; simp; omega⟩
theorem risB_one (ks : List (Int × Int)) : risB ks 1 = true := by simp [risB]

set_option maxRecDepth 100000 in
set_option maxHeartbeats 1600000 in
theorem rise_some (w : World) (b off cap : Nat) (ks : List (Int × Int)) (hks : Ks w b off ks) (hn : ks.length ≤ 4096) :
    Calls Try.prog 29 #[.slice (some ⟨b, off, none⟩) ks.length cap] w fun e w' => e = .returned (.bool (risD ks)) ∧ Below w.heap.size w w' := by
  have hB : ∀ k j w, Calls Try.prog 24 #[.agg #[.int .i64 k.1, .int .u32 k.2], .agg #[.int .i64 j.1, .int .u32 j.2]] w fun e w' => e = .returned (.bool (kl k j)) ∧ Below w.heap.size w w' := before_any
  have HB := Lib.hid hB
  have HK := Lib.hid hks
  clear hB hks
  obtain ⟨n, hnn⟩ : ∃ n, n = ks.length := ⟨_, rfl⟩
  rw [← hnn] at hn
  rw [← hnn]
  have HN := Lib.hid hnn
  clear hnn
  go_enter Try.func29, Try.ntmps29
  go_wp2
  go_loopw [3] (fun i wr => ∃ k : Nat, 1 ≤ k ∧ (k ≤ n ∨ k = 1) ∧ i = .int .i64 k ∧ Hid (risB ks k = true) ∧ Hid (Below w.heap.size w wr))
    (fun i _ => n - (intOf i).toNat)
  case atStart => exact ⟨1, Nat.le_refl _, .inr rfl, rfl, Lib.hid (risB_one ks), Lib.hid (Below.refl _ _)⟩
  case round =>
    obtain ⟨k, hk1, hkn, rfl, HR, HL⟩ := hrel
    by_cases hlt : k < n
    · have hltz : (k : Int) < n := by omega
      obtain ⟨x, hx⟩ : ∃ x, x = ks.getD k (0, 0) := ⟨_, rfl⟩
      obtain ⟨y, hy⟩ : ∃ y, y = ks.getD (k - 1) (0, 0) := ⟨_, rfl⟩
      have hkn' : k < ks.length := by have := HN.out; omega
      have ex : ks[k]? = some x := by rw [hx]; simp [List.getElem?_eq_getElem hkn']
      have ey : ks[k - 1]? = some y := by rw [hy]; simp [List.getElem?_eq_getElem (show k - 1 < ks.length by omega)]
      have c1 : ∀ s : Wd (Bw wr), s.w.cell? ⟨b, off + k * 2, none⟩ = some (.int .i64 x.1) := fun s => Bw.cell s (((HK.out _ _ ex).1 ▸ HL.out.cell (World.block_lt_of_cell? w _ (HK.out _ _ ex).1)))
      have c2 : ∀ s : Wd (Bw wr), s.w.cell? ⟨b, off + k * 2 + 1, none⟩ = some (.int .u32 x.2) := fun s => Bw.cell s (((HK.out _ _ ex).2 ▸ HL.out.cell (World.block_lt_of_cell? w _ (HK.out _ _ ex).2)))
      have c3 : ∀ s : Wd (Bw wr), s.w.cell? ⟨b, off + (k - 1) * 2, none⟩ = some (.int .i64 y.1) := fun s => Bw.cell s (((HK.out _ _ ey).1 ▸ HL.out.cell (World.block_lt_of_cell? w _ (HK.out _ _ ey).1)))
      have c4 : ∀ s : Wd (Bw wr), s.w.cell? ⟨b, off + (k - 1) * 2 + 1, none⟩ = some (.int .u32 y.2) := fun s => Bw.cell s (((HK.out _ _ ey).2 ▸ HL.out.cell (World.block_lt_of_cell? w _ (HK.out _ _ ey).2)))
      have inst : Nonempty (Wd (Bw wr)) := ⟨⟨wr, Below.refl _ _⟩⟩
      have HX := Lib.hid hx
      have HY := Lib.hid hy
      have hsub : ((k : Int) - 1) = ((k - 1 : Nat) : Int) := by omega
      have hsw : IntKind.i64.wrap ((k : Int) - 1) = ((k - 1 : Nat) : Int) := by rw [IntWalk.i64_in _ (by omega)]; exact hsub
      have hpos : (0 : Int) ≤ ((k - 1 : Nat) : Int) := by omega
      have hk1n : k - 1 < n := by omega
      clear hx hy ex ey hkn hkn'
      go_upto_region 4 with fail
      obtain ⟨q, hq⟩ : ∃ q, q = kl x y := ⟨_, rfl⟩
      have hc : ∀ X, Calls Try.prog 24 #[.agg #[.int .i64 x.1, .int .u32 x.2], .agg #[.int .i64 y.1, .int .u32 y.2]] X fun e w' => e = .returned (.bool q) ∧ Below X.heap.size X w' := by rw [hq]; exact HB.out x y
      have HC := Lib.hid hc
      have HQ := Lib.hid hq
      clear hc hq
      refine wp_region_wd (Bw wr) (by kernel_rfl) (by kernel_rfl) ((Below.refl _ wr).drew) ?_
      repeat (first
        | go_big_quiet_step (first | (go_at_call 24; with_reducible exact calls_wd (fun _ _ h hb => h.keep hb) _ (HC.out _)))
        | quiet_step (first | (go_at_call 24; with_reducible exact calls_wd (fun _ _ h hb => h.keep hb) _ (HC.out _))))
      refine wpQuiet_nil ?_
      rintro _ ⟨s, rfl⟩
      have HS := Lib.hid (HL.out.trans (s.h.mono HL.out.size))
      clear c1 c2 c3 c4 hsub hsw hpos
      cases q
      · go_wp2
        go_roundw
        case rel => exact ⟨k + 1, by omega, .inl (by omega), by go_num, Lib.hid (by rw [risB_succ _ _ hk1, HR.out, ← HX.out, ← HY.out, ← HQ.out]; rfl), HS⟩
        case measure => simp [intOf]; omega
      · go_wp2
        go_ret
        exact ⟨by rw [risB_no (k := k) (by have := HN.out; omega) hk1 (by rw [← HX.out, ← HY.out, ← HQ.out])]; rfl, HS.out⟩
    · have hge : ¬ (k : Int) < n := by omega
      go_wp2
      go_ret
      refine ⟨?_, HL.out⟩
      have hk : risD ks = true := by
        unfold risD
        rw [← HN.out]
        rcases Nat.lt_or_ge n 1 with h | h
        · rw [show n = 0 by omega]; rfl
        · rw [show n = k by omega]; exact HR.out
      rw [hk]
      rfl
theorem rise_any (w : World) (p : Option Addr) (cap : Nat) (ks : List (Int × Int)) (hks : KS w p ks) (hn : ks.length ≤ 4096) :
    Calls Try.prog 29 #[.slice p ks.length cap] w fun e w' => e = .returned (.bool (risD ks)) ∧ Below w.heap.size w w' := by
  rcases hks with rfl | ⟨b, off, rfl, h, -⟩
  · go_enter Try.func29, Try.ntmps29
    go_wp2
    go_loopw [3] (fun i wr => i = .int .i64 1 ∧ wr = w) (fun _ _ => 0)
    case atStart => exact ⟨rfl, rfl⟩
    case round =>
      obtain ⟨rfl, rfl⟩ := hrel
      go_wp2
      go_ret
      exact ⟨rfl, Below.refl _ _⟩
  · exact rise_some w b off cap ks h hn
end Go.Proofs.Ytomchimjogdkkaa
