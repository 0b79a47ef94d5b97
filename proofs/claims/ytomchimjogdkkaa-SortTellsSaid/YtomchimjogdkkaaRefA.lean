/-
  The document's order of keys, whether keys rise, how many are written; whether two lists of keys are the same. No condition but those typed at each theorem.
-/
import Derived.Test.YtomchimjogdkkaaRise
import Derived.Test.YtomchimjogdkkaaOrd
namespace Go.Proofs.Ytomchimjogdkkaa
open Go.RowKit

set_option maxRecDepth 100000 in
set_option maxHeartbeats 800000 in
theorem rAhead_any (a i b n : Int) (w : World) :
    Calls Try.prog 40 #[.int .i64 a, .int .u32 i, .int .i64 b, .int .u32 n] w fun e w' => e = .returned (.bool (kl (a, i) (b, n))) ∧ w' = w := by
  by_cases h1 : a < b
  · go_enter Try.func40, Try.ntmps40
    go_wp2 <;> go_ret <;> exact ⟨retb (by simp [kl, h1]), rfl⟩
  · by_cases h2 : a = b
    · subst h2
      by_cases h3 : i < n
      · (go_enter Try.func40, Try.ntmps40
         go_wp2 <;> go_ret <;> exact ⟨retb (by simp [kl, h3]), rfl⟩)
      · (go_enter Try.func40, Try.ntmps40
         go_wp2 <;> go_ret <;> exact ⟨retb (by simp [kl, h3]), rfl⟩)
    · go_enter Try.func40, Try.ntmps40
      go_wp2 <;> go_ret <;> exact ⟨retb (by simp [kl, h1, h2]), rfl⟩
set_option maxRecDepth 100000 in
set_option maxHeartbeats 800000 in
theorem rahead_any (k j : Int × Int) (w : World) :
    Calls Try.prog 36 #[.agg #[.int .i64 k.1, .int .u32 k.2], .agg #[.int .i64 j.1, .int .u32 j.2]] w fun e w' => e = .returned (.bool (kl k j)) ∧ Below w.heap.size w w' := by
  obtain ⟨a, i⟩ := k
  obtain ⟨b, n⟩ := j
  have hb : ∀ x y, Below w.heap.size w ((w.alloc x).alloc y) := fun x y => ((Below.refl _ w).alloc (Nat.le_refl _) x).alloc (by simp) y
  go_enter Try.func36, Try.ntmps36
  go_wp2_with (go_at_call 40; (with_reducible refine (rAhead_any _ _ _ _ _).mono ?_); rintro e w1 ⟨rfl, rfl⟩)
  go_ret
  exact ⟨rfl, hb _ _⟩

set_option maxRecDepth 100000 in
set_option maxHeartbeats 1600000 in
theorem rrise_some (w : World) (b off cap : Nat) (ks : List (Int × Int)) (hks : Ks w b off ks) (hn : ks.length ≤ 4096) :
    Calls Try.prog 32 #[.slice (some ⟨b, off, none⟩) ks.length cap] w fun e w' => e = .returned (.bool (risD ks)) ∧ Below w.heap.size w w' := by
  have hB : ∀ k j w, Calls Try.prog 36 #[.agg #[.int .i64 k.1, .int .u32 k.2], .agg #[.int .i64 j.1, .int .u32 j.2]] w fun e w' => e = .returned (.bool (kl k j)) ∧ Below w.heap.size w w' := rahead_any
  have HB := Lib.hid hB
  have HK := Lib.hid hks
  clear hB hks
  obtain ⟨n, hnn⟩ : ∃ n, n = ks.length := ⟨_, rfl⟩
  rw [← hnn] at hn
  rw [← hnn]
  have HN := Lib.hid hnn
  clear hnn
  go_enter Try.func32, Try.ntmps32
  go_wp2
  go_loopw [3] (fun i wr => ∃ k : Nat, 1 ≤ k ∧ (k ≤ n ∨ k = 1) ∧ i = .int .i64 k ∧ Hid (risB ks k = true) ∧ Hid (Below w.heap.size w wr))
    (fun i _ => n - (intOf i).toNat)
  case atStart => exact ⟨1, Nat.le_refl _, .inr rfl, rfl, Lib.hid (risB_one ks), Lib.hid (Below.refl _ _)⟩
  case round =>
    obtain ⟨k, hk1, hkn, rfl, HR, HL⟩ := hrel
    by_cases hlt : k < n
    · have hltz : (k : Int) < n := by omega
      obtain ⟨x, hx⟩ : ∃ x, x = ks.getD k (0, 0) := ⟨_, rfl⟩
      obtain ⟨y, hy⟩ : ∃ y, y = ks.getD (k - 1) (0, 0) := ⟨_, rfl⟩
      have hkn' : k < ks.length := by have := HN.out; omega
      have ex : ks[k]? = some x := by rw [hx]; simp [List.getElem?_eq_getElem hkn']
      have ey : ks[k - 1]? = some y := by rw [hy]; simp [List.getElem?_eq_getElem (show k - 1 < ks.length by omega)]
      have c1 : ∀ s : Wd (Bw wr), s.w.cell? ⟨b, off + k * 2, none⟩ = some (.int .i64 x.1) := fun s => Bw.cell s (((HK.out _ _ ex).1 ▸ HL.out.cell (World.block_lt_of_cell? w _ (HK.out _ _ ex).1)))
      have c2 : ∀ s : Wd (Bw wr), s.w.cell? ⟨b, off + k * 2 + 1, none⟩ = some (.int .u32 x.2) := fun s => Bw.cell s (((HK.out _ _ ex).2 ▸ HL.out.cell (World.block_lt_of_cell? w _ (HK.out _ _ ex).2)))
      have c3 : ∀ s : Wd (Bw wr), s.w.cell? ⟨b, off + (k - 1) * 2, none⟩ = some (.int .i64 y.1) := fun s => Bw.cell s (((HK.out _ _ ey).1 ▸ HL.out.cell (World.block_lt_of_cell? w _ (HK.out _ _ ey).1)))
      have c4 : ∀ s : Wd (Bw wr), s.w.cell? ⟨b, off + (k - 1) * 2 + 1, none⟩ = some (.int .u32 y.2) := fun s => Bw.cell s (((HK.out _ _ ey).2 ▸ HL.out.cell (World.block_lt_of_cell? w _ (HK.out _ _ ey).2)))
      have inst : Nonempty (Wd (Bw wr)) := ⟨⟨wr, Below.refl _ _⟩⟩
      have HX := Lib.hid hx
      have HY := Lib.hid hy
      have hsub : ((k : Int) - 1) = ((k - 1 : Nat) : Int) := by omega
      have hsw : IntKind.i64.wrap ((k : Int) - 1) = ((k - 1 : Nat) : Int) := by rw [IntWalk.i64_in _ (by omega)]; exact hsub
      have hpos : (0 : Int) ≤ ((k - 1 : Nat) : Int) := by omega
      have hk1n : k - 1 < n := by omega
      clear hx hy ex ey hkn hkn'
      go_upto_region 4 with fail
      obtain ⟨q, hq⟩ : ∃ q, q = kl x y := ⟨_, rfl⟩
      have hc : ∀ X, Calls Try.prog 36 #[.agg #[.int .i64 x.1, .int .u32 x.2], .agg #[.int .i64 y.1, .int .u32 y.2]] X fun e w' => e = .returned (.bool q) ∧ Below X.heap.size X w' := by rw [hq]; exact HB.out x y
      have HC := Lib.hid hc
      have HQ := Lib.hid hq
      clear hc hq
      refine wp_region_wd (Bw wr) (by kernel_rfl) (by kernel_rfl) ((Below.refl _ wr).drew) ?_
      repeat (first
        | go_big_quiet_step (first | (go_at_call 36; with_reducible exact calls_wd (fun _ _ h hb => h.keep hb) _ (HC.out _)))
        | quiet_step (first | (go_at_call 36; with_reducible exact calls_wd (fun _ _ h hb => h.keep hb) _ (HC.out _))))
      refine wpQuiet_nil ?_
      rintro _ ⟨s, rfl⟩
      have HS := Lib.hid (HL.out.trans (s.h.mono HL.out.size))
      clear c1 c2 c3 c4 hsub hsw hpos
      cases q
      · go_wp2
        go_roundw
        case rel => exact ⟨k + 1, by omega, .inl (by omega), by go_num, Lib.hid (by rw [risB_succ _ _ hk1, HR.out, ← HX.out, ← HY.out, ← HQ.out]; rfl), HS⟩
        case measure => simp [intOf]; omega
      · go_wp2
        go_ret
        exact ⟨by rw [risB_no (k := k) (by have := HN.out; omega) hk1 (by rw [← HX.out, ← HY.out, ← HQ.out])]; rfl, HS.out⟩
    · have hge : ¬ (k : Int) < n := by omega
      go_wp2
      go_ret
      refine ⟨?_, HL.out⟩
      have hk : risD ks = true := by
        unfold risD
        rw [← HN.out]
        rcases Nat.lt_or_ge n 1 with h | h
        · rw [show n = 0 by omega]; rfl
        · rw [show n = k by omega]; exact HR.out
      rw [hk]
      rfl
theorem rrise_any (w : World) (p : Option Addr) (cap : Nat) (ks : List (Int × Int)) (hks : KS w p ks) (hn : ks.length ≤ 4096) :
    Calls Try.prog 32 #[.slice p ks.length cap] w fun e w' => e = .returned (.bool (risD ks)) ∧ Below w.heap.size w w' := by
  rcases hks with rfl | ⟨b, off, rfl, h, -⟩
  · go_enter Try.func32, Try.ntmps32
    go_wp2
    go_loopw [3] (fun i wr => i = .int .i64 1 ∧ wr = w) (fun _ _ => 0)
    case atStart => exact ⟨rfl, rfl⟩
    case round =>
      obtain ⟨rfl, rfl⟩ := hrel
      go_wp2
      go_ret
      exact ⟨rfl, Below.refl _ _⟩
  · exact rrise_some w b off cap ks h hn

theorem wrt_bound (n : Nat) (h : n ≤ 8192) : wrt n ≤ 13 * n := wrt_le 13 n (by omega)
set_option maxRecDepth 100000 in
set_option maxHeartbeats 1600000 in
theorem rwritten_any : ∀ (N n : Nat) (w : World), n < N → n ≤ 8192 → Calls Try.prog 28 #[.int .i64 n] w fun e w' => e = .returned (.int .i64 (wrt n)) ∧ w' = w := by
  intro N
  induction N with
  | zero => intro n w h; omega
  | succ N ih =>
    intro n w h hn
    by_cases h2 : n < 2
    · have h2z : (n : Int) < 2 := by omega
      have h0 : wrt n = 0 := by rw [wrt, if_pos (by omega)]
      rw [h0]
      go_enter Try.func28, Try.ntmps28
      go_wp2
      go_ret
      exact ⟨rfl, rfl⟩
    · have h2z : ¬ (n : Int) < 2 := by omega
      have hw : wrt n = wrt (n / 2) + wrt (n - n / 2) + n := by rw [wrt, if_neg (by omega)]
      have hb := wrt_bound n hn
      obtain ⟨p, hp⟩ : ∃ p, p = n / 2 := ⟨_, rfl⟩
      obtain ⟨q, hq⟩ : ∃ q, q = n - p := ⟨_, rfl⟩
      rw [← hp, ← hq] at hw
      have c1 := fun w => ih p w (by omega) (by omega)
      have c2 := fun w => ih q w (by omega) (by omega)
      have HC1 := Lib.hid c1
      have HC2 := Lib.hid c2
      have e1 : (n : Int).tdiv 2 = (p : Int) := by rw [hp]; rfl
      have e2 : (n : Int) / 2 = (p : Int) := by omega
      have e3 : (n : Int) - p = (q : Int) := by omega
      have b1 : wrt p ≤ 200000 := by omega
      have b2 : wrt q ≤ 200000 := by omega
      have HW := Lib.hid hw
      clear c1 c2 hw hb hp hq ih
      go_enter Try.func28, Try.ntmps28
      go_wp2_with (first
        | (go_at_call 28; (with_reducible refine (HC1.out _).mono ?_); rintro e w1 ⟨rfl, rfl⟩)
        | (go_at_call 28; (with_reducible refine (HC2.out _).mono ?_); rintro e w1 ⟨rfl, rfl⟩))
      go_ret
      refine ⟨?_, rfl⟩
      rw [HW.out]
      go_num

set_option maxRecDepth 100000 in
set_option maxHeartbeats 1600000 in
/-- two lists of keys that are the same -/
theorem keys_same (w : World) (p q : Option Addr) (ca cb : Nat) (ks : List (Int × Int)) (hx : KS w p ks) (hy : KS w q ks) (hn : ks.length ≤ 8192) :
    Calls Try.prog 20 #[.slice p ks.length ca, .slice q ks.length cb] w fun e w' => e = .returned (.bool true) ∧ Below w.heap.size w w' := by
  have hcell : ∀ k x, ks[k]? = some x → ∃ a oa b ob, p = some ⟨a, oa, none⟩ ∧ q = some ⟨b, ob, none⟩ ∧ w.cell? ⟨a, oa + k * 2, none⟩ = some (.int .i64 x.1) ∧ w.cell? ⟨a, oa + k * 2 + 1, none⟩ = some (.int .u32 x.2) ∧ w.cell? ⟨b, ob + k * 2, none⟩ = some (.int .i64 x.1) ∧ w.cell? ⟨b, ob + k * 2 + 1, none⟩ = some (.int .u32 x.2) := by
    intro k x e
    rcases hx with rfl | ⟨a, oa, h1, h2, -⟩
    · simp at e
    · rcases hy with rfl | ⟨b, ob, h3, h4, -⟩
      · simp at e
      · exact ⟨a, oa, b, ob, h1, h3, (h2 k x e).1, (h2 k x e).2, (h4 k x e).1, (h4 k x e).2⟩
  have HX := Lib.hid hcell
  obtain ⟨n, hnn⟩ : ∃ n, n = ks.length := ⟨_, rfl⟩
  have HN := Lib.hid hnn
  rw [← hnn] at hn
  rw [← hnn]
  clear hcell hx hy hnn
  go_enter Try.func20, Try.ntmps20
  go_wp2
  go_loopw [5] (fun i wr => ∃ k : Nat, k ≤ n ∧ i = .int .i64 k ∧ Hid (Below w.heap.size w wr)) (fun i _ => n - (intOf i).toNat)
  case atStart => exact ⟨0, Nat.zero_le _, rfl, Lib.hid (Below.refl _ _)⟩
  case round =>
    obtain ⟨k, hk, rfl, HB⟩ := hrel
    by_cases h1 : k < n
    · have h1z : (k : Int) < n := by omega
      obtain ⟨x, hxe⟩ : ∃ x, ks[k]? = some x := ⟨_, List.getElem?_eq_getElem (by have := HN.out; omega)⟩
      obtain ⟨a, oa, b, ob, rfl, rfl, g1, g2, g3, g4⟩ := HX.out k x hxe
      have c1 : ∀ s : Wd (Bw wr), s.w.cell? ⟨a, oa + k * 2, none⟩ = some (.int .i64 x.1) := fun s => Bw.cell s (g1 ▸ HB.out.cell (World.block_lt_of_cell? w _ g1))
      have c2 : ∀ s : Wd (Bw wr), s.w.cell? ⟨a, oa + k * 2 + 1, none⟩ = some (.int .u32 x.2) := fun s => Bw.cell s (g2 ▸ HB.out.cell (World.block_lt_of_cell? w _ g2))
      have c3 : ∀ s : Wd (Bw wr), s.w.cell? ⟨b, ob + k * 2, none⟩ = some (.int .i64 x.1) := fun s => Bw.cell s (g3 ▸ HB.out.cell (World.block_lt_of_cell? w _ g3))
      have c4 : ∀ s : Wd (Bw wr), s.w.cell? ⟨b, ob + k * 2 + 1, none⟩ = some (.int .u32 x.2) := fun s => Bw.cell s (g4 ▸ HB.out.cell (World.block_lt_of_cell? w _ g4))
      have inst : Nonempty (Wd (Bw wr)) := ⟨⟨wr, Below.refl _ _⟩⟩
      clear hxe g1 g2 g3 g4
      go_upto_region 4 with fail
      refine wp_region_wd (Bw wr) (by kernel_rfl) (by kernel_rfl) ((Below.refl _ wr).drew) ?_
      repeat (first | go_big_quiet_step (fail) | quiet_step (fail))
      refine wpQuiet_nil ?_
      rintro _ ⟨s, rfl⟩
      have HS := Lib.hid (HB.out.trans (s.h.mono HB.out.size))
      clear c1 c2 c3 c4
      go_wp2
      go_roundw
      case rel => exact ⟨k + 1, by omega, by go_num, HS⟩
      case measure => simp [intOf]; omega
    · have h1z : ¬ (k : Int) < n := by omega
      go_wp2
      go_ret
      exact ⟨retb (by simp), HB.out⟩
end Go.Proofs.Ytomchimjogdkkaa
