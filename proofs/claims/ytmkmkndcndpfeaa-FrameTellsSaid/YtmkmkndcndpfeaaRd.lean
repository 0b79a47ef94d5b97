/-
  The document's nodes over leaves: built by halves. No condition but those typed at each theorem.
-/
import Derived.Test.YtmkmkndcndpfeaaRn
namespace Go.Proofs.Ytmkmkndcndpfeaa
open Go.RowKit

theorem src_one (w : World) (k l r f t a q : Int) (T : TypeId) : Src (w.alloc (.cells #[.int .u8 k, .int .i64 l, .int .i64 r, .int .i64 f, .int .i64 t, .int .i64 a, .int .i64 q] T)) (some ⟨w.heap.size, 0, none⟩) 1 1 (nvs (k, l, r, f, t, a, q)) := by
  have h : NdS (w.alloc (.cells (nvs (k, l, r, f, t, a, q)).toArray T)) (some ⟨w.heap.size, 0, none⟩) [(k, l, r, f, t, a, q)] := .inr ⟨w.heap.size, 0, rfl, fun j n e => by
    cases j with
    | zero =>
      simp at e
      subst e
      exact N1.new w _ T
    | succ j => simp at e⟩
  have := h.src (c := 1) (fun h => by cases h)
  rw [show (nvs (k, l, r, f, t, a, q)).toArray = #[.int .u8 k, .int .i64 l, .int .i64 r, .int .i64 f, .int .i64 t, .int .i64 a, .int .i64 q] from rfl] at this
  simpa [flatN] using this
set_option maxRecDepth 100000 in
set_option maxHeartbeats 3200000 in
theorem RNodes : ∀ (m f t b : Nat) (w : World), t = f + m → f + m ≤ 1000 → b + 2 * m ≤ 1000 →
    Calls Try.prog 11 #[.int .i64 f, .int .i64 t, .int .i64 b] w fun e w' => ∃ v, e = .returned v ∧ w'.ownsRow w.heap.size 50 7 v (2 * m - 1) (flatN (ndT b f m)) ∧ Below w.heap.size w w' := by
  intro m
  induction m using Nat.strongRecOn with
  | _ m ih =>
    intro f t b w ht hf hb
    by_cases h0 : m = 0
    · subst h0
      have h1 : (t : Int) - f = 0 := by omega
      clear ih
      go_enter Try.func11, Try.ntmps11
      go_wp2
      go_ret
      exact ⟨_, rfl, World.ownsRow_nil _ _ _ _, Below.refl _ _⟩
    · by_cases h2 : m = 1
      · subst h2
        have h1 : (t : Int) - f = 1 := by omega
        have h3 : (t : Int) = ((f + 1 : Nat) : Int) := by omega
        have HT := Lib.hid h3
        clear ih ht h3
        go_enter Try.func11, Try.ntmps11
        go_wp2
        go_ret
        refine ⟨_, rfl, ?_, (Below.refl _ w).alloc (Nat.le_refl _) _⟩
        rw [HT.out]
        refine ⟨by simp [flatN_len, ndT_len], .inr ⟨w.heap.size, 1, _, rfl, Nat.le_refl _, heap_alloc_new w _, by omega, by simp [maxLen], rfl, ?_⟩⟩
        simp [ndT, tr_one, nds, flatN, nvs]
      · obtain ⟨a, ha⟩ : ∃ a, a = m - m / 2 := ⟨_, rfl⟩
        obtain ⟨c, hc⟩ : ∃ c, c = m / 2 := ⟨_, rfl⟩
        obtain ⟨z, hz⟩ : ∃ z, z = 2 * a - 1 := ⟨_, rfl⟩
        obtain ⟨y, hy⟩ : ∃ y, y = 2 * c - 1 := ⟨_, rfl⟩
        obtain ⟨mid, hmid⟩ : ∃ mid, mid = f + a := ⟨_, rfl⟩
        obtain ⟨b2, hb2⟩ : ∃ b2, b2 = b + z := ⟨_, rfl⟩
        obtain ⟨b3, hb3⟩ : ∃ b3, b3 = b + (z + y) := ⟨_, rfl⟩
        have HL := Lib.hid (fun X => ih a (by omega) f mid b X hmid (by omega) (by omega))
        have HR := Lib.hid (fun X => ih c (by omega) mid t b2 X (by omega) (by omega) (by omega))
        have he := ndT_two (b := b) (f := f) (m := m) (a := a) (c := c) (z := z) (by omega) ha hc (by omega)
        rw [← hmid, ← hb2, ← hy, ← hb3, ← ht] at he
        rw [← hz] at HL
        rw [← hy] at HR
        have HE := Lib.hid he
        have lA : (ndT b f a).length = z := by rw [ndT_len]; omega
        have lB : (ndT b2 mid c).length = y := by rw [ndT_len]; omega
        have HLA := Lib.hid lA
        have HLB := Lib.hid lB
        obtain ⟨A, hA⟩ : ∃ A, A = ndT b f a := ⟨_, rfl⟩
        obtain ⟨B, hB⟩ : ∃ B, B = ndT b2 mid c := ⟨_, rfl⟩
        rw [← hA] at HL HE HLA
        rw [← hB] at HR HE HLB
        obtain ⟨s, hs⟩ : ∃ s, s = z + y := ⟨_, rfl⟩
        have hzl : (z : Int) ≤ 1000 := by omega
        have hsl : (s : Int) ≤ 1000 := by omega
        have h1 : (t : Int) - f = m := by omega
        have h4 : ¬ (m : Int) < 1 := by omega
        have h5 : ((m : Int) == 1) = false := by simp; omega
        obtain ⟨m1, hm1⟩ : ∃ m1, m1 = m + 1 := ⟨_, rfl⟩
        have h6 : (m : Int) + 1 = m1 := by omega
        have h7 : Int.tdiv (m1 : Int) 2 = a := by rw [ha, hm1, show m - m / 2 = (m + 1) / 2 by omega]; rfl
        have h8 : (f : Int) + a = mid := by omega
        have h9 : (b : Int) + z = b2 := by omega
        have h10 : (b : Int) + s = b3 := by omega
        have hb2l : (b2 : Int) ≤ 1000 := by omega
        have hb3l : (b3 : Int) ≤ 1000 := by omega
        have hml : (m : Int) ≤ 1000 := by omega
        have hmidl : (mid : Int) ≤ 1000 := by omega
        have hfl : (f : Int) ≤ 1000 := by omega
        have htl : (t : Int) ≤ 1000 := by omega
        have hal : (a : Int) ≤ 1000 := by omega
        have hm1l : (m1 : Int) ≤ 1001 := by omega
        have HLEN : Hid (2 * m - 1 = s + 1) := Lib.hid (by omega)
        have HS := Lib.hid hs
        clear ih he lA lB hA hB ha hc hz hy hmid hb2 hb3 ht h0 h2 hm1 hf hb hs
        go_enter Try.func11, Try.ntmps11
        go_upto_region 8 with (first
          | (go_at_call 11; (with_reducible refine (HL.out _).mono ?_); rintro e w1 ⟨v1, rfl, hr, hb⟩; obtain ⟨p1, c1, rfl⟩ := row_shape hr; have H1 := Lib.hid hr; have HB1 := Lib.hid hb; clear hr hb)
          | (go_at_call 11; (with_reducible refine (HR.out _).mono ?_); rintro e w2 ⟨v2, rfl, hr, hb⟩; obtain ⟨hl2, p2, c2, rfl, hN, hp0, -⟩ := row_nds hr; have hsr := hN.src (fun h => (hp0 h).1); rw [HLB.out] at hsr; have H2 := Lib.hid hsr; have H1 := Lib.hid (row_keep H1.out hb); have HB2 := Lib.hid (HB1.out.trans (hb.mono HB1.out.size)); clear hr hb hl2 hN hp0 hsr))
        have hzy : z + y ≤ 1000 := by have := HS.out; omega
        go_upto_region 9 with (at_builtin; refine wpList_list Try.info50 rfl (by decide) (by decide) Try.underlying27 _ rfl (.tmp 42) (.tmp 43) rfl w.heap.size (.slice p1 z c1) z (flatN A) rfl H1.out p2 y c2 (flatN B) rfl (by rw [flatN_len, HLB.out]) H2.out (flatN_one B) (by omega) HB2.out.size ?_; intro v3 w3 h31 h32 _; obtain ⟨p3, c3, rfl⟩ := row_shape h31; rw [← HS.out] at *; have H3 := Lib.hid h31; have HB3 := Lib.hid (HB2.out.grown h32 HB2.out.size (fun k hk => (H1.out.lt k hk).1)); clear h31 h32)
        have HA4 := Lib.hid (H3.out.alloc (.cells #[.int .u8 2, .int .i64 ((b2 : Int) - 1), .int .i64 ((b3 : Int) - 1), .int .i64 f, .int .i64 t, .int .i64 0, .int .i64 0] 50))
        have HSR := Lib.hid (src_one w3 2 ((b2 : Int) - 1) ((b3 : Int) - 1) f t 0 0 50)
        go_wp2_with (at_builtin; refine wpList_list Try.info50 rfl (by decide) (by decide) Try.underlying27 _ rfl (.tmp 45) (.tmp 59) rfl w.heap.size (.slice p3 s c3) s (flatN A ++ flatN B) rfl HA4.out (some ⟨w3.heap.size, 0, none⟩) 1 1 (nvs (2, (b2 : Int) - 1, (b3 : Int) - 1, (f : Int), (t : Int), 0, 0)) rfl rfl HSR.out (nvs_one _) (by omega) (by have := HB3.out.size; simp; omega) ?_; intro v5 w5 h51 h52 _; have H5 := Lib.hid h51; have HB5 := Lib.hid ((HB3.out.alloc HB3.out.size _).grown h52 (by have := HB3.out.size; simp; omega) (fun k hk => (HA4.out.lt k hk).1)); clear h51 h52)
        go_ret
        refine ⟨_, rfl, ?_, HB5.out⟩
        rw [HLEN.out, HE.out, flatN_snoc, flatN_append]
        exact H5.out
end Go.Proofs.Ytmkmkndcndpfeaa
