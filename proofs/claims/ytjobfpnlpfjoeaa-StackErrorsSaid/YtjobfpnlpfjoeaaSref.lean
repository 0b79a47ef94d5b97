/-
  The document's answers: Errors, All, Leaves. No condition but those typed at each theorem.
-/
import Derived.Test.YtjobfpnlpfjoeaaStk
import Derived.Test.YtjobfpnlpfjoeaaRefB
import Derived.Test.YtjobfpnlpfjoeaaNodes
namespace Go.Proofs.Ytjobfpnlpfjoeaa
open Go.RowKit

/-- from a place, or from none -/
def bl (N : List Nd) (P : Nd → Bool) (i : Int) : List Int := if i < 0 then [] else en N P i
theorem bl_no {N : List Nd} {P : Nd → Bool} {i : Int} (h : i < 0) : bl N P i = [] := if_pos h
theorem bl_yes {N : List Nd} {P : Nd → Bool} {i : Int} (h : 0 ≤ i) : bl N P i = en N P i := if_neg (by omega)
theorem bl_kids {N : List Nd} (hR : Rt N) (P : Nd → Bool) {i : Nat} {n : Nd} (e : N[i]? = some n) : (ksL n).flatMap (en N P) = bl N P (nl n) ++ bl N P (nr n) := by
  have hk : ∀ x ∈ ksL n, 0 ≤ x := fun x hx => (hR.kid e hx).1
  unfold ksL at *
  by_cases h1 : nl n = -1 <;> by_cases h2 : nr n = -1
  · simp [h1, h2, bl]
  · have := hk (nr n) (by simp [h1, h2])
    rw [bl_no (i := nl n) (by omega), bl_yes this]
    simp [h1, h2]
  · have := hk (nl n) (by simp [h1, h2])
    rw [bl_no (i := nr n) (by omega), bl_yes this]
    simp [h1, h2]
  · have h3 := hk (nr n) (by simp [h1, h2])
    have h4 := hk (nl n) (by simp [h1, h2])
    rw [bl_yes h3, bl_yes h4]
    simp [h1, h2]
theorem bl_at {N : List Nd} (hR : Rt N) (P : Nd → Bool) {i : Nat} {n : Nd} (e : N[i]? = some n) (hp : P n = true) : bl N P i = (i : Int) :: (bl N P (nl n) ++ bl N P (nr n)) := by
  rw [bl_yes (by omega), en_at hR P (n := n) (by simpa using e), if_pos hp, bl_kids hR P e]
theorem bl_stop {N : List Nd} (hR : Rt N) (P : Nd → Bool) {i : Nat} {n : Nd} (e : N[i]? = some n) (hp : P n = false) : bl N P i = [(i : Int)] := by
  rw [bl_yes (by omega), en_at hR P (n := n) (by simpa using e), if_neg (by simp [hp])]
theorem bl_len {N : List Nd} (hR : Rt N) (P : Nd → Bool) {i : Int} (hi : i < N.length) : (bl N P i).length ≤ N.length := by
  by_cases h : i < 0
  · rw [bl_no h]; exact Nat.zero_le _
  · rw [bl_yes (by omega)]
    exact (en_once hR P (by omega) hi).2.2
/-- a kid's place is ahead, or none -/
theorem kid_lt {N : List Nd} (hR : Rt N) {i : Nat} {n : Nd} (e : N[i]? = some n) : nl n < i ∧ nr n < i := by
  constructor
  · by_cases h : nl n = -1
    · omega
    · exact (hR.kid e (x := nl n) (by simp [mem_ksL, h])).2
  · by_cases h : nr n = -1
    · omega
    · exact (hR.kid e (x := nr n) (by simp [mem_ksL, h])).2

/-- a row of one's own as what is put behind another one -/
theorem row_src {w : World} {base n : Nat} {v : Value} {xs : List Int} (h : w.ownsRow base 3 1 v n (xs.map (Value.int .i64))) : ∃ p c, v = .slice p n c ∧ xs.length = n ∧ Src w p n c (xs.map (Value.int .i64)) := by
  have hn : xs.length = n := by have := h.1; rw [List.length_map] at this; omega
  obtain ⟨p, c, e, hq⟩ := row_ints h
  refine ⟨p, c, e, hn, ?_⟩
  rw [← hn]
  refine hq.src (fun hp => ?_)
  rcases h.2 with ⟨h2, _⟩ | ⟨g, cap, cur, h2, _⟩
  · rw [h2] at e; cases e; rfl
  · rw [h2] at e; cases e; cases hp

set_option maxRecDepth 100000 in
set_option maxHeartbeats 1600000 in
theorem RErrors (w : World) (p : Option Addr) (c : Nat) (N : List Nd) (r : Int) (hx : NdS w p N) (hl : N.length ≤ 8192) (hc : N.length ≤ c) :
    Calls Try.prog 27 #[.slice p N.length c, .int .i64 r] w fun e w' => e = .returned (.int .i64 (chk N r)) ∧ Below w.heap.size w w' := by
  have HR := Lib.hid (RRight w p c N hx hl hc)
  unfold chk
  clear hx hc
  generalize rtB N = q at *
  generalize N.length = d at *
  cases q with
  | false =>
    go_enter Try.func27, Try.ntmps27
    go_wp2_with (go_at_call 37; (with_reducible refine HR.out.mono ?_); rintro e w1 ⟨rfl, hb⟩; have HB := Lib.hid hb; clear hb)
    go_ret
    exact ⟨rfl, HB.out⟩
  | true =>
    by_cases h1 : r < 0
    · go_enter Try.func27, Try.ntmps27
      go_wp2_with (go_at_call 37; (with_reducible refine HR.out.mono ?_); rintro e w1 ⟨rfl, hb⟩; have HB := Lib.hid hb; clear hb)
      go_ret
      exact ⟨by simp, HB.out⟩
    · by_cases h2 : (d : Int) ≤ r
      · go_enter Try.func27, Try.ntmps27
        go_wp2_with (go_at_call 37; (with_reducible refine HR.out.mono ?_); rintro e w1 ⟨rfl, hb⟩; have HB := Lib.hid hb; clear hb)
        go_ret
        exact ⟨by simp, HB.out⟩
      · go_enter Try.func27, Try.ntmps27
        go_wp2_with (go_at_call 37; (with_reducible refine HR.out.mono ?_); rintro e w1 ⟨rfl, hb⟩; have HB := Lib.hid hb; clear hb)
        go_ret
        exact ⟨by simp, HB.out⟩

/-- a list of one's own -/
def TO (w : World) (L : List Int) (e : Ending) (w' : World) : Prop := ∃ v, e = .returned v ∧ w'.ownsRow w.heap.size 3 1 v L.length (L.map (Value.int .i64)) ∧ Below w.heap.size w w'

set_option maxRecDepth 100000 in
set_option maxHeartbeats 3200000 in
theorem Rbelow (p : Option Addr) (c : Nat) (N : List Nd) (hR : Rt N) (hl : N.length ≤ 8192) : ∀ (m : Nat) (i : Int), i < m → i < N.length → ∀ w, NdS w p N →
    Calls Try.prog 28 #[.slice p N.length c, .int .i64 i] w (TO w (bl N (fun _ => true) i)) := by
  intro m
  induction m with
  | zero =>
    intro i hm hi w hx
    rw [bl_no (by omega)]
    clear hx
    have h1 : i < 0 := by omega
    generalize N.length = d at *
    go_enter Try.func28, Try.ntmps28
    go_wp2
    go_ret
    exact ⟨_, rfl, World.ownsRow_nil _ _ _ _, Below.refl _ _⟩
  | succ m ih =>
    intro i hm hi w hx
    by_cases h0 : i < 0
    · exact ih i (by omega) hi w hx
    · obtain ⟨j, rfl⟩ : ∃ j : Nat, i = j := ⟨i.toNat, by omega⟩
      obtain ⟨n, hn⟩ : ∃ n, N[j]? = some n := ⟨_, List.getElem?_eq_getElem (by omega)⟩
      have hk := kid_lt hR hn
      have HL := Lib.hid (fun X (hX : Below w.heap.size w X) => ih (nl n) (by omega) (by omega) X (hx.keep hX))
      have HR := Lib.hid (fun X (hX : Below w.heap.size w X) => ih (nr n) (by omega) (by omega) X (hx.keep hX))
      have hll := bl_len hR (fun _ => true) (i := nl n) (by omega)
      have hlr := bl_len hR (fun _ => true) (i := nr n) (by omega)
      have hat := bl_at hR (fun _ => true) hn rfl
      rw [hat]
      obtain ⟨b, off, rfl, h1⟩ := hx.at hn
      have H1 := Lib.hid h1
      have hjl : (j : Int) < N.length := hi
      have hjn : j < N.length := by omega
      clear hm hi hk hat ih hx hR hn h1
      generalize bl N (fun _ => true) (nl n) = xl at *
      generalize bl N (fun _ => true) (nr n) = xr at *
      generalize N.length = d at *
      obtain ⟨k, L, R, f, t, a, q⟩ := n
      simp only [nl, nr] at HL HR
      go_enter Try.func28, Try.ntmps28
      have hB0 := (Below.refl w.heap.size w).alloc (Nat.le_refl _) (.cells #[.int .i64 (j : Int)] 3)
      have n1 := (H1.out.keep hB0 H1.out.lt).c1
      have HB0 := Lib.hid hB0
      have HI : Hid ((w.alloc (.cells #[.int .i64 (j : Int)] 3)).ownsRow w.heap.size 3 1 (.slice (some ⟨w.heap.size, 0, none⟩) 1 1) 1 [.int .i64 (j : Int)]) := Lib.hid (by
        exact (RB.one w j).own (Nat.le_refl _) rfl)
      simp only at n1
      clear hB0
      go_wp2_with (first
        | (go_at_call 28; (with_reducible refine (HL.out _ HB0.out).mono ?_); rintro e w1 ⟨v1, rfl, hr, hb⟩; obtain ⟨p1, c1, rfl, hn1, hs⟩ := row_src hr; have HS := Lib.hid hs; have HB := Lib.hid (HB0.out.trans (hb.mono HB0.out.size)); have HI1 := Lib.hid (row_at (base' := w.heap.size) HI.out (fun k e => ⟨hb.block k (HI.out.lt k e).2, (HI.out.lt k e).1⟩)); clear hr hb hs hn1)
        | (at_builtin; refine wpList_list Try.info3 rfl (by decide) (by decide) Try.underlying25 _ rfl (.tmp 9) (.tmp 16) rfl w.heap.size _ 1 [.int .i64 (j : Int)] rfl HI1.out p1 xl.length c1 (xl.map (Value.int .i64)) rfl (by simp) HS.out (ints_one xl _) (by omega) HB.out.size ?_; intro v5 w2 h1 h2 _; have HB2 := Lib.hid (HB.out.grown h2 HB.out.size (fun k e => (HI1.out.lt k e).1)); have HI2 := Lib.hid h1; have n2 := (H1.out.keep HB2.out H1.out.lt).c2; simp only at n2; clear h1 h2)
        | (go_at_call 28; (with_reducible refine (HR.out _ HB2.out).mono ?_); rintro e w3 ⟨v3, rfl, hr, hb⟩; obtain ⟨p3, c3, rfl, hn3, hs⟩ := row_src hr; have HS3 := Lib.hid hs; have HB3 := Lib.hid (HB2.out.trans (hb.mono HB2.out.size)); have HI3 := Lib.hid (row_at (base' := w.heap.size) HI2.out (fun k e => ⟨hb.block k (HI2.out.lt k e).2, (HI2.out.lt k e).1⟩)); clear hr hb hs hn3)
        | (at_builtin; refine wpList_list Try.info3 rfl (by decide) (by decide) Try.underlying25 _ rfl (.tmp 18) (.tmp 25) rfl w.heap.size v5 (1 + xl.length) ([.int .i64 (j : Int)] ++ xl.map (Value.int .i64)) rfl HI3.out p3 xr.length c3 (xr.map (Value.int .i64)) rfl (by simp) HS3.out (ints_one xr _) (by omega) HB3.out.size ?_; intro v7 w4 h1 h2 _; have HB4 := Lib.hid (HB3.out.grown h2 HB3.out.size (fun k e => (HI3.out.lt k e).1)); have HI4 := Lib.hid h1; clear h1 h2))
      go_ret
      refine ⟨_, rfl, ?_, HB4.out⟩
      have h := HI4.out
      rw [show 1 + xl.length + xr.length = xl.length + xr.length + 1 by omega] at h
      simpa using h

set_option maxRecDepth 100000 in
set_option maxHeartbeats 1600000 in
theorem RAll (w : World) (p : Option Addr) (c : Nat) (N : List Nd) (r : Int) (hx : NdS w p N) (hl : N.length ≤ 8192) (hc : N.length ≤ c) :
    Calls Try.prog 11 #[.slice p N.length c, .int .i64 r] w (TA w (allR N r) (chk N r)) := by
  have HC := Lib.hid (RErrors w p c N r hx hl hc)
  by_cases hk : chk N r = 0
  · obtain ⟨hR, hr0, hr1⟩ := chk_ok hk
    have HW := Lib.hid (fun X (hX : Below w.heap.size w X) => Rbelow p c N hR hl (r.toNat + 1) r (by omega) hr1 X (hx.keep hX))
    rw [bl_yes hr0] at HW
    have hal : allR N r = en N (fun _ => true) r := by rw [allR, if_pos hk]; rfl
    rw [hal]
    rw [hk] at HC ⊢
    clear hk hR hr0 hr1 hx hal hc
    generalize en N (fun _ => true) r = M at *
    generalize N.length = d at *
    go_enter Try.func11, Try.ntmps11
    go_wp2_with (first
      | (go_at_call 27; (with_reducible refine HC.out.mono ?_); rintro e w1 ⟨rfl, hb⟩; have HB := Lib.hid hb; clear hb)
      | (go_at_call 28; (with_reducible refine (HW.out w1 HB.out).mono ?_); rintro e w2 ⟨v, rfl, hr, hb⟩; have HR := Lib.hid hr; have HB2 := Lib.hid hb; clear hr hb))
    go_ret2
    exact ⟨_, rfl, row_at HR.out (fun k e => ⟨rfl, Nat.le_trans HB.out.size (HR.out.lt k e).1⟩), HB.out.trans (HB2.out.mono HB.out.size)⟩
  · have hal : allR N r = [] := by rw [allR, if_neg hk]
    rw [hal]
    clear hal hx hc
    have hkz : (chk N r == 0) = false := by simpa using hk
    generalize chk N r = x at *
    generalize N.length = d at *
    go_enter Try.func11, Try.ntmps11
    go_wp2_with (go_at_call 27; (with_reducible refine HC.out.mono ?_); rintro e w1 ⟨rfl, hb⟩; have HB := Lib.hid hb; clear hb)
    go_ret2
    exact ⟨_, rfl, World.ownsRow_nil _ _ _ _, HB.out⟩

/-- a list of one's own and a number -/
def TP (w : World) (L : List Int) (m : Int) (e : Ending) (w' : World) : Prop := ∃ v, e = .returned (.tuple #[v, .int .i64 m]) ∧ w'.ownsRow w.heap.size 3 1 v L.length (L.map (Value.int .i64)) ∧ Below w.heap.size w w'
theorem tl1_at {N : List Nd} {a b : Int} {i : Nat} {n : Nd} (e : N[i]? = some n) : tl1 N a b (i : Int) = tln a b n := by simp [tl1, e]

set_option maxRecDepth 100000 in
set_option maxHeartbeats 6400000 in
theorem Rtold (p : Option Addr) (c : Nat) (N : List Nd) (hR : Rt N) (hl : N.length ≤ 8192) (a b : Int) : ∀ (m : Nat) (i : Int), i < m → i < N.length → ∀ w, NdS w p N →
    Calls Try.prog 30 #[.slice p N.length c, .int .i64 i, .int .i64 a, .int .i64 b] w (TP w (tls N a b (bl N (inR a b) i)) (bl N (inR a b) i).length) := by
  intro m
  induction m with
  | zero =>
    intro i hm hi w hx
    rw [bl_no (by omega)]
    clear hx
    have h1 : i < 0 := by omega
    generalize N.length = d at *
    go_enter Try.func30, Try.ntmps30
    go_wp2
    go_ret2
    exact ⟨_, rfl, World.ownsRow_nil _ _ _ _, Below.refl _ _⟩
  | succ m ih =>
    intro i hm hi w hx
    by_cases h0 : i < 0
    · exact ih i (by omega) hi w hx
    · obtain ⟨j, rfl⟩ : ∃ j : Nat, i = j := ⟨i.toNat, by omega⟩
      obtain ⟨n, hn⟩ : ∃ n, N[j]? = some n := ⟨_, List.getElem?_eq_getElem (by omega)⟩
      have hk := kid_lt hR hn
      have HL := Lib.hid (fun X (hX : Below w.heap.size w X) => ih (nl n) (by omega) (by omega) X (hx.keep hX))
      have HR := Lib.hid (fun X (hX : Below w.heap.size w X) => ih (nr n) (by omega) (by omega) X (hx.keep hX))
      have hll := bl_len hR (inR a b) (i := nl n) (by omega)
      have hlr := bl_len hR (inR a b) (i := nr n) (by omega)
      have htl := Nat.le_trans (tls_len N a b (bl N (inR a b) (nl n))) hll
      have htr := Nat.le_trans (tls_len N a b (bl N (inR a b) (nr n))) hlr
      have hstop := bl_stop hR (inR a b) hn
      have hat := bl_at hR (inR a b) hn
      have h1a := tl1_at (a := a) (b := b) hn
      have hleaf : nk n = 1 → nl n = -1 ∧ nr n = -1 := fun h => may_leaf (hR j n hn) h
      have hjl : (j : Int) < N.length := hi
      have hjn : j < N.length := by omega
      obtain ⟨bb, off, rfl, h1⟩ := hx.at hn
      have n0 := h1.c0
      have n1 := h1.c1
      have n2 := h1.c2
      have n3 := h1.c3
      have n4 := h1.c4
      have n5 := h1.c5
      have n6 := h1.c6
      obtain ⟨Y, hY⟩ : ∃ Y, Y = w.alloc (.cells (nvs n).toArray 36) := ⟨_, rfl⟩
      have hN1 := N1.new w n 36
      rw [← hY] at hN1
      have hYB : Below w.heap.size w Y := by rw [hY]; exact (Below.refl _ w).alloc (Nat.le_refl _) _
      have hYs : w.heap.size < Y.heap.size := by rw [hY]; simp
      have m0 := hN1.c0
      have m1 := hN1.c1
      have m3 := hN1.c3
      have m4 := hN1.c4
      have HN1 := Lib.hid hN1
      have HYB := Lib.hid hYB
      have HYS := Lib.hid hYs
      have htls := tls_append N a b
      have ht1 : ∀ E, tls N a b ((j : Int) :: E) = tln a b n ++ tls N a b E := fun E => by
        rw [show (j : Int) :: E = [(j : Int)] ++ E from rfl, tls_append, ← h1a]
        simp [tls]
      unfold nvs at hY
      have HY := Lib.hid hY
      clear hm hi hk ih hx hR hn h1 hY hN1 hYB hYs h1a
      obtain ⟨k, L, R, f, t, at', q⟩ := n
      simp only [nl, nr, nk, Nat.zero_add] at *
      generalize N.length = d at *
      by_cases h1 : t ≤ a
      · have hin : inR a b (k, L, R, f, t, at', q) = false := by simp [inR, h1]
        have htn : tln a b (k, L, R, f, t, at', q) = [] := by simp [tln, hin]
        rw [hstop hin, ht1, htn]
        clear hstop hat ht1 htls hleaf hin htn HL HR
        have h1' : ¬ (a < t) := by omega
        go_enter Try.func30, Try.ntmps30
        go_upto_region 4 with fail
        rw [← HY.out]
        go_wp2
        go_ret2
        exact ⟨_, rfl, World.ownsRow_nil _ _ _ _, HYB.out⟩
      · by_cases h2 : b ≤ f
        · have hin : inR a b (k, L, R, f, t, at', q) = false := by simp [inR, h2]
          have htn : tln a b (k, L, R, f, t, at', q) = [] := by simp [tln, hin]
          rw [hstop hin, ht1, htn]
          clear hstop hat ht1 htls hleaf hin htn HL HR
          have h1' : a < t := by omega
          have h2' : ¬ (f < b) := by omega
          go_enter Try.func30, Try.ntmps30
          go_upto_region 4 with fail
          rw [← HY.out]
          go_wp2
          go_ret2
          exact ⟨_, rfl, World.ownsRow_nil _ _ _ _, HYB.out⟩
        · have hin : inR a b (k, L, R, f, t, at', q) = true := by simp [inR, h1, h2]
          have h1' : a < t := by omega
          have h2' : f < b := by omega
          by_cases h3 : k = 1
          · subst h3
            obtain ⟨rfl, rfl⟩ := hleaf rfl
            have htn : tln a b (1, -1, -1, f, t, at', q) = [f] := by simp [tln, hin, nk]
            rw [hat hin, bl_no (by omega), ht1, htn]
            clear hstop hat ht1 htls hleaf hin htn HL HR
            go_enter Try.func30, Try.ntmps30
            go_upto_region 4 with fail
            rw [← HY.out]
            go_wp2
            go_ret2
            refine ⟨_, rfl, (RB.one Y f).own HYB.out.size rfl, HYB.out.alloc HYB.out.size _⟩
          · have htn : tln a b (k, L, R, f, t, at', q) = [] := by simp [tln, nk, h3]
            rw [hat hin, ht1, htn, htls]
            clear hstop hat ht1 htls hleaf hin htn
            generalize bl N (inR a b) L = xl at *
            generalize bl N (inR a b) R = xr at *
            generalize tls N a b xl = yl at *
            generalize tls N a b xr = yr at *
            go_enter Try.func30, Try.ntmps30
            go_upto_region 4 with fail
            rw [← HY.out]
            go_wp2_with (first
              | (go_at_call 30; (with_reducible refine (HL.out _ HYB.out).mono ?_); rintro e w1 ⟨v1, rfl, hr, hb⟩; have HB1 := Lib.hid (HYB.out.trans (hb.mono HYB.out.size)); have HR1 := Lib.hid hr; have m2 := (HN1.out.keep hb HYS.out).c2; simp only [Nat.zero_add] at m2; clear hr hb)
              | (go_at_call 30; (with_reducible refine (HR.out _ HB1.out).mono ?_); rintro e w2 ⟨v2, rfl, hr, hb⟩; obtain ⟨p2, c2, rfl, hn2, hs⟩ := row_src hr; have HS2 := Lib.hid hs; have HB2 := Lib.hid (HB1.out.trans (hb.mono HB1.out.size)); have HR2 := Lib.hid (row_at (base' := w.heap.size) HR1.out (fun k e => ⟨hb.block k (HR1.out.lt k e).2, Nat.le_trans HYB.out.size (HR1.out.lt k e).1⟩)); clear hr hb hs hn2)
              | (at_builtin; refine wpList_list Try.info3 rfl (by decide) (by decide) Try.underlying25 _ rfl (.tmp 57) (.tmp 58) rfl w.heap.size v1 yl.length (yl.map (Value.int .i64)) rfl HR2.out p2 yr.length c2 (yr.map (Value.int .i64)) rfl (by simp) HS2.out (ints_one yr _) (by omega) HB2.out.size ?_; intro v7 w4 h1 h2 _; have HB4 := Lib.hid (HB2.out.grown h2 HB2.out.size (fun k e => (HR2.out.lt k e).1)); have HI4 := Lib.hid h1; clear h1 h2))
            go_ret2
            refine ⟨v7, ?_, by have h := HI4.out; simpa using h, HB4.out⟩
            show Ending.returned (.tuple #[v7, .int .i64 (1 + (xl.length : Int) + (xr.length : Int))]) = _
            congr 5
            simp
            omega

set_option maxRecDepth 100000 in
set_option maxHeartbeats 1600000 in
theorem RLeaves (w : World) (p : Option Addr) (c : Nat) (N : List Nd) (r a b : Int) (hx : NdS w p N) (hl : N.length ≤ 8192) (hc : N.length ≤ c) :
    Calls Try.prog 14 #[.slice p N.length c, .int .i64 r, .int .i64 a, .int .i64 b] w (TL w (tls N a b (ranR N a b r)) (ranR N a b r).length (chk N r)) := by
  have HC := Lib.hid (RErrors w p c N r hx hl hc)
  by_cases hk : chk N r = 0
  · obtain ⟨hR, hr0, hr1⟩ := chk_ok hk
    have HW := Lib.hid (fun X (hX : Below w.heap.size w X) => Rtold p c N hR hl a b (r.toNat + 1) r (by omega) hr1 X (hx.keep hX))
    rw [bl_yes hr0] at HW
    have hal : ranR N a b r = en N (inR a b) r := by rw [ranR, if_pos hk]; rfl
    rw [hal]
    rw [hk] at HC ⊢
    clear hk hR hr0 hr1 hx hal hc
    generalize en N (inR a b) r = M at *
    generalize tls N a b M = L at *
    generalize N.length = d at *
    go_enter Try.func14, Try.ntmps14
    go_wp2_with (first
      | (go_at_call 27; (with_reducible refine HC.out.mono ?_); rintro e w1 ⟨rfl, hb⟩; have HB := Lib.hid hb; clear hb)
      | (go_at_call 30; (with_reducible refine (HW.out w1 HB.out).mono ?_); rintro e w2 ⟨v, rfl, hr, hb⟩; have HR := Lib.hid hr; have HB2 := Lib.hid hb; clear hr hb))
    go_ret3
    exact ⟨_, rfl, row_at HR.out (fun k e => ⟨rfl, Nat.le_trans HB.out.size (HR.out.lt k e).1⟩), HB.out.trans (HB2.out.mono HB.out.size)⟩
  · have hal : ranR N a b r = [] := by rw [ranR, if_neg hk]
    rw [hal]
    clear hal hx hc
    have hkz : (chk N r == 0) = false := by simpa using hk
    generalize chk N r = x at *
    generalize N.length = d at *
    go_enter Try.func14, Try.ntmps14
    go_wp2_with (go_at_call 27; (with_reducible refine HC.out.mono ?_); rintro e w1 ⟨rfl, hb⟩; have HB := Lib.hid hb; clear hb)
    go_ret3
    exact ⟨_, rfl, World.ownsRow_nil _ _ _ _, HB.out⟩
end Go.Proofs.Ytjobfpnlpfjoeaa
