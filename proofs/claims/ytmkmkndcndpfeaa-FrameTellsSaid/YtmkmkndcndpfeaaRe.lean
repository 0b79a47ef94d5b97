/-
  The document's Entered and its Path. No condition but those typed at each theorem.
-/
import Derived.Test.YtmkmkndcndpfeaaRd
namespace Go.Proofs.Ytmkmkndcndpfeaa
open Go.RowKit

set_option maxRecDepth 100000 in
set_option maxHeartbeats 3200000 in
theorem REnter1 (w : World) (p : Option Addr) (c : Nat) (L : List Nd) (at' : Nat) (n : Nd) (x y : Int) (hx : NdS w p L) (e : L[at']? = some n) (h : inB n x y = true ∨ inB n x y = false ∧ outB n x y = true) :
    Calls Try.prog 35 #[.slice p L.length c, .int .i64 at', .int .i64 x, .int .i64 y] w fun e w' => e = .returned (.int .i64 1) ∧ Below w.heap.size w w' := by
  have hi := (List.getElem?_eq_some_iff.1 e).1
  obtain ⟨b, off, rfl, h1⟩ := hx.at e
  obtain ⟨z, hz⟩ : ∃ z, z = L.length := ⟨_, rfl⟩
  rw [← hz] at hi ⊢
  have hiz : (at' : Int) < z := by omega
  have n0 := h1.c0
  have n1 := h1.c1
  have n2 := h1.c2
  have n3 := h1.c3
  have n4 := h1.c4
  have n5 := h1.c5
  have n6 := h1.c6
  have HN := Lib.hid h1
  have HW := Lib.hid (fun X => RWithin X n x y)
  have HA := Lib.hid (fun X => RApart X n x y)
  clear hx e h1 hz
  rcases h with h | ⟨h, h2⟩
  · rw [h] at HW
    clear h
    obtain ⟨k, l, r, f, t, a, q⟩ := n
    simp only at n0 n1 n2 n3 n4 n5 n6
    unfold nv at HW
    dsimp only at HW
    go_enter Try.func35, Try.ntmps35
    go_wp2_with (go_at_call 34; (with_reducible refine (HW.out _).mono ?_); rintro e w1 ⟨rfl, hb⟩; have HB := Lib.hid hb; clear hb)
    go_ret
    exact ⟨rfl, HB.out⟩
  · rw [h] at HW
    rw [h2] at HA
    clear h h2
    obtain ⟨k, l, r, f, t, a, q⟩ := n
    simp only at n0 n1 n2 n3 n4 n5 n6
    unfold nv at HW HA
    dsimp only at HW HA
    go_enter Try.func35, Try.ntmps35
    go_wp2_with (first
      | (go_at_call 34; (with_reducible refine (HW.out _).mono ?_); rintro e w1 ⟨rfl, hb⟩; have hk := HN.out.keep hb HN.out.lt; have m0 := hk.c0; have m1 := hk.c1; have m2 := hk.c2; have m3 := hk.c3; have m4 := hk.c4; have m5 := hk.c5; have m6 := hk.c6; simp only at m0 m1 m2 m3 m4 m5 m6; have HB := Lib.hid hb; clear hb hk)
      | (go_at_call 46; (with_reducible refine (HA.out _).mono ?_); rintro e w2 ⟨rfl, hb⟩; have HB := Lib.hid (HB.out.trans (hb.mono HB.out.size)); clear hb))
    go_ret
    exact ⟨rfl, HB.out⟩

set_option maxRecDepth 100000 in
set_option maxHeartbeats 3200000 in
theorem REnter2 (w : World) (p : Option Addr) (c : Nat) (L : List Nd) (at' : Nat) (n : Nd) (x y : Int) (l r e1 e2 : Nat) (hx : NdS w p L) (e : L[at']? = some n) (h : inB n x y = false) (h2 : outB n x y = false)
    (hnl : nl n = l) (hnr : nr n = r) (he1 : e1 ≤ 10000) (he2 : e2 ≤ 10000)
    (hc1 : ∀ X, Below w.heap.size w X → Calls Try.prog 35 #[.slice p L.length c, .int .i64 l, .int .i64 x, .int .i64 y] X fun e w' => e = .returned (.int .i64 e1) ∧ Below X.heap.size X w')
    (hc2 : ∀ X, Below w.heap.size w X → Calls Try.prog 35 #[.slice p L.length c, .int .i64 r, .int .i64 x, .int .i64 y] X fun e w' => e = .returned (.int .i64 e2) ∧ Below X.heap.size X w') :
    Calls Try.prog 35 #[.slice p L.length c, .int .i64 at', .int .i64 x, .int .i64 y] w fun e w' => e = .returned (.int .i64 ((1 + e1 + e2 : Nat) : Int)) ∧ Below w.heap.size w w' := by
  have hi := (List.getElem?_eq_some_iff.1 e).1
  obtain ⟨b, off, rfl, h1⟩ := hx.at e
  obtain ⟨z, hz⟩ : ∃ z, z = L.length := ⟨_, rfl⟩
  rw [← hz] at hi hc1 hc2 ⊢
  have hiz : (at' : Int) < z := by omega
  have n0 := h1.c0
  have n1 := h1.c1
  have n2 := h1.c2
  have n3 := h1.c3
  have n4 := h1.c4
  have n5 := h1.c5
  have n6 := h1.c6
  have HN := Lib.hid h1
  have HW := Lib.hid (fun X => RWithin X n x y)
  have HA := Lib.hid (fun X => RApart X n x y)
  rw [h] at HW
  rw [h2] at HA
  have HC1 := Lib.hid hc1
  have HC2 := Lib.hid hc2
  clear hx e h1 hz h h2 hc1 hc2
  obtain ⟨k, l', r', f, t, a, q⟩ := n
  simp only [nl, nr] at hnl hnr
  subst hnl
  subst hnr
  simp only at n0 n1 n2 n3 n4 n5 n6
  unfold nv at HW HA
  dsimp only at HW HA
  go_enter Try.func35, Try.ntmps35
  go_upto_region 3 with (first
    | (go_at_call 34; (with_reducible refine (HW.out _).mono ?_); rintro e w1 ⟨rfl, hb⟩; have hk := HN.out.keep hb HN.out.lt; have m0 := hk.c0; have m1 := hk.c1; have m2 := hk.c2; have m3 := hk.c3; have m4 := hk.c4; have m5 := hk.c5; have m6 := hk.c6; simp only at m0 m1 m2 m3 m4 m5 m6; have HB := Lib.hid hb; clear hb hk)
    | (go_at_call 46; (with_reducible refine (HA.out _).mono ?_); rintro e w2 ⟨rfl, hb⟩; have HB := Lib.hid (HB.out.trans (hb.mono HB.out.size)); clear hb m0 m1 m2 m3 m4 m5 m6))
  have hk := HN.out.keep HB.out HN.out.lt
  have z1 := fun s : Wd (Bw w2) => Bw.cell s hk.c1
  have z2 := fun s : Wd (Bw w2) => Bw.cell s hk.c2
  simp only at z1 z2
  have inst : Nonempty (Wd (Bw w2)) := ⟨⟨w2, Below.refl _ _⟩⟩
  have hkp : Hid (∀ X w', Bw w2 X → Below X.heap.size X w' → Bw w2 w') := Lib.hid (fun X w' h hb => h.keep hb)
  have HD1 : Hid (∀ s : Wd (Bw w2), Calls Try.prog 35 #[.slice (some ⟨b, off, none⟩) z c, .int .i64 l, .int .i64 x, .int .i64 y] s.w fun e w' => e = .returned (.int .i64 e1) ∧ Below s.w.heap.size s.w w') := Lib.hid (fun s => HC1.out s.w (HB.out.trans (Below.mono s.h HB.out.size)))
  have HD2 : Hid (∀ s : Wd (Bw w2), Calls Try.prog 35 #[.slice (some ⟨b, off, none⟩) z c, .int .i64 r, .int .i64 x, .int .i64 y] s.w fun e w' => e = .returned (.int .i64 e2) ∧ Below s.w.heap.size s.w w') := Lib.hid (fun s => HC2.out s.w (HB.out.trans (Below.mono s.h HB.out.size)))
  clear hk n0 n1 n2 n3 n4 n5 n6
  refine wp_region_wd (Bw w2) (by kernel_rfl) (by kernel_rfl) ((Below.refl _ w2).drew) ?_
  repeat (first | go_big_quiet_step (first | (go_at_call 35; with_reducible exact calls_wd hkp.out _ (HD1.out _)) | (go_at_call 35; with_reducible exact calls_wd hkp.out _ (HD2.out _))) | quiet_step (first | (go_at_call 35; with_reducible exact calls_wd hkp.out _ (HD1.out _)) | (go_at_call 35; with_reducible exact calls_wd hkp.out _ (HD2.out _))))
  refine wpQuiet_nil ?_
  rintro _ ⟨s, rfl⟩
  have HS := Lib.hid (HB.out.trans (Below.mono s.h HB.out.size))
  clear z1 z2 inst
  go_wp2
  go_ret
  refine ⟨?_, HS.out⟩
  go_num

theorem inB_yes {n : Nd} {x y : Int} : inB n x y = true ↔ x ≤ nf n ∧ nt n ≤ y := by simp [inB]
theorem inB_no {n : Nd} {x y : Int} : inB n x y = false ↔ ¬ (x ≤ nf n ∧ nt n ≤ y) := by rw [← inB_yes]; simp
theorem outB_yes {n : Nd} {x y : Int} : outB n x y = true ↔ nt n ≤ x ∨ y ≤ nf n := by simp [outB]
theorem outB_no {n : Nd} {x y : Int} : outB n x y = false ↔ ¬ (nt n ≤ x ∨ y ≤ nf n) := by rw [← outB_yes]; simp
theorem REntered (x y : Nat) (c : Nat) (L : List Nd) : ∀ (t : Tr) (b f : Nat) (w : World) (p : Option Addr), SG L b f t → NdS w p L → sz t ≤ 5000 →
    Calls Try.prog 35 #[.slice p L.length c, .int .i64 (rt b t), .int .i64 x, .int .i64 y] w fun e w' => e = .returned (.int .i64 ((cn x y t b f).2 : Nat)) ∧ Below w.heap.size w w'
  | .lf, b, f, w, p, h, hx, _ => by
    obtain ⟨n, h1, h2, h3⟩ := h.top
    simp only [lv] at h3
    have he : (cn x y .lf b f).2 = 1 := by rw [cn]; split <;> rfl
    rw [he]
    refine REnter1 w p c L _ n x y hx h1 ?_
    by_cases ho : f + 1 ≤ x ∨ y ≤ f
    · cases hi : inB n x y
      · exact .inr ⟨rfl, outB_yes.2 (by omega)⟩
      · exact .inl rfl
    · exact .inl (inB_yes.2 (by omega))
  | .nd l r, b, f, w, p, h, hx, hs => by
    obtain ⟨n, hn, hroot⟩ : ∃ n, n = ((2, (rt b l : Int), (rt (b + sz l) r : Int), (f : Int), ((f + (lv l + lv r) : Nat) : Int), 0, 0) : Nd) ∧ L[rt b (.nd l r)]? = some n := ⟨_, rfl, h.root⟩
    have e1 : nf n = f := by rw [hn]; rfl
    have e2 : nt n = ((f + (lv l + lv r) : Nat) : Int) := by rw [hn]; rfl
    have e3 : nl n = rt b l := by rw [hn]; rfl
    have e4 : nr n = rt (b + sz l) r := by rw [hn]; rfl
    rw [sz_nd] at hs
    by_cases hi : x ≤ f ∧ f + (lv l + lv r) ≤ y
    · rw [cn_in (by simpa only [lv] using hi)]
      exact REnter1 w p c L _ n x y hx hroot (.inl (inB_yes.2 (by omega)))
    · have hib : inB n x y = false := inB_no.2 (by omega)
      by_cases ha : f + (lv l + lv r) ≤ x ∨ y ≤ f
      · rw [cn_apart (by simpa only [lv] using ha)]
        exact REnter1 w p c L _ n x y hx hroot (.inr ⟨hib, outB_yes.2 (by omega)⟩)
      · rw [cn_cut ha hi]
        have b1 := (cn_len x y l b f).2.1
        have b2 := (cn_len x y r (b + sz l) (f + lv l)).2.1
        exact REnter2 w p c L _ n x y (rt b l) (rt (b + sz l) r) _ _ hx hroot hib (outB_no.2 (by omega)) e3 e4 (by omega) (by omega)
          (fun X hX => REntered x y c L l b f X p h.left (hx.keep hX) (by omega))
          (fun X hX => REntered x y c L r (b + sz l) (f + lv l) X p h.right (hx.keep hX) (by omega))
end Go.Proofs.Ytmkmkndcndpfeaa
