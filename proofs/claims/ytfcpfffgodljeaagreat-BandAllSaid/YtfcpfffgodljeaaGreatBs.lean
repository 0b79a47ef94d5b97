/-
  Report and Count. No condition but those typed at each theorem.
-/
import Derived.Test.YtfcpfffgodljeaaGreatBr
namespace Go.Proofs.YtfcpfffgodljeaaGreat.Bd
open Go.RowKit Go.Sort

section
variable {W : World} {P : BdP} {RX LY A : List S3} {b : B5} {nb bb : Nat}
theorem lg_small2 (h : PlI RX LY) : lgN (RX.length + 1) ≤ 9 := Nat.le_trans (lgM (by have := h.few; omega) (by omega) : lgN (RX.length + 1) ≤ lgN 401) (by decide)
theorem node_at (h : BdM W P RX LY A) (hx : b.1.1 ≤ b.1.2.1) {i k : Nat} (hk : (kns RX b.1)[i]? = some k) : ∃ p, P.ls[k]? = some p := by
  have := kns_lt h.pl hx (List.mem_of_getElem? hk)
  rw [← h.lsl] at this
  exact ⟨_, List.getElem?_eq_getElem this⟩
theorem tld_step (ks : List Nat) {i k : Nat} (hk : ks[i]? = some k) (q : B4) : tld RX LY A q (ks.take (i + 1)) = tld RX LY A q (ks.take i) ++ btw (SPk RX LY k) A q.2.2.1 q.2.2.2 := by
  unfold tld
  rw [List.take_add_one, hk, List.flatMap_append]
  simp
theorem eachR_any (h : BdM W P RX LY A) (hx : b.1.1 ≤ b.1.2.1) (hy : b.1.2.2.1 ≤ b.1.2.2.2) (hnb : Bx 43 W nb (.slice none 0 0)) (hbx : X1 W bb 0 b) (hbk : ∀ x ∈ blks P, x ≠ nb) (hbb : bb ≠ nb) :
    Calls Tryz.prog 47 #[.pointer (some ⟨P.B, 0, none⟩), bv b, .func (.func 48) #[] #[.pointer (some ⟨bb, 0, none⟩), .pointer (some ⟨nb, 0, none⟩)]] W fun e w' => e = .returned (.int .i64 (hedT RX b.1 + repT RX LY A b.1 (kns RX b.1) : Nat)) ∧ RpJ w' P RX LY A b nb bb W.heap.size (tld RX LY A b.1 (kns RX b.1)) ∧ Off [nb] W w' := by
  have hB : P.B ∉ [nb] := by simp; exact hbk _ (by simp [blks])
  have hcost : ∀ k, btwN (SPk RX LY k) A b.1.2.2.1 b.1.2.2.2 ≤ 30000 := fun k => by
    have h1 := (btwN_few h.pl A k b.1.2.2.1 b.1.2.2.2).2
    have h2 : (btw (SPk RX LY k) A b.1.2.2.1 b.1.2.2.2).length ≤ (SPk RX LY k).length := sg_len _ _ _ _
    have h3 := SPk_len h.pl k
    have h4 := h.pl.few
    have h5 := lg_small2 h.pl
    omega
  have hkl := (head_few h.pl hx).2
  have hlg := lg_small2 h.pl
  have := each_any h b hx hy 48 #[.pointer (some ⟨bb, 0, none⟩), .pointer (some ⟨nb, 0, none⟩)] egR (fun i Y => RpJ Y P RX LY A b nb bb W.heap.size (tld RX LY A b.1 ((kns RX b.1).take i))) (fun k => btwN (SPk RX LY k) A b.1.2.2.1 b.1.2.2.2) [nb]
    (fun X hX => ⟨⟨_, hnb.keep hX, World.ownsRow_nil ..⟩, hbx.keep hX hbx.lt, h.keep hX⟩) (fun i X X' hJ hb => hJ.keep hb) hB hcost
    (fun i k X hk hJ hsz => by
      obtain ⟨p, hp⟩ := node_at h hx hk
      refine (rep1_any hJ hp (tld_len A h.pl b.1 (by rw [List.length_take]; omega)) hsz hnb.lt (fun x hx => ⟨hbk x hx, h.lies x hx⟩) hbb hbx.lt).mono ?_
      rintro e X' ⟨h1, h2, h3⟩
      refine ⟨h1, ?_, h3⟩
      rw [tld_step _ hk]
      exact h2)
  refine this.mono ?_
  rintro e w' ⟨h1, h2, h3⟩
  refine ⟨h1, ?_, h3⟩
  rw [List.take_of_length_le (Nat.le_refl _)] at h2
  exact h2
theorem eachC_any (h : BdM W P RX LY A) (hx : b.1.1 ≤ b.1.2.1) (hy : b.1.2.2.1 ≤ b.1.2.2.2) (hnb : Bx 3 W nb (.int .i64 (0 : Nat))) (hbx : X1 W bb 0 b) (hbk : ∀ x ∈ blks P, x ≠ nb) (hbb : bb ≠ nb) :
    Calls Tryz.prog 47 #[.pointer (some ⟨P.B, 0, none⟩), bv b, .func (.func 51) #[] #[.pointer (some ⟨bb, 0, none⟩), .pointer (some ⟨nb, 0, none⟩)]] W fun e w' => e = .returned (.int .i64 (hedT RX b.1 + cntT RX LY b.1 (kns RX b.1) : Nat)) ∧ CtJ w' P RX LY A b nb bb ((kns RX b.1).map (fun k => (btw (SPk RX LY k) A b.1.2.2.1 b.1.2.2.2).length)).sum ∧ Off [nb] W w' := by
  have hB : P.B ∉ [nb] := by simp; exact hbk _ (by simp [blks])
  have hcost : ∀ k, cnlN (SPk RX LY k) b.1.2.2.1 b.1.2.2.2 ≤ 30000 := fun k => by
    have h1 := cnlN_few h.pl k b.1.2.2.1 b.1.2.2.2
    have h5 := lg_small2 h.pl
    omega
  have hkl := (head_few h.pl hx).2
  have hlg := lg_small2 h.pl
  have hcl : ∀ k, (btw (SPk RX LY k) A b.1.2.2.1 b.1.2.2.2).length ≤ 400 := fun k => Nat.le_trans (sg_len _ _ _ _) (Nat.le_trans (SPk_len h.pl k) h.pl.few)
  have := each_any h b hx hy 51 #[.pointer (some ⟨bb, 0, none⟩), .pointer (some ⟨nb, 0, none⟩)] egC (fun i Y => CtJ Y P RX LY A b nb bb (((kns RX b.1).take i).map (fun k => (btw (SPk RX LY k) A b.1.2.2.1 b.1.2.2.2).length)).sum) (fun k => cnlN (SPk RX LY k) b.1.2.2.1 b.1.2.2.2) [nb]
    (fun X hX => ⟨hnb.keep hX, hbx.keep hX hbx.lt, h.keep hX⟩) (fun i X X' hJ hb => hJ.keep hb) hB hcost
    (fun i k X hk hJ hsz => by
      obtain ⟨p, hp⟩ := node_at h hx hk
      have hs := sum_cap (fun k => (btw (SPk RX LY k) A b.1.2.2.1 b.1.2.2.2).length) 400 hcl ((kns RX b.1).take i)
      have hs2 : ((kns RX b.1).take i).length * 400 ≤ 18 * 400 := Nat.mul_le_mul_right _ (by rw [List.length_take]; omega)
      refine (cnt1_any hJ hp (by omega) hy hbk hbb).mono ?_
      rintro e X' ⟨h1, h2, h3⟩
      refine ⟨h1, ?_, _, h3, fun m hm => .inl ⟨by rw [List.mem_singleton.1 hm]; exact hnb.lt, hm⟩⟩
      rw [List.take_add_one, hk, List.map_append, List.sum_append]
      simpa using h2)
  refine this.mono ?_
  rintro e w' ⟨h1, h2, h3⟩
  refine ⟨h1, ?_, h3⟩
  rw [List.take_of_length_le (Nat.le_refl _)] at h2
  exact h2
/-- whether there is anything to hand down -/
theorem each_bad (h : BdM W P RX LY A) (b : B5) (hb : ¬ (b.1.1 ≤ b.1.2.1 ∧ b.1.2.2.1 ≤ b.1.2.2.2)) (fv : Value) :
    Calls Tryz.prog 47 #[.pointer (some ⟨P.B, 0, none⟩), bv b, fv] W fun e w' => e = .returned (.int .i64 0) ∧ Below W.heap.size W w' := by
  have HM := Lib.hid (fun X (hb : Below W.heap.size W X) => bmade_yes (h.keep hb))
  have HRB := Lib.hid (fun X => by have := rbox_any X b; rw [decide_eq_false hb] at this; exact this)
  obtain ⟨⟨x1, x2, y1, y2⟩, bi⟩ := b
  unfold bv at HRB ⊢
  simp only at HRB ⊢
  clear h hb
  go_enter Tryz.func47, Tryz.ntmps47
  obtain ⟨Y, hY⟩ : ∃ Y, Y = W.alloc (.cells #[.int .i64 x1, .int .i64 x2, .int .i64 y1, .int .i64 y2, .int .u32 bi] 42) := ⟨_, rfl⟩
  have hX1 : X1 Y W.heap.size 0 ((x1, x2, y1, y2), bi) := hY ▸ X1.new W ((x1, x2, y1, y2), bi) _
  have hYB : Below W.heap.size W Y := hY ▸ (Below.refl _ W).alloc (Nat.le_refl _) _
  go_upto_region 1 with fail
  rw [← hY]
  clear hY
  have HYB := Lib.hid hYB
  have k0 := hX1.c0
  have k1 := hX1.c1
  have k2 := hX1.c2
  have k3 := hX1.c3
  have k4 := hX1.c4
  simp only [Nat.zero_add] at k0 k1 k2 k3 k4
  have HMW := Lib.hid (HM.out Y hYB)
  clear hX1 hYB
  go_wp2_with (first
    | (go_at_call 40; (with_reducible refine HMW.out.mono ?_); rintro e wM ⟨rfl, hM⟩; subst wM)
    | (go_at_call 81; (with_reducible refine (HRB.out _).mono ?_); rintro e w1 ⟨rfl, hb⟩; have HB1 := Lib.hid (HYB.out.trans (hb.mono HYB.out.size)); clear hb))
  go_ret
  exact ⟨rfl, HB1.out⟩
theorem each_nil (w : World) (b : B5) (fv : Value) :
    Calls Tryz.prog 47 #[.pointer none, bv b, fv] w fun e w' => e = .returned (.int .i64 0) ∧ Below w.heap.size w w' := by
  have HM := Lib.hid (fun X => bmade_nil X)
  unfold bv
  go_enter Tryz.func47, Tryz.ntmps47
  go_wp2_with (go_at_call 40; (with_reducible refine (HM.out _).mono ?_); rintro e wM ⟨rfl, hM⟩; subst wM)
  go_ret
  exact ⟨rfl, (Below.refl _ w).alloc (Nat.le_refl _) _⟩
set_option maxRecDepth 100000 in
set_option maxHeartbeats 1600000 in
theorem report_of (w : World) (v : Value) (b : B5) (T : List S3) (t : Nat) (hT : T.length ≤ 8192)
    (hE : ∀ W, Below w.heap.size w W → w.heap.size + 1 < W.heap.size → Bx 43 W (w.heap.size + 1) (.slice none 0 0) → X1 W w.heap.size 0 b →
      Calls Tryz.prog 47 #[v, bv b, .func (.func 48) #[] #[.pointer (some ⟨w.heap.size, 0, none⟩), .pointer (some ⟨w.heap.size + 1, 0, none⟩)]] W fun e w' => e = .returned (.int .i64 t) ∧ (∃ u, Bx 43 w' (w.heap.size + 1) u ∧ w'.ownsRow W.heap.size 32 1 u (ids T).length ((ids T).map (Value.int .u32))) ∧ Off [w.heap.size + 1] W w') :
    Calls Tryz.prog 24 #[v, bv b] w fun e w' => (∃ r, e = .returned (.tuple #[r, .int .i64 t]) ∧ RL w' r (nsort (ids T))) ∧ Below w.heap.size w w' := by
  have hmf : ∀ (fn : Fn) (first cap : Array Value) (w : World), (Instr.makeFunc fn first cap).run Tryz.prog w = .ok (.func fn first cap) w := fun _ _ _ _ => rfl
  obtain ⟨W, hW⟩ : ∃ W, W = (w.alloc (.cells (bvs b).toArray 42)).alloc (.cells #[.slice none 0 0] 43) := ⟨_, rfl⟩
  have hX1 : X1 W w.heap.size 0 b := hW ▸ (X1.new w b _).keep ((Below.refl _ _).alloc (Nat.le_refl _) _) (by simp)
  have hWB : Below w.heap.size w W := hW ▸ ((Below.refl _ w).alloc (Nat.le_refl _) _).alloc (by simp) _
  have hWs : w.heap.size + 1 < W.heap.size := by rw [hW]; simp
  have hnb : Bx 43 W (w.heap.size + 1) (.slice none 0 0) := by
    have := Bx.new (w.alloc (.cells (bvs b).toArray 42)) (.slice none 0 0) 43
    rw [World.size_alloc] at this
    exact hW ▸ this
  have HE := Lib.hid (hE W hWB hWs hnb hX1)
  have k0 := hX1.c0
  have k1 := hX1.c1
  have k2 := hX1.c2
  have k3 := hX1.c3
  have k4 := hX1.c4
  have HWB := Lib.hid hWB
  have HWS := Lib.hid hWs
  have HTL := Lib.hid hT
  simp only [Nat.zero_add] at k0 k1 k2 k3 k4
  obtain ⟨⟨x1, x2, y1, y2⟩, bi⟩ := b
  unfold bv at HE ⊢
  unfold bvs at hW
  simp only at HE hW k0 k1 k2 k3 k4 ⊢
  clear hE hX1 hWB hWs hnb hT
  go_enter Tryz.func24, Tryz.ntmps24
  go_upto_region 2 with fail
  rw [← hW]
  clear hW
  go_wp2_with (first
    | (go_at_call 47; (with_reducible refine HE.out.mono ?_); rintro e w1 ⟨rfl, ⟨u, hu, hr⟩, ho⟩; have HO := Lib.hid ho; have m0 := hu.cell; have HU := Lib.hid hu; have HR := Lib.hid hr; have HC := Lib.hid (told_any w1 W.heap.size u (ids T) hr (by rw [ids_len]; exact HTL.out)); clear hu hr ho)
    | (go_at_call 50; (with_reducible refine HC.out.mono ?_); rintro e w2 ⟨rfl, ht2, ho⟩; have HO2 := Lib.hid ho; have HT2 := Lib.hid ht2; have m1 := ho.cell m0 (by simp only [Option.mem_toList]; intro hc; have := (row_lt HR.out hc).1; have := HWS.out; omega); clear ho ht2))
  go_ret2
  obtain ⟨g1, p, c, rfl, g2, g3, g4⟩ := HT2.out.u
  have hb1 := HWB.out.trans (HO.out.below HWB.out.size (by simp))
  refine ⟨⟨_, rfl, p, c, by rw [g1]; rfl, g2, g3, by rw [g1]; exact g4⟩, hb1.trans (HO2.out.below hb1.size (fun k hk => ?_))⟩
  have := (row_lt HR.out (by simpa using hk)).1
  have := HWB.out.size
  omega
theorem hsS_bad {A : List S3} {q : B4} (h : ¬ (q.1 ≤ q.2.1 ∧ q.2.2.1 ≤ q.2.2.2)) : hsS A q = [] := by
  have : A.filter (hsB q) = [] := by
    rw [List.filter_eq_nil_iff]
    intro s _ hs
    unfold hsB at hs
    simp at hs
    omega
  unfold hsS hsL
  rw [this]
  rfl
/-- Report of a tree -/
theorem report_any {w : World} (h : BdM w P RX LY A) (hA : A.Nodup) (hs : ∀ s ∈ A, s ∈ RX) (b : B5) :
    Calls Tryz.prog 24 #[.pointer (some ⟨P.B, 0, none⟩), bv b] w fun e w' => (∃ r, ∃ t : Nat, e = .returned (.tuple #[r, .int .i64 t]) ∧ RL w' r (hsS A b.1) ∧ (hsS A b.1).length ≤ t ∧ t ≤ (hsS A b.1).length + repN RX.length) ∧ Below w.heap.size w w' := by
  by_cases hg : b.1.1 ≤ b.1.2.1 ∧ b.1.2.2.1 ≤ b.1.2.2.2
  · obtain ⟨r1, r2⟩ := rep_few h.pl hA hs hg.1 hg.2
    obtain ⟨n1, n2⟩ := tld_names h.pl hA hs hg.2
    have hal : A.length ≤ 400 := Nat.le_trans (List.Nodup.length_le_of_subset hA hs) h.pl.few
    have hsl := hsS_len A b.1
    refine (report_of w _ b (tld RX LY A b.1 (kns RX b.1)) (hedT RX b.1 + repT RX LY A b.1 (kns RX b.1)) (by omega) (fun W hb hsz hnb hbx => ?_)).mono ?_
    · refine (eachR_any (h.keep hb) hg.1 hg.2 hnb hbx (fun x hx => by have := h.lies x hx; omega) (by omega)).mono ?_
      rintro e w' ⟨h1, h2, h3⟩
      exact ⟨h1, h2.box, h3⟩
    · rintro e w' ⟨⟨r, rfl, hr⟩, hb⟩
      rw [n1] at hr
      exact ⟨⟨r, _, rfl, hr, r1, r2⟩, hb⟩
  · refine (report_of w _ b [] 0 (by simp) (fun W hb hsz hnb hbx => ?_)).mono ?_
    · refine (each_bad (h.keep hb) b hg _).mono ?_
      rintro e w' ⟨h1, h2⟩
      exact ⟨h1, ⟨_, hnb.keep h2, World.ownsRow_nil ..⟩, Off.of h2 (Nat.le_refl _)⟩
    · rintro e w' ⟨⟨r, rfl, hr⟩, hb⟩
      rw [hsS_bad hg]
      exact ⟨⟨r, 0, rfl, hr, by simp, by simp⟩, hb⟩
theorem report_nil (w : World) (b : B5) :
    Calls Tryz.prog 24 #[.pointer none, bv b] w fun e w' => (∃ r, ∃ t : Nat, e = .returned (.tuple #[r, .int .i64 t]) ∧ RL w' r (hsS [] b.1) ∧ (hsS [] b.1).length ≤ t ∧ t ≤ (hsS [] b.1).length + repN 0) ∧ Below w.heap.size w w' := by
  refine (report_of w _ b [] 0 (by simp) (fun W hb hsz hnb hbx => ?_)).mono ?_
  · refine (each_nil W b _).mono ?_
    rintro e w' ⟨h1, h2⟩
    exact ⟨h1, ⟨_, hnb.keep h2, World.ownsRow_nil ..⟩, Off.of h2 (Nat.le_refl _)⟩
  · rintro e w' ⟨⟨r, rfl, hr⟩, hb⟩
    exact ⟨⟨r, 0, rfl, hr, by simp [hsS_nil], by simp⟩, hb⟩
set_option maxRecDepth 100000 in
set_option maxHeartbeats 1600000 in
theorem count_of (w : World) (v : Value) (b : B5) (c t : Nat)
    (hE : ∀ W, Below w.heap.size w W → w.heap.size + 1 < W.heap.size → Bx 3 W (w.heap.size + 1) (.int .i64 (0 : Nat)) → X1 W w.heap.size 0 b →
      Calls Tryz.prog 47 #[v, bv b, .func (.func 51) #[] #[.pointer (some ⟨w.heap.size, 0, none⟩), .pointer (some ⟨w.heap.size + 1, 0, none⟩)]] W fun e w' => e = .returned (.int .i64 t) ∧ Bx 3 w' (w.heap.size + 1) (.int .i64 c) ∧ Off [w.heap.size + 1] W w') :
    Calls Tryz.prog 25 #[v, bv b] w fun e w' => e = .returned (.tuple #[.int .i64 c, .int .i64 t]) ∧ Below w.heap.size w w' := by
  have hmf : ∀ (fn : Fn) (first cap : Array Value) (w : World), (Instr.makeFunc fn first cap).run Tryz.prog w = .ok (.func fn first cap) w := fun _ _ _ _ => rfl
  obtain ⟨W, hW⟩ : ∃ W, W = (w.alloc (.cells (bvs b).toArray 42)).alloc (.cells #[.int .i64 0] 3) := ⟨_, rfl⟩
  have hX1 : X1 W w.heap.size 0 b := hW ▸ (X1.new w b _).keep ((Below.refl _ _).alloc (Nat.le_refl _) _) (by simp)
  have hWB : Below w.heap.size w W := hW ▸ ((Below.refl _ w).alloc (Nat.le_refl _) _).alloc (by simp) _
  have hWs : w.heap.size + 1 < W.heap.size := by rw [hW]; simp
  have hnb : Bx 3 W (w.heap.size + 1) (.int .i64 (0 : Nat)) := by
    have := Bx.new (w.alloc (.cells (bvs b).toArray 42)) (.int .i64 0) 3
    rw [World.size_alloc] at this
    exact hW ▸ this
  have HE := Lib.hid (hE W hWB hWs hnb hX1)
  have k0 := hX1.c0
  have k1 := hX1.c1
  have k2 := hX1.c2
  have k3 := hX1.c3
  have k4 := hX1.c4
  have HWB := Lib.hid hWB
  have HWS := Lib.hid hWs
  simp only [Nat.zero_add] at k0 k1 k2 k3 k4
  obtain ⟨⟨x1, x2, y1, y2⟩, bi⟩ := b
  unfold bv at HE ⊢
  unfold bvs at hW
  simp only at HE hW k0 k1 k2 k3 k4 ⊢
  clear hE hX1 hWB hWs hnb
  go_enter Tryz.func25, Tryz.ntmps25
  go_upto_region 2 with fail
  rw [← hW]
  clear hW
  go_wp2_with (go_at_call 47; (with_reducible refine HE.out.mono ?_); rintro e w1 ⟨rfl, hu, ho⟩; have HO := Lib.hid ho; have m0 := hu.cell; clear hu ho)
  go_ret2
  exact ⟨rfl, HWB.out.trans (HO.out.below HWB.out.size (by simp))⟩
theorem countT_any {w : World} (h : BdM w P RX LY A) (hA : A.Nodup) (hs : ∀ s ∈ A, s ∈ RX) (b : B5) :
    Calls Tryz.prog 25 #[.pointer (some ⟨P.B, 0, none⟩), bv b] w fun e w' => (∃ t : Nat, e = .returned (.tuple #[.int .i64 (hsS A b.1).length, .int .i64 t]) ∧ t ≤ cntN RX.length) ∧ Below w.heap.size w w' := by
  by_cases hg : b.1.1 ≤ b.1.2.1 ∧ b.1.2.2.1 ≤ b.1.2.2.2
  · have r2 := cnt_few h.pl hg.1
    have n1 := cnl_all h.pl hA hs hg.2
    refine (count_of w _ b (hsS A b.1).length (hedT RX b.1 + cntT RX LY b.1 (kns RX b.1)) (fun W hb hsz hnb hbx => ?_)).mono ?_
    · refine (eachC_any (h.keep hb) hg.1 hg.2 hnb hbx (fun x hx => by have := h.lies x hx; omega) (by omega)).mono ?_
      rintro e w' ⟨h1, h2, h3⟩
      refine ⟨h1, ?_, h3⟩
      rw [← n1]
      exact h2.box
    · rintro e w' ⟨rfl, hb⟩
      exact ⟨⟨_, rfl, r2⟩, hb⟩
  · rw [hsS_bad hg]
    refine (count_of w _ b 0 0 (fun W hb hsz hnb hbx => ?_)).mono ?_
    · refine (each_bad (h.keep hb) b hg _).mono ?_
      rintro e w' ⟨h1, h2⟩
      exact ⟨h1, hnb.keep h2, Off.of h2 (Nat.le_refl _)⟩
    · rintro e w' ⟨rfl, hb⟩
      exact ⟨⟨0, rfl, Nat.zero_le _⟩, hb⟩
theorem count_nil (w : World) (b : B5) :
    Calls Tryz.prog 25 #[.pointer none, bv b] w fun e w' => (∃ t : Nat, e = .returned (.tuple #[.int .i64 (hsS [] b.1).length, .int .i64 t]) ∧ t ≤ cntN 0) ∧ Below w.heap.size w w' := by
  refine (count_of w _ b 0 0 (fun W hb hsz hnb hbx => ?_)).mono ?_
  · refine (each_nil W b _).mono ?_
    rintro e w' ⟨h1, h2⟩
    exact ⟨h1, hnb.keep h2, Off.of h2 (Nat.le_refl _)⟩
  · rintro e w' ⟨rfl, hb⟩
    exact ⟨⟨0, rfl, Nat.zero_le _⟩, hb⟩
set_option maxRecDepth 100000 in
theorem len_any {w : World} (h : BdM w P RX LY A) : Calls Tryz.prog 18 #[.pointer (some ⟨P.B, 0, none⟩)] w fun e w' => e = .returned (.int .i64 A.length) ∧ Below w.heap.size w w' := by
  have HM := Lib.hid (bmade_yes h)
  have c5 := h.ev.cell (i := 5) rfl
  clear h
  go_enter Tryz.func18, Tryz.ntmps18
  go_wp2_with (go_at_call 40; (with_reducible refine HM.out.mono ?_); rintro e wM ⟨rfl, hM⟩; subst wM)
  go_ret
  exact ⟨rfl, Below.refl _ _⟩
theorem len_nil (w : World) : Calls Tryz.prog 18 #[.pointer none] w fun e w' => e = .returned (.int .i64 0) ∧ Below w.heap.size w w' := by
  have HM := Lib.hid (bmade_nil w)
  go_enter Tryz.func18, Tryz.ntmps18
  go_wp2_with (go_at_call 40; (with_reducible refine HM.out.mono ?_); rintro e wM ⟨rfl, hM⟩; subst wM)
  go_ret
  exact ⟨rfl, Below.refl _ _⟩
set_option maxRecDepth 100000 in
theorem weight_any {w : World} (h : BdM w P RX LY A) : Calls Tryz.prog 19 #[.pointer (some ⟨P.B, 0, none⟩)] w fun e w' => e = .returned (.int .i64 (wts RX A : Nat)) ∧ Below w.heap.size w w' := by
  have HM := Lib.hid (bmade_yes h)
  have c5 := h.ev.cell (i := 6) rfl
  clear h
  go_enter Tryz.func19, Tryz.ntmps19
  go_wp2_with (go_at_call 40; (with_reducible refine HM.out.mono ?_); rintro e wM ⟨rfl, hM⟩; subst wM)
  go_ret
  exact ⟨rfl, Below.refl _ _⟩
theorem weight_nil (w : World) : Calls Tryz.prog 19 #[.pointer none] w fun e w' => e = .returned (.int .i64 0) ∧ Below w.heap.size w w' := by
  have HM := Lib.hid (bmade_nil w)
  go_enter Tryz.func19, Tryz.ntmps19
  go_wp2_with (go_at_call 40; (with_reducible refine HM.out.mono ?_); rintro e wM ⟨rfl, hM⟩; subst wM)
  go_ret
  exact ⟨rfl, Below.refl _ _⟩
end
end Go.Proofs.YtfcpfffgodljeaaGreat.Bd
