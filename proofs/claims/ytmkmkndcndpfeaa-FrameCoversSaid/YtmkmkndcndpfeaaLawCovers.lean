/-
  FrameCovers: canonical nodes are over a range, one behind the other; no two have one parent, and no one's parent is over leaves of the range alone; they are few, and few nodes are entered. For all numbers; no condition.
-/
import Derived.Test.YtmkmkndcndpfeaaFc
import Derived.Test.YtmkmkndcndpfeaaFaw
import Derived.Test.YtmkmkndcndpfeaaLift
import Derived.Maps.OwnSet
import Derived.Maps.OwnOps
namespace Go.Proofs.Ytmkmkndcndpfeaa
open Go.ChangeShapes Go.WideShapes Go.ChangeAt Go.RowKit Go.Joins Go.Maps

theorem Nds.keep {w w' : World} {b off : Nat} {ns : List Nd} (h : Nds w b off ns) (hb : Below w.heap.size w w') : Nds w' b off ns := fun j n e => (h j n e).keep hb (h j n e).lt
theorem HW1 {w w1 X : World} (h : Below w.heap.size w w1) (g : Below w1.heap.size w1 X) : Below w.heap.size w X := h.trans (g.mono h.size)

/-- the map has just these places -/
structure MS (D : DataW Unit) (xs : List Nat) : Prop where
  val : ∀ k : Nat, D.atKey (.int .i64 k) (.lit (.int .i64 0)) = .lit (.int .i64 (if k ∈ xs then 1 else 0))
  tidy : Tidy D
theorem MS.start : MS (.map []) [] := ⟨fun _ => rfl, tidy_empty⟩
theorem MS.step {D : DataW Unit} {xs : List Nat} (h : MS D xs) (x : Nat) : MS (D.put (.int .i64 x) (.lit (.int .i64 1))) (xs ++ [x]) := by
  have hk : WideAt.IsKeyLit (.int .i64 (x : Int)) := by trivial
  have ne : ∀ y : Nat, ¬ y = x → (Lit.int .i64 (y : Int)) ≠ .int .i64 (x : Int) := fun y hy e => hy (by injection e with _ e; omega)
  refine ⟨fun y => ?_, h.tidy.put hk _⟩
  by_cases e : y = x
  · subst e
    rw [atKey_put_same h.tidy.isMap hk]
    simp
  · rw [atKey_put_other (ne y e), h.val]
    simp [e]
theorem klaw : Keyed Try.prog 3 := int_keyed Try.underlying3
theorem zero3 (w : World) : (zeroValue 3).run Try.prog w = .ok (.int .i64 0) w := by kernel_rfl
theorem ownsMap_keep {H : Type} {P : Program} {k : TypeId} {R : Value → Option (DataW H × List MemPlace)} {w w' : World} {b n : Nat} {D : DataW H} (h : w.ownsMap P k R b n D) (hb : Below w.heap.size w w') : w'.ownsMap P k R b n D := by
  have hl := h.lt
  obtain ⟨es, clock, h1, h2⟩ := h
  exact ⟨es, clock, (hb.block b hl).trans h1, h2⟩
theorem ints_get {C : List Nat} {j k : Nat} (e : C[j]? = some k) : (ints C)[j]? = some (k : Int) := by
  unfold ints
  rw [List.getElem?_map, e]
  rfl

theorem int_of_lit {a b : Int} (h : (DataW.lit (.int .i64 a) : DataW Unit) = .lit (.int .i64 b)) : a = b := by
  injection h with h
  injection h

set_option maxRecDepth 100000 in
set_option maxHeartbeats 6400000 in
theorem covers_walk (a p1 p2 : Int) (w : World) (ha : 0 ≤ a ∧ a ≤ 65535) :
    Calls Try.prog 5 #[.int .u16 a, .int .i64 p1, .int .i64 p2] w fun e w' => e = .returned (.bool true) ∧ Below w.heap.size w w' := by
  obtain ⟨a', rfl⟩ : ∃ a' : Nat, a = a' := ⟨a.toNat, by omega⟩
  obtain ⟨m, hz, hm⟩ : ∃ m : Nat, (a' : Int) % 1501 = m ∧ m ≤ 1500 := ⟨a' % 1501, by omega, by omega⟩
  have ha2 : a' ≤ 65535 := by omega
  clear ha
  have hM := made_any w m hm
  have hlen := ndN_len m
  obtain ⟨L, hL⟩ : ∃ L, L = ndN m := ⟨_, rfl⟩
  have HL := Lib.hid hL
  rw [← hL] at hM hlen
  obtain ⟨z, hzl⟩ : ∃ z, z = L.length := ⟨_, rfl⟩
  have HZ := Lib.hid hzl
  rw [← hzl] at hM hlen
  have HM := Lib.hid hM
  have HRG := Lib.hid (fun X => ranged_any X m p1 p2 hm)
  have HCA : Hid (∀ X B d pp x y, FR X B m d pp → x ≤ y → y ≤ m → Calls Try.prog 12 #[.pointer (some ⟨B, 0, none⟩), .int .i64 x, .int .i64 y] X fun e w' => ∃ p c, e = .returned (.tuple #[.slice p (cnF m x y).1.length c, .int .i64 ((cnF m x y).2 : Nat), .int .i64 0]) ∧ NS w' p .i64 (ints (cnF m x y).1) ∧ Below X.heap.size X w') := Lib.hid (fun X B d pp x y h hxy hy => by
    refine (FCanon_any X B m d pp h x y hxy hy hm).mono ?_
    rintro e w' ⟨v, rfl, hr, hb⟩
    obtain ⟨p, c, rfl, hp⟩ := row_ints hr
    exact ⟨p, c, rfl, hp, hb⟩)
  have hzb : (z : Int) ≤ 3000 := by omega
  have HZZ := Lib.hid hlen
  clear hM hL hzl hlen
  have hmm := @run_makeMap Try.prog
  go_enter Try.func5, Try.ntmps5
  go_upto_region 7 with (first
    | (go_at_call 21; (with_reducible refine HM.out.mono ?_); rintro e w1 ⟨v, bl, rfl, hFS, hbl, hB, hrow, hnot⟩; obtain ⟨hll, p, c, rfl, hN, -⟩ := row_nds hrow; obtain ⟨d, pp, hfr⟩ := hFS.fr; have HFR := Lib.hid hfr; have HB := Lib.hid hB; have HN := Lib.hid hN; clear hFS hbl hB hrow hnot hfr hN hll)
    | (go_at_call 25; (with_reducible refine (HRG.out _).mono ?_); rintro e w2 ⟨x, y, rfl, hxy, hym, rfl⟩)
    | (go_at_call 12; (with_reducible refine (HCA.out _ _ _ _ _ _ HFR.out hxy hym).mono ?_); rintro e w3 ⟨p3, c3, rfl, hn, hb⟩; have HNC := Lib.hid hn; have HN := Lib.hid (HN.out.keep hb); have HB := Lib.hid (HW1 HB.out hb); clear hb hn))
  by_cases hxe : x = y
  · have hxz : ((x : Int) == y) = true := by simp; omega
    subst hxe
    have e0 : cnF m x x = ([], 0) := by unfold cnF; rw [if_pos rfl]
    rw [e0]
    clear HNC hmm HM HRG HCA
    go_wp2_with (go_at_call 9; (with_reducible refine (awake_any _).mono ?_); rintro e w4 ⟨rfl, hb⟩; have HB := Lib.hid (HW1 HB.out hb); clear hb)
    go_ret
    exact ⟨rfl, HB.out⟩
  · have hxy2 : x < y := by omega
    have hxz : ((x : Int) == y) = false := by simp; omega
    obtain ⟨C, hC⟩ : ∃ C, C = (cnF m x y).1 := ⟨_, rfl⟩
    obtain ⟨E, hE⟩ : ∃ E, E = (cnF m x y).2 := ⟨_, rfl⟩
    have hch := cnF_chain hxy hym
    have hfew := cnF_few hxy2 hym hm
    have hkid := fun i x' => cnF_kid (i := i) (m := x') hxy2 hym
    have hbd := fun i x' => ndN_bound (n := m) (i := i) (x := x')
    have hne := cnF_ne hxy2 hym
    have hkind : ∀ i x', (ndN m)[i]? = some x' → nk x' = 1 ∨ nk x' = 2 := fun i x' e => by
      rcases ndN_all m i x' e with h | ⟨_, _, _, _, _, _, h, _⟩
      · rw [h]; exact .inl rfl
      · rw [h]; exact .inr rfl
    rw [← HL.out] at hch hkid hbd hkind
    rw [← hC] at hch hfew hkid HNC
    rw [← hE] at hfew
    rw [← hC, ← hE]
    obtain ⟨q, hq⟩ : ∃ q, q = C.length := ⟨_, rfl⟩
    have HQ := Lib.hid hq
    rw [← hq] at hfew ⊢
    have HCH := Lib.hid hch
    have HKID := Lib.hid hkid
    have HBD := Lib.hid hbd
    have HKIND := Lib.hid hkind
    obtain ⟨hf1, hf2, hf3⟩ := hfew
    have hL2 : lgI m ≤ 1500 := by have := ht_le (tr m); rw [ht_tr (by omega) (by omega), lv_tr (by omega)] at this; simp only [lgI, Int.toNat_natCast]; omega
    have hE2 : E ≤ 10000 := by omega
    have hq2 : q ≤ 3000 := by omega
    have HF1 := Lib.hid hf1
    have HF2 := Lib.hid hf2
    have HF3 := Lib.hid hf3
    obtain ⟨w4, hw4⟩ : ∃ w4, w4 = w3 := ⟨_, rfl⟩
    rw [← hw4]
    rw [← hw4] at HN HNC HB
    clear hC hE hch hkid hbd hne hkind hq hf1 hf2 hf3 HM HRG HCA HFR hw4 HL
    go_upto_region 14 with fail
    go_loopw [17, 69] (fun s i wr => ∃ j e : Nat, j ≤ q ∧ i = .int .i64 j ∧ s = .int .i64 e ∧ e ≤ 1500 ∧ Hid (Ch L e (C.drop j) y) ∧ Hid (∃ D : DataW Unit, wr.ownsMap Try.prog 3 (plainElem Try.prog 3) w4.heap.size j D ∧ MS D (C.take j)) ∧ Hid (Below w4.heap.size w4 wr)) (fun _ i _ => q - (intOf i).toNat)
    case atStart => exact ⟨0, x, Nat.zero_le _, rfl, rfl, by omega, Lib.hid (by rw [List.drop_zero]; exact HCH.out), Lib.hid ⟨_, World.ownsMap_made _ _ _ _, MS.start⟩, Lib.hid ((Below.refl _ _).alloc (Nat.le_refl _) _)⟩
    case round =>
      clear hmm
      obtain ⟨j, e, hj, rfl, rfl, he, HC, HD, HB4⟩ := hrel
      by_cases hlt : j < q
      · have hltz : (j : Int) < q := by omega
        obtain ⟨k, hk⟩ : ∃ k, C[j]? = some k := ⟨_, List.getElem?_eq_getElem (by have := HQ.out; omega)⟩
        have hcc := HC.out
        rw [List.drop_eq_getElem_cons (by have := HQ.out; omega), show C[j]'(by have := HQ.out; omega) = k from (List.getElem?_eq_some_iff.1 hk).2] at hcc
        obtain ⟨xn, hxn, hx1, e2, hx2, he2, hcc⟩ := hcc
        have hkz : (k : Int) < z := by have := (List.getElem?_eq_some_iff.1 hxn).1; have := HZ.out; omega
        have hkz2 : ¬ (z : Int) ≤ k := by omega
        have hek := (HBD.out k xn hxn).2.2
        obtain ⟨b, off, rfl, hn1⟩ := HN.out.at hxn
        have hn2 := hn1.keep HB4.out hn1.lt
        have n3 := hn2.c3
        have n4 := hn2.c4
        rw [show xn.2.2.2.1 = (e : Int) from hx1] at n3
        rw [show xn.2.2.2.2.1 = (e2 : Int) from hx2] at n4
        obtain ⟨bc, oc, rfl, hc0⟩ : ∃ bc oc, p3 = some ⟨bc, oc, none⟩ ∧ Ns w4 bc oc .i64 (ints C) := by
          rcases HNC.out with h | h
          · have := ints_get hk
            rw [h] at this
            simp at this
          · exact h
        have hcx : wr.cell? ⟨bc, oc + j, none⟩ = some (.int .i64 k) := (HB4.out.cell (World.block_lt_of_cell? w4 _ (hc0 j _ (ints_get hk)))).trans (hc0 j _ (ints_get hk))
        have hkey : keyOf Try.prog 3 (.int .i64 k) = some (.int .i64 k) := keyOf_int_mk Try.underlying3 (WalkArith.wf_i64 (by omega))
        obtain ⟨D, hown, hMD⟩ := HD.out
        have hst := hMD.step k
        rw [← show C.take (j + 1) = C.take j ++ [k] by rw [List.take_add_one, hk]; rfl] at hst
        have HST := Lib.hid hst
        have HCC : Hid (Ch L e2 (C.drop (j + 1)) y) := Lib.hid hcc
        have he3 : e2 ≤ 1500 := by rw [hx2] at hek; omega
        clear hcc hst hMD hn1 hn2 hx1 hx2 hek hxn hk hc0
        go_wp2_with (first
          | (at_mapUpdate; refine wpList_mapUpdate_own _ rfl _ _ _ 54 rfl 3 3 klaw Try.underlying54 _ w4.heap.size j _ rfl hown (by unfold maxLen; omega) _ _ _ rfl rfl hkey _ [] (plainElem_int Try.underlying3 (WalkArith.wf_i64 (by omega))) ?_; intro w5 hown1 hgrow1)
          | go_in)
        go_roundw
        case rel => exact ⟨j + 1, e2, by omega, by go_num, rfl, he3, HCC, Lib.hid ⟨_, hown1, HST.out⟩, Lib.hid (HB4.out.grown hgrow1 HB4.out.size (fun j hj => by cases hj; exact Nat.le_refl _))⟩
        case measure => simp [intOf]; omega
      · have hltz : ¬ (j : Int) < q := by omega
        obtain rfl : j = q := by omega
        have hey : e = y := by
          have := HC.out
          rw [List.drop_of_length_le (by have := HQ.out; omega)] at this
          exact this
        subst hey
        have HD : Hid (∃ D : DataW Unit, wr.ownsMap Try.prog 3 (plainElem Try.prog 3) w4.heap.size j D ∧ MS D C) := Lib.hid (by
          have := HD.out
          rw [List.take_of_length_le (by have := HQ.out; omega)] at this
          exact this)
        clear HC HCH HNC HQ
        go_wp2_with fail
        go_loopw [100] (fun i wr2 => ∃ k : Nat, k ≤ z ∧ i = .int .i64 k ∧ Hid (∃ D : DataW Unit, wr2.ownsMap Try.prog 3 (plainElem Try.prog 3) w4.heap.size j D ∧ MS D C) ∧ Hid (Below w4.heap.size w4 wr2)) (fun i _ => z - (intOf i).toNat)
        case atStart => exact ⟨0, Nat.zero_le _, rfl, HD, HB4⟩
        case round =>
          clear HD HB4
          obtain ⟨k, hk, rfl, HD, HB4⟩ := hrel
          by_cases hlt2 : k < z
          · have hltz2 : (k : Int) < z := by omega
            obtain ⟨xn, hxn⟩ : ∃ xn, L[k]? = some xn := ⟨_, List.getElem?_eq_getElem (by have := HZ.out; omega)⟩
            obtain ⟨b, off, rfl, hn1⟩ := HN.out.at hxn
            have hn2 := hn1.keep HB4.out hn1.lt
            have n0 := hn2.c0
            have n1 := hn2.c1
            have n2 := hn2.c2
            have n3 := hn2.c3
            have n4 := hn2.c4
            have n5 := hn2.c5
            have n6 := hn2.c6
            have hbx := HBD.out k xn hxn
            have hkk := HKIND.out k xn hxn
            have hkd := HKID.out k xn hxn
            have HD1 := fun o => (show ∃ D : DataW Unit, (wr.alloc o).ownsMap Try.prog 3 (plainElem Try.prog 3) w4.heap.size j D ∧ MS D C by
              obtain ⟨D, h1, h2⟩ := HD.out
              exact ⟨D, ownsMap_keep h1 ((Below.refl _ wr).alloc (Nat.le_refl _) _), h2⟩)
            clear hn1 hn2 hxn
            obtain ⟨kk, l1, r1, f1, t1, a1, i1⟩ := xn
            simp only [nk, nl, nr, nf, nt] at n0 n1 n2 n3 n4 n5 n6 hbx hkk hkd
            rcases hkk with rfl | rfl
            · clear hkd
              have HD2 := Lib.hid HD1
              clear HD1
              go_wp2
              go_roundw
              case rel => exact ⟨k + 1, by omega, by go_num, Lib.hid (HD2.out _), Lib.hid (HB4.out.alloc HB4.out.size _)⟩
              case measure => simp [intOf]; omega
            · obtain ⟨l, r, rfl, rfl, ⟨hlm, hrm⟩, hk1, hk2⟩ := hkd rfl
              obtain ⟨cl, hcl⟩ : ∃ cl : Int, cl = if l ∈ C then 1 else 0 := ⟨_, rfl⟩
              obtain ⟨cr, hcr⟩ : ∃ cr : Int, cr = if r ∈ C then 1 else 0 := ⟨_, rfl⟩
              have HD3 := Lib.hid (HD1 (.cells #[.int .u8 2, .int .i64 l, .int .i64 r, .int .i64 f1, .int .i64 t1, .int .i64 a1, .int .i64 i1] 50))
              obtain ⟨D, hown, hMD⟩ := HD1 (.cells #[.int .u8 2, .int .i64 l, .int .i64 r, .int .i64 f1, .int .i64 t1, .int .i64 a1, .int .i64 i1] 50)
              have hatl := hMD.val l
              have hatr := hMD.val r
              rw [← hcl] at hatl
              rw [← hcr] at hatr
              have hkl : keyOf Try.prog 3 (.int .i64 l) = some (.int .i64 l) := keyOf_int_mk Try.underlying3 (WalkArith.wf_i64 (by omega))
              have hkr : keyOf Try.prog 3 (.int .i64 r) = some (.int .i64 r) := keyOf_int_mk Try.underlying3 (WalkArith.wf_i64 (by omega))
              obtain ⟨c1, hrun1, hat1, -⟩ := hown.lookup_int klaw Try.underlying54 Try.underlying3 (zero3 _) hkl
              obtain ⟨c2, hrun2, hat2, -⟩ := hown.lookup_int klaw Try.underlying54 Try.underlying3 (zero3 _) hkr
              obtain rfl : cl = c1 := (int_of_lit (hat1.symm.trans hatl)).symm
              obtain rfl : cr = c2 := (int_of_lit (hat2.symm.trans hatr)).symm
              clear HD1 hMD HD hkd hat1 hat2 hatl hatr hown hkl hkr
              have hcase : ((cl = 1 ∧ cr = 0 ∨ cl = 0 ∧ cr = 1) ∧ (¬ (x : Int) ≤ f1 ∨ (x : Int) ≤ f1 ∧ ¬ t1 ≤ (e : Int))) ∨ (cl = 0 ∧ cr = 0 ∧ (¬ (x : Int) ≤ f1 ∨ (x : Int) ≤ f1 ∧ ¬ t1 ≤ (e : Int) ∨ (x : Int) ≤ f1 ∧ t1 ≤ (e : Int))) := by
                by_cases hL : l ∈ C <;> by_cases hR : r ∈ C <;> simp [hL, hR] at hk1 hk2 hcl hcr ⊢ <;> omega
              clear hk1 hk2 hcl hcr
              rcases hcase with ⟨⟨rfl, rfl⟩ | ⟨rfl, rfl⟩, hi | ⟨hi, hi2⟩⟩ | ⟨rfl, rfl, hi | ⟨hi, hi2⟩ | ⟨hi, hi2⟩⟩
              all_goals go_wp2
              all_goals go_roundw
              all_goals first | (simp [intOf]; omega) | exact ⟨k + 1, by omega, by go_num, HD3, Lib.hid (HB4.out.alloc HB4.out.size _)⟩
          · have hltz2 : ¬ (k : Int) < z := by omega
            have HLG : Hid (∀ X, Calls Try.prog 24 #[.int .i64 m] X fun e w' => e = .returned (.int .i64 (lgI m)) ∧ w' = X) := Lib.hid (fun X => Log_any m X (by omega))
            have g1 := HF1.out
            have g2 := HF2.out
            have g3 := HF3.out
            have HB := Lib.hid (HW1 HB.out HB4.out)
            obtain ⟨h, hh⟩ : ∃ h, h = lgI m := ⟨_, rfl⟩
            rw [← hh] at HLG g1 g2 hL2
            have q1 : (j : Int) ≤ max (2 * (h : Int)) 1 := by omega
            have q2 : (j : Int) ≤ (E : Int) := by omega
            have q3 : (E : Int) ≤ 4 * (h : Int) + 1 := by omega
            clear hh g1 g2 g3 HD HB4 HF1 HF2 HF3 HKID HBD HKIND HN
            go_wp2_with (first
              | (go_at_call 24; (with_reducible refine (HLG.out _).mono ?_); rintro e w6 ⟨rfl, rfl⟩)
              | (go_at_call 9; (with_reducible refine (awake_any _).mono ?_); rintro e w7 ⟨rfl, hb⟩; have HB := Lib.hid (HW1 HB.out hb); clear hb))
            go_ret
            exact ⟨rfl, HB.out⟩

/- the row -/
set_option maxRecDepth 100000 in
theorem coverslaw_lifted (os : Os) (started : os.Started) (H : Type) (enc : TypeId × Value → H) :
    ReturnsInHanded {} Try.checked os 5 .any (Rows.frameCoversSpec.pre6 enc Try.prog Try.f5 Rows.frameCoversRow.domain false) (Rows.frameCoversSpec.post enc Try.prog Try.f5 false true false false) := by
  refine returnsInHanded_of_change (C := Try.checked) Try.own started (by kernel_rfl) Try.func5
    (ChangeSpec.witness6 (enc := enc) (C := Try.checked) false ⟨#[], #[.int .u16 0, .int .i64 0, .int .i64 0], []⟩ 8 (by kernel_rfl) (by kernel_rfl) (by kernel_rfl) (by kernel_rfl)) ?_
  intro W base args ds gs before hval0 hW hcnd _
  have hval : ∀ (j : Nat) t v, Try.f5.params[j]? = some t → args[j]? = some v → Value.okWide Try.prog W .any base t v := hval0
  have hW' := hW
  obtain ⟨p, q, hA0, hV, rfl, hfz, hnd⟩ := hW
  have hA : DataW.TrodAll enc Try.prog W 0 (fun _ => true) true Try.f5.params.toList args.toList ds p := hA0
  rw [Try.params5] at hA hval
  obtain ⟨v0, vs0, d0, ds0, p0, q0, hargs, rfl, rfl, h0, r0⟩ := trodAll_cons hA
  obtain ⟨v1, vs1, d1, ds1, p1, q1, rfl, rfl, rfl, h1, r1⟩ := trodAll_cons r0
  obtain ⟨v2, vs2, d2, ds2, p2, q2, rfl, rfl, rfl, h2, r2⟩ := trodAll_cons r1
  obtain ⟨rfl, rfl, rfl⟩ := trodAll_nil r2
  obtain rfl : args = #[v0, v1, v2] := by cases args; simp_all
  obtain ⟨rfl, rfl⟩ := trodVars_none hV
  obtain ⟨a0, rfl, rfl, rfl, w0⟩ := open_int Try.underlying42 (hval 0 42 v0 rfl rfl) h0
  obtain ⟨a1, rfl, rfl, rfl, w1⟩ := open_int Try.underlying3 (hval 1 3 v1 rfl rfl) h1
  obtain ⟨a2, rfl, rfl, rfl, w2⟩ := open_int Try.underlying3 (hval 2 3 v2 rfl rfl) h2
  clear hA0 hval0
  simp only [List.append_nil] at hW'
  refine (covers_walk _ _ _ W (by simpa [Lit.wf, show IntKind.u16.min = 0 from rfl, show IntKind.u16.max = 65535 from rfl] using w0)).mono fun e W' ⟨he, hb⟩ => ?_
  subst he
  have hR : DataW.TrodAll enc Try.prog W' 0 (fun b => decide (b < W.heap.size)) true _ _ _ _ := (trodAll_cons_mk (shut_int Try.underlying42 w0) (trodAll_cons_mk (shut_int Try.underlying3 w1) (trodAll_cons_mk (shut_int Try.underlying3 w2) trodAll_mk0)))
  simp only [List.append_nil] at hR
  exact ⟨_, rfl, law_post hW' (trodAll_cons_mk (shut_bool Try.underlying4 _) trodAll_mk0) hR rfl hb⟩

theorem coverslaw_holds : Rows.FrameCoversSaid :=
  OpenClaim.holds_of_wide 5 Try.f5 rfl rfl rfl rfl rfl rfl rfl ⟨rfl, rfl, rfl, rfl, rfl⟩ rfl rfl rfl rfl rfl (by kernel_rfl) Try.func5 (by kernel_rfl)
    (of_decide_eq_true (by kernel_rfl)) (by unfold Func.isWrapper; first | (rw [if_pos (by decide +kernel)]; kernel_rfl) | (rw [if_neg (by decide +kernel)]; exact ⟨rfl, rfl⟩))
    (fun os started H enc _ => coverslaw_lifted os started H enc)
end Go.Proofs.Ytmkmkndcndpfeaa
