/-
  LowTells: which points a tree is built of, which are the lowest ones of a part, in order, and what is dropped, is what the document says; over any tree that tells the lowest.
-/
import Derived.Test.YtldmajifkmcdcaaGreatMLs
import Derived.Test.YtldmajifkmcdcaaGreatLaw
namespace Go.Proofs.YtldmajifkmcdcaaGreat.Lw
open Go.ChangeShapes Go.WideShapes Go.ChangeAt Go.RowKit Go.Joins
set_option maxRecDepth 100000 in
set_option maxHeartbeats 12800000 in
theorem tells_walk {TS : World → Value → Nat → List Nat → List S3 → Prop} (C : LowC TS) (w : World) (p q pd : Option Addr) (c d cd : Nat) (L : List S3) (xs : List S3) (D : List S3) (hx : TsS w p L) (hc : L.length ≤ c) (hp : p = none → c = 0) (hw : ∀ s ∈ L, Wf3 s) (hxs : UsS w q xs) (hd : xs.length ≤ d) (hwx : ∀ x ∈ xs, WfU x) (hD : TsS w pd D) (hcd : D.length ≤ cd) (hwd : ∀ s ∈ D, Wf3 s) :
    Calls Tryz.prog 3 #[.slice p L.length c, .slice q xs.length d, .slice pd D.length cd] w fun e w' => e = .returned (.bool true) ∧ Below w.heap.size w w' := by
  have HAW := Lib.hid (awake_any C)
  by_cases hbig : L.length ≤ 60
  · have hbz : ¬ (60 : Int) < L.length := by omega
    have HX := Lib.hid hx
    have HP := Lib.hid hp
    have HDD := Lib.hid hD
    have HWD := Lib.hid hwd
    have HBU := Lib.hid (fun X (hX : Below w.heap.size w X) => C.build X p c L (hx.keep hX) (by omega) hc hp hw)
    have HRR := Lib.hid (fun X (hX : Below w.heap.size w X) => RRightP X p c L (hx.keep hX) (by omega))
    obtain ⟨hm, hhm⟩ : ∃ h, h = min xs.length 12 := ⟨_, rfl⟩
    obtain ⟨hn, hhn⟩ : ∃ h, h = min D.length 14 := ⟨_, rfl⟩
    have hmin1 := fun X ty => min12 X ty xs.length (hm : Int) (by rw [hhm])
    have hmin2 := fun X ty => min14 X ty D.length (hn : Int) (by rw [hhn])
    have hsl1 := fun X => slU_to X q xs.length d hm (by omega)
    have hsl2 := fun X => slP_to X pd D.length cd hn (by omega)
    have hm20 : hm ≤ 20 := by omega
    have hn20 : hn ≤ 20 := by omega
    have HHN := Lib.hid (show hn ≤ D.length by omega)
    have hxt : (xs.take hm).length = hm := by rw [List.length_take]; omega
    have HAS := Lib.hid (fun X v n S A (p' : Option Addr) (c' : Nat) (hX : Below w.heap.size w X) (hT : TS X v n S A) (hL : TsS X p' A) => by
      have hf := C.few hT
      have := asked_any C hT p' q c' d A (xs.take hm) hL ((hxs.keep hX).take hm) (fun x hx => hwx x (List.mem_of_mem_take hx)) (by omega) (by omega) (List.Perm.refl _)
      rw [hxt] at this
      exact this)
    obtain ⟨m, hmm⟩ : ∃ m, m = L.length := ⟨_, rfl⟩
    have HM := Lib.hid hmm
    rw [← hmm] at HBU HRR hbz hbig ⊢
    clear hx hc hp hw hxs hd hwx hD hcd hwd hhm hhn hxt hmm
    generalize xs.length = xl at *
    obtain ⟨dl, hdl⟩ : ∃ dl, dl = D.length := ⟨_, rfl⟩
    have HDL := Lib.hid hdl
    rw [← hdl] at hmin2 hsl2 HHN ⊢
    clear hdl
    go_enter Tryz.func3, Tryz.ntmps3
    go_upto_region 3 with fail
    go_region
    all_goals go_upto_region 4 with fail
    all_goals (
      have HB0 : Hid (Below w.heap.size w w.drew) := Lib.hid ⟨rfl, rfl, rfl, Nat.le_refl _, fun _ _ => rfl⟩
      clear hmin1 hmin2 hsl1 hsl2
      by_cases hrg : Rg L
      · rw [decide_eq_true hrg] at HRR
        go_upto_region 7 with (first
          | (go_at_call 10; (with_reducible refine (HBU.out _ HB0.out).mono ?_); rintro e w1 ⟨hb, hor⟩; rcases hor with ⟨-, v, S, rfl, hT, hS⟩ | ⟨hn', -⟩; rotate_left; (exact absurd hrg hn'); have HT := Lib.hid hT; have HB := Lib.hid (HB0.out.trans hb); have HSS := Lib.hid (show ∀ k ∈ S, w.heap.size ≤ k from hS); clear hb hT hS)
          | (go_at_call 11; (with_reducible refine (HRR.out _ HB.out).mono ?_); rintro e w2 ⟨rfl, hb⟩; have HT := Lib.hid (C.bel HT.out hb); have HB := Lib.hid (HB.out.trans (hb.mono HB.out.size)); clear hb))
        have HA1 := Lib.hid (HAS.out w2 v _ _ L p c HB.out HT.out (HX.out.keep HB.out))
        rw [← HM.out] at HA1
        go_upto_region 9 with (go_at_call 13; (with_reducible refine HA1.out.mono ?_); rintro e w3 ⟨rfl, hb⟩; have HT := Lib.hid (C.bel HT.out hb); have HB := Lib.hid (HB.out.trans (hb.mono HB.out.size)); clear hb)
        have HO := Lib.hid (World.ownsRow_made (base := w3.heap.size) (e := 34) (size := 3) w3 #[] 0 (Nat.le_refl _) (by simp [maxLen]) rfl)
        have HK := Lib.hid ((TsS.src (HX.out.keep HB.out) HP.out).keep ((Below.refl _ w3).alloc (Nat.le_refl _) (.cells #[] 34)))
        rw [← HM.out] at HK
        have HLS := Lib.hid (C.lies HT.out)
        clear HBU HRR HA1 HB0
        go_wp2_with (at_builtin; refine wpList_list Tryz.info34 rfl (by decide) (by decide) Tryz.underlying22 _ rfl (.tmp 55) (.tmp 56) rfl w3.heap.size (.slice (some ⟨w3.heap.size, 0, none⟩) 0 0) 0 [] rfl HO.out p m c (flatT L) rfl (by rw [flatT_len, HM.out]) HK.out (flatT_one L) (by omega) (by simp) ?_; intro v4 w4 h1 h2 _; have HX4 := Lib.hid (show ∀ b, v4.ownBlock = some b → b ∉ S from fun b e hb => by have := (h1.lt b e).1; have := HLS.out b hb; omega); have HR4 := Lib.hid (row_at (base' := w.heap.size) h1 (fun b e => ⟨rfl, Nat.le_trans HB.out.size (h1.lt b e).1⟩)); have HO4 := Lib.hid (((Off.refl [w3.heap.size] w3).all (.cells #[] 34)).grow h2 (fun k e => by simp [Value.ownBlock] at e; exact .inl (by simp [e]))); have HB4 := Lib.hid ((HB.out.alloc HB.out.size (.cells #[] 34)).grown h2 (by have := HB.out.size; simp; omega) (fun k e => by simp [Value.ownBlock] at e; have := HB.out.size; omega)); clear h1 h2)
        have HT4 := Lib.hid (C.keep HT.out HO4.out (fun b hb hb2 => by have := C.lies HT.out b hb; simp at hb2; omega))
        obtain ⟨n8, hn8⟩ : ∃ n, n = L.length := ⟨_, rfl⟩
        rw [← hn8] at HT4
        clear HO HK HT HB HX HP hrg hn8 HO4 HLS
        go_loopw [9, 60] (fun v9 v60 wr => ∃ (k : Nat) (S : List Nat) (A : List S3), k ≤ hn ∧ v60 = .int .i64 k ∧ A.length ≤ m ∧ Hid (wr.ownsRow w.heap.size 34 3 v9 A.length (flatT A)) ∧ Hid (TS wr v n8 S A) ∧ Hid (∀ b ∈ S, w.heap.size ≤ b) ∧ Hid (∀ b, v9.ownBlock = some b → b ∉ S) ∧ Hid (Below w.heap.size w wr)) (fun _ i _ => hn - (intOf i).toNat)
        case atStart => exact ⟨0, S, L, Nat.zero_le _, rfl, by rw [HM.out]; exact Nat.le_refl _, Lib.hid (by have := HR4.out; rw [← HM.out]; simpa using this), HT4, HSS, HX4, HB4⟩
        case round =>
          clear HR4 HT4 HSS HX4 HB4
          obtain ⟨k, S, A, hk, rfl, hAm, HR, HT, HSS, HOW, HB⟩ := hrel
          by_cases hlt : k < hn
          · have hltz : (k : Int) < hn := by omega
            obtain ⟨s, hse⟩ : ∃ s, D[k]? = some s := ⟨_, List.getElem?_eq_getElem (by have := HHN.out; have := HDL.out; omega)⟩
            obtain ⟨b, off, rfl, h1⟩ := (HDD.out.keep HB.out).at hse
            have n0 := h1.c0
            have n1 := h1.c1
            have n2 := h1.c2
            have HWS := Lib.hid (HWD.out s (List.mem_of_getElem? hse))
            obtain ⟨W, hW⟩ : ∃ W, W = wr.alloc (.cells (tvs s).toArray 34) := ⟨_, rfl⟩
            have hWN := T1.new wr s 34
            rw [← hW] at hWN
            have hTW : TS W v n8 S A := by rw [hW]; exact C.keep HT.out ((Off.refl [] wr).all _) (by simp)
            have HLI := Lib.hid (C.lies HT.out)
            have hRW : W.ownsRow w.heap.size 34 3 u9 A.length (flatT A) := by rw [hW]; exact HR.out.alloc _
            obtain ⟨p', c', hv, hnn, hc', -⟩ := row_sp hRW
            have HBW := Lib.hid (show Below w.heap.size w W by rw [hW]; exact HB.out.alloc HB.out.size _)
            have hWs : W.heap.size = wr.heap.size + 1 := by rw [hW]; simp
            have HWs := Lib.hid hWs
            have m0 := hWN.c0
            have m1 := hWN.c1
            have m2 := hWN.c2
            simp only [Nat.zero_add] at m0 m1 m2
            have HRD := Lib.hid (RDropP W p' c' A s hnn (by omega))
            have HCD := Lib.hid (fun X (h : TS X v n8 S A) => C.drop s h HWS.out)
            obtain ⟨bb, hbb⟩ : ∃ bb, bb = decide (s ∈ A) := ⟨_, rfl⟩
            rw [← hbb] at HRD HCD
            obtain ⟨E, hE⟩ : ∃ E, E = drp A s := ⟨_, rfl⟩
            have hEl : E.length ≤ m := by rw [hE]; exact Nat.le_trans (drp_len _ _) hAm
            rw [← hE] at HRD HCD
            have HWN := Lib.hid hWN
            have HTW := Lib.hid hTW
            have HWL := Lib.hid hWN.lt
            obtain ⟨lo, hh, id⟩ := s
            unfold tvs at hW
            unfold tv at HRD HCD
            have HW := Lib.hid hW
            rw [hv]
            clear hW hWN hTW hRW hnn hWs hse h1 HR HT hbb hE hv
            simp only at n0 n1 n2 m0 m1 m2
            go_upto_region 13 with fail
            rw [← HW.out]
            clear HW n0 n1 n2
            go_wp2_with (first
              | (go_at_call 14; (with_reducible refine HRD.out.mono ?_); rintro e w5 ⟨v5, rfl, hr, hb⟩
                 have hn5 := HWN.out.keep hb HWL.out
                 have j0 := hn5.c0
                 have j1 := hn5.c1
                 have j2 := hn5.c2
                 simp only [Nat.zero_add] at j0 j1 j2
                 have HR5 := Lib.hid hr
                 have HT5 := Lib.hid (C.bel HTW.out hb)
                 have HB5 := Lib.hid (HBW.out.trans (hb.mono HBW.out.size))
                 clear hr hb hn5)
              | (go_at_call 15; (with_reducible refine (HCD.out _ HT5.out).mono ?_); rintro e w6 ⟨rfl, S6, hT, hO, hS6⟩
                 have HT6 := Lib.hid hT
                 have hown5 : ∀ b, v5.ownBlock = some b → b ∉ S := fun b e hb => by have := (HR5.out.lt b e).1; have := HLI.out b hb; have := HWs.out; omega
                 have hr6 := row_at (base' := w.heap.size) HR5.out (fun b e => ⟨hO.block b (HR5.out.lt b e).2 (hown5 b e), Nat.le_trans HBW.out.size (HR5.out.lt b e).1⟩)
                 have HR6 := Lib.hid hr6
                 have HB6 := Lib.hid (HB5.out.trans (hO.below (N := w.heap.size) HB5.out.size HSS.out))
                 have HSS6 := Lib.hid (show ∀ b ∈ S6, w.heap.size ≤ b from fun b hb => (hS6 b hb).elim (HSS.out b) (Nat.le_trans HB5.out.size))
                 have HOW6 := Lib.hid (show ∀ b, v5.ownBlock = some b → b ∉ S6 from fun b e hb => (hS6 b hb).elim (hown5 b e) (fun h => by have := (HR5.out.lt b e).2; omega))
                 obtain ⟨p6, c6, hv6, hn6, -, -⟩ := row_sp hr6
                 subst hv6
                 have HN6 := Lib.hid hn6
                 clear hT hO hS6 hown5 hr6 hn6)
              | (go_at_call 13; (with_reducible refine (HAS.out _ v n8 S6 E p6 c6 HB6.out HT6.out HN6.out).mono ?_); rintro e w7 ⟨rfl, hb⟩
                 have HT7 := Lib.hid (C.bel HT6.out hb)
                 have HR7 := Lib.hid (row_at (base' := w.heap.size) HR6.out (fun b e => ⟨hb.block b (HR6.out.lt b e).2, (HR6.out.lt b e).1⟩))
                 have HB7 := Lib.hid (HB6.out.trans (hb.mono HB6.out.size))
                 clear hb))
            go_roundw
            case rel => exact ⟨k + 1, S6, E, by omega, by go_num, hEl, HR7, HT7, HSS6, HOW6, HB7⟩
            case measure => simp [intOf]; omega
          · have hltz : ¬ (k : Int) < hn := by omega
            go_wp2_with (go_at_call 9; (with_reducible refine (HAW.out _).mono ?_); rintro e w9 ⟨rfl, hb⟩; have HB := Lib.hid (HB.out.trans (hb.mono HB.out.size)); clear hb)
            go_ret
            exact ⟨rfl, HB.out⟩
      · rw [decide_eq_false hrg] at HRR
        have HLE : Hid (∀ X v n S, TS X v n S [] → Calls Tryz.prog 12 #[v] X fun e X' => e = .returned (.int .i64 0) ∧ Below X.heap.size X X') := Lib.hid (fun X v n S h => C.len h)
        go_wp2_with (first
          | (go_at_call 10; (with_reducible refine (HBU.out _ HB0.out).mono ?_); rintro e w1 ⟨hb, hor⟩; rcases hor with ⟨hn', -⟩ | ⟨-, v, S, rfl, hT, hS⟩; (exact absurd hn' hrg); have HT := Lib.hid hT; have HB := Lib.hid (HB0.out.trans hb); clear hb hT hS)
          | (go_at_call 11; (with_reducible refine (HRR.out _ HB.out).mono ?_); rintro e w2 ⟨rfl, hb⟩; have HT := Lib.hid (C.bel HT.out hb); have HB := Lib.hid (HB.out.trans (hb.mono HB.out.size)); clear hb)
          | (go_at_call 12; (with_reducible refine (HLE.out _ _ _ _ HT.out).mono ?_); rintro e w3 ⟨rfl, hb⟩; have HT := Lib.hid (C.bel HT.out hb); have HB := Lib.hid (HB.out.trans (hb.mono HB.out.size)); clear hb)
          | (go_at_call 9; (with_reducible refine (HAW.out _).mono ?_); rintro e w9 ⟨rfl, hb⟩; have HB := Lib.hid (HB.out.trans (hb.mono HB.out.size)); clear hb))
        go_ret
        exact ⟨rfl, HB.out⟩)
  · have hbz : (60 : Int) < L.length := by omega
    clear hx hxs hc hw hD hp
    generalize L.length = m at *
    go_enter Tryz.func3, Tryz.ntmps3
    go_wp2_with (go_at_call 9; (with_reducible refine (HAW.out _).mono ?_); rintro e w9 ⟨rfl, hb⟩; have HB := Lib.hid hb; clear hb)
    go_ret
    exact ⟨rfl, HB.out⟩
end Go.Proofs.YtldmajifkmcdcaaGreat.Lw
