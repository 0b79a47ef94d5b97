/-
  The document's Canon. No condition but those typed at each theorem.
-/
import Derived.Test.YtmkmkndcndpfeaaRe
import Derived.Test.YtmkmkndcndpfeaaRp
namespace Go.Proofs.Ytmkmkndcndpfeaa
open Go.RowKit

/-- what has been told, when so many places have been looked at -/
def cur (pre : List Nat) (ko : Option Nat) (i : Nat) : List Nat := pre ++ (match ko with | some k => if k < i then [k] else [] | none => [])
theorem cur_yes {pre : List Nat} {i : Nat} : cur pre (some i) (i + 1) = cur pre (some i) i ++ [i] := by simp [cur]
theorem cur_no {pre : List Nat} {ko : Option Nat} {i : Nat} (h : ko ≠ some i) : cur pre ko (i + 1) = cur pre ko i := by
  unfold cur
  cases ko with
  | none => rfl
  | some k =>
    have : k ≠ i := fun e => h (by rw [e])
    by_cases h2 : k < i
    · simp [h2, show k < i + 1 by omega]
    · simp [h2, show ¬ k < i + 1 by omega]
theorem cur_zero (pre : List Nat) (ko : Option Nat) : cur pre ko 0 = pre := by
  unfold cur
  cases ko <;> simp
theorem cur_len (pre : List Nat) (ko : Option Nat) (i : Nat) : (cur pre ko i).length ≤ pre.length + 1 := by
  unfold cur
  cases ko with
  | none => simp
  | some k => by_cases h : k < i <;> simp [h]
/-- the next one that begins with this leaf, if there is one -/
theorem Ch.nf_ge {L : List Nd} : ∀ {ks : List Nat} {s e : Nat}, Ch L s ks e → ∀ k ∈ ks, ∀ a, L[k]? = some a → (s : Int) ≤ nf a
  | k :: ks, s, e, ⟨n, h1, h2, s2, h3, h4, h5⟩, j, hj, a, ha => by
    rcases List.mem_cons.1 hj with rfl | hj
    · rw [h1] at ha
      cases ha
      omega
    · have := h5.nf_ge j hj a ha
      omega
/-- all but those that are told begin at e or behind; those that are told ahead of the leaf -/
def St (L : List Nd) (C : List Nat) (y lf : Nat) (pre : List Nat) : Prop := ∃ post e, C = pre ++ post ∧ Ch L e post y ∧ lf ≤ e ∧ ∀ k ∈ pre, ∀ a, L[k]? = some a → nf a < lf
theorem St.next {L : List Nd} {C : List Nat} {y lf : Nat} {pre : List Nat} (h : St L C y lf pre) (hlt : lf < y) :
    ∃ ko : Option Nat, (∀ (i : Nat) (a : Nd), L[i]? = some a → (ko = some i ↔ i ∈ C ∧ nf a = lf)) ∧ St L C y (lf + 1) (cur pre ko L.length) := by
  obtain ⟨post, e, h1, h2, h3, h4⟩ := h
  by_cases he : lf = e
  · cases post with
    | nil =>
      have : e = y := h2
      omega
    | cons k0 tl =>
      obtain ⟨n, g1, g2, s2, g3, g4, g5⟩ := h2
      have hk0 := (List.getElem?_eq_some_iff.1 g1).1
      refine ⟨some k0, fun i a ha => ?_, tl, s2, ?_, g5, by omega, fun k hk a ha => ?_⟩
      · constructor
        · intro hi
          cases hi
          rw [g1] at ha
          cases ha
          exact ⟨by rw [h1]; simp, by omega⟩
        · rintro ⟨q1, q2⟩
          rw [h1] at q1
          rcases List.mem_append.1 q1 with q | q
          · have := h4 i q a ha
            omega
          · rcases List.mem_cons.1 q with q | q
            · rw [q]
            · have := g5.nf_ge i q a ha
              omega
      · rw [h1]
        simp [cur, hk0]
      · simp only [cur, hk0, if_true] at hk
        rcases List.mem_append.1 hk with q | q
        · have := h4 k q a ha
          omega
        · simp at q
          subst q
          rw [g1] at ha
          cases ha
          omega
  · refine ⟨none, fun i a ha => ?_, post, e, ?_, h2, by omega, fun k hk a ha => ?_⟩
    · constructor
      · intro hi
        cases hi
      · rintro ⟨q1, q2⟩
        rw [h1] at q1
        rcases List.mem_append.1 q1 with q | q
        · have := h4 i q a ha
          omega
        · have := h2.nf_ge i q a ha
          omega
    · simpa [cur] using h1
    · simp [cur] at hk
      have := h4 k hk a ha
      omega
theorem St.last {L : List Nd} {C : List Nat} {y : Nat} {pre : List Nat} (h : St L C y y pre) : C = pre := by
  obtain ⟨post, e, h1, h2, h3, -⟩ := h
  cases post with
  | nil => simpa using h1
  | cons k tl =>
    obtain ⟨n, g1, g2, s2, g3, g4, g5⟩ := h2
    have := g5.le
    omega

set_option maxRecDepth 100000 in
set_option maxHeartbeats 6400000 in
theorem RCanon (w : World) (p : Option Addr) (c n x y : Nat) (hx : NdS w p (ndN n)) (hxy : x ≤ y) (hy : y ≤ n) (hn : n ≤ 150) :
    Calls Try.prog 13 #[.slice p (ndN n).length c, .int .i64 x, .int .i64 y] w fun e w' => ∃ v, e = .returned (.tuple #[v, .int .i64 ((cnF n x y).2 : Nat)]) ∧ w'.ownsRow w.heap.size 3 1 v (cnF n x y).1.length ((ints (cnF n x y).1).map (Value.int .i64)) ∧ Below w.heap.size w w' := by
  by_cases hxe : x = y
  · subst hxe
    have e0 : cnF n x x = ([], 0) := by unfold cnF; rw [if_pos rfl]
    rw [e0]
    clear hx
    go_enter Try.func13, Try.ntmps13
    go_wp2
    go_ret2
    exact ⟨_, rfl, World.ownsRow_nil _ _ _ _, Below.refl _ _⟩
  · have hxz : ((x : Int) == y) = false := by simp; omega
    have hxy2 : x < y := by omega
    have hlen := ndN_len n
    have hen := fun (X : World) (hX : Below w.heap.size w X) => REntered x y c (ndN n) (tr n) 0 0 X p (SG.all n (by omega)) (hx.keep hX) (by unfold sz; rw [lv_tr (by omega)]; omega)
    have e1 : rt 0 (tr n) = 2 * n - 2 := by unfold rt; rw [lv_tr (by omega)]; omega
    have e2 : (cn x y (tr n) 0 0).2 = (cnF n x y).2 := by unfold cnF; rw [if_neg hxe]
    rw [e1, e2] at hen
    have hpar := fun (X : World) (hX : Below w.heap.size w X) (k : Int) => RParent X p c (ndN n) k (hx.keep hX) (by omega)
    have hst : St (ndN n) (cnF n x y).1 y x [] := ⟨(cnF n x y).1, x, rfl, cnF_chain hxy hy, Nat.le_refl _, by simp⟩
    have hnext := fun lf pre (h : St (ndN n) (cnF n x y).1 y lf pre) (hl : lf < y) => h.next hl
    have hiff := fun k a (e : (ndN n)[k]? = some a) => cnF_iff (k := k) (a := a) hxy2 hy e
    have hCl : (cnF n x y).1.length ≤ 150 := by
      unfold cnF
      rw [if_neg hxe]
      have := (cn_len x y (tr n) 0 0).1
      rw [lv_tr (by omega)] at this
      omega
    obtain ⟨L, hL⟩ : ∃ L, L = ndN n := ⟨_, rfl⟩
    obtain ⟨C, hC⟩ : ∃ C, C = (cnF n x y).1 := ⟨_, rfl⟩
    obtain ⟨E, hE⟩ : ∃ E, E = (cnF n x y).2 := ⟨_, rfl⟩
    rw [← hL] at hx hlen hst
    simp only [← hL, ← hC, ← hE] at hen hpar hst hnext hiff hCl ⊢
    obtain ⟨z, hz⟩ : ∃ z, z = L.length := ⟨_, rfl⟩
    obtain ⟨r, hr⟩ : ∃ r, r = 2 * n - 2 := ⟨_, rfl⟩
    rw [← hz] at hlen
    simp only [← hz, ← hr] at hen hpar hnext ⊢
    have hzr : (z : Int) - 1 = r := by omega
    have hzb : (z : Int) ≤ 300 := by omega
    have HEN := Lib.hid hen
    have HPAR := Lib.hid hpar
    have HNX := Lib.hid hnext
    have HIFF := Lib.hid hiff
    have HX := Lib.hid hx
    have HZ := Lib.hid hz
    have HST := Lib.hid hst
    have HZZ := Lib.hid hlen
    have hyb : (y : Int) ≤ 150 := by omega
    clear hen hpar hnext hiff hx hz hst hlen hr e1 e2 hL hC hE hxe
    go_enter Try.func13, Try.ntmps13
    go_upto_region 5 with fail
    go_loopw [8, 9] (fun v s wr => ∃ (lf : Nat) (pre : List Nat), lf ≤ y ∧ x ≤ lf ∧ s = .int .i64 lf ∧ pre.length ≤ 150 ∧ Hid (St L C y lf pre) ∧ Hid (wr.ownsRow w.heap.size 3 1 v pre.length ((ints pre).map (Value.int .i64))) ∧ Hid (Below w.heap.size w wr)) (fun _ s _ => y - (intOf s).toNat)
    case atStart => exact ⟨x, [], hxy, Nat.le_refl _, rfl, by simp, HST, Lib.hid (World.ownsRow_nil _ _ _ _), Lib.hid (Below.refl _ _)⟩
    case round =>
      clear HST
      rename_i v s
      obtain ⟨lf, pre, hlf, hxl, rfl, hpre, HS, HR, HB⟩ := hrel
      by_cases hlt : lf < y
      · have hltz : (lf : Int) < y := by omega
        obtain ⟨ko, hko, hst2⟩ := HNX.out lf pre HS.out hlt
        have HKO := Lib.hid hko
        have HS2 := Lib.hid hst2
        clear hko hst2 HS HNX HEN
        go_upto_region 8 with fail
        go_loopw [8, 10] (fun v s wr2 => ∃ i : Nat, i ≤ z ∧ s = .int .i64 i ∧ Hid (wr2.ownsRow w.heap.size 3 1 v (cur pre ko i).length ((ints (cur pre ko i)).map (Value.int .i64))) ∧ Hid (Below w.heap.size w wr2)) (fun _ s _ => z - (intOf s).toNat)
        case atStart => exact ⟨0, Nat.zero_le _, rfl, by rw [cur_zero]; exact HR, HB⟩
        case round =>
          clear HR HB
          rename_i v s
          obtain ⟨i, hi, rfl, HR, HB⟩ := hrel
          by_cases hlt2 : i < z
          · have hltz2 : (i : Int) < z := by omega
            obtain ⟨a, ha⟩ : ∃ a, L[i]? = some a := ⟨_, List.getElem?_eq_getElem (by have := HZ.out; omega)⟩
            obtain ⟨b, off, rfl, h1⟩ := HX.out.at ha
            have h2 := h1.keep HB.out h1.lt
            have n0 := h2.c0
            have n1 := h2.c1
            have n2 := h2.c2
            have n3 := h2.c3
            have n4 := h2.c4
            have n5 := h2.c5
            have n6 := h2.c6
            have hP := HPAR.out wr HB.out i
            have hiff := HIFF.out i a ha
            have hko := HKO.out i a ha
            have HWA := Lib.hid (fun X => RWithin X a x y)
            have hpc := par_cases L i
            obtain ⟨pz, hpz⟩ : ∃ pz, pz = parZ L i := ⟨_, rfl⟩
            simp only [← hpz] at hP hiff hpc
            have HP := Lib.hid hP
            clear h1 h2 hP hpz
            by_cases hnf : nf a = lf
            · have hna : a.2.2.2.1 = (lf : Int) := hnf
              cases hin : inB a x y with
              | false =>
                have HNO := Lib.hid (cur_no (pre := pre) (ko := ko) (i := i) (fun e => by have := (hko.1 e).1; rw [hiff, hin] at this; cases this.1))
                rw [hin] at HWA
                clear hiff hko hin hpc hnf ha
                obtain ⟨kk, l, r', f, t, aa, q⟩ := a
                simp only at n0 n1 n2 n3 n4 n5 n6 hna
                subst hna
                unfold nv at HWA
                dsimp only at HWA
                go_wp2_with (first
                  | (go_at_call 33; (with_reducible refine HP.out.mono ?_); rintro e wL ⟨rfl, hL⟩; subst hL)
                  | (go_at_call 34; (with_reducible refine (HWA.out _).mono ?_); rintro e w3 ⟨rfl, hb⟩; have HR := Lib.hid (row_keep HR.out hb); have HB := Lib.hid (HB.out.trans (hb.mono HB.out.size)); clear hb))
                go_roundw
                case rel => exact ⟨i + 1, by omega, by go_num, Lib.hid (by rw [HNO.out]; exact HR.out), HB⟩
                case measure => simp [intOf]; omega
              | true =>
                rw [hin] at HWA
                rcases hpc with ⟨rfl, -⟩ | ⟨pq, m, rfl, hm, -⟩
                · have HYES : Hid (cur pre ko (i + 1) = cur pre ko i ++ [i]) := Lib.hid (by
                    have : ko = some i := hko.2 ⟨hiff.2 ⟨hin, .inl rfl⟩, hnf⟩
                    rw [this]
                    exact cur_yes)
                  clear hiff hko hin hnf ha
                  obtain ⟨kk, l, r', f, t, aa, q⟩ := a
                  simp only at n0 n1 n2 n3 n4 n5 n6 hna
                  subst hna
                  unfold nv at HWA
                  dsimp only at HWA
                  go_upto_region 12 with (first
                    | (go_at_call 33; (with_reducible refine HP.out.mono ?_); rintro e wL ⟨rfl, hL⟩; subst hL)
                    | (go_at_call 34; (with_reducible refine (HWA.out _).mono ?_); rintro e w3 ⟨rfl, hb⟩; have HR := Lib.hid (row_keep HR.out hb); have HB := Lib.hid (HB.out.trans (hb.mono HB.out.size)); clear hb))
                  have HA := Lib.hid (HR.out.alloc (.cells #[.int .i64 (i : Int)] 3))
                  go_wp2_with (at_builtin; refine wpList_list Try.info3 rfl (by decide) (by decide) Try.underlying29 _ rfl (.tmp 60) (.tmp 62) rfl w.heap.size _ _ _ rfl HA.out (some ⟨_, 0, none⟩) 1 1 [.int .i64 (i : Int)] rfl rfl (.inr ⟨_, rfl, one_at _ _ _⟩) (by simp [Value.oneCell']) (by have := cur_len pre ko i; omega) (by have := HB.out.size; simp; omega) ?_; intro v' w' h1 h2 _; have H1 := Lib.hid h1; have H2 := Lib.hid h2; clear h1 h2)
                  go_roundw
                  case rel =>
                    refine ⟨i + 1, by omega, by go_num, Lib.hid ?_, Lib.hid ?_⟩
                    · rw [HYES.out, ints_snoc, List.map_append, List.length_append]
                      exact H1.out
                    · exact (HB.out.alloc HB.out.size (.cells #[.int .i64 (i : Int)] 3)).grown H2.out (by have := HB.out.size; simp; omega) (fun q hq => (HR.out.lt q hq).1)
                  case measure => simp [intOf]; omega
                · have hpz : (pq : Int) < z := by have := (List.getElem?_eq_some_iff.1 hm).1; have := HZ.out; omega
                  have hp0 : ¬ (pq : Int) < 0 := by omega
                  obtain ⟨b2, off2, e2, h3⟩ := HX.out.at hm
                  cases e2
                  have HM := Lib.hid (h3.keep HB.out h3.lt)
                  have HWM := Lib.hid (fun X => RWithin X m x y)
                  cases him : inB m x y with
                  | true =>
                    have HNO := Lib.hid (cur_no (pre := pre) (ko := ko) (i := i) (fun e => by
                      have := (hko.1 e).1
                      rw [hiff] at this
                      rcases this.2 with h | ⟨p3, m3, h, h5, h6⟩
                      · omega
                      · obtain rfl : p3 = pq := by omega
                        rw [hm] at h5
                        cases h5
                        rw [him] at h6
                        cases h6))
                    rw [him] at HWM
                    clear hiff hko hin hnf ha him hm h3
                    obtain ⟨kk, l, r', f, t, aa, q⟩ := a
                    obtain ⟨kk2, l2, r2, f2, t2, aa2, q2⟩ := m
                    simp only at n0 n1 n2 n3 n4 n5 n6 hna
                    subst hna
                    unfold nv at HWA HWM
                    dsimp only at HWA HWM
                    go_wp2_with (first
                      | (go_at_call 33; (with_reducible refine HP.out.mono ?_); rintro e wL ⟨rfl, hL⟩; subst hL)
                      | (go_at_call 34; (with_reducible refine (HWA.out _).mono ?_); rintro e w3 ⟨rfl, hb⟩; have hk := HM.out.keep hb HM.out.lt; have m0 := hk.c0; have m1 := hk.c1; have m2 := hk.c2; have m3 := hk.c3; have m4 := hk.c4; have m5 := hk.c5; have m6 := hk.c6; simp only at m0 m1 m2 m3 m4 m5 m6; have HR := Lib.hid (row_keep HR.out hb); have HB := Lib.hid (HB.out.trans (hb.mono HB.out.size)); clear hb hk)
                      | (go_at_call 34; (with_reducible refine (HWM.out _).mono ?_); rintro e w4 ⟨rfl, hb⟩; have HR := Lib.hid (row_keep HR.out hb); have HB := Lib.hid (HB.out.trans (hb.mono HB.out.size)); clear hb))
                    go_roundw
                    case rel => exact ⟨i + 1, by omega, by go_num, Lib.hid (by rw [HNO.out]; exact HR.out), HB⟩
                    case measure => simp [intOf]; omega
                  | false =>
                    have HYES : Hid (cur pre ko (i + 1) = cur pre ko i ++ [i]) := Lib.hid (by
                      have : ko = some i := hko.2 ⟨hiff.2 ⟨hin, .inr ⟨pq, m, rfl, hm, him⟩⟩, hnf⟩
                      rw [this]
                      exact cur_yes)
                    rw [him] at HWM
                    clear hiff hko hin hnf ha him hm h3
                    obtain ⟨kk, l, r', f, t, aa, q⟩ := a
                    obtain ⟨kk2, l2, r2, f2, t2, aa2, q2⟩ := m
                    simp only at n0 n1 n2 n3 n4 n5 n6 hna
                    subst hna
                    unfold nv at HWA HWM
                    dsimp only at HWA HWM
                    go_upto_region 12 with (first
                      | (go_at_call 33; (with_reducible refine HP.out.mono ?_); rintro e wL ⟨rfl, hL⟩; subst hL)
                      | (go_at_call 34; (with_reducible refine (HWA.out _).mono ?_); rintro e w3 ⟨rfl, hb⟩; have hk := HM.out.keep hb HM.out.lt; have m0 := hk.c0; have m1 := hk.c1; have m2 := hk.c2; have m3 := hk.c3; have m4 := hk.c4; have m5 := hk.c5; have m6 := hk.c6; simp only at m0 m1 m2 m3 m4 m5 m6; have HR := Lib.hid (row_keep HR.out hb); have HB := Lib.hid (HB.out.trans (hb.mono HB.out.size)); clear hb hk)
                      | (go_at_call 34; (with_reducible refine (HWM.out _).mono ?_); rintro e w4 ⟨rfl, hb⟩; have HR := Lib.hid (row_keep HR.out hb); have HB := Lib.hid (HB.out.trans (hb.mono HB.out.size)); clear hb))
                    have HA := Lib.hid (HR.out.alloc (.cells #[.int .i64 (i : Int)] 3))
                    go_wp2_with (at_builtin; refine wpList_list Try.info3 rfl (by decide) (by decide) Try.underlying29 _ rfl (.tmp 60) (.tmp 62) rfl w.heap.size _ _ _ rfl HA.out (some ⟨_, 0, none⟩) 1 1 [.int .i64 (i : Int)] rfl rfl (.inr ⟨_, rfl, one_at _ _ _⟩) (by simp [Value.oneCell']) (by have := cur_len pre ko i; omega) (by have := HB.out.size; simp; omega) ?_; intro v' w' h1 h2 _; have H1 := Lib.hid h1; have H2 := Lib.hid h2; clear h1 h2)
                    go_roundw
                    case rel =>
                      refine ⟨i + 1, by omega, by go_num, Lib.hid ?_, Lib.hid ?_⟩
                      · rw [HYES.out, ints_snoc, List.map_append, List.length_append]
                        exact H1.out
                      · exact (HB.out.alloc HB.out.size (.cells #[.int .i64 (i : Int)] 3)).grown H2.out (by have := HB.out.size; simp; omega) (fun q hq => (HR.out.lt q hq).1)
                    case measure => simp [intOf]; omega
            · have hna : ((a.2.2.2.1) == (lf : Int)) = false := by have h5 : ¬ a.2.2.2.1 = (lf : Int) := hnf; simpa using h5
              have HNO := Lib.hid (cur_no (pre := pre) (ko := ko) (i := i) (fun e => hnf (hko.1 e).2))
              clear hiff hko hpc hnf ha
              go_wp2_with (go_at_call 33; (with_reducible refine HP.out.mono ?_); rintro e wL ⟨rfl, hL⟩; subst hL)
              go_roundw
              case rel => exact ⟨i + 1, by omega, by go_num, Lib.hid (by rw [HNO.out]; exact HR.out), HB⟩
              case measure => simp [intOf]; omega
          · have hltz2 : ¬ (i : Int) < z := by omega
            obtain rfl : i = z := by omega
            have hcl := cur_len pre ko i
            have hcl2 : (cur pre ko i).length ≤ 150 := by
              obtain ⟨post, e, h1, -⟩ := HS2.out
              have := congrArg List.length h1
              rw [List.length_append] at this
              omega
            go_wp2
            go_roundw
            case rel => exact ⟨lf + 1, cur pre ko i, by omega, by omega, by go_num, hcl2, HS2, HR, HB⟩
            case measure => simp [intOf]; omega
      · have hltz : ¬ (lf : Int) < y := by omega
        obtain rfl : lf = y := by omega
        have hCp := HS.out.last
        have HC := Lib.hid hCp
        clear hCp HS HNX HPAR
        go_wp2_with (go_at_call 35; (with_reducible refine (HEN.out _ HB.out).mono ?_); rintro e w3 ⟨rfl, hb⟩; have HR := Lib.hid (row_keep HR.out hb); have HB := Lib.hid (HB.out.trans (hb.mono HB.out.size)); clear hb)
        go_ret2
        exact ⟨_, rfl, by rw [HC.out]; exact HR.out, HB.out⟩
end Go.Proofs.Ytmkmkndcndpfeaa
