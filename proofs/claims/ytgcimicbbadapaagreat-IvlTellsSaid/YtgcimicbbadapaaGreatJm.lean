/-
  The document's Meet of layer 9. No condition but those typed at each theorem.
-/
import Derived.Test.YtgcimicbbadapaaGreatIx
import Derived.Test.YtgcimicbbadapaaGreatSref9
namespace Go.Proofs.YtgcimicbbadapaaGreat.Iv
open Go.RowKit

theorem mtL_snoc {L : List S3} {k : Nat} {s : S3} (e : L[k]? = some s) (lo hi : Int) : mtL (L.take (k + 1)) lo hi = mtL (L.take k) lo hi ++ if lo ≤ hi ∧ s.1 ≤ hi ∧ lo ≤ s.2.1 then [s.2.2] else [] := by
  unfold mtL
  by_cases h : lo ≤ hi
  · rw [if_pos h, if_pos h, List.take_add_one, e, List.filter_append, List.map_append]
    congr 1
    by_cases h2 : s.1 ≤ hi ∧ lo ≤ s.2.1
    · rw [if_pos ⟨h, h2⟩]; simp [mtB, h2]
    · rw [if_neg (fun g => h2 g.2)]
      by_cases h3 : s.1 ≤ hi
      · have h4 : ¬ lo ≤ s.2.1 := fun g => h2 ⟨h3, g⟩
        simp [mtB, h3, h4]
      · simp [mtB, h3]
  · rw [if_neg h, if_neg h, if_neg (fun g => h g.1)]; rfl
theorem mtL_few (L : List S3) (lo hi : Int) : (mtL L lo hi).length ≤ L.length := by
  have := mtS_len L lo hi
  unfold mtS at this
  rwa [nsort_len] at this

set_option maxRecDepth 100000 in
set_option maxHeartbeats 6400000 in
theorem RMeet (w : World) (p : Option Addr) (c : Nat) (L : List S3) (lo hi : Int) (hx : TsS w p L) (hl : L.length ≤ 8192) :
    Calls Tryz.prog 27 #[.slice p L.length c, .int .i64 lo, .int .i64 hi] w fun e w' => ∃ v, e = .returned v ∧ w'.ownsRow w.heap.size 32 1 v (mtS L lo hi).length ((mtS L lo hi).map (Value.int .u32)) ∧ Below w.heap.size w w' := by
  have HX := Lib.hid hx
  obtain ⟨d, hd⟩ : ∃ d, d = L.length := ⟨_, rfl⟩
  have HD := Lib.hid hd
  rw [← hd] at hl ⊢
  clear hd hx
  go_enter Tryz.func27, Tryz.ntmps27
  go_wp2
  go_loopw [7, 8] (fun v7 v8 wr => ∃ k m : Nat, k ≤ d ∧ m ≤ k ∧ v8 = .int .i64 k ∧ (∃ q cq, v7 = .slice q m cq) ∧ Hid (m = (mtL (L.take k) lo hi).length) ∧ Hid (wr.ownsRow w.heap.size 32 1 v7 m ((nsort (mtL (L.take k) lo hi)).map (Value.int .u32))) ∧ Hid (Below w.heap.size w wr)) (fun _ v _ => d - (intOf v).toNat)
  case atStart =>
    have e0 : mtL (L.take 0) lo hi = [] := by unfold mtL; split <;> simp
    exact ⟨0, 0, Nat.zero_le _, Nat.le_refl _, rfl, ⟨none, 0, rfl⟩, Lib.hid (by rw [e0]; rfl), Lib.hid (by rw [e0]; exact World.ownsRow_nil _ _ _ _), Lib.hid (Below.refl _ _)⟩
  case round =>
    obtain ⟨k, m, hk, hmk, rfl, ⟨q, cq, rfl⟩, HML, HR, HB⟩ := hrel
    by_cases hlt : k < d
    · have hltz : (k : Int) < d := by omega
      obtain ⟨s, hse⟩ : ∃ s, L[k]? = some s := ⟨_, List.getElem?_eq_getElem (by have := HD.out; omega)⟩
      obtain ⟨b, off, rfl, hts⟩ := HX.out.at hse
      have hblt := hts.lt
      have htr := hts.keep HB.out hblt
      have n0 := htr.c0
      have n1 := htr.c1
      have n2 := htr.c2
      have HTS := Lib.hid hts
      have HSN := Lib.hid (mtL_snoc hse lo hi)
      obtain ⟨sl, sh, x⟩ := s
      simp only at n0 n1 n2 HSN
      clear hse hts htr
      by_cases u1 : hi < lo
      · have u1' : ¬ lo ≤ hi := by omega
        go_wp2
        go_roundw
        case rel => exact ⟨k + 1, m, by omega, by omega, by go_num, ⟨_, _, rfl⟩, Lib.hid (by rw [HSN.out, if_neg (fun g => u1' g.1), List.append_nil]; exact HML.out), Lib.hid (by rw [HSN.out, if_neg (fun g => u1' g.1), List.append_nil]; exact HR.out), HB⟩
        case measure => simp [intOf]; omega
      by_cases u2 : sh < lo
      · have u2' : ¬ lo ≤ sh := by omega
        go_wp2
        go_roundw
        case rel => exact ⟨k + 1, m, by omega, by omega, by go_num, ⟨_, _, rfl⟩, Lib.hid (by rw [HSN.out, if_neg (fun g => u2' g.2.2), List.append_nil]; exact HML.out), Lib.hid (by rw [HSN.out, if_neg (fun g => u2' g.2.2), List.append_nil]; exact HR.out), HB⟩
        case measure => simp [intOf]; omega
      by_cases u3 : hi < sl
      · have u3' : ¬ sl ≤ hi := by omega
        go_wp2
        go_roundw
        case rel => exact ⟨k + 1, m, by omega, by omega, by go_num, ⟨_, _, rfl⟩, Lib.hid (by rw [HSN.out, if_neg (fun g => u3' g.2.1), List.append_nil]; exact HML.out), Lib.hid (by rw [HSN.out, if_neg (fun g => u3' g.2.1), List.append_nil]; exact HR.out), HB⟩
        case measure => simp [intOf]; omega
      have hsn := HSN.out
      rw [if_pos ⟨by omega, by omega, by omega⟩] at hsn
      obtain ⟨M, hM⟩ : ∃ M, M = mtL (L.take k) lo hi := ⟨_, rfl⟩
      obtain ⟨M2, hM2⟩ : ∃ M2, M2 = mtL (L.take (k + 1)) lo hi := ⟨_, rfl⟩
      rw [← hM, ← hM2] at hsn
      rw [← hM] at HML HR
      have HM2 := Lib.hid hM2
      obtain ⟨S, hS⟩ : ∃ S, S = nsort M := ⟨_, rfl⟩
      have HSL := Lib.hid (show S.length = m by rw [hS, nsort_len, HML.out])
      have HST := Lib.hid (show nsort M2 = insI x S by rw [hsn, hS]; exact nsort_snoc _ _)
      have HSP := Lib.hid (show S.Pairwise (· ≤ ·) by rw [hS]; exact nsort_sorted _)
      have HMM := Lib.hid (show m + 1 = M2.length by rw [hsn, List.length_append, HML.out]; rfl)
      rw [← hS] at HR
      have HBL := Lib.hid hblt
      have hk8 : m ≤ 8192 := by omega
      clear hS hsn hM hM2 HML HSN hblt
      go_wp2_with (at_builtin; refine wpList_more Tryz.info32 rfl (by decide) (by decide) Tryz.underlying41 _ rfl (.tmp 39) (.tmp 45) rfl (.slice q m cq) m (S.map (Value.int .u32)) rfl (row_at (base' := 0) (World.ownsRow.alloc HR.out _) (fun _ _ => ⟨rfl, Nat.zero_le _⟩)) ⟨wr.heap.size, 0, none⟩ 1 1 [.int .u32 x] rfl rfl (one_at _ _ _) (by simp [Value.oneCell']) (by omega) (by decide) ?_; intro g1 c1 w1 h1 h2 h3; have H1 := Lib.hid h1; have HB1 := Lib.hid ((HB.out.alloc HB.out.size (.cells #[.int .u32 x] 32)).grown h2 (by have := HB.out.size; simp; omega) (fun k e => (HR.out.lt k e).1)); have HG1 := Lib.hid (show w.heap.size ≤ g1 from h3.elim (fun e => (HR.out.lt _ e).1) (fun e => by have := HB.out.size; simp at e; omega)); clear h1 h2 h3)
      have hrb : RB .u32 32 w1 g1 c1 (hole S m x) := by
        have h := H1.out
        rw [show S.map (Value.int .u32) ++ [Value.int .u32 x] = (S ++ [x]).map (Value.int .u32) by simp] at h
        obtain ⟨g2, c2, e, -, h5⟩ := rb_of h (by omega)
        cases e
        have := hole_end S x
        rw [HSL.out] at this
        rw [this]
        exact h5
      have HRB := Lib.hid hrb
      have hgb : g1 ≠ b := by have := HG1.out; have := HBL.out; omega
      clear hrb HR HB n0 n1 n2 H1
      go_loopw [9] (fun v9 wz => ∃ (a : Nat) (z : Int), a ≤ m ∧ v9 = .int .i64 a ∧ Hid (RB .u32 32 wz g1 c1 (hole S a z)) ∧ Hid (∀ y ∈ S.drop a, x < y) ∧ Hid (Below w.heap.size w wz)) (fun v9 _ => (intOf v9).toNat)
      case atStart => exact ⟨m, x, Nat.le_refl _, rfl, HRB, Lib.hid (by rw [List.drop_of_length_le (by have := HSL.out; omega)]; simp), HB1⟩
      case round =>
        clear HRB HB1
        obtain ⟨a, z, ha, rfl, HRB, HY, HB⟩ := hrel
        have cx := (HTS.out.keep HB.out HBL.out).c2
        simp only at cx
        have hhl := hole_len (S := S) (a := a) (z := z) (by have := HSL.out; omega)
        cases a with
        | zero =>
          have hz0 : ¬ (0 : Int) < ((0 : Nat) : Int) := by omega
          have fg := HRB.out.free 0
          have cg := HRB.out.cell (hole_at (S := S) (a := 0) (z := z) (by omega))
          have HRS := Lib.hid ((HRB.out.set 0 x).eq (hole_set (by omega)))
          have HFIN := Lib.hid (show hole S 0 x = nsort M2 by
            rw [HST.out]
            exact (insI_take x S 0 (Nat.zero_le _) (by simp) HY.out).symm)
          have HBS := Lib.hid (HB.out.setCell (show w.heap.size ≤ (⟨g1, 0, none⟩ : Addr).block from HG1.out) (.int .u32 x))
          clear HY HRB HB HST hhl
          go_upto_region 8 with fail
          go_quiet (fail)
          go_wp2
          go_roundw
          case rel => exact ⟨k + 1, m + 1, by omega, by omega, by go_num, ⟨_, _, rfl⟩, Lib.hid (by rw [← HM2.out]; exact HMM.out), Lib.hid (by rw [← HM2.out, ← HFIN.out]; have := (HRS.out).own (base := w.heap.size) (n := m + 1) HG1.out (by rw [hole_len (by omega), HSL.out]); exact this), Lib.hid (drewB HBS.out)⟩
          case measure => simp [intOf]; omega
        | succ a =>
          obtain ⟨y, hye⟩ : ∃ y, S[a]? = some y := ⟨_, List.getElem?_eq_getElem (by have := HSL.out; omega)⟩
          have hz0 : (0 : Int) < (a : Int) + 1 := by omega
          have cy := HRB.out.cell (i := a) (x := y) (by rw [hole_below (by omega) (by have := HSL.out; omega)]; exact hye)
          have fg := HRB.out.free (a + 1)
          have cg := HRB.out.cell (hole_at (S := S) (a := a + 1) (z := z) (by have := HSL.out; omega))
          have ha8 : a + 1 ≤ m := ha
          by_cases hxy : x < y
          · have HRS := Lib.hid ((HRB.out.set (a + 1) y).eq (hole_down (by have := HSL.out; omega) hye))
            have HYY := Lib.hid (show ∀ e ∈ S.drop a, x < e by
              obtain ⟨h1, h2⟩ := List.getElem?_eq_some_iff.1 hye
              rw [List.drop_eq_getElem_cons h1, h2]
              intro e he
              rcases List.mem_cons.1 he with rfl | he
              · exact hxy
              · exact HY.out e he)
            have HBS := Lib.hid (HB.out.setCell (show w.heap.size ≤ (⟨g1, a + 1, none⟩ : Addr).block from HG1.out) (.int .u32 y))
            clear HY HRB HB hye hhl
            go_upto_region 8 with fail
            go_quiet (fail)
            go_wp2
            go_roundw
            case rel => exact ⟨a, y, by omega, by go_num, HRS, HYY, Lib.hid (drewB HBS.out)⟩
            case measure => simp [intOf]
          · have HRS := Lib.hid ((HRB.out.set (a + 1) x).eq (hole_set (by have := HSL.out; omega)))
            have HFIN := Lib.hid (show hole S (a + 1) x = nsort M2 by
              rw [HST.out]
              refine (insI_take x S (a + 1) (by have := HSL.out; omega) (fun e he => ?_) HY.out).symm
              have hp := HSP.out
              rw [← List.take_append_drop (a + 1) S] at hp
              obtain ⟨h1, h2⟩ := List.getElem?_eq_some_iff.1 hye
              rw [List.take_add_one, hye] at he
              rcases List.mem_append.1 he with he | he
              · have hp2 := HSP.out
                rw [← List.take_append_drop a S, List.drop_eq_getElem_cons h1, h2] at hp2
                have := (List.pairwise_append.1 hp2).2.2 e he y List.mem_cons_self
                omega
              · simp at he
                omega)
            have HBS := Lib.hid (HB.out.setCell (show w.heap.size ≤ (⟨g1, a + 1, none⟩ : Addr).block from HG1.out) (.int .u32 x))
            clear HY HRB HB HST hye hhl
            go_upto_region 8 with fail
            go_quiet (fail)
            go_wp2
            go_roundw
            case rel => exact ⟨k + 1, m + 1, by omega, by omega, by go_num, ⟨_, _, rfl⟩, Lib.hid (by rw [← HM2.out]; exact HMM.out), Lib.hid (by rw [← HM2.out, ← HFIN.out]; have := (HRS.out).own (base := w.heap.size) (n := m + 1) HG1.out (by rw [hole_len (by have := HSL.out; omega), HSL.out]); exact this), Lib.hid (drewB HBS.out)⟩
            case measure => simp [intOf]; omega
    · obtain rfl : k = d := by omega
      have hltz : ¬ (k : Int) < k := by omega
      go_wp2
      go_ret
      refine ⟨_, rfl, ?_, HB.out⟩
      have h := HR.out
      have hm := HML.out
      rw [List.take_of_length_le (by have := HD.out; omega)] at h hm
      unfold mtS
      rw [nsort_len, ← hm]
      exact h
end Go.Proofs.YtgcimicbbadapaaGreat.Iv
