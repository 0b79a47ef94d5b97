/-
  A row of points in memory: from where on, and ahead of which place, points stand; a point found. No condition but those typed at each theorem.
-/
import Derived.Test.YtfcpfffgodljeaaGreatBn
import Derived.Test.YtfcpfffgodljeaaGreatBo
import Derived.Deep.RegionHeld3
namespace Go.Proofs.YtfcpfffgodljeaaGreat.Bd
open Go.RowKit Go.Sort

/-- names cut out of a list -/
theorem sl_nms {w : World} {p : Option Addr} {xs : List Int} {c i k : Nat} (h : NS w p .u32 xs) (hik : i ≤ k) (hk : k ≤ xs.length) (hc : xs.length ≤ c) :
    ∃ q, (∀ w', NS w' p .u32 xs → NS w' q .u32 ((xs.drop i).take (k - i))) ∧ ∀ X, (Instr.slice 43 (.slice p xs.length c) (some (.int .i64 i)) (some (.int .i64 k)) none).run Tryz.prog X = .ok (.slice q (k - i) (c - i)) X := by
  obtain ⟨i0, hi, hz0, hz1, hz2⟩ := info_parts info_u
  by_cases h3 : c = i
  · have hL : (xs.drop i).take (k - i) = [] := by rw [show k - i = 0 by omega]; rfl
    refine ⟨p, fun w' _ => .inl hL, fun X => ?_⟩
    have e1 : k = i := by omega
    subst e1
    simp [Instr.slice, run_underlying under_u, Instr.sliceBounds, Instr.sliceBound, asIntOf, sizeOf, typeInfo, hi, h3]
  · rcases h with h0 | ⟨b, off, rfl, -⟩
    · subst h0
      have e1 : k = 0 := by simpa using hk
      have e2 : i = 0 := by omega
      subst e1; subst e2
      cases p with
      | none =>
        refine ⟨none, fun w' _ => .inl rfl, fun X => ?_⟩
        simp [Instr.slice, run_underlying under_u, Instr.sliceBounds, Instr.sliceBound, asIntOf, sizeOf, typeInfo, hi, h3]
      | some a =>
        refine ⟨some a, fun w' _ => .inl rfl, fun X => ?_⟩
        simp [Instr.slice, run_underlying under_u, Instr.sliceBounds, Instr.sliceBound, asIntOf, sizeOf, typeInfo, hi, Addr.add_zero']
    · refine ⟨some ⟨b, off + i, none⟩, fun w' h => ?_, fun X => ?_⟩
      · rcases h with h0 | ⟨b', off', e, ht⟩
        · left; rw [h0]; simp
        · cases e
          refine .inr ⟨b, off + i, rfl, fun j n hj => ?_⟩
          rw [List.getElem?_take] at hj
          split at hj
          · rw [List.getElem?_drop] at hj
            have := ht (i + j) n hj
            rw [show off + i + j = off + (i + j) by omega]
            exact this
          · cases hj
      · simp [Instr.slice, run_underlying under_u, Instr.sliceBounds, Instr.sliceBound, asIntOf, sizeOf, typeInfo, hi, hz1, hik, Nat.le_trans hk hc, h3, Addr.add_lit]
        try omega
section
variable {w w' : World} {b o : Nat} {kf : S3 → Int} {L : List S3} {va vn : Value}
/-- how many are looked at for both places -/
def btN (kf : S3 → Int) (L : List S3) (v u : Int) : Nat := (firstP (L.map kf) v).2 + (aboveP (L.map kf) u).2
theorem lg_few {n M : Nat} (h : n ≤ 8192) (hM : M ≤ n + 1) : lgN M ≤ 8192 :=
  Nat.le_trans (bl_mono (by omega) (by omega) : lgN M ≤ lgN 8193) (by decide)
theorem btN_few (hO : Ord kf L) (hl : L.length ≤ 8192) (v u : Int) : btN kf L v u ≤ 2 * lgN (L.length + 1) := by
  obtain ⟨-, a2, -⟩ := fst_parts hO hl v
  obtain ⟨-, b2, -⟩ := abv_parts hO hl u
  unfold btN
  omega
def tup4 (i j n : Nat) : Value := .tuple #[.int .i64 i, .int .i64 j, .int .i64 n]
set_option maxRecDepth 100000 in
set_option maxHeartbeats 1600000 in
theorem rbetw_any (c0 : w.cell? ⟨b, o, none⟩ = some va) (hr : OrR w kf L va vn) (hO : Ord kf L) (hl : L.length ≤ 8192) (v u : Int) :
    Calls Tryz.prog 73 #[.pointer (some ⟨b, o, none⟩), .int .i64 v, .int .i64 u] w fun e w' => e = .returned (tup4 (firstP (L.map kf) v).1 (aboveP (L.map kf) u).1 (btN kf L v u)) ∧ Below w.heap.size w w' := by
  obtain ⟨pa, ca, rfl, hna, hca⟩ := hr.ks
  obtain ⟨a1, a2, -⟩ := fst_parts hO hl v
  obtain ⟨b1, b2, -⟩ := abv_parts hO hl u
  have hlg := lg_few hl (Nat.le_refl _)
  have HF := Lib.hid (fun X (hb : Below w.heap.size w X) => by have := First_any X pa ca (L.map kf) v (hna.keep hb) (by simp; omega); rw [List.length_map] at this; exact this)
  have HA := Lib.hid (fun X (hb : Below w.heap.size w X) => by have := Above_any X pa ca (L.map kf) u (hna.keep hb) (by simp; omega); rw [List.length_map] at this; exact this)
  have HE : Hid (btN kf L v u = (firstP (L.map kf) v).2 + (aboveP (L.map kf) u).2) := Lib.hid rfl
  unfold two at HF HA
  unfold tup4
  generalize firstP (L.map kf) v = P at *
  generalize aboveP (L.map kf) u = Q at *
  obtain ⟨P1, P2⟩ := P
  obtain ⟨Q1, Q2⟩ := Q
  generalize btN kf L v u = t at *
  generalize hn : L.length = n at *
  simp only at HF HA HE a1 b1 a2 b2 ⊢
  generalize lgN (n + 1) = lg at *
  have hP : P2 ≤ 8192 := by omega
  have hQ : Q2 ≤ 8192 := by omega
  clear hr hna hO hn a2 b2 hlg
  go_enter Tryz.func73, Tryz.ntmps73
  go_wp2_with (first
    | (go_at_call 104; (with_reducible refine (HF.out _ (Below.refl _ _)).mono ?_); rintro e w1 ⟨rfl, hb⟩; have HB1 := Lib.hid hb; have d0 := (hb.cell (World.block_lt_of_cell? _ _ c0)).trans c0; clear hb)
    | (go_at_call 105; (with_reducible refine (HA.out _ HB1.out).mono ?_); rintro e w2 ⟨rfl, hb⟩; have HB2 := Lib.hid (HB1.out.trans (hb.mono HB1.out.size)); clear hb))
  go_ret3
  refine ⟨?_, HB2.out⟩
  rw [HE.out]
  go_num
set_option maxRecDepth 100000 in
set_option maxHeartbeats 1600000 in
theorem find_any (c0 : w.cell? ⟨b, o, none⟩ = some va) (c1 : w.cell? ⟨b, o + 1, none⟩ = some vn) (hr : OrR w kf L va vn) (hO : Ord kf L) (hl : L.length ≤ 8192) (v x : Int) :
    Calls Tryz.prog 42 #[.pointer (some ⟨b, o, none⟩), .int .i64 v, .int .u32 x] w fun e w' => e = .returned (.tuple #[.int .i64 (fnd kf L v x).1, .bool (fnd kf L v x).2]) ∧ Below w.heap.size w w' := by
  have HR := Lib.hid (rbetw_any c0 hr hO hl v v)
  obtain ⟨pn, cn, rfl, hnn, hcn⟩ := hr.ns
  obtain ⟨a1, -, -⟩ := fst_parts hO hl v
  obtain ⟨b1, -, -⟩ := abv_parts hO hl v
  have hle := fst_abv hO hl (Int.le_refl v)
  have hlen : (L.map (·.2.2)).length = L.length := by simp
  obtain ⟨q, hq, hsl⟩ := sl_nms (i := (firstP (L.map kf) v).1) (k := (aboveP (L.map kf) v).1) (c := cn) hnn hle (by rw [hlen]; exact b1) (by rw [hlen]; exact hcn)
  rw [hlen] at hsl
  have HB := Lib.hid (fun X (hb : Below w.heap.size w X) => bsu_any X q ((aboveP (L.map kf) v).1 - (firstP (L.map kf) v).1) (cn - (firstP (L.map kf) v).1) (nms L (firstP (L.map kf) v).1 (aboveP (L.map kf) v).1) x (hq X (hnn.keep hb)) (by rw [nms_len b1]) (by omega))
  have HE : Hid (fnd kf L v x = ((firstP (L.map kf) v).1 + (firstP (nms L (firstP (L.map kf) v).1 (aboveP (L.map kf) v).1) x).1, isAt (nms L (firstP (L.map kf) v).1 (aboveP (L.map kf) v).1) x (firstP (nms L (firstP (L.map kf) v).1 (aboveP (L.map kf) v).1) x).1)) := Lib.hid rfl
  have hpl : (firstP (nms L (firstP (L.map kf) v).1 (aboveP (L.map kf) v).1) x).1 ≤ 8192 := by
    have := (firstP_list (nms_rise hO hl v) (by rw [nms_len b1]; omega) x).1
    rw [nms_len b1] at this
    omega
  unfold tup4 at HR
  generalize btN kf L v v = t at *
  generalize hP : firstP (L.map kf) v = P at *
  generalize hQ : aboveP (L.map kf) v = Q at *
  obtain ⟨P1, P2⟩ := P
  obtain ⟨Q1, Q2⟩ := Q
  generalize (firstP (nms L P1 Q1) x).1 = r at *
  generalize isAt (nms L P1 Q1) x r = y at *
  rw [HE.out]
  generalize hn : L.length = n at *
  clear hr hnn hP hQ HE hq hO hn c0
  simp only at HR hsl HB a1 b1 hle
  go_enter Tryz.func42, Tryz.ntmps42
  go_wp2_with (first
    | (go_at_call 73; (with_reducible refine HR.out.mono ?_); rintro e w1 ⟨rfl, hb⟩; have HB1 := Lib.hid hb; have d1 := (hb.cell (World.block_lt_of_cell? _ _ c1)).trans c1; clear hb)
    | (go_at_call 74; (with_reducible refine (HB.out _ HB1.out).mono ?_); rintro e w3 ⟨rfl, rfl⟩))
  go_ret2
  exact ⟨by go_num, HB1.out⟩
end
end Go.Proofs.YtfcpfffgodljeaaGreat.Bd
