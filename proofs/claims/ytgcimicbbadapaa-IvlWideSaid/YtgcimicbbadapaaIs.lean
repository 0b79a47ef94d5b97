/-
  How many spans are at knots ahead of each (shares). No condition but those typed at each theorem.
-/
import Derived.Test.YtgcimicbbadapaaIn
import Derived.Test.YtgcimicbbadapaaIy
namespace Go.Proofs.Ytgcimicbbadapaa.Iv
open Go.RowKit

def mapR (N : Nat) (f : Nat → Nat) : List Nat := (List.range N).map f
theorem mapR_len (N : Nat) (f : Nat → Nat) : (mapR N f).length = N := by simp [mapR]
theorem mapR_get (N : Nat) (f : Nat → Nat) {k : Nat} (h : k < N) : (mapR N f)[k]? = some (f k) := by unfold mapR; rw [List.getElem?_map, List.getElem?_range h]; rfl
theorem mapR_set (N : Nat) (f f' : Nat → Nat) (k v : Nat) (h : ∀ x, x < N → f' x = if x = k then v else f x) : (mapR N f).set k v = mapR N f' := by
  apply List.ext_getElem?
  intro x
  by_cases hx : x < N
  · rw [List.getElem?_set, mapR_get N f hx, mapR_get N f' hx, mapR_len, h x hx]
    by_cases e : k = x
    · subst e; rw [if_pos rfl, if_pos hx, if_pos rfl]
    · rw [if_neg e, if_neg (fun g => e g.symm)]
  · rw [List.getElem?_eq_none (by rw [List.length_set, mapR_len]; omega), List.getElem?_eq_none (by rw [mapR_len]; omega)]
theorem mapR_congr (N : Nat) (f f' : Nat → Nat) (h : ∀ x, x < N → f x = f' x) : mapR N f = mapR N f' := List.map_congr_left (fun x hx => h x (List.mem_range.1 hx))
/-- how many are at the knot ahead -/
def cF (kf : S3 → Nat) (L : List S3) (i k : Nat) : Nat := if k = 0 then 0 else (nb kf (L.take i) (k - 1)).length
def sF (kf : S3 → Nat) (L : List S3) (j k : Nat) : Nat := if k ≤ j then stt kf L k else (nb kf L (k - 1)).length
theorem nb_take (kf : S3 → Nat) {L : List S3} {i : Nat} {s : S3} (h : L[i]? = some s) (k : Nat) : nb kf (L.take (i + 1)) k = nb kf (L.take i) k ++ (if kf s = k then [s] else []) := by
  unfold nb
  rw [List.take_add_one, h, List.filter_append]
  congr 1
  by_cases e : kf s = k <;> simp [e]
theorem nb_le (kf : S3 → Nat) (L : List S3) (k : Nat) : (nb kf L k).length ≤ L.length := List.length_filter_le _ _
theorem cF_step (kf : S3 → Nat) {L : List S3} {i : Nat} {s : S3} (h : L[i]? = some s) (N : Nat) : (mapR N (cF kf L i)).set (kf s + 1) (cF kf L i (kf s + 1) + 1) = mapR N (cF kf L (i + 1)) := by
  refine mapR_set N _ _ _ _ (fun x _ => ?_)
  unfold cF
  by_cases hx : x = 0
  · subst hx; rw [if_pos rfl, if_neg (by omega), if_pos rfl]
  · rw [if_neg hx, nb_take kf h]
    by_cases e : x = kf s + 1
    · subst e; simp
    · rw [if_neg e, if_neg hx, if_neg (by omega), List.append_nil]
theorem sF_step (kf : S3 → Nat) (L : List S3) (j N : Nat) : (mapR N (sF kf L j)).set (j + 1) (sF kf L j (j + 1) + sF kf L j j) = mapR N (sF kf L (j + 1)) := by
  refine mapR_set N _ _ _ _ (fun x _ => ?_)
  unfold sF
  by_cases e : x = j + 1
  · subst e; rw [if_pos (Nat.le_refl _), if_pos rfl, if_neg (by omega), if_pos (Nat.le_refl _), stt_succ, Nat.add_sub_cancel]; omega
  · rw [if_neg e]
    by_cases g : x ≤ j
    · rw [if_pos g, if_pos (by omega)]
    · rw [if_neg g, if_neg (by omega)]
theorem cF_last (kf : S3 → Nat) (L : List S3) (N : Nat) : mapR N (cF kf L L.length) = mapR N (sF kf L 0) := by
  refine mapR_congr N _ _ (fun x _ => ?_)
  unfold cF sF
  rw [List.take_of_length_le (Nat.le_refl _)]
  by_cases hx : x = 0
  · subst hx; rw [if_pos rfl, if_pos (Nat.le_refl _), stt_zero]
  · rw [if_neg hx, if_neg (by omega)]
theorem sF_last (kf : S3 → Nat) (L : List S3) (m : Nat) : mapR (m + 1) (sF kf L m) = mapR (m + 1) (stt kf L) := mapR_congr _ _ _ (fun x hx => by unfold sF; rw [if_pos (by omega)])
theorem cF_zero (kf : S3 → Nat) (L : List S3) (N : Nat) : zs (mapR N (cF kf L 0)) = List.replicate N 0 := by
  unfold zs mapR
  rw [List.map_map, List.eq_replicate_iff]
  refine ⟨by simp, fun x hx => ?_⟩
  obtain ⟨k, -, rfl⟩ := List.mem_map.1 hx
  simp [cF, nb]

set_option maxRecDepth 100000 in
set_option maxHeartbeats 3200000 in
theorem shares_any {w : World} {g : Nat} {E : List Int} {qe : Option Addr} {ce : Nat} (h : EnM w g E qe ce) (hE : E.length ≤ 4096) (p : Option Addr) (c : Nat) (L : List S3) (hx : TsS w p L) (hl : L.length ≤ 4096) (hr : ∀ s ∈ L, s.1 ≤ s.2.1 ∧ kn (En E) E.length s < E.length) :
    Calls Try.prog 64 #[.pointer (some ⟨g, 0, none⟩), .slice p L.length c] w fun e w' => ∃ b, e = .returned (.slice (some ⟨b, 0, none⟩) (E.length + 1) (E.length + 1)) ∧ EB .i64 3 w' b (zs (mapR (E.length + 1) (stt (kn (En E) E.length) L))) ∧ w.heap.size ≤ b ∧ Below w.heap.size w w' := by
  have HE := Lib.hid h
  have HX := Lib.hid hx
  have HR := Lib.hid hr
  have c1 := h.cell
  have HKN := Lib.hid (fun X (hb : Below w.heap.size w X) s hs => knot_any (h.keep hb) s hs)
  obtain ⟨kf, hkf⟩ : ∃ kf, kf = kn (En E) E.length := ⟨_, rfl⟩
  rw [← hkf] at HKN HR ⊢
  have hm2 : ∀ w : World, (Instr.makeSlice 75 (.int .i64 ((E.length : Int) + 1)) (.int .i64 ((E.length : Int) + 1))).run Try.prog w = .ok (.slice (some ⟨w.heap.size, 0, none⟩) (E.length + 1) (E.length + 1)) (w.alloc (.cells (madeCells #[.int .i64 0] ((E.length + 1) * 1)) 3)) := fun w => by
    have := made_any info_int (by decide) (by decide) under_ints w (E.length + 1) (E.length + 1) (by omega) (by omega)
    rw [show ((E.length + 1 : Nat) : Int) = (E.length : Int) + 1 by omega] at this
    exact this
  obtain ⟨m, hm⟩ : ∃ m, m = E.length := ⟨_, rfl⟩
  have HM := Lib.hid hm
  obtain ⟨n, hn⟩ : ∃ n, n = L.length := ⟨_, rfl⟩
  have HN := Lib.hid hn
  rw [← hm] at c1 HR hm2 hE ⊢
  rw [← hn] at hl ⊢
  have HQ0 : Hid (EB .i64 3 (w.alloc (.cells (madeCells #[.int .i64 0] (m + 1)) 3)) w.heap.size (zs (mapR (m + 1) (cF kf L 0)))) := Lib.hid (by
    rw [cF_zero]; exact EB.made .i64 3 w (m + 1))
  have HB0 : Hid (Below w.heap.size w (w.alloc (.cells (madeCells #[.int .i64 0] (m + 1)) 3))) := Lib.hid ((Below.refl _ w).alloc (Nat.le_refl _) _)
  rw [Nat.mul_one] at hm2
  clear h hx hr hkf hm hn
  go_enter Try.func64, Try.ntmps64
  go_wp2
  have hz0 : w.heap.size < (w.alloc (.cells (madeCells #[.int .i64 0] (m + 1)) 3)).heap.size := by simp
  generalize (w.alloc (.cells (madeCells #[.int .i64 0] (m + 1)) 3)) = W at *
  go_loopw [18] (fun v wr => ∃ i : Nat, i ≤ n ∧ v = .int .i64 i ∧ Hid (EB .i64 3 wr w.heap.size (zs (mapR (m + 1) (cF kf L i)))) ∧ Hid (Below w.heap.size w wr)) (fun v _ => n - (intOf v).toNat)
  case atStart => exact ⟨0, Nat.zero_le _, rfl, HQ0, HB0⟩
  case round =>
    clear HQ0 HB0
    obtain ⟨i, hi, rfl, HQ, HB⟩ := hrel
    by_cases hlt : i < n
    · have hltz : (i : Int) < n := by omega
      obtain ⟨s, hse⟩ : ∃ s, L[i]? = some s := ⟨_, List.getElem?_eq_getElem (by have := HN.out; omega)⟩
      obtain ⟨bb, off, rfl, h1⟩ := (HX.out.keep HB.out).at hse
      have n0 := h1.c0
      have n1 := h1.c1
      have n2 := h1.c2
      have HSE := Lib.hid hse
      obtain ⟨hs1, hk⟩ := HR.out s (List.mem_of_getElem? hse)
      obtain ⟨lo, hi2, id⟩ := s
      obtain ⟨kk, hkk⟩ : ∃ kk, kk = kf (lo, hi2, id) := ⟨_, rfl⟩
      have HKK := Lib.hid hkk
      have HC : Hid (∀ X, Below w.heap.size w X → Calls Try.prog 101 #[.pointer (some ⟨g, 0, none⟩), .agg #[.int .i64 lo, .int .i64 hi2, .int .u32 id]] X fun e X' => e = .returned (.int .i64 kk) ∧ Below X.heap.size X X') := Lib.hid (fun X hb => by rw [hkk]; exact HKN.out X hb (lo, hi2, id) hs1)
      rw [← hkk] at hk
      obtain ⟨x, hxv⟩ : ∃ x, x = cF kf L i (kk + 1) := ⟨_, rfl⟩
      have hxl : x ≤ 4096 := by
        rw [hxv]; unfold cF; rw [if_neg (by omega)]
        have := nb_le kf (L.take i) (kk + 1 - 1)
        rw [List.length_take] at this; have := HN.out; omega
      have HXV := Lib.hid hxv
      have hcell := HQ.out.cell (zs_get _ (mapR_get (m + 1) (cF kf L i) (k := kk + 1) (by omega)))
      rw [← hxv] at hcell
      have HCL := Lib.hid hcell
      clear h1 hse hs1 hkk hxv hcell
      have hsz := HB.out.size
      have hwr : w.heap.size < wr.heap.size := HQ.out.lt
      go_wp2_with (go_at_call 101; (refine (HC.out _ (HB.out.alloc hsz _)).mono ?_); rintro e w1 ⟨rfl, hb1⟩; have hbw := ((Below.refl wr.heap.size wr).alloc (Nat.le_refl _) _).trans (hb1.mono (by simp)); have HQ1 := Lib.hid (HQ.out.keep hbw hwr); have HB1 := Lib.hid (HB.out.trans (hbw.mono hsz)); have y0 := (hbw.cell (World.block_lt_of_cell? _ _ HCL.out)).trans HCL.out; have y1 := HQ1.out.free (kk + 1); clear hb1 hbw)
      go_roundw
      case rel =>
        refine ⟨i + 1, by omega, by go_num, Lib.hid ?_, Lib.hid (HB1.out.setCell (Nat.le_refl _) _)⟩
        have := HQ1.out.set (kk + 1) ((x + 1 : Nat) : Int)
        rw [zs_set, HXV.out, HKK.out, cF_step kf HSE.out] at this
        rw [HXV.out, HKK.out]
        exact this
      case measure => simp [intOf]; omega
    · have hltz : ¬ (i : Int) < n := by omega
      obtain rfl : i = n := by omega
      have hq := HQ.out
      rw [HN.out, cF_last] at hq
      have HQ0 := Lib.hid hq
      have c1' := (HB.out.cell (World.block_lt_of_cell? _ _ c1)).trans c1
      clear hq HQ
      go_wp2
      go_loopw [37] (fun v wx => ∃ j : Nat, j ≤ m ∧ v = .int .i64 j ∧ Hid (EB .i64 3 wx w.heap.size (zs (mapR (m + 1) (sF kf L j)))) ∧ Hid (Below w.heap.size w wx)) (fun v _ => m - (intOf v).toNat)
      case atStart => exact ⟨0, Nat.zero_le _, rfl, HQ0, HB⟩
      case round =>
        clear HQ0 HB
        obtain ⟨j, hj, rfl, HQ, HB⟩ := hrel
        by_cases hjm : j < m
        · have hjz : (j : Int) < m := by omega
          obtain ⟨x, hxv⟩ : ∃ x, x = sF kf L j j := ⟨_, rfl⟩
          obtain ⟨y, hyv⟩ : ∃ y, y = sF kf L j (j + 1) := ⟨_, rfl⟩
          have hxl : x ≤ 4096 := by rw [hxv]; unfold sF; rw [if_pos (Nat.le_refl _)]; have := stt_le kf L j; have := HN.out; omega
          have hyl : y ≤ 4096 := by rw [hyv]; unfold sF; rw [if_neg (by omega)]; have := nb_le kf L (j + 1 - 1); have := HN.out; omega
          have y0 := HQ.out.cell (zs_get _ (mapR_get (m + 1) (sF kf L j) (k := j) (by omega)))
          have y1 := HQ.out.cell (zs_get _ (mapR_get (m + 1) (sF kf L j) (k := j + 1) (by omega)))
          have y2 := HQ.out.free (j + 1)
          rw [← hxv] at y0
          rw [← hyv] at y1
          have HXV := Lib.hid hxv
          have HYV := Lib.hid hyv
          clear hxv hyv
          go_upto_region 10 with fail
          go_region
          go_wp2
          go_roundw
          case rel =>
            refine ⟨j + 1, by omega, by go_num, Lib.hid ?_, Lib.hid ((HB.out.setCell (Nat.le_refl _) _).drew)⟩
            have := HQ.out.set (j + 1) ((y + x : Nat) : Int)
            rw [zs_set, HXV.out, HYV.out, sF_step] at this
            rw [HXV.out, HYV.out]
            exact this
          case measure => simp [intOf]; omega
        · have hjz : ¬ (j : Int) < m := by omega
          obtain rfl : j = m := by omega
          go_wp2
          go_ret
          refine ⟨w.heap.size, rfl, ?_, Nat.le_refl _, HB.out⟩
          have := HQ.out
          rw [sF_last] at this
          exact this
end Go.Proofs.Ytgcimicbbadapaa.Iv
