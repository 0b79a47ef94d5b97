/-
  A tree is made of right points (grown). No condition but those typed at each theorem.
-/
import Derived.Test.YtfcpfffgodljeaaGreatBh
import Derived.Test.YtfcpfffgodljeaaGreatRo
namespace Go.Proofs.YtfcpfffgodljeaaGreat.Bd
open Go.RowKit Go.Sort

theorem wts_perm {RX A B : List S3} (h : A.Perm B) : wts RX A = wts RX B := (h.map _).sum_nat
/-- the same points in another order -/
theorem BdM.reA {w : World} {P : BdP} {RX LY A B : List S3} (h : BdM w P RX LY A) (hp : B.Perm A) : BdM w P RX LY B :=
  ⟨by rw [hp.length_eq, wts_perm hp]; exact h.ev, h.row, h.fr, h.lsl, h.lat, fun k p e => (h.nod k p e).same (fun _ _ => hp.mem_iff), h.ap, h.pl, h.lbB⟩
/-- the cells of a tree -/
@[reducible] def bcs (a b c d e f g : Value) : List Value := [a, b, c, d, e, f, g]
set_option maxRecDepth 100000 in
set_option maxHeartbeats 6400000 in
theorem grown_any (w : World) (p : Option Addr) (c : Nat) (L : List S3) (hx : TsS w p L) (hl : L.length ≤ 400) (hR : Rg L) :
    Calls Tryz.prog 39 #[.slice p L.length c] w fun e w' => ∃ P RX LY, e = .returned (.pointer (some ⟨P.B, 0, none⟩)) ∧ BdM w' P RX LY L ∧ RX.Perm L ∧ (∀ k ∈ blks P, w.heap.size ≤ k) ∧ Below w.heap.size w w' := by
  have HX := Lib.hid hx
  have HRG := Lib.hid hR
  have HBX := Lib.hid (byX_any w p c L hx hl hR)
  have HSY := Lib.hid (fun X (hb : Below w.heap.size w X) => Ln.sorted_any p c X.heap.size L (X.alloc (.cells #[.slice p L.length c] 22)) (by simp) (one_new X _ _).1 ((hx.keep hb).keep ((Below.refl _ X).alloc (Nat.le_refl _) _)) (by omega) _ Ln.cY egY Ln.swoY (fun X s t => Ln.cY_any s t X))
  obtain ⟨n, hn⟩ : ∃ n, n = L.length := ⟨_, rfl⟩
  have HN := Lib.hid hn
  rw [← hn] at HSY HBX hl ⊢
  clear hx hR hn
  have HFN := Lib.hid (fun X => FNew_any X n (by omega))
  go_enter Tryz.func39, Tryz.ntmps39
  go_upto_region 2 with (go_at_call 66; (refine HBX.out.mono ?_); rintro e w1 ⟨va, vn, RX, rfl, h1, h2, h3, h4, h5⟩; obtain ⟨pa, ca, rfl, -, -⟩ := h1.ks; obtain ⟨pn, cn, rfl, -, -⟩ := h1.ns; have HO1 := Lib.hid h1; have HW1 := Lib.hid h2; have HP1 := Lib.hid h3; have HF1 := Lib.hid h4; have HB1 := Lib.hid h5; clear h1 h2 h3 h4 h5)
  obtain ⟨va, hva⟩ : ∃ va, va = Value.slice pa RX.length ca := ⟨_, rfl⟩
  obtain ⟨vn, hvn⟩ : ∃ vn, vn = Value.slice pn RX.length cn := ⟨_, rfl⟩
  rw [← hva, ← hvn] at HO1 HF1
  rw [← hva, ← hvn]
  clear hva hvn
  obtain ⟨T, hT⟩ : ∃ T, T = w1.heap.size := ⟨_, rfl⟩
  have HTT := Lib.hid hT
  obtain ⟨W, hW⟩ : ∃ W, W = w1.alloc (.cells #[.pointer none, va, vn, .pointer none, .slice none 0 0, .int .i64 n, .int .i64 0] 74) := ⟨_, rfl⟩
  rw [← hW, ← hT]
  have HV : Hid (EV 74 W T (bcs (.pointer none) va vn (.pointer none) (.slice none 0 0) (.int .i64 n) (.int .i64 0))) := Lib.hid (by rw [hW, hT]; exact heap_alloc_new w1 _)
  have HB0 : Hid (Below T w1 W) := Lib.hid (by rw [hW]; exact (Below.refl _ w1).alloc (by omega) _)
  have HLX : Hid (RX.length = n) := Lib.hid (by rw [HP1.out.length_eq, HN.out])
  clear hW hT
  have y0 := HV.out.cell (i := 0) rfl
  have f0 := HV.out.free 0
  go_upto_region 3 with fail
  clear y0 f0
  obtain ⟨W5, hW5⟩ : ∃ X, X = W.setCell ⟨T, 0, none⟩ (.pointer (some ⟨T, 0, none⟩)) := ⟨_, rfl⟩
  rw [← hW5]
  have HV5 : Hid (EV 74 W5 T (bcs (.pointer (some ⟨T, 0, none⟩)) va vn (.pointer none) (.slice none 0 0) (.int .i64 n) (.int .i64 0))) := Lib.hid (by rw [hW5]; exact HV.out.set 0 _)
  have HB5 : Hid (Below T w1 W5) := Lib.hid (by rw [hW5]; exact HB0.out.setCell (Nat.le_refl _) _)
  clear HV HB0 hW5
  have HO5 : Hid (OrR W5 kx RX va vn) := Lib.hid (HO1.out.keep (by rw [← HTT.out]; exact HB5.out))
  go_upto_region 4 with (go_at_call 67; (refine (HFN.out _).mono ?_); rintro e w6 ⟨rfl, hF, hb⟩; have HFB := Lib.hid hF; have HB6 := Lib.hid hb; have HE6 := Lib.hid (HV5.out.keep hb HV5.out.lt); have d3 := HE6.out.cell (i := 3) rfl; have g3 := HE6.out.free 3; clear hF hb)
  clear d3 g3
  obtain ⟨W9, hW9⟩ : ∃ X, X = w6.setCell ⟨T, 3, none⟩ (.pointer (some ⟨W5.heap.size, 0, none⟩)) := ⟨_, rfl⟩
  rw [← hW9]
  have HE9 : Hid (EV 74 W9 T (bcs (.pointer (some ⟨T, 0, none⟩)) va vn (.pointer (some ⟨W5.heap.size, 0, none⟩)) (.slice none 0 0) (.int .i64 n) (.int .i64 0))) := Lib.hid (by rw [hW9]; exact HE6.out.set 3 _)
  have hO9 : Off [T] w6 W9 := hW9 ▸ (Off.refl _ w6).set _ _ (.inl (by simp))
  have HO9 : Hid (OrR W9 kx RX va vn) := Lib.hid ((HO5.out.keep HB6.out).off hO9 (fun x hx hm => by
    obtain ⟨c', e'⟩ := row_type (HO5.out.keep HB6.out).ra hx
    simp only [List.mem_singleton] at hm
    exact types_ne e' HE6.out (by decide) hm) (fun x hx hm => by
    obtain ⟨c', e'⟩ := row_type (HO5.out.keep HB6.out).rn hx
    simp only [List.mem_singleton] at hm
    exact types_ne e' HE6.out (by decide) hm))
  have HFR9 : Hid (FR W9 W5.heap.size RX.length 0 (.pointer none)) := Lib.hid (by
    rw [HLX.out]
    exact HFB.out.block (hO9.block _ HFB.out.lt (by have := HV5.out.lt; simp; omega)))
  have HB9 : Hid (Below T w1 W9) := Lib.hid (by
    have h1 := HB5.out.trans (HB6.out.mono (by rw [HTT.out]; exact HB5.out.size))
    exact h1.trans (hO9.below (by rw [HTT.out]; exact h1.size) (by simp)))
  have HN9 : Hid (T ≤ W5.heap.size) := Lib.hid (by rw [HTT.out]; exact HB5.out.size)
  have HBW : Hid (Below w.heap.size w W9) := Lib.hid (HB1.out.trans (HB9.out.mono (by rw [HTT.out]; exact HB1.out.size)))
  clear hW9 hO9 HB6 HE6 HFB HV5 HO5 HB5
  go_wp2_with (first
    | (go_at_call 70; (with_reducible refine (Ln.values_any _ _ _ _).mono ?_); rintro e wa ⟨rfl, rfl⟩)
    | (go_at_call 69; (refine (HSY.out _ HBW.out).mono ?_); rintro e w7 ⟨q2, c2, LY, he, h1, h2, h3, h4, h5, h6, h7⟩; rw [← HN.out, ← show LY.length = n by rw [h1.length_eq, HN.out]] at he; subst he; have HP2 := Lib.hid h1; have HW2 := Lib.hid (ord_y HRG.out h1 h2); have HT2 := Lib.hid h3; have HG2 := Lib.hid h5; have HB7 := Lib.hid (((Below.refl W9.heap.size W9).alloc (Nat.le_refl _) _).trans (h7.mono (by simp))); clear h1 h2 h3 h4 h5 h6 h7)
    | (go_at_call 68; go_loud (refine (fill_any T W5.heap.size 0 (.pointer none) va vn q2 c2 (RX := RX) (by have := HE9.out.keep HB7.out HE9.out.lt; rw [show n = LY.length by rw [HP2.out.length_eq, HN.out]] at this; exact this) (HO9.out.keep HB7.out) (HFR9.out.keep HB7.out) ⟨HW1.out, HW2.out, HP1.out.trans HP2.out.symm, by have := HLX.out; omega⟩ HT2.out (fun x off e => by have h1 := HG2.out x off e; have h2 := HE9.out.lt; simp at h1; omega)).mono ?_); rintro e w8 ⟨rfl, ⟨Q, r1, r2, r3⟩, r4⟩; have HR1 := Lib.hid r1; have HR2 := Lib.hid r2; have HR3 := Lib.hid r3; have HR4 := Lib.hid r4; clear r1 r2 r3 r4))
  go_ret
  have hb7 : Below w.heap.size w w7 := HBW.out.trans (HB7.out.mono HBW.out.size)
  have hTw : w.heap.size ≤ T := by rw [HTT.out]; exact HB1.out.size
  refine ⟨Q, RX, LY, by rw [HR1.out]; rfl, HR2.out.reA HP2.out.symm, HP1.out, fun k hk => ?_, ?_⟩
  · have h3 := HN9.out
    have h4 := hb7.size
    rcases HR3.out k hk with g | g | g | g | g
    · omega
    · omega
    · exact HF1.out.1 k g
    · exact HF1.out.2 k g
    · omega
  · exact hb7.trans (HR4.out.below hb7.size (by simp; omega))
end Go.Proofs.YtfcpfffgodljeaaGreat.Bd
