/-
  The law's dropped: a tree from which some points were dropped, one behind the other. No condition but those typed at each theorem.
-/
import Derived.Test.YtfcpfffgodljeaaGreatMP
import Derived.Test.YtfcpfffgodljeaaGreatMCa
namespace Go.Proofs.YtfcpfffgodljeaaGreat.Ca
open Go.ChangeShapes Go.WideShapes Go.ChangeAt Go.RowKit Go.Joins

/-- what is left behind the first k drops -/
def dk (L : List S3) (D : List Int) : Nat → List S3
  | 0 => L
  | k + 1 => match D[k]? with
    | some y => (match L[y.toNat % L.length]? with | some s => drp (dk L D k) s | none => dk L D k)
    | none => dk L D k
theorem dk_sub (L : List S3) (D : List Int) : ∀ k, (dk L D k).Sublist L := by
  intro k
  induction k with
  | zero => exact List.Sublist.refl _
  | succ k ih =>
    unfold dk
    split
    · split
      · exact (drp_sub _ _).trans ih
      · exact ih
    · exact ih
theorem dk_len (L : List S3) (D : List Int) (k : Nat) : (dk L D k).length ≤ L.length := (dk_sub L D k).length_le
theorem dk_step {L : List S3} {D : List Int} {k : Nat} {y : Int} {s : S3} (h : D[k]? = some y) (h2 : L[y.toNat % L.length]? = some s) : dk L D (k + 1) = drp (dk L D k) s := by
  simp only [dk, h, h2]
theorem dk_none {L : List S3} {D : List Int} {k : Nat} (h : L.length = 0) : dk L D (k + 1) = dk L D k := by
  have : L = [] := List.length_eq_zero_iff.1 h
  subst this
  simp only [dk]
  cases D[k]? with
  | none => rfl
  | some y => simp

set_option maxRecDepth 100000 in
set_option maxHeartbeats 6400000 in
theorem dropped_any {TS : World → Value → Nat → List Nat → List S3 → Prop} (C : CascC TS) (w : World) (p qd : Option Addr) (c cd : Nat) (L : List S3) (D : List Int) (hx : TsS w p L) (hc : L.length ≤ c) (hp : p = none → c = 0) (hw : ∀ s ∈ L, Wf3 s) (hl : L.length ≤ 400) (hD : NS w qd .u8 D) (hcd : D.length ≤ cd) (hwd : ∀ x ∈ D, (Lit.int .u8 x).wf = true) :
    Calls Tryz.prog 33 #[.slice p L.length c, .slice qd D.length cd] w fun e w' => Below w.heap.size w w' ∧ ((Rg L ∧ ∃ v S, e = .returned (.tuple #[v, .bool true]) ∧ TS w' v L.length S (dk L D (min D.length 100))) ∨ (¬ Rg L ∧ e = .returned (.tuple #[.pointer none, .bool false]))) := by
  have HX := Lib.hid hx
  have HDD := Lib.hid hD
  have HWD := Lib.hid hwd
  have HWF := Lib.hid hw
  have HBU := Lib.hid (C.build w p c L hx hl hc hp hw)
  obtain ⟨h100, hh100⟩ : ∃ h, h = min D.length 100 := ⟨_, rfl⟩
  have HMIN := Lib.hid (fun X ty => min100 X ty D.length (h100 : Int) (by rw [hh100]))
  have HSL := Lib.hid (fun X => slB_to X qd D.length cd h100 (by omega))
  have h100b : h100 ≤ 100 := by omega
  have HH100 := Lib.hid (show h100 ≤ D.length by omega)
  rw [← hh100]
  obtain ⟨m, hmm⟩ : ∃ m, m = L.length := ⟨_, rfl⟩
  have HM := Lib.hid hmm
  rw [← hmm] at HBU hl ⊢
  obtain ⟨dl, hdl⟩ : ∃ l, l = D.length := ⟨_, rfl⟩
  have HDL := Lib.hid hdl
  rw [← hdl] at HMIN HSL HH100 ⊢
  clear hx hc hp hw hD hcd hwd hh100 hmm hdl
  by_cases hrg : Rg L
  · have HRG := Lib.hid hrg
    have hmin := HMIN.out
    have hsl := HSL.out
    go_enter Tryz.func33, Tryz.ntmps33
    go_wp2_with (go_at_call 29; (with_reducible refine HBU.out.mono ?_); rintro e w1 ⟨hb, hor⟩; rcases hor with ⟨-, v, S, rfl, hT, hS⟩ | ⟨hn', -⟩; rotate_left; (exact absurd hrg hn'); rw [← HM.out] at hT; have HT := Lib.hid hT; have HB := Lib.hid hb; have HSS := Lib.hid hS; clear hb hT hS)
    clear hmin hsl HMIN HSL HBU hrg
    go_loopw [23] (fun v23 wr => ∃ (k : Nat) (S : List Nat), k ≤ h100 ∧ v23 = .int .i64 k ∧ Hid (TS wr v m S (dk L D k)) ∧ Hid (∀ b ∈ S, w.heap.size ≤ b) ∧ Hid (Below w.heap.size w wr)) (fun i _ => h100 - (intOf i).toNat)
    case atStart => exact ⟨0, S, Nat.zero_le _, rfl, HT, HSS, HB⟩
    case round =>
      clear HT HSS HB
      obtain ⟨k, S, hk, rfl, HT, HSS, HB⟩ := hrel
      by_cases hlt : k < h100
      · have hltz : (k : Int) < h100 := by omega
        obtain ⟨y, hye⟩ : ∃ y, D[k]? = some y := ⟨_, List.getElem?_eq_getElem (by have := HH100.out; have := HDL.out; omega)⟩
        have HYE := Lib.hid hye
        rcases HDD.out.keep HB.out with h0 | ⟨b, off, rfl, h1⟩
        · rw [h0] at hye; simp at hye
        · have cy := h1 k y hye
          have hwy := HWD.out y (List.mem_of_getElem? hye)
          have hyr : 0 ≤ y ∧ y ≤ 255 := by simpa [Lit.wf, show IntKind.u8.min = 0 from rfl, show IntKind.u8.max = 255 from rfl] using hwy
          clear h1 hye hwy
          by_cases hm0 : m = 0
          · have hmz : ¬ (0 : Int) < m := by omega
            have HDN := Lib.hid (dk_none (D := D) (k := k) (show L.length = 0 by rw [← HM.out, hm0]))
            have HM0 := Lib.hid hm0
            clear hm0
            go_wp2
            go_roundw
            case rel => exact ⟨k + 1, S, by omega, by go_num, Lib.hid (by rw [HDN.out]; exact HT.out), HSS, HB⟩
            case measure => simp [intOf]; omega
          · have hmz : (0 : Int) < m := by omega
            obtain ⟨j, hj⟩ : ∃ j, j = y.toNat % m := ⟨_, rfl⟩
            have hjm : j < m := by rw [hj]; exact Nat.mod_lt _ (by omega)
            have hrem : Int.tmod y (m : Int) = (j : Int) := by
              rw [Int.tmod_eq_emod_of_nonneg hyr.1, hj, Int.natCast_emod, Int.toNat_of_nonneg hyr.1]
            have hjz : (j : Int) < m := by omega
            obtain ⟨s, hse⟩ : ∃ s, L[j]? = some s := ⟨_, List.getElem?_eq_getElem (by have := HM.out; omega)⟩
            have HDS := Lib.hid (dk_step HYE.out (show L[y.toNat % L.length]? = some s by rw [← HM.out, ← hj]; exact hse))
            obtain ⟨b2, off2, rfl, h2⟩ := (HX.out.keep HB.out).at hse
            have n0 := h2.c0
            have n1 := h2.c1
            have n2 := h2.c2
            have hcd := C.drop s HT.out (HWF.out s (List.mem_of_getElem? hse))
            rw [← HDS.out] at hcd
            have HCD := Lib.hid hcd
            have hm0' : ¬ (m : Int) = 0 := by omega
            obtain ⟨lo, hh, id⟩ := s
            unfold tv at HCD
            simp only at n0 n1 n2
            obtain ⟨hy0, hy1⟩ := hyr
            clear hse h2 hj hm0 hcd
            go_wp2_with (go_at_call 32; (with_reducible refine HCD.out.mono ?_); rintro e w4 ⟨rfl, S4, hT, hO, hS4⟩; have HT3 := Lib.hid hT; have HB3 := Lib.hid (HB.out.trans (hO.below (N := w.heap.size) HB.out.size HSS.out)); have HSS3 := Lib.hid (show ∀ b ∈ S4, w.heap.size ≤ b from fun b hb => (hS4 b hb).elim (HSS.out b) (Nat.le_trans HB.out.size)); clear hT hO hS4)
            go_roundw
            case rel => exact ⟨k + 1, S4, by omega, by go_num, HT3, HSS3, HB3⟩
            case measure => simp [intOf]; omega
      · obtain rfl : k = h100 := by omega
        have hltz : ¬ (k : Int) < k := by omega
        go_wp2
        go_ret2
        exact ⟨HB.out, .inl ⟨HRG.out, v, rfl, S, HT.out⟩⟩
  · go_enter Tryz.func33, Tryz.ntmps33
    go_wp2_with (go_at_call 29; (with_reducible refine HBU.out.mono ?_); rintro e w1 ⟨hb, hor⟩; rcases hor with ⟨hn, -⟩ | ⟨-, v, S, rfl, -, -⟩; (exact absurd hn hrg); have HB := Lib.hid hb; clear hb)
    go_ret2
    exact ⟨HB.out, .inr ⟨hrg, rfl⟩⟩
end Go.Proofs.YtfcpfffgodljeaaGreat.Ca
