/-
  A tree's Len and Stab. No condition but those typed at each theorem.
-/
import Derived.Test.YtgcimicbbadapaaIh
import Derived.Test.YtgcimicbbadapaaTold
namespace Go.Proofs.Ytgcimicbbadapaa.Iv
open Go.RowKit

theorem eqSameI (a : Addr) (w : World) : (binOp .eql 53 (.pointer (some a)) (.pointer (some a))).run Try.prog w = .ok (.bool true) w := by
  obtain ⟨j, hj⟩ := Option.isSome_iff_exists.1 (show (Try.prog.info? 88).isSome = true by kernel_rfl)
  exact run_eql_ptr_same w a Try.underlying53 hj
set_option maxRecDepth 100000 in
theorem made_yes {X : World} {g : Nat} (c0 : X.cell? ⟨g, 0, none⟩ = some (.pointer (some ⟨g, 0, none⟩))) :
    Calls Try.prog 40 #[.pointer (some ⟨g, 0, none⟩)] X fun e w' => e = .returned (.bool true) ∧ w' = X := by
  have q := eqSameI
  go_enter Try.func40, Try.ntmps40
  go_wp2
  go_ret
  exact ⟨rfl, rfl⟩
set_option maxRecDepth 100000 in
theorem made_no (X : World) :
    Calls Try.prog 40 #[.pointer none] X fun e w' => e = .returned (.bool false) ∧ w' = X := by
  go_enter Try.func40, Try.ntmps40
  go_wp2
  go_ret
  exact ⟨rfl, rfl⟩
set_option maxRecDepth 100000 in
theorem stab_no (X : World) (x : Int) :
    Calls Try.prog 36 #[.pointer none, .int .i64 x] X fun e w' => e = .returned (.tuple #[.slice none 0 0, .int .i64 0]) ∧ w' = X := by
  have HM := Lib.hid (made_no X)
  go_enter Try.func36, Try.ntmps36
  go_wp2_with (go_at_call 40; (with_reducible refine HM.out.mono ?_); rintro e w1 ⟨rfl, rfl⟩)
  go_ret2
  exact ⟨rfl, rfl⟩
section
variable {w : World} {P : IvP} {E : List Int} {row RI FA row2 A : List S3} (hT : IvM w P E row RI FA A) (hI : IvI E row RI FA row2) (hA : A.Nodup) (hs : ∀ s ∈ A, s ∈ row) (x : Int)
include hT
include hI hA hs
omit hT in
theorem told_stb : nsort (ids (toldX (kn (En E) E.length) (En E) row row2 A x (px (sdx (En E) x) 0 E.length))) = stb A x ∧ (toldX (kn (En E) E.length) (En E) row row2 A x (px (sdx (En E) x) 0 E.length)).length = (stb A x).length := by
  have h := hI.told x hA hs
  constructor
  · exact nsort_eq (h.map _)
  · rw [h.length_eq]; unfold stb; rw [nsort_len]; simp [stbL]
omit hT hA hs in
theorem told_few : (toldX (kn (En E) E.length) (En E) row row2 A x (px (sdx (En E) x) 0 E.length)).length ≤ 400 ∧ (px (sdx (En E) x) 0 E.length).length ≤ lgN (E.length + 1) := by
  refine ⟨Nat.le_trans (told_len _ _ _ _ _ _ hI.perm (px_once _ _ _)) hI.few.1, px_len _ (Nat.le_refl _) (by have := hI.few.2; omega)⟩
set_option maxRecDepth 100000 in
set_option maxHeartbeats 1600000 in
theorem stab_yes :
    Calls Try.prog 36 #[.pointer (some ⟨P.g, 0, none⟩), .int .i64 x] w fun e w' => (∃ r, ∃ t : Nat, e = .returned (.tuple #[r, .int .i64 t]) ∧ TL w' r (stb A x).length (stb A x) ∧ (stb A x).length ≤ t ∧ t ≤ (stb A x).length + 2 * lgN (E.length + 1)) ∧ Below w.heap.size w w' := by
  have HM := Lib.hid (made_yes hT.self)
  have HH := Lib.hid (having_any x hT hI)
  have h1 := told_stb hI hA hs x
  have h2 := told_few (A := A) hI x
  have h3 := tch_bounds (kn (En E) E.length) (En E) row row2 A x (px (sdx (En E) x) 0 E.length)
  have H1 := Lib.hid h1
  have H3 : Hid ((stb A x).length ≤ tchX (kn (En E) E.length) (En E) row row2 A x (px (sdx (En E) x) 0 E.length) ∧ tchX (kn (En E) E.length) (En E) row row2 A x (px (sdx (En E) x) 0 E.length) ≤ (stb A x).length + 2 * lgN (E.length + 1)) := Lib.hid (by omega)
  have hf := h2.1
  clear hT hI hA hs h1 h2 h3
  generalize toldX (kn (En E) E.length) (En E) row row2 A x (px (sdx (En E) x) 0 E.length) = T at *
  generalize tchX (kn (En E) E.length) (En E) row row2 A x (px (sdx (En E) x) 0 E.length) = t at *
  go_enter Try.func36, Try.ntmps36
  go_upto_region 4 with (first
    | (go_at_call 40; (with_reducible refine HM.out.mono ?_); rintro e w1 ⟨rfl, rfl⟩)
    | (go_at_call 41; (with_reducible refine HH.out.mono ?_); rintro e w2 ⟨⟨v, rfl, hr⟩, hb⟩; have HR := Lib.hid hr; have HB := Lib.hid hb; clear hr hb))
  have HTO := Lib.hid (told_any _ _ _ _ HR.out (by rw [ids_len]; omega))
  have HG := Lib.hid (own_geB HR.out)
  go_wp2_with (go_at_call 35; (with_reducible refine HTO.out.mono ?_); rintro e w3 ⟨rfl, h3, h4⟩; have H4 := Lib.hid h3; have H5 := Lib.hid h4; clear h3 h4)
  go_ret2
  refine ⟨⟨v, t, rfl, ?_, H3.out⟩, HB.out.trans (H5.out.below HB.out.size (fun k hk => HG.out k (by simpa using hk)))⟩
  have := H4.out
  rw [H1.out.1, ids_len, H1.out.2] at this
  exact this
end
end Go.Proofs.Ytgcimicbbadapaa.Iv
