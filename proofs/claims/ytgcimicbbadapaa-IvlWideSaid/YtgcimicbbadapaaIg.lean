/-
  A tree is made of right spans (grown). No condition but those typed at each theorem.
-/
import Derived.Test.YtgcimicbbadapaaIv
import Derived.Test.YtgcimicbbadapaaIs
import Derived.Test.YtgcimicbbadapaaSr
import Derived.Test.YtgcimicbbadapaaIz
import Derived.Test.YtgcimicbbadapaaIy
namespace Go.Proofs.Ytgcimicbbadapaa.Iv
open Go.RowKit

theorem os_ns {w w' : World} {q : Option Addr} {xs : List Int} (h : I64.OS w w' q xs) : NS w' q .i64 xs ∧ ∀ x off, q = some ⟨x, off, none⟩ → w.heap.size ≤ x := by
  rcases h with ⟨rfl, rfl⟩ | ⟨g, rfl, hg, hh⟩
  · exact ⟨.inl rfl, fun x off e => (by cases e)⟩
  · refine ⟨.inr ⟨g, 0, rfl, fun j x e => ?_⟩, fun x off e => (by cases e; exact hg)⟩
    have hj := (List.getElem?_eq_some_iff.1 e).1
    have h1 := (hh j (by simpa using hj)).1
    have h2 : xs.toArray[j]! = x := by
      have := (List.getElem?_eq_some_iff.1 e).2
      simp [hj]
      exact this
    rw [h2] at h1
    exact h1
theorem mem_ends {L : List S3} {s : S3} (h : s ∈ L) : s.1 ∈ I64.onceL (endsL L) ∧ s.2.1 ∈ I64.onceL (endsL L) := by
  have h1 := I64.once_spec (endsL L)
  refine ⟨(h1.2 _).2 ?_, (h1.2 _).2 ?_⟩
  · unfold endsL; exact List.mem_flatMap.2 ⟨s, h, by simp⟩
  · unfold endsL; exact List.mem_flatMap.2 ⟨s, h, by simp⟩
/-- a sorted list of unlike names is strictly in order -/
theorem strict_lo {L row : List S3} (hL : Rg L) (hp : row.Perm L) (h : row.Pairwise (fun s t => ¬ cLo t s < 0)) : row.Pairwise (fun s t => cLo s t < 0) := by
  have hr := Rg.perm hp.symm hL
  have hn : row.Pairwise (fun s t => s.2.2 ≠ t.2.2) := List.Pairwise.of_map (S := fun a b => a ≠ b) (·.2.2) (fun _ _ h => h) hr.2
  refine (h.and hn).imp (fun {s t} hst => ?_)
  obtain ⟨h1, h2⟩ := hst
  rw [cLo_neg] at h1 ⊢
  omega
theorem strict_hi {L row : List S3} (hL : Rg L) (hp : row.Perm L) (h : row.Pairwise (fun s t => ¬ cHi t s < 0)) : row.Pairwise (fun s t => cHi s t < 0) := by
  have hr := Rg.perm hp.symm hL
  have hn : row.Pairwise (fun s t => s.2.2 ≠ t.2.2) := List.Pairwise.of_map (S := fun a b => a ≠ b) (·.2.2) (fun _ _ h => h) hr.2
  refine (h.and hn).imp (fun {s t} hst => ?_)
  obtain ⟨h1, h2⟩ := hst
  rw [cHi_neg] at h1 ⊢
  omega
/-- a line that is laid -/
theorem lnm_of {X : World} {g o : Nat} {SP A : List S3} {p : Option Addr} {c br bo : Nat} (hsp : X.cell? ⟨g, o, none⟩ = some (.slice p SP.length c)) (hrs : X.cell? ⟨g, o + 1, none⟩ = some (.slice (some ⟨br, 0, none⟩) (SP.length + 1) (SP.length + 1))) (hos : X.cell? ⟨g, o + 2, none⟩ = some (.slice (some ⟨bo, 0, none⟩) (SP.length + 1) (SP.length + 1))) (hts : TsS X p SP) (hc : SP.length ≤ c) (hr : EV 162 X br (flatR (layR (SP.length + 1) (SP.length + 1)))) (hb : EB .i64 3 X bo (zs (layO (SP.length + 1) (SP.length + 1)))) (hf : SP.length ≤ 8192) (hne : g ≠ br ∧ g ≠ bo ∧ br ≠ bo ∧ ∀ x off, p = some ⟨x, off, none⟩ → x ≠ br ∧ x ≠ bo) (hA : ∀ s ∈ SP, s ∈ A) :
    ∃ R O, LnM X g o SP A p c br bo R O := by
  rw [(lay_done (SP.length + 1)).1] at hr
  rw [(lay_done (SP.length + 1)).2] at hb
  refine ⟨_, _, hsp, hrs, hos, hts, hc, hr, hb, RnI.start _ _ (fun q h1 => ?_), hf, hne⟩
  rcases Nat.lt_or_ge q SP.length with g | g
  · have hs : SP[q]? = some SP[q] := List.getElem?_eq_getElem g
    rw [alA_at hs]
    exact decide_eq_true (hA _ (List.mem_of_getElem? hs))
  · exact alA_end g

theorem kf_lt {E : List Int} {L : List S3} (hR : Rg L) (hE : E.Pairwise (· < ·)) (hM : ∀ s ∈ L, s.1 ∈ E ∧ s.2.1 ∈ E) : ∀ s ∈ L, s.1 ≤ s.2.1 ∧ kn (En E) E.length s < E.length :=
  fun s hs => ⟨hR.1 s hs, (kn_spec hE (hR.1 s hs) (hM s hs).1 (hM s hs).2).1⟩
theorem shares_n {w : World} {g : Nat} {E : List Int} {qe : Option Addr} {ce : Nat} (h : EnM w g E qe ce) (hE : E.length ≤ 4096) (p : Option Addr) (c : Nat) (L : List S3) {n : Nat} (hn : n = L.length) (hx : TsS w p L) (hl : n ≤ 4096) (hr : ∀ s ∈ L, s.1 ≤ s.2.1 ∧ kn (En E) E.length s < E.length) :
    Calls Try.prog 64 #[.pointer (some ⟨g, 0, none⟩), .slice p n c] w fun e w' => ∃ b, e = .returned (.slice (some ⟨b, 0, none⟩) (E.length + 1) (E.length + 1)) ∧ EB .i64 3 w' b (zs (mapR (E.length + 1) (stt (kn (En E) E.length) L))) ∧ w.heap.size ≤ b ∧ Below w.heap.size w w' := by
  subst hn
  exact shares_any h hE p c L hx hl hr
theorem kbk_n {w : World} {g : Nat} {E : List Int} {qe : Option Addr} {ce : Nat} (h : EnM w g E qe ce) (hE : E.length ≤ 4096) (sb : Nat) (hs0 : w.cell? ⟨g, 2, none⟩ = some (.slice (some ⟨sb, 0, none⟩) (E.length + 1) (E.length + 1))) (p : Option Addr) (c : Nat) {L R : List S3} {n : Nat} (hn : n = L.length) (hp : R.Perm L) (hx : TsS w p R) (hl : n ≤ 4096) (hst : EB .i64 3 w sb (zs (mapR (E.length + 1) (stt (kn (En E) E.length) L)))) (hr : ∀ s ∈ L, s.1 ≤ s.2.1 ∧ kn (En E) E.length s < E.length) :
    Calls Try.prog 65 #[.pointer (some ⟨g, 0, none⟩), .slice p n c] w fun e w' => ∃ b RI, e = .returned (.slice (some ⟨b, 0, none⟩) n n) ∧ Ts w' b 0 RI ∧ KbK (kn (En E) E.length) R E.length RI ∧ w.heap.size ≤ b ∧ b < w'.heap.size ∧ Below w.heap.size w w' := by
  have e : n = R.length := by rw [hn, hp.length_eq]
  subst e
  exact kbk_any h hE sb hs0 p c R hx hl (by rw [show stt (kn (En E) E.length) R = stt (kn (En E) E.length) L from funext (stt_perm hp)]; exact hst) (fun s hs => hr s (hp.mem_iff.1 hs))
/-- the block in which a list lies, if it has any -/
def pb : Option Addr → Nat → List Nat
  | some ⟨x, _, none⟩, _ + 1 => [x]
  | _, _ => []
theorem pb_mem {p : Option Addr} {n k : Nat} : k ∈ pb p n ↔ n ≠ 0 ∧ ∃ off, p = some ⟨k, off, none⟩ := by
  rcases p with _ | ⟨x, off, _ | z⟩ <;> rcases n with _ | n <;> simp [pb, eq_comm]
/-- the blocks of a tree -/
def blks (P : IvP) (E : List Int) (row RI FA : List S3) : List Nat := [P.g, P.sb, P.br, P.bo, P.fr, P.fo, P.wr, P.wo] ++ (pb P.qe E.length ++ (pb P.pr RI.length ++ (pb P.pf FA.length ++ (pb P.pw row.length ++ pb P.pl row.length))))
theorem blks_all {P : IvP} {E : List Int} {row RI FA : List S3} {f : Nat → Prop} (h1 : ∀ k ∈ [P.g, P.sb, P.br, P.bo, P.fr, P.fo, P.wr, P.wo], f k) (h2 : ∀ x off, P.qe = some ⟨x, off, none⟩ → E ≠ [] → f x) (h3 : ∀ x off, P.pr = some ⟨x, off, none⟩ → RI ≠ [] → f x) (h4 : ∀ x off, P.pf = some ⟨x, off, none⟩ → FA ≠ [] → f x) (h5 : ∀ x off, P.pw = some ⟨x, off, none⟩ → row ≠ [] → f x) (h6 : ∀ x off, P.pl = some ⟨x, off, none⟩ → row ≠ [] → f x) : ∀ k ∈ blks P E row RI FA, f k := by
  intro k hk
  unfold blks at hk
  rw [List.mem_append, List.mem_append, List.mem_append, List.mem_append, List.mem_append, pb_mem, pb_mem, pb_mem, pb_mem, pb_mem] at hk
  rcases hk with hk | ⟨hn, off, e⟩ | ⟨hn, off, e⟩ | ⟨hn, off, e⟩ | ⟨hn, off, e⟩ | ⟨hn, off, e⟩
  · exact h1 k hk
  · exact h2 k off e (fun h => hn (by rw [h]; rfl))
  · exact h3 k off e (fun h => hn (by rw [h]; rfl))
  · exact h4 k off e (fun h => hn (by rw [h]; rfl))
  · exact h5 k off e (fun h => hn (by rw [h]; rfl))
  · exact h6 k off e (fun h => hn (by rw [h]; rfl))

/-- the cells of a tree -/
@[reducible] def tcs (a b c d e f g h i j k l m n : Value) : List Value := [a, b, c, d, e, f, g, h, i, j, k, l, m, n]
theorem info_i : (Try.prog.info? 2).map (fun i => (i.zero, i.size, i.bytes)) = some (some (.int .i64 0), 1, 8) := by kernel_rfl
theorem under_i : Try.prog.underlying 23 = some (.slice 2) := by kernel_rfl

set_option maxRecDepth 100000 in
set_option maxHeartbeats 6400000 in
theorem grown_any (w : World) (p : Option Addr) (c : Nat) (L : List S3) (hx : TsS w p L) (hl : L.length ≤ 400) (hc : L.length ≤ c) (hR : Rg L) :
    Calls Try.prog 39 #[.slice p L.length c] w fun e w' => ∃ P E row RI FA row2, e = .returned (.pointer (some ⟨P.g, 0, none⟩)) ∧ IvM w' P E row RI FA L ∧ IvI E row RI FA row2 ∧ IvNe P E ∧ row.Perm L ∧ E.length ≤ 2 * L.length ∧ (∀ k ∈ blks P E row RI FA, w.heap.size ≤ k) ∧ Below w.heap.size w w' := by
  have HX := Lib.hid hx
  have HRG := Lib.hid hR
  have HSL := Lib.hid (fun X (hb : Below w.heap.size w X) => sorted_any p c X.heap.size L (X.alloc (.cells #[.slice p L.length c] 22)) (by simp) (one_new X _ _).1 ((hx.keep hb).keep ((Below.refl _ X).alloc (Nat.le_refl _) _)) (by omega) _ cLo egLo swoLo (fun X s t => cLo_any s t X))
  have HSH := Lib.hid (fun X (hb : Below w.heap.size w X) => sorted_any p c X.heap.size L (X.alloc (.cells #[.slice p L.length c] 22)) (by simp) (one_new X _ _).1 ((hx.keep hb).keep ((Below.refl _ X).alloc (Nat.le_refl _) _)) (by omega) _ cHi egHi swoHi (fun X s t => cHi_any s t X))
  have HEN := Lib.hid (fun X (hb : Below w.heap.size w X) => ends_any X p c L (hx.keep hb) hl)
  have hel : (I64.onceL (endsL L)).length ≤ 2 * L.length := by rw [← endsL_len]; exact I64.onceL_len _
  have HES := Lib.hid (I64.once_spec (endsL L)).1
  have HME := Lib.hid (fun s (h : s ∈ L) => mem_ends h)
  obtain ⟨E, hE⟩ : ∃ E, E = I64.onceL (endsL L) := ⟨_, rfl⟩
  rw [← hE] at HEN HES HME hel
  obtain ⟨n, hn⟩ : ∃ n, n = L.length := ⟨_, rfl⟩
  have HN := Lib.hid hn
  rw [← hn] at HSL HSH HEN hl hel hc ⊢
  clear hx hR hE hn
  have HKF := Lib.hid (kf_lt HRG.out HES.out HME.out)
  go_enter Try.func39, Try.ntmps39
  go_upto_region 2 with (first
    | (go_at_call 60; (with_reducible refine (values_any _ _ _ _).mono ?_); rintro e wa ⟨rfl, rfl⟩)
    | (go_at_call 59; (refine (HSL.out _ (Below.refl _ _)).mono ?_); rintro e w1 ⟨q1, c1, row, he, h1, h2, h3, h4, h5, h6, h7⟩; rw [← HN.out] at he; subst he; have HP1 := Lib.hid h1; have HW1 := Lib.hid h2; have HT1 := Lib.hid h3; have HC1 := Lib.hid h4; have HG1 := Lib.hid h5; have HB1 := Lib.hid (((Below.refl w.heap.size w).alloc (Nat.le_refl _) _).trans (h7.mono (by simp))); clear h1 h2 h3 h4 h5 h6 h7))
  go_upto_region 3 with (first
    | (go_at_call 60; (with_reducible refine (values_any _ _ _ _).mono ?_); rintro e wa ⟨rfl, rfl⟩)
    | (go_at_call 59; (refine (HSH.out _ HB1.out).mono ?_); rintro e w2 ⟨q2, c2, row2, he, h1, h2, h3, h4, h5, h6, h7⟩; rw [← HN.out] at he; subst he; have HP2 := Lib.hid h1; have HW2 := Lib.hid h2; have HT2 := Lib.hid h3; have HC2 := Lib.hid h4; have HG2 := Lib.hid h5; have hb12 := ((Below.refl w1.heap.size w1).alloc (Nat.le_refl _) _).trans (h7.mono (by simp)); have HT1 := Lib.hid (HT1.out.keep hb12); have HB2 := Lib.hid (HB1.out.trans (hb12.mono HB1.out.size)); have HZ12 := Lib.hid hb12.size; clear h1 h2 h3 h4 h5 h6 h7 hb12))
  go_upto_region 4 with (first
    | (go_at_call 28; (refine (HEN.out _ HB2.out).mono ?_); rintro e w3 ⟨q3, c3, rfl, h1, h2⟩; have HO3 := Lib.hid (os_ns h1); have HT1 := Lib.hid (HT1.out.keep h2); have HT2 := Lib.hid (HT2.out.keep h2); have HB3 := Lib.hid (HB2.out.trans (h2.mono HB2.out.size)); have HZ23 := Lib.hid h2.size; clear h1 h2)
    | (go_at_call 63; (with_reducible refine (lay_any _ q1 c1 n (by omega)).mono ?_); rintro e w4 ⟨v, rfl, wru, wou, rfl, r1, r2, r3, r4, r5, r6⟩; have HL1 := Lib.hid r1; have HL2 := Lib.hid r2; have HL3 := Lib.hid (And.intro r3 (And.intro r4 r5)); have HT1 := Lib.hid (HT1.out.keep r6); have HT2 := Lib.hid (HT2.out.keep r6); have HE4 := Lib.hid (And.intro (HO3.out.1.keep r6) HO3.out.2); have HB4 := Lib.hid (HB3.out.trans (r6.mono HB3.out.size)); have HZ34 := Lib.hid r6.size; clear r1 r2 r3 r4 r5 r6))
  obtain ⟨W, hW⟩ : ∃ W, W = w4.alloc (.cells #[.pointer none, .slice q3 E.length c3, .slice none 0 0, .slice none 0 0, .slice none 0 0, .slice none 0 0, .slice none 0 0, .slice none 0 0, .slice none 0 0, .slice q1 n c1, .slice (some ⟨wru, 0, none⟩) (n + 1) (n + 1), .slice (some ⟨wou, 0, none⟩) (n + 1) (n + 1), .slice none 0 0, .int .i64 n] 88) := ⟨_, rfl⟩
  rw [← hW]
  have HV : Hid (EV 88 W w4.heap.size (tcs (.pointer none) (.slice q3 E.length c3) (.slice none 0 0) (.slice none 0 0) (.slice none 0 0) (.slice none 0 0) (.slice none 0 0) (.slice none 0 0) (.slice none 0 0) (.slice q1 n c1) (.slice (some ⟨wru, 0, none⟩) (n + 1) (n + 1)) (.slice (some ⟨wou, 0, none⟩) (n + 1) (n + 1)) (.slice none 0 0) (.int .i64 n))) := Lib.hid (by rw [hW]; exact heap_alloc_new w4 _)
  have HG : Hid (Below w4.heap.size w4 W) := Lib.hid (by rw [hW]; exact (Below.refl _ w4).alloc (Nat.le_refl _) _)
  clear hW
  generalize hT : w4.heap.size = T at *
  have HTT := Lib.hid hT
  clear hT
  have y0 := HV.out.cell (i := 0) rfl
  have f0 := HV.out.free 0
  go_upto_region 5 with fail
  clear y0 f0
  obtain ⟨W5, hW5⟩ : ∃ X, X = W.setCell ⟨T, 0, none⟩ (.pointer (some ⟨T, 0, none⟩)) := ⟨_, rfl⟩
  rw [← hW5]
  have HV5 : Hid (EV 88 W5 T (tcs (.pointer (some ⟨T, 0, none⟩)) (.slice q3 E.length c3) (.slice none 0 0) (.slice none 0 0) (.slice none 0 0) (.slice none 0 0) (.slice none 0 0) (.slice none 0 0) (.slice none 0 0) (.slice q1 n c1) (.slice (some ⟨wru, 0, none⟩) (n + 1) (n + 1)) (.slice (some ⟨wou, 0, none⟩) (n + 1) (n + 1)) (.slice none 0 0) (.int .i64 n))) := Lib.hid (by rw [hW5]; exact HV.out.set 0 _)
  have HG5 : Hid (Below T w4 W5) := Lib.hid (by rw [hW5]; exact HG.out.setCell (Nat.le_refl _) _)
  clear HV HG hW5
  have hTW5 := HV5.out.lt
  have HEN5 : Hid (EnM W5 T E q3 c3) := Lib.hid ⟨HV5.out.cell (i := 1) rfl, HE4.out.1.keep (by rw [HTT.out]; exact HG5.out), by omega⟩
  have HXW5 := Lib.hid (HX.out.keep (HB4.out.trans (HG5.out.mono (by rw [← HTT.out]; exact HB4.out.size))))
  go_upto_region 6 with (go_at_call 64; (with_reducible refine (shares_n HEN5.out (by omega) p c L HN.out HXW5.out (by omega) HKF.out).mono ?_); rintro e w5 ⟨sb, rfl, r1, r2, r3⟩; have HSB := Lib.hid r1; have HSZ := Lib.hid r2; have HB5 := Lib.hid r3; have HV5 := Lib.hid (HV5.out.keep r3 HV5.out.lt); have y0 := HV5.out.cell (i := 2) rfl; have f0 := HV5.out.free 2; clear r1 r2 r3)
  clear y0 f0
  obtain ⟨W6, hW6⟩ : ∃ X, X = w5.setCell ⟨T, 2, none⟩ (.slice (some ⟨sb, 0, none⟩) (E.length + 1) (E.length + 1)) := ⟨_, rfl⟩
  rw [← hW6]
  have HV6 : Hid (EV 88 W6 T (tcs (.pointer (some ⟨T, 0, none⟩)) (.slice q3 E.length c3) (.slice (some ⟨sb, 0, none⟩) (E.length + 1) (E.length + 1)) (.slice none 0 0) (.slice none 0 0) (.slice none 0 0) (.slice none 0 0) (.slice none 0 0) (.slice none 0 0) (.slice q1 n c1) (.slice (some ⟨wru, 0, none⟩) (n + 1) (n + 1)) (.slice (some ⟨wou, 0, none⟩) (n + 1) (n + 1)) (.slice none 0 0) (.int .i64 n))) := Lib.hid (by rw [hW6]; exact HV5.out.set 2 _)
  have HTS : Hid (T ≠ sb ∧ W5.heap.size ≤ sb ∧ T < W5.heap.size) := Lib.hid ⟨by have := HSZ.out; omega, HSZ.out, hTW5⟩
  have HO5 : Hid (Off [T] w5 W6) := Lib.hid (by rw [hW6]; exact (Off.refl _ _).set _ _ (.inl (by simp)))
  have HG6 : Hid (Below T w4 W6) := Lib.hid (by rw [hW6]; exact (HG5.out.trans (HB5.out.mono (by omega))).setCell (Nat.le_refl _) _)
  clear hW6
  have HEN6 : Hid (EnM W6 T E q3 c3) := Lib.hid ⟨HV6.out.cell (i := 1) rfl, HE4.out.1.keep (by rw [HTT.out]; exact HG6.out), by omega⟩
  have HT1a := Lib.hid (HT1.out.keep (by rw [HTT.out]; exact HG6.out : Below w4.heap.size w4 W6))
  have HSB6 := Lib.hid (HSB.out.off HO5.out (by simp; exact Ne.symm HTS.out.1))
  have s0 := HV6.out.cell (i := 2) rfl
  go_upto_region 7 with (first
    | (go_at_call 65; (with_reducible refine (kbk_n HEN6.out (by omega) sb s0 q1 c1 HN.out HP1.out HT1a.out (by omega) HSB6.out HKF.out).mono ?_); rintro e w6 ⟨b1, RI, rfl, r1, r2, r3, r4, r5⟩; have HR1 := Lib.hid r1; have HR2 := Lib.hid r2; have HR3 := Lib.hid (And.intro r3 r4); have HB6 := Lib.hid r5; have HV6 := Lib.hid (HV6.out.keep r5 HV6.out.lt); clear r1 r2 r3 r4 r5)
    | (go_at_call 63; (with_reducible refine (lay_any _ (some ⟨b1, 0, none⟩) n n (by omega)).mono ?_); rintro e w7 ⟨v, rfl, br, bo, rfl, r1, r2, r3, r4, r5, r6⟩; have HM1 := Lib.hid r1; have HM2 := Lib.hid r2; have HM3 := Lib.hid (And.intro r3 (And.intro r4 r5)); have HB7 := Lib.hid r6; have HV6 := Lib.hid (HV6.out.keep r6 HV6.out.lt); have y0 := HV6.out.cell (i := 3) rfl; have f0 := HV6.out.free 3; have y1 := HV6.out.cell (i := 4) rfl; have f1 := HV6.out.free 4; have y2 := HV6.out.cell (i := 5) rfl; have f2 := HV6.out.free 5; clear r1 r2 r3 r4 r5 r6))
  clear y0 y1 y2 f0 f1 f2
  obtain ⟨W7, hW7⟩ : ∃ X, X = (((w7.setCell ⟨T, 3, none⟩ (.slice (some ⟨b1, 0, none⟩) n n)).setCell ⟨T, 4, none⟩ (.slice (some ⟨br, 0, none⟩) (n + 1) (n + 1))).setCell ⟨T, 5, none⟩ (.slice (some ⟨bo, 0, none⟩) (n + 1) (n + 1))) := ⟨_, rfl⟩
  rw [← hW7]
  have HV7 : Hid (EV 88 W7 T (tcs (.pointer (some ⟨T, 0, none⟩)) (.slice q3 E.length c3) (.slice (some ⟨sb, 0, none⟩) (E.length + 1) (E.length + 1)) (.slice (some ⟨b1, 0, none⟩) n n) (.slice (some ⟨br, 0, none⟩) (n + 1) (n + 1)) (.slice (some ⟨bo, 0, none⟩) (n + 1) (n + 1)) (.slice none 0 0) (.slice none 0 0) (.slice none 0 0) (.slice q1 n c1) (.slice (some ⟨wru, 0, none⟩) (n + 1) (n + 1)) (.slice (some ⟨wou, 0, none⟩) (n + 1) (n + 1)) (.slice none 0 0) (.int .i64 n))) := Lib.hid (by rw [hW7]; exact ((HV6.out.set 3 _).set 4 _).set 5 _)
  have HO7 : Hid (Off [T] w7 W7) := Lib.hid (by rw [hW7]; exact (((Off.refl _ _).set _ _ (.inl (by simp))).set _ _ (.inl (by simp))).set _ _ (.inl (by simp)))
  have HTSa : Hid (T < W6.heap.size ∧ W6.heap.size ≤ b1 ∧ b1 < w6.heap.size ∧ w6.heap.size ≤ br ∧ w6.heap.size ≤ bo ∧ br ≠ bo ∧ br < w7.heap.size ∧ bo < w7.heap.size ∧ sb < w5.heap.size ∧ w5.heap.size ≤ W6.heap.size) := Lib.hid ⟨Nat.lt_of_lt_of_le hTW5 (Nat.le_trans HB5.out.size HO5.out.size), HR3.out.1, HR3.out.2, HM3.out.1, HM3.out.2.1, HM3.out.2.2, HM1.out.lt, HM2.out.lt, HSB.out.lt, HO5.out.size⟩
  have HG7 : Hid (Below T w4 W7) := Lib.hid (by have := HTSa.out; have h1 := (HG6.out.trans (HB6.out.mono (by omega))).trans (HB7.out.mono (by have := HB6.out.size; omega)); exact h1.trans (HO7.out.below (by have := h1.size; have := HB6.out.size; have := HB7.out.size; omega) (by simp)))
  clear hW7
  have HO57 := Lib.hid (((HO5.out.bel HB6.out).bel HB7.out).trans HO7.out)
  have HO67 := Lib.hid ((Off.of (S := [T]) HB7.out (Nat.le_refl _)).trans HO7.out)
  have HEN7 : Hid (EnM W7 T E q3 c3) := Lib.hid ⟨HV7.out.cell (i := 1) rfl, HE4.out.1.keep (by rw [HTT.out]; exact HG7.out), by omega⟩
  have HT2a := Lib.hid (HT2.out.keep (by rw [HTT.out]; exact HG7.out : Below w4.heap.size w4 W7))
  have HSB7 := Lib.hid (HSB.out.off HO57.out (by simp; exact Ne.symm HTS.out.1))
  clear s0
  have s0 := HV7.out.cell (i := 2) rfl
  go_upto_region 8 with (first
    | (go_at_call 65; (with_reducible refine (kbk_n HEN7.out (by omega) sb s0 q2 c2 HN.out HP2.out HT2a.out (by omega) HSB7.out HKF.out).mono ?_); rintro e w8 ⟨b2, FA, rfl, r1, r2, r3, r4, r5⟩; have HF1 := Lib.hid r1; have HF2 := Lib.hid r2; have HF3 := Lib.hid (And.intro r3 r4); have HB8 := Lib.hid r5; have HV7 := Lib.hid (HV7.out.keep r5 HV7.out.lt); clear r1 r2 r3 r4 r5)
    | (go_at_call 63; (with_reducible refine (lay_any _ (some ⟨b2, 0, none⟩) n n (by omega)).mono ?_); rintro e w9 ⟨v, rfl, fr, fo, rfl, r1, r2, r3, r4, r5, r6⟩; have HQ1 := Lib.hid r1; have HQ2 := Lib.hid r2; have HQ3 := Lib.hid (And.intro r3 (And.intro r4 r5)); have HB9 := Lib.hid r6; have HV7 := Lib.hid (HV7.out.keep r6 HV7.out.lt); have y0 := HV7.out.cell (i := 6) rfl; have f0 := HV7.out.free 6; have y1 := HV7.out.cell (i := 7) rfl; have f1 := HV7.out.free 7; have y2 := HV7.out.cell (i := 8) rfl; have f2 := HV7.out.free 8; clear r1 r2 r3 r4 r5 r6))
  clear y0 y1 y2 f0 f1 f2
  obtain ⟨W9, hW9⟩ : ∃ X, X = (((w9.setCell ⟨T, 6, none⟩ (.slice (some ⟨b2, 0, none⟩) n n)).setCell ⟨T, 7, none⟩ (.slice (some ⟨fr, 0, none⟩) (n + 1) (n + 1))).setCell ⟨T, 8, none⟩ (.slice (some ⟨fo, 0, none⟩) (n + 1) (n + 1))) := ⟨_, rfl⟩
  rw [← hW9]
  have HV9 : Hid (EV 88 W9 T (tcs (.pointer (some ⟨T, 0, none⟩)) (.slice q3 E.length c3) (.slice (some ⟨sb, 0, none⟩) (E.length + 1) (E.length + 1)) (.slice (some ⟨b1, 0, none⟩) n n) (.slice (some ⟨br, 0, none⟩) (n + 1) (n + 1)) (.slice (some ⟨bo, 0, none⟩) (n + 1) (n + 1)) (.slice (some ⟨b2, 0, none⟩) n n) (.slice (some ⟨fr, 0, none⟩) (n + 1) (n + 1)) (.slice (some ⟨fo, 0, none⟩) (n + 1) (n + 1)) (.slice q1 n c1) (.slice (some ⟨wru, 0, none⟩) (n + 1) (n + 1)) (.slice (some ⟨wou, 0, none⟩) (n + 1) (n + 1)) (.slice none 0 0) (.int .i64 n))) := Lib.hid (by rw [hW9]; exact ((HV7.out.set 6 _).set 7 _).set 8 _)
  have HO9 : Hid (Off [T] w9 W9) := Lib.hid (by rw [hW9]; exact (((Off.refl _ _).set _ _ (.inl (by simp))).set _ _ (.inl (by simp))).set _ _ (.inl (by simp)))
  clear hW9
  have HTSb : Hid (w7.heap.size ≤ W7.heap.size ∧ W7.heap.size ≤ b2 ∧ b2 < w8.heap.size ∧ w8.heap.size ≤ fr ∧ w8.heap.size ≤ fo ∧ fr ≠ fo ∧ fr < w9.heap.size ∧ fo < w9.heap.size ∧ w9.heap.size ≤ W9.heap.size) := Lib.hid ⟨HO7.out.size, HF3.out.1, HF3.out.2, HQ3.out.1, HQ3.out.2.1, HQ3.out.2.2, HQ1.out.lt, HQ2.out.lt, HO9.out.size⟩
  have HG9 : Hid (Below T w4 W9) := Lib.hid (by have := HTSa.out; have := HTSb.out; have h1 := (HG7.out.trans (HB8.out.mono (by omega))).trans (HB9.out.mono (by omega)); exact h1.trans (HO9.out.below (by omega) (by simp)))
  have HO89 := Lib.hid ((Off.of (S := [T]) HB9.out (Nat.le_refl _)).trans HO9.out)
  have HO79 := Lib.hid ((HO7.out.bel HB8.out).trans HO89.out)
  have HO69 := Lib.hid ((Off.of (S := [T]) HB7.out (Nat.le_refl _)).trans HO79.out)
  have HO59 := Lib.hid ((HO57.out.bel HB8.out).trans HO89.out)
  clear s0 HO57 HO67 HO5 HO7 HV5 HV6 HV7 HG5 HG6 HG7 HEN5 HEN6 HEN7 HT1a HT2a HSB6 HSB7
  have HN9 : Hid (T < W9.heap.size) := Lib.hid HV9.out.lt
  have HP1l : Hid (row.length = n) := Lib.hid (by rw [HP1.out.length_eq, HN.out])
  have HT1b := Lib.hid (HT1.out)
  have HG9c : Hid (∀ X, Off [T] W9 X → Below T w4 X) := Lib.hid (fun X o => HG9.out.trans (o.below (Nat.le_of_lt HN9.out) (by simp)))
  go_wp2
  go_loopw [48] (fun v wx => ∃ (i : Nat) (u : Value), i ≤ n ∧ v = .int .i64 i ∧ Hid (EV 88 wx T (tcs (.pointer (some ⟨T, 0, none⟩)) (.slice q3 E.length c3) (.slice (some ⟨sb, 0, none⟩) (E.length + 1) (E.length + 1)) (.slice (some ⟨b1, 0, none⟩) n n) (.slice (some ⟨br, 0, none⟩) (n + 1) (n + 1)) (.slice (some ⟨bo, 0, none⟩) (n + 1) (n + 1)) (.slice (some ⟨b2, 0, none⟩) n n) (.slice (some ⟨fr, 0, none⟩) (n + 1) (n + 1)) (.slice (some ⟨fo, 0, none⟩) (n + 1) (n + 1)) (.slice q1 n c1) (.slice (some ⟨wru, 0, none⟩) (n + 1) (n + 1)) (.slice (some ⟨wou, 0, none⟩) (n + 1) (n + 1)) u (.int .i64 n))) ∧ Hid (wx.ownsRow 0 2 1 u i (((row.take i).map (·.1)).map (Value.int .i64))) ∧ Hid (∀ k, u.ownBlock = some k → W9.heap.size ≤ k) ∧ Hid (Off [T] W9 wx)) (fun v _ => n - (intOf v).toNat)
  case atStart => exact ⟨0, .slice none 0 0, Nat.zero_le _, rfl, HV9, Lib.hid (World.ownsRow_nil ..), Lib.hid (fun k h => by cases h), Lib.hid (Off.refl _ _)⟩
  case round =>
    clear HV9
    obtain ⟨i, u, hi, rfl, HV, HR, HU, HO⟩ := hrel
    by_cases hlt : i < n
    · have hltz : (i : Int) < n := by omega
      obtain ⟨s, hse⟩ : ∃ s, row[i]? = some s := ⟨_, List.getElem?_eq_getElem (by rw [HP1l.out]; omega)⟩
      obtain ⟨bb, off, rfl, h1⟩ := (HT1b.out.keep (by rw [HTT.out]; exact HG9c.out _ HO.out)).at hse
      have n0 := h1.c0
      have n1 := h1.c1
      have n2 := h1.c2
      have HSE := Lib.hid hse
      obtain ⟨lo, hi2, id⟩ := s
      have hcap := HC1.out
      rw [← HN.out] at hcap
      clear hse h1
      go_upto_region 11 with fail
      obtain ⟨W10, hW10⟩ : ∃ X, X = wr.alloc (.cells #[.int .i64 lo, .int .i64 hi2, .int .u32 id] 34) := ⟨_, rfl⟩
      rw [← hW10]
      have hT1 : T1 W10 wr.heap.size 0 (lo, hi2, id) := by rw [hW10]; exact T1.new wr (lo, hi2, id) 34
      have HV10 : Hid (EV 88 W10 T (tcs (.pointer (some ⟨T, 0, none⟩)) (.slice q3 E.length c3) (.slice (some ⟨sb, 0, none⟩) (E.length + 1) (E.length + 1)) (.slice (some ⟨b1, 0, none⟩) n n) (.slice (some ⟨br, 0, none⟩) (n + 1) (n + 1)) (.slice (some ⟨bo, 0, none⟩) (n + 1) (n + 1)) (.slice (some ⟨b2, 0, none⟩) n n) (.slice (some ⟨fr, 0, none⟩) (n + 1) (n + 1)) (.slice (some ⟨fo, 0, none⟩) (n + 1) (n + 1)) (.slice (some ⟨bb, off, none⟩) n c1) (.slice (some ⟨wru, 0, none⟩) (n + 1) (n + 1)) (.slice (some ⟨wou, 0, none⟩) (n + 1) (n + 1)) u (.int .i64 n))) := Lib.hid (by rw [hW10]; exact HV.out.all _)
      have HR10 := Lib.hid ((HR.out.alloc (.cells #[.int .i64 lo, .int .i64 hi2, .int .u32 id] 34)).alloc (.cells #[.int .i64 lo] 2))
      have HO10 : Hid (Off [T] W9 W10) := Lib.hid (by rw [hW10]; exact HO.out.all _)
      rw [← hW10] at HR10
      have HTU : Hid (some T ≠ u.ownBlock) := Lib.hid (fun e => by have := HU.out T e.symm; have := HN9.out; omega)
      have m0 := hT1.c0
      have y0 := HV10.out.cell (i := 12) rfl
      have lT : T < W10.heap.size := HV10.out.lt
      have lS := World.block_lt_of_cell? _ _ m0
      clear hW10 n0 n1 n2 hT1
      go_region_law ((refine step_more info_i rfl (by decide) (by decide) under_i rfl (.tmp 56) (.tmp 59) rfl u i _ (by simp [Act.eval]) (by exact HR10.out) ⟨W10.heap.size, 0, none⟩ 1 1 [.int .i64 lo] (by simp [Act.eval]) rfl (one_at W10 _ _) (by simp [Value.oneCell']) (by omega) (by omega) ?_; intro a cp w6 r1 r2 r3; have hv6 := EV.grown (show EV 88 (W10.drew.alloc (.cells #[.int .i64 lo] 2)) T _ from HV10.out.all _) r2 HTU.out; have m1 := hv6.cell (i := 12) rfl; have m2 := hv6.free 12; have HN6 := Lib.hid hv6; have HR6 := Lib.hid r1; have HA6 : Hid (W9.heap.size ≤ a) := Lib.hid (by rcases r3 with e | e; exact HU.out _ e; have := HO10.out.size; subst e; show _ ≤ (W10.alloc (.cells #[.int .i64 lo] 2)).heap.size; simp; omega); have HO6 := Lib.hid ((HO10.out.drew.all (.cells #[.int .i64 lo] 2)).grow r2 (fun k e => .inr (HU.out k e))); clear r1 r2 r3 hv6))
      all_goals (go_wp2_with fail)
      all_goals (
        go_roundw
        case rel =>
          have hTa : T ≠ a := by have := HA6.out; have := HN9.out; omega
          refine ⟨i + 1, .slice (some ⟨a, 0, none⟩) (i + 1) cp, by omega, by go_num, Lib.hid (HN6.out.set 12 _), Lib.hid ?_, Lib.hid (fun k e => by cases e; exact HA6.out), Lib.hid (HO6.out.set _ _ (.inl (by simp)))⟩
          have e1 : ((row.take (i + 1)).map (·.1)).map (Value.int .i64) = ((row.take i).map (·.1)).map (Value.int .i64) ++ [Value.int .i64 lo] := by rw [List.take_add_one, HSE.out]; simp
          rw [e1]
          exact row_at HR6.out (fun k e => ⟨by cases e; exact Below.heap_setCell _ _ _ _ (Ne.symm hTa), Nat.zero_le _⟩)
        case measure => simp [intOf]; omega)
    · have hltz : ¬ (i : Int) < n := by omega
      obtain rfl : i = n := by omega
      go_wp2
      go_ret
      have HRw := HR.out
      rw [List.take_of_length_le (by rw [HP1l.out]; exact Nat.le_refl _)] at HRw
      obtain ⟨-, pl, cl, hu, hls, -, -⟩ := row_u HRw
      have hU := HU.out
      have hV := HV.out
      rw [hu] at hV hU
      have hG := HG9c.out _ HO.out
      rw [← HTT.out] at hG
      have hn := HN.out
      have eP := HP1l.out
      have eR : RI.length = i := by rw [HR2.out.len, HP1l.out]
      have eF : FA.length = i := by rw [HF2.out.len, HP2.out.length_eq, hn]
      have hT1f := HT1.out.keep hG
      have hr1 : row2.Perm row := HP2.out.trans HP1.out.symm
      have z1 : wru < T := by have := HL1.out.lt; rw [HTT.out] at this; exact this
      have z2 : wou < T := by have := HL2.out.lt; rw [HTT.out] at this; exact this
      have z3 := HL3.out
      have z4 := HTS.out
      have z5 := HTSa.out
      have z6 := HTSb.out
      have z7 := HZ12.out
      have z8 := HZ23.out
      have z9 := HZ34.out
      have o5 := HO59.out.trans HO.out
      have o6 := HO69.out.trans HO.out
      have o7 := HO79.out.trans HO.out
      have o8 := HO89.out.trans HO.out
      have o9 := HO9.out.trans HO.out
      have hq1 : ∀ x off, q1 = some ⟨x, off, none⟩ → x < w1.heap.size := fun x off e => (HG1.out x off e).2
      have hq3 : E ≠ [] → ∀ x off, q3 = some ⟨x, off, none⟩ → x < w3.heap.size := fun hne x off e => by
        rcases HO3.out.1 with h | ⟨b, o, e2, h⟩
        · exact absurd h hne
        · rw [e2] at e
          cases e
          obtain ⟨y, hy⟩ : ∃ y, E[0]? = some y := ⟨_, List.getElem?_eq_getElem (List.length_pos_iff.2 hne)⟩
          exact World.block_lt_of_cell? _ _ (h 0 y hy)
      have hpl : ∀ x off, pl = some ⟨x, off, none⟩ → W9.heap.size ≤ x := fun x off e => hU x (by rw [e]; rfl)
      refine ⟨⟨T, q3, c3, sb, some ⟨b1, 0, none⟩, i, br, bo, some ⟨b2, 0, none⟩, i, fr, fo, q1, c1, wru, wou, pl, cl⟩, rfl, E, row, RI, FA, ?_, ⟨row2, ?_⟩, ?_, HP1.out, by omega, ?_, ?_⟩
      · refine ⟨hV.cell (i := 0) rfl, ⟨hV.cell (i := 1) rfl, HE4.out.1.keep hG, by omega⟩, hV.cell (i := 2) rfl, ?_, ?_, ?_, ?_, ?_, hls.keep (Below.refl _ _), ?_, ⟨_, hV⟩⟩
        · have := HSB.out.off o5 (by simp; omega)
          rw [show stt (kn (En E) E.length) row = stt (kn (En E) E.length) L from funext (stt_perm HP1.out)]
          exact this
        · exact lnm_of (X := wr) (g := T) (p := some ⟨b1, 0, none⟩) (br := br) (bo := bo) (c := i) (by rw [eR]; exact hV.cell (i := 3) rfl) (by rw [eR]; exact hV.cell (i := 4) rfl) (by rw [eR]; exact hV.cell (i := 5) rfl) (TsS.off (.inr ⟨b1, 0, rfl, HR1.out⟩) o6 (fun b off e _ => by cases e; simp; omega)) (by omega) (by rw [eR]; exact HM1.out.off o7 (by simp; omega)) (by rw [eR]; exact HM2.out.off o7 (by simp; omega)) (by omega) ⟨by show T ≠ _; omega, by show T ≠ _; omega, by omega, fun x off e => by cases e; omega⟩ (fun s hs => HP1.out.mem_iff.1 ((HR2.out.mem s).1 hs))
        · exact lnm_of (X := wr) (g := T) (p := some ⟨b2, 0, none⟩) (br := fr) (bo := fo) (c := i) (by rw [eF]; exact hV.cell (i := 6) rfl) (by rw [eF]; exact hV.cell (i := 7) rfl) (by rw [eF]; exact hV.cell (i := 8) rfl) (TsS.off (.inr ⟨b2, 0, rfl, HF1.out⟩) o8 (fun b off e _ => by cases e; simp; omega)) (by omega) (by rw [eF]; exact HQ1.out.off o9 (by simp; omega)) (by rw [eF]; exact HQ2.out.off o9 (by simp; omega)) (by omega) ⟨by show T ≠ _; omega, by show T ≠ _; omega, by omega, fun x off e => by cases e; omega⟩ (fun s hs => HP2.out.mem_iff.1 ((HF2.out.mem s).1 hs))
        · exact lnm_of (X := wr) (g := T) (p := q1) (br := wru) (bo := wou) (c := c1) (by rw [eP]; exact hV.cell (i := 9) rfl) (by rw [eP]; exact hV.cell (i := 10) rfl) (by rw [eP]; exact hV.cell (i := 11) rfl) hT1f (by have := HC1.out; omega) (by rw [eP]; exact HL1.out.keep hG HL1.out.lt) (by rw [eP]; exact HL2.out.keep hG HL2.out.lt) (by omega) ⟨by show T ≠ _; omega, by show T ≠ _; omega, by omega, fun x off e => by have := hq1 x off e; omega⟩ (fun s hs => HP1.out.mem_iff.1 hs)
        · rw [eP]; exact hV.cell (i := 12) rfl
        · rw [← hn]; exact hV.cell (i := 13) rfl
      · have hm : ∀ s ∈ row, s.1 ∈ E ∧ s.2.1 ∈ E := fun s hs => HME.out s (HP1.out.mem_iff.1 hs)
        exact ⟨HRG.out.perm HP1.out.symm, HES.out, hm, strict_lo HRG.out HP1.out (HW1.out.imp (fun h => by omega)), strict_hi HRG.out HP2.out (HW2.out.imp (fun h => by omega)), hr1, HR2.out, HF2.out, by omega⟩
      · refine ⟨by simp [IvP.var]; omega, by simp [IvP.var]; omega, by simp [IvP.var]; omega, fun hne x off e => ?_, fun x off e => ?_, fun x off e => ?_, fun x off e => ?_, fun x off e => ?_⟩
        · have := hq3 hne x off e; simp [IvP.var]; omega
        · cases e; simp [IvP.var]; omega
        · cases e; simp [IvP.var]; omega
        · have := hq1 x off e; simp [IvP.var]; omega
        · have := hpl x off e; simp [IvP.var]; omega
      · have hw0 : w.heap.size ≤ T := by have := HB4.out.size; rw [HTT.out] at this; exact this
        have hw1 := HB1.out.size
        refine blks_all ?_ (fun x off e _ => ?_) (fun x off e _ => ?_) (fun x off e _ => ?_) (fun x off e _ => ?_) (fun x off e _ => ?_)
        · simp; omega
        · have := HE4.out.2 x off e; omega
        · cases e; omega
        · cases e; omega
        · have := (HG1.out x off e).1; simp at this; omega
        · have := hpl x off e; omega
      · exact HB4.out.trans (Below.mono hG (by rw [HTT.out]; have := HB4.out.size; rw [HTT.out] at this; exact this))
end Go.Proofs.Ytgcimicbbadapaa.Iv
