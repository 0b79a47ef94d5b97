/-
  What is asked of a tree of points with bridges holds of this one. No condition but those typed at each theorem.
-/
import Derived.Test.YtajpboclicnopaaGreatKx
import Derived.Test.YtajpboclicnopaaGreatPg
import Derived.Test.YtajpboclicnopaaGreatMP
import Derived.Test.YtajpboclicnopaaGreatMKc
import Derived.Test.YtajpboclicnopaaGreatPz
namespace Go.Proofs.YtajpboclicnopaaGreat.Ca
open Go.RowKit Go.Sort Bd
/-- the trees that Build answers -/
def TSc (X : World) (v : Value) (n : Nat) (S : List Nat) (A : List S3) : Prop :=
  (∃ P RX LY, v = .pointer (some ⟨P.B, 0, none⟩) ∧ CaM X P RX LY A ∧ A.Nodup ∧ (∀ s ∈ A, s ∈ RX) ∧ RX.length = n ∧ S = cblk P RX.length ∧ Rg RX) ∨ (v = .pointer none ∧ n = 0 ∧ S = [] ∧ A = [])
set_option maxRecDepth 100000 in
theorem cdrop_nil (w : World) (s : S3) : Calls Tryz.prog 20 #[.pointer none, tv s] w fun e w' => e = .returned (.bool false) ∧ Below w.heap.size w w' := by
  have HM := Lib.hid (fun X => cmade_nil X)
  obtain ⟨x, y, id⟩ := s
  unfold tv
  simp only
  go_enter Tryz.func20, Tryz.ntmps20
  go_wp2_with (go_at_call 38; (with_reducible refine (HM.out _).mono ?_); rintro e wM ⟨rfl, hM⟩; subst wM)
  go_ret
  exact ⟨rfl, (Below.refl _ w).alloc (Nat.le_refl _) _⟩
set_option maxRecDepth 100000 in
set_option maxHeartbeats 1600000 in
theorem cbuild_any (w : World) (p : Option Addr) (c : Nat) (L : List S3) (hx : TsS w p L) (hl : L.length ≤ 400) (hw : ∀ s ∈ L, Wf3 s) : Calls Tryz.prog 19 #[.slice p L.length c] w (Built TSc w L) := by
  have HR := Lib.hid (rightP_any w p c L hx hl hw)
  by_cases hR : Rg L
  · rw [decide_eq_true hR] at HR
    have HG := Lib.hid (fun X (hb : Below w.heap.size w X) => cgrown_any X p c L (hx.keep hb) hl hR)
    have HRG := Lib.hid hR
    obtain ⟨n, hn⟩ : ∃ n, n = L.length := ⟨_, rfl⟩
    have HN := Lib.hid hn
    rw [← hn] at HR HG hl ⊢
    clear hx hw hR hn
    have hlz : ¬ (2147483648 : Int) < n := by omega
    go_enter Tryz.func19, Tryz.ntmps19
    go_wp2_with (first
      | (go_at_call 26; (with_reducible refine HR.out.mono ?_); rintro e w1 ⟨rfl, hb⟩; have HB1 := Lib.hid hb; clear hb)
      | (go_at_call 37; (refine (HG.out _ HB1.out).mono ?_); rintro e w2 ⟨P, RX, LY, rfl, h1, h2, h3, h4⟩; have H1 := Lib.hid h1; have H2 := Lib.hid h2; have H3 := Lib.hid h3; have H4 := Lib.hid h4; clear h1 h2 h3 h4))
    go_ret2
    refine ⟨HB1.out.trans (H4.out.mono HB1.out.size), .inl ⟨HRG.out, _, _, rfl, .inl ⟨P, RX, LY, rfl, H1.out, HRG.out.once, fun s hs => H2.out.mem_iff.2 hs, by rw [H2.out.length_eq], rfl, Rg.perm H2.out.symm HRG.out⟩, fun k hk => Nat.le_trans HB1.out.size (H3.out k hk)⟩⟩
  · rw [decide_eq_false hR] at HR
    have HRG := Lib.hid hR
    obtain ⟨n, hn⟩ : ∃ n, n = L.length := ⟨_, rfl⟩
    rw [← hn] at HR hl ⊢
    clear hx hw hR hn
    have hlz : ¬ (2147483648 : Int) < n := by omega
    go_enter Tryz.func19, Tryz.ntmps19
    go_wp2_with (go_at_call 26; (with_reducible refine HR.out.mono ?_); rintro e w1 ⟨rfl, hb⟩; have HB1 := Lib.hid hb; clear hb)
    go_ret2
    exact ⟨HB1.out, .inr ⟨HRG.out, _, _, rfl, .inr ⟨rfl, rfl, rfl, rfl⟩, fun k hk => (by cases hk)⟩⟩
/-- what a Drop writes is the tree's own -/
theorem wr_own {P : CaP} {RX : List S3} {k : Nat} (hk : k ∈ P.B :: mbs P.ps 0 (2 * RX.length - 1)) : k ∈ cblk P RX.length := by
  rcases List.mem_cons.1 hk with rfl | hk
  · simp [cblk]
  · obtain ⟨j, -, a2, a3⟩ := mem_mbs.1 hk
    exact cblk_k (by omega) (.inr (.inl a3))
theorem cascC : CascC TSc where
  keep := by
    rintro X X' v n S A T (⟨P, RX, LY, h1, h2, h3, h4, h5, rfl, h7⟩ | h) ho hS
    · exact .inl ⟨P, RX, LY, h1, h2.off ho hS, h3, h4, h5, rfl, h7⟩
    · exact .inr h
  lies := by
    rintro X v n S A (⟨P, RX, LY, h1, h2, h3, h4, h5, rfl, h7⟩ | ⟨-, -, rfl, -⟩) k hk
    · exact h2.lies k hk
    · cases hk
  build := fun w p c L hx hl _ _ hw => cbuild_any w p c L hx hl hw
  len := by
    rintro X v n S A (⟨P, RX, LY, rfl, h2, -⟩ | ⟨rfl, -, -, rfl⟩)
    · exact clen_any h2
    · exact clen_nil X
  report := by
    rintro X v n S A b (⟨P, RX, LY, rfl, h2, h3, h4, rfl, -⟩ | ⟨rfl, rfl, -, rfl⟩) _
    · exact creport_any h2 h3 h4 b
    · exact creport_nil X b
  drop := by
    rintro X v n S A s (⟨P, RX, LY, rfl, h2, h3, h4, rfl, rfl, h7⟩ | ⟨rfl, rfl, rfl, rfl⟩) _
    · have hd : ∀ t ∈ drp A s, t ∈ A := fun t ht => (List.mem_filter.1 ht).1
      have stay : s ∉ A → (∀ {w'}, Below X.heap.size X w' → ∃ S', TSc w' (.pointer (some ⟨P.B, 0, none⟩)) RX.length S' (drp A s) ∧ Off (cblk P RX.length) X w' ∧ ∀ k ∈ S', k ∈ cblk P RX.length ∨ X.heap.size ≤ k) := fun hn {w'} hb => ⟨_, .inl ⟨P, RX, LY, rfl, by rw [drp_not hn]; exact h2.keep hb, by rw [drp_not hn]; exact h3, fun t ht => h4 t (hd t ht), rfl, rfl, h7⟩, Off.of hb (Nat.le_refl _), fun k hk => .inl hk⟩
      rcases hx : fnd kx RX s.1 s.2.2 with ⟨i, bx⟩
      cases bx with
      | false =>
        have hn : s ∉ A := none_x h2.pl h4 hx
        refine (cdrop_x h2 s hx).mono ?_
        rintro e w' ⟨rfl, hbl⟩
        exact ⟨by rw [decide_eq_false hn], stay hn hbl⟩
      | true =>
        rcases hy : fnd ky LY s.2.1 s.2.2 with ⟨q, bY⟩
        cases bY with
        | false =>
          have hn : s ∉ A := none_y h2.pl h4 hy
          refine (cdrop_y h2 s hx hy).mono ?_
          rintro e w' ⟨rfl, hbl⟩
          exact ⟨by rw [decide_eq_false hn], stay hn hbl⟩
        | true =>
          by_cases hs : s ∈ A
          · refine (cdrop_yes h2 s h7 h3 hx hy hs h4).mono ?_
            rintro e w' ⟨rfl, hM, ho⟩
            exact ⟨by rw [decide_eq_true hs], _, .inl ⟨P, RX, LY, rfl, hM, h3.filter _, fun t ht => h4 t (hd t ht), rfl, rfl, h7⟩, ho.mono (fun k _ hk => wr_own hk), fun k hk => .inl hk⟩
          · refine (cdrop_n h2 s h7 hx hy hs).mono ?_
            rintro e w' ⟨rfl, hbl⟩
            exact ⟨by rw [decide_eq_false hs], stay hs hbl⟩
    · refine (cdrop_nil X s).mono ?_
      rintro e w' ⟨rfl, hb⟩
      exact ⟨by simp, [], .inr ⟨rfl, rfl, rfl, rfl⟩, Off.of hb (Nat.le_refl _), fun k hk => (by cases hk)⟩
  few := by
    rintro X v n S A (⟨P, RX, LY, rfl, h2, h3, h4, rfl, rfl, h7⟩ | ⟨rfl, rfl, rfl, rfl⟩)
    · exact ⟨List.Nodup.length_le_of_subset h3 h4, h2.pl.few, rg_few h3 h4 h7⟩
    · exact ⟨Nat.le_refl _, by omega, by show ([] : List Int).Nodup; exact List.nodup_nil⟩
end Go.Proofs.YtajpboclicnopaaGreat.Ca
