/-
  What is asked of a tree of points holds of this one. No condition but those typed at each theorem.
-/
import Derived.Test.YtfcpfffgodljeaaGreatBj
import Derived.Test.YtfcpfffgodljeaaGreatPg
import Derived.Test.YtfcpfffgodljeaaGreatMP
namespace Go.Proofs.YtfcpfffgodljeaaGreat
open Go.RowKit Go.Sort

/-- the trees that Build answers -/
def TSb (X : World) (v : Value) (n : Nat) (S : List Nat) (A : List S3) : Prop :=
  (∃ P RX LY, v = .pointer (some ⟨P.B, 0, none⟩) ∧ Bd.BdM X P RX LY A ∧ A.Nodup ∧ (∀ s ∈ A, s ∈ RX) ∧ RX.length = n ∧ S = Bd.blks P ∧ Rg RX) ∨ (v = .pointer none ∧ n = 0 ∧ S = [] ∧ A = [])
theorem rg_few {A RX : List S3} (hA : A.Nodup) (hs : ∀ s ∈ A, s ∈ RX) (h : Rg RX) : Rg A := by
  show (A.map (·.2.2)).Nodup
  induction A with
  | nil => simp
  | cons a A ih =>
    rw [List.nodup_cons] at hA
    rw [List.map_cons, List.nodup_cons]
    refine ⟨fun hm => ?_, ih hA.2 (fun s h => hs s (List.mem_cons_of_mem _ h))⟩
    obtain ⟨b, hb, e⟩ := List.mem_map.1 hm
    have := h.names (hs b (List.mem_cons_of_mem _ hb)) (hs a (by simp)) e
    exact hA.1 (this ▸ hb)
set_option maxRecDepth 100000 in
theorem drop_nil (w : World) (s : S3) : Calls Tryz.prog 22 #[.pointer none, tv s] w fun e w' => e = .returned (.bool false) ∧ Below w.heap.size w w' := by
  have HM := Lib.hid (fun X => Bd.bmade_nil X)
  obtain ⟨x, y, id⟩ := s
  unfold tv
  simp only
  go_enter Tryz.func22, Tryz.ntmps22
  go_wp2_with (go_at_call 40; (with_reducible refine (HM.out _).mono ?_); rintro e wM ⟨rfl, hM⟩; subst wM)
  go_ret
  exact ⟨rfl, (Below.refl _ w).alloc (Nat.le_refl _) _⟩
set_option maxRecDepth 100000 in
set_option maxHeartbeats 1600000 in
theorem build_any (w : World) (p : Option Addr) (c : Nat) (L : List S3) (hx : TsS w p L) (hl : L.length ≤ 400) (hw : ∀ s ∈ L, Wf3 s) : Calls Tryz.prog 16 #[.slice p L.length c] w (Built TSb w L) := by
  have HR := Lib.hid (rightP_any w p c L hx hl hw)
  by_cases hR : Rg L
  · rw [decide_eq_true hR] at HR
    have HG := Lib.hid (fun X (hb : Below w.heap.size w X) => Bd.grown_any X p c L (hx.keep hb) hl hR)
    have HRG := Lib.hid hR
    obtain ⟨n, hn⟩ : ∃ n, n = L.length := ⟨_, rfl⟩
    have HN := Lib.hid hn
    rw [← hn] at HR HG hl ⊢
    clear hx hw hR hn
    have hlz : ¬ (2147483648 : Int) < n := by omega
    go_enter Tryz.func16, Tryz.ntmps16
    go_wp2_with (first
      | (go_at_call 38; (with_reducible refine HR.out.mono ?_); rintro e w1 ⟨rfl, hb⟩; have HB1 := Lib.hid hb; clear hb)
      | (go_at_call 39; (refine (HG.out _ HB1.out).mono ?_); rintro e w2 ⟨P, RX, LY, rfl, h1, h2, h3, h4⟩; have H1 := Lib.hid h1; have H2 := Lib.hid h2; have H3 := Lib.hid h3; have H4 := Lib.hid h4; clear h1 h2 h3 h4))
    go_ret2
    refine ⟨HB1.out.trans (H4.out.mono HB1.out.size), .inl ⟨HRG.out, _, _, rfl, .inl ⟨P, RX, LY, rfl, H1.out, HRG.out.once, fun s hs => H2.out.mem_iff.2 hs, by rw [H2.out.length_eq], rfl, Rg.perm H2.out.symm HRG.out⟩, fun k hk => Nat.le_trans HB1.out.size (H3.out k hk)⟩⟩
  · rw [decide_eq_false hR] at HR
    have HRG := Lib.hid hR
    obtain ⟨n, hn⟩ : ∃ n, n = L.length := ⟨_, rfl⟩
    rw [← hn] at HR hl ⊢
    clear hx hw hR hn
    have hlz : ¬ (2147483648 : Int) < n := by omega
    go_enter Tryz.func16, Tryz.ntmps16
    go_wp2_with (go_at_call 38; (with_reducible refine HR.out.mono ?_); rintro e w1 ⟨rfl, hb⟩; have HB1 := Lib.hid hb; clear hb)
    go_ret2
    exact ⟨HB1.out, .inr ⟨HRG.out, _, _, rfl, .inr ⟨rfl, rfl, rfl, rfl⟩, fun k hk => (by cases hk)⟩⟩
theorem bandC : BandC TSb where
  keep := by
    rintro X X' v n S A T (⟨P, RX, LY, h1, h2, h3, h4, h5, rfl, h7⟩ | h) ho hS
    · exact .inl ⟨P, RX, LY, h1, h2.off ho hS, h3, h4, h5, rfl, h7⟩
    · exact .inr h
  lies := by
    rintro X v n S A (⟨P, RX, LY, h1, h2, h3, h4, h5, rfl, h7⟩ | ⟨-, -, rfl, -⟩) k hk
    · exact h2.lies k hk
    · cases hk
  build := fun w p c L hx hl _ _ hw => build_any w p c L hx hl hw
  len := by
    rintro X v n S A (⟨P, RX, LY, rfl, h2, -⟩ | ⟨rfl, -, -, rfl⟩)
    · exact Bd.len_any h2
    · exact Bd.len_nil X
  weight := by
    rintro X v n S A (⟨P, RX, LY, rfl, h2, h3, h4, h5, -⟩ | ⟨rfl, rfl, -, rfl⟩)
    · refine (Bd.weight_any h2).mono ?_
      rintro e w' ⟨rfl, hb⟩
      have := Bd.wts_few h2.pl h4
      exact ⟨⟨_, rfl, this.1, by rw [← h5]; exact this.2⟩, hb⟩
    · refine (Bd.weight_nil X).mono ?_
      rintro e w' ⟨rfl, hb⟩
      exact ⟨⟨0, rfl, by simp, by simp⟩, hb⟩
  report := by
    rintro X v n S A b (⟨P, RX, LY, rfl, h2, h3, h4, rfl, -⟩ | ⟨rfl, rfl, -, rfl⟩) _
    · exact Bd.report_any h2 h3 h4 b
    · exact Bd.report_nil X b
  count := by
    rintro X v n S A b (⟨P, RX, LY, rfl, h2, h3, h4, rfl, -⟩ | ⟨rfl, rfl, -, rfl⟩) _
    · exact Bd.countT_any h2 h3 h4 b
    · exact Bd.count_nil X b
  drop := by
    rintro X v n S A s (⟨P, RX, LY, rfl, h2, h3, h4, rfl, rfl, h7⟩ | ⟨rfl, rfl, rfl, rfl⟩) _
    · have hd : ∀ t ∈ drp A s, t ∈ A := fun t ht => (List.mem_filter.1 ht).1
      have hfew : RX.length ≤ 8192 := Nat.le_trans h2.pl.few (by decide)
      have stay : s ∉ A → (∀ {w'}, Below X.heap.size X w' → ∃ S', TSb w' (.pointer (some ⟨P.B, 0, none⟩)) RX.length S' (drp A s) ∧ Off (Bd.blks P) X w' ∧ ∀ k ∈ S', k ∈ Bd.blks P ∨ X.heap.size ≤ k) := fun hn {w'} hb => ⟨_, .inl ⟨P, RX, LY, rfl, by rw [drp_not hn]; exact h2.keep hb, by rw [drp_not hn]; exact h3, fun t ht => h4 t (hd t ht), rfl, rfl, h7⟩, Off.of hb (Nat.le_refl _), fun k hk => .inl hk⟩
      cases hb : (Bd.fnd Bd.kx RX s.1 s.2.2).2 with
      | false =>
        have hn : s ∉ A := fun hs => by
          obtain ⟨i, hi⟩ := List.mem_iff_getElem?.1 (h4 s hs)
          have := Bd.fnd_yes h2.pl.ox hfew hi (v := s.1) (x := s.2.2) rfl rfl
          rw [this] at hb
          cases hb
        refine (Bd.drop_miss h2 s (q := (Bd.fnd Bd.kx RX s.1 s.2.2).1) (by rw [← hb])).mono ?_
        rintro e w' ⟨rfl, hbl⟩
        exact ⟨by rw [decide_eq_false hn], stay hn hbl⟩
      | true =>
        obtain ⟨s', hi, g1, g2⟩ := Bd.fnd_true h2.pl.ox hfew hb
        have hr := Bd.has_root h2.pl h7 h4 hi g1 g2
        by_cases hs : s ∈ A
        · have e : s' = s := h7.names (List.mem_of_getElem? hi) (h4 s hs) g2
          subst e
          refine (Bd.drop_yes h2 h3 h4 s' hs (q := (Bd.fnd Bd.kx RX s'.1 s'.2.2).1) (by rw [← hb]) hi (by rw [hr, decide_eq_true hs])).mono ?_
          rintro e w' ⟨rfl, hM, ho⟩
          refine ⟨by rw [decide_eq_true hs], _, .inl ⟨P, RX, LY, rfl, hM, h3.filter _, fun t ht => h4 t (hd t ht), rfl, rfl, h7⟩, ho.mono (fun k _ hk => ?_), fun k hk => .inl hk⟩
          rcases List.mem_cons.1 hk with rfl | hk
          · simp [Bd.blks]
          · exact Bd.mblk_blks k hk
        · refine (Bd.drop_not h2 s (q := (Bd.fnd Bd.kx RX s.1 s.2.2).1) (by rw [← hb]) hi (by rw [hr, decide_eq_false hs])).mono ?_
          rintro e w' ⟨rfl, hbl⟩
          exact ⟨by rw [decide_eq_false hs], stay hs hbl⟩
    · refine (drop_nil X s).mono ?_
      rintro e w' ⟨rfl, hb⟩
      exact ⟨by simp, [], .inr ⟨rfl, rfl, rfl, rfl⟩, Off.of hb (Nat.le_refl _), fun k hk => (by cases hk)⟩
  few := by
    rintro X v n S A (⟨P, RX, LY, rfl, h2, h3, h4, rfl, rfl, h7⟩ | ⟨rfl, rfl, rfl, rfl⟩)
    · exact ⟨List.Nodup.length_le_of_subset h3 h4, h2.pl.few, rg_few h3 h4 h7⟩
    · exact ⟨Nat.le_refl _, by omega, by show ([] : List Int).Nodup; exact List.nodup_nil⟩
end Go.Proofs.YtfcpfffgodljeaaGreat
