/-
  What is asked of a tree of lowest points holds of this one. No condition but those typed at each theorem.
-/
import Derived.Test.YtldmajifkmcdcaaGreatMVk
import Derived.Test.YtldmajifkmcdcaaGreatMVq
import Derived.Test.YtldmajifkmcdcaaGreatVt
import Derived.Test.YtldmajifkmcdcaaGreatPg
namespace Go.Proofs.YtldmajifkmcdcaaGreat.Lw
open Go.RowKit Go.Sort Bd Lv
/-- the trees that Build answers -/
def TSl (X : World) (v : Value) (n : Nat) (S : List Nat) (A : List S3) : Prop :=
  (∃ P RX, v = .pointer (some ⟨P.B, 0, none⟩) ∧ LoM X P RX A ∧ RX.length = n ∧ S = lblk P) ∨ (v = .pointer none ∧ n = 0 ∧ S = [] ∧ A = [])
set_option maxRecDepth 100000 in
set_option maxHeartbeats 1600000 in
theorem lbuild_any (w : World) (p : Option Addr) (c : Nat) (L : List S3) (hx : TsS w p L) (hl : L.length ≤ 400) (hw : ∀ s ∈ L, Wf3 s) : Calls Tryz.prog 10 #[.slice p L.length c] w (Built TSl w L) := by
  have HR := Lib.hid (rightP_any w p c L hx hl hw)
  by_cases hR : Rg L
  · rw [decide_eq_true hR] at HR
    have HG := Lib.hid (fun X (hb : Below w.heap.size w X) => lgrown_any X p c L (hx.keep hb) hl hR hw)
    have HRG := Lib.hid hR
    obtain ⟨n, hn⟩ : ∃ n, n = L.length := ⟨_, rfl⟩
    have HN := Lib.hid hn
    rw [← hn] at HR HG hl ⊢
    clear hx hw hR hn
    have hlz : ¬ (2147483648 : Int) < n := by omega
    go_enter Tryz.func10, Tryz.ntmps10
    go_wp2_with (first
      | (go_at_call 24; (with_reducible refine HR.out.mono ?_); rintro e w1 ⟨rfl, hb⟩; have HB1 := Lib.hid hb; clear hb)
      | (go_at_call 25; (refine (HG.out _ HB1.out).mono ?_); rintro e w2 ⟨P, RX, rfl, h1, h2, h3, h4⟩; have H1 := Lib.hid h1; have H2 := Lib.hid h2; have H3 := Lib.hid h3; have H4 := Lib.hid h4; clear h1 h2 h3 h4))
    go_ret2
    refine ⟨HB1.out.trans (H4.out.mono HB1.out.size), .inl ⟨HRG.out, _, _, rfl, .inl ⟨P, RX, rfl, H1.out, by rw [H2.out.length_eq], rfl⟩, fun k hk => Nat.le_trans HB1.out.size (H3.out k hk)⟩⟩
  · rw [decide_eq_false hR] at HR
    have HRG := Lib.hid hR
    obtain ⟨n, hn⟩ : ∃ n, n = L.length := ⟨_, rfl⟩
    rw [← hn] at HR hl ⊢
    clear hx hw hR hn
    have hlz : ¬ (2147483648 : Int) < n := by omega
    go_enter Tryz.func10, Tryz.ntmps10
    go_wp2_with (go_at_call 24; (with_reducible refine HR.out.mono ?_); rintro e w1 ⟨rfl, hb⟩; have HB1 := Lib.hid hb; clear hb)
    go_ret2
    exact ⟨HB1.out, .inr ⟨HRG.out, _, _, rfl, .inr ⟨rfl, rfl, rfl, rfl⟩, fun k hk => (by cases hk)⟩⟩
theorem i64_le {k : Int} (h : (Lit.int .i64 k).wf = true) : k ≤ 9223372036854775807 := by
  have hr : -9223372036854775808 ≤ k ∧ k ≤ 9223372036854775807 := by simpa [Lit.wf, show IntKind.i64.min = -9223372036854775808 from rfl, show IntKind.i64.max = 9223372036854775807 from rfl] using h
  exact hr.2
theorem lowC : LowC TSl where
  keep := by
    rintro X X' v n S A T (⟨P, RX, h1, h2, h3, rfl⟩ | h) ho hS
    · exact .inl ⟨P, RX, h1, h2.off ho hS, h3, rfl⟩
    · exact .inr h
  lies := by
    rintro X v n S A (⟨P, RX, h1, h2, h3, rfl⟩ | ⟨-, -, rfl, -⟩) k hk
    · exact h2.lies k hk
    · cases hk
  build := fun w p c L hx hl _ _ hw => lbuild_any w p c L hx hl hw
  len := by
    rintro X v n S A (⟨P, RX, rfl, h2, -⟩ | ⟨rfl, -, -, rfl⟩)
    · exact llen_any h2
    · exact llen_nil X
  lows := by
    rintro X v n S A x1 x2 k (⟨P, RX, rfl, h2, rfl, -⟩ | ⟨rfl, rfl, -, rfl⟩) _ _ hk
    · refine (llows_any h2 x1 x2 k (i64_le hk)).mono ?_
      rintro e w' ⟨⟨r, t, h3, h4, h5, h6, -⟩, hb⟩
      exact ⟨⟨r, t, h3, h4, h5, h6⟩, hb⟩
    · refine (llows_nil X x1 x2 k).mono ?_
      rintro e w' ⟨rfl, hb⟩
      obtain ⟨⟨r, t, h3, h4, h5, h6, -⟩, hb⟩ := LwR.no (n := 0) (kk := k.toNat) (t := 0) (T := (lwL x1 x2 []).take k.toNat) (by rw [show lwL x1 x2 [] = [] from rfl, List.take_nil]) rfl (Nat.zero_le _) hb
      exact ⟨⟨r, t, h3, h4, h5, h6⟩, hb⟩
  lowest := by
    rintro X v n S A x1 x2 (⟨P, RX, rfl, h2, rfl, -⟩ | ⟨rfl, rfl, -, rfl⟩) _ _
    · exact llowest_any h2 x1 x2
    · exact llowest_nil X x1 x2
  drop := by
    rintro X v n S A s (⟨P, RX, rfl, h2, rfl, rfl⟩ | ⟨rfl, rfl, rfl, rfl⟩) _
    · refine (lwdrop_any h2 s).mono ?_
      rintro e w' ⟨rfl, hM, ho⟩
      refine ⟨rfl, _, .inl ⟨P, RX, rfl, hM, rfl, rfl⟩, ho.mono (fun k _ hk => ?_), fun k hk => .inl hk⟩
      simp only [List.mem_cons, List.mem_nil_iff, or_false] at hk
      rcases hk with rfl | rfl <;> simp [Lv.lblk]
    · refine (ldrop_nil X s).mono ?_
      rintro e w' ⟨rfl, hb⟩
      exact ⟨by simp, [], .inr ⟨rfl, rfl, rfl, rfl⟩, Off.of hb (Nat.le_refl _), fun k hk => (by cases hk)⟩
  few := by
    rintro X v n S A (⟨P, RX, rfl, h2, rfl, rfl⟩ | ⟨rfl, rfl, rfl, rfl⟩)
    · exact ⟨h2.le, h2.s.few, h2.rga, fun s hs => h2.wf s (h2.sub s hs)⟩
    · exact ⟨Nat.le_refl _, by omega, (by show ([] : List Int).Nodup; exact List.nodup_nil), fun s hs => (by cases hs)⟩
end Go.Proofs.YtldmajifkmcdcaaGreat.Lw
