/-
  What is asked of a tree that tells corners holds of this one. No condition but those typed at each theorem.
-/
import Derived.Test.YtadlobmhnkfnfaaGreatMG
import Derived.Test.YtadlobmhnkfnfaaGreatKz
namespace Go.Proofs.YtadlobmhnkfnfaaGreat.Co
open Go.RowKit
section
variable {TS : World → Value → Nat → List Nat → List S3 → Prop} {w : World} {n : Nat} {A : List S3}
set_option maxRecDepth 100000 in
theorem oover_any {v : Value} (hA : ∀ s ∈ A, Wf3 s) (HG0 : GaC w v n A) (p : S3) (hp : Wf3 p) :
    Calls Tryz.prog 19 #[v, tv p] w fun e X' => (∃ r, ∃ t : Nat, e = .returned (.tuple #[r, .int .i64 t]) ∧ RL X' r (nmS (fun q => ovB q p) A) ∧ (nmS (fun q => ovB q p) A).length ≤ t ∧ t ≤ (nmS (fun q => ovB q p) A).length + 2 * most n) ∧ Below w.heap.size w X' := by
  have HW0 := Lib.hid (show Below w.heap.size w (w.alloc (.cells (tvs p).toArray 33)) from (Below.refl _ w).alloc (Nat.le_refl _) _)
  have HY := Lib.hid (show ∀ X, Below w.heap.size w X → Calls Tryz.prog 35 #[v, tv p, .bool true] X _ from fun X hb => beyond_any (w := X) hA (fun Y hb2 => HG0 Y (hb.trans (hb2.mono hb.size))) p hp true)
  have HI := Lib.hid (show byB p true = (fun q => ovB q p) from funext fun q => by simp [byB])
  rw [HI.out] at HY
  generalize nmS (fun q => ovB q p) A = Z at *
  obtain ⟨x, y, id⟩ := p
  unfold tv at HY ⊢
  unfold tvs at HW0
  simp only at HY HW0 ⊢
  clear HI HG0
  go_enter Tryz.func19, Tryz.ntmps19
  go_wp2_with (go_at_call 35; (with_reducible refine (HY.out _ HW0.out).mono ?_); rintro e w2 ⟨⟨r, t, rfl, hr, h1, h2⟩, hb⟩; have HR := Lib.hid hr; have H1 := Lib.hid h1; have H2 := Lib.hid h2; have HB := Lib.hid (HW0.out.trans (hb.mono HW0.out.size)); clear hr h1 h2 hb)
  go_ret2
  exact ⟨⟨r, t, rfl, HR.out, H1.out, H2.out⟩, HB.out⟩
set_option maxRecDepth 100000 in
theorem ounder_any {v : Value} (hA : ∀ s ∈ A, Wf3 s) (HG0 : GaC w v n A) (p : S3) (hp : Wf3 p) :
    Calls Tryz.prog 20 #[v, tv p] w fun e X' => (∃ r, ∃ t : Nat, e = .returned (.tuple #[r, .int .i64 t]) ∧ RL X' r (nmS (ovB p) A) ∧ (nmS (ovB p) A).length ≤ t ∧ t ≤ (nmS (ovB p) A).length + 2 * most n) ∧ Below w.heap.size w X' := by
  have HW0 := Lib.hid (show Below w.heap.size w (w.alloc (.cells (tvs p).toArray 33)) from (Below.refl _ w).alloc (Nat.le_refl _) _)
  have HY := Lib.hid (show ∀ X, Below w.heap.size w X → Calls Tryz.prog 35 #[v, tv p, .bool false] X _ from fun X hb => beyond_any (w := X) hA (fun Y hb2 => HG0 Y (hb.trans (hb2.mono hb.size))) p hp false)
  have HI := Lib.hid (show byB p false = ovB p from funext fun q => by simp [byB])
  rw [HI.out] at HY
  generalize nmS (ovB p) A = Z at *
  obtain ⟨x, y, id⟩ := p
  unfold tv at HY ⊢
  unfold tvs at HW0
  simp only at HY HW0 ⊢
  clear HI HG0
  go_enter Tryz.func20, Tryz.ntmps20
  go_wp2_with (go_at_call 35; (with_reducible refine (HY.out _ HW0.out).mono ?_); rintro e w2 ⟨⟨r, t, rfl, hr, h1, h2⟩, hb⟩; have HR := Lib.hid hr; have H1 := Lib.hid h1; have H2 := Lib.hid h2; have HB := Lib.hid (HW0.out.trans (hb.mono HW0.out.size)); clear hr h1 h2 hb)
  go_ret2
  exact ⟨⟨r, t, rfl, HR.out, H1.out, H2.out⟩, HB.out⟩
set_option maxRecDepth 100000 in
set_option maxHeartbeats 1600000 in
theorem obuild_any (C : Ca.CascC TS) (hptr : ∀ {X v n S A}, TS X v n S A → ∃ a, v = .pointer a) (w : World) (p : Option Addr) (c : Nat) (L : List S3) (hx : TsS w p L) (hl : L.length ≤ 400) (hc : L.length ≤ c) (hp : p = none → c = 0) (hw : ∀ s ∈ L, Wf3 s) : Calls Tryz.prog 10 #[.slice p L.length c] w (Built (TSk TS) w L) := by
  have HBU := Lib.hid (C.build w p c L hx hl hc hp hw)
  by_cases hR : Rg L
  · have HRG := Lib.hid hR
    have HWF := Lib.hid hw
    obtain ⟨n, hn⟩ : ∃ n, n = L.length := ⟨_, rfl⟩
    have HN := Lib.hid hn
    rw [← hn] at HBU ⊢
    clear hx hw hR hn hl hc hp
    go_enter Tryz.func10, Tryz.ntmps10
    go_wp2_with (go_at_call 24; (with_reducible refine HBU.out.mono ?_); rintro e w1 ⟨hb, hor⟩; rcases hor with ⟨-, u, S, rfl, hT, hS⟩ | ⟨hn', -⟩; rotate_left; (exact absurd HRG.out hn'); obtain ⟨ua, rfl⟩ := hptr hT; have HB := Lib.hid hb; have HT := Lib.hid hT; have HS := Lib.hid hS; clear hb hT hS)
    go_ret2
    have hE : ∀ v, EV 59 (w1.alloc (.cells #[v, .pointer ua] 59)) w1.heap.size [v, .pointer ua] := fun v => heap_alloc_new w1 _
    have hbl : ∀ o, Below w1.heap.size w1 (w1.alloc o) := fun o => (Below.refl _ w1).alloc (Nat.le_refl _) _
    refine ⟨HB.out.trans ((hbl _).mono HB.out.size), .inl ⟨HRG.out, _, _, rfl, .inl ⟨_, _, _, rfl, ⟨hE _, C.bel HT.out (hbl _), fun hin => ?_, HWF.out⟩, rfl⟩, fun k hk => ?_⟩⟩
    · have := C.lies HT.out _ hin
      omega
    · rcases List.mem_cons.1 hk with rfl | hk
      · exact HB.out.size
      · exact HS.out k hk
  · have HRG := Lib.hid hR
    obtain ⟨n, hn⟩ : ∃ n, n = L.length := ⟨_, rfl⟩
    rw [← hn] at HBU ⊢
    clear hx hw hR hn hl hc hp
    go_enter Tryz.func10, Tryz.ntmps10
    go_wp2_with (go_at_call 24; (with_reducible refine HBU.out.mono ?_); rintro e w1 ⟨hb, hor⟩; rcases hor with ⟨hn', -⟩ | ⟨-, u, S, rfl, hT, hS⟩; (exact absurd hn' HRG.out); obtain ⟨ua, rfl⟩ := hptr hT; have HB := Lib.hid hb; clear hb hT hS)
    go_ret2
    exact ⟨HB.out, .inr ⟨HRG.out, _, _, rfl, .inr ⟨rfl, rfl, rfl, rfl⟩, fun k hk => (by cases hk)⟩⟩
theorem cornC_of (C : Ca.CascC TS) (hptr : ∀ {X v n S A}, TS X v n S A → ∃ a, v = .pointer a) : CornC (TSk TS) where
  keep := by
    rintro X X' v n S A T (⟨B, u, S0, h1, h2, rfl⟩ | h) ho hS
    · exact .inl ⟨B, u, S0, h1, h2.off C ho (hS B (by simp)) (fun k hk => hS k (by simp [hk])), rfl⟩
    · exact .inr h
  lies := by
    rintro X v n S A (⟨B, u, S0, h1, h2, rfl⟩ | ⟨-, -, rfl, -⟩) k hk
    · rcases List.mem_cons.1 hk with rfl | hk
      · exact h2.ev.lt
      · exact C.lies h2.tr k hk
    · cases hk
  build := fun w p c L hx hl hc hp hw => obuild_any C hptr w p c L hx hl hc hp hw
  len := by
    rintro X v n S A (⟨B, u, S0, rfl, h2, -⟩ | ⟨rfl, -, -, rfl⟩)
    · exact olen_any C h2
    · exact olen_nil X
  report := by
    rintro X v n S A x y way (⟨B, u, S0, rfl, h2, -⟩ | ⟨rfl, rfl, -, rfl⟩) hx hy _
    · exact oreport_of h2.wf (gac_yes C h2) x y way hx hy
    · exact oreport_of (by simp) (gac_nil X) x y way hx hy
  count := by
    rintro X v n S A x y way (⟨B, u, S0, rfl, h2, -⟩ | ⟨rfl, rfl, -, rfl⟩) hx hy _
    · by_cases hw : way < 4
      · exact ocount_yes C h2 x y hw hx hy
      · exact ocount_no _ x y hw
    · exact ocount_nil x y way
  over := by
    rintro X v n S A s (⟨B, u, S0, rfl, h2, -⟩ | ⟨rfl, rfl, -, rfl⟩) hs
    · exact oover_any h2.wf (gac_yes C h2) s hs
    · exact oover_any (by simp) (gac_nil X) s hs
  under := by
    rintro X v n S A s (⟨B, u, S0, rfl, h2, -⟩ | ⟨rfl, rfl, -, rfl⟩) hs
    · exact ounder_any h2.wf (gac_yes C h2) s hs
    · exact ounder_any (by simp) (gac_nil X) s hs
  drop := by
    rintro X v n S A s (⟨B, u, S0, rfl, h2, rfl⟩ | ⟨rfl, rfl, rfl, rfl⟩) hs
    · refine (odrop_yes C h2 s hs).mono ?_
      rintro e w' ⟨rfl, S', h3, h4, h5⟩
      refine ⟨rfl, B :: S', .inl ⟨B, u, S', rfl, h3, rfl⟩, h4.mono (fun k _ hk => List.mem_cons_of_mem _ hk), fun k hk => ?_⟩
      rcases List.mem_cons.1 hk with rfl | hk
      · exact .inl (by simp)
      · exact (h5 k hk).imp (fun h => List.mem_cons_of_mem _ h) (fun h => h)
    · refine (odrop_nil X s).mono ?_
      rintro e w' ⟨rfl, hb⟩
      exact ⟨by simp, [], .inr ⟨rfl, rfl, rfl, rfl⟩, Off.of hb (Nat.le_refl _), fun k hk => (by cases hk)⟩
  few := by
    rintro X v n S A (⟨B, u, S0, rfl, h2, rfl⟩ | ⟨rfl, rfl, rfl, rfl⟩)
    · exact C.few h2.tr
    · exact ⟨Nat.le_refl _, by omega, by show ([] : List Int).Nodup; exact List.nodup_nil⟩
end
theorem tsc_ptr {X : World} {v : Value} {n : Nat} {S : List Nat} {A : List S3} (h : Ca.TSc X v n S A) : ∃ a, v = .pointer a := by
  rcases h with ⟨P, RX, LY, h, -⟩ | ⟨h, -⟩
  · exact ⟨_, h⟩
  · exact ⟨_, h⟩
theorem cornC : CornC (TSk Ca.TSc) := cornC_of Ca.cascC tsc_ptr
end Go.Proofs.YtadlobmhnkfnfaaGreat.Co
