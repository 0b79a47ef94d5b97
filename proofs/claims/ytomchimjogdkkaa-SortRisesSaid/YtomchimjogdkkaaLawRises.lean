/-
  SortRises: all places come, each once; the keys rise by them, and such as are the same keep their order. For every list of keys; no condition.
-/
import Derived.Test.YtomchimjogdkkaaLift
import Derived.Test.YtomchimjogdkkaaMath
namespace Go.Proofs.Ytomchimjogdkkaa
open Go.ChangeShapes Go.WideShapes Go.ChangeAt Go.RowKit Go.Joins

set_option maxRecDepth 100000 in
set_option maxHeartbeats 3200000 in
theorem riseslaw_walk (p : Option Addr) (cap : Nat) (ks : List (Int × Int)) (w : World) (hks : KS w p ks) (_hl : ks.length ≤ cap) (_hm : cap ≤ maxLen) :
    Calls Try.prog 4 #[.slice p ks.length cap] w fun e w' => e = .returned (.bool true) ∧ Below w.heap.size w w' := by
  have hmx : maxLen = 9223372036854775807 := rfl
  by_cases hbig : 3000 < ks.length
  · have hbz : (3000 : Int) < ks.length := by omega
    go_enter Try.func4, Try.ntmps4
    go_wp2_with (go_at_call 9; (with_reducible refine (awake_any _).mono ?_); rintro e w1 ⟨rfl, hb⟩)
    go_ret
    exact ⟨rfl, hb⟩
  have C1 := Lib.hid (fun X (hX : KS X p ks) => Order_any X p cap ks hX (by omega))
  have C2 := Lib.hid (fun X q c (hX : KS X p ks) (hQ : NS X q .i64 (srt ks)) => rises_any X p q cap c ks (srt ks) hX hQ (good_srt ks) (by omega))
  have HK := Lib.hid hks
  clear hks
  have hsl := srt_len ks
  have HSL := Lib.hid hsl
  clear hsl
  obtain ⟨n, hn⟩ : ∃ n, n = ks.length := ⟨_, rfl⟩
  rw [← hn] at C1 C2 hbig HSL
  rw [← hn]
  clear hn
  have hnb : ¬ (3000 : Int) < n := by omega
  go_enter Try.func4, Try.ntmps4
  go_wp2_with (first
    | (go_at_call 12; (with_reducible refine (C1.out w HK.out).mono ?_); rintro e w1 ⟨A1, rfl, -, -, -, ⟨r, -, hE⟩, hb⟩; rw [HSL.out]; have HE := Lib.hid hE.ns; have HB1 := Lib.hid hb; have HK1 := Lib.hid (HK.out.keep hb); clear hb hE)
    | (go_at_call 21; (with_reducible refine (C2.out w1 _ _ HK1.out HE.out).mono ?_); rintro e w2 ⟨rfl, hb⟩; have HB2 := Lib.hid (HB1.out.trans (hb.mono HB1.out.size)); clear hb)
    | (go_at_call 9; (with_reducible refine (awake_any w2).mono ?_); rintro e w3 ⟨rfl, hb⟩; have HB3 := Lib.hid (HB2.out.trans (hb.mono HB2.out.size)); clear hb))
  go_ret
  exact ⟨rfl, HB3.out⟩

set_option maxRecDepth 100000 in
theorem riseslaw_lifted (os : Os) (started : os.Started) (H : Type) (enc : TypeId × Value → H) :
    ReturnsInHanded {} Try.checked os 4 .any (Rows.sortRisesSpec.pre6 enc Try.prog Try.f4 Rows.sortRisesRow.domain false) (Rows.sortRisesSpec.post enc Try.prog Try.f4 false true false false) := by
  refine returnsInHanded_of_change (C := Try.checked) Try.own started (by kernel_rfl) Try.func4
    (ChangeSpec.witness6 (enc := enc) (C := Try.checked) false ⟨#[], #[.slice none 0 0], []⟩ 8 (by kernel_rfl) (by kernel_rfl) (by kernel_rfl) (by kernel_rfl)) ?_
  intro W base args ds gs before hval0 hW hcnd _
  have hval : ∀ (j : Nat) t v, Try.f4.params[j]? = some t → args[j]? = some v → Value.okWide Try.prog W .any base t v := hval0
  have hW' := hW
  obtain ⟨p, q, hA0, hV, rfl, hfz, hnd⟩ := hW
  have hA : DataW.TrodAll enc Try.prog W 0 (fun _ => true) true Try.f4.params.toList args.toList ds p := hA0
  rw [Try.params4] at hA hval
  obtain ⟨v0, vs0, d0, ds0, p0, q0, hargs, rfl, rfl, h0, r0⟩ := trodAll_cons hA
  obtain ⟨rfl, rfl, rfl⟩ := trodAll_nil r0
  obtain rfl : args = #[v0] := by cases args; simp_all
  obtain ⟨rfl, rfl⟩ := trodVars_none hV
  obtain ⟨a0, len0, cap0, rfl⟩ := okWide_slice Try.underlying22 (hval 0 22 v0 rfl rfl)
  obtain ⟨xs0, rfl, hx0, hl0, hm0⟩ := open_keys h0
  clear hA0 hval0
  simp only [List.append_nil] at hW'
  have hlt : ∀ x ∈ p0, x.block < W.heap.size := fun x hx => by simpa using hW'.lt x hx
  refine (riseslaw_walk _ _ _ W hx0 hl0 hm0).mono fun e W' ⟨he, hb⟩ => ?_
  subst he
  have hR := (trodAll_cons_mk (Below.trod Try.laidOut (by kernel_rfl) (of_decide_eq_true (by kernel_rfl)) h0 hb (fun x hx => hlt x (by simp [hx]))) trodAll_mk0)
  simp only [List.append_nil] at hR
  exact ⟨_, rfl, law_post hW' (trodAll_cons_mk (shut_bool Try.underlying4 _) trodAll_mk0) hR rfl hb⟩

theorem riseslaw_holds : Rows.SortRisesSaid :=
  OpenClaim.holds_of_wide 4 Try.f4 rfl rfl rfl rfl rfl rfl rfl ⟨rfl, rfl, rfl, rfl, rfl⟩ rfl rfl rfl rfl rfl (by kernel_rfl) Try.func4 (by kernel_rfl)
    (of_decide_eq_true (by kernel_rfl)) (by unfold Func.isWrapper; first | (rw [if_pos (by decide +kernel)]; kernel_rfl) | (rw [if_neg (by decide +kernel)]; exact ⟨rfl, rfl⟩))
    (fun os started H enc _ => riseslaw_lifted os started H enc)
end Go.Proofs.Ytomchimjogdkkaa
