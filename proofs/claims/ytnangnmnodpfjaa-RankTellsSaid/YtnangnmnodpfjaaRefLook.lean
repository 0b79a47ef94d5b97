/-
  The document's place, by the list of the places that are left: it is what the search by halves tells. No condition but those typed at each theorem.
-/
import Derived.Test.YtnangnmnodpfjaaRow
import Derived.Test.YtnangnmnodpfjaaLook
import Derived.Deep.CutBlock
namespace Go.Proofs.Ytnangnmnodpfjaa
open Go.RowKit

set_option maxRecDepth 100000 in
theorem half_any (w : World) (g o n c h : Nat) (m : Int) (hh : h = n / 2) (hn : 0 < n ∧ n ≤ 8192) (hc : w.cell? ⟨g, o + h, none⟩ = some (.int .i64 m)) :
    Calls Try.prog 29 #[.slice (some ⟨g, o, none⟩) n c] w fun e w' => e = .returned (.int .i64 m) ∧ w' = w := by
  have e1 : (n : Int) / 2 = (h : Int) := by omega
  have e2 : h < n := by omega
  have e3 : (h : Int) < n := by omega
  clear hh
  go_enter Try.func29, Try.ntmps29
  go_wp2
  go_ret
  exact ⟨rfl, rfl⟩

/-- what is asked: is it more, or not less -/
def asks (up : Bool) (xs : List Int) (x : Int) (i : Nat) : Bool := if up then isMore xs x i else notLess xs x i
/-- how long a slice is -/
def sliceLen : Value → Nat
  | .slice _ n _ => n
  | _ => 0

set_option maxRecDepth 100000 in
set_option maxHeartbeats 6400000 in
theorem rlook_any (w : World) (p0 : Option Addr) (cap0 : Nat) (xs : List Int) (x : Int) (up : Bool) (hx : NS w p0 .i64 xs) (hn : xs.length ≤ 8192) :
    Calls Try.prog 23 #[.slice p0 xs.length cap0, .int .i64 x, .bool up] w fun e w' => e = .returned (two (lk (asks up xs x) xs.length)) ∧ Below w.heap.size w w' := by
  have hxx : 0 < xs.length → ∃ b off, p0 = some ⟨b, off, none⟩ ∧ Ns w b off .i64 xs := by
    intro h
    rcases hx with rfl | ⟨b, off, h1, h2⟩
    · simp at h
    · exact ⟨b, off, h1, h2⟩
  have HXX := Lib.hid hxx
  obtain ⟨n, hnn⟩ : ∃ n, n = xs.length := ⟨_, rfl⟩
  obtain ⟨P, hP⟩ : ∃ P, P = lk (asks up xs x) n := ⟨_, rfl⟩
  have HN := Lib.hid hnn
  rw [← hnn] at hn
  rw [← hnn, ← hP]
  have HP := Lib.hid (show lkGo (asks up xs x) 0 n 0 = P from hP.symm)
  clear hxx hx hnn hP
  go_enter Try.func23, Try.ntmps23
  go_wp2
  go_loopw [8, 9] (fun v8 v9 wr => ∃ (i : Nat) (p1 : Option Addr) (c1 : Nat), v8 = .slice p1 i c1 ∧ v9 = .int .i64 i ∧ i ≤ n ∧ Hid (wr.ownsRow w.heap.size 3 1 (.slice p1 i c1) i ((upto i).map (Value.int .i64))) ∧ Hid (Below w.heap.size w wr)) (fun _ v9 _ => n - (intOf v9).toNat)
  case atStart => exact ⟨0, none, 0, rfl, rfl, Nat.zero_le _, Lib.hid ⟨rfl, .inl ⟨rfl, rfl⟩⟩, Lib.hid (Below.refl _ _)⟩
  case round =>
    obtain ⟨i, p1, c1, rfl, rfl, hi, HR, HB⟩ := hrel
    by_cases hlt : i < n
    · have hltz : (i : Int) < n := by omega
      have hoA := HR.out.alloc (.cells #[.int .i64 i] 3)
      have HOA := Lib.hid hoA
      have hsz : w.heap.size ≤ wr.heap.size := HB.out.size
      clear hoA
      go_wp2_with (at_builtin; refine wpList_oneB rfl (.tmp 20) (.tmp 22) 38 3 .i64 (.int .i64 0) 8 Try.underlying38 Try.info3 rfl (by decide) rfl w.heap.size _ i (upto i) wr.heap.size i rfl rfl (by simp) HOA.out (by omega) (by simp <;> omega) ?_; intro g cap w1 h1 h2 h3; have HG1 := Lib.hid h1; have HG2 := Lib.hid h2; have HG3 := Lib.hid (HB.out.grown ((World.grownBy_alloc wr _ _).trans h3) HB.out.size (own_ge' HR.out)); clear h1 h2 h3)
      go_roundw
      case rel => exact ⟨i + 1, some ⟨g, 0, none⟩, cap, rfl, by go_num, by omega, Lib.hid (by rw [upto_snoc]; exact HG2.out.own HG1.out (by simp [upto_len])), HG3⟩
      case measure => simp [intOf]; omega
    · have hltz : ¬ (i : Int) < n := by omega
      have hin : i = n := by omega
      obtain rfl := hin
      obtain ⟨g, cap, hv8, hRB⟩ : ∃ g cap, (0 < i → p1 = some ⟨g, 0, none⟩ ∧ c1 = cap) ∧ (0 < i → RB .i64 3 wr g cap (upto i)) := by
        by_cases h0 : 0 < i
        · obtain ⟨g, cap, h1, h2, h3⟩ := rb_of HR.out h0
          injection h1 with h1 _ h4
          exact ⟨g, cap, fun _ => ⟨h1, h4⟩, fun _ => h3⟩
        · exact ⟨0, 0, fun h => absurd h h0, fun h => absurd h h0⟩
      have HV := Lib.hid hv8
      have HRB := Lib.hid hRB
      have HB2 := HB
      clear hv8 hRB HR HB
      go_wp2
      go_loopw [8, 10, 11] (fun v8 v10 v11 wr => ∃ (f e c : Nat) (p : Option Addr) (cc : Nat), v8 = .slice p (e - f) cc ∧ v10 = .int .i64 f ∧ v11 = .int .i64 c ∧ f ≤ e ∧ e ≤ i ∧ c + e ≤ f + i ∧ Hid (f < e → p = some ⟨g, f, none⟩ ∧ e - f ≤ cc ∧ cc ≤ maxLen) ∧ Hid (lkGo (asks up xs x) f e c = P) ∧ Hid (0 < i → RB .i64 3 wr g cap (upto i)) ∧ Hid (Below w.heap.size w wr)) (fun v8 _ _ _ => sliceLen v8)
      case atStart =>
        refine ⟨0, i, 0, p1, c1, rfl, rfl, rfl, by omega, by omega, by omega, Lib.hid (fun h => ?_), HP, HRB, HB2⟩
        obtain ⟨rfl, rfl⟩ := HV.out h
        obtain ⟨cur, _, h5, h6, _⟩ := HRB.out h
        rw [upto_len] at h5
        exact ⟨rfl, by omega, h6⟩
      case round =>
        clear HRB HB2 HV HP
        obtain ⟨f, e, c, p, cc, rfl, rfl, rfl, hfe, hen, hc, HPC, HL, HRB, HB⟩ := hrel
        by_cases h : f < e
        · obtain ⟨rfl, hcc, hcm⟩ := HPC.out h
          have hRB := HRB.out (by omega)
          have hz : (0 : Int) < ((e - f : Nat) : Int) := by omega
          obtain ⟨h2, hh2⟩ : ∃ h2, h2 = (e - f) / 2 := ⟨_, rfl⟩
          have e1 : (((e - f : Nat) : Int)) / 2 = (h2 : Int) := by omega
          have hb : f + h2 < e := by omega
          have hcell := hRB.cell (upto_get (show f + h2 < i by omega))
          have HF := Lib.hid (fun X (hX : 0 < i → RB .i64 3 X g cap (upto i)) => half_any X g f (e - f) cc h2 ((f + h2 : Nat) : Int) hh2 ⟨by omega, by omega⟩ ((hX (by omega)).cell (upto_get (show f + h2 < i by omega))))
          obtain ⟨b, off, rfl, hxs⟩ := HXX.out (by have := HN.out; omega)
          obtain ⟨y, hy⟩ : ∃ y, y = xs.getD (f + h2) 0 := ⟨_, rfl⟩
          have hcy0 := hxs (f + h2) y (by rw [hy]; exact getD_num xs _ (by have := HN.out; omega))
          have hcy : wr.cell? ⟨b, off + (f + h2), none⟩ = some (.int .i64 y) := (HB.out.cell (World.block_lt_of_cell? w _ hcy0)).trans hcy0
          have s1 := fun X => sl_to X (some ⟨g, f, none⟩) (e - f) cc h2 (by omega)
          obtain ⟨p2, hp2, s20⟩ := sl_from g f (e - f) cc (h2 + 1) (by omega) (by omega)
          have s2 : ∀ X, (Instr.slice 38 (.slice (some ⟨g, f, none⟩) (e - f) cc) (some (.int .i64 ((h2 : Int) + 1))) none none).run Try.prog X = .ok (.slice p2 (e - f - (h2 + 1)) (cc - (h2 + 1))) X := fun X => by rw [show ((h2 : Int) + 1) = ((h2 + 1 : Nat) : Int) by omega]; exact s20 X
          have HP2 := Lib.hid hp2
          have HH := Lib.hid hh2
          have HY := Lib.hid hy
          have hin : f + h2 < i := by omega
          clear hh2 hy hcell hp2 s20 hcy0 hxs hRB
          have yes : asks up xs x (f + h2) = true → Hid (lkGo (asks up xs x) f (f + h2) (c + 1) = P) := fun hs => Lib.hid (by rw [← HL.out, HH.out]; rw [HH.out] at hs; exact (lkGo_yes _ c h hs).symm)
          have no : asks up xs x (f + h2) = false → Hid (lkGo (asks up xs x) (f + h2 + 1) e (c + 1) = P) := fun hs => Lib.hid (by rw [← HL.out, HH.out]; rw [HH.out] at hs; exact (lkGo_no _ c h hs).symm)
          rcases Int.lt_trichotomy x y with h5 | h5 | h5
          · have HL2 := yes (by unfold asks isMore notLess; rw [← HY.out]; cases up <;> simp <;> omega)
            clear yes no HL
            go_wp2_with (go_at_call 29; (with_reducible refine (HF.out _ HRB.out).mono ?_); rintro e w1 ⟨rfl, rfl⟩)
            go_roundw
            case rel => exact ⟨f, f + h2, c + 1, some ⟨g, f, none⟩, cc, by first | rfl | (congr 1; omega), by go_num, by go_num, by omega, by omega, by omega, Lib.hid (fun _ => ⟨rfl, by omega, by omega⟩), HL2, HRB, HB⟩
            case measure => simp [sliceLen]; omega
          · subst h5
            cases up with
            | false =>
              have HL2 := yes (by unfold asks notLess; rw [← HY.out]; simp)
              clear yes no HL
              go_wp2_with (go_at_call 29; (with_reducible refine (HF.out _ HRB.out).mono ?_); rintro e w1 ⟨rfl, rfl⟩)
              go_roundw
              case rel => exact ⟨f, f + h2, c + 1, some ⟨g, f, none⟩, cc, by first | rfl | (congr 1; omega), by go_num, by go_num, by omega, by omega, by omega, Lib.hid (fun _ => ⟨rfl, by omega, by omega⟩), HL2, HRB, HB⟩
              case measure => simp [sliceLen]; omega
            | true =>
              have HL2 := no (by unfold asks isMore; rw [← HY.out]; simp)
              clear yes no HL
              go_wp2_with (go_at_call 29; (with_reducible refine (HF.out _ HRB.out).mono ?_); rintro e w1 ⟨rfl, rfl⟩)
              go_roundw
              case rel => exact ⟨f + h2 + 1, e, c + 1, p2, cc - (h2 + 1), by first | rfl | (congr 1; omega), by go_num, by go_num, by omega, by omega, by omega, Lib.hid (fun h => ⟨by rw [HP2.out (by omega)]; rfl, by omega, by omega⟩), HL2, HRB, HB⟩
              case measure => simp [sliceLen]; omega
          · have HL2 := no (by unfold asks isMore notLess; rw [← HY.out]; cases up <;> simp <;> omega)
            have h6 : ¬ x < y := by omega
            have h7 : ¬ y = x := by omega
            clear yes no HL
            go_wp2_with (go_at_call 29; (with_reducible refine (HF.out _ HRB.out).mono ?_); rintro e w1 ⟨rfl, rfl⟩)
            go_roundw
            case rel => exact ⟨f + h2 + 1, e, c + 1, p2, cc - (h2 + 1), by first | rfl | (congr 1; omega), by go_num, by go_num, by omega, by omega, by omega, Lib.hid (fun h => ⟨by rw [HP2.out (by omega)]; rfl, by omega, by omega⟩), HL2, HRB, HB⟩
            case measure => simp [sliceLen]; omega
        · have hfe2 : f = e := by omega
          obtain rfl := hfe2
          have hz : ¬ (0 : Int) < ((f - f : Nat) : Int) := by omega
          go_wp2
          go_ret2
          have h4 := HL.out
          rw [lkGo_end _ c h] at h4
          subst h4
          exact ⟨rfl, HB.out⟩
end Go.Proofs.Ytnangnmnodpfjaa
