/-
  slices.Sort puts numbers in order, at int64; rank.Squeeze tells each number once, rising. No condition but those typed at each theorem.
-/
import Derived.Test.YtnangnmnodpfjaaPdq
import Derived.Test.YtnangnmnodpfjaaAppU
namespace Go.Proofs.Ytnangnmnodpfjaa
open Go.RowKit Go.Sort

theorem one_sort (d R : Array Int) (h1 : PermIn 0 d.size d R) (h2 : SortedIn ltInt 0 d.size R) : R = Sort.sort ltInt d := by
  have ha : ∀ x y : Int, ltInt x y = false → ltInt y x = false → x = y := by
    intro x y h1 h2
    simp [ltInt] at h1 h2
    omega
  have hS := sort_sorts ltInt swo_ltInt d
  have e1 := sorted_unique_holds (lt := ltInt) swo_ltInt ha d R h1 h2
  have e2 := sorted_unique_holds (lt := ltInt) swo_ltInt ha d (Sort.sort ltInt d) hS.1 hS.2
  exact Array.toList_inj.1 (e1.trans e2.symm)
theorem bl_100 (n : Nat) (h : n ≤ 8192) : Lib.bitLen n ≤ 100 := Nat.le_trans (Lib.bitLen_le n 14 (by omega) (by omega)) (by omega)

set_option maxRecDepth 100000 in
set_option maxHeartbeats 1600000 in
theorem sorts_any (n : Nat) (h : n ≤ 8192) : SortsL n := by
  intro w blk off cap d hn hH
  have HP := fun X (hX : Holds encU X blk off d) => pdq_any (n + 1) blk off cap 0 d.size (Lib.bitLen n) d X (by omega) hX (Nat.zero_le _) (Nat.le_refl _) (by omega) (bl_100 n h) (.inl rfl)
  have HL := fun X => Try.bits_Len n X (by omega) (by omega)
  have H1 := one_sort d
  rw [hn] at HP H1 ⊢
  simp only [Int.natCast_zero] at HP
  have HP' := Lib.hid HP
  have HL' := Lib.hid HL
  have HH := Lib.hid hH
  have H1' := Lib.hid H1
  clear HP HL hH hn H1
  go_enter Try.func26, Try.ntmps26
  go_wp2_with (first
    | (go_at_call 28; (with_reducible refine (HL'.out _).mono ?_); rintro e w1 ⟨rfl, rfl⟩)
    | (go_at_call 30; (with_reducible refine (HP'.out _ HH.out).mono ?_); rintro e w1 h1; obtain ⟨R, rfl, hs1, hH1, hO1, hP1, hS1⟩ := PDS.got (Off.refl _ _) h1; clear h1))
  go_end0
  have hR := H1'.out R hP1.out hS1.out
  subst hR
  exact ⟨rfl, hH1.out, hO1.out⟩

set_option maxRecDepth 100000 in
set_option maxHeartbeats 1600000 in
theorem Squeeze_of (w : World) (b : Addr) (c : Nat) (xs : List Int) (hx : NS w (some b) .i64 xs) (hn : xs.length ≤ 8192) :
    Calls Try.prog 16 #[.slice (some b) xs.length c] w fun e w' => ∃ q c', e = .returned (.slice q (onceL xs).length c') ∧ OS w w' q (onceL xs) ∧ (q = none → c' = 0) ∧ Below w.heap.size w w' := by
  have C1 := Lib.hid (Clone_some w b c xs hx hn)
  have hS := sorts_any xs.length hn
  obtain ⟨n, hnn⟩ : ∃ n, n = xs.length := ⟨_, rfl⟩
  rw [← hnn] at C1 hn hS
  rw [← hnn]
  have HN := Lib.hid hnn
  clear hnn hx
  go_enter Try.func16, Try.ntmps16
  go_wp2_with (first
    | (go_at_call 25; (with_reducible refine C1.out.mono ?_); rintro e w1 ⟨v, rfl, hown, hnil, hB1⟩; have HOWN := Lib.hid hown; have HNIL := Lib.hid hnil; have HB1 := Lib.hid hB1; clear hown hnil hB1))
  rcases HOWN.out with ⟨hlen, ⟨hv, -⟩ | ⟨g, cap, cur, rfl, hbg, hg, hncap, hcap, hcs, htk⟩⟩
  · exact absurd hv HNIL.out
  have hH1 : Holds encU w1 g 0 xs.toArray := by
    intro j hj
    simp at hj
    refine ⟨?_, by simp [World.frozen?, hg]⟩
    have h2 : (cur.toList.take (n * 1))[j]? = some (encU xs[j]) := by rw [htk]; simp [hj]
    rw [List.getElem?_take] at h2
    split at h2
    · simp at h2
      simp [World.cell?, hg, h2, getElem!_pos, hj]
    · cases h2
  have C2 := hS w1 g 0 cap xs.toArray (by simp [HN.out]) hH1
  rw [show xs.toArray.size = n by simp [HN.out]] at C2
  have hsz : (Sort.sort ltInt xs.toArray).size = n := by rw [sort_size, HN.out]
  have C3 := fun X (h : Holds encU X g 0 (Sort.sort ltInt xs.toArray)) => AnyE.slices_Compact Try.lcm encU (fun _ => rfl) (EqlAt.intD _ _ .i64) (NeqAt.intD _ _ .i64) 0 Try.zeroValue2 g 0 cap (Sort.sort ltInt xs.toArray) X h (by omega) (by omega)
  rw [hsz] at C3
  have HC2 := Lib.hid C2
  have HC3 := Lib.hid C3
  clear C2 C3 hH1
  go_wp2_with (first
    | (go_at_call 26; (with_reducible refine HC2.out.mono ?_); rintro e w2 ⟨rfl, hH2, hO2⟩; have HH2 := Lib.hid hH2; have HO2 := Lib.hid hO2; clear hH2 hO2)
    | (go_at_call 27; refine (HC3.out w2 HH2.out).mono ?_; rintro e w3 ⟨rfl, q, hw3⟩; have HW3 := Lib.hid hw3; clear hw3))
  go_ret
  have hO3 : Off [g] w2 w3 := by rw [HW3.out]; exact off_putRow _ _ _ _ _
  refine ⟨some ⟨g, 0, none⟩, cap, ?_, .inr ⟨g, rfl, hbg, ?_⟩, (fun h => by cases h), ?_⟩
  · simp [onceL, HN.out]
  · refine holds_front (ys := List.replicate (n - (onceL xs).length) 0) ?_
    have := holds_putRow encU (Sort.ahead w2 q) g 0 (Sort.sort ltInt xs.toArray) (onceL xs ++ List.replicate (n - (onceL xs).length) 0).toArray (fun j hj => HH2.out j hj) (by have := onceL_len xs; rw [hsz]; simp; have := HN.out; omega)
    rw [HW3.out]
    simp only [onceL, HN.out] at this ⊢
    exact this
  · exact HB1.out.trans ((HO2.out.trans hO3).below HB1.out.size (by simp [hbg]))

/-- rank.Squeeze, for every list of at most 8192 numbers -/
theorem Squeeze_any (w : World) (p : Option Addr) (c : Nat) (xs : List Int) (hx : NS w p .i64 xs) (hn : xs.length ≤ 8192) (hp : p = none → c = 0) :
    Calls Try.prog 16 #[.slice p xs.length c] w fun e w' => ∃ q c', e = .returned (.slice q (onceL xs).length c') ∧ OS w w' q (onceL xs) ∧ (q = none → c' = 0) ∧ Below w.heap.size w w' := by
  cases p with
  | none =>
    have hc := hp rfl
    subst hc
    have he : xs = [] := by
      rcases hx with h | ⟨b, off, h, -⟩
      · exact h
      · cases h
    subst he
    have h0 : onceL [] = [] := by
      have := onceL_len []
      exact List.length_eq_zero_iff.1 (by simpa using this)
    rw [h0]
    exact (Squeeze_nil w).mono fun e w' h => ⟨none, 0, h.1, .inl ⟨rfl, rfl⟩, fun _ => rfl, h.2 ▸ Below.refl _ _⟩
  | some a => exact Squeeze_of w a c xs hx hn
end Go.Proofs.Ytnangnmnodpfjaa
