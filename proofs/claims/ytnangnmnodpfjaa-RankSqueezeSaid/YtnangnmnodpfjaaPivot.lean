/-
  Which place Go's own sort chooses, and a range turned round, at int64. No condition but those typed at each theorem.
-/
import Derived.Test.YtnangnmnodpfjaaSift
namespace Go.Proofs.Ytnangnmnodpfjaa
open Go.RowKit Go.Sort

/-- a variable of one number -/
def OV (w : World) (S : Nat) : Prop := ∃ n : Int, w.heap[S]? = some (.cells #[.int .i64 n] 3 (0, 0))
theorem Holds.offB {S : List Nat} {w w' : World} {blk off : Nat} {d : Array Int} (hH : Holds encU w blk off d) (h : Off S w w') (hS : blk ∉ S) : Holds encU w' blk off d := fun t ht =>
  ⟨h.cell (hH t ht).1 hS, (World.frozen?_of_block (h.block _ (World.block_lt_of_cell? w _ (hH t ht).1) hS)).trans (hH t ht).2⟩

set_option maxRecDepth 100000 in
set_option maxHeartbeats 3200000 in
theorem order2_any (blk off cap a b S : Nat) (d : Array Int) (w : World) (hH : Holds encU w blk off d) (ha : a < d.size) (hb : b < d.size) (hS : OV w S) :
    Calls Try.prog 48 #[.slice (some ⟨blk, off, none⟩) d.size cap, .int .i64 a, .int .i64 b, .pointer (some ⟨S, 0, none⟩)] w fun e w' =>
      ∃ p q : Nat, e = .returned (.tuple #[.int .i64 p, .int .i64 q]) ∧ ((p = a ∧ q = b) ∨ (p = b ∧ q = a)) ∧ OV w' S ∧ Off [S] w w' := by
  obtain ⟨x, hx⟩ : ∃ x, x = d[b]! := ⟨_, rfl⟩
  obtain ⟨y, hy⟩ : ∃ y, y = d[a]! := ⟨_, rfl⟩
  have q1 := Hq hH hb hx
  have q2 := Hq hH ha hy
  obtain ⟨p, hp⟩ : ∃ p, p = ltInt x y := ⟨_, rfl⟩
  have HL := Lib.hid (lessQ hp)
  have HS := Lib.hid hS
  have inst : Nonempty (Wd (Bw w)) := ⟨⟨w, Below.refl _ _⟩⟩
  clear hx hy hp hH hS
  go_enter Try.func48, Try.ntmps48
  go_upto_region 1 with fail
  refine wp_region_wd (Bw w) (by kernel_rfl) (by kernel_rfl) ((Below.refl _ w).drew) ?_
  repeat (first | go_big_quiet_step (first | (go_at_call 39; with_reducible exact calls_wd (fun _ _ h hb => h.keep hb) _ (HL.out _))) | quiet_step (first | (go_at_call 39; with_reducible exact calls_wd (fun _ _ h hb => h.keep hb) _ (HL.out _))))
  refine wpQuiet_nil ?_
  rintro _ ⟨s, rfl⟩
  obtain ⟨n, hn⟩ := HS.out
  have hn1 : s.w.heap[S]? = some (.cells #[.int .i64 n] 3 (0, 0)) := (s.h.block S (lt_of_block hn)).trans hn
  have HO := Lib.hid (Off.of (S := [S]) s.h (Nat.le_refl _))
  generalize s.w = w1 at *
  clear s q1 q2 inst
  cases p
  · go_wp2
    go_ret2
    exact ⟨a, b, rfl, .inl ⟨rfl, rfl⟩, ⟨n, hn1⟩, HO.out⟩
  · have c := cell_of_one hn1
    have f := free_of_one hn1
    have HN := Lib.hid hn1
    obtain ⟨m, hm⟩ : ∃ m, m = IntKind.i64.wrap (n + 1) := ⟨_, rfl⟩
    have hm' : IntKind.i64.wrap (n + 1) = m := hm.symm
    clear hm hn1
    go_wp2
    go_ret2
    exact ⟨b, a, rfl, .inr ⟨rfl, rfl⟩, ⟨_, one_setCell HN.out⟩, HO.out.set _ _ (.inl (by simp))⟩

set_option maxRecDepth 100000 in
set_option maxHeartbeats 3200000 in
theorem median_any (blk off cap a b c S : Nat) (d : Array Int) (w : World) (hH : Holds encU w blk off d) (ha : a < d.size) (hb : b < d.size) (hc : c < d.size) (hS : OV w S) (hne : blk ≠ S) :
    Calls Try.prog 46 #[.slice (some ⟨blk, off, none⟩) d.size cap, .int .i64 a, .int .i64 b, .int .i64 c, .pointer (some ⟨S, 0, none⟩)] w fun e w' =>
      ∃ p : Nat, e = .returned (.int .i64 p) ∧ (p = a ∨ p = b ∨ p = c) ∧ OV w' S ∧ Off [S] w w' := by
  have HC := Lib.hid (fun X u v (h : Holds encU X blk off d) hu hv (hS : OV X S) => order2_any blk off cap u v S d X h hu hv hS)
  have HH := Lib.hid hH
  have HS := Lib.hid hS
  have hn : blk ∉ [S] := by simpa using hne
  clear hH hS
  go_enter Try.func46, Try.ntmps46
  go_wp2_with (first
    | (go_at_call 48; (with_reducible refine (HC.out w a b HH.out ha hb HS.out).mono ?_); rintro e w1 ⟨p1, q1, rfl, h1, hS1, hO1⟩; have H1 := Lib.hid h1; have hp1 : p1 < d.size ∧ q1 < d.size := (by omega); have HS1 := Lib.hid hS1; have HO1 := Lib.hid hO1; have HH1 := Lib.hid (Holds.offB HH.out hO1 hn); clear h1 hS1 hO1)
    | (go_at_call 48; (with_reducible refine (HC.out w1 q1 c HH1.out hp1.2 hc HS1.out).mono ?_); rintro e w2 ⟨p2, q2, rfl, h2, hS2, hO2⟩; have H2 := Lib.hid h2; have hp2 : p2 < d.size ∧ q2 < d.size := (by omega); have HS2 := Lib.hid hS2; have HO2 := Lib.hid (HO1.out.trans hO2); have HH2 := Lib.hid (Holds.offB HH1.out hO2 hn); clear h2 hS2 hO2)
    | (go_at_call 48; (with_reducible refine (HC.out w2 p1 p2 HH2.out hp1.1 hp2.1 HS2.out).mono ?_); rintro e w3 ⟨p3, q3, rfl, h3, hS3, hO3⟩; have H3 := Lib.hid h3; have HS3 := Lib.hid hS3; have HO3 := Lib.hid (HO2.out.trans hO3); clear h3 hS3 hO3))
  go_ret
  refine ⟨q3, rfl, ?_, HS3.out, HO3.out⟩
  have := H1.out
  have := H2.out
  have := H3.out
  omega

set_option maxRecDepth 100000 in
set_option maxHeartbeats 3200000 in
theorem medadj_any (blk off cap a S : Nat) (d : Array Int) (w : World) (hH : Holds encU w blk off d) (ha : a + 1 < d.size) (ha1 : 1 ≤ a) (hsz : d.size ≤ 100000) (hS : OV w S) (hne : blk ≠ S) :
    Calls Try.prog 45 #[.slice (some ⟨blk, off, none⟩) d.size cap, .int .i64 a, .pointer (some ⟨S, 0, none⟩)] w fun e w' =>
      ∃ p : Nat, e = .returned (.int .i64 p) ∧ (p + 1 = a ∨ p = a ∨ p = a + 1) ∧ OV w' S ∧ Off [S] w w' := by
  have C := median_any blk off cap (a - 1) a (a + 1) S d w hH (by omega) (by omega) ha hS hne
  have z1 : ((a - 1 : Nat) : Int) = (a : Int) - 1 := by omega
  have z2 : ((a + 1 : Nat) : Int) = (a : Int) + 1 := by omega
  rw [z1, z2] at C
  have HC := Lib.hid C
  clear C z1 z2 hH hS
  go_enter Try.func45, Try.ntmps45
  go_wp2_with (go_at_call 46; (with_reducible refine HC.out.mono ?_); rintro e w1 ⟨p, rfl, h1, hS1, hO1⟩)
  go_ret
  exact ⟨p, rfl, by omega, hS1, hO1⟩

set_option maxRecDepth 100000 in
set_option maxHeartbeats 6400000 in
theorem choose_any (blk off cap a b : Nat) (d : Array Int) (w : World) (hH : Holds encU w blk off d) (hb : b ≤ d.size) (hab : a + 13 ≤ b) (hsz : d.size ≤ 100000) :
    Calls Try.prog 36 #[.slice (some ⟨blk, off, none⟩) d.size cap, .int .i64 a, .int .i64 b] w fun e w' =>
      ∃ (p : Nat) (h : Int), e = .returned (.tuple #[.int .i64 p, .int .i64 h]) ∧ (a ≤ p ∧ p < b) ∧ (h = 0 ∨ h = 1 ∨ h = 2) ∧ Below w.heap.size w w' := by
  have hlt := World.block_lt_of_cell? w _ (hH a (by omega)).1
  have hne : blk ≠ w.heap.size := by simp at hlt; omega
  have hn : blk ∉ [w.heap.size] := by simpa using hne
  obtain ⟨W, hW⟩ : ∃ W, W = w.alloc (.cells #[.int .i64 0] 3) := ⟨_, rfl⟩
  have hS0 : OV W w.heap.size := by subst hW; exact ⟨0, heap_alloc_new w _⟩
  have hB0 : Below w.heap.size w W := by subst hW; exact (Below.refl _ w).alloc (Nat.le_refl _) _
  have hWs : w.heap.size < W.heap.size := by subst hW; simp
  have hH0 := Holds.keepB hH hB0
  have HC := Lib.hid (fun X u v t (h : Holds encU X blk off d) hu hv ht (hS : OV X w.heap.size) => median_any blk off cap u v t w.heap.size d X h hu hv ht hS hne)
  have HA := Lib.hid (fun X u (h : Holds encU X blk off d) hu hu1 (hS : OV X w.heap.size) => medadj_any blk off cap u w.heap.size d X h hu hu1 hsz hS hne)
  have HH0 := Lib.hid hH0
  have HS0 := Lib.hid hS0
  have HB0 := Lib.hid hB0
  obtain ⟨l, hl⟩ : ∃ n : Nat, n = b - a := ⟨_, rfl⟩
  obtain ⟨q, hq⟩ : ∃ n : Nat, n = l / 4 := ⟨_, rfl⟩
  obtain ⟨i, hi⟩ : ∃ n : Nat, n = a + q := ⟨_, rfl⟩
  obtain ⟨j, hj⟩ : ∃ n : Nat, n = a + q * 2 := ⟨_, rfl⟩
  obtain ⟨k, hk⟩ : ∃ n : Nat, n = a + q * 3 := ⟨_, rfl⟩
  have zl : (b : Int) - a = (l : Int) := by omega
  have zq : (l : Int).tdiv 4 = (q : Int) := by rw [hq]; rfl
  have zq2 : (l : Int) / 4 = (q : Int) := by omega
  have zi : (a : Int) + q = (i : Int) := by omega
  have zj : (a : Int) + (q : Int) * 2 = (j : Int) := by omega
  have zk : (a : Int) + (q : Int) * 3 = (k : Int) := by omega
  have hl8 : (8 : Int) ≤ l := by omega
  have hlb : l ≤ 100000 := by omega
  have hqb : q ≤ 100000 := by omega
  have hij : i < d.size ∧ j < d.size ∧ k < d.size := by omega
  have HF := Lib.hid (show l = b - a ∧ q = l / 4 ∧ i = a + q ∧ j = a + q * 2 ∧ k = a + q * 3 from ⟨hl, hq, hi, hj, hk⟩)
  clear hl hq hi hj hk hH0 hS0 hB0 hH hlt
  have fin : ∀ (X : World) (p : Nat), OV X w.heap.size → Off [w.heap.size] W X → a ≤ p ∧ p < b → ∃ n : Int, X.cell? ⟨w.heap.size, 0, none⟩ = some (.int .i64 n) ∧ Below w.heap.size w X := by
    rintro X p ⟨n, hn⟩ hO -
    exact ⟨n, cell_of_one hn, HB0.out.trans (hO.below (by omega) (by simp))⟩
  have FIN := Lib.hid fin
  clear fin
  go_enter Try.func36, Try.ntmps36
  go_upto_region 3 with fail
  rw [← hW]
  have HW := Lib.hid hW
  clear hW
  by_cases h50 : 50 ≤ l
  · have h50z : (50 : Int) ≤ l := by omega
    have hb1 : 1 ≤ i ∧ 1 ≤ j ∧ 1 ≤ k ∧ i + 1 < d.size ∧ j + 1 < d.size ∧ k + 1 < d.size := by have := HF.out; omega
    go_upto_region 12 with (first
      | (go_at_call 45; (with_reducible refine (HA.out W i HH0.out hb1.2.2.2.1 hb1.1 HS0.out).mono ?_); rintro e w1 ⟨p1, rfl, h1, hS1, hO1⟩; have H1 := Lib.hid h1; have g1 : p1 < d.size := (by omega); have HS1 := Lib.hid hS1; have HO1 := Lib.hid hO1; have HH1 := Lib.hid (Holds.offB HH0.out hO1 hn); clear h1 hS1 hO1)
      | (go_at_call 45; (with_reducible refine (HA.out w1 j HH1.out hb1.2.2.2.2.1 hb1.2.1 HS1.out).mono ?_); rintro e w2 ⟨p2, rfl, h2, hS2, hO2⟩; have H2 := Lib.hid h2; have g2 : p2 < d.size := (by omega); have HS2 := Lib.hid hS2; have HO2 := Lib.hid (HO1.out.trans hO2); have HH2 := Lib.hid (Holds.offB HH1.out hO2 hn); clear h2 hS2 hO2)
      | (go_at_call 45; (with_reducible refine (HA.out w2 k HH2.out hb1.2.2.2.2.2 hb1.2.2.1 HS2.out).mono ?_); rintro e w3 ⟨p3, rfl, h3, hS3, hO3⟩; have H3 := Lib.hid h3; have g3 : p3 < d.size := (by omega); have HS3 := Lib.hid hS3; have HO3 := Lib.hid (HO2.out.trans hO3); have HH3 := Lib.hid (Holds.offB HH2.out hO3 hn); clear h3 hS3 hO3)
      | (go_at_call 46; (with_reducible refine (HC.out w3 p1 p2 p3 HH3.out g1 g2 g3 HS3.out).mono ?_); rintro e w4 ⟨p4, rfl, h4, hS4, hO4⟩; have H4 := Lib.hid h4; have HS4 := Lib.hid hS4; have HO4 := Lib.hid (HO3.out.trans hO4); clear h4 hS4 hO4))
    have hp : a ≤ p4 ∧ p4 < b := by
      have := H1.out
      have := H2.out
      have := H3.out
      have := H4.out
      have := HF.out
      omega
    obtain ⟨n, hcell, hbel⟩ := FIN.out w4 p4 HS4.out HO4.out hp
    have HBEL := Lib.hid hbel
    have HP := Lib.hid hp
    clear hbel hp
    by_cases n0 : n = 0
    · subst n0
      go_wp2
      go_ret2
      exact ⟨p4, _, rfl, HP.out, .inr (.inl rfl), HBEL.out⟩
    · by_cases n12 : n = 12
      · subst n12
        go_wp2
        go_ret2
        exact ⟨p4, _, rfl, HP.out, .inr (.inr rfl), HBEL.out⟩
      · go_wp2
        go_ret2
        exact ⟨p4, _, rfl, HP.out, .inl rfl, HBEL.out⟩
  · have h50z : ¬ (50 : Int) ≤ l := by omega
    go_upto_region 12 with (first
      | (go_at_call 46; (with_reducible refine (HC.out W i j k HH0.out hij.1 hij.2.1 hij.2.2 HS0.out).mono ?_); rintro e w4 ⟨p4, rfl, h4, hS4, hO4⟩; have H4 := Lib.hid h4; have HS4 := Lib.hid hS4; have HO4 := Lib.hid hO4; clear h4 hS4 hO4))
    have hp : a ≤ p4 ∧ p4 < b := by
      have := H4.out
      have := HF.out
      omega
    obtain ⟨n, hcell, hbel⟩ := FIN.out w4 p4 HS4.out HO4.out hp
    have HBEL := Lib.hid hbel
    have HP := Lib.hid hp
    clear hbel hp
    by_cases n0 : n = 0
    · subst n0
      go_wp2
      go_ret2
      exact ⟨p4, _, rfl, HP.out, .inr (.inl rfl), HBEL.out⟩
    · by_cases n12 : n = 12
      · subst n12
        go_wp2
        go_ret2
        exact ⟨p4, _, rfl, HP.out, .inr (.inr rfl), HBEL.out⟩
      · go_wp2
        go_ret2
        exact ⟨p4, _, rfl, HP.out, .inl rfl, HBEL.out⟩

set_option maxRecDepth 100000 in
set_option maxHeartbeats 3200000 in
theorem reverse_any (blk off cap a b : Nat) (d : Array Int) (w : World) (hH : Holds encU w blk off d) (hab : a < b) (hb : b ≤ d.size) (hsz : d.size ≤ 100000) :
    Calls Try.prog 37 #[.slice (some ⟨blk, off, none⟩) d.size cap, .int .i64 a, .int .i64 b] w fun e w' =>
      e = .returned (.tuple #[]) ∧ Holds encU w' blk off (reverseRange d a b) ∧ Off [blk] w w' := by
  have HH := Lib.hid hH
  clear hH
  obtain ⟨j0, hj0⟩ : ∃ n : Nat, n = b - 1 := ⟨_, rfl⟩
  have zj0 : (b : Int) - 1 = (j0 : Int) := by omega
  have HJ0 := Lib.hid hj0
  have hj1 : j0 < d.size := by omega
  clear hj0
  go_enter Try.func37, Try.ntmps37
  go_wp2
  go_loopw [6, 7] (fun vi vj wr => ∃ (i j : Nat) (dk : Array Int), vi = .int .i64 i ∧ vj = .int .i64 j ∧ i ≤ j + 1 ∧ j < d.size ∧ dk.size = d.size ∧ Hid (Holds encU wr blk off dk) ∧ Hid (Off [blk] w wr) ∧ Hid (reverseLoop i j dk = reverseLoop a j0 d)) (fun vi vj _ => (intOf vj + 1 - intOf vi).toNat)
  case atStart => exact ⟨a, j0, d, rfl, rfl, by have := HJ0.out; omega, hj1, rfl, HH, Lib.hid (Off.refl _ _), Lib.hid rfl⟩
  case round =>
    obtain ⟨i, j, dk, rfl, rfl, hij, hjd, hsk, HHk, HOk, HI⟩ := hrel
    by_cases hlt : i < j
    · have hltz : (i : Int) < j := by omega
      obtain ⟨x, hx⟩ : ∃ x, x = dk[i]! := ⟨_, rfl⟩
      obtain ⟨y, hy⟩ : ∃ y, y = dk[j]! := ⟨_, rfl⟩
      have c1 : wr.cell? ⟨blk, off + i, none⟩ = some (.int .i64 x) := by rw [hx]; exact (HHk.out i (by omega)).1
      have c2 : wr.cell? ⟨blk, off + j, none⟩ = some (.int .i64 y) := by rw [hy]; exact (HHk.out j (by omega)).1
      have f1 := (HHk.out i (by omega)).2
      have f2 := (HHk.out j (by omega)).2
      have hid : i < d.size := by omega
      have hne : ¬ i = j := by omega
      have hne2 : ¬ j = i := by omega
      obtain ⟨hs1, hs2⟩ := swz HHk.out HOk.out (show i < dk.size by omega) (show j < dk.size by omega) hx hy
      have HS1 := Lib.hid hs1
      have HS2 := Lib.hid hs2
      clear hs1 hs2 hx hy
      go_upto_region 3 with fail
      go_region
      all_goals go_wp2
      all_goals go_roundw
      case rel => exact ⟨i + 1, j - 1, swp dk i j, by go_num, by go_num, by omega, by omega, by rw [size_swp]; exact hsk, HS1, Lib.hid HS2.out.drew, Lib.hid (by rw [← HI.out]; conv => rhs; rw [reverseLoop, if_pos hlt])⟩
      case measure => simp [intOf] <;> omega
    · have hltz : ¬ (i : Int) < j := by omega
      go_wp2
      go_end0
      have h1 := HI.out
      rw [reverseLoop, if_neg hlt] at h1
      exact ⟨rfl, by unfold reverseRange; rw [← HJ0.out, ← h1]; exact HHk.out, HOk.out⟩
end Go.Proofs.Ytnangnmnodpfjaa
