/-
  Go's own sort stirs a range, at int64. No condition but those typed at each theorem.
-/
import Derived.Test.YtnangnmnodpfjaaPivot
import Derived.Laws.BitsAllLaws
namespace Go.Proofs.Ytnangnmnodpfjaa
open Go.RowKit Go.Sort

theorem Off.viaN {blk : Nat} {w X Y : World} (h : Off [blk] w X) (g : Off [w.heap.size] X Y) : Off [blk] w Y :=
  ⟨g.os.trans h.os, g.tape.trans h.tape, g.output.trans h.output, Nat.le_trans h.size g.size, fun k hk hS => (g.block k (Nat.lt_of_lt_of_le hk h.size) (fun e => by simp at e; omega)).trans (h.block k hk hS)⟩
theorem Holds.offN {w X Y : World} {blk off : Nat} {d : Array Int} (hH : Holds encU X blk off d) (h : Off [w.heap.size] X Y) (hne : w.heap.size ≠ blk) : Holds encU Y blk off d := Holds.offB hH h (by simpa using Ne.symm hne)
/-- a variable of one number of 64 bits -/
def XV (w : World) (S : Nat) : Prop := ∃ n : Int, w.heap[S]? = some (.cells #[.int .u64 n] 58 (0, 0))

theorem XV.swap {X : World} {S blk : Nat} (h : XV X S) (hne : S ≠ blk) (p q : Nat) (u v : Value) : XV ((X.setCell ⟨blk, p, none⟩ u).setCell ⟨blk, q, none⟩ v).drew S := by
  obtain ⟨n, hn⟩ := h
  exact ⟨n, ((Below.heap_setCell _ _ _ _ hne).trans (Below.heap_setCell _ _ _ _ hne)).trans hn⟩

set_option maxRecDepth 100000 in
set_option maxHeartbeats 3200000 in
theorem next_any' (S : Nat) (w : World) (hS : XV w S) :
    Calls Try.prog 44 #[.pointer (some ⟨S, 0, none⟩)] w fun e w' => ∃ x : Int, e = .returned (.int .u64 x) ∧ XV w' S ∧ Off [S] w w' := by
  obtain ⟨n, hn⟩ := hS
  have c := cell_of_one hn
  have f := free_of_one hn
  have HN := Lib.hid hn
  clear hn
  have HN0 := HN
  have HO0 := Lib.hid (Off.refl [S] w)
  have c0 := c
  have f0 := f
  clear c f HN
  go_enter Try.func44, Try.ntmps44
  go_upto_region 1 with fail
  go_region
  have HN1 := Lib.hid (show ((w.setCell ⟨S, 0, none⟩ (.int .u64 (bits .xor .u64 n (IntKind.u64.wrap (n * 8192))))).drew).heap[S]? = some (.cells #[.int .u64 (bits .xor .u64 n (IntKind.u64.wrap (n * 8192)))] 58 (0, 0)) from one_setCell HN0.out)
  have HO1 := Lib.hid ((HO0.out.set ⟨S, 0, none⟩ (.int .u64 (bits .xor .u64 n (IntKind.u64.wrap (n * 8192)))) (.inl (by simp))).drew)
  have c1 := cell_of_one HN1.out
  have f1 := free_of_one HN1.out
  clear c0 f0
  generalize (w.setCell ⟨S, 0, none⟩ (.int .u64 (bits .xor .u64 n (IntKind.u64.wrap (n * 8192))))).drew = w1 at *
  generalize bits .xor .u64 n (IntKind.u64.wrap (n * 8192)) = n1 at *
  go_upto_region 2 with fail
  go_region
  have HN2 := Lib.hid (show ((w1.setCell ⟨S, 0, none⟩ (.int .u64 (bits .xor .u64 n1 (n1 / 128)))).drew).heap[S]? = some (.cells #[.int .u64 (bits .xor .u64 n1 (n1 / 128))] 58 (0, 0)) from one_setCell HN1.out)
  have HO2 := Lib.hid ((HO1.out.set ⟨S, 0, none⟩ (.int .u64 (bits .xor .u64 n1 (n1 / 128))) (.inl (by simp))).drew)
  have c2 := cell_of_one HN2.out
  have f2 := free_of_one HN2.out
  clear c1 f1
  generalize (w1.setCell ⟨S, 0, none⟩ (.int .u64 (bits .xor .u64 n1 (n1 / 128)))).drew = w2 at *
  generalize bits .xor .u64 n1 (n1 / 128) = n2 at *
  go_upto_region 3 with fail
  go_region
  have HN3 := Lib.hid (show ((w2.setCell ⟨S, 0, none⟩ (.int .u64 (bits .xor .u64 n2 (IntKind.u64.wrap (n2 * 131072))))).drew).heap[S]? = some (.cells #[.int .u64 (bits .xor .u64 n2 (IntKind.u64.wrap (n2 * 131072)))] 58 (0, 0)) from one_setCell HN2.out)
  have HO3 := Lib.hid ((HO2.out.set ⟨S, 0, none⟩ (.int .u64 (bits .xor .u64 n2 (IntKind.u64.wrap (n2 * 131072)))) (.inl (by simp))).drew)
  have c3 := cell_of_one HN3.out
  have f3 := free_of_one HN3.out
  clear c2 f2
  generalize (w2.setCell ⟨S, 0, none⟩ (.int .u64 (bits .xor .u64 n2 (IntKind.u64.wrap (n2 * 131072))))).drew = w3 at *
  generalize bits .xor .u64 n2 (IntKind.u64.wrap (n2 * 131072)) = n3 at *
  go_wp2
  go_ret
  exact ⟨n3, rfl, ⟨n3, HN3.out⟩, HO3.out⟩

theorem bl_le : ∀ (f x : Nat), 0 < x → 2 ^ Lib.bitLenAux f x ≤ 2 * x
  | 0, x, h => by simp [Lib.bitLenAux]; omega
  | f + 1, x, h => by
    rw [Lib.bitLenAux, if_neg (by omega)]
    by_cases h1 : x / 2 = 0
    · rw [h1, show Lib.bitLenAux f 0 = 0 by cases f <;> simp [Lib.bitLenAux]]
      simp
      omega
    · have := bl_le f (x / 2) (by omega)
      rw [Nat.pow_add]
      omega
set_option maxRecDepth 100000 in
theorem pow2_any (n : Nat) (w : World) (hn : n ≤ 100000) (h0 : 0 < n) : Calls Try.prog 43 #[.int .i64 n] w fun e w' => (∃ m : Nat, 1 ≤ m ∧ m ≤ 2 * n ∧ e = .returned (.int .u64 m)) ∧ w' = w := by
  have hL := Try.bits_Len n w (by omega) (by omega)
  have hb := bl_le 64 n h0
  have hb2 : Lib.bitLen n ≤ 17 := by
    rcases Nat.lt_or_ge 17 (Lib.bitLen n) with h | h
    · have := Nat.pow_le_pow_right (show 0 < 2 by decide) (show 18 ≤ Lib.bitLen n by omega)
      have : 2 ^ Lib.bitLen n ≤ 2 * n := hb
      omega
    · exact h
  have hpos : 0 < 2 ^ Lib.bitLen n := Nat.pow_pos (by decide)
  have hb' : 2 ^ Lib.bitLen n ≤ 2 * n := hb
  have HL := Lib.hid hL
  clear hL hb
  go_enter Try.func43, Try.ntmps43
  go_wp2_with (go_at_call 28; (with_reducible refine HL.out.mono ?_); rintro e w1 ⟨rfl, rfl⟩)
  go_ret
  refine ⟨⟨2 ^ Lib.bitLen n, hpos, hb', ?_⟩, rfl⟩
  have hp : ((2 : Int) ^ Lib.bitLen n) = ((2 ^ Lib.bitLen n : Nat) : Int) := by simp
  show Ending.returned (.int .u64 (IntKind.u64.wrap (2 ^ Lib.bitLen n))) = _
  rw [IntKind.wrap_u64, hp]
  congr 2
  omega
theorem and_le (a : Int) (m : Nat) (hm : m < 18446744073709551616) : ∃ r : Nat, bits .and .u64 a (m : Int) = (r : Int) ∧ r ≤ m := by
  refine ⟨((BitVec.ofInt 64 a).toNat &&& m), ?_, Nat.and_le_right⟩
  show IntKind.u64.wrap ((BitVec.ofInt 64 a &&& BitVec.ofInt 64 (m : Int)).toNat : Int) = _
  have hx : (BitVec.ofInt 64 a).toNat &&& m < 2 ^ 64 := Nat.and_lt_two_pow _ (by omega)
  rw [BitVec.toNat_and, ofInt_u64 m hm, IntKind.wrap_u64]
  omega

set_option maxRecDepth 100000 in
set_option maxHeartbeats 12800000 in
theorem break_any (blk off cap a b : Nat) (d : Array Int) (w : World) (hH : Holds encU w blk off d) (hb : b ≤ d.size) (hab : a + 13 ≤ b) (hsz : d.size ≤ 100000) :
    Calls Try.prog 35 #[.slice (some ⟨blk, off, none⟩) d.size cap, .int .i64 a, .int .i64 b] w fun e w' =>
      e = .returned (.tuple #[]) ∧ ∃ d' : Array Int, d'.size = d.size ∧ Holds encU w' blk off d' ∧ Off [blk] w w' ∧ PermIn a b d d' := by
  have hlt := World.block_lt_of_cell? w _ (hH a (by omega)).1
  have hne : w.heap.size ≠ blk := by simp at hlt; omega
  obtain ⟨l, hl⟩ : ∃ n : Nat, n = b - a := ⟨_, rfl⟩
  obtain ⟨q, hq⟩ : ∃ n : Nat, n = l / 4 := ⟨_, rfl⟩
  obtain ⟨lo, hlo⟩ : ∃ n : Nat, n = a + q * 2 - 1 := ⟨_, rfl⟩
  obtain ⟨hi, hhi⟩ : ∃ n : Nat, n = a + q * 2 + 1 := ⟨_, rfl⟩
  have zl : (b : Int) - a = (l : Int) := by omega
  have zq : (l : Int).tdiv 4 = (q : Int) := by rw [hq]; rfl
  have zq2 : (l : Int) / 4 = (q : Int) := by omega
  have zlo : (a : Int) + (q : Int) * 2 - 1 = (lo : Int) := by omega
  have zhi : (a : Int) + (q : Int) * 2 + 1 = (hi : Int) := by omega
  have hl8 : (8 : Int) ≤ l := by omega
  have hlb : l ≤ 100000 := by omega
  have hqb : q ≤ 100000 := by omega
  have HFF := Lib.hid (show a + 5 ≤ lo ∧ lo + 2 = hi ∧ hi < b ∧ a + l = b by omega)
  have hhb : hi ≤ 100000 := by omega
  obtain ⟨W, hW⟩ : ∃ W, W = w.alloc (.cells #[.int .u64 l] 58) := ⟨_, rfl⟩
  have hX0 : XV W w.heap.size := by subst hW; exact ⟨_, heap_alloc_new w _⟩
  have hO0 : Off [blk] w W := by subst hW; exact (Off.refl _ w).all _
  have hH0 : Holds encU W blk off d := Holds.keepB hH (by subst hW; exact (Below.refl _ w).alloc (Nat.le_refl _) _)
  have HP2 := Lib.hid (pow2_any l W (by omega) (by omega))
  have HX0 := Lib.hid hX0
  have HO0 := Lib.hid hO0
  have HH0 := Lib.hid hH0
  clear hl hq hlo hhi hX0 hO0 hH0 hH hlt
  go_enter Try.func35, Try.ntmps35
  go_upto_region 3 with fail
  rw [← hW]
  have HW := Lib.hid hW
  clear hW
  go_wp2_with (go_at_call 43; (with_reducible refine HP2.out.mono ?_); rintro e w1 ⟨⟨m, hm1, hm2, rfl⟩, rfl⟩)
  obtain ⟨m1, hm⟩ : ∃ n : Nat, n = m - 1 := ⟨_, rfl⟩
  have zm : (m : Int) - 1 = (m1 : Int) := by omega
  have hm3 : m1 < 2 * l := by omega
  have HM := Lib.hid hm
  clear hm HP2
  go_loopw [9] (fun v wr => ∃ (j : Nat) (dk : Array Int), v = .int .i64 j ∧ lo ≤ j ∧ j ≤ hi + 1 ∧ dk.size = d.size ∧ Hid (Holds encU wr blk off dk) ∧ Hid (Off [blk] w wr) ∧ Hid (PermIn a b d dk) ∧ Hid (XV wr w.heap.size)) (fun v _ => (hi + 1 - intOf v).toNat)
  case atStart => exact ⟨lo, d, rfl, Nat.le_refl _, by have := HFF.out; omega, rfl, HH0, HO0, Lib.hid (permIn_refl _ _ _), HX0⟩
  case round =>
    clear HH0 HO0 HX0
    obtain ⟨j, dk, rfl, hj1, hj2, hsk, HHk, HOk, HP, HX⟩ := hrel
    by_cases hle : j ≤ hi
    · have hlez : (j : Int) ≤ hi := by omega
      have HC := Lib.hid (next_any' w.heap.size wr HX.out)
      have hand := Lib.hid (fun rx => and_le rx m1 (by omega))
      go_upto_region 8 with (go_at_call 44; (with_reducible refine HC.out.mono ?_); rintro e w2 ⟨rx, rfl, hX2, hO2⟩; obtain ⟨r, hr, hrm⟩ := hand.out rx; have HX2 := Lib.hid hX2; have HH2 := Lib.hid (Holds.offN HHk.out hO2 hne); have HO2 := Lib.hid (HOk.out.viaN hO2); clear hX2 hO2)
      by_cases hrl : r < l
      · have hrz : (r : Int) < l := by omega
        obtain ⟨o, ho⟩ : ∃ n : Nat, n = r := ⟨_, rfl⟩
        subst ho
        have hol : o < l := hrl
        clear hrl
        obtain ⟨ao, hao⟩ : ∃ n : Nat, n = a + o := ⟨_, rfl⟩
        have zao : (a : Int) + o = (ao : Int) := by omega
        obtain ⟨x, hx⟩ : ∃ x, x = dk[j]! := ⟨_, rfl⟩
        obtain ⟨y, hy⟩ : ∃ y, y = dk[ao]! := ⟨_, rfl⟩
        have hjd : j < d.size := by have := HFF.out; omega
        have hod : ao < d.size := by have := HFF.out; omega
        have c1 : w2.cell? ⟨blk, off + j, none⟩ = some (.int .i64 x) := by rw [hx]; exact (HH2.out j (by omega)).1
        have c2 : w2.cell? ⟨blk, off + ao, none⟩ = some (.int .i64 y) := by rw [hy]; exact (HH2.out ao (by omega)).1
        have f1 := (HH2.out j (by omega)).2
        have f2 := (HH2.out ao (by omega)).2
        obtain ⟨hs1, hs2⟩ := swz HH2.out HO2.out (show j < dk.size by omega) (show ao < dk.size by omega) hx hy
        have HS1 := Lib.hid hs1
        have HS2 := Lib.hid hs2
        have HAO := Lib.hid (show ao = a + o ∧ o < l from ⟨hao, hol⟩)
        have HXX := Lib.hid hx
        have HYY := Lib.hid hy
        clear hs1 hs2 hx hy hao hol
        by_cases hjo : j = ao
        · have hxy : x = y := by rw [HXX.out, HYY.out, hjo]
          subst hjo hxy
          go_upto_region 10 with fail
          have yao : IntKind.i64.wrap ((a : Int) + o) = (j : Int) := by rw [IntWalk.i64_in _ (by omega)]; exact zao
          go_region
          all_goals clear yao
          all_goals go_wp2
          all_goals go_roundw
          case rel => exact ⟨j + 1, swp dk j j, by go_num, by omega, by omega, by rw [size_swp]; exact hsk, HS1, Lib.hid HS2.out.drew, Lib.hid (permIn_trans _ _ _ _ _ HP.out (swp_permIn _ _ _ _ _ (by have := HFF.out; omega) (by have := HFF.out; omega) (by have := HFF.out; have := HAO.out; omega) (by have := HFF.out; have := HAO.out; omega) (by omega))), Lib.hid (XV.swap HX2.out hne _ _ _ _)⟩
          case measure => simp [intOf] <;> omega
        · have hjo2 : ¬ ao = j := fun e => hjo e.symm
          go_upto_region 10 with fail
          have yao : IntKind.i64.wrap ((a : Int) + o) = (ao : Int) := by rw [IntWalk.i64_in _ (by omega)]; exact zao
          go_region
          all_goals clear yao
          all_goals go_wp2
          all_goals go_roundw
          case rel => exact ⟨j + 1, swp dk j ao, by go_num, by omega, by omega, by rw [size_swp]; exact hsk, HS1, Lib.hid HS2.out.drew, Lib.hid (permIn_trans _ _ _ _ _ HP.out (swp_permIn _ _ _ _ _ (by have := HFF.out; omega) (by have := HFF.out; omega) (by have := HFF.out; have := HAO.out; omega) (by have := HFF.out; have := HAO.out; omega) (by omega))), Lib.hid (XV.swap HX2.out hne _ _ _ _)⟩
          case measure => simp [intOf] <;> omega
      · have hrz : ¬ (r : Int) < l := by omega
        obtain ⟨o, ho⟩ : ∃ n : Nat, n = r - l := ⟨_, rfl⟩
        have zo : (r : Int) - l = (o : Int) := by omega
        have hol : o < l := by omega
        clear ho hrl
        obtain ⟨ao, hao⟩ : ∃ n : Nat, n = a + o := ⟨_, rfl⟩
        have zao : (a : Int) + o = (ao : Int) := by omega
        obtain ⟨x, hx⟩ : ∃ x, x = dk[j]! := ⟨_, rfl⟩
        obtain ⟨y, hy⟩ : ∃ y, y = dk[ao]! := ⟨_, rfl⟩
        have hjd : j < d.size := by have := HFF.out; omega
        have hod : ao < d.size := by have := HFF.out; omega
        have c1 : w2.cell? ⟨blk, off + j, none⟩ = some (.int .i64 x) := by rw [hx]; exact (HH2.out j (by omega)).1
        have c2 : w2.cell? ⟨blk, off + ao, none⟩ = some (.int .i64 y) := by rw [hy]; exact (HH2.out ao (by omega)).1
        have f1 := (HH2.out j (by omega)).2
        have f2 := (HH2.out ao (by omega)).2
        obtain ⟨hs1, hs2⟩ := swz HH2.out HO2.out (show j < dk.size by omega) (show ao < dk.size by omega) hx hy
        have HS1 := Lib.hid hs1
        have HS2 := Lib.hid hs2
        have HAO := Lib.hid (show ao = a + o ∧ o < l from ⟨hao, hol⟩)
        have HXX := Lib.hid hx
        have HYY := Lib.hid hy
        clear hs1 hs2 hx hy hao hol
        by_cases hjo : j = ao
        · have hxy : x = y := by rw [HXX.out, HYY.out, hjo]
          subst hjo hxy
          go_upto_region 10 with fail
          have yao : IntKind.i64.wrap ((a : Int) + o) = (j : Int) := by rw [IntWalk.i64_in _ (by omega)]; exact zao
          go_region
          all_goals clear yao
          all_goals go_wp2
          all_goals go_roundw
          case rel => exact ⟨j + 1, swp dk j j, by go_num, by omega, by omega, by rw [size_swp]; exact hsk, HS1, Lib.hid HS2.out.drew, Lib.hid (permIn_trans _ _ _ _ _ HP.out (swp_permIn _ _ _ _ _ (by have := HFF.out; omega) (by have := HFF.out; omega) (by have := HFF.out; have := HAO.out; omega) (by have := HFF.out; have := HAO.out; omega) (by omega))), Lib.hid (XV.swap HX2.out hne _ _ _ _)⟩
          case measure => simp [intOf] <;> omega
        · have hjo2 : ¬ ao = j := fun e => hjo e.symm
          go_upto_region 10 with fail
          have yao : IntKind.i64.wrap ((a : Int) + o) = (ao : Int) := by rw [IntWalk.i64_in _ (by omega)]; exact zao
          go_region
          all_goals clear yao
          all_goals go_wp2
          all_goals go_roundw
          case rel => exact ⟨j + 1, swp dk j ao, by go_num, by omega, by omega, by rw [size_swp]; exact hsk, HS1, Lib.hid HS2.out.drew, Lib.hid (permIn_trans _ _ _ _ _ HP.out (swp_permIn _ _ _ _ _ (by have := HFF.out; omega) (by have := HFF.out; omega) (by have := HFF.out; have := HAO.out; omega) (by have := HFF.out; have := HAO.out; omega) (by omega))), Lib.hid (XV.swap HX2.out hne _ _ _ _)⟩
          case measure => simp [intOf] <;> omega
    · have hlez : ¬ (j : Int) ≤ hi := by omega
      go_wp2
      go_end0
      exact ⟨rfl, dk, hsk, HHk.out, HOk.out, HP.out⟩
end Go.Proofs.Ytnangnmnodpfjaa
