/-
  Go's own sort puts a range in order by insertion, a few steps, at int64. No condition but those typed at each theorem.
-/
import Derived.Test.YtnangnmnodpfjaaPart2
import Derived.Sort.WalkA6
namespace Go.Proofs.Ytnangnmnodpfjaa
open Go.RowKit Go.Sort

/-- it is done: this array, and whether it is in order -/
def PIS (w : World) (blk off : Nat) (d : Array Int) (r : Array Int × Bool) (e : Ending) (w' : World) : Prop :=
  e = .returned (.bool r.2) ∧ r.1.size = d.size ∧ Holds encU w' blk off r.1 ∧ Off [blk] w w'
theorem pis_go (a b s i k : Nat) (d dA dB dC : Array Int) (hK : k = scanSorted ltInt d b i) (hkb : ¬ k = b) (h50 : ¬ b - a < 50) (hA : dA = swp d k (k - 1)) (hB : dB = if k - a ≥ 2 then shiftDown ltInt (k - 1) dA else dA) (hC : dC = if b - k ≥ 2 then shiftUp ltInt b (k + 1) dB else dB) :
    partialIns ltInt a b (s + 1) i d = partialIns ltInt a b s k dC := by
  subst hA hB hC hK
  rw [partialIns]
  simp only [if_neg hkb, if_neg h50]
theorem pis_end (a b s i k : Nat) (d : Array Int) (hK : k = scanSorted ltInt d b i) (hkb : k = b) : partialIns ltInt a b (s + 1) i d = (d, true) := by
  subst hK
  rw [partialIns]
  simp only [if_pos hkb]
theorem pis_short (a b s i k : Nat) (d : Array Int) (hK : k = scanSorted ltInt d b i) (hkb : ¬ k = b) (h50 : b - a < 50) : partialIns ltInt a b (s + 1) i d = (d, false) := by
  subst hK
  rw [partialIns]
  simp only [if_neg hkb, if_pos h50]
theorem shiftDown_size : ∀ (j : Nat) (d : Array Int), (shiftDown ltInt j d).size = d.size := by
  intro j
  induction j with
  | zero => intro d; rw [shiftDown]
  | succ j ih =>
    intro d
    rw [shiftDown]
    split
    · rfl
    · rw [ih, size_swp]
theorem shiftUp_size (b : Nat) : ∀ (n j : Nat) (d : Array Int), b - j ≤ n → (shiftUp ltInt b j d).size = d.size := by
  intro n
  induction n with
  | zero => intro j d h; rw [shiftUp_stop ltInt b j d (.inl (by omega))]
  | succ n ih =>
    intro j d h
    rw [shiftUp]
    split
    · split
      · rfl
      · rw [ih _ _ (by omega), size_swp]
    · rfl

set_option maxRecDepth 100000 in
set_option maxHeartbeats 25600000 in
theorem pins_any (blk off cap a b : Nat) (d : Array Int) (w : World) (hH : Holds encU w blk off d) (hab : a + 13 ≤ b) (hb : b ≤ d.size) (hsz : d.size ≤ 100000) :
    Calls Try.prog 38 #[.slice (some ⟨blk, off, none⟩) d.size cap, .int .i64 a, .int .i64 b] w (PIS w blk off d (partialInsertionSort ltInt d a b)) := by
  have HH := Lib.hid hH
  clear hH
  obtain ⟨l, hl⟩ : ∃ n : Nat, n = b - a := ⟨_, rfl⟩
  have zl : (b : Int) - a = (l : Int) := by omega
  have HLL := Lib.hid hl
  have hlb : l ≤ 100000 := by omega
  clear hl
  go_enter Try.func38, Try.ntmps38
  go_wp2
  go_loopw [7, 8] (fun vi vs wr => ∃ (i s k : Nat) (dk : Array Int), vi = .int .i64 i ∧ vs = .int .i64 k ∧ k + s = 5 ∧ a < i ∧ i ≤ b ∧ dk.size = d.size ∧ Hid (Holds encU wr blk off dk) ∧ Hid (Off [blk] w wr) ∧ Hid (partialIns ltInt a b s i dk = partialInsertionSort ltInt d a b)) (fun _ vs _ => (5 - intOf vs).toNat)
  case atStart => exact ⟨a + 1, 5, 0, d, by go_num, rfl, rfl, by omega, by omega, rfl, HH, Lib.hid (Off.refl _ _), Lib.hid rfl⟩
  case round =>
    obtain ⟨i, s, k, dk, rfl, rfl, hks, hai, hib, hsk, HHk, HOk, HI⟩ := hrel
    cases s with
    | zero =>
      have hk5 : ¬ (k : Int) < 5 := by omega
      go_wp2
      go_ret
      have h1 := HI.out
      rw [partialIns] at h1
      rw [← h1]
      exact ⟨rfl, hsk, HHk.out, HOk.out⟩
    | succ s =>
      have hk5 : (k : Int) < 5 := by omega
      obtain ⟨ii, hii⟩ : ∃ n, n = scanSorted ltInt dk b i := ⟨_, rfl⟩
      have HII := Lib.hid hii
      clear hii
      go_upto_block 2 with fail
      go_cut [7] (fun v wr => v = .int .i64 ii ∧ a < ii ∧ ii ≤ b ∧ Hid (Holds encU wr blk off dk) ∧ Hid (Off [blk] w wr))
      case first =>
        go_wp2_with fail
        go_loopw [7] (fun v wr => ∃ i : Nat, v = .int .i64 i ∧ a < i ∧ i ≤ b ∧ Hid (scanSorted ltInt dk b i = ii) ∧ Hid (Holds encU wr blk off dk) ∧ Hid (Off [blk] w wr)) (fun v _ => (b - intOf v).toNat)
        case atStart => exact ⟨i, rfl, hai, hib, Lib.hid HII.out.symm, HHk, HOk⟩
        case round =>
          clear HHk HOk hai hib
          obtain ⟨i, rfl, hai, hib, HSC, HHk, HOk⟩ := hrel
          by_cases hlt : i < b
          · have hltz : (i : Int) < b := by omega
            obtain ⟨x, hx⟩ : ∃ x, x = dk[i]! := ⟨_, rfl⟩
            obtain ⟨y, hy⟩ : ∃ y, y = dk[i - 1]! := ⟨_, rfl⟩
            have q1 := Hq HHk.out (show i < dk.size by omega) hx
            have q2 := Hq HHk.out (show i - 1 < dk.size by omega) hy
            have g1 : i < d.size := by omega
            have g2 : i - 1 < d.size := by omega
            obtain ⟨q, hq⟩ : ∃ q, q = ltInt x y := ⟨_, rfl⟩
            have HL := Lib.hid (lessQ hq)
            have hQ : ltInt dk[i]! dk[i - 1]! = q := by rw [← hx, ← hy, hq]
            have HQ := Lib.hid hQ
            have HX := Lib.hid hx
            have HY := Lib.hid hy
            have hsub : ((i : Nat) : Int) - 1 = ((i - 1 : Nat) : Int) := by omega
            clear hx hy hq hQ
            have inst : Nonempty (Wd (Bw wr)) := ⟨⟨wr, Below.refl _ _⟩⟩
            go_upto_region 5 with fail
            have hsw : IntKind.i64.wrap (((i : Nat) : Int) - 1) = ((i - 1 : Nat) : Int) := by rw [IntWalk.i64_in _ (by omega)]; exact hsub
            refine wp_region_wd (Bw wr) (by kernel_rfl) (by kernel_rfl) ((Below.refl _ wr).drew) ?_
            repeat (first | go_big_quiet_step (first | (go_at_call 39; with_reducible exact calls_wd (fun _ _ h hb => h.keep hb) _ (HL.out _))) | quiet_step (first | (go_at_call 39; with_reducible exact calls_wd (fun _ _ h hb => h.keep hb) _ (HL.out _))))
            refine wpQuiet_nil ?_
            rintro _ ⟨s, rfl⟩
            have d1 := q1 s
            have d2 := q2 s
            have HH2 := Lib.hid (Holds.keepB HHk.out s.h)
            have HO2 := Lib.hid (HOk.out.bel s.h)
            have f1 := (HH2.out i (by omega)).2
            have f2 := (HH2.out (i - 1) (by omega)).2
            generalize s.w = w2 at *
            clear q1 q2 s inst HHk HOk hsw
            cases q
            · go_wp2
              go_roundw
              case rel => exact ⟨i + 1, by go_num, by omega, by omega, Lib.hid (by rw [← scanSorted_go ltInt dk b i hlt HQ.out]; exact HSC.out), HH2, HO2⟩
              case measure => simp [intOf] <;> omega
            · go_wp2_with fail
              go_meet
              have h1 : ii = i := by rw [← HSC.out]; exact scanSorted_stop ltInt dk b i (.inr HQ.out)
              subst h1
              exact ⟨rfl, hai, hib, HH2, HO2⟩
          · have hltz : ¬ (i : Int) < b := by omega
            have inst : Nonempty (Wd (Bw wr)) := ⟨⟨wr, Below.refl _ _⟩⟩
            go_upto_region 5 with fail
            refine wp_region_wd (Bw wr) (by kernel_rfl) (by kernel_rfl) ((Below.refl _ wr).drew) ?_
            repeat (first | go_big_quiet_step (fail) | quiet_step (fail))
            refine wpQuiet_nil ?_
            rintro _ ⟨s, rfl⟩
            have HH2 := Lib.hid (Holds.keepB HHk.out s.h)
            have HO2 := Lib.hid (HOk.out.bel s.h)
            go_wp2_with fail
            go_meet
            have h1 : ii = i := by rw [← HSC.out]; exact scanSorted_stop ltInt dk b i (.inl hlt)
            subst h1
            exact ⟨rfl, hai, hib, HH2, HO2⟩
      case rest =>
        clear HHk HOk
        obtain ⟨rfl, hai2, hib2, HHk, HOk⟩ := hcut
        by_cases hfin : ii = b
        · have hfz : (ii : Int) = b := by omega
          have h1 := pis_end a b s i ii dk HII.out hfin
          rw [HI.out] at h1
          have HI1 := Lib.hid h1
          clear h1
          go_wp2
          go_ret
          rw [HI1.out]
          exact ⟨rfl, hsk, HHk.out, HOk.out⟩
        have hfz : ¬ (ii : Int) = b := by omega
        by_cases h50 : l < 50
        · have h50z : (l : Int) < 50 := by omega
          have h1 := pis_short a b s i ii dk HII.out hfin (by have := HLL.out; omega)
          rw [HI.out] at h1
          have HI1 := Lib.hid h1
          clear h1
          go_wp2
          go_ret
          rw [HI1.out]
          exact ⟨rfl, hsk, HHk.out, HOk.out⟩
        have h50z : ¬ (l : Int) < 50 := by omega
        obtain ⟨dA, hdA⟩ : ∃ x, x = swp dk ii (ii - 1) := ⟨_, rfl⟩
        obtain ⟨dB, hdB⟩ : ∃ x, x = if ii - a ≥ 2 then shiftDown ltInt (ii - 1) dA else dA := ⟨_, rfl⟩
        obtain ⟨dC, hdC⟩ : ∃ x, x = if b - ii ≥ 2 then shiftUp ltInt b (ii + 1) dB else dB := ⟨_, rfl⟩
        have h1 := pis_go a b s i ii dk dA dB dC HII.out hfin (by have := HLL.out; omega) hdA hdB hdC
        rw [HI.out] at h1
        have HI1 := Lib.hid h1
        have HDA := Lib.hid hdA
        have HDB := Lib.hid hdB
        have HDC := Lib.hid hdC
        have hsA : dA.size = d.size := by rw [hdA, size_swp]; exact hsk
        clear h1 hdA hdB hdC HI HII
        obtain ⟨x, hx⟩ : ∃ x, x = dk[ii]! := ⟨_, rfl⟩
        obtain ⟨y, hy⟩ : ∃ y, y = dk[ii - 1]! := ⟨_, rfl⟩
        have g1 : ii < d.size := by omega
        have g2 : ii - 1 < d.size := by omega
        have c1 : wc.cell? ⟨blk, off + ii, none⟩ = some (.int .i64 x) := by rw [hx]; exact (HHk.out ii (by omega)).1
        have c2 : wc.cell? ⟨blk, off + (ii - 1), none⟩ = some (.int .i64 y) := by rw [hy]; exact (HHk.out (ii - 1) (by omega)).1
        have f1 := (HHk.out ii (by omega)).2
        have f2 := (HHk.out (ii - 1) (by omega)).2
        obtain ⟨hs1, hs2⟩ := swz HHk.out HOk.out (show ii < dk.size by omega) (show ii - 1 < dk.size by omega) hx hy
        rw [← HDA.out] at hs1
        have HS1 := Lib.hid hs1
        have HS2 := Lib.hid hs2
        have hsub : ((ii : Nat) : Int) - 1 = ((ii - 1 : Nat) : Int) := by omega
        have hn1 : ¬ ii - 1 = ii := by omega
        have hn2 : ¬ ii = ii - 1 := by omega
        clear hs1 hs2 hx hy HHk HOk
        go_upto_region 11 with fail
        have hsw : IntKind.i64.wrap (((ii : Nat) : Int) - 1) = ((ii - 1 : Nat) : Int) := by rw [IntWalk.i64_in _ (by omega)]; exact hsub
        go_cut [57] (fun _ wx => Hid (Holds encU wx blk off dA) ∧ Hid (Off [blk] w wx))
        case first =>
          go_region
          all_goals go_wp2_with fail
          all_goals go_meet
          all_goals exact ⟨HS1, Lib.hid HS2.out.drew⟩
        case rest =>
          clear c1 c2 f1 f2 HS1 HS2 x y hn1 hn2 hsw
          obtain ⟨HHk, HOk⟩ := hcut
          go_upto_if 61 with fail
          go_cut [9] (fun _ wx => Hid (Holds encU wx blk off dB) ∧ Hid (Off [blk] w wx))
          case first =>
            by_cases hA2 : ii - a ≥ 2
            · have hA2z : 2 ≤ (ii : Int) - a := by omega
              go_wp2_with fail
              go_loopw [9] (fun vj wr => ∃ (j : Nat) (dj : Array Int), vj = .int .i64 j ∧ j < ii ∧ dj.size = d.size ∧ Hid (shiftDown ltInt j dj = dB) ∧ Hid (Holds encU wr blk off dj) ∧ Hid (Off [blk] w wr)) (fun vj _ => (intOf vj).toNat)
              case atStart => exact ⟨ii - 1, dA, by go_num, by omega, hsA, Lib.hid (by rw [HDB.out, if_pos (by omega)]), HHk, HOk⟩
              case round =>
                clear HHk HOk
                obtain ⟨j, dj, rfl, hj1, hsj, HSH, HHk, HOk⟩ := hrel
                by_cases hc : 1 ≤ j
                · have hcz : 1 ≤ (j : Int) := by omega
                  obtain ⟨x, hx⟩ : ∃ x, x = dj[j]! := ⟨_, rfl⟩
                  obtain ⟨y, hy⟩ : ∃ y, y = dj[j - 1]! := ⟨_, rfl⟩
                  have q1 := Hq HHk.out (show j < dj.size by omega) hx
                  have q2 := Hq HHk.out (show j - 1 < dj.size by omega) hy
                  have g1 : j < d.size := by omega
                  have g2 : j - 1 < d.size := by omega
                  obtain ⟨q, hq⟩ : ∃ q, q = ltInt x y := ⟨_, rfl⟩
                  have HL := Lib.hid (lessQ hq)
                  have hQ : ltInt dj[j]! dj[j - 1]! = q := by rw [← hx, ← hy, hq]
                  have HQ := Lib.hid hQ
                  have HX := Lib.hid hx
                  have HY := Lib.hid hy
                  have hsub : ((j : Nat) : Int) - 1 = ((j - 1 : Nat) : Int) := by omega
                  clear hx hy hq hQ
                  have inst : Nonempty (Wd (Bw wr)) := ⟨⟨wr, Below.refl _ _⟩⟩
                  go_upto_region 16 with fail
                  have hsw : IntKind.i64.wrap (((j : Nat) : Int) - 1) = ((j - 1 : Nat) : Int) := by rw [IntWalk.i64_in _ (by omega)]; exact hsub
                  refine wp_region_wd (Bw wr) (by kernel_rfl) (by kernel_rfl) ((Below.refl _ wr).drew) ?_
                  repeat (first | go_big_quiet_step (first | (go_at_call 39; with_reducible exact calls_wd (fun _ _ h hb => h.keep hb) _ (HL.out _))) | quiet_step (first | (go_at_call 39; with_reducible exact calls_wd (fun _ _ h hb => h.keep hb) _ (HL.out _))))
                  refine wpQuiet_nil ?_
                  rintro _ ⟨s, rfl⟩
                  have d1 := q1 s
                  have d2 := q2 s
                  have HH2 := Lib.hid (Holds.keepB HHk.out s.h)
                  have HO2 := Lib.hid (HOk.out.bel s.h)
                  have f1 := (HH2.out j (by omega)).2
                  have f2 := (HH2.out (j - 1) (by omega)).2
                  generalize s.w = w2 at *
                  clear q1 q2 s inst HHk HOk hsw
                  cases q
                  ·
                    go_wp2_with fail
                    go_meet
                    have h1 : dj = dB := by rw [← HSH.out]; exact (shiftDown_stop ltInt j dj (.inr HQ.out)).symm
                    exact ⟨h1 ▸ HH2, HO2⟩
                  ·
                    obtain ⟨hs1, hs2⟩ := swz HH2.out HO2.out (show j < dj.size by omega) (show j - 1 < dj.size by omega) HX.out HY.out
                    have HS1 := Lib.hid hs1
                    have HS2 := Lib.hid hs2
                    clear hs1 hs2
                    have hn1 : ¬ j - 1 = j := by omega
                    have hn2 : ¬ j = j - 1 := by omega
                    go_upto_region 17 with fail
                    have hsw : IntKind.i64.wrap (((j : Nat) : Int) - 1) = ((j - 1 : Nat) : Int) := by rw [IntWalk.i64_in _ (by omega)]; exact hsub
                    go_region
                    all_goals clear hsw
                    all_goals go_wp2
                    all_goals go_roundw
                    case rel => exact ⟨j - 1, swp dj j (j - 1), by go_num, by omega, by rw [size_swp]; exact hsj, Lib.hid (by rw [← HSH.out, shiftDown_go ltInt j dj hc HQ.out]), HS1, Lib.hid HS2.out.drew⟩
                    case measure => simp [intOf] <;> omega
                · have hcz : ¬ 1 ≤ (j : Int) := by omega
                  go_wp2_with fail
                  go_meet
                  have h1 : dj = dB := by rw [← HSH.out]; exact (shiftDown_stop ltInt j dj (.inl (by omega))).symm
                  exact ⟨h1 ▸ HHk, HOk⟩
            · have hA2z : ¬ 2 ≤ (ii : Int) - a := by omega
              go_wp2_with fail
              go_meet
              have h1 : dA = dB := by rw [HDB.out, if_neg hA2]
              exact ⟨h1 ▸ HHk, HOk⟩
          case rest =>
            clear HHk HOk
            obtain ⟨HHk, HOk⟩ := hcut
            have hsB : dB.size = d.size := by
              rw [HDB.out]; split
              · rw [shiftDown_size]; exact hsA
              · exact hsA
            have hsC : dC.size = d.size := by
              rw [HDC.out]; split
              · rw [shiftUp_size b b _ _ (by omega)]; exact hsB
              · exact hsB
            by_cases hB2 : b - ii ≥ 2
            · have hB2z : 2 ≤ (b : Int) - ii := by omega
              go_wp2_with fail
              go_loopw [10] (fun vj wr => ∃ (j : Nat) (dj : Array Int), vj = .int .i64 j ∧ ii < j ∧ j ≤ b ∧ dj.size = d.size ∧ Hid (shiftUp ltInt b j dj = dC) ∧ Hid (Holds encU wr blk off dj) ∧ Hid (Off [blk] w wr)) (fun vj _ => (b - intOf vj).toNat)
              case atStart => exact ⟨ii + 1, dB, by go_num, by omega, by omega, hsB, Lib.hid (by rw [HDC.out, if_pos (by omega)]), HHk, HOk⟩
              case round =>
                clear HHk HOk
                obtain ⟨j, dj, rfl, hj1, hj2, hsj, HSH, HHk, HOk⟩ := hrel
                by_cases hc : j < b
                · have hcz : (j : Int) < b := by omega
                  obtain ⟨x, hx⟩ : ∃ x, x = dj[j]! := ⟨_, rfl⟩
                  obtain ⟨y, hy⟩ : ∃ y, y = dj[j - 1]! := ⟨_, rfl⟩
                  have q1 := Hq HHk.out (show j < dj.size by omega) hx
                  have q2 := Hq HHk.out (show j - 1 < dj.size by omega) hy
                  have g1 : j < d.size := by omega
                  have g2 : j - 1 < d.size := by omega
                  obtain ⟨q, hq⟩ : ∃ q, q = ltInt x y := ⟨_, rfl⟩
                  have HL := Lib.hid (lessQ hq)
                  have hQ : ltInt dj[j]! dj[j - 1]! = q := by rw [← hx, ← hy, hq]
                  have HQ := Lib.hid hQ
                  have HX := Lib.hid hx
                  have HY := Lib.hid hy
                  have hsub : ((j : Nat) : Int) - 1 = ((j - 1 : Nat) : Int) := by omega
                  clear hx hy hq hQ
                  have inst : Nonempty (Wd (Bw wr)) := ⟨⟨wr, Below.refl _ _⟩⟩
                  go_upto_region 22 with fail
                  have hsw : IntKind.i64.wrap (((j : Nat) : Int) - 1) = ((j - 1 : Nat) : Int) := by rw [IntWalk.i64_in _ (by omega)]; exact hsub
                  refine wp_region_wd (Bw wr) (by kernel_rfl) (by kernel_rfl) ((Below.refl _ wr).drew) ?_
                  repeat (first | go_big_quiet_step (first | (go_at_call 39; with_reducible exact calls_wd (fun _ _ h hb => h.keep hb) _ (HL.out _))) | quiet_step (first | (go_at_call 39; with_reducible exact calls_wd (fun _ _ h hb => h.keep hb) _ (HL.out _))))
                  refine wpQuiet_nil ?_
                  rintro _ ⟨s, rfl⟩
                  have d1 := q1 s
                  have d2 := q2 s
                  have HH2 := Lib.hid (Holds.keepB HHk.out s.h)
                  have HO2 := Lib.hid (HOk.out.bel s.h)
                  have f1 := (HH2.out j (by omega)).2
                  have f2 := (HH2.out (j - 1) (by omega)).2
                  generalize s.w = w2 at *
                  clear q1 q2 s inst HHk HOk hsw
                  cases q
                  ·
                    have h1 : dj = dC := by rw [← HSH.out]; exact (shiftUp_stop ltInt b j dj (.inr HQ.out)).symm
                    have HH9 : Hid (Holds encU w2 blk off dC) := h1 ▸ HH2
                    clear h1
                    go_wp2
                    go_roundw
                    case rel => exact ⟨ii, s, k + 1, dC, rfl, by go_num, by omega, hai2, hib2, hsC, HH9, HO2, Lib.hid HI1.out.symm⟩
                    case measure => simp [intOf]; omega
                  ·
                    obtain ⟨hs1, hs2⟩ := swz HH2.out HO2.out (show j < dj.size by omega) (show j - 1 < dj.size by omega) HX.out HY.out
                    have HS1 := Lib.hid hs1
                    have HS2 := Lib.hid hs2
                    clear hs1 hs2
                    have hn1 : ¬ j - 1 = j := by omega
                    have hn2 : ¬ j = j - 1 := by omega
                    go_upto_region 23 with fail
                    have hsw : IntKind.i64.wrap (((j : Nat) : Int) - 1) = ((j - 1 : Nat) : Int) := by rw [IntWalk.i64_in _ (by omega)]; exact hsub
                    go_region
                    all_goals clear hsw
                    all_goals go_wp2
                    all_goals go_roundw
                    case rel => exact ⟨j + 1, swp dj j (j - 1), by go_num, by omega, by omega, by rw [size_swp]; exact hsj, Lib.hid (by rw [← HSH.out, shiftUp_go ltInt b j dj hc HQ.out]), HS1, Lib.hid HS2.out.drew⟩
                    case measure => simp [intOf] <;> omega
                · have hcz : ¬ (j : Int) < b := by omega
                  have h1 : dj = dC := by rw [← HSH.out]; exact (shiftUp_stop ltInt b j dj (.inl hc)).symm
                  have HH9 : Hid (Holds encU wr blk off dC) := h1 ▸ HHk
                  clear h1
                  go_wp2
                  go_roundw
                  case rel => exact ⟨ii, s, k + 1, dC, rfl, by go_num, by omega, hai2, hib2, hsC, HH9, HOk, Lib.hid HI1.out.symm⟩
                  case measure => simp [intOf]; omega
            · have hB2z : ¬ 2 ≤ (b : Int) - ii := by omega
              have h1 : dB = dC := by rw [HDC.out, if_neg hB2]
              have HH9 : Hid (Holds encU wc blk off dC) := h1 ▸ HHk
              clear h1
              go_wp2
              go_roundw
              case rel => exact ⟨ii, s, k + 1, dC, rfl, by go_num, by omega, hai2, hib2, hsC, HH9, HOk, Lib.hid HI1.out.symm⟩
              case measure => simp [intOf]; omega
end Go.Proofs.Ytnangnmnodpfjaa
