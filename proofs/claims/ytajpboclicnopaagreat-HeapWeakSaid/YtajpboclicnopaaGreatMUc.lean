/-
  Go's own sort puts a range in order by insertion, a few steps, at uint32. No condition but those typed at each theorem.
-/
import Derived.Test.YtajpboclicnopaaGreatMUb
import Derived.Sort.WalkA6
import Derived.Sort.LotD3
import Derived.Test.YtajpboclicnopaaGreatMUa
namespace Go.Proofs.YtajpboclicnopaaGreat.U32
open Go.RowKit Go.Sort
/-- it is done: this array, and whether it is in order -/
def PIS (w : World) (blk off : Nat) (d : Array Int) (r : Array Int × Bool) (e : Ending) (w' : World) : Prop :=
  e = .returned (.bool r.2) ∧ r.1.size = d.size ∧ Holds encU w' blk off r.1 ∧ Off [blk] w w'
theorem pis_go (a b s i k : Nat) (d dA dB dC : Array Int) (hK : k = scanSorted ltInt d b i) (hkb : ¬ k = b) (h50 : ¬ b - a < 50) (hA : dA = swp d k (k - 1)) (hB : dB = if k - a ≥ 2 then shiftDown ltInt (k - 1) dA else dA) (hC : dC = if b - k ≥ 2 then shiftUp ltInt b (k + 1) dB else dB) :
    partialIns ltInt a b (s + 1) i d = partialIns ltInt a b s k dC := by
  subst hA hB hC hK
  rw [partialIns]
  simp only [if_neg hkb, if_neg h50]
theorem pis_end (a b s i k : Nat) (d : Array Int) (hK : k = scanSorted ltInt d b i) (hkb : k = b) : partialIns ltInt a b (s + 1) i d = (d, true) := by
  subst hK
  rw [partialIns]
  simp only [if_pos hkb]
theorem pis_short (a b s i k : Nat) (d : Array Int) (hK : k = scanSorted ltInt d b i) (hkb : ¬ k = b) (h50 : b - a < 50) : partialIns ltInt a b (s + 1) i d = (d, false) := by
  subst hK
  rw [partialIns]
  simp only [if_neg hkb, if_pos h50]
theorem shiftDown_size : ∀ (j : Nat) (d : Array Int), (shiftDown ltInt j d).size = d.size := by
  intro j
  induction j with
  | zero => intro d; rw [shiftDown]
  | succ j ih =>
    intro d
    rw [shiftDown]
    split
    · rfl
    · rw [ih, size_swp]
theorem shiftUp_size (b : Nat) : ∀ (n j : Nat) (d : Array Int), b - j ≤ n → (shiftUp ltInt b j d).size = d.size := by
  intro n
  induction n with
  | zero => intro j d h; rw [shiftUp_stop ltInt b j d (.inl (by omega))]
  | succ n ih =>
    intro j d h
    rw [shiftUp]
    split
    · split
      · rfl
      · rw [ih _ _ (by omega), size_swp]
    · rfl
set_option maxRecDepth 100000 in
set_option maxHeartbeats 25600000 in
theorem pins_any (blk off cap a b : Nat) (d : Array Int) (w : World) (hH : Holds encU w blk off d) (hab : a + 13 ≤ b) (hb : b ≤ d.size) (hsz : d.size ≤ 100000) :
    Calls Tryz.prog 97 #[.slice (some ⟨blk, off, none⟩) d.size cap, .int .i64 a, .int .i64 b] w (PIS w blk off d (partialInsertionSort ltInt d a b)) := by
  have HH := Lib.hid hH
  clear hH
  obtain ⟨l, hl⟩ : ∃ n : Nat, n = b - a := ⟨_, rfl⟩
  have zl : (b : Int) - a = (l : Int) := by omega
  have HLL := Lib.hid hl
  have hlb : l ≤ 100000 := by omega
  clear hl
  go_enter Tryz.func97, Tryz.ntmps97
  go_wp2
  go_loopw [7, 8] (fun vi vs wr => ∃ (i s k : Nat) (dk : Array Int), vi = .int .i64 i ∧ vs = .int .i64 k ∧ k + s = 5 ∧ a < i ∧ i ≤ b ∧ dk.size = d.size ∧ Hid (Holds encU wr blk off dk) ∧ Hid (Off [blk] w wr) ∧ Hid (partialIns ltInt a b s i dk = partialInsertionSort ltInt d a b)) (fun _ vs _ => (5 - intOf vs).toNat)
  case atStart => exact ⟨a + 1, 5, 0, d, by go_num, rfl, rfl, by omega, by omega, rfl, HH, Lib.hid (Off.refl _ _), Lib.hid rfl⟩
  case round =>
    obtain ⟨i, s, k, dk, rfl, rfl, hks, hai, hib, hsk, HHk, HOk, HI⟩ := hrel
    cases s with
    | zero =>
      have hk5 : ¬ (k : Int) < 5 := by omega
      go_wp2
      go_ret
      have h1 := HI.out
      rw [partialIns] at h1
      rw [← h1]
      exact ⟨rfl, hsk, HHk.out, HOk.out⟩
    | succ s =>
      have hk5 : (k : Int) < 5 := by omega
      obtain ⟨ii, hii⟩ : ∃ n, n = scanSorted ltInt dk b i := ⟨_, rfl⟩
      have HII := Lib.hid hii
      clear hii
      go_upto_block 2 with fail
      go_cut [7] (fun v wr => v = .int .i64 ii ∧ a < ii ∧ ii ≤ b ∧ Hid (Holds encU wr blk off dk) ∧ Hid (Off [blk] w wr))
      case first =>
        go_wp2_with fail
        go_loopw [7] (fun v wr => ∃ i : Nat, v = .int .i64 i ∧ a < i ∧ i ≤ b ∧ Hid (scanSorted ltInt dk b i = ii) ∧ Hid (Holds encU wr blk off dk) ∧ Hid (Off [blk] w wr)) (fun v _ => (b - intOf v).toNat)
        case atStart => exact ⟨i, rfl, hai, hib, Lib.hid HII.out.symm, HHk, HOk⟩
        case round =>
          clear HHk HOk hai hib
          obtain ⟨i, rfl, hai, hib, HSC, HHk, HOk⟩ := hrel
          by_cases hlt : i < b
          · have hltz : (i : Int) < b := by omega
            obtain ⟨x, hx⟩ : ∃ x, x = dk[i]! := ⟨_, rfl⟩
            obtain ⟨y, hy⟩ : ∃ y, y = dk[i - 1]! := ⟨_, rfl⟩
            have q1 := Hq HHk.out (show i < dk.size by omega) hx
            have q2 := Hq HHk.out (show i - 1 < dk.size by omega) hy
            have g1 : i < d.size := by omega
            have g2 : i - 1 < d.size := by omega
            obtain ⟨q, hq⟩ : ∃ q, q = ltInt x y := ⟨_, rfl⟩
            have HL := Lib.hid (lessQ hq)
            have hQ : ltInt dk[i]! dk[i - 1]! = q := by rw [← hx, ← hy, hq]
            have HQ := Lib.hid hQ
            have HX := Lib.hid hx
            have HY := Lib.hid hy
            have hsub : ((i : Nat) : Int) - 1 = ((i - 1 : Nat) : Int) := by omega
            clear hx hy hq hQ
            have inst : Nonempty (Wd (Bw wr)) := ⟨⟨wr, Below.refl _ _⟩⟩
            go_upto_region 5 with fail
            have hsw : IntKind.i64.wrap (((i : Nat) : Int) - 1) = ((i - 1 : Nat) : Int) := by rw [IntWalk.i64_in _ (by omega)]; exact hsub
            refine wp_region_wd (Bw wr) (by kernel_rfl) (by kernel_rfl) ((Below.refl _ wr).drew) ?_
            repeat (first | go_big_quiet_step (first | (go_at_call 98; with_reducible exact calls_wd (fun _ _ h hb => h.keep hb) _ (HL.out _))) | quiet_step (first | (go_at_call 98; with_reducible exact calls_wd (fun _ _ h hb => h.keep hb) _ (HL.out _))))
            refine wpQuiet_nil ?_
            rintro _ ⟨s, rfl⟩
            have d1 := q1 s
            have d2 := q2 s
            have HH2 := Lib.hid (Holds.keepB HHk.out s.h)
            have HO2 := Lib.hid (HOk.out.bel s.h)
            have f1 := (HH2.out i (by omega)).2
            have f2 := (HH2.out (i - 1) (by omega)).2
            generalize s.w = w2 at *
            clear q1 q2 s inst HHk HOk hsw
            cases q
            · go_wp2
              go_roundw
              case rel => exact ⟨i + 1, by go_num, by omega, by omega, Lib.hid (by rw [← scanSorted_go ltInt dk b i hlt HQ.out]; exact HSC.out), HH2, HO2⟩
              case measure => simp [intOf] <;> omega
            · go_wp2_with fail
              go_meet
              have h1 : ii = i := by rw [← HSC.out]; exact scanSorted_stop ltInt dk b i (.inr HQ.out)
              subst h1
              exact ⟨rfl, hai, hib, HH2, HO2⟩
          · have hltz : ¬ (i : Int) < b := by omega
            have inst : Nonempty (Wd (Bw wr)) := ⟨⟨wr, Below.refl _ _⟩⟩
            go_upto_region 5 with fail
            refine wp_region_wd (Bw wr) (by kernel_rfl) (by kernel_rfl) ((Below.refl _ wr).drew) ?_
            repeat (first | go_big_quiet_step (fail) | quiet_step (fail))
            refine wpQuiet_nil ?_
            rintro _ ⟨s, rfl⟩
            have HH2 := Lib.hid (Holds.keepB HHk.out s.h)
            have HO2 := Lib.hid (HOk.out.bel s.h)
            go_wp2_with fail
            go_meet
            have h1 : ii = i := by rw [← HSC.out]; exact scanSorted_stop ltInt dk b i (.inl hlt)
            subst h1
            exact ⟨rfl, hai, hib, HH2, HO2⟩
      case rest =>
        clear HHk HOk
        obtain ⟨rfl, hai2, hib2, HHk, HOk⟩ := hcut
        by_cases hfin : ii = b
        · have hfz : (ii : Int) = b := by omega
          have h1 := pis_end a b s i ii dk HII.out hfin
          rw [HI.out] at h1
          have HI1 := Lib.hid h1
          clear h1
          go_wp2
          go_ret
          rw [HI1.out]
          exact ⟨rfl, hsk, HHk.out, HOk.out⟩
        have hfz : ¬ (ii : Int) = b := by omega
        by_cases h50 : l < 50
        · have h50z : (l : Int) < 50 := by omega
          have h1 := pis_short a b s i ii dk HII.out hfin (by have := HLL.out; omega)
          rw [HI.out] at h1
          have HI1 := Lib.hid h1
          clear h1
          go_wp2
          go_ret
          rw [HI1.out]
          exact ⟨rfl, hsk, HHk.out, HOk.out⟩
        have h50z : ¬ (l : Int) < 50 := by omega
        obtain ⟨dA, hdA⟩ : ∃ x, x = swp dk ii (ii - 1) := ⟨_, rfl⟩
        obtain ⟨dB, hdB⟩ : ∃ x, x = if ii - a ≥ 2 then shiftDown ltInt (ii - 1) dA else dA := ⟨_, rfl⟩
        obtain ⟨dC, hdC⟩ : ∃ x, x = if b - ii ≥ 2 then shiftUp ltInt b (ii + 1) dB else dB := ⟨_, rfl⟩
        have h1 := pis_go a b s i ii dk dA dB dC HII.out hfin (by have := HLL.out; omega) hdA hdB hdC
        rw [HI.out] at h1
        have HI1 := Lib.hid h1
        have HDA := Lib.hid hdA
        have HDB := Lib.hid hdB
        have HDC := Lib.hid hdC
        have hsA : dA.size = d.size := by rw [hdA, size_swp]; exact hsk
        clear h1 hdA hdB hdC HI HII
        obtain ⟨x, hx⟩ : ∃ x, x = dk[ii]! := ⟨_, rfl⟩
        obtain ⟨y, hy⟩ : ∃ y, y = dk[ii - 1]! := ⟨_, rfl⟩
        have g1 : ii < d.size := by omega
        have g2 : ii - 1 < d.size := by omega
        have c1 : wc.cell? ⟨blk, off + ii, none⟩ = some (.int .u32 x) := by rw [hx]; exact (HHk.out ii (by omega)).1
        have c2 : wc.cell? ⟨blk, off + (ii - 1), none⟩ = some (.int .u32 y) := by rw [hy]; exact (HHk.out (ii - 1) (by omega)).1
        have f1 := (HHk.out ii (by omega)).2
        have f2 := (HHk.out (ii - 1) (by omega)).2
        obtain ⟨hs1, hs2⟩ := swz HHk.out HOk.out (show ii < dk.size by omega) (show ii - 1 < dk.size by omega) hx hy
        rw [← HDA.out] at hs1
        have HS1 := Lib.hid hs1
        have HS2 := Lib.hid hs2
        have hsub : ((ii : Nat) : Int) - 1 = ((ii - 1 : Nat) : Int) := by omega
        have hn1 : ¬ ii - 1 = ii := by omega
        have hn2 : ¬ ii = ii - 1 := by omega
        clear hs1 hs2 hx hy HHk HOk
        go_upto_region 11 with fail
        have hsw : IntKind.i64.wrap (((ii : Nat) : Int) - 1) = ((ii - 1 : Nat) : Int) := by rw [IntWalk.i64_in _ (by omega)]; exact hsub
        go_cut [57] (fun _ wx => Hid (Holds encU wx blk off dA) ∧ Hid (Off [blk] w wx))
        case first =>
          go_region
          all_goals go_wp2_with fail
          all_goals go_meet
          all_goals exact ⟨HS1, Lib.hid HS2.out.drew⟩
        case rest =>
          clear c1 c2 f1 f2 HS1 HS2 x y hn1 hn2 hsw
          obtain ⟨HHk, HOk⟩ := hcut
          go_upto_if 61 with fail
          go_cut [9] (fun _ wx => Hid (Holds encU wx blk off dB) ∧ Hid (Off [blk] w wx))
          case first =>
            by_cases hA2 : ii - a ≥ 2
            · have hA2z : 2 ≤ (ii : Int) - a := by omega
              go_wp2_with fail
              go_loopw [9] (fun vj wr => ∃ (j : Nat) (dj : Array Int), vj = .int .i64 j ∧ j < ii ∧ dj.size = d.size ∧ Hid (shiftDown ltInt j dj = dB) ∧ Hid (Holds encU wr blk off dj) ∧ Hid (Off [blk] w wr)) (fun vj _ => (intOf vj).toNat)
              case atStart => exact ⟨ii - 1, dA, by go_num, by omega, hsA, Lib.hid (by rw [HDB.out, if_pos (by omega)]), HHk, HOk⟩
              case round =>
                clear HHk HOk
                obtain ⟨j, dj, rfl, hj1, hsj, HSH, HHk, HOk⟩ := hrel
                by_cases hc : 1 ≤ j
                · have hcz : 1 ≤ (j : Int) := by omega
                  obtain ⟨x, hx⟩ : ∃ x, x = dj[j]! := ⟨_, rfl⟩
                  obtain ⟨y, hy⟩ : ∃ y, y = dj[j - 1]! := ⟨_, rfl⟩
                  have q1 := Hq HHk.out (show j < dj.size by omega) hx
                  have q2 := Hq HHk.out (show j - 1 < dj.size by omega) hy
                  have g1 : j < d.size := by omega
                  have g2 : j - 1 < d.size := by omega
                  obtain ⟨q, hq⟩ : ∃ q, q = ltInt x y := ⟨_, rfl⟩
                  have HL := Lib.hid (lessQ hq)
                  have hQ : ltInt dj[j]! dj[j - 1]! = q := by rw [← hx, ← hy, hq]
                  have HQ := Lib.hid hQ
                  have HX := Lib.hid hx
                  have HY := Lib.hid hy
                  have hsub : ((j : Nat) : Int) - 1 = ((j - 1 : Nat) : Int) := by omega
                  clear hx hy hq hQ
                  have inst : Nonempty (Wd (Bw wr)) := ⟨⟨wr, Below.refl _ _⟩⟩
                  go_upto_region 16 with fail
                  have hsw : IntKind.i64.wrap (((j : Nat) : Int) - 1) = ((j - 1 : Nat) : Int) := by rw [IntWalk.i64_in _ (by omega)]; exact hsub
                  refine wp_region_wd (Bw wr) (by kernel_rfl) (by kernel_rfl) ((Below.refl _ wr).drew) ?_
                  repeat (first | go_big_quiet_step (first | (go_at_call 98; with_reducible exact calls_wd (fun _ _ h hb => h.keep hb) _ (HL.out _))) | quiet_step (first | (go_at_call 98; with_reducible exact calls_wd (fun _ _ h hb => h.keep hb) _ (HL.out _))))
                  refine wpQuiet_nil ?_
                  rintro _ ⟨s, rfl⟩
                  have d1 := q1 s
                  have d2 := q2 s
                  have HH2 := Lib.hid (Holds.keepB HHk.out s.h)
                  have HO2 := Lib.hid (HOk.out.bel s.h)
                  have f1 := (HH2.out j (by omega)).2
                  have f2 := (HH2.out (j - 1) (by omega)).2
                  generalize s.w = w2 at *
                  clear q1 q2 s inst HHk HOk hsw
                  cases q
                  ·
                    go_wp2_with fail
                    go_meet
                    have h1 : dj = dB := by rw [← HSH.out]; exact (shiftDown_stop ltInt j dj (.inr HQ.out)).symm
                    exact ⟨h1 ▸ HH2, HO2⟩
                  ·
                    obtain ⟨hs1, hs2⟩ := swz HH2.out HO2.out (show j < dj.size by omega) (show j - 1 < dj.size by omega) HX.out HY.out
                    have HS1 := Lib.hid hs1
                    have HS2 := Lib.hid hs2
                    clear hs1 hs2
                    have hn1 : ¬ j - 1 = j := by omega
                    have hn2 : ¬ j = j - 1 := by omega
                    go_upto_region 17 with fail
                    have hsw : IntKind.i64.wrap (((j : Nat) : Int) - 1) = ((j - 1 : Nat) : Int) := by rw [IntWalk.i64_in _ (by omega)]; exact hsub
                    go_region
                    all_goals clear hsw
                    all_goals go_wp2
                    all_goals go_roundw
                    case rel => exact ⟨j - 1, swp dj j (j - 1), by go_num, by omega, by rw [size_swp]; exact hsj, Lib.hid (by rw [← HSH.out, shiftDown_go ltInt j dj hc HQ.out]), HS1, Lib.hid HS2.out.drew⟩
                    case measure => simp [intOf] <;> omega
                · have hcz : ¬ 1 ≤ (j : Int) := by omega
                  go_wp2_with fail
                  go_meet
                  have h1 : dj = dB := by rw [← HSH.out]; exact (shiftDown_stop ltInt j dj (.inl (by omega))).symm
                  exact ⟨h1 ▸ HHk, HOk⟩
            · have hA2z : ¬ 2 ≤ (ii : Int) - a := by omega
              go_wp2_with fail
              go_meet
              have h1 : dA = dB := by rw [HDB.out, if_neg hA2]
              exact ⟨h1 ▸ HHk, HOk⟩
          case rest =>
            clear HHk HOk
            obtain ⟨HHk, HOk⟩ := hcut
            have hsB : dB.size = d.size := by
              rw [HDB.out]; split
              · rw [shiftDown_size]; exact hsA
              · exact hsA
            have hsC : dC.size = d.size := by
              rw [HDC.out]; split
              · rw [shiftUp_size b b _ _ (by omega)]; exact hsB
              · exact hsB
            by_cases hB2 : b - ii ≥ 2
            · have hB2z : 2 ≤ (b : Int) - ii := by omega
              go_wp2_with fail
              go_loopw [10] (fun vj wr => ∃ (j : Nat) (dj : Array Int), vj = .int .i64 j ∧ ii < j ∧ j ≤ b ∧ dj.size = d.size ∧ Hid (shiftUp ltInt b j dj = dC) ∧ Hid (Holds encU wr blk off dj) ∧ Hid (Off [blk] w wr)) (fun vj _ => (b - intOf vj).toNat)
              case atStart => exact ⟨ii + 1, dB, by go_num, by omega, by omega, hsB, Lib.hid (by rw [HDC.out, if_pos (by omega)]), HHk, HOk⟩
              case round =>
                clear HHk HOk
                obtain ⟨j, dj, rfl, hj1, hj2, hsj, HSH, HHk, HOk⟩ := hrel
                by_cases hc : j < b
                · have hcz : (j : Int) < b := by omega
                  obtain ⟨x, hx⟩ : ∃ x, x = dj[j]! := ⟨_, rfl⟩
                  obtain ⟨y, hy⟩ : ∃ y, y = dj[j - 1]! := ⟨_, rfl⟩
                  have q1 := Hq HHk.out (show j < dj.size by omega) hx
                  have q2 := Hq HHk.out (show j - 1 < dj.size by omega) hy
                  have g1 : j < d.size := by omega
                  have g2 : j - 1 < d.size := by omega
                  obtain ⟨q, hq⟩ : ∃ q, q = ltInt x y := ⟨_, rfl⟩
                  have HL := Lib.hid (lessQ hq)
                  have hQ : ltInt dj[j]! dj[j - 1]! = q := by rw [← hx, ← hy, hq]
                  have HQ := Lib.hid hQ
                  have HX := Lib.hid hx
                  have HY := Lib.hid hy
                  have hsub : ((j : Nat) : Int) - 1 = ((j - 1 : Nat) : Int) := by omega
                  clear hx hy hq hQ
                  have inst : Nonempty (Wd (Bw wr)) := ⟨⟨wr, Below.refl _ _⟩⟩
                  go_upto_region 22 with fail
                  have hsw : IntKind.i64.wrap (((j : Nat) : Int) - 1) = ((j - 1 : Nat) : Int) := by rw [IntWalk.i64_in _ (by omega)]; exact hsub
                  refine wp_region_wd (Bw wr) (by kernel_rfl) (by kernel_rfl) ((Below.refl _ wr).drew) ?_
                  repeat (first | go_big_quiet_step (first | (go_at_call 98; with_reducible exact calls_wd (fun _ _ h hb => h.keep hb) _ (HL.out _))) | quiet_step (first | (go_at_call 98; with_reducible exact calls_wd (fun _ _ h hb => h.keep hb) _ (HL.out _))))
                  refine wpQuiet_nil ?_
                  rintro _ ⟨s, rfl⟩
                  have d1 := q1 s
                  have d2 := q2 s
                  have HH2 := Lib.hid (Holds.keepB HHk.out s.h)
                  have HO2 := Lib.hid (HOk.out.bel s.h)
                  have f1 := (HH2.out j (by omega)).2
                  have f2 := (HH2.out (j - 1) (by omega)).2
                  generalize s.w = w2 at *
                  clear q1 q2 s inst HHk HOk hsw
                  cases q
                  ·
                    have h1 : dj = dC := by rw [← HSH.out]; exact (shiftUp_stop ltInt b j dj (.inr HQ.out)).symm
                    have HH9 : Hid (Holds encU w2 blk off dC) := h1 ▸ HH2
                    clear h1
                    go_wp2
                    go_roundw
                    case rel => exact ⟨ii, s, k + 1, dC, rfl, by go_num, by omega, hai2, hib2, hsC, HH9, HO2, Lib.hid HI1.out.symm⟩
                    case measure => simp [intOf]; omega
                  ·
                    obtain ⟨hs1, hs2⟩ := swz HH2.out HO2.out (show j < dj.size by omega) (show j - 1 < dj.size by omega) HX.out HY.out
                    have HS1 := Lib.hid hs1
                    have HS2 := Lib.hid hs2
                    clear hs1 hs2
                    have hn1 : ¬ j - 1 = j := by omega
                    have hn2 : ¬ j = j - 1 := by omega
                    go_upto_region 23 with fail
                    have hsw : IntKind.i64.wrap (((j : Nat) : Int) - 1) = ((j - 1 : Nat) : Int) := by rw [IntWalk.i64_in _ (by omega)]; exact hsub
                    go_region
                    all_goals clear hsw
                    all_goals go_wp2
                    all_goals go_roundw
                    case rel => exact ⟨j + 1, swp dj j (j - 1), by go_num, by omega, by omega, by rw [size_swp]; exact hsj, Lib.hid (by rw [← HSH.out, shiftUp_go ltInt b j dj hc HQ.out]), HS1, Lib.hid HS2.out.drew⟩
                    case measure => simp [intOf] <;> omega
                · have hcz : ¬ (j : Int) < b := by omega
                  have h1 : dj = dC := by rw [← HSH.out]; exact (shiftUp_stop ltInt b j dj (.inl hc)).symm
                  have HH9 : Hid (Holds encU wr blk off dC) := h1 ▸ HHk
                  clear h1
                  go_wp2
                  go_roundw
                  case rel => exact ⟨ii, s, k + 1, dC, rfl, by go_num, by omega, hai2, hib2, hsC, HH9, HOk, Lib.hid HI1.out.symm⟩
                  case measure => simp [intOf]; omega
            · have hB2z : ¬ 2 ≤ (b : Int) - ii := by omega
              have h1 : dB = dC := by rw [HDC.out, if_neg hB2]
              have HH9 : Hid (Holds encU wc blk off dC) := h1 ▸ HHk
              clear h1
              go_wp2
              go_roundw
              case rel => exact ⟨ii, s, k + 1, dC, rfl, by go_num, by omega, hai2, hib2, hsC, HH9, HOk, Lib.hid HI1.out.symm⟩
              case measure => simp [intOf]; omega
end Go.Proofs.YtajpboclicnopaaGreat.U32
/-
  What a round of Go's own sort leaves to be put in order, at whole numbers. No condition but those typed at each theorem.
-/
namespace Go.Proofs.YtajpboclicnopaaGreat.U32
open Go.RowKit Go.Sort
/-- what is left: the range a to b of d; whoever puts that in order, puts all in order -/
structure PD (d0 : Array Int) (a0 b0 : Nat) (d : Array Int) (a b : Nat) : Prop where
  le : a ≤ b
  lo : a0 ≤ a
  hi : b ≤ b0
  hb : b0 ≤ d0.size
  sz : d.size = d0.size
  below : Below ltInt a b d
  fin : ∀ R, PermIn a b d R → SortedIn ltInt a b R → PermIn a0 b0 d0 R ∧ SortedIn ltInt a0 b0 R
section
variable {d0 d d' L : Array Int} {a0 b0 a b : Nat}
theorem PD.start (hab : a ≤ b) (hb : b ≤ d.size) (hB : Below ltInt a b d) : PD d a b d a b := ⟨hab, Nat.le_refl _, Nat.le_refl _, hb, rfl, hB, fun _ h1 h2 => ⟨h1, h2⟩⟩
theorem PD.bs (h : PD d0 a0 b0 d a b) : b ≤ d.size := by have := h.hi; have := h.hb; have := h.sz; omega
theorem PD.perm (h : PD d0 a0 b0 d a b) (hp : PermIn a b d d') : PD d0 a0 b0 d' a b :=
  ⟨h.le, h.lo, h.hi, h.hb, hp.1.trans h.sz, Sort.Below.perm h.below h.bs hp, fun R h1 h2 => h.fin R (permIn_trans _ _ _ _ _ hp h1) h2⟩
theorem PD.eq (h : PD d0 a0 b0 d a b) {P : Int → Bool} {p : Int} {i j : Nat} (hP : ∀ x, P x = !ltInt p x) (ha : 0 < a) (hl : ltInt d[a - 1]! p = false)
    (hI : PI P p d d' a b i j) (hji : j < i) : PD d0 a0 b0 d' i b ∧ a < i ∧ i ≤ b := by
  have hS := swo_ltInt
  have hbd := hI.bnd
  have hij : i = j + 1 := by omega
  subst hij
  have hb := h.bs
  have hb' : b ≤ d'.size := by omega
  have hge : ∀ t, a ≤ t → t < b → ltInt d[t]! p = false := fun t h1 h2 => by
    rcases h.below with h0 | hB
    · omega
    · exact hS.ntrans _ _ _ (hB t h1 h2) hl
  have hge4 := permIn_all d d' a b (fun x => ltInt x p = false) hb hI.perm hge
  have hle : ∀ t, a ≤ t → t < j + 1 → ltInt p d'[t]! = false := fun t h1 h2 => by
    by_cases e : t = a
    · subst e; rw [hI.pa]; exact hS.irrefl _
    · have := hI.low t (by omega) h2
      rw [hP] at this
      simpa using this
  have hgt : ∀ t, j + 1 ≤ t → t < b → ltInt p d'[t]! = true := fun t h1 h2 => by
    have := hI.high t (by omega) h2
    rw [hP] at this
    simpa using this
  have hBl : Below ltInt (j + 1) b d' := Or.inr fun t h1 h2 => by
    cases hc : ltInt d'[t]! d'[j + 1 - 1]! with
    | false => rfl
    | true => have := hS.trans _ _ _ (hgt t h1 h2) hc; rw [hle (j + 1 - 1) (by omega) (by omega)] at this; cases this
  refine ⟨⟨by omega, by have := h.lo; omega, h.hi, h.hb, hI.perm.1.trans h.sz, hBl, fun R hR hs => ?_⟩, by omega, by omega⟩
  refine h.fin R (permIn_trans _ _ _ a b hI.perm (permIn_mono _ _ (j + 1) b a b (by omega) (Nat.le_refl _) hb' hR)) ?_
  refine sorted_glue_eq hS p hs (fun t h1 h2 => ?_) (fun t h1 h2 => ?_) (permIn_all d' R (j + 1) b (fun x => ltInt p x = true) hb' hR hgt)
  · rw [hR.2.1 t (Or.inl h2)]; exact hle t h1 h2
  · rw [hR.2.1 t (Or.inl h2)]; exact hge4 t h1 (by omega)
/-- parted at m: what is left of m is less than what is at m, what is right of it is not -/
structure PP (d0 : Array Int) (a0 b0 : Nat) (d : Array Int) (a b m : Nat) : Prop where
  pd : PD d0 a0 b0 d a b
  am : a ≤ m
  mb : m < b
  lo : ∀ i, a ≤ i → i < m → ltInt d[i]! d[m]! = true
  hi : ∀ i, m < i → i < b → ltInt d[i]! d[m]! = false
theorem PP.of (h : PD d0 a0 b0 d a b) {P : Int → Bool} {p : Int} {i j : Nat} (hP : ∀ x, P x = ltInt x p) (hI : PI P p d d' a b i j) (hji : j < i) : PP d0 a0 b0 (swp d' j a) a b j := by
  have hbd := hI.bnd
  have hij : i = j + 1 := by omega
  subst hij
  have hb := h.bs
  have hjs : j < d'.size := by omega
  have has : a < d'.size := by omega
  have em : (swp d' j a)[j]! = p := by
    by_cases e : j = a
    · subst e; rw [swp_right _ _ _ has]; exact hI.pa
    · rw [swp_left _ _ _ hjs e]; exact hI.pa
  refine ⟨h.perm (permIn_trans _ _ _ _ _ hI.perm (swp_permIn _ _ _ _ _ (by omega) (by omega) (Nat.le_refl _) (by omega) (by omega))), by omega, by omega, fun t h1 h2 => ?_, fun t h1 h2 => ?_⟩
  · rw [em]
    by_cases e : t = a
    · subst e
      rw [swp_right _ _ _ has, ← hP]
      exact hI.low j (by omega) (by omega)
    · rw [swp_other _ _ _ _ (by omega) e, ← hP]
      exact hI.low t (by omega) (by omega)
  · rw [em, swp_other _ _ _ _ (by omega) (by omega), ← hP]
    exact hI.high t (by omega) h2
theorem PP.belowL {m : Nat} (h : PP d0 a0 b0 d a b m) : Below ltInt a m d := Sort.Below.mono h.pd.below (by have := h.mb; omega)
theorem PP.belowR {m : Nat} (h : PP d0 a0 b0 d a b m) : Below ltInt (m + 1) b d := Or.inr fun i h1 h2 => by rw [Nat.add_sub_cancel]; exact h.hi i (by omega) h2
/-- the left part is in order: the right one is left -/
theorem PP.left {m : Nat} (h : PP d0 a0 b0 d a b m) (hL : PermIn a m d L) (hs : SortedIn ltInt a m L) : PD d0 a0 b0 L (m + 1) b := by
  have hS := swo_ltInt
  have ham := h.am
  have hmb := h.mb
  have hb := h.pd.bs
  have hbL : b ≤ L.size := by rw [hL.1]; exact hb
  have eL : ∀ i, m ≤ i → L[i]! = d[i]! := fun i hi => hL.2.1 i (Or.inr hi)
  refine ⟨by omega, by have := h.pd.lo; omega, h.pd.hi, h.pd.hb, hL.1.trans h.pd.sz, Or.inr fun i h1 h2 => by rw [Nat.add_sub_cancel, eL i (by omega), eL m (Nat.le_refl _)]; exact h.hi i (by omega) h2, fun R hR hsR => ?_⟩
  have eR : ∀ i, i ≤ m → R[i]! = L[i]! := fun i hi => hR.2.1 i (Or.inl (by omega))
  refine h.pd.fin R (permIn_trans _ _ _ a b (permIn_mono _ _ a m a b (Nat.le_refl _) (by omega) hb hL) (permIn_mono _ _ (m + 1) b a b (by omega) (Nat.le_refl _) hbL hR)) ?_
  refine sorted_glue hS (hs.congr fun i _ h2 => eR i (by omega)) hsR (fun i h1 h2 => ?_) (fun i h1 h2 => ?_)
  · rw [eR i (by omega), eR m (Nat.le_refl _), eL m (Nat.le_refl _)]
    exact permIn_all d L a m (fun x => ltInt x d[m]! = true) (by omega) hL h.lo i h1 h2
  · rw [eR m (Nat.le_refl _), eL m (Nat.le_refl _)]
    exact permIn_all L R (m + 1) b (fun x => ltInt x d[m]! = false) hbL hR (fun k h3 h4 => by rw [eL k (by omega)]; exact h.hi k (by omega) h4) i (by omega) h2
/-- the right part is in order: the left one is left -/
theorem PP.right {m : Nat} (h : PP d0 a0 b0 d a b m) (hL : PermIn (m + 1) b d L) (hs : SortedIn ltInt (m + 1) b L) : PD d0 a0 b0 L a m := by
  have hS := swo_ltInt
  have ham := h.am
  have hmb := h.mb
  have hb := h.pd.bs
  have hbL : b ≤ L.size := by rw [hL.1]; exact hb
  have eL : ∀ i, i ≤ m → L[i]! = d[i]! := fun i hi => hL.2.1 i (Or.inl (by omega))
  have hBL : Below ltInt a m L := by
    rcases h.belowL with h0 | hB
    · exact Or.inl h0
    · exact Or.inr fun i h1 h2 => by rw [eL i (by omega), eL (a - 1) (by omega)]; exact hB i h1 h2
  refine ⟨h.am, h.pd.lo, by have := h.pd.hi; omega, h.pd.hb, hL.1.trans h.pd.sz, hBL, fun R hR hsR => ?_⟩
  have eR : ∀ i, m ≤ i → R[i]! = L[i]! := fun i hi => hR.2.1 i (Or.inr hi)
  refine h.pd.fin R (permIn_trans _ _ _ a b (permIn_mono _ _ (m + 1) b a b (by omega) (Nat.le_refl _) hb hL) (permIn_mono _ _ a m a b (Nat.le_refl _) (by omega) hbL hR)) ?_
  refine sorted_glue hS hsR (hs.congr fun i h1 _ => eR i (by omega)) (fun i h1 h2 => ?_) (fun i h1 h2 => ?_)
  · rw [eR m (Nat.le_refl _), eL m (Nat.le_refl _)]
    exact permIn_all L R a m (fun x => ltInt x d[m]! = true) (by omega) hR (fun k h3 h4 => by rw [eL k (by omega)]; exact h.lo k h3 h4) i h1 h2
  · rw [eR i (by omega), eR m (Nat.le_refl _), eL m (Nat.le_refl _)]
    exact permIn_all d L (m + 1) b (fun x => ltInt x d[m]! = false) hb hL (fun k h3 h4 => h.hi k (by omega) h4) i (by omega) h2
end
end Go.Proofs.YtajpboclicnopaaGreat.U32
/-
  Go's own sort puts a range in order, at uint32. No condition but those typed at each theorem.
-/
namespace Go.Proofs.YtajpboclicnopaaGreat.U32
open Go.RowKit Go.Sort
/-- the range is in order -/
def PDS (w : World) (blk off : Nat) (d : Array Int) (a b : Nat) (e : Ending) (w' : World) : Prop :=
  e = .returned (.tuple #[]) ∧ ∃ R : Array Int, R.size = d.size ∧ Holds encU w' blk off R ∧ Off [blk] w w' ∧ PermIn a b d R ∧ SortedIn ltInt a b R
theorem PDS.of {w w1 : World} {blk off : Nat} {d dk R : Array Int} {a0 b0 a b : Nat} (h : PD d a0 b0 dk a b) (hs : R.size = dk.size) (hH : Holds encU w1 blk off R) (hO : Off [blk] w w1) (h1 : PermIn a b dk R) (h2 : SortedIn ltInt a b R) : PDS w blk off d a0 b0 (.returned (.tuple #[])) w1 :=
  ⟨rfl, R, hs.trans h.sz, hH, hO, (h.fin R h1 h2).1, (h.fin R h1 h2).2⟩
theorem PDS.got {X w w1 : World} {blk off : Nat} {d : Array Int} {a b : Nat} {e : Ending} (hO : Off [blk] w X) (h : PDS X blk off d a b e w1) :
    ∃ R : Array Int, e = .returned (.tuple #[]) ∧ Hid (R.size = d.size) ∧ Hid (Holds encU w1 blk off R) ∧ Hid (Off [blk] w w1) ∧ Hid (PermIn a b d R) ∧ Hid (SortedIn ltInt a b R) := by
  obtain ⟨h0, R, h1, h2, h3, h4, h5⟩ := h
  exact ⟨R, h0, Lib.hid h1, Lib.hid h2, Lib.hid (hO.trans h3), Lib.hid h4, Lib.hid h5⟩
set_option maxRecDepth 100000 in
set_option maxHeartbeats 25600000 in
theorem pdq_any : ∀ (N blk off cap a b lim : Nat) (d : Array Int) (w : World), b - a < N → Holds encU w blk off d → a ≤ b → b ≤ d.size → d.size ≤ 100000 → lim ≤ 100 → Below ltInt a b d →
    Calls Tryz.prog 62 #[.slice (some ⟨blk, off, none⟩) d.size cap, .int .i64 a, .int .i64 b, .int .i64 lim] w (PDS w blk off d a b) := by
  intro N
  induction N with
  | zero => intro blk off cap a b lim d w h; omega
  | succ N ih =>
  intro blk off cap a b lim d w hN hH hab hb hsz hlim hB
  have HH := Lib.hid hH
  have HP := Lib.hid (PD.start hab hb hB)
  have IH := Lib.hid ih
  obtain ⟨n, hn⟩ : ∃ n, n = d.size := ⟨_, rfl⟩
  have HN := Lib.hid hn
  have hnb : b ≤ n := by omega
  have hn1 : n ≤ 100000 := by omega
  rw [← hn]
  clear hH hB ih hn hb hsz
  go_enter Tryz.func62, Tryz.ntmps62
  go_wp2
  go_loopw [1, 2, 3, 8, 9] (fun va vb vl v8 v9 wr => ∃ (a1 b1 l1 : Nat) (wb wp : Bool) (dk : Array Int), va = .int .i64 a1 ∧ vb = .int .i64 b1 ∧ vl = .int .i64 l1 ∧ v8 = .bool wb ∧ v9 = .bool wp ∧ l1 ≤ 100 ∧ a ≤ a1 ∧ a1 ≤ b1 ∧ b1 ≤ b ∧ Hid (PD d a b dk a1 b1) ∧ Hid (Holds encU wr blk off dk) ∧ Hid (Off [blk] w wr)) (fun va vb _ _ _ _ => (intOf vb - intOf va).toNat)
  case atStart => exact ⟨a, b, lim, true, true, d, rfl, rfl, rfl, rfl, rfl, hlim, Nat.le_refl _, hab, Nat.le_refl _, HP, HH, Lib.hid (Off.refl _ _)⟩
  case round =>
    clear HP HH hlim
    obtain ⟨a1, b1, l1, wb, wp, dk, rfl, rfl, rfl, rfl, rfl, hl1, haa, hab1, hbb, HPD, HHk, HOk⟩ := hrel
    obtain ⟨l, hl⟩ : ∃ n : Nat, n = b1 - a1 := ⟨_, rfl⟩
    have zl : (b1 : Int) - a1 = (l : Int) := by omega
    have hlb : l ≤ 100000 := by omega
    have HLL := Lib.hid hl
    clear hl
    have hdn : dk.size = n := by have := HPD.out.sz; have := HN.out; omega
    have HDN := Lib.hid hdn
    clear hdn
    by_cases h12 : l ≤ 12
    · have h12z : (l : Int) ≤ 12 := by omega
      have C := ins_any blk off cap a1 b1 dk wr HHk.out hab1 (by have := HDN.out; omega) (by have := HDN.out; omega)
      rw [HDN.out] at C
      have HC := Lib.hid C
      clear C
      go_wp2_with (go_at_call 92; (with_reducible refine HC.out.mono ?_); rintro e w1 ⟨rfl, hH1, hO1⟩; have HH1 := Lib.hid hH1; have HO1 := Lib.hid hO1; clear hH1 hO1)
      refine bodyPost_ret (results_none rfl _ _ _) rfl ?_
      have hS := insertionSort_holds (lt := ltInt) swo_ltInt dk a1 b1 hab1 (by have := HDN.out; omega)
      exact PDS.of HPD.out hS.1.1 HH1.out (HOk.out.trans HO1.out) hS.1 hS.2
    have h12z : ¬ (l : Int) ≤ 12 := by omega
    have h13 : a1 + 13 ≤ b1 := by have := HLL.out; omega
    by_cases hl0 : l1 = 0
    · have hl0z : (l1 : Int) = 0 := by omega
      have C := heapSort_any blk off cap a1 b1 dk wr HHk.out (by omega) (by have := HDN.out; omega) (by have := HDN.out; omega)
      rw [HDN.out] at C
      have HC := Lib.hid C
      clear C
      go_wp2_with (go_at_call 93; (with_reducible refine HC.out.mono ?_); rintro e w1 ⟨rfl, hH1, hO1⟩; have HH1 := Lib.hid hH1; have HO1 := Lib.hid hO1; clear hH1 hO1)
      refine bodyPost_ret (results_none rfl _ _ _) rfl ?_
      have hS := heapSort_holds (lt := ltInt) swo_ltInt dk a1 b1 hab1 (by have := HDN.out; omega)
      exact PDS.of HPD.out hS.1.1 HH1.out (HOk.out.trans HO1.out) hS.1 hS.2
    have hl0z : ¬ (l1 : Int) = 0 := by omega
    go_upto_if 35 with fail
    go_cut [3] (fun v wx => ∃ (l2 : Nat) (dk : Array Int), v = .int .i64 l2 ∧ l2 ≤ 100 ∧ Hid (dk.size = n) ∧ Hid (PD d a b dk a1 b1) ∧ Hid (Holds encU wx blk off dk) ∧ Hid (Off [blk] w wx))
    case first =>
      cases wb
      · have C := break_any blk off cap a1 b1 dk wr HHk.out (by have := HDN.out; omega) h13 (by have := HDN.out; omega)
        rw [HDN.out] at C
        have HC := Lib.hid C
        clear C
        go_wp2_with (go_at_call 94; (with_reducible refine HC.out.mono ?_); rintro e w1 ⟨rfl, d2, hs2, hH1, hO1, hp⟩; have HS2 := Lib.hid hs2; have HH1 := Lib.hid hH1; have HO1 := Lib.hid hO1; have HP1 := Lib.hid hp; clear hH1 hO1 hs2 hp)
        go_meet
        exact ⟨l1 - 1, d2, by go_num, by omega, Lib.hid HS2.out, Lib.hid (HPD.out.perm HP1.out), HH1, Lib.hid (HOk.out.trans HO1.out)⟩
      · go_wp2_with fail
        go_meet
        exact ⟨l1, dk, rfl, hl1, HDN, HPD, HHk, HOk⟩
    case rest =>
      clear HPD HHk HOk HDN
      obtain ⟨l2, dk, rfl, hl2, HDN, HPD, HHk, HOk⟩ := hcut
      clear hl0 hl0z hl1
      have C := choose_any blk off cap a1 b1 dk wc HHk.out (by have := HDN.out; omega) h13 (by have := HDN.out; omega)
      rw [HDN.out] at C
      have HC := Lib.hid C
      clear C
      go_upto_if 50 with (go_at_call 95; (with_reducible refine HC.out.mono ?_); rintro e w1 ⟨p, h, rfl, hpp, hh, hB1⟩; have HB1 := Lib.hid hB1; clear hB1)
      go_cut [11, 12] (fun v11 v12 wx => ∃ (p : Nat) (h : Int) (dk : Array Int), v11 = .int .i64 p ∧ v12 = .int .i64 h ∧ a1 ≤ p ∧ p < b1 ∧ (h = 0 ∨ h = 1) ∧ Hid (dk.size = n) ∧ Hid (PD d a b dk a1 b1) ∧ Hid (Holds encU wx blk off dk) ∧ Hid (Off [blk] w wx))
      case first =>
        rcases hh with rfl | rfl | rfl
        · go_wp2_with fail
          go_meet
          exact ⟨p, 0, dk, rfl, rfl, hpp.1, hpp.2, .inl rfl, HDN, HPD, Lib.hid (Holds.keepB HHk.out HB1.out), Lib.hid (HOk.out.bel HB1.out)⟩
        · go_wp2_with fail
          go_meet
          exact ⟨p, 1, dk, rfl, rfl, hpp.1, hpp.2, .inr rfl, HDN, HPD, Lib.hid (Holds.keepB HHk.out HB1.out), Lib.hid (HOk.out.bel HB1.out)⟩
        · have C := reverse_any blk off cap a1 b1 dk w1 (Holds.keepB HHk.out HB1.out) (by omega) (by have := HDN.out; omega) (by have := HDN.out; omega)
          rw [HDN.out] at C
          have HR := Lib.hid C
          clear C
          go_wp2_with (go_at_call 96; (with_reducible refine HR.out.mono ?_); rintro e w2 ⟨rfl, hH1, hO1⟩; have HH1 := Lib.hid hH1; have HO1 := Lib.hid hO1; clear hH1 hO1)
          go_meet
          have hp := reverseRange_holds (α := Int) dk a1 b1 hab1 (by have := HDN.out; omega)
          exact ⟨b1 - 1 - (p - a1), 1, _, by go_num, rfl, by omega, by omega, .inr rfl, Lib.hid (hp.1.trans HDN.out), Lib.hid (HPD.out.perm hp), HH1, Lib.hid ((HOk.out.bel HB1.out).trans HO1.out)⟩
      case rest =>
        clear HPD HHk HOk HDN HC HB1 hh hpp p h
        obtain ⟨p, h, dk, rfl, rfl, hp1, hp2, hh, HDN, HPD, HHk, HOk⟩ := hcut
        go_upto_region 15 with fail
        go_cut [68] (fun v wx => ∃ c : Bool, v = .bool c ∧ Hid (Holds encU wx blk off dk) ∧ Hid (Off [blk] w wx))
        case first =>
          rcases hh with rfl | rfl <;> cases wb <;> cases wp
          all_goals go_wp2_with fail
          all_goals go_meet
          all_goals exact ⟨_, rfl, HHk, HOk⟩
        case rest =>
          clear HHk HOk
          obtain ⟨c, rfl, HHk, HOk⟩ := hcut
          go_upto_if 68 with fail
          go_cut [72] (fun _ wx => ∃ dk : Array Int, Hid (dk.size = n) ∧ Hid (PD d a b dk a1 b1) ∧ Hid (Holds encU wx blk off dk) ∧ Hid (Off [blk] w wx))
          case first =>
            cases c
            · go_wp2_with fail
              go_meet
              exact ⟨dk, HDN, HPD, HHk, HOk⟩
            · have C := pins_any blk off cap a1 b1 dk wc HHk.out h13 (by have := HDN.out; omega) (by have := HDN.out; omega)
              rw [HDN.out] at C
              have hS := partialInsertionSort_holds (lt := ltInt) swo_ltInt dk a1 b1 (by omega) (by have := HDN.out; omega) HPD.out.below
              obtain ⟨r, hr⟩ : ∃ r, r = partialInsertionSort ltInt dk a1 b1 := ⟨_, rfl⟩
              rw [← hr] at C hS
              clear hr
              obtain ⟨R, q⟩ := r
              have HC := Lib.hid C
              have HS := Lib.hid hS
              clear C hS
              cases q
              · go_wp2_with (go_at_call 97; (with_reducible refine HC.out.mono ?_); rintro e w2 ⟨rfl, hs2, hH1, hO1⟩; have HS2 := Lib.hid hs2; have HH1 := Lib.hid hH1; have HO1 := Lib.hid hO1; clear hH1 hO1 hs2)
                go_meet
                exact ⟨R, Lib.hid (HS2.out.trans HDN.out), Lib.hid (HPD.out.perm HS.out.1), HH1, Lib.hid (HOk.out.trans HO1.out)⟩
              · go_wp2_with (go_at_call 97; (with_reducible refine HC.out.mono ?_); rintro e w2 ⟨rfl, hs2, hH1, hO1⟩; have HS2 := Lib.hid hs2; have HH1 := Lib.hid hH1; have HO1 := Lib.hid hO1; clear hH1 hO1 hs2)
                refine bodyPost_ret (results_none rfl _ _ _) rfl ?_
                exact PDS.of HPD.out HS2.out HH1.out (HOk.out.trans HO1.out) HS.out.1 (HS.out.2 (by trivial))
          case rest =>
            clear HPD HHk HOk HDN c
            obtain ⟨dk, HDN, HPD, HHk, HOk⟩ := hcut
            have ga : a1 - 1 < n := by omega
            have gp : p < n := by omega
            go_upto_region 17 with fail
            go_cut [87] (fun v wx => ∃ t : Bool, v = .bool t ∧ Hid (t = true → 0 < a1 ∧ ltInt dk[a1 - 1]! dk[p]! = false) ∧ Hid (Holds encU wx blk off dk) ∧ Hid (Off [blk] w wx))
            case first =>
              have inst : Nonempty (Wd (Bw wc)) := ⟨⟨wc, Below.refl _ _⟩⟩
              by_cases h0 : 0 < a1
              · have h0z : (0 : Int) < a1 := by omega
                obtain ⟨x, hx⟩ : ∃ x, x = dk[a1 - 1]! := ⟨_, rfl⟩
                obtain ⟨y, hy⟩ : ∃ y, y = dk[p]! := ⟨_, rfl⟩
                have q1 := Hq HHk.out (show a1 - 1 < dk.size by have := HDN.out; omega) hx
                have q2 := Hq HHk.out (show p < dk.size by have := HDN.out; omega) hy
                obtain ⟨q, hq⟩ : ∃ q, q = ltInt x y := ⟨_, rfl⟩
                have HL := Lib.hid (lessQ hq)
                have hQ : ltInt dk[a1 - 1]! dk[p]! = q := by rw [← hx, ← hy, hq]
                have HQ := Lib.hid hQ
                have hsub : ((a1 : Nat) : Int) - 1 = ((a1 - 1 : Nat) : Int) := by omega
                have hsw : IntKind.i64.wrap (((a1 : Nat) : Int) - 1) = ((a1 - 1 : Nat) : Int) := by rw [IntWalk.i64_in _ (by omega)]; exact hsub
                clear hx hy hq hQ
                refine wp_region_wd (Bw wc) (by kernel_rfl) (by kernel_rfl) ((Below.refl _ wc).drew) ?_
                repeat (first | go_big_quiet_step (first | (go_at_call 98; with_reducible exact calls_wd (fun _ _ h hb => h.keep hb) _ (HL.out _))) | quiet_step (first | (go_at_call 98; with_reducible exact calls_wd (fun _ _ h hb => h.keep hb) _ (HL.out _))))
                refine wpQuiet_nil ?_
                rintro _ ⟨s, rfl⟩
                have HH2 := Lib.hid (Holds.keepB HHk.out s.h)
                have HO2 := Lib.hid (HOk.out.bel s.h)
                go_wp2_with fail
                go_meet
                exact ⟨!q, rfl, Lib.hid (fun ht => ⟨h0, by rw [HQ.out]; simpa using ht⟩), HH2, HO2⟩
              · have h0z : ¬ (0 : Int) < a1 := by omega
                refine wp_region_wd (Bw wc) (by kernel_rfl) (by kernel_rfl) ((Below.refl _ wc).drew) ?_
                repeat (first | go_big_quiet_step (fail) | quiet_step (fail))
                refine wpQuiet_nil ?_
                rintro _ ⟨s, rfl⟩
                have HH2 := Lib.hid (Holds.keepB HHk.out s.h)
                have HO2 := Lib.hid (HOk.out.bel s.h)
                go_wp2_with fail
                go_meet
                exact ⟨false, rfl, Lib.hid (fun ht => by cases ht), HH2, HO2⟩
            case rest =>
              clear HHk HOk
              obtain ⟨t, rfl, HT, HHk, HOk⟩ := hcut
              cases t
              · have C := part_any blk off cap a1 b1 p dk wc (fun x => ltInt x dk[p]!) dk[p]! rfl (fun _ => rfl) HHk.out hp1 hp2 (by have := HDN.out; omega) (by have := HDN.out; omega)
                rw [HDN.out] at C
                have HC := Lib.hid C
                clear C
                go_upto_if 113 with (go_at_call 100; (with_reducible refine HC.out.mono ?_); rintro e w2 ⟨i, j, r, d2, rfl, hs2, hH1, hO1, hPI, hji⟩; have HPP := Lib.hid (PP.of HPD.out (fun _ => rfl) hPI hji); have hj1 := HPP.out.am; have hj2 := HPP.out.mb; have HS2 := Lib.hid hs2; have HH1 := Lib.hid hH1; have HO1 := Lib.hid (HOk.out.trans hO1); clear hH1 hO1 hs2 hPI hji)
                have hsw : (swp d2 j a1).size = n := by rw [size_swp, HS2.out, HDN.out]
                have HSW := Lib.hid hsw
                clear hsw
                by_cases hlt : j - a1 < b1 - j
                · have hltz : (j : Int) - a1 < b1 - j := by omega
                  have R := IH.out blk off cap a1 j l2 (swp d2 j a1) w2 (by omega) HH1.out hj1 (by have := HSW.out; omega) (by have := HSW.out; omega) hl2 HPP.out.belowL
                  rw [HSW.out] at R
                  have HR := Lib.hid R
                  clear R
                  go_wp2_with (go_at_call 62; (with_reducible refine HR.out.mono ?_); rintro e w3 h3; obtain ⟨R, rfl, hs3, HH3, HO3, HP3, HS3⟩ := PDS.got HO1.out h3; clear h3)
                  go_roundw
                  case rel => exact ⟨j + 1, b1, l2, _, r, R, by go_num, rfl, rfl, rfl, rfl, hl2, by omega, by omega, hbb, Lib.hid (HPP.out.left HP3.out HS3.out), HH3, HO3⟩
                  case measure => simp [intOf]; omega
                · have hltz : ¬ (j : Int) - a1 < b1 - j := by omega
                  have R := IH.out blk off cap (j + 1) b1 l2 (swp d2 j a1) w2 (by omega) HH1.out (by omega) (by have := HSW.out; omega) (by have := HSW.out; omega) hl2 HPP.out.belowR
                  rw [HSW.out] at R
                  have zj : (j : Int) + 1 = ((j + 1 : Nat) : Int) := by omega
                  rw [← zj] at R
                  have HR := Lib.hid R
                  clear R zj
                  go_wp2_with (go_at_call 62; (with_reducible refine HR.out.mono ?_); rintro e w3 h3; obtain ⟨R, rfl, hs3, HH3, HO3, HP3, HS3⟩ := PDS.got HO1.out h3; clear h3)
                  go_roundw
                  case rel => exact ⟨a1, j, l2, _, r, R, rfl, rfl, rfl, rfl, rfl, hl2, haa, by omega, by omega, Lib.hid (HPP.out.right HP3.out HS3.out), HH3, HO3⟩
                  case measure => simp [intOf]; omega
              · have C := partEq_any blk off cap a1 b1 p dk wc (fun x => !ltInt dk[p]! x) dk[p]! rfl (fun _ => rfl) HHk.out hp1 hp2 (by have := HDN.out; omega) (by have := HDN.out; omega)
                rw [HDN.out] at C
                have HC := Lib.hid C
                clear C
                go_wp2_with (go_at_call 99; (with_reducible refine HC.out.mono ?_); rintro e w2 ⟨i, j, d2, rfl, hs2, hH1, hO1, hPI, hji⟩; have hE := PD.eq HPD.out (fun _ => rfl) (HT.out rfl).1 (HT.out rfl).2 hPI hji; have HE := Lib.hid hE; have hj1 := hE.2.1; have hj2 := hE.2.2; have HH1 := Lib.hid hH1; have HO1 := Lib.hid (HOk.out.trans hO1); clear hH1 hO1 hs2 hPI hji hE)
                go_roundw
                case rel => exact ⟨i, b1, l2, wb, wp, d2, rfl, rfl, rfl, rfl, rfl, hl2, by omega, hj2, hbb, Lib.hid HE.out.1, HH1, HO1⟩
                case measure => simp [intOf]; omega
end Go.Proofs.YtajpboclicnopaaGreat.U32
/-
  slices.Sort puts numbers in order, at uint32. No condition but those typed at each theorem.
-/
namespace Go.Proofs.YtajpboclicnopaaGreat.U32
open Go.RowKit Go.Sort
/-- slices.Sort puts n numbers in order -/
def SortsU (n : Nat) : Prop := ∀ (X : World) (blk off cap : Nat) (d : Array Int), d.size = n → Holds encU X blk off d →
  Calls Tryz.prog 35 #[.slice (some ⟨blk, off, none⟩) d.size cap] X fun e w' => e = .returned (.tuple #[]) ∧ Holds encU w' blk off (Sort.sort ltInt d) ∧ Off [blk] X w'
theorem one_sort (d R : Array Int) (h1 : PermIn 0 d.size d R) (h2 : SortedIn ltInt 0 d.size R) : R = Sort.sort ltInt d := by
  have ha : ∀ x y : Int, ltInt x y = false → ltInt y x = false → x = y := by
    intro x y h1 h2
    simp [ltInt] at h1 h2
    omega
  have hS := sort_sorts ltInt swo_ltInt d
  have e1 := sorted_unique_holds (lt := ltInt) swo_ltInt ha d R h1 h2
  have e2 := sorted_unique_holds (lt := ltInt) swo_ltInt ha d (Sort.sort ltInt d) hS.1 hS.2
  exact Array.toList_inj.1 (e1.trans e2.symm)
theorem bl_100 (n : Nat) (h : n ≤ 8192) : Lib.bitLen n ≤ 100 := Nat.le_trans (Lib.bitLen_le n 14 (by omega) (by omega)) (by omega)
set_option maxRecDepth 100000 in
set_option maxHeartbeats 1600000 in
theorem sorts_any (n : Nat) (h : n ≤ 8192) : SortsU n := by
  intro w blk off cap d hn hH
  have HP := fun X (hX : Holds encU X blk off d) => pdq_any (n + 1) blk off cap 0 d.size (Lib.bitLen n) d X (by omega) hX (Nat.zero_le _) (Nat.le_refl _) (by omega) (bl_100 n h) (.inl rfl)
  have HL := fun X => Tryz.bits_Len n X (by omega) (by omega)
  have H1 := one_sort d
  rw [hn] at HP H1 ⊢
  simp only [Int.natCast_zero] at HP
  have HP' := Lib.hid HP
  have HL' := Lib.hid HL
  have HH := Lib.hid hH
  have H1' := Lib.hid H1
  clear HP HL hH hn H1
  go_enter Tryz.func35, Tryz.ntmps35
  go_wp2_with (first
    | (go_at_call 32; (with_reducible refine (HL'.out _).mono ?_); rintro e w1 ⟨rfl, rfl⟩)
    | (go_at_call 62; (with_reducible refine (HP'.out _ HH.out).mono ?_); rintro e w1 h1; obtain ⟨R, rfl, hs1, hH1, hO1, hP1, hS1⟩ := PDS.got (Off.refl _ _) h1; clear h1))
  go_end0
  have hR := H1'.out R hP1.out hS1.out
  subst hR
  exact ⟨rfl, hH1.out, hO1.out⟩
end Go.Proofs.YtajpboclicnopaaGreat.U32
