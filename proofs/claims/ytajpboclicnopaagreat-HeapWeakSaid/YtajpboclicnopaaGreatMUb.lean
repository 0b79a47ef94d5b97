/-
  Go's own sort parts a range, at uint32. No condition but those typed at each theorem.
-/
import Derived.Test.YtajpboclicnopaaGreatMUa
import Derived.Deep.CutBlock
namespace Go.Proofs.YtajpboclicnopaaGreat.U32
open Go.RowKit Go.Sort
/-- where parting stands: from a on, below i, those of which P holds; above j those of which it does not -/
structure PI (P : Int → Bool) (p : Int) (d0 d : Array Int) (a b i j : Nat) : Prop where
  perm : PermIn a b d0 d
  pa : d[a]! = p
  low : ∀ t, a < t → t < i → P d[t]! = true
  high : ∀ t, j < t → t < b → P d[t]! = false
  bnd : a < i ∧ i ≤ j + 1 ∧ j < b ∧ b ≤ d0.size ∧ d.size = d0.size
section
variable {P : Int → Bool} {p : Int} {d0 d : Array Int} {a b i j : Nat}
theorem PI.up (h : PI P p d0 d a b i j) (hij : i ≤ j) (hP : P d[i]! = true) : PI P p d0 d a b (i + 1) j :=
  ⟨h.perm, h.pa, fun t h1 h2 => (Decidable.em (t = i)).elim (fun e => e ▸ hP) (fun e => h.low t h1 (by omega)), h.high, by have := h.bnd; omega⟩
theorem PI.down (h : PI P p d0 d a b i j) (hij : i ≤ j) (hP : P d[j]! = false) : PI P p d0 d a b i (j - 1) :=
  ⟨h.perm, h.pa, h.low, fun t h1 h2 => (Decidable.em (t = j)).elim (fun e => e ▸ hP) (fun e => h.high t (by omega) h2), by have := h.bnd; omega⟩
theorem PI.swap (h : PI P p d0 d a b i j) (hij : i ≤ j) (hi : P d[i]! = false) (hj : P d[j]! = true) : PI P p d0 (swp d i j) a b (i + 1) (j - 1) := by
  have hb := h.bnd
  have hne : i ≠ j := fun e => by rw [e, hj] at hi; cases hi
  refine ⟨permIn_trans _ _ _ _ _ h.perm (swp_permIn _ _ _ _ _ (by omega) (by omega) (by omega) (by omega) (by omega)), ?_, ?_, ?_, ?_⟩
  · rw [swp_other _ _ _ _ (by omega) (by omega)]; exact h.pa
  · intro t h1 h2
    by_cases e : t = i
    · subst e; rw [swp_left _ _ _ (by omega) hne]; exact hj
    · rw [swp_other _ _ _ _ e (by omega)]; exact h.low t h1 (by omega)
  · intro t h1 h2
    by_cases e : t = j
    · subst e; rw [swp_right _ _ _ (by omega)]; exact hi
    · rw [swp_other _ _ _ _ (by omega) e]; exact h.high t (by omega) h2
  · rw [size_swp]; omega
theorem PI.start (P : Int → Bool) (d : Array Int) (a b pv : Nat) (h1 : a ≤ pv) (h2 : pv < b) (h3 : b ≤ d.size) : PI P d[pv]! d (swp d a pv) a b (a + 1) (b - 1) := by
  refine ⟨swp_permIn _ _ _ _ _ (by omega) (by omega) h1 h2 h3, ?_, by intro t h4 h5; omega, by intro t h4 h5; omega, by rw [size_swp]; omega⟩
  by_cases e : a = pv
  · subst e; rw [swp_right _ _ _ (by omega)]
  · rw [swp_left _ _ _ (by omega) e]
end
/-- parting is done -/
def PEQ (P : Int → Bool) (p : Int) (w : World) (blk off : Nat) (d : Array Int) (a b : Nat) (e : Ending) (w' : World) : Prop :=
  ∃ (i j : Nat) (d' : Array Int), e = .returned (.int .i64 i) ∧ d'.size = d.size ∧ Holds encU w' blk off d' ∧ Off [blk] w w' ∧ PI P p d d' a b i j ∧ j < i
set_option maxRecDepth 100000 in
set_option maxHeartbeats 25600000 in
theorem partEq_any (blk off cap a b pv : Nat) (d : Array Int) (w : World) (P : Int → Bool) (p : Int) (hp : p = d[pv]!) (hP : ∀ x, P x = !ltInt p x) (hH : Holds encU w blk off d) (hav : a ≤ pv) (hvb : pv < b) (hb : b ≤ d.size) (hsz : d.size ≤ 100000) :
    Calls Tryz.prog 99 #[.slice (some ⟨blk, off, none⟩) d.size cap, .int .i64 a, .int .i64 b, .int .i64 pv] w (PEQ P p w blk off d a b) := by
  have HHk := Lib.hid hH
  have HOk := Lib.hid (Off.refl [blk] w)
  have HP0 := Lib.hid (hp ▸ PI.start P d a b pv hav hvb hb)
  have hps := size_swp d a pv
  have ga : a < d.size := by omega
  have gp : pv < d.size := by omega
  clear hH hp
  go_enter Tryz.func99, Tryz.ntmps99
  go_upto_region 1 with fail
  obtain ⟨x, hx⟩ : ∃ x, x = d[a]! := ⟨_, rfl⟩
  obtain ⟨y, hy⟩ : ∃ y, y = d[pv]! := ⟨_, rfl⟩
  have c1 : w.cell? ⟨blk, off + a, none⟩ = some (.int .u32 x) := by rw [hx]; exact (HHk.out a (by omega)).1
  have c2 : w.cell? ⟨blk, off + pv, none⟩ = some (.int .u32 y) := by rw [hy]; exact (HHk.out pv (by omega)).1
  have f1 := (HHk.out a (by omega)).2
  have f2 := (HHk.out pv (by omega)).2
  obtain ⟨hs1, hs2⟩ := swz HHk.out HOk.out (show a < (d).size by omega) (show pv < (d).size by omega) hx hy
  have HS1 := Lib.hid hs1
  have HS2 := Lib.hid hs2
  have HXX := Lib.hid hx
  have HYY := Lib.hid hy
  clear hs1 hs2 hx hy HHk HOk
  go_cut [24] (fun _ wx => Hid (Holds encU wx blk off (swp (d) a pv)) ∧ Hid (Off [blk] w wx))
  case first =>
    by_cases hsame : a = pv
    · have hxy : x = y := by rw [HXX.out, HYY.out, hsame]
      subst hxy
      rw [hsame] at HS1 HS2
      go_region
      all_goals go_wp2_with fail
      all_goals go_meet
      all_goals exact ⟨Lib.hid (by rw [hsame]; exact HS1.out), Lib.hid HS2.out.drew⟩
    · have hsame2 : ¬ pv = a := fun e => hsame e.symm
      go_region
      all_goals go_wp2_with fail
      all_goals go_meet
      all_goals exact ⟨HS1, Lib.hid HS2.out.drew⟩
  case rest =>
    clear c1 c2 f1 f2 HS1 HS2 HXX HYY
    obtain ⟨HH0, HO0⟩ := hcut
    obtain ⟨j0, hj0⟩ : ∃ n : Nat, n = b - 1 := ⟨_, rfl⟩
    have zj0 : (b : Int) - 1 = (j0 : Int) := by omega
    rw [← hj0] at HP0
    clear hj0
    go_wp2_with fail
    go_loopw [9, 10] (fun vi vj wr => ∃ (i j : Nat) (dk : Array Int), vi = .int .i64 i ∧ vj = .int .i64 j ∧ dk.size = d.size ∧ Hid (PI P p d dk a b i j) ∧ Hid (Holds encU wr blk off dk) ∧ Hid (Off [blk] w wr)) (fun vi vj _ => (intOf vj + 2 - intOf vi).toNat)
    case atStart => exact ⟨a + 1, j0, swp d a pv, by go_num, rfl, hps, HP0, HH0, HO0⟩
    case round =>
      clear HP0 HH0 HO0 hps
      obtain ⟨i, j, dk, rfl, rfl, hsk, HPI, HHk, HOk⟩ := hrel
      have hbS := HPI.out.bnd
      obtain ⟨iS, hi⟩ : ∃ n, n = i := ⟨_, rfl⟩
      obtain ⟨jS, hj⟩ : ∃ n, n = j := ⟨_, rfl⟩
      have hiS : iS ≤ i := by omega
      have hjS : j ≤ jS := by omega
      have HIS := Lib.hid hi
      have HJS := Lib.hid hj
      clear hi hj
      go_upto_block 2 with fail
      go_cut [9] (fun v wr => ∃ i : Nat, v = .int .i64 i ∧ iS ≤ i ∧ Hid (PI P p d dk a b i j) ∧ Hid (j < i ∨ P dk[i]! = false) ∧ Hid (Holds encU wr blk off dk) ∧ Hid (Off [blk] w wr))
      case first =>
        go_wp2_with fail
        go_loopw [9] (fun v wr => ∃ i : Nat, v = .int .i64 i ∧ iS ≤ i ∧ Hid (PI P p d dk a b i j) ∧ Hid (Holds encU wr blk off dk) ∧ Hid (Off [blk] w wr)) (fun v _ => (j + 1 - intOf v).toNat)
        case atStart => exact ⟨i, rfl, hiS, HPI, HHk, HOk⟩
        case round =>
          clear HPI HHk HOk hiS
          obtain ⟨i, rfl, hiS, HPI, HHk, HOk⟩ := hrel
          have hbd := HPI.out.bnd
          have hpa := HPI.out.pa
          have inst : Nonempty (Wd (Bw wr)) := ⟨⟨wr, Below.refl _ _⟩⟩
          by_cases hij : i ≤ j
          ·
            have hijz : (i : Int) ≤ j := by omega
            obtain ⟨x, hx⟩ : ∃ x, x = dk[i]! := ⟨_, rfl⟩
            have q1 := Hq HHk.out (show i < dk.size by omega) hx
            have q2 := Hq HHk.out (show a < dk.size by omega) hpa.symm
            have g1 : i < d.size := by omega
            have g2 : a < d.size := by omega
            obtain ⟨q, hq⟩ : ∃ q, q = ltInt p x := ⟨_, rfl⟩
            have HL := Lib.hid (lessQ hq)
            have hPx : P dk[i]! = !q := by rw [← hx, hq, hP]
            have HPX := Lib.hid hPx
            clear hx hq hPx hpa hbd
            go_upto_region 3 with fail
            refine wp_region_wd (Bw wr) (by kernel_rfl) (by kernel_rfl) ((Below.refl _ wr).drew) ?_
            repeat (first | go_big_quiet_step (first | (go_at_call 98; with_reducible exact calls_wd (fun _ _ h hb => h.keep hb) _ (HL.out _))) | quiet_step (first | (go_at_call 98; with_reducible exact calls_wd (fun _ _ h hb => h.keep hb) _ (HL.out _))))
            refine wpQuiet_nil ?_
            rintro _ ⟨s, rfl⟩
            have HH2 := Lib.hid (Holds.keepB HHk.out s.h)
            have HO2 := Lib.hid (HOk.out.bel s.h)
            generalize s.w = w2 at *
            clear q1 q2 s inst HHk HOk
            have hbd := HPI.out.bnd
            cases q
            ·
              go_wp2
              go_roundw
              case rel => exact ⟨i + 1, by go_num, by omega, Lib.hid (HPI.out.up hij (by rw [HPX.out]; rfl)), HH2, HO2⟩
              case measure => simp [intOf] <;> omega
            ·
              go_wp2_with fail
              go_meet
              exact ⟨i, rfl, hiS, HPI, Lib.hid (.inr (by rw [HPX.out]; rfl)), HH2, HO2⟩
          ·
            have hijz : ¬ (i : Int) ≤ j := by omega
            go_upto_region 3 with fail
            refine wp_region_wd (Bw wr) (by kernel_rfl) (by kernel_rfl) ((Below.refl _ wr).drew) ?_
            repeat (first | go_big_quiet_step (fail) | quiet_step (fail))
            refine wpQuiet_nil ?_
            rintro _ ⟨s, rfl⟩
            have HH2 := Lib.hid (Holds.keepB HHk.out s.h)
            have HO2 := Lib.hid (HOk.out.bel s.h)
            go_wp2_with fail
            go_meet
            exact ⟨i, rfl, hiS, HPI, Lib.hid (.inl (by omega)), HH2, HO2⟩
      case rest =>
        clear HPI HHk HOk hiS
        obtain ⟨i, rfl, hiS, HPI, HE1, HHk, HOk⟩ := hcut
        go_upto_block 4 with fail
        go_cut [10] (fun v wr => ∃ j : Nat, v = .int .i64 j ∧ j ≤ jS ∧ Hid (PI P p d dk a b i j) ∧ Hid (j < i ∨ P dk[i]! = false) ∧ Hid (j < i ∨ P dk[j]! = true) ∧ Hid (Holds encU wr blk off dk) ∧ Hid (Off [blk] w wr))
        case first =>
          go_wp2_with fail
          go_loopw [10] (fun v wr => ∃ j : Nat, v = .int .i64 j ∧ j ≤ jS ∧ Hid (PI P p d dk a b i j) ∧ Hid (j < i ∨ P dk[i]! = false) ∧ Hid (Holds encU wr blk off dk) ∧ Hid (Off [blk] w wr)) (fun v _ => (intOf v + 1 - i).toNat)
          case atStart => exact ⟨j, rfl, hjS, HPI, HE1, HHk, HOk⟩
          case round =>
            clear HPI HHk HOk HE1 hjS
            obtain ⟨j, rfl, hjS, HPI, HE1, HHk, HOk⟩ := hrel
            have hbd := HPI.out.bnd
            have hpa := HPI.out.pa
            have inst : Nonempty (Wd (Bw wr)) := ⟨⟨wr, Below.refl _ _⟩⟩
            by_cases hij : i ≤ j
            ·
              have hijz : (i : Int) ≤ j := by omega
              obtain ⟨x, hx⟩ : ∃ x, x = dk[j]! := ⟨_, rfl⟩
              have q1 := Hq HHk.out (show j < dk.size by omega) hx
              have q2 := Hq HHk.out (show a < dk.size by omega) hpa.symm
              have g1 : j < d.size := by omega
              have g2 : a < d.size := by omega
              obtain ⟨q, hq⟩ : ∃ q, q = ltInt p x := ⟨_, rfl⟩
              have HL := Lib.hid (lessQ hq)
              have hPx : P dk[j]! = !q := by rw [← hx, hq, hP]
              have HPX := Lib.hid hPx
              clear hx hq hPx hpa hbd
              go_upto_region 5 with fail
              refine wp_region_wd (Bw wr) (by kernel_rfl) (by kernel_rfl) ((Below.refl _ wr).drew) ?_
              repeat (first | go_big_quiet_step (first | (go_at_call 98; with_reducible exact calls_wd (fun _ _ h hb => h.keep hb) _ (HL.out _))) | quiet_step (first | (go_at_call 98; with_reducible exact calls_wd (fun _ _ h hb => h.keep hb) _ (HL.out _))))
              refine wpQuiet_nil ?_
              rintro _ ⟨s, rfl⟩
              have HH2 := Lib.hid (Holds.keepB HHk.out s.h)
              have HO2 := Lib.hid (HOk.out.bel s.h)
              generalize s.w = w2 at *
              clear q1 q2 s inst HHk HOk
              have hbd := HPI.out.bnd
              cases q
              ·
                go_wp2_with fail
                go_meet
                exact ⟨j, rfl, hjS, HPI, HE1, Lib.hid (.inr (by rw [HPX.out]; rfl)), HH2, HO2⟩
              ·
                go_wp2
                go_roundw
                case rel => exact ⟨j - 1, by go_num, by omega, Lib.hid (HPI.out.down hij (by rw [HPX.out]; rfl)), Lib.hid (HE1.out.elim (fun h => .inl (by omega)) .inr), HH2, HO2⟩
                case measure => simp [intOf] <;> omega
            ·
              have hijz : ¬ (i : Int) ≤ j := by omega
              go_upto_region 5 with fail
              refine wp_region_wd (Bw wr) (by kernel_rfl) (by kernel_rfl) ((Below.refl _ wr).drew) ?_
              repeat (first | go_big_quiet_step (fail) | quiet_step (fail))
              refine wpQuiet_nil ?_
              rintro _ ⟨s, rfl⟩
              have HH2 := Lib.hid (Holds.keepB HHk.out s.h)
              have HO2 := Lib.hid (HOk.out.bel s.h)
              go_wp2_with fail
              go_meet
              exact ⟨j, rfl, hjS, HPI, HE1, Lib.hid (.inl (by omega)), HH2, HO2⟩
        case rest =>
          clear HPI HHk HOk HE1 hjS
          obtain ⟨j, rfl, hjS, HPI, HE1, HE2, HHk, HOk⟩ := hcut
          by_cases hfin : j < i
          · have hfz : (j : Int) < i := by omega
            go_wp2
            go_ret
            exact ⟨i, j, dk, rfl, hsk, HHk.out, HOk.out, HPI.out, hfin⟩
          · have hfz : ¬ (j : Int) < i := by omega
            have hPi : P dk[i]! = false := HE1.out.resolve_left hfin
            have hPj : P dk[j]! = true := HE2.out.resolve_left hfin
            have HPS := Lib.hid (HPI.out.swap (by omega) hPi hPj)
            have hb := HPI.out.bnd
            have hij : ¬ i = j := fun e => by rw [e, hPj] at hPi; cases hPi
            clear hPi hPj
            obtain ⟨x, hx⟩ : ∃ x, x = dk[i]! := ⟨_, rfl⟩
            obtain ⟨y, hy⟩ : ∃ y, y = dk[j]! := ⟨_, rfl⟩
            have hji : ¬ j = i := fun e => hij e.symm
            have g1 : i < d.size := by omega
            have g2 : j < d.size := by omega
            have c1 : wc.cell? ⟨blk, off + i, none⟩ = some (.int .u32 x) := by rw [hx]; exact (HHk.out i (by omega)).1
            have c2 : wc.cell? ⟨blk, off + j, none⟩ = some (.int .u32 y) := by rw [hy]; exact (HHk.out j (by omega)).1
            have f1 := (HHk.out i (by omega)).2
            have f2 := (HHk.out j (by omega)).2
            obtain ⟨hs1, hs2⟩ := swz HHk.out HOk.out (show i < dk.size by omega) (show j < dk.size by omega) hx hy
            have HS1 := Lib.hid hs1
            have HS2 := Lib.hid hs2
            clear hs1 hs2 hx hy HE1 HE2
            go_upto_region 8 with fail
            go_region
            all_goals go_wp2
            all_goals go_roundw
            case rel => exact ⟨i + 1, j - 1, swp dk i j, by go_num, by go_num, by rw [size_swp]; exact hsk, HPS, HS1, Lib.hid HS2.out.drew⟩
            case measure => (have := HIS.out; have := HJS.out; simp [intOf]; omega)
end Go.Proofs.YtajpboclicnopaaGreat.U32
/-
  Go's own sort parts a range by one of its numbers, at uint32. No condition but those typed at each theorem.
-/
namespace Go.Proofs.YtajpboclicnopaaGreat.U32
open Go.RowKit Go.Sort
/-- parting is done: what lay at a comes to its place -/
def PTN (P : Int → Bool) (p : Int) (w : World) (blk off : Nat) (d : Array Int) (a b : Nat) (e : Ending) (w' : World) : Prop :=
  ∃ (i j : Nat) (r : Bool) (dk : Array Int), e = .returned (.tuple #[.int .i64 j, .bool r]) ∧ dk.size = d.size ∧ Holds encU w' blk off (swp dk j a) ∧ Off [blk] w w' ∧ PI P p d dk a b i j ∧ j < i
set_option maxRecDepth 100000 in
set_option maxHeartbeats 25600000 in
theorem part_any (blk off cap a b pv : Nat) (d : Array Int) (w : World) (P : Int → Bool) (p : Int) (hp : p = d[pv]!) (hP : ∀ x, P x = ltInt x p) (hH : Holds encU w blk off d) (hav : a ≤ pv) (hvb : pv < b) (hb : b ≤ d.size) (hsz : d.size ≤ 100000) :
    Calls Tryz.prog 100 #[.slice (some ⟨blk, off, none⟩) d.size cap, .int .i64 a, .int .i64 b, .int .i64 pv] w (PTN P p w blk off d a b) := by
  have HHk := Lib.hid hH
  have HOk := Lib.hid (Off.refl [blk] w)
  have HP0 := Lib.hid (hp ▸ PI.start P d a b pv hav hvb hb)
  have hps := size_swp d a pv
  have ga : a < d.size := by omega
  have gp : pv < d.size := by omega
  clear hH hp
  go_enter Tryz.func100, Tryz.ntmps100
  go_upto_region 1 with fail
  obtain ⟨x, hx⟩ : ∃ x, x = d[a]! := ⟨_, rfl⟩
  obtain ⟨y, hy⟩ : ∃ y, y = d[pv]! := ⟨_, rfl⟩
  have c1 : w.cell? ⟨blk, off + a, none⟩ = some (.int .u32 x) := by rw [hx]; exact (HHk.out a (by omega)).1
  have c2 : w.cell? ⟨blk, off + pv, none⟩ = some (.int .u32 y) := by rw [hy]; exact (HHk.out pv (by omega)).1
  have f1 := (HHk.out a (by omega)).2
  have f2 := (HHk.out pv (by omega)).2
  obtain ⟨hs1, hs2⟩ := swz HHk.out HOk.out (show a < (d).size by omega) (show pv < (d).size by omega) hx hy
  have HS1 := Lib.hid hs1
  have HS2 := Lib.hid hs2
  have HXX := Lib.hid hx
  have HYY := Lib.hid hy
  clear hs1 hs2 hx hy HHk HOk
  go_cut [25] (fun _ wx => Hid (Holds encU wx blk off (swp (d) a pv)) ∧ Hid (Off [blk] w wx))
  case first =>
    by_cases hsame : a = pv
    · have hxy : x = y := by rw [HXX.out, HYY.out, hsame]
      subst hxy
      rw [hsame] at HS1 HS2
      go_region
      all_goals go_wp2_with fail
      all_goals go_meet
      all_goals exact ⟨Lib.hid (by rw [hsame]; exact HS1.out), Lib.hid HS2.out.drew⟩
    · have hsame2 : ¬ pv = a := fun e => hsame e.symm
      go_region
      all_goals go_wp2_with fail
      all_goals go_meet
      all_goals exact ⟨HS1, Lib.hid HS2.out.drew⟩
  case rest =>
    clear c1 c2 f1 f2 HS1 HS2 HXX HYY x y
    obtain ⟨HHk, HOk⟩ := hcut
    obtain ⟨j, hj0⟩ : ∃ n : Nat, n = b - 1 := ⟨_, rfl⟩
    have zj0 : (b : Int) - 1 = (j : Int) := by omega
    obtain ⟨i, hi0⟩ : ∃ n : Nat, n = a + 1 := ⟨_, rfl⟩
    have zi0 : (a : Int) + 1 = (i : Int) := by omega
    rw [← hj0, ← hi0] at HP0
    have HPI := HP0
    have hsk := hps
    obtain ⟨dk, hdk⟩ : ∃ dk, dk = swp d a pv := ⟨_, rfl⟩
    rw [← hdk] at HPI HHk hsk
    clear hj0 hi0 hdk HP0 hps
    obtain ⟨iS, hi⟩ : ∃ n, n = i := ⟨_, rfl⟩
    obtain ⟨jS, hj⟩ : ∃ n, n = j := ⟨_, rfl⟩
    have hiS : iS ≤ i := by omega
    have hjS : j ≤ jS := by omega
    have HIS := Lib.hid hi
    have HJS := Lib.hid hj
    clear hi hj
    go_upto_block 0 with fail
    go_cut [10] (fun v wr => ∃ i : Nat, v = .int .i64 i ∧ iS ≤ i ∧ Hid (PI P p d dk a b i j) ∧ Hid (j < i ∨ P dk[i]! = false) ∧ Hid (Holds encU wr blk off dk) ∧ Hid (Off [blk] w wr))
    case first =>
      go_wp2_with fail
      go_loopw [10] (fun v wr => ∃ i : Nat, v = .int .i64 i ∧ iS ≤ i ∧ Hid (PI P p d dk a b i j) ∧ Hid (Holds encU wr blk off dk) ∧ Hid (Off [blk] w wr)) (fun v _ => (j + 1 - intOf v).toNat)
      case atStart => exact ⟨i, rfl, hiS, HPI, HHk, HOk⟩
      case round =>
        clear HPI HHk HOk hiS
        obtain ⟨i, rfl, hiS, HPI, HHk, HOk⟩ := hrel
        have hbd := HPI.out.bnd
        have hpa := HPI.out.pa
        have inst : Nonempty (Wd (Bw wr)) := ⟨⟨wr, Below.refl _ _⟩⟩
        by_cases hij : i ≤ j
        ·
          have hijz : (i : Int) ≤ j := by omega
          obtain ⟨x, hx⟩ : ∃ x, x = dk[i]! := ⟨_, rfl⟩
          have q1 := Hq HHk.out (show i < dk.size by omega) hx
          have q2 := Hq HHk.out (show a < dk.size by omega) hpa.symm
          have g1 : i < d.size := by omega
          have g2 : a < d.size := by omega
          obtain ⟨q, hq⟩ : ∃ q, q = ltInt x p := ⟨_, rfl⟩
          have HL := Lib.hid (lessQ hq)
          have hPx : P dk[i]! = q := by rw [← hx, hq, hP]
          have HPX := Lib.hid hPx
          clear hx hq hPx hpa hbd
          go_upto_region 3 with fail
          refine wp_region_wd (Bw wr) (by kernel_rfl) (by kernel_rfl) ((Below.refl _ wr).drew) ?_
          repeat (first | go_big_quiet_step (first | (go_at_call 98; with_reducible exact calls_wd (fun _ _ h hb => h.keep hb) _ (HL.out _))) | quiet_step (first | (go_at_call 98; with_reducible exact calls_wd (fun _ _ h hb => h.keep hb) _ (HL.out _))))
          refine wpQuiet_nil ?_
          rintro _ ⟨s, rfl⟩
          have HH2 := Lib.hid (Holds.keepB HHk.out s.h)
          have HO2 := Lib.hid (HOk.out.bel s.h)
          generalize s.w = w2 at *
          clear q1 q2 s inst HHk HOk
          have hbd := HPI.out.bnd
          cases q
          ·
            go_wp2_with fail
            go_meet
            exact ⟨i, rfl, hiS, HPI, Lib.hid (.inr HPX.out), HH2, HO2⟩
          ·
            go_wp2
            go_roundw
            case rel => exact ⟨i + 1, by go_num, by omega, Lib.hid (HPI.out.up hij HPX.out), HH2, HO2⟩
            case measure => simp [intOf] <;> omega
        ·
          have hijz : ¬ (i : Int) ≤ j := by omega
          go_upto_region 3 with fail
          refine wp_region_wd (Bw wr) (by kernel_rfl) (by kernel_rfl) ((Below.refl _ wr).drew) ?_
          repeat (first | go_big_quiet_step (fail) | quiet_step (fail))
          refine wpQuiet_nil ?_
          rintro _ ⟨s, rfl⟩
          have HH2 := Lib.hid (Holds.keepB HHk.out s.h)
          have HO2 := Lib.hid (HOk.out.bel s.h)
          go_wp2_with fail
          go_meet
          exact ⟨i, rfl, hiS, HPI, Lib.hid (.inl (by omega)), HH2, HO2⟩
    case rest =>
      clear HPI HHk HOk hiS
      obtain ⟨i, rfl, hiS, HPI, HE1, HHk, HOk⟩ := hcut
      go_upto_block 2 with fail
      go_cut [11] (fun v wr => ∃ j : Nat, v = .int .i64 j ∧ j ≤ jS ∧ Hid (PI P p d dk a b i j) ∧ Hid (j < i ∨ P dk[i]! = false) ∧ Hid (j < i ∨ P dk[j]! = true) ∧ Hid (Holds encU wr blk off dk) ∧ Hid (Off [blk] w wr))
      case first =>
        go_wp2_with fail
        go_loopw [11] (fun v wr => ∃ j : Nat, v = .int .i64 j ∧ j ≤ jS ∧ Hid (PI P p d dk a b i j) ∧ Hid (j < i ∨ P dk[i]! = false) ∧ Hid (Holds encU wr blk off dk) ∧ Hid (Off [blk] w wr)) (fun v _ => (intOf v + 1 - i).toNat)
        case atStart => exact ⟨j, rfl, hjS, HPI, HE1, HHk, HOk⟩
        case round =>
          clear HPI HHk HOk HE1 hjS
          obtain ⟨j, rfl, hjS, HPI, HE1, HHk, HOk⟩ := hrel
          have hbd := HPI.out.bnd
          have hpa := HPI.out.pa
          have inst : Nonempty (Wd (Bw wr)) := ⟨⟨wr, Below.refl _ _⟩⟩
          by_cases hij : i ≤ j
          ·
            have hijz : (i : Int) ≤ j := by omega
            obtain ⟨x, hx⟩ : ∃ x, x = dk[j]! := ⟨_, rfl⟩
            have q1 := Hq HHk.out (show j < dk.size by omega) hx
            have q2 := Hq HHk.out (show a < dk.size by omega) hpa.symm
            have g1 : j < d.size := by omega
            have g2 : a < d.size := by omega
            obtain ⟨q, hq⟩ : ∃ q, q = ltInt x p := ⟨_, rfl⟩
            have HL := Lib.hid (lessQ hq)
            have hPx : P dk[j]! = q := by rw [← hx, hq, hP]
            have HPX := Lib.hid hPx
            clear hx hq hPx hpa hbd
            go_upto_region 5 with fail
            refine wp_region_wd (Bw wr) (by kernel_rfl) (by kernel_rfl) ((Below.refl _ wr).drew) ?_
            repeat (first | go_big_quiet_step (first | (go_at_call 98; with_reducible exact calls_wd (fun _ _ h hb => h.keep hb) _ (HL.out _))) | quiet_step (first | (go_at_call 98; with_reducible exact calls_wd (fun _ _ h hb => h.keep hb) _ (HL.out _))))
            refine wpQuiet_nil ?_
            rintro _ ⟨s, rfl⟩
            have HH2 := Lib.hid (Holds.keepB HHk.out s.h)
            have HO2 := Lib.hid (HOk.out.bel s.h)
            generalize s.w = w2 at *
            clear q1 q2 s inst HHk HOk
            have hbd := HPI.out.bnd
            cases q
            ·
              go_wp2
              go_roundw
              case rel => exact ⟨j - 1, by go_num, by omega, Lib.hid (HPI.out.down hij HPX.out), Lib.hid (HE1.out.elim (fun h => .inl (by omega)) .inr), HH2, HO2⟩
              case measure => simp [intOf] <;> omega
            ·
              go_wp2_with fail
              go_meet
              exact ⟨j, rfl, hjS, HPI, HE1, Lib.hid (.inr HPX.out), HH2, HO2⟩
          ·
            have hijz : ¬ (i : Int) ≤ j := by omega
            go_upto_region 5 with fail
            refine wp_region_wd (Bw wr) (by kernel_rfl) (by kernel_rfl) ((Below.refl _ wr).drew) ?_
            repeat (first | go_big_quiet_step (fail) | quiet_step (fail))
            refine wpQuiet_nil ?_
            rintro _ ⟨s, rfl⟩
            have HH2 := Lib.hid (Holds.keepB HHk.out s.h)
            have HO2 := Lib.hid (HOk.out.bel s.h)
            go_wp2_with fail
            go_meet
            exact ⟨j, rfl, hjS, HPI, HE1, Lib.hid (.inl (by omega)), HH2, HO2⟩
      case rest =>
        clear HPI HHk HOk HE1 hjS
        obtain ⟨j, rfl, hjS, HPI, HE1, HE2, HHk, HOk⟩ := hcut
        by_cases hfin : j < i
        · have hfz : (j : Int) < i := by omega
          have hb := HPI.out.bnd
          have ga2 : a < d.size := by omega
          have gj2 : j < d.size := by omega
          go_upto_region 8 with fail
          obtain ⟨x, hx⟩ : ∃ x, x = dk[j]! := ⟨_, rfl⟩
          obtain ⟨y, hy⟩ : ∃ y, y = dk[a]! := ⟨_, rfl⟩
          have c1 : wc.cell? ⟨blk, off + j, none⟩ = some (.int .u32 x) := by rw [hx]; exact (HHk.out j (by omega)).1
          have c2 : wc.cell? ⟨blk, off + a, none⟩ = some (.int .u32 y) := by rw [hy]; exact (HHk.out a (by omega)).1
          have f1 := (HHk.out j (by omega)).2
          have f2 := (HHk.out a (by omega)).2
          obtain ⟨hs1, hs2⟩ := swz HHk.out HOk.out (show j < (dk).size by omega) (show a < (dk).size by omega) hx hy
          have HS1 := Lib.hid hs1
          have HS2 := Lib.hid hs2
          have HXX := Lib.hid hx
          have HYY := Lib.hid hy
          clear hs1 hs2 hx hy HHk HOk
          go_cut [79] (fun _ wx => Hid (Holds encU wx blk off (swp (dk) j a)) ∧ Hid (Off [blk] w wx))
          case first =>
            by_cases hsame : j = a
            · have hxy : x = y := by rw [HXX.out, HYY.out, hsame]
              subst hxy
              rw [hsame] at HS1 HS2
              go_region
              all_goals go_wp2_with fail
              all_goals go_meet
              all_goals exact ⟨Lib.hid (by rw [hsame]; exact HS1.out), Lib.hid HS2.out.drew⟩
            · have hsame2 : ¬ a = j := fun e => hsame e.symm
              go_region
              all_goals go_wp2_with fail
              all_goals go_meet
              all_goals exact ⟨HS1, Lib.hid HS2.out.drew⟩
          case rest =>
            obtain ⟨HH9, HO9⟩ := hcut
            go_wp2
            go_ret2
            exact ⟨i, j, true, dk, rfl, hsk, HH9.out, HO9.out, HPI.out, hfin⟩
        · have hfz : ¬ (j : Int) < i := by omega
          have hPi : P dk[i]! = false := HE1.out.resolve_left hfin
          have hPj : P dk[j]! = true := HE2.out.resolve_left hfin
          have HPS := Lib.hid (HPI.out.swap (by omega) hPi hPj)
          have hb := HPI.out.bnd
          have hij : ¬ i = j := fun e => by rw [e, hPj] at hPi; cases hPi
          clear hPi hPj
          obtain ⟨x, hx⟩ : ∃ x, x = dk[i]! := ⟨_, rfl⟩
          obtain ⟨y, hy⟩ : ∃ y, y = dk[j]! := ⟨_, rfl⟩
          have hji : ¬ j = i := fun e => hij e.symm
          have g1 : i < d.size := by omega
          have g2 : j < d.size := by omega
          have c1 : wc.cell? ⟨blk, off + i, none⟩ = some (.int .u32 x) := by rw [hx]; exact (HHk.out i (by omega)).1
          have c2 : wc.cell? ⟨blk, off + j, none⟩ = some (.int .u32 y) := by rw [hy]; exact (HHk.out j (by omega)).1
          have f1 := (HHk.out i (by omega)).2
          have f2 := (HHk.out j (by omega)).2
          obtain ⟨hs1, hs2⟩ := swz HHk.out HOk.out (show i < dk.size by omega) (show j < dk.size by omega) hx hy
          have HS1 := Lib.hid hs1
          have HS2 := Lib.hid hs2
          clear hs1 hs2 hx hy HE1 HE2
          go_upto_region 10 with fail
          go_region
          all_goals go_wp2_with fail
          go_loopw [10, 11] (fun vi vj wr => ∃ (i j : Nat) (dk : Array Int), vi = .int .i64 i ∧ vj = .int .i64 j ∧ dk.size = d.size ∧ Hid (PI P p d dk a b i j) ∧ Hid (Holds encU wr blk off dk) ∧ Hid (Off [blk] w wr)) (fun vi vj _ => (intOf vj + 2 - intOf vi).toNat)
          case atStart => exact ⟨i + 1, j - 1, swp dk i j, by go_num, by go_num, by rw [size_swp]; exact hsk, HPS, HS1, Lib.hid HS2.out.drew⟩
          case round =>
            clear HPI HHk HOk HPS HS1 HS2 hb hij hji g1 g2 c1 c2 f1 f2 hiS hjS HIS HJS hfin hfz hsk
            obtain ⟨i, j, dk, rfl, rfl, hsk, HPI, HHk, HOk⟩ := hrel
            have hbS := HPI.out.bnd
            obtain ⟨iS, hi⟩ : ∃ n, n = i := ⟨_, rfl⟩
            obtain ⟨jS, hj⟩ : ∃ n, n = j := ⟨_, rfl⟩
            have hiS : iS ≤ i := by omega
            have hjS : j ≤ jS := by omega
            have HIS := Lib.hid hi
            have HJS := Lib.hid hj
            clear hi hj
            go_upto_block 6 with fail
            go_cut [10] (fun v wr => ∃ i : Nat, v = .int .i64 i ∧ iS ≤ i ∧ Hid (PI P p d dk a b i j) ∧ Hid (j < i ∨ P dk[i]! = false) ∧ Hid (Holds encU wr blk off dk) ∧ Hid (Off [blk] w wr))
            case first =>
              go_wp2_with fail
              go_loopw [10] (fun v wr => ∃ i : Nat, v = .int .i64 i ∧ iS ≤ i ∧ Hid (PI P p d dk a b i j) ∧ Hid (Holds encU wr blk off dk) ∧ Hid (Off [blk] w wr)) (fun v _ => (j + 1 - intOf v).toNat)
              case atStart => exact ⟨i, rfl, hiS, HPI, HHk, HOk⟩
              case round =>
                clear HPI HHk HOk hiS
                obtain ⟨i, rfl, hiS, HPI, HHk, HOk⟩ := hrel
                have hbd := HPI.out.bnd
                have hpa := HPI.out.pa
                have inst : Nonempty (Wd (Bw wr)) := ⟨⟨wr, Below.refl _ _⟩⟩
                by_cases hij : i ≤ j
                ·
                  have hijz : (i : Int) ≤ j := by omega
                  obtain ⟨x, hx⟩ : ∃ x, x = dk[i]! := ⟨_, rfl⟩
                  have q1 := Hq HHk.out (show i < dk.size by omega) hx
                  have q2 := Hq HHk.out (show a < dk.size by omega) hpa.symm
                  have g1 : i < d.size := by omega
                  have g2 : a < d.size := by omega
                  obtain ⟨q, hq⟩ : ∃ q, q = ltInt x p := ⟨_, rfl⟩
                  have HL := Lib.hid (lessQ hq)
                  have hPx : P dk[i]! = q := by rw [← hx, hq, hP]
                  have HPX := Lib.hid hPx
                  clear hx hq hPx hpa hbd
                  go_upto_region 13 with fail
                  refine wp_region_wd (Bw wr) (by kernel_rfl) (by kernel_rfl) ((Below.refl _ wr).drew) ?_
                  repeat (first | go_big_quiet_step (first | (go_at_call 98; with_reducible exact calls_wd (fun _ _ h hb => h.keep hb) _ (HL.out _))) | quiet_step (first | (go_at_call 98; with_reducible exact calls_wd (fun _ _ h hb => h.keep hb) _ (HL.out _))))
                  refine wpQuiet_nil ?_
                  rintro _ ⟨s, rfl⟩
                  have HH2 := Lib.hid (Holds.keepB HHk.out s.h)
                  have HO2 := Lib.hid (HOk.out.bel s.h)
                  generalize s.w = w2 at *
                  clear q1 q2 s inst HHk HOk
                  have hbd := HPI.out.bnd
                  cases q
                  ·
                    go_wp2_with fail
                    go_meet
                    exact ⟨i, rfl, hiS, HPI, Lib.hid (.inr HPX.out), HH2, HO2⟩
                  ·
                    go_wp2
                    go_roundw
                    case rel => exact ⟨i + 1, by go_num, by omega, Lib.hid (HPI.out.up hij HPX.out), HH2, HO2⟩
                    case measure => simp [intOf] <;> omega
                ·
                  have hijz : ¬ (i : Int) ≤ j := by omega
                  go_upto_region 13 with fail
                  refine wp_region_wd (Bw wr) (by kernel_rfl) (by kernel_rfl) ((Below.refl _ wr).drew) ?_
                  repeat (first | go_big_quiet_step (fail) | quiet_step (fail))
                  refine wpQuiet_nil ?_
                  rintro _ ⟨s, rfl⟩
                  have HH2 := Lib.hid (Holds.keepB HHk.out s.h)
                  have HO2 := Lib.hid (HOk.out.bel s.h)
                  go_wp2_with fail
                  go_meet
                  exact ⟨i, rfl, hiS, HPI, Lib.hid (.inl (by omega)), HH2, HO2⟩
            case rest =>
              clear HPI HHk HOk hiS
              obtain ⟨i, rfl, hiS, HPI, HE1, HHk, HOk⟩ := hcut
              go_upto_block 8 with fail
              go_cut [11] (fun v wr => ∃ j : Nat, v = .int .i64 j ∧ j ≤ jS ∧ Hid (PI P p d dk a b i j) ∧ Hid (j < i ∨ P dk[i]! = false) ∧ Hid (j < i ∨ P dk[j]! = true) ∧ Hid (Holds encU wr blk off dk) ∧ Hid (Off [blk] w wr))
              case first =>
                go_wp2_with fail
                go_loopw [11] (fun v wr => ∃ j : Nat, v = .int .i64 j ∧ j ≤ jS ∧ Hid (PI P p d dk a b i j) ∧ Hid (j < i ∨ P dk[i]! = false) ∧ Hid (Holds encU wr blk off dk) ∧ Hid (Off [blk] w wr)) (fun v _ => (intOf v + 1 - i).toNat)
                case atStart => exact ⟨j, rfl, hjS, HPI, HE1, HHk, HOk⟩
                case round =>
                  clear HPI HHk HOk HE1 hjS
                  obtain ⟨j, rfl, hjS, HPI, HE1, HHk, HOk⟩ := hrel
                  have hbd := HPI.out.bnd
                  have hpa := HPI.out.pa
                  have inst : Nonempty (Wd (Bw wr)) := ⟨⟨wr, Below.refl _ _⟩⟩
                  by_cases hij : i ≤ j
                  ·
                    have hijz : (i : Int) ≤ j := by omega
                    obtain ⟨x, hx⟩ : ∃ x, x = dk[j]! := ⟨_, rfl⟩
                    have q1 := Hq HHk.out (show j < dk.size by omega) hx
                    have q2 := Hq HHk.out (show a < dk.size by omega) hpa.symm
                    have g1 : j < d.size := by omega
                    have g2 : a < d.size := by omega
                    obtain ⟨q, hq⟩ : ∃ q, q = ltInt x p := ⟨_, rfl⟩
                    have HL := Lib.hid (lessQ hq)
                    have hPx : P dk[j]! = q := by rw [← hx, hq, hP]
                    have HPX := Lib.hid hPx
                    clear hx hq hPx hpa hbd
                    go_upto_region 15 with fail
                    refine wp_region_wd (Bw wr) (by kernel_rfl) (by kernel_rfl) ((Below.refl _ wr).drew) ?_
                    repeat (first | go_big_quiet_step (first | (go_at_call 98; with_reducible exact calls_wd (fun _ _ h hb => h.keep hb) _ (HL.out _))) | quiet_step (first | (go_at_call 98; with_reducible exact calls_wd (fun _ _ h hb => h.keep hb) _ (HL.out _))))
                    refine wpQuiet_nil ?_
                    rintro _ ⟨s, rfl⟩
                    have HH2 := Lib.hid (Holds.keepB HHk.out s.h)
                    have HO2 := Lib.hid (HOk.out.bel s.h)
                    generalize s.w = w2 at *
                    clear q1 q2 s inst HHk HOk
                    have hbd := HPI.out.bnd
                    cases q
                    ·
                      go_wp2
                      go_roundw
                      case rel => exact ⟨j - 1, by go_num, by omega, Lib.hid (HPI.out.down hij HPX.out), Lib.hid (HE1.out.elim (fun h => .inl (by omega)) .inr), HH2, HO2⟩
                      case measure => simp [intOf] <;> omega
                    ·
                      go_wp2_with fail
                      go_meet
                      exact ⟨j, rfl, hjS, HPI, HE1, Lib.hid (.inr HPX.out), HH2, HO2⟩
                  ·
                    have hijz : ¬ (i : Int) ≤ j := by omega
                    go_upto_region 15 with fail
                    refine wp_region_wd (Bw wr) (by kernel_rfl) (by kernel_rfl) ((Below.refl _ wr).drew) ?_
                    repeat (first | go_big_quiet_step (fail) | quiet_step (fail))
                    refine wpQuiet_nil ?_
                    rintro _ ⟨s, rfl⟩
                    have HH2 := Lib.hid (Holds.keepB HHk.out s.h)
                    have HO2 := Lib.hid (HOk.out.bel s.h)
                    go_wp2_with fail
                    go_meet
                    exact ⟨j, rfl, hjS, HPI, HE1, Lib.hid (.inl (by omega)), HH2, HO2⟩
              case rest =>
                clear HPI HHk HOk HE1 hjS
                obtain ⟨j, rfl, hjS, HPI, HE1, HE2, HHk, HOk⟩ := hcut
                by_cases hfin : j < i
                · have hfz : (j : Int) < i := by omega
                  have hb := HPI.out.bnd
                  have ga2 : a < d.size := by omega
                  have gj2 : j < d.size := by omega
                  go_upto_region 21 with fail
                  obtain ⟨x, hx⟩ : ∃ x, x = dk[j]! := ⟨_, rfl⟩
                  obtain ⟨y, hy⟩ : ∃ y, y = dk[a]! := ⟨_, rfl⟩
                  have c1 : wc.cell? ⟨blk, off + j, none⟩ = some (.int .u32 x) := by rw [hx]; exact (HHk.out j (by omega)).1
                  have c2 : wc.cell? ⟨blk, off + a, none⟩ = some (.int .u32 y) := by rw [hy]; exact (HHk.out a (by omega)).1
                  have f1 := (HHk.out j (by omega)).2
                  have f2 := (HHk.out a (by omega)).2
                  obtain ⟨hs1, hs2⟩ := swz HHk.out HOk.out (show j < (dk).size by omega) (show a < (dk).size by omega) hx hy
                  have HS1 := Lib.hid hs1
                  have HS2 := Lib.hid hs2
                  have HXX := Lib.hid hx
                  have HYY := Lib.hid hy
                  clear hs1 hs2 hx hy HHk HOk
                  go_cut [166] (fun _ wx => Hid (Holds encU wx blk off (swp (dk) j a)) ∧ Hid (Off [blk] w wx))
                  case first =>
                    by_cases hsame : j = a
                    · have hxy : x = y := by rw [HXX.out, HYY.out, hsame]
                      subst hxy
                      rw [hsame] at HS1 HS2
                      go_region
                      all_goals go_wp2_with fail
                      all_goals go_meet
                      all_goals exact ⟨Lib.hid (by rw [hsame]; exact HS1.out), Lib.hid HS2.out.drew⟩
                    · have hsame2 : ¬ a = j := fun e => hsame e.symm
                      go_region
                      all_goals go_wp2_with fail
                      all_goals go_meet
                      all_goals exact ⟨HS1, Lib.hid HS2.out.drew⟩
                  case rest =>
                    obtain ⟨HH9, HO9⟩ := hcut
                    go_wp2
                    go_ret2
                    exact ⟨i, j, false, dk, rfl, hsk, HH9.out, HO9.out, HPI.out, hfin⟩
                · have hfz : ¬ (j : Int) < i := by omega
                  have hPi : P dk[i]! = false := HE1.out.resolve_left hfin
                  have hPj : P dk[j]! = true := HE2.out.resolve_left hfin
                  have HPS := Lib.hid (HPI.out.swap (by omega) hPi hPj)
                  have hb := HPI.out.bnd
                  have hij : ¬ i = j := fun e => by rw [e, hPj] at hPi; cases hPi
                  clear hPi hPj
                  obtain ⟨x, hx⟩ : ∃ x, x = dk[i]! := ⟨_, rfl⟩
                  obtain ⟨y, hy⟩ : ∃ y, y = dk[j]! := ⟨_, rfl⟩
                  have hji : ¬ j = i := fun e => hij e.symm
                  have g1 : i < d.size := by omega
                  have g2 : j < d.size := by omega
                  have c1 : wc.cell? ⟨blk, off + i, none⟩ = some (.int .u32 x) := by rw [hx]; exact (HHk.out i (by omega)).1
                  have c2 : wc.cell? ⟨blk, off + j, none⟩ = some (.int .u32 y) := by rw [hy]; exact (HHk.out j (by omega)).1
                  have f1 := (HHk.out i (by omega)).2
                  have f2 := (HHk.out j (by omega)).2
                  obtain ⟨hs1, hs2⟩ := swz HHk.out HOk.out (show i < dk.size by omega) (show j < dk.size by omega) hx hy
                  have HS1 := Lib.hid hs1
                  have HS2 := Lib.hid hs2
                  clear hs1 hs2 hx hy HE1 HE2
                  go_upto_region 18 with fail
                  go_region
                  all_goals go_wp2
                  all_goals go_roundw
                  case rel => exact ⟨i + 1, j - 1, swp dk i j, by go_num, by go_num, by rw [size_swp]; exact hsk, HPS, HS1, Lib.hid HS2.out.drew⟩
                  case measure => (have := HIS.out; have := HJS.out; simp [intOf]; omega)
end Go.Proofs.YtajpboclicnopaaGreat.U32
