/-
  Go's own sort puts a range in order, at int64. No condition but those typed at each theorem.
-/
import Derived.Test.YtnangnmnodpfjaaPdqMath
import Derived.Test.YtnangnmnodpfjaaBreak
import Derived.Test.YtnangnmnodpfjaaPivot
namespace Go.Proofs.Ytnangnmnodpfjaa
open Go.RowKit Go.Sort

/-- the range is in order -/
def PDS (w : World) (blk off : Nat) (d : Array Int) (a b : Nat) (e : Ending) (w' : World) : Prop :=
  e = .returned (.tuple #[]) ∧ ∃ R : Array Int, R.size = d.size ∧ Holds encU w' blk off R ∧ Off [blk] w w' ∧ PermIn a b d R ∧ SortedIn ltInt a b R
theorem PDS.of {w w1 : World} {blk off : Nat} {d dk R : Array Int} {a0 b0 a b : Nat} (h : PD d a0 b0 dk a b) (hs : R.size = dk.size) (hH : Holds encU w1 blk off R) (hO : Off [blk] w w1) (h1 : PermIn a b dk R) (h2 : SortedIn ltInt a b R) : PDS w blk off d a0 b0 (.returned (.tuple #[])) w1 :=
  ⟨rfl, R, hs.trans h.sz, hH, hO, (h.fin R h1 h2).1, (h.fin R h1 h2).2⟩
theorem PDS.got {X w w1 : World} {blk off : Nat} {d : Array Int} {a b : Nat} {e : Ending} (hO : Off [blk] w X) (h : PDS X blk off d a b e w1) :
    ∃ R : Array Int, e = .returned (.tuple #[]) ∧ Hid (R.size = d.size) ∧ Hid (Holds encU w1 blk off R) ∧ Hid (Off [blk] w w1) ∧ Hid (PermIn a b d R) ∧ Hid (SortedIn ltInt a b R) := by
  obtain ⟨h0, R, h1, h2, h3, h4, h5⟩ := h
  exact ⟨R, h0, Lib.hid h1, Lib.hid h2, Lib.hid (hO.trans h3), Lib.hid h4, Lib.hid h5⟩

set_option maxRecDepth 100000 in
set_option maxHeartbeats 25600000 in
theorem pdq_any : ∀ (N blk off cap a b lim : Nat) (d : Array Int) (w : World), b - a < N → Holds encU w blk off d → a ≤ b → b ≤ d.size → d.size ≤ 100000 → lim ≤ 100 → Below ltInt a b d →
    Calls Try.prog 30 #[.slice (some ⟨blk, off, none⟩) d.size cap, .int .i64 a, .int .i64 b, .int .i64 lim] w (PDS w blk off d a b) := by
  intro N
  induction N with
  | zero => intro blk off cap a b lim d w h; omega
  | succ N ih =>
  intro blk off cap a b lim d w hN hH hab hb hsz hlim hB
  have HH := Lib.hid hH
  have HP := Lib.hid (PD.start hab hb hB)
  have IH := Lib.hid ih
  obtain ⟨n, hn⟩ : ∃ n, n = d.size := ⟨_, rfl⟩
  have HN := Lib.hid hn
  have hnb : b ≤ n := by omega
  have hn1 : n ≤ 100000 := by omega
  rw [← hn]
  clear hH hB ih hn hb hsz
  go_enter Try.func30, Try.ntmps30
  go_wp2
  go_loopw [1, 2, 3, 8, 9] (fun va vb vl v8 v9 wr => ∃ (a1 b1 l1 : Nat) (wb wp : Bool) (dk : Array Int), va = .int .i64 a1 ∧ vb = .int .i64 b1 ∧ vl = .int .i64 l1 ∧ v8 = .bool wb ∧ v9 = .bool wp ∧ l1 ≤ 100 ∧ a ≤ a1 ∧ a1 ≤ b1 ∧ b1 ≤ b ∧ Hid (PD d a b dk a1 b1) ∧ Hid (Holds encU wr blk off dk) ∧ Hid (Off [blk] w wr)) (fun va vb _ _ _ _ => (intOf vb - intOf va).toNat)
  case atStart => exact ⟨a, b, lim, true, true, d, rfl, rfl, rfl, rfl, rfl, hlim, Nat.le_refl _, hab, Nat.le_refl _, HP, HH, Lib.hid (Off.refl _ _)⟩
  case round =>
    clear HP HH hlim
    obtain ⟨a1, b1, l1, wb, wp, dk, rfl, rfl, rfl, rfl, rfl, hl1, haa, hab1, hbb, HPD, HHk, HOk⟩ := hrel
    obtain ⟨l, hl⟩ : ∃ n : Nat, n = b1 - a1 := ⟨_, rfl⟩
    have zl : (b1 : Int) - a1 = (l : Int) := by omega
    have hlb : l ≤ 100000 := by omega
    have HLL := Lib.hid hl
    clear hl
    have hdn : dk.size = n := by have := HPD.out.sz; have := HN.out; omega
    have HDN := Lib.hid hdn
    clear hdn
    by_cases h12 : l ≤ 12
    · have h12z : (l : Int) ≤ 12 := by omega
      have C := ins_any blk off cap a1 b1 dk wr HHk.out hab1 (by have := HDN.out; omega) (by have := HDN.out; omega)
      rw [HDN.out] at C
      have HC := Lib.hid C
      clear C
      go_wp2_with (go_at_call 33; (with_reducible refine HC.out.mono ?_); rintro e w1 ⟨rfl, hH1, hO1⟩; have HH1 := Lib.hid hH1; have HO1 := Lib.hid hO1; clear hH1 hO1)
      refine bodyPost_ret (results_none rfl _ _ _) rfl ?_
      have hS := insertionSort_holds (lt := ltInt) swo_ltInt dk a1 b1 hab1 (by have := HDN.out; omega)
      exact PDS.of HPD.out hS.1.1 HH1.out (HOk.out.trans HO1.out) hS.1 hS.2
    have h12z : ¬ (l : Int) ≤ 12 := by omega
    have h13 : a1 + 13 ≤ b1 := by have := HLL.out; omega
    by_cases hl0 : l1 = 0
    · have hl0z : (l1 : Int) = 0 := by omega
      have C := heapSort_any blk off cap a1 b1 dk wr HHk.out (by omega) (by have := HDN.out; omega) (by have := HDN.out; omega)
      rw [HDN.out] at C
      have HC := Lib.hid C
      clear C
      go_wp2_with (go_at_call 34; (with_reducible refine HC.out.mono ?_); rintro e w1 ⟨rfl, hH1, hO1⟩; have HH1 := Lib.hid hH1; have HO1 := Lib.hid hO1; clear hH1 hO1)
      refine bodyPost_ret (results_none rfl _ _ _) rfl ?_
      have hS := heapSort_holds (lt := ltInt) swo_ltInt dk a1 b1 hab1 (by have := HDN.out; omega)
      exact PDS.of HPD.out hS.1.1 HH1.out (HOk.out.trans HO1.out) hS.1 hS.2
    have hl0z : ¬ (l1 : Int) = 0 := by omega
    go_upto_if 35 with fail
    go_cut [3] (fun v wx => ∃ (l2 : Nat) (dk : Array Int), v = .int .i64 l2 ∧ l2 ≤ 100 ∧ Hid (dk.size = n) ∧ Hid (PD d a b dk a1 b1) ∧ Hid (Holds encU wx blk off dk) ∧ Hid (Off [blk] w wx))
    case first =>
      cases wb
      · have C := break_any blk off cap a1 b1 dk wr HHk.out (by have := HDN.out; omega) h13 (by have := HDN.out; omega)
        rw [HDN.out] at C
        have HC := Lib.hid C
        clear C
        go_wp2_with (go_at_call 35; (with_reducible refine HC.out.mono ?_); rintro e w1 ⟨rfl, d2, hs2, hH1, hO1, hp⟩; have HS2 := Lib.hid hs2; have HH1 := Lib.hid hH1; have HO1 := Lib.hid hO1; have HP1 := Lib.hid hp; clear hH1 hO1 hs2 hp)
        go_meet
        exact ⟨l1 - 1, d2, by go_num, by omega, Lib.hid HS2.out, Lib.hid (HPD.out.perm HP1.out), HH1, Lib.hid (HOk.out.trans HO1.out)⟩
      · go_wp2_with fail
        go_meet
        exact ⟨l1, dk, rfl, hl1, HDN, HPD, HHk, HOk⟩
    case rest =>
      clear HPD HHk HOk HDN
      obtain ⟨l2, dk, rfl, hl2, HDN, HPD, HHk, HOk⟩ := hcut
      clear hl0 hl0z hl1
      have C := choose_any blk off cap a1 b1 dk wc HHk.out (by have := HDN.out; omega) h13 (by have := HDN.out; omega)
      rw [HDN.out] at C
      have HC := Lib.hid C
      clear C
      go_upto_if 50 with (go_at_call 36; (with_reducible refine HC.out.mono ?_); rintro e w1 ⟨p, h, rfl, hpp, hh, hB1⟩; have HB1 := Lib.hid hB1; clear hB1)
      go_cut [11, 12] (fun v11 v12 wx => ∃ (p : Nat) (h : Int) (dk : Array Int), v11 = .int .i64 p ∧ v12 = .int .i64 h ∧ a1 ≤ p ∧ p < b1 ∧ (h = 0 ∨ h = 1) ∧ Hid (dk.size = n) ∧ Hid (PD d a b dk a1 b1) ∧ Hid (Holds encU wx blk off dk) ∧ Hid (Off [blk] w wx))
      case first =>
        rcases hh with rfl | rfl | rfl
        · go_wp2_with fail
          go_meet
          exact ⟨p, 0, dk, rfl, rfl, hpp.1, hpp.2, .inl rfl, HDN, HPD, Lib.hid (Holds.keepB HHk.out HB1.out), Lib.hid (HOk.out.bel HB1.out)⟩
        · go_wp2_with fail
          go_meet
          exact ⟨p, 1, dk, rfl, rfl, hpp.1, hpp.2, .inr rfl, HDN, HPD, Lib.hid (Holds.keepB HHk.out HB1.out), Lib.hid (HOk.out.bel HB1.out)⟩
        · have C := reverse_any blk off cap a1 b1 dk w1 (Holds.keepB HHk.out HB1.out) (by omega) (by have := HDN.out; omega) (by have := HDN.out; omega)
          rw [HDN.out] at C
          have HR := Lib.hid C
          clear C
          go_wp2_with (go_at_call 37; (with_reducible refine HR.out.mono ?_); rintro e w2 ⟨rfl, hH1, hO1⟩; have HH1 := Lib.hid hH1; have HO1 := Lib.hid hO1; clear hH1 hO1)
          go_meet
          have hp := reverseRange_holds (α := Int) dk a1 b1 hab1 (by have := HDN.out; omega)
          exact ⟨b1 - 1 - (p - a1), 1, _, by go_num, rfl, by omega, by omega, .inr rfl, Lib.hid (hp.1.trans HDN.out), Lib.hid (HPD.out.perm hp), HH1, Lib.hid ((HOk.out.bel HB1.out).trans HO1.out)⟩
      case rest =>
        clear HPD HHk HOk HDN HC HB1 hh hpp p h
        obtain ⟨p, h, dk, rfl, rfl, hp1, hp2, hh, HDN, HPD, HHk, HOk⟩ := hcut
        go_upto_region 15 with fail
        go_cut [68] (fun v wx => ∃ c : Bool, v = .bool c ∧ Hid (Holds encU wx blk off dk) ∧ Hid (Off [blk] w wx))
        case first =>
          rcases hh with rfl | rfl <;> cases wb <;> cases wp
          all_goals go_wp2_with fail
          all_goals go_meet
          all_goals exact ⟨_, rfl, HHk, HOk⟩
        case rest =>
          clear HHk HOk
          obtain ⟨c, rfl, HHk, HOk⟩ := hcut
          go_upto_if 68 with fail
          go_cut [72] (fun _ wx => ∃ dk : Array Int, Hid (dk.size = n) ∧ Hid (PD d a b dk a1 b1) ∧ Hid (Holds encU wx blk off dk) ∧ Hid (Off [blk] w wx))
          case first =>
            cases c
            · go_wp2_with fail
              go_meet
              exact ⟨dk, HDN, HPD, HHk, HOk⟩
            · have C := pins_any blk off cap a1 b1 dk wc HHk.out h13 (by have := HDN.out; omega) (by have := HDN.out; omega)
              rw [HDN.out] at C
              have hS := partialInsertionSort_holds (lt := ltInt) swo_ltInt dk a1 b1 (by omega) (by have := HDN.out; omega) HPD.out.below
              obtain ⟨r, hr⟩ : ∃ r, r = partialInsertionSort ltInt dk a1 b1 := ⟨_, rfl⟩
              rw [← hr] at C hS
              clear hr
              obtain ⟨R, q⟩ := r
              have HC := Lib.hid C
              have HS := Lib.hid hS
              clear C hS
              cases q
              · go_wp2_with (go_at_call 38; (with_reducible refine HC.out.mono ?_); rintro e w2 ⟨rfl, hs2, hH1, hO1⟩; have HS2 := Lib.hid hs2; have HH1 := Lib.hid hH1; have HO1 := Lib.hid hO1; clear hH1 hO1 hs2)
                go_meet
                exact ⟨R, Lib.hid (HS2.out.trans HDN.out), Lib.hid (HPD.out.perm HS.out.1), HH1, Lib.hid (HOk.out.trans HO1.out)⟩
              · go_wp2_with (go_at_call 38; (with_reducible refine HC.out.mono ?_); rintro e w2 ⟨rfl, hs2, hH1, hO1⟩; have HS2 := Lib.hid hs2; have HH1 := Lib.hid hH1; have HO1 := Lib.hid hO1; clear hH1 hO1 hs2)
                refine bodyPost_ret (results_none rfl _ _ _) rfl ?_
                exact PDS.of HPD.out HS2.out HH1.out (HOk.out.trans HO1.out) HS.out.1 (HS.out.2 (by trivial))
          case rest =>
            clear HPD HHk HOk HDN c
            obtain ⟨dk, HDN, HPD, HHk, HOk⟩ := hcut
            have ga : a1 - 1 < n := by omega
            have gp : p < n := by omega
            go_upto_region 17 with fail
            go_cut [87] (fun v wx => ∃ t : Bool, v = .bool t ∧ Hid (t = true → 0 < a1 ∧ ltInt dk[a1 - 1]! dk[p]! = false) ∧ Hid (Holds encU wx blk off dk) ∧ Hid (Off [blk] w wx))
            case first =>
              have inst : Nonempty (Wd (Bw wc)) := ⟨⟨wc, Below.refl _ _⟩⟩
              by_cases h0 : 0 < a1
              · have h0z : (0 : Int) < a1 := by omega
                obtain ⟨x, hx⟩ : ∃ x, x = dk[a1 - 1]! := ⟨_, rfl⟩
                obtain ⟨y, hy⟩ : ∃ y, y = dk[p]! := ⟨_, rfl⟩
                have q1 := Hq HHk.out (show a1 - 1 < dk.size by have := HDN.out; omega) hx
                have q2 := Hq HHk.out (show p < dk.size by have := HDN.out; omega) hy
                obtain ⟨q, hq⟩ : ∃ q, q = ltInt x y := ⟨_, rfl⟩
                have HL := Lib.hid (lessQ hq)
                have hQ : ltInt dk[a1 - 1]! dk[p]! = q := by rw [← hx, ← hy, hq]
                have HQ := Lib.hid hQ
                have hsub : ((a1 : Nat) : Int) - 1 = ((a1 - 1 : Nat) : Int) := by omega
                have hsw : IntKind.i64.wrap (((a1 : Nat) : Int) - 1) = ((a1 - 1 : Nat) : Int) := by rw [IntWalk.i64_in _ (by omega)]; exact hsub
                clear hx hy hq hQ
                refine wp_region_wd (Bw wc) (by kernel_rfl) (by kernel_rfl) ((Below.refl _ wc).drew) ?_
                repeat (first | go_big_quiet_step (first | (go_at_call 39; with_reducible exact calls_wd (fun _ _ h hb => h.keep hb) _ (HL.out _))) | quiet_step (first | (go_at_call 39; with_reducible exact calls_wd (fun _ _ h hb => h.keep hb) _ (HL.out _))))
                refine wpQuiet_nil ?_
                rintro _ ⟨s, rfl⟩
                have HH2 := Lib.hid (Holds.keepB HHk.out s.h)
                have HO2 := Lib.hid (HOk.out.bel s.h)
                go_wp2_with fail
                go_meet
                exact ⟨!q, rfl, Lib.hid (fun ht => ⟨h0, by rw [HQ.out]; simpa using ht⟩), HH2, HO2⟩
              · have h0z : ¬ (0 : Int) < a1 := by omega
                refine wp_region_wd (Bw wc) (by kernel_rfl) (by kernel_rfl) ((Below.refl _ wc).drew) ?_
                repeat (first | go_big_quiet_step (fail) | quiet_step (fail))
                refine wpQuiet_nil ?_
                rintro _ ⟨s, rfl⟩
                have HH2 := Lib.hid (Holds.keepB HHk.out s.h)
                have HO2 := Lib.hid (HOk.out.bel s.h)
                go_wp2_with fail
                go_meet
                exact ⟨false, rfl, Lib.hid (fun ht => by cases ht), HH2, HO2⟩
            case rest =>
              clear HHk HOk
              obtain ⟨t, rfl, HT, HHk, HOk⟩ := hcut
              cases t
              · have C := part_any blk off cap a1 b1 p dk wc (fun x => ltInt x dk[p]!) dk[p]! rfl (fun _ => rfl) HHk.out hp1 hp2 (by have := HDN.out; omega) (by have := HDN.out; omega)
                rw [HDN.out] at C
                have HC := Lib.hid C
                clear C
                go_upto_if 113 with (go_at_call 41; (with_reducible refine HC.out.mono ?_); rintro e w2 ⟨i, j, r, d2, rfl, hs2, hH1, hO1, hPI, hji⟩; have HPP := Lib.hid (PP.of HPD.out (fun _ => rfl) hPI hji); have hj1 := HPP.out.am; have hj2 := HPP.out.mb; have HS2 := Lib.hid hs2; have HH1 := Lib.hid hH1; have HO1 := Lib.hid (HOk.out.trans hO1); clear hH1 hO1 hs2 hPI hji)
                have hsw : (swp d2 j a1).size = n := by rw [size_swp, HS2.out, HDN.out]
                have HSW := Lib.hid hsw
                clear hsw
                by_cases hlt : j - a1 < b1 - j
                · have hltz : (j : Int) - a1 < b1 - j := by omega
                  have R := IH.out blk off cap a1 j l2 (swp d2 j a1) w2 (by omega) HH1.out hj1 (by have := HSW.out; omega) (by have := HSW.out; omega) hl2 HPP.out.belowL
                  rw [HSW.out] at R
                  have HR := Lib.hid R
                  clear R
                  go_wp2_with (go_at_call 30; (with_reducible refine HR.out.mono ?_); rintro e w3 h3; obtain ⟨R, rfl, hs3, HH3, HO3, HP3, HS3⟩ := PDS.got HO1.out h3; clear h3)
                  go_roundw
                  case rel => exact ⟨j + 1, b1, l2, _, r, R, by go_num, rfl, rfl, rfl, rfl, hl2, by omega, by omega, hbb, Lib.hid (HPP.out.left HP3.out HS3.out), HH3, HO3⟩
                  case measure => simp [intOf]; omega
                · have hltz : ¬ (j : Int) - a1 < b1 - j := by omega
                  have R := IH.out blk off cap (j + 1) b1 l2 (swp d2 j a1) w2 (by omega) HH1.out (by omega) (by have := HSW.out; omega) (by have := HSW.out; omega) hl2 HPP.out.belowR
                  rw [HSW.out] at R
                  have zj : (j : Int) + 1 = ((j + 1 : Nat) : Int) := by omega
                  rw [← zj] at R
                  have HR := Lib.hid R
                  clear R zj
                  go_wp2_with (go_at_call 30; (with_reducible refine HR.out.mono ?_); rintro e w3 h3; obtain ⟨R, rfl, hs3, HH3, HO3, HP3, HS3⟩ := PDS.got HO1.out h3; clear h3)
                  go_roundw
                  case rel => exact ⟨a1, j, l2, _, r, R, rfl, rfl, rfl, rfl, rfl, hl2, haa, by omega, by omega, Lib.hid (HPP.out.right HP3.out HS3.out), HH3, HO3⟩
                  case measure => simp [intOf]; omega
              · have C := partEq_any blk off cap a1 b1 p dk wc (fun x => !ltInt dk[p]! x) dk[p]! rfl (fun _ => rfl) HHk.out hp1 hp2 (by have := HDN.out; omega) (by have := HDN.out; omega)
                rw [HDN.out] at C
                have HC := Lib.hid C
                clear C
                go_wp2_with (go_at_call 40; (with_reducible refine HC.out.mono ?_); rintro e w2 ⟨i, j, d2, rfl, hs2, hH1, hO1, hPI, hji⟩; have hE := PD.eq HPD.out (fun _ => rfl) (HT.out rfl).1 (HT.out rfl).2 hPI hji; have HE := Lib.hid hE; have hj1 := hE.2.1; have hj2 := hE.2.2; have HH1 := Lib.hid hH1; have HO1 := Lib.hid (HOk.out.trans hO1); clear hH1 hO1 hs2 hPI hji hE)
                go_roundw
                case rel => exact ⟨i, b1, l2, wb, wp, d2, rfl, rfl, rfl, rfl, rfl, hl2, by omega, hj2, hbb, Lib.hid HE.out.1, HH1, HO1⟩
                case measure => simp [intOf]; omega
end Go.Proofs.Ytnangnmnodpfjaa
