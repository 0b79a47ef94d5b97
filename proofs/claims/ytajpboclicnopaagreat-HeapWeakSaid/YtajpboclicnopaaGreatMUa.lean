/-
  Numbers put in order by Go's own insertion sort, at uint32. No condition but those typed at each theorem.
-/
import Derived.Test.YtajpboclicnopaaGreatMGen
import Derived.Test.YtajpboclicnopaaGreatMLook
import Derived.Sort.WalkA
import Derived.Sort.AssemblyPlain
import Derived.CellFam
import Derived.Sort.LotB
import Derived.Laws.BitsAllLaws
namespace Go.Proofs.YtajpboclicnopaaGreat.U32
open Go.RowKit Go.Sort
set_option maxRecDepth 100000 in
theorem nan_any (x : Int) (w : World) : Calls Tryz.prog 116 #[.int .u32 x] w fun e w' => e = .returned (.bool false) ∧ w' = w := by
  go_enter Tryz.func116, Tryz.ntmps116
  go_wp2
  go_ret
  exact ⟨by simp, rfl⟩
set_option maxRecDepth 100000 in
theorem less_any (x y : Int) (w : World) : Calls Tryz.prog 98 #[.int .u32 x, .int .u32 y] w fun e w' => e = .returned (.bool (ltInt x y)) ∧ w' = w := by
  go_enter Tryz.func98, Tryz.ntmps98
  go_wp2_with (go_at_call 116; refine (nan_any _ _).mono ?_; rintro e w' ⟨rfl, rfl⟩)
  all_goals (go_ret; exact ⟨rfl, rfl⟩)
abbrev encU : Int → Value := Value.int .u32
theorem holds_swp {w : World} {blk off : Nat} {d : Array Int} (hH : Holds encU w blk off d) {i j : Nat} (hi : i < d.size) (hj : j < d.size) :
    Holds encU ((w.setCell ⟨blk, off + i, none⟩ (encU d[j]!)).setCell ⟨blk, off + j, none⟩ (encU d[i]!)) blk off (swp d i j) := by
  have h := putRow_swp encU w blk off d i j hi hj
  rw [putRow_self _ _ _ _ _ hH] at h
  rw [h]
  exact holds_putRow _ _ _ _ d _ hH (size_swp _ _ _)
theorem Holds.keepB {w w' : World} {blk off : Nat} {d : Array Int} (hH : Holds encU w blk off d) (hb : Below w.heap.size w w') : Holds encU w' blk off d := fun t ht =>
  have hl := World.block_lt_of_cell? w _ (hH t ht).1
  ⟨(hb.cell hl).trans (hH t ht).1, (hb.frozen hl).trans (hH t ht).2⟩
set_option maxRecDepth 100000 in
set_option maxHeartbeats 3200000 in
theorem ins_any (blk off cap a b : Nat) (d : Array Int) (w : World) (hH : Holds encU w blk off d) (hab : a ≤ b) (hb : b ≤ d.size) (hsz : d.size < 4611686018427387904) :
    Calls Tryz.prog 92 #[.slice (some ⟨blk, off, none⟩) d.size cap, .int .i64 a, .int .i64 b] w fun e w' =>
      e = .returned (.tuple #[]) ∧ Holds encU w' blk off (Sort.insertionSort ltInt d a b) ∧ Off [blk] w w' := by
  have HH := Lib.hid hH
  clear hH
  go_enter Tryz.func92, Tryz.ntmps92
  go_wp2
  go_loopw [6] (fun vi wr => ∃ (i : Nat) (dk : Array Int), vi = .int .i64 i ∧ a < i ∧ i ≤ b + 1 ∧ dk.size = d.size ∧ Hid (Holds encU wr blk off dk) ∧ Hid (Off [blk] w wr) ∧ Hid (insOuter ltInt a b i dk = insOuter ltInt a b (a + 1) d)) (fun vi _ => b + 1 - (intOf vi).toNat)
  case atStart => exact ⟨a + 1, d, by go_num, by omega, by omega, rfl, HH, Lib.hid (Off.refl _ _), Lib.hid rfl⟩
  case round =>
    obtain ⟨i, dk, rfl, hai, hib, hsk, HHk, HOk, HO⟩ := hrel
    by_cases hlt : i < b
    · have hltz : (i : Int) < b := by omega
      go_wp2
      go_loopw [7] (fun vj wr2 => ∃ (j : Nat) (dj : Array Int), vj = .int .i64 j ∧ a ≤ j ∧ j ≤ i ∧ dj.size = d.size ∧ Hid (Holds encU wr2 blk off dj) ∧ Hid (Off [blk] w wr2) ∧ Hid (insInner ltInt a j dj = insInner ltInt a i dk)) (fun vj _ => (intOf vj).toNat)
      case atStart => exact ⟨i, dk, rfl, by omega, Nat.le_refl _, hsk, HHk, HOk, Lib.hid rfl⟩
      case round =>
        clear HHk HOk
        obtain ⟨j, dj, rfl, haj, hji, hsj, HHj, HOj, HI⟩ := hrel
        have inst : Nonempty (Wd (Bw wr)) := ⟨⟨wr, Below.refl _ _⟩⟩
        by_cases hja : a < j
        · have hjz : (a : Int) < j := by omega
          obtain ⟨x, hx⟩ : ∃ x, x = dj[j]! := ⟨_, rfl⟩
          obtain ⟨y, hy⟩ : ∃ y, y = dj[j - 1]! := ⟨_, rfl⟩
          have hj1 : j < dj.size := by omega
          have c1 : ∀ s : Wd (Bw wr), s.w.cell? ⟨blk, off + j, none⟩ = some (.int .u32 x) := fun s => Bw.cell s (by rw [hx]; exact (HHj.out j hj1).1)
          have c2 : ∀ s : Wd (Bw wr), s.w.cell? ⟨blk, off + (j - 1), none⟩ = some (.int .u32 y) := fun s => Bw.cell s (by rw [hy]; exact (HHj.out (j - 1) (by omega)).1)
          have HX := Lib.hid hx
          have HY := Lib.hid hy
          clear hx hy
          obtain ⟨q, hq⟩ : ∃ q, q = ltInt x y := ⟨_, rfl⟩
          have hc : ∀ X, Calls Tryz.prog 98 #[.int .u32 x, .int .u32 y] X fun e w' => e = .returned (.bool q) ∧ Below X.heap.size X w' := fun X => by
            rw [hq]; exact (less_any x y X).mono fun _ _ h => ⟨h.1, h.2 ▸ Below.refl _ _⟩
          have HC := Lib.hid hc
          have HQ := Lib.hid hq
          clear hc hq
          have hjd : j < d.size := by omega
          have hj1d : j - 1 < d.size := by omega
          have hsw : IntKind.i64.wrap ((j : Int) - 1) = ((j - 1 : Nat) : Int) := by rw [IntWalk.i64_in _ (by omega)]; omega
          have hsub : ((j : Int) - 1) = ((j - 1 : Nat) : Int) := by omega
          go_upto_region 4 with fail
          refine wp_region_wd (Bw wr) (by kernel_rfl) (by kernel_rfl) ((Below.refl _ wr).drew) ?_
          repeat (first
            | go_big_quiet_step (first | (go_at_call 98; with_reducible exact calls_wd (fun _ _ h hb => h.keep hb) _ (HC.out _)))
            | quiet_step (first | (go_at_call 98; with_reducible exact calls_wd (fun _ _ h hb => h.keep hb) _ (HC.out _))))
          refine wpQuiet_nil ?_
          rintro _ ⟨s, rfl⟩
          have d1 := c1 s
          have d2 := c2 s
          have HH2 := Lib.hid (Holds.keepB HHj.out s.h)
          have HO2 := Lib.hid (HOj.out.bel s.h)
          have f1 := (HH2.out j hj1).2
          have f2 := (HH2.out (j - 1) (by omega)).2
          generalize s.w = ws at *
          clear c1 c2 s
          cases q
          · go_wp2
            go_roundw
            case rel => exact ⟨i + 1, dj, by go_num, by omega, by omega, hsj, HH2, HO2, Lib.hid (by rw [← HO.out, insOuter_go _ _ _ _ _ hlt, ← HI.out, insInner_stop _ _ _ _ (.inr (by rw [← HX.out, ← HY.out, ← HQ.out]))])⟩
            case measure => simp [intOf]; omega
          · go_wp2_with fail
            have hS := holds_swp HH2.out hj1 (show j - 1 < dj.size by omega)
            rw [← HX.out, ← HY.out] at hS
            have HS := Lib.hid hS
            have HS2 := Lib.hid ((HO2.out.set ⟨blk, off + j, none⟩ (encU y) (.inl (by simp))).set ⟨blk, off + (j - 1), none⟩ (encU x) (.inl (by simp)))
            clear hS
            go_region
            all_goals go_wp2
            all_goals go_roundw
            case rel => exact ⟨j - 1, swp dj j (j - 1), by first | rfl | go_num, by omega, by omega, by rw [size_swp]; exact hsj, HS, Lib.hid HS2.out.drew, Lib.hid (by rw [← HI.out, insInner_go ltInt a j dj hja (by rw [← HX.out, ← HY.out, ← HQ.out])])⟩
            case measure => simp [intOf]; omega
        · have hjz : ¬ (a : Int) < j := by omega
          go_upto_region 4 with fail
          refine wp_region_wd (Bw wr) (by kernel_rfl) (by kernel_rfl) ((Below.refl _ wr).drew) ?_
          repeat (first | go_big_quiet_step (fail) | quiet_step (fail))
          refine wpQuiet_nil ?_
          rintro _ ⟨s, rfl⟩
          have HH2 := Lib.hid (Holds.keepB HHj.out s.h)
          have HO2 := Lib.hid (HOj.out.bel s.h)
          go_wp2
          go_roundw
          case rel => exact ⟨i + 1, dj, by go_num, by omega, by omega, hsj, HH2, HO2, Lib.hid (by rw [← HO.out, insOuter_go _ _ _ _ _ hlt, ← HI.out, insInner_stop _ _ _ _ (.inl (by omega))])⟩
          case measure => simp [intOf]; omega
    · have hge : ¬ (i : Int) < b := by omega
      go_wp2
      go_end0
      exact ⟨rfl, by unfold Sort.insertionSort; rw [← HO.out, insOuter_stop _ _ _ _ _ hlt]; exact HHk.out, HOk.out⟩
end Go.Proofs.YtajpboclicnopaaGreat.U32
/-
  Go's own heap sort at uint32. No condition but those typed at each theorem.
-/
namespace Go.Proofs.YtajpboclicnopaaGreat.U32
open Go.RowKit Go.Sort
theorem Hq {w : World} {blk off : Nat} {d : Array Int} (h : Holds encU w blk off d) {t : Nat} (ht : t < d.size) {v : Int} (hv : v = d[t]!) : ∀ s : Wd (Bw w), s.w.cell? ⟨blk, off + t, none⟩ = some (.int .u32 v) :=
  fun s => Bw.cell s (by rw [hv]; exact (h t ht).1)
theorem lessQ {x y : Int} {q : Bool} (hq : q = ltInt x y) : ∀ X, Calls Tryz.prog 98 #[.int .u32 x, .int .u32 y] X fun e w' => e = .returned (.bool q) ∧ Below X.heap.size X w' := fun X => by
  rw [hq]; exact (less_any x y X).mono fun _ _ h => ⟨h.1, h.2 ▸ Below.refl _ _⟩
theorem swz {X w : World} {blk off : Nat} {d : Array Int} (hH : Holds encU X blk off d) (hO : Off [blk] w X) {i j : Nat} (hi : i < d.size) (hj : j < d.size) {x y : Int} (hx : x = d[i]!) (hy : y = d[j]!) :
    Holds encU ((X.setCell ⟨blk, off + i, none⟩ (encU y)).setCell ⟨blk, off + j, none⟩ (encU x)) blk off (swp d i j) ∧ Off [blk] w ((X.setCell ⟨blk, off + i, none⟩ (encU y)).setCell ⟨blk, off + j, none⟩ (encU x)) := by
  subst hx hy
  exact ⟨holds_swp hH hi hj, (hO.set ⟨blk, off + i, none⟩ _ (.inl (by simp))).set ⟨blk, off + j, none⟩ _ (.inl (by simp))⟩
theorem sift_end (hi F r : Nat) (d : Array Int) (h : 2 * r + 1 ≥ hi) : siftDown ltInt hi F r d = d := by rw [siftDown, dif_pos h]
theorem sift_go (hi F r c : Nat) (d : Array Int) (h : ¬ 2 * r + 1 ≥ hi) (hc : c = if (decide (2 * r + 1 + 1 < hi) && ltInt d[F + (2 * r + 1)]! d[F + (2 * r + 1) + 1]!) = true then 2 * r + 2 else 2 * r + 1) :
    siftDown ltInt hi F r d = if ltInt d[F + r]! d[F + c]! = true then siftDown ltInt hi F c (swp d (F + r) (F + c)) else d := by
  rw [siftDown, dif_neg h]
  by_cases h1 : (decide (2 * r + 1 + 1 < hi) && ltInt d[F + (2 * r + 1)]! d[F + (2 * r + 1) + 1]!) = true
  · rw [if_pos h1] at hc
    subst hc
    rw [if_pos h1]
    have h2 : 2 * r + 2 < hi := by simp at h1; omega
    cases ltInt d[F + r]! d[F + (2 * r + 2)]! <;> simp [h2]
  · rw [if_neg h1] at hc
    subst hc
    rw [if_neg h1]
    cases ltInt d[F + r]! d[F + (2 * r + 1)]! <;> simp
theorem sift_size (hi F : Nat) : ∀ (n r : Nat) (d : Array Int), hi - r ≤ n → (siftDown ltInt hi F r d).size = d.size := by
  intro n
  induction n with
  | zero => intro r d h; rw [sift_end _ _ _ _ (by omega)]
  | succ n ih =>
    intro r d h
    by_cases h1 : 2 * r + 1 ≥ hi
    · rw [sift_end _ _ _ _ h1]
    · obtain ⟨c, hc⟩ : ∃ c, c = if (decide (2 * r + 1 + 1 < hi) && ltInt d[F + (2 * r + 1)]! d[F + (2 * r + 1) + 1]!) = true then 2 * r + 2 else 2 * r + 1 := ⟨_, rfl⟩
      have h2 : c ≤ 2 * r + 2 ∧ 2 * r + 1 ≤ c := by rw [hc]; split <;> omega
      rw [sift_go hi F r c d h1 hc]
      split
      · rw [ih _ _ (by omega), size_swp]
      · rfl
set_option maxRecDepth 100000 in
set_option maxHeartbeats 6400000 in
theorem siftDown_any (blk off cap lo hi F : Nat) (d : Array Int) (w : World) (hH : Holds encU w blk off d) (hb : F + hi ≤ d.size) (hsz : d.size ≤ 100000) (hlo : lo ≤ 100000) :
    Calls Tryz.prog 121 #[.slice (some ⟨blk, off, none⟩) d.size cap, .int .i64 lo, .int .i64 hi, .int .i64 F] w fun e w' =>
      e = .returned (.tuple #[]) ∧ Holds encU w' blk off (siftDown ltInt hi F lo d) ∧ Off [blk] w w' := by
  have HH := Lib.hid hH
  clear hH
  go_enter Tryz.func121, Tryz.ntmps121
  go_wp2
  go_loopw [8] (fun vr wr => ∃ (r : Nat) (dk : Array Int), vr = .int .i64 r ∧ r ≤ 100000 ∧ dk.size = d.size ∧ Hid (Holds encU wr blk off dk) ∧ Hid (Off [blk] w wr) ∧ Hid (siftDown ltInt hi F r dk = siftDown ltInt hi F lo d)) (fun vr _ => 100001 - (intOf vr).toNat)
  case atStart => exact ⟨lo, d, rfl, hlo, rfl, HH, Lib.hid (Off.refl _ _), Lib.hid rfl⟩
  case round =>
    obtain ⟨r, dk, rfl, hr, hsk, HHk, HOk, HI⟩ := hrel
    have inst : Nonempty (Wd (Bw wr)) := ⟨⟨wr, Below.refl _ _⟩⟩
    obtain ⟨c, hc⟩ : ∃ n : Nat, n = 2 * r + 1 := ⟨_, rfl⟩
    have zc : 2 * (r : Int) + 1 = (c : Int) := by omega
    have HC := Lib.hid hc
    clear hc
    by_cases hge : c ≥ hi
    · have hgez : (hi : Int) ≤ c := by omega
      go_wp2
      go_end0
      have := HI.out
      rw [sift_end _ _ _ _ (by have := HC.out; omega)] at this
      exact ⟨rfl, this ▸ HHk.out, HOk.out⟩
    have hgez : ¬ (hi : Int) ≤ c := by omega
    have hc := HC.out
    obtain ⟨c1, hc1⟩ : ∃ n : Nat, n = c + 1 := ⟨_, rfl⟩
    obtain ⟨fr, hfr⟩ : ∃ n : Nat, n = F + r := ⟨_, rfl⟩
    obtain ⟨fc, hfc⟩ : ∃ n : Nat, n = F + c := ⟨_, rfl⟩
    obtain ⟨f1, hf1⟩ : ∃ n : Nat, n = F + c + 1 := ⟨_, rfl⟩
    obtain ⟨x0, hx0⟩ : ∃ x, x = dk[fr]! := ⟨_, rfl⟩
    obtain ⟨x1, hx1⟩ : ∃ x, x = dk[fc]! := ⟨_, rfl⟩
    obtain ⟨x2, hx2⟩ : ∃ x, x = dk[f1]! := ⟨_, rfl⟩
    have g0 : fr < d.size := by omega
    have g1 : fc < d.size := by omega
    have q0 := Hq HHk.out (by omega) hx0
    have q1 := Hq HHk.out (by omega) hx1
    obtain ⟨p1, hp1⟩ : ∃ p, p = ltInt x1 x2 := ⟨_, rfl⟩
    have HL1 := Lib.hid (lessQ hp1)
    obtain ⟨cc, hcc⟩ : ∃ n : Nat, n = if (decide (c1 < hi) && p1) = true then c1 else c := ⟨_, rfl⟩
    have hgo := sift_go hi F r cc dk (by omega) (by rw [hcc, hp1, hx1, hx2, hf1, hfc, hc1, hc])
    have HGO := Lib.hid hgo
    have HCC := Lib.hid hcc
    have HX0 := Lib.hid hx0
    have HX1 := Lib.hid hx1
    have HX2 := Lib.hid hx2
    have HC1 := Lib.hid hc1
    have HFR := Lib.hid hfr
    have HFC := Lib.hid hfc
    have HF1 := Lib.hid hf1
    have zc1 : (c : Int) + 1 = (c1 : Int) := by omega
    have zfr : (F : Int) + r = (fr : Int) := by omega
    have zfc : (F : Int) + c = (fc : Int) := by omega
    have zf1 : (fc : Int) + 1 = (f1 : Int) := by omega
    have zg1 : (F : Int) + c1 = (f1 : Int) := by omega
    clear hx0 hx1 hx2 hp1 hcc hgo hc hc1 hfr hfc hf1
    obtain ⟨bb, hbb⟩ : ∃ b, b = (decide (c1 < hi) && p1) := ⟨_, rfl⟩
    have HBB := Lib.hid hbb
    rw [← hbb] at HCC
    clear hbb
    go_upto_region 3 with fail
    have yc : IntKind.i64.wrap (2 * (r : Int) + 1) = (c : Int) := by rw [IntWalk.i64_in _ (by omega)]; exact zc
    have yc1 : IntKind.i64.wrap ((c : Int) + 1) = (c1 : Int) := by rw [IntWalk.i64_in _ (by omega)]; exact zc1
    have yfr : IntKind.i64.wrap ((F : Int) + r) = (fr : Int) := by rw [IntWalk.i64_in _ (by omega)]; exact zfr
    have yfc : IntKind.i64.wrap ((F : Int) + c) = (fc : Int) := by rw [IntWalk.i64_in _ (by omega)]; exact zfc
    have yf1 : IntKind.i64.wrap ((fc : Int) + 1) = (f1 : Int) := by rw [IntWalk.i64_in _ (by omega)]; exact zf1
    have yg1 : IntKind.i64.wrap ((F : Int) + c1) = (f1 : Int) := by rw [IntWalk.i64_in _ (by omega)]; exact zg1
    go_cut [36] (fun s36 wx => s36 = .bool bb ∧ ∃ s : Wd (Bw wr), wx = s.w)
    case first =>
      by_cases h1 : c1 < hi
      · have h1z : (c1 : Int) < hi := by omega
        have q2 := Hq HHk.out (by have := HC1.out; have := HF1.out; omega) HX2.out
        have g2 : f1 < d.size := by have := HC1.out; have := HF1.out; omega
        refine wp_region_wd (Bw wr) (by kernel_rfl) (by kernel_rfl) ((Below.refl _ wr).drew) ?_
        repeat (first | go_big_quiet_step (first | (go_at_call 98; with_reducible exact calls_wd (fun _ _ h hb => h.keep hb) _ (HL1.out _))) | quiet_step (first | (go_at_call 98; with_reducible exact calls_wd (fun _ _ h hb => h.keep hb) _ (HL1.out _))))
        refine wpQuiet_nil ?_
        rintro _ ⟨s, rfl⟩
        go_wp2_with fail
        go_meet
        exact ⟨by rw [HBB.out]; simp [h1], s, rfl⟩
      · have h1z : ¬ (c1 : Int) < hi := by omega
        refine wp_region_wd (Bw wr) (by kernel_rfl) (by kernel_rfl) ((Below.refl _ wr).drew) ?_
        repeat (first | go_big_quiet_step (fail) | quiet_step (fail))
        refine wpQuiet_nil ?_
        rintro _ ⟨s, rfl⟩
        go_wp2_with fail
        go_meet
        exact ⟨by rw [HBB.out]; simp [h1], s, rfl⟩
    case rest =>
      obtain ⟨rfl, s0, rfl⟩ := hcut
      clear yc yc1 yfr yfc yf1 yg1
      cases bb
      ·
        have hccn : c = cc := by rw [HCC.out]; rfl
        subst hccn
        obtain ⟨fx, hfx⟩ : ∃ n : Nat, n = F + c := ⟨_, rfl⟩
        have hfx2 : fc = fx := by have := HFC.out; have := HF1.out; have := HC1.out; omega
        subst hfx2
        obtain ⟨p2, hp2⟩ : ∃ p, p = ltInt x0 x1 := ⟨_, rfl⟩
        have HL2 := Lib.hid (lessQ hp2)
        have hgo := HGO.out
        rw [← HFR.out, ← hfx, ← HX0.out, ← HX1.out, ← hp2] at hgo
        have HGO2 := Lib.hid hgo
        have HFX := Lib.hid hfx
        clear hgo hfx hp2 HCC HGO
        have gx : fc < d.size := by
          have h1 := HBB.out
          have h2 := HFC.out
          have h3 := HF1.out
          have h4 := HC1.out
          simp at h1
          omega
        have HHs := Lib.hid (Holds.keepB HHk.out s0.h)
        have HOs := Lib.hid (HOk.out.bel s0.h)
        generalize s0.w = w1 at *
        have q0' := Hq HHs.out (by omega) HX0.out
        have qx' := Hq HHs.out (by omega) HX1.out
        have inst1 : Nonempty (Wd (Bw w1)) := ⟨⟨w1, Below.refl _ _⟩⟩
        clear q0 q1 HHk HOk
        go_upto_region 5 with fail
        have yc : IntKind.i64.wrap (2 * (r : Int) + 1) = (c : Int) := by rw [IntWalk.i64_in _ (by omega)]; exact zc
        have yc1 : IntKind.i64.wrap ((c : Int) + 1) = (c1 : Int) := by rw [IntWalk.i64_in _ (by omega)]; exact zc1
        have yfr : IntKind.i64.wrap ((F : Int) + r) = (fr : Int) := by rw [IntWalk.i64_in _ (by omega)]; exact zfr
        have yfc : IntKind.i64.wrap ((F : Int) + c) = (fc : Int) := by rw [IntWalk.i64_in _ (by omega)]; exact zfc
        have yf1 : IntKind.i64.wrap ((fc : Int) + 1) = (f1 : Int) := by rw [IntWalk.i64_in _ (by omega)]; exact zf1
        have yg1 : IntKind.i64.wrap ((F : Int) + c1) = (f1 : Int) := by rw [IntWalk.i64_in _ (by omega)]; exact zg1
        refine wp_region_wd (Bw w1) (by kernel_rfl) (by kernel_rfl) ((Below.refl _ w1).drew) ?_
        repeat (first | go_big_quiet_step (first | (go_at_call 98; with_reducible exact calls_wd (fun _ _ h hb => h.keep hb) _ (HL2.out _))) | quiet_step (first | (go_at_call 98; with_reducible exact calls_wd (fun _ _ h hb => h.keep hb) _ (HL2.out _))))
        refine wpQuiet_nil ?_
        rintro _ ⟨s1, rfl⟩
        have d0 := q0' s1
        have dx := qx' s1
        have HH2 := Lib.hid (Holds.keepB HHs.out s1.h)
        have HO2 := Lib.hid (HOs.out.bel s1.h)
        have f0 := (HH2.out fr (by omega)).2
        have fx' := (HH2.out fc (by omega)).2
        generalize s1.w = w2 at *
        clear q0' qx' s1 inst1 inst
        cases p2
        · clear yc yc1 yfr yfc yf1 yg1
          go_wp2
          refine bodyPost_ret (results_none rfl _ _ _) rfl ?_
          have := HI.out
          rw [HGO2.out] at this
          exact ⟨rfl, this ▸ HH2.out, HO2.out⟩
        · obtain ⟨hs1, hs2⟩ := swz HH2.out HO2.out (show fr < dk.size by omega) (show fc < dk.size by omega) HX0.out HX1.out
          have HS1 := Lib.hid hs1
          have HS2 := Lib.hid hs2
          clear hs1 hs2
          clear yc yc1 yfr yfc yf1 yg1
          go_upto_region 6 with fail
          have yc : IntKind.i64.wrap (2 * (r : Int) + 1) = (c : Int) := by rw [IntWalk.i64_in _ (by omega)]; exact zc
          have yc1 : IntKind.i64.wrap ((c : Int) + 1) = (c1 : Int) := by rw [IntWalk.i64_in _ (by omega)]; exact zc1
          have yfr : IntKind.i64.wrap ((F : Int) + r) = (fr : Int) := by rw [IntWalk.i64_in _ (by omega)]; exact zfr
          have yfc : IntKind.i64.wrap ((F : Int) + c) = (fc : Int) := by rw [IntWalk.i64_in _ (by omega)]; exact zfc
          have yf1 : IntKind.i64.wrap ((fc : Int) + 1) = (f1 : Int) := by rw [IntWalk.i64_in _ (by omega)]; exact zf1
          have yg1 : IntKind.i64.wrap ((F : Int) + c1) = (f1 : Int) := by rw [IntWalk.i64_in _ (by omega)]; exact zg1
          go_region
          all_goals clear yc yc1 yfr yfc yf1 yg1
          all_goals go_wp2
          all_goals go_roundw
          case rel => exact ⟨c, swp dk fr fc, by first | rfl | go_num, by omega, by rw [size_swp]; exact hsk, HS1, Lib.hid HS2.out.drew, Lib.hid (by rw [← HI.out, HGO2.out]; simp)⟩
          case measure => simp [intOf]; have := HC.out; have := HC1.out; omega
      ·
        have hccn : c1 = cc := by rw [HCC.out]; rfl
        subst hccn
        obtain ⟨fx, hfx⟩ : ∃ n : Nat, n = F + c1 := ⟨_, rfl⟩
        have hfx2 : f1 = fx := by have := HFC.out; have := HF1.out; have := HC1.out; omega
        subst hfx2
        obtain ⟨p2, hp2⟩ : ∃ p, p = ltInt x0 x2 := ⟨_, rfl⟩
        have HL2 := Lib.hid (lessQ hp2)
        have hgo := HGO.out
        rw [← HFR.out, ← hfx, ← HX0.out, ← HX2.out, ← hp2] at hgo
        have HGO2 := Lib.hid hgo
        have HFX := Lib.hid hfx
        clear hgo hfx hp2 HCC HGO
        have gx : f1 < d.size := by
          have h1 := HBB.out
          have h2 := HFC.out
          have h3 := HF1.out
          have h4 := HC1.out
          simp at h1
          omega
        have HHs := Lib.hid (Holds.keepB HHk.out s0.h)
        have HOs := Lib.hid (HOk.out.bel s0.h)
        generalize s0.w = w1 at *
        have q0' := Hq HHs.out (by omega) HX0.out
        have qx' := Hq HHs.out (by omega) HX2.out
        have inst1 : Nonempty (Wd (Bw w1)) := ⟨⟨w1, Below.refl _ _⟩⟩
        clear q0 q1 HHk HOk
        go_upto_region 5 with fail
        have yc : IntKind.i64.wrap (2 * (r : Int) + 1) = (c : Int) := by rw [IntWalk.i64_in _ (by omega)]; exact zc
        have yc1 : IntKind.i64.wrap ((c : Int) + 1) = (c1 : Int) := by rw [IntWalk.i64_in _ (by omega)]; exact zc1
        have yfr : IntKind.i64.wrap ((F : Int) + r) = (fr : Int) := by rw [IntWalk.i64_in _ (by omega)]; exact zfr
        have yfc : IntKind.i64.wrap ((F : Int) + c) = (fc : Int) := by rw [IntWalk.i64_in _ (by omega)]; exact zfc
        have yf1 : IntKind.i64.wrap ((fc : Int) + 1) = (f1 : Int) := by rw [IntWalk.i64_in _ (by omega)]; exact zf1
        have yg1 : IntKind.i64.wrap ((F : Int) + c1) = (f1 : Int) := by rw [IntWalk.i64_in _ (by omega)]; exact zg1
        refine wp_region_wd (Bw w1) (by kernel_rfl) (by kernel_rfl) ((Below.refl _ w1).drew) ?_
        repeat (first | go_big_quiet_step (first | (go_at_call 98; with_reducible exact calls_wd (fun _ _ h hb => h.keep hb) _ (HL2.out _))) | quiet_step (first | (go_at_call 98; with_reducible exact calls_wd (fun _ _ h hb => h.keep hb) _ (HL2.out _))))
        refine wpQuiet_nil ?_
        rintro _ ⟨s1, rfl⟩
        have d0 := q0' s1
        have dx := qx' s1
        have HH2 := Lib.hid (Holds.keepB HHs.out s1.h)
        have HO2 := Lib.hid (HOs.out.bel s1.h)
        have f0 := (HH2.out fr (by omega)).2
        have fx' := (HH2.out f1 (by omega)).2
        generalize s1.w = w2 at *
        clear q0' qx' s1 inst1 inst
        cases p2
        · clear yc yc1 yfr yfc yf1 yg1
          go_wp2
          refine bodyPost_ret (results_none rfl _ _ _) rfl ?_
          have := HI.out
          rw [HGO2.out] at this
          exact ⟨rfl, this ▸ HH2.out, HO2.out⟩
        · obtain ⟨hs1, hs2⟩ := swz HH2.out HO2.out (show fr < dk.size by omega) (show f1 < dk.size by omega) HX0.out HX2.out
          have HS1 := Lib.hid hs1
          have HS2 := Lib.hid hs2
          clear hs1 hs2
          clear yc yc1 yfr yfc yf1 yg1
          go_upto_region 6 with fail
          have yc : IntKind.i64.wrap (2 * (r : Int) + 1) = (c : Int) := by rw [IntWalk.i64_in _ (by omega)]; exact zc
          have yc1 : IntKind.i64.wrap ((c : Int) + 1) = (c1 : Int) := by rw [IntWalk.i64_in _ (by omega)]; exact zc1
          have yfr : IntKind.i64.wrap ((F : Int) + r) = (fr : Int) := by rw [IntWalk.i64_in _ (by omega)]; exact zfr
          have yfc : IntKind.i64.wrap ((F : Int) + c) = (fc : Int) := by rw [IntWalk.i64_in _ (by omega)]; exact zfc
          have yf1 : IntKind.i64.wrap ((fc : Int) + 1) = (f1 : Int) := by rw [IntWalk.i64_in _ (by omega)]; exact zf1
          have yg1 : IntKind.i64.wrap ((F : Int) + c1) = (f1 : Int) := by rw [IntWalk.i64_in _ (by omega)]; exact zg1
          go_region
          all_goals clear yc yc1 yfr yfc yf1 yg1
          all_goals go_wp2
          all_goals go_roundw
          case rel => exact ⟨c1, swp dk fr f1, by first | rfl | go_num, by omega, by rw [size_swp]; exact hsk, HS1, Lib.hid HS2.out.drew, Lib.hid (by rw [← HI.out, HGO2.out]; simp)⟩
          case measure => simp [intOf]; have := HC.out; have := HC1.out; omega
set_option maxRecDepth 100000 in
set_option maxHeartbeats 6400000 in
theorem heapSort_any (blk off cap a b : Nat) (d : Array Int) (w : World) (hH : Holds encU w blk off d) (hab : a < b) (hb : b ≤ d.size) (hsz : d.size ≤ 100000) :
    Calls Tryz.prog 93 #[.slice (some ⟨blk, off, none⟩) d.size cap, .int .i64 a, .int .i64 b] w fun e w' =>
      e = .returned (.tuple #[]) ∧ Holds encU w' blk off (heapSort ltInt d a b) ∧ Off [blk] w w' := by
  have HH := Lib.hid hH
  clear hH
  obtain ⟨hi, hhi⟩ : ∃ n : Nat, n = b - a := ⟨_, rfl⟩
  have zhi : (b : Int) - a = (hi : Int) := by omega
  obtain ⟨k0, hk0⟩ : ∃ n : Nat, n = (hi - 1) / 2 := ⟨_, rfl⟩
  have hi1 : 1 ≤ hi ∧ hi ≤ 100000 := by omega
  have zk0 : ((hi : Int) - 1).tdiv 2 = (k0 : Int) := by rw [hk0, show ((hi : Int) - 1) = ((hi - 1 : Nat) : Int) by omega]; rfl
  have zk1 : ((hi : Int) - 1) / 2 = (k0 : Int) := by omega
  have hk1 : k0 ≤ 100000 := by omega
  have HHI := Lib.hid hhi
  have HK0 := Lib.hid hk0
  have hab' : a + hi = b := by omega
  have HAB := Lib.hid hab'
  clear hhi hk0 hab'
  go_enter Tryz.func93, Tryz.ntmps93
  go_wp2
  go_loopw [9] (fun v wr => ∃ (k : Nat) (dk : Array Int), v = .int .i64 ((k : Int) - 1) ∧ k ≤ k0 + 1 ∧ dk.size = d.size ∧ Hid (Holds encU wr blk off dk) ∧ Hid (Off [blk] w wr) ∧ Hid (heapBuild ltInt hi a k dk = heapBuild ltInt hi a (k0 + 1) d)) (fun v _ => (intOf v + 1).toNat)
  case atStart => exact ⟨k0 + 1, d, by go_num, Nat.le_refl _, rfl, HH, Lib.hid (Off.refl _ _), Lib.hid rfl⟩
  case round =>
    obtain ⟨k, dk, rfl, hk, hsk, HHk, HOk, HI⟩ := hrel
    cases k with
    | succ k =>
      have zk : (((k + 1 : Nat) : Int) - 1) = (k : Int) := by omega
      rw [zk]
      have hkz : (0 : Int) ≤ k := by omega
      have C1 := siftDown_any blk off cap k hi a dk wr HHk.out (by have := HAB.out; omega) (by omega) (by omega)
      rw [hsk] at C1
      have HC1 := Lib.hid C1
      clear C1 zk
      go_wp2_with (go_at_call 121; (with_reducible refine HC1.out.mono ?_); rintro e w1 ⟨rfl, hH1, hO1⟩; have HH1 := Lib.hid hH1; have HO1 := Lib.hid (HOk.out.trans hO1); clear hH1 hO1)
      go_roundw
      case rel => exact ⟨k, siftDown ltInt hi a k dk, by first | rfl | go_num, by omega, by rw [sift_size _ _ _ _ _ (Nat.le_refl _)]; exact hsk, HH1, HO1, Lib.hid (by rw [← HI.out]; rfl)⟩
      case measure => simp [intOf] <;> omega
    | zero =>
      rw [show (((0 : Nat) : Int) - 1) = -1 from rfl]
      have hH1 := HHk.out
      have hI1 : dk = heapBuild ltInt hi a (k0 + 1) d := HI.out
      go_wp2
      go_loopw [10] (fun v wr2 => ∃ (k : Nat) (dk2 : Array Int), v = .int .i64 ((k : Int) - 1) ∧ k ≤ hi ∧ dk2.size = d.size ∧ Hid (Holds encU wr2 blk off dk2) ∧ Hid (Off [blk] w wr2) ∧ Hid (heapPop ltInt a k dk2 = heapPop ltInt a hi dk)) (fun v _ => (intOf v + 1).toNat)
      case atStart => exact ⟨hi, dk, rfl, Nat.le_refl _, hsk, HHk, HOk, Lib.hid rfl⟩
      case round =>
        clear hH1
        have HI1 := Lib.hid hI1
        clear hI1 HHk HOk
        obtain ⟨k, dj, rfl, hk, hsj, HHj, HOj, HJ⟩ := hrel
        cases k with
        | succ k =>
          have zk : (((k + 1 : Nat) : Int) - 1) = (k : Int) := by omega
          rw [zk]
          have hkz : (0 : Int) ≤ k := by omega
          obtain ⟨ak, hak⟩ : ∃ n : Nat, n = a + k := ⟨_, rfl⟩
          have zak : (a : Int) + k = (ak : Int) := by omega
          obtain ⟨x, hx⟩ : ∃ x, x = dj[a]! := ⟨_, rfl⟩
          obtain ⟨y, hy⟩ : ∃ y, y = dj[ak]! := ⟨_, rfl⟩
          have h1 : a < d.size := by omega
          have h2 : ak < d.size := by have := HAB.out; omega
          have c1 : wr.cell? ⟨blk, off + a, none⟩ = some (.int .u32 x) := by rw [hx]; exact (HHj.out a (by omega)).1
          have c2 : wr.cell? ⟨blk, off + ak, none⟩ = some (.int .u32 y) := by rw [hy]; exact (HHj.out ak (by omega)).1
          have f1 := (HHj.out a (by omega)).2
          have f2 := (HHj.out ak (by omega)).2
          obtain ⟨hs1, hs2⟩ := swz HHj.out HOj.out (show a < dj.size by omega) (show ak < dj.size by omega) hx hy
          have HS1 := Lib.hid hs1
          have HS2 := Lib.hid hs2
          have HAK := Lib.hid hak
          have HXX := Lib.hid hx
          have HYY := Lib.hid hy
          have C1 := fun X (h : Holds encU X blk off (swp dj a ak)) => siftDown_any blk off cap 0 k a (swp dj a ak) X h (by rw [size_swp]; have := HAB.out; omega) (by rw [size_swp]; omega) (by omega)
          rw [size_swp, hsj] at C1
          simp only [Int.natCast_zero] at C1
          have HC1 := Lib.hid (C1 ((wr.setCell ⟨blk, off + a, none⟩ (.int .u32 y)).setCell ⟨blk, off + ak, none⟩ (.int .u32 x)).drew HS1.out)
          clear C1 zk hs1 hs2 hak hx hy
          by_cases hk0 : k = 0
          · have hka : a = ak := by have := HAK.out; omega
            have hxy : x = y := by rw [HXX.out, HYY.out, hka]
            subst hka hxy
            have HAK2 := HAK
            clear HAK hk0
            go_upto_region 10 with fail
            have yak : IntKind.i64.wrap ((a : Int) + k) = (a : Int) := by rw [IntWalk.i64_in _ (by omega)]; exact zak
            go_region
            all_goals clear yak
            all_goals go_wp2_with (go_at_call 121; (with_reducible refine HC1.out.mono ?_); rintro e w1 ⟨rfl, hH1, hO1⟩; have HH1 := Lib.hid hH1; have HO1 := Lib.hid ((HS2.out.drew).trans hO1); clear hH1 hO1)
            all_goals go_roundw
            case rel => exact ⟨k, siftDown ltInt k a 0 (swp dj a a), by first | rfl | go_num, by omega, by rw [sift_size _ _ _ _ _ (Nat.le_refl _), size_swp]; exact hsj, HH1, HO1, Lib.hid (by rw [← HJ.out, heapPop, show a + k = a from HAK2.out.symm])⟩
            case measure => simp [intOf] <;> omega
          · have hne : ¬ ak = a := by have := HAK.out; omega
            have hne2 : ¬ a = ak := by have := HAK.out; omega
            go_upto_region 10 with fail
            have yak : IntKind.i64.wrap ((a : Int) + k) = (ak : Int) := by rw [IntWalk.i64_in _ (by omega)]; exact zak
            go_region
            all_goals clear yak
            all_goals go_wp2_with (go_at_call 121; (with_reducible refine HC1.out.mono ?_); rintro e w1 ⟨rfl, hH1, hO1⟩; have HH1 := Lib.hid hH1; have HO1 := Lib.hid ((HS2.out.drew).trans hO1); clear hH1 hO1)
            all_goals go_roundw
            case rel => exact ⟨k, siftDown ltInt k a 0 (swp dj a ak), by first | rfl | go_num, by omega, by rw [sift_size _ _ _ _ _ (Nat.le_refl _), size_swp]; exact hsj, HH1, HO1, Lib.hid (by rw [← HJ.out, heapPop, HAK.out])⟩
            case measure => simp [intOf] <;> omega
        | zero =>
          rw [show (((0 : Nat) : Int) - 1) = -1 from rfl]
          go_wp2
          go_end0
          have e1 := HJ.out
          have e2 := HI1.out
          have e3 : dj = heapSort ltInt d a b := by
            unfold heapSort
            rw [← HHI.out, ← HK0.out, ← e2, ← e1]
            rfl
          exact ⟨rfl, e3 ▸ HHj.out, HOj.out⟩
end Go.Proofs.YtajpboclicnopaaGreat.U32
/-
  Which place Go's own sort chooses, and a range turned round, at uint32. No condition but those typed at each theorem.
-/
namespace Go.Proofs.YtajpboclicnopaaGreat.U32
open Go.RowKit Go.Sort
/-- a variable of one number -/
def OV (w : World) (S : Nat) : Prop := ∃ n : Int, w.heap[S]? = some (.cells #[.int .i64 n] 3 (0, 0))
theorem Holds.offB {S : List Nat} {w w' : World} {blk off : Nat} {d : Array Int} (hH : Holds encU w blk off d) (h : Off S w w') (hS : blk ∉ S) : Holds encU w' blk off d := fun t ht =>
  ⟨h.cell (hH t ht).1 hS, (World.frozen?_of_block (h.block _ (World.block_lt_of_cell? w _ (hH t ht).1) hS)).trans (hH t ht).2⟩
set_option maxRecDepth 100000 in
set_option maxHeartbeats 3200000 in
theorem order2_any (blk off cap a b S : Nat) (d : Array Int) (w : World) (hH : Holds encU w blk off d) (ha : a < d.size) (hb : b < d.size) (hS : OV w S) :
    Calls Tryz.prog 143 #[.slice (some ⟨blk, off, none⟩) d.size cap, .int .i64 a, .int .i64 b, .pointer (some ⟨S, 0, none⟩)] w fun e w' =>
      ∃ p q : Nat, e = .returned (.tuple #[.int .i64 p, .int .i64 q]) ∧ ((p = a ∧ q = b) ∨ (p = b ∧ q = a)) ∧ OV w' S ∧ Off [S] w w' := by
  obtain ⟨x, hx⟩ : ∃ x, x = d[b]! := ⟨_, rfl⟩
  obtain ⟨y, hy⟩ : ∃ y, y = d[a]! := ⟨_, rfl⟩
  have q1 := Hq hH hb hx
  have q2 := Hq hH ha hy
  obtain ⟨p, hp⟩ : ∃ p, p = ltInt x y := ⟨_, rfl⟩
  have HL := Lib.hid (lessQ hp)
  have HS := Lib.hid hS
  have inst : Nonempty (Wd (Bw w)) := ⟨⟨w, Below.refl _ _⟩⟩
  clear hx hy hp hH hS
  go_enter Tryz.func143, Tryz.ntmps143
  go_upto_region 1 with fail
  refine wp_region_wd (Bw w) (by kernel_rfl) (by kernel_rfl) ((Below.refl _ w).drew) ?_
  repeat (first | go_big_quiet_step (first | (go_at_call 98; with_reducible exact calls_wd (fun _ _ h hb => h.keep hb) _ (HL.out _))) | quiet_step (first | (go_at_call 98; with_reducible exact calls_wd (fun _ _ h hb => h.keep hb) _ (HL.out _))))
  refine wpQuiet_nil ?_
  rintro _ ⟨s, rfl⟩
  obtain ⟨n, hn⟩ := HS.out
  have hn1 : s.w.heap[S]? = some (.cells #[.int .i64 n] 3 (0, 0)) := (s.h.block S (lt_of_block hn)).trans hn
  have HO := Lib.hid (Off.of (S := [S]) s.h (Nat.le_refl _))
  generalize s.w = w1 at *
  clear s q1 q2 inst
  cases p
  · go_wp2
    go_ret2
    exact ⟨a, b, rfl, .inl ⟨rfl, rfl⟩, ⟨n, hn1⟩, HO.out⟩
  · have c := cell_of_one hn1
    have f := free_of_one hn1
    have HN := Lib.hid hn1
    obtain ⟨m, hm⟩ : ∃ m, m = IntKind.i64.wrap (n + 1) := ⟨_, rfl⟩
    have hm' : IntKind.i64.wrap (n + 1) = m := hm.symm
    clear hm hn1
    go_wp2
    go_ret2
    exact ⟨b, a, rfl, .inr ⟨rfl, rfl⟩, ⟨_, one_setCell HN.out⟩, HO.out.set _ _ (.inl (by simp))⟩
set_option maxRecDepth 100000 in
set_option maxHeartbeats 3200000 in
theorem median_any (blk off cap a b c S : Nat) (d : Array Int) (w : World) (hH : Holds encU w blk off d) (ha : a < d.size) (hb : b < d.size) (hc : c < d.size) (hS : OV w S) (hne : blk ≠ S) :
    Calls Tryz.prog 125 #[.slice (some ⟨blk, off, none⟩) d.size cap, .int .i64 a, .int .i64 b, .int .i64 c, .pointer (some ⟨S, 0, none⟩)] w fun e w' =>
      ∃ p : Nat, e = .returned (.int .i64 p) ∧ (p = a ∨ p = b ∨ p = c) ∧ OV w' S ∧ Off [S] w w' := by
  have HC := Lib.hid (fun X u v (h : Holds encU X blk off d) hu hv (hS : OV X S) => order2_any blk off cap u v S d X h hu hv hS)
  have HH := Lib.hid hH
  have HS := Lib.hid hS
  have hn : blk ∉ [S] := by simpa using hne
  clear hH hS
  go_enter Tryz.func125, Tryz.ntmps125
  go_wp2_with (first
    | (go_at_call 143; (with_reducible refine (HC.out w a b HH.out ha hb HS.out).mono ?_); rintro e w1 ⟨p1, q1, rfl, h1, hS1, hO1⟩; have H1 := Lib.hid h1; have hp1 : p1 < d.size ∧ q1 < d.size := (by omega); have HS1 := Lib.hid hS1; have HO1 := Lib.hid hO1; have HH1 := Lib.hid (Holds.offB HH.out hO1 hn); clear h1 hS1 hO1)
    | (go_at_call 143; (with_reducible refine (HC.out w1 q1 c HH1.out hp1.2 hc HS1.out).mono ?_); rintro e w2 ⟨p2, q2, rfl, h2, hS2, hO2⟩; have H2 := Lib.hid h2; have hp2 : p2 < d.size ∧ q2 < d.size := (by omega); have HS2 := Lib.hid hS2; have HO2 := Lib.hid (HO1.out.trans hO2); have HH2 := Lib.hid (Holds.offB HH1.out hO2 hn); clear h2 hS2 hO2)
    | (go_at_call 143; (with_reducible refine (HC.out w2 p1 p2 HH2.out hp1.1 hp2.1 HS2.out).mono ?_); rintro e w3 ⟨p3, q3, rfl, h3, hS3, hO3⟩; have H3 := Lib.hid h3; have HS3 := Lib.hid hS3; have HO3 := Lib.hid (HO2.out.trans hO3); clear h3 hS3 hO3))
  go_ret
  refine ⟨q3, rfl, ?_, HS3.out, HO3.out⟩
  have := H1.out
  have := H2.out
  have := H3.out
  omega
set_option maxRecDepth 100000 in
set_option maxHeartbeats 3200000 in
theorem medadj_any (blk off cap a S : Nat) (d : Array Int) (w : World) (hH : Holds encU w blk off d) (ha : a + 1 < d.size) (ha1 : 1 ≤ a) (hsz : d.size ≤ 100000) (hS : OV w S) (hne : blk ≠ S) :
    Calls Tryz.prog 124 #[.slice (some ⟨blk, off, none⟩) d.size cap, .int .i64 a, .pointer (some ⟨S, 0, none⟩)] w fun e w' =>
      ∃ p : Nat, e = .returned (.int .i64 p) ∧ (p + 1 = a ∨ p = a ∨ p = a + 1) ∧ OV w' S ∧ Off [S] w w' := by
  have C := median_any blk off cap (a - 1) a (a + 1) S d w hH (by omega) (by omega) ha hS hne
  have z1 : ((a - 1 : Nat) : Int) = (a : Int) - 1 := by omega
  have z2 : ((a + 1 : Nat) : Int) = (a : Int) + 1 := by omega
  rw [z1, z2] at C
  have HC := Lib.hid C
  clear C z1 z2 hH hS
  go_enter Tryz.func124, Tryz.ntmps124
  go_wp2_with (go_at_call 125; (with_reducible refine HC.out.mono ?_); rintro e w1 ⟨p, rfl, h1, hS1, hO1⟩)
  go_ret
  exact ⟨p, rfl, by omega, hS1, hO1⟩
set_option maxRecDepth 100000 in
set_option maxHeartbeats 6400000 in
theorem choose_any (blk off cap a b : Nat) (d : Array Int) (w : World) (hH : Holds encU w blk off d) (hb : b ≤ d.size) (hab : a + 13 ≤ b) (hsz : d.size ≤ 100000) :
    Calls Tryz.prog 95 #[.slice (some ⟨blk, off, none⟩) d.size cap, .int .i64 a, .int .i64 b] w fun e w' =>
      ∃ (p : Nat) (h : Int), e = .returned (.tuple #[.int .i64 p, .int .i64 h]) ∧ (a ≤ p ∧ p < b) ∧ (h = 0 ∨ h = 1 ∨ h = 2) ∧ Below w.heap.size w w' := by
  have hlt := World.block_lt_of_cell? w _ (hH a (by omega)).1
  have hne : blk ≠ w.heap.size := by simp at hlt; omega
  have hn : blk ∉ [w.heap.size] := by simpa using hne
  obtain ⟨W, hW⟩ : ∃ W, W = w.alloc (.cells #[.int .i64 0] 3) := ⟨_, rfl⟩
  have hS0 : OV W w.heap.size := by subst hW; exact ⟨0, heap_alloc_new w _⟩
  have hB0 : Below w.heap.size w W := by subst hW; exact (Below.refl _ w).alloc (Nat.le_refl _) _
  have hWs : w.heap.size < W.heap.size := by subst hW; simp
  have hH0 := Holds.keepB hH hB0
  have HC := Lib.hid (fun X u v t (h : Holds encU X blk off d) hu hv ht (hS : OV X w.heap.size) => median_any blk off cap u v t w.heap.size d X h hu hv ht hS hne)
  have HA := Lib.hid (fun X u (h : Holds encU X blk off d) hu hu1 (hS : OV X w.heap.size) => medadj_any blk off cap u w.heap.size d X h hu hu1 hsz hS hne)
  have HH0 := Lib.hid hH0
  have HS0 := Lib.hid hS0
  have HB0 := Lib.hid hB0
  obtain ⟨l, hl⟩ : ∃ n : Nat, n = b - a := ⟨_, rfl⟩
  obtain ⟨q, hq⟩ : ∃ n : Nat, n = l / 4 := ⟨_, rfl⟩
  obtain ⟨i, hi⟩ : ∃ n : Nat, n = a + q := ⟨_, rfl⟩
  obtain ⟨j, hj⟩ : ∃ n : Nat, n = a + q * 2 := ⟨_, rfl⟩
  obtain ⟨k, hk⟩ : ∃ n : Nat, n = a + q * 3 := ⟨_, rfl⟩
  have zl : (b : Int) - a = (l : Int) := by omega
  have zq : (l : Int).tdiv 4 = (q : Int) := by rw [hq]; rfl
  have zq2 : (l : Int) / 4 = (q : Int) := by omega
  have zi : (a : Int) + q = (i : Int) := by omega
  have zj : (a : Int) + (q : Int) * 2 = (j : Int) := by omega
  have zk : (a : Int) + (q : Int) * 3 = (k : Int) := by omega
  have hl8 : (8 : Int) ≤ l := by omega
  have hlb : l ≤ 100000 := by omega
  have hqb : q ≤ 100000 := by omega
  have hij : i < d.size ∧ j < d.size ∧ k < d.size := by omega
  have HF := Lib.hid (show l = b - a ∧ q = l / 4 ∧ i = a + q ∧ j = a + q * 2 ∧ k = a + q * 3 from ⟨hl, hq, hi, hj, hk⟩)
  clear hl hq hi hj hk hH0 hS0 hB0 hH hlt
  have fin : ∀ (X : World) (p : Nat), OV X w.heap.size → Off [w.heap.size] W X → a ≤ p ∧ p < b → ∃ n : Int, X.cell? ⟨w.heap.size, 0, none⟩ = some (.int .i64 n) ∧ Below w.heap.size w X := by
    rintro X p ⟨n, hn⟩ hO -
    exact ⟨n, cell_of_one hn, HB0.out.trans (hO.below (by omega) (by simp))⟩
  have FIN := Lib.hid fin
  clear fin
  go_enter Tryz.func95, Tryz.ntmps95
  go_upto_region 3 with fail
  rw [← hW]
  have HW := Lib.hid hW
  clear hW
  by_cases h50 : 50 ≤ l
  · have h50z : (50 : Int) ≤ l := by omega
    have hb1 : 1 ≤ i ∧ 1 ≤ j ∧ 1 ≤ k ∧ i + 1 < d.size ∧ j + 1 < d.size ∧ k + 1 < d.size := by have := HF.out; omega
    go_upto_region 12 with (first
      | (go_at_call 124; (with_reducible refine (HA.out W i HH0.out hb1.2.2.2.1 hb1.1 HS0.out).mono ?_); rintro e w1 ⟨p1, rfl, h1, hS1, hO1⟩; have H1 := Lib.hid h1; have g1 : p1 < d.size := (by omega); have HS1 := Lib.hid hS1; have HO1 := Lib.hid hO1; have HH1 := Lib.hid (Holds.offB HH0.out hO1 hn); clear h1 hS1 hO1)
      | (go_at_call 124; (with_reducible refine (HA.out w1 j HH1.out hb1.2.2.2.2.1 hb1.2.1 HS1.out).mono ?_); rintro e w2 ⟨p2, rfl, h2, hS2, hO2⟩; have H2 := Lib.hid h2; have g2 : p2 < d.size := (by omega); have HS2 := Lib.hid hS2; have HO2 := Lib.hid (HO1.out.trans hO2); have HH2 := Lib.hid (Holds.offB HH1.out hO2 hn); clear h2 hS2 hO2)
      | (go_at_call 124; (with_reducible refine (HA.out w2 k HH2.out hb1.2.2.2.2.2 hb1.2.2.1 HS2.out).mono ?_); rintro e w3 ⟨p3, rfl, h3, hS3, hO3⟩; have H3 := Lib.hid h3; have g3 : p3 < d.size := (by omega); have HS3 := Lib.hid hS3; have HO3 := Lib.hid (HO2.out.trans hO3); have HH3 := Lib.hid (Holds.offB HH2.out hO3 hn); clear h3 hS3 hO3)
      | (go_at_call 125; (with_reducible refine (HC.out w3 p1 p2 p3 HH3.out g1 g2 g3 HS3.out).mono ?_); rintro e w4 ⟨p4, rfl, h4, hS4, hO4⟩; have H4 := Lib.hid h4; have HS4 := Lib.hid hS4; have HO4 := Lib.hid (HO3.out.trans hO4); clear h4 hS4 hO4))
    have hp : a ≤ p4 ∧ p4 < b := by
      have := H1.out
      have := H2.out
      have := H3.out
      have := H4.out
      have := HF.out
      omega
    obtain ⟨n, hcell, hbel⟩ := FIN.out w4 p4 HS4.out HO4.out hp
    have HBEL := Lib.hid hbel
    have HP := Lib.hid hp
    clear hbel hp
    by_cases n0 : n = 0
    · subst n0
      go_wp2
      go_ret2
      exact ⟨p4, _, rfl, HP.out, .inr (.inl rfl), HBEL.out⟩
    · by_cases n12 : n = 12
      · subst n12
        go_wp2
        go_ret2
        exact ⟨p4, _, rfl, HP.out, .inr (.inr rfl), HBEL.out⟩
      · go_wp2
        go_ret2
        exact ⟨p4, _, rfl, HP.out, .inl rfl, HBEL.out⟩
  · have h50z : ¬ (50 : Int) ≤ l := by omega
    go_upto_region 12 with (first
      | (go_at_call 125; (with_reducible refine (HC.out W i j k HH0.out hij.1 hij.2.1 hij.2.2 HS0.out).mono ?_); rintro e w4 ⟨p4, rfl, h4, hS4, hO4⟩; have H4 := Lib.hid h4; have HS4 := Lib.hid hS4; have HO4 := Lib.hid hO4; clear h4 hS4 hO4))
    have hp : a ≤ p4 ∧ p4 < b := by
      have := H4.out
      have := HF.out
      omega
    obtain ⟨n, hcell, hbel⟩ := FIN.out w4 p4 HS4.out HO4.out hp
    have HBEL := Lib.hid hbel
    have HP := Lib.hid hp
    clear hbel hp
    by_cases n0 : n = 0
    · subst n0
      go_wp2
      go_ret2
      exact ⟨p4, _, rfl, HP.out, .inr (.inl rfl), HBEL.out⟩
    · by_cases n12 : n = 12
      · subst n12
        go_wp2
        go_ret2
        exact ⟨p4, _, rfl, HP.out, .inr (.inr rfl), HBEL.out⟩
      · go_wp2
        go_ret2
        exact ⟨p4, _, rfl, HP.out, .inl rfl, HBEL.out⟩
set_option maxRecDepth 100000 in
set_option maxHeartbeats 3200000 in
theorem reverse_any (blk off cap a b : Nat) (d : Array Int) (w : World) (hH : Holds encU w blk off d) (hab : a < b) (hb : b ≤ d.size) (hsz : d.size ≤ 100000) :
    Calls Tryz.prog 96 #[.slice (some ⟨blk, off, none⟩) d.size cap, .int .i64 a, .int .i64 b] w fun e w' =>
      e = .returned (.tuple #[]) ∧ Holds encU w' blk off (reverseRange d a b) ∧ Off [blk] w w' := by
  have HH := Lib.hid hH
  clear hH
  obtain ⟨j0, hj0⟩ : ∃ n : Nat, n = b - 1 := ⟨_, rfl⟩
  have zj0 : (b : Int) - 1 = (j0 : Int) := by omega
  have HJ0 := Lib.hid hj0
  have hj1 : j0 < d.size := by omega
  clear hj0
  go_enter Tryz.func96, Tryz.ntmps96
  go_wp2
  go_loopw [6, 7] (fun vi vj wr => ∃ (i j : Nat) (dk : Array Int), vi = .int .i64 i ∧ vj = .int .i64 j ∧ i ≤ j + 1 ∧ j < d.size ∧ dk.size = d.size ∧ Hid (Holds encU wr blk off dk) ∧ Hid (Off [blk] w wr) ∧ Hid (reverseLoop i j dk = reverseLoop a j0 d)) (fun vi vj _ => (intOf vj + 1 - intOf vi).toNat)
  case atStart => exact ⟨a, j0, d, rfl, rfl, by have := HJ0.out; omega, hj1, rfl, HH, Lib.hid (Off.refl _ _), Lib.hid rfl⟩
  case round =>
    obtain ⟨i, j, dk, rfl, rfl, hij, hjd, hsk, HHk, HOk, HI⟩ := hrel
    by_cases hlt : i < j
    · have hltz : (i : Int) < j := by omega
      obtain ⟨x, hx⟩ : ∃ x, x = dk[i]! := ⟨_, rfl⟩
      obtain ⟨y, hy⟩ : ∃ y, y = dk[j]! := ⟨_, rfl⟩
      have c1 : wr.cell? ⟨blk, off + i, none⟩ = some (.int .u32 x) := by rw [hx]; exact (HHk.out i (by omega)).1
      have c2 : wr.cell? ⟨blk, off + j, none⟩ = some (.int .u32 y) := by rw [hy]; exact (HHk.out j (by omega)).1
      have f1 := (HHk.out i (by omega)).2
      have f2 := (HHk.out j (by omega)).2
      have hid : i < d.size := by omega
      have hne : ¬ i = j := by omega
      have hne2 : ¬ j = i := by omega
      obtain ⟨hs1, hs2⟩ := swz HHk.out HOk.out (show i < dk.size by omega) (show j < dk.size by omega) hx hy
      have HS1 := Lib.hid hs1
      have HS2 := Lib.hid hs2
      clear hs1 hs2 hx hy
      go_upto_region 3 with fail
      go_region
      all_goals go_wp2
      all_goals go_roundw
      case rel => exact ⟨i + 1, j - 1, swp dk i j, by go_num, by go_num, by omega, by omega, by rw [size_swp]; exact hsk, HS1, Lib.hid HS2.out.drew, Lib.hid (by rw [← HI.out]; conv => rhs; rw [reverseLoop, if_pos hlt])⟩
      case measure => simp [intOf] <;> omega
    · have hltz : ¬ (i : Int) < j := by omega
      go_wp2
      go_end0
      have h1 := HI.out
      rw [reverseLoop, if_neg hlt] at h1
      exact ⟨rfl, by unfold reverseRange; rw [← HJ0.out, ← h1]; exact HHk.out, HOk.out⟩
end Go.Proofs.YtajpboclicnopaaGreat.U32
/-
  Go's own sort stirs a range, at uint32. No condition but those typed at each theorem.
-/
namespace Go.Proofs.YtajpboclicnopaaGreat.U32
open Go.RowKit Go.Sort
theorem Off.viaN {blk : Nat} {w X Y : World} (h : Off [blk] w X) (g : Off [w.heap.size] X Y) : Off [blk] w Y :=
  ⟨g.os.trans h.os, g.tape.trans h.tape, g.output.trans h.output, Nat.le_trans h.size g.size, fun k hk hS => (g.block k (Nat.lt_of_lt_of_le hk h.size) (fun e => by simp at e; omega)).trans (h.block k hk hS)⟩
theorem Holds.offN {w X Y : World} {blk off : Nat} {d : Array Int} (hH : Holds encU X blk off d) (h : Off [w.heap.size] X Y) (hne : w.heap.size ≠ blk) : Holds encU Y blk off d := Holds.offB hH h (by simpa using Ne.symm hne)
/-- a variable of one number of 64 bits -/
def XV (w : World) (S : Nat) : Prop := ∃ n : Int, w.heap[S]? = some (.cells #[.int .u64 n] 203 (0, 0))
theorem XV.swap {X : World} {S blk : Nat} (h : XV X S) (hne : S ≠ blk) (p q : Nat) (u v : Value) : XV ((X.setCell ⟨blk, p, none⟩ u).setCell ⟨blk, q, none⟩ v).drew S := by
  obtain ⟨n, hn⟩ := h
  exact ⟨n, ((Below.heap_setCell _ _ _ _ hne).trans (Below.heap_setCell _ _ _ _ hne)).trans hn⟩
set_option maxRecDepth 100000 in
set_option maxHeartbeats 3200000 in
theorem next_any' (S : Nat) (w : World) (hS : XV w S) :
    Calls Tryz.prog 123 #[.pointer (some ⟨S, 0, none⟩)] w fun e w' => ∃ x : Int, e = .returned (.int .u64 x) ∧ XV w' S ∧ Off [S] w w' := by
  obtain ⟨n, hn⟩ := hS
  have c := cell_of_one hn
  have f := free_of_one hn
  have HN := Lib.hid hn
  clear hn
  have HN0 := HN
  have HO0 := Lib.hid (Off.refl [S] w)
  have c0 := c
  have f0 := f
  clear c f HN
  go_enter Tryz.func123, Tryz.ntmps123
  go_upto_region 1 with fail
  go_region
  have HN1 := Lib.hid (show ((w.setCell ⟨S, 0, none⟩ (.int .u64 (bits .xor .u64 n (IntKind.u64.wrap (n * 8192))))).drew).heap[S]? = some (.cells #[.int .u64 (bits .xor .u64 n (IntKind.u64.wrap (n * 8192)))] 203 (0, 0)) from one_setCell HN0.out)
  have HO1 := Lib.hid ((HO0.out.set ⟨S, 0, none⟩ (.int .u64 (bits .xor .u64 n (IntKind.u64.wrap (n * 8192)))) (.inl (by simp))).drew)
  have c1 := cell_of_one HN1.out
  have f1 := free_of_one HN1.out
  clear c0 f0
  generalize (w.setCell ⟨S, 0, none⟩ (.int .u64 (bits .xor .u64 n (IntKind.u64.wrap (n * 8192))))).drew = w1 at *
  generalize bits .xor .u64 n (IntKind.u64.wrap (n * 8192)) = n1 at *
  go_upto_region 2 with fail
  go_region
  have HN2 := Lib.hid (show ((w1.setCell ⟨S, 0, none⟩ (.int .u64 (bits .xor .u64 n1 (n1 / 128)))).drew).heap[S]? = some (.cells #[.int .u64 (bits .xor .u64 n1 (n1 / 128))] 203 (0, 0)) from one_setCell HN1.out)
  have HO2 := Lib.hid ((HO1.out.set ⟨S, 0, none⟩ (.int .u64 (bits .xor .u64 n1 (n1 / 128))) (.inl (by simp))).drew)
  have c2 := cell_of_one HN2.out
  have f2 := free_of_one HN2.out
  clear c1 f1
  generalize (w1.setCell ⟨S, 0, none⟩ (.int .u64 (bits .xor .u64 n1 (n1 / 128)))).drew = w2 at *
  generalize bits .xor .u64 n1 (n1 / 128) = n2 at *
  go_upto_region 3 with fail
  go_region
  have HN3 := Lib.hid (show ((w2.setCell ⟨S, 0, none⟩ (.int .u64 (bits .xor .u64 n2 (IntKind.u64.wrap (n2 * 131072))))).drew).heap[S]? = some (.cells #[.int .u64 (bits .xor .u64 n2 (IntKind.u64.wrap (n2 * 131072)))] 203 (0, 0)) from one_setCell HN2.out)
  have HO3 := Lib.hid ((HO2.out.set ⟨S, 0, none⟩ (.int .u64 (bits .xor .u64 n2 (IntKind.u64.wrap (n2 * 131072)))) (.inl (by simp))).drew)
  have c3 := cell_of_one HN3.out
  have f3 := free_of_one HN3.out
  clear c2 f2
  generalize (w2.setCell ⟨S, 0, none⟩ (.int .u64 (bits .xor .u64 n2 (IntKind.u64.wrap (n2 * 131072))))).drew = w3 at *
  generalize bits .xor .u64 n2 (IntKind.u64.wrap (n2 * 131072)) = n3 at *
  go_wp2
  go_ret
  exact ⟨n3, rfl, ⟨n3, HN3.out⟩, HO3.out⟩
theorem bl_le : ∀ (f x : Nat), 0 < x → 2 ^ Lib.bitLenAux f x ≤ 2 * x
  | 0, x, h => by simp [Lib.bitLenAux]; omega
  | f + 1, x, h => by
    rw [Lib.bitLenAux, if_neg (by omega)]
    by_cases h1 : x / 2 = 0
    · rw [h1, show Lib.bitLenAux f 0 = 0 by cases f <;> simp [Lib.bitLenAux]]
      simp
      omega
    · have := bl_le f (x / 2) (by omega)
      rw [Nat.pow_add]
      omega
set_option maxRecDepth 100000 in
theorem pow2_any (n : Nat) (w : World) (hn : n ≤ 100000) (h0 : 0 < n) : Calls Tryz.prog 122 #[.int .i64 n] w fun e w' => (∃ m : Nat, 1 ≤ m ∧ m ≤ 2 * n ∧ e = .returned (.int .u64 m)) ∧ w' = w := by
  have hL := Tryz.bits_Len n w (by omega) (by omega)
  have hb := bl_le 64 n h0
  have hb2 : Lib.bitLen n ≤ 17 := by
    rcases Nat.lt_or_ge 17 (Lib.bitLen n) with h | h
    · have := Nat.pow_le_pow_right (show 0 < 2 by decide) (show 18 ≤ Lib.bitLen n by omega)
      have : 2 ^ Lib.bitLen n ≤ 2 * n := hb
      omega
    · exact h
  have hpos : 0 < 2 ^ Lib.bitLen n := Nat.pow_pos (by decide)
  have hb' : 2 ^ Lib.bitLen n ≤ 2 * n := hb
  have HL := Lib.hid hL
  clear hL hb
  go_enter Tryz.func122, Tryz.ntmps122
  go_wp2_with (go_at_call 32; (with_reducible refine HL.out.mono ?_); rintro e w1 ⟨rfl, rfl⟩)
  go_ret
  refine ⟨⟨2 ^ Lib.bitLen n, hpos, hb', ?_⟩, rfl⟩
  have hp : ((2 : Int) ^ Lib.bitLen n) = ((2 ^ Lib.bitLen n : Nat) : Int) := by simp
  show Ending.returned (.int .u64 (IntKind.u64.wrap (2 ^ Lib.bitLen n))) = _
  rw [IntKind.wrap_u64, hp]
  congr 2
  omega
theorem and_le (a : Int) (m : Nat) (hm : m < 18446744073709551616) : ∃ r : Nat, bits .and .u64 a (m : Int) = (r : Int) ∧ r ≤ m := by
  refine ⟨((BitVec.ofInt 64 a).toNat &&& m), ?_, Nat.and_le_right⟩
  show IntKind.u64.wrap ((BitVec.ofInt 64 a &&& BitVec.ofInt 64 (m : Int)).toNat : Int) = _
  have hx : (BitVec.ofInt 64 a).toNat &&& m < 2 ^ 64 := Nat.and_lt_two_pow _ (by omega)
  rw [BitVec.toNat_and, ofInt_u64 m hm, IntKind.wrap_u64]
  omega
set_option maxRecDepth 100000 in
set_option maxHeartbeats 12800000 in
theorem break_any (blk off cap a b : Nat) (d : Array Int) (w : World) (hH : Holds encU w blk off d) (hb : b ≤ d.size) (hab : a + 13 ≤ b) (hsz : d.size ≤ 100000) :
    Calls Tryz.prog 94 #[.slice (some ⟨blk, off, none⟩) d.size cap, .int .i64 a, .int .i64 b] w fun e w' =>
      e = .returned (.tuple #[]) ∧ ∃ d' : Array Int, d'.size = d.size ∧ Holds encU w' blk off d' ∧ Off [blk] w w' ∧ PermIn a b d d' := by
  have hlt := World.block_lt_of_cell? w _ (hH a (by omega)).1
  have hne : w.heap.size ≠ blk := by simp at hlt; omega
  obtain ⟨l, hl⟩ : ∃ n : Nat, n = b - a := ⟨_, rfl⟩
  obtain ⟨q, hq⟩ : ∃ n : Nat, n = l / 4 := ⟨_, rfl⟩
  obtain ⟨lo, hlo⟩ : ∃ n : Nat, n = a + q * 2 - 1 := ⟨_, rfl⟩
  obtain ⟨hi, hhi⟩ : ∃ n : Nat, n = a + q * 2 + 1 := ⟨_, rfl⟩
  have zl : (b : Int) - a = (l : Int) := by omega
  have zq : (l : Int).tdiv 4 = (q : Int) := by rw [hq]; rfl
  have zq2 : (l : Int) / 4 = (q : Int) := by omega
  have zlo : (a : Int) + (q : Int) * 2 - 1 = (lo : Int) := by omega
  have zhi : (a : Int) + (q : Int) * 2 + 1 = (hi : Int) := by omega
  have hl8 : (8 : Int) ≤ l := by omega
  have hlb : l ≤ 100000 := by omega
  have hqb : q ≤ 100000 := by omega
  have HFF := Lib.hid (show a + 5 ≤ lo ∧ lo + 2 = hi ∧ hi < b ∧ a + l = b by omega)
  have hhb : hi ≤ 100000 := by omega
  obtain ⟨W, hW⟩ : ∃ W, W = w.alloc (.cells #[.int .u64 l] 203) := ⟨_, rfl⟩
  have hX0 : XV W w.heap.size := by subst hW; exact ⟨_, heap_alloc_new w _⟩
  have hO0 : Off [blk] w W := by subst hW; exact (Off.refl _ w).all _
  have hH0 : Holds encU W blk off d := Holds.keepB hH (by subst hW; exact (Below.refl _ w).alloc (Nat.le_refl _) _)
  have HP2 := Lib.hid (pow2_any l W (by omega) (by omega))
  have HX0 := Lib.hid hX0
  have HO0 := Lib.hid hO0
  have HH0 := Lib.hid hH0
  clear hl hq hlo hhi hX0 hO0 hH0 hH hlt
  go_enter Tryz.func94, Tryz.ntmps94
  go_upto_region 3 with fail
  rw [← hW]
  have HW := Lib.hid hW
  clear hW
  go_wp2_with (go_at_call 122; (with_reducible refine HP2.out.mono ?_); rintro e w1 ⟨⟨m, hm1, hm2, rfl⟩, rfl⟩)
  obtain ⟨m1, hm⟩ : ∃ n : Nat, n = m - 1 := ⟨_, rfl⟩
  have zm : (m : Int) - 1 = (m1 : Int) := by omega
  have hm3 : m1 < 2 * l := by omega
  have HM := Lib.hid hm
  clear hm HP2
  go_loopw [9] (fun v wr => ∃ (j : Nat) (dk : Array Int), v = .int .i64 j ∧ lo ≤ j ∧ j ≤ hi + 1 ∧ dk.size = d.size ∧ Hid (Holds encU wr blk off dk) ∧ Hid (Off [blk] w wr) ∧ Hid (PermIn a b d dk) ∧ Hid (XV wr w.heap.size)) (fun v _ => (hi + 1 - intOf v).toNat)
  case atStart => exact ⟨lo, d, rfl, Nat.le_refl _, by have := HFF.out; omega, rfl, HH0, HO0, Lib.hid (permIn_refl _ _ _), HX0⟩
  case round =>
    clear HH0 HO0 HX0
    obtain ⟨j, dk, rfl, hj1, hj2, hsk, HHk, HOk, HP, HX⟩ := hrel
    by_cases hle : j ≤ hi
    · have hlez : (j : Int) ≤ hi := by omega
      have HC := Lib.hid (next_any' w.heap.size wr HX.out)
      have hand := Lib.hid (fun rx => and_le rx m1 (by omega))
      go_upto_region 8 with (go_at_call 123; (with_reducible refine HC.out.mono ?_); rintro e w2 ⟨rx, rfl, hX2, hO2⟩; obtain ⟨r, hr, hrm⟩ := hand.out rx; have HX2 := Lib.hid hX2; have HH2 := Lib.hid (Holds.offN HHk.out hO2 hne); have HO2 := Lib.hid (Off.viaN HOk.out hO2); clear hX2 hO2)
      by_cases hrl : r < l
      · have hrz : (r : Int) < l := by omega
        obtain ⟨o, ho⟩ : ∃ n : Nat, n = r := ⟨_, rfl⟩
        subst ho
        have hol : o < l := hrl
        clear hrl
        obtain ⟨ao, hao⟩ : ∃ n : Nat, n = a + o := ⟨_, rfl⟩
        have zao : (a : Int) + o = (ao : Int) := by omega
        obtain ⟨x, hx⟩ : ∃ x, x = dk[j]! := ⟨_, rfl⟩
        obtain ⟨y, hy⟩ : ∃ y, y = dk[ao]! := ⟨_, rfl⟩
        have hjd : j < d.size := by have := HFF.out; omega
        have hod : ao < d.size := by have := HFF.out; omega
        have c1 : w2.cell? ⟨blk, off + j, none⟩ = some (.int .u32 x) := by rw [hx]; exact (HH2.out j (by omega)).1
        have c2 : w2.cell? ⟨blk, off + ao, none⟩ = some (.int .u32 y) := by rw [hy]; exact (HH2.out ao (by omega)).1
        have f1 := (HH2.out j (by omega)).2
        have f2 := (HH2.out ao (by omega)).2
        obtain ⟨hs1, hs2⟩ := swz HH2.out HO2.out (show j < dk.size by omega) (show ao < dk.size by omega) hx hy
        have HS1 := Lib.hid hs1
        have HS2 := Lib.hid hs2
        have HAO := Lib.hid (show ao = a + o ∧ o < l from ⟨hao, hol⟩)
        have HXX := Lib.hid hx
        have HYY := Lib.hid hy
        clear hs1 hs2 hx hy hao hol
        by_cases hjo : j = ao
        · have hxy : x = y := by rw [HXX.out, HYY.out, hjo]
          subst hjo hxy
          go_upto_region 10 with fail
          have yao : IntKind.i64.wrap ((a : Int) + o) = (j : Int) := by rw [IntWalk.i64_in _ (by omega)]; exact zao
          go_region
          all_goals clear yao
          all_goals go_wp2
          all_goals go_roundw
          case rel => exact ⟨j + 1, swp dk j j, by go_num, by omega, by omega, by rw [size_swp]; exact hsk, HS1, Lib.hid HS2.out.drew, Lib.hid (permIn_trans _ _ _ _ _ HP.out (swp_permIn _ _ _ _ _ (by have := HFF.out; omega) (by have := HFF.out; omega) (by have := HFF.out; have := HAO.out; omega) (by have := HFF.out; have := HAO.out; omega) (by omega))), Lib.hid (XV.swap HX2.out hne _ _ _ _)⟩
          case measure => simp [intOf] <;> omega
        · have hjo2 : ¬ ao = j := fun e => hjo e.symm
          go_upto_region 10 with fail
          have yao : IntKind.i64.wrap ((a : Int) + o) = (ao : Int) := by rw [IntWalk.i64_in _ (by omega)]; exact zao
          go_region
          all_goals clear yao
          all_goals go_wp2
          all_goals go_roundw
          case rel => exact ⟨j + 1, swp dk j ao, by go_num, by omega, by omega, by rw [size_swp]; exact hsk, HS1, Lib.hid HS2.out.drew, Lib.hid (permIn_trans _ _ _ _ _ HP.out (swp_permIn _ _ _ _ _ (by have := HFF.out; omega) (by have := HFF.out; omega) (by have := HFF.out; have := HAO.out; omega) (by have := HFF.out; have := HAO.out; omega) (by omega))), Lib.hid (XV.swap HX2.out hne _ _ _ _)⟩
          case measure => simp [intOf] <;> omega
      · have hrz : ¬ (r : Int) < l := by omega
        obtain ⟨o, ho⟩ : ∃ n : Nat, n = r - l := ⟨_, rfl⟩
        have zo : (r : Int) - l = (o : Int) := by omega
        have hol : o < l := by omega
        clear ho hrl
        obtain ⟨ao, hao⟩ : ∃ n : Nat, n = a + o := ⟨_, rfl⟩
        have zao : (a : Int) + o = (ao : Int) := by omega
        obtain ⟨x, hx⟩ : ∃ x, x = dk[j]! := ⟨_, rfl⟩
        obtain ⟨y, hy⟩ : ∃ y, y = dk[ao]! := ⟨_, rfl⟩
        have hjd : j < d.size := by have := HFF.out; omega
        have hod : ao < d.size := by have := HFF.out; omega
        have c1 : w2.cell? ⟨blk, off + j, none⟩ = some (.int .u32 x) := by rw [hx]; exact (HH2.out j (by omega)).1
        have c2 : w2.cell? ⟨blk, off + ao, none⟩ = some (.int .u32 y) := by rw [hy]; exact (HH2.out ao (by omega)).1
        have f1 := (HH2.out j (by omega)).2
        have f2 := (HH2.out ao (by omega)).2
        obtain ⟨hs1, hs2⟩ := swz HH2.out HO2.out (show j < dk.size by omega) (show ao < dk.size by omega) hx hy
        have HS1 := Lib.hid hs1
        have HS2 := Lib.hid hs2
        have HAO := Lib.hid (show ao = a + o ∧ o < l from ⟨hao, hol⟩)
        have HXX := Lib.hid hx
        have HYY := Lib.hid hy
        clear hs1 hs2 hx hy hao hol
        by_cases hjo : j = ao
        · have hxy : x = y := by rw [HXX.out, HYY.out, hjo]
          subst hjo hxy
          go_upto_region 10 with fail
          have yao : IntKind.i64.wrap ((a : Int) + o) = (j : Int) := by rw [IntWalk.i64_in _ (by omega)]; exact zao
          go_region
          all_goals clear yao
          all_goals go_wp2
          all_goals go_roundw
          case rel => exact ⟨j + 1, swp dk j j, by go_num, by omega, by omega, by rw [size_swp]; exact hsk, HS1, Lib.hid HS2.out.drew, Lib.hid (permIn_trans _ _ _ _ _ HP.out (swp_permIn _ _ _ _ _ (by have := HFF.out; omega) (by have := HFF.out; omega) (by have := HFF.out; have := HAO.out; omega) (by have := HFF.out; have := HAO.out; omega) (by omega))), Lib.hid (XV.swap HX2.out hne _ _ _ _)⟩
          case measure => simp [intOf] <;> omega
        · have hjo2 : ¬ ao = j := fun e => hjo e.symm
          go_upto_region 10 with fail
          have yao : IntKind.i64.wrap ((a : Int) + o) = (ao : Int) := by rw [IntWalk.i64_in _ (by omega)]; exact zao
          go_region
          all_goals clear yao
          all_goals go_wp2
          all_goals go_roundw
          case rel => exact ⟨j + 1, swp dk j ao, by go_num, by omega, by omega, by rw [size_swp]; exact hsk, HS1, Lib.hid HS2.out.drew, Lib.hid (permIn_trans _ _ _ _ _ HP.out (swp_permIn _ _ _ _ _ (by have := HFF.out; omega) (by have := HFF.out; omega) (by have := HFF.out; have := HAO.out; omega) (by have := HFF.out; have := HAO.out; omega) (by omega))), Lib.hid (XV.swap HX2.out hne _ _ _ _)⟩
          case measure => simp [intOf] <;> omega
    · have hlez : ¬ (j : Int) ≤ hi := by omega
      go_wp2
      go_end0
      exact ⟨rfl, dk, hsk, HHk.out, HOk.out, HP.out⟩
end Go.Proofs.YtajpboclicnopaaGreat.U32
