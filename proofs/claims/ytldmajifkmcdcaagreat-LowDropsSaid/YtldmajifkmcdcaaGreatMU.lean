/-
  Numbers put in order by Go's own insertion sort, at uint32. No condition but those typed at each theorem.
-/
import Derived.Test.YtldmajifkmcdcaaGreatMGen
import Derived.Test.YtldmajifkmcdcaaGreatMLook
import Derived.Sort.WalkA
import Derived.Sort.AssemblyPlain
import Derived.CellFam
import Derived.Sort.LotB
import Derived.Laws.BitsAllLaws
import Derived.Deep.CutBlock
import Derived.Sort.WalkA6
import Derived.Sort.LotD3
namespace Go.Proofs.YtldmajifkmcdcaaGreat.U32
open Go.RowKit Go.Sort
set_option maxRecDepth 100000 in
theorem nan_any (x : Int) (w : World) : Calls Tryz.prog 110 #[.int .u32 x] w fun e w' => e = .returned (.bool false) ∧ w' = w := by
  go_enter Tryz.func110, Tryz.ntmps110
  go_wp2
  go_ret
  exact ⟨by simp, rfl⟩
set_option maxRecDepth 100000 in
theorem less_any (x y : Int) (w : World) : Calls Tryz.prog 85 #[.int .u32 x, .int .u32 y] w fun e w' => e = .returned (.bool (ltInt x y)) ∧ w' = w := by
  go_enter Tryz.func85, Tryz.ntmps85
  go_wp2_with (go_at_call 110; refine (nan_any _ _).mono ?_; rintro e w' ⟨rfl, rfl⟩)
  all_goals (go_ret; exact ⟨rfl, rfl⟩)
abbrev encU : Int → Value := Value.int .u32
theorem holds_swp {w : World} {blk off : Nat} {d : Array Int} (hH : Holds encU w blk off d) {i j : Nat} (hi : i < d.size) (hj : j < d.size) :
    Holds encU ((w.setCell ⟨blk, off + i, none⟩ (encU d[j]!)).setCell ⟨blk, off + j, none⟩ (encU d[i]!)) blk off (swp d i j) := by
  have h := putRow_swp encU w blk off d i j hi hj
  rw [putRow_self _ _ _ _ _ hH] at h
  rw [h]
  exact holds_putRow _ _ _ _ d _ hH (size_swp _ _ _)
theorem Holds.keepB {w w' : World} {blk off : Nat} {d : Array Int} (hH : Holds encU w blk off d) (hb : Below w.heap.size w w') : Holds encU w' blk off d := fun t ht =>
  have hl := World.block_lt_of_cell? w _ (hH t ht).1
  ⟨(hb.cell hl).trans (hH t ht).1, (hb.frozen hl).trans (hH t ht).2⟩
set_option maxRecDepth 100000 in
set_option maxHeartbeats 3200000 in
theorem ins_any (blk off cap a b : Nat) (d : Array Int) (w : World) (hH : Holds encU w blk off d) (hab : a ≤ b) (hb : b ≤ d.size) (hsz : d.size < 4611686018427387904) :
    Calls Tryz.prog 99 #[.slice (some ⟨blk, off, none⟩) d.size cap, .int .i64 a, .int .i64 b] w fun e w' =>
      e = .returned (.tuple #[]) ∧ Holds encU w' blk off (Sort.insertionSort ltInt d a b) ∧ Off [blk] w w' := by
  have HH := Lib.hid hH
  clear hH
  go_enter Tryz.func99, Tryz.ntmps99
  go_wp2
  go_loopw [6] (fun vi wr => ∃ (i : Nat) (dk : Array Int), vi = .int .i64 i ∧ a < i ∧ i ≤ b + 1 ∧ dk.size = d.size ∧ Hid (Holds encU wr blk off dk) ∧ Hid (Off [blk] w wr) ∧ Hid (insOuter ltInt a b i dk = insOuter ltInt a b (a + 1) d)) (fun vi _ => b + 1 - (intOf vi).toNat)
  case atStart => exact ⟨a + 1, d, by go_num, by omega, by omega, rfl, HH, Lib.hid (Off.refl _ _), Lib.hid rfl⟩
  case round =>
    obtain ⟨i, dk, rfl, hai, hib, hsk, HHk, HOk, HO⟩ := hrel
    by_cases hlt : i < b
    · have hltz : (i : Int) < b := by omega
      go_wp2
      go_loopw [7] (fun vj wr2 => ∃ (j : Nat) (dj : Array Int), vj = .int .i64 j ∧ a ≤ j ∧ j ≤ i ∧ dj.size = d.size ∧ Hid (Holds encU wr2 blk off dj) ∧ Hid (Off [blk] w wr2) ∧ Hid (insInner ltInt a j dj = insInner ltInt a i dk)) (fun vj _ => (intOf vj).toNat)
      case atStart => exact ⟨i, dk, rfl, by omega, Nat.le_refl _, hsk, HHk, HOk, Lib.hid rfl⟩
      case round =>
        clear HHk HOk
        obtain ⟨j, dj, rfl, haj, hji, hsj, HHj, HOj, HI⟩ := hrel
        have inst : Nonempty (Wd (Bw wr)) := ⟨⟨wr, Below.refl _ _⟩⟩
        by_cases hja : a < j
        · have hjz : (a : Int) < j := by omega
          obtain ⟨x, hx⟩ : ∃ x, x = dj[j]! := ⟨_, rfl⟩
          obtain ⟨y, hy⟩ : ∃ y, y = dj[j - 1]! := ⟨_, rfl⟩
          have hj1 : j < dj.size := by omega
          have c1 : ∀ s : Wd (Bw wr), s.w.cell? ⟨blk, off + j, none⟩ = some (.int .u32 x) := fun s => Bw.cell s (by rw [hx]; exact (HHj.out j hj1).1)
          have c2 : ∀ s : Wd (Bw wr), s.w.cell? ⟨blk, off + (j - 1), none⟩ = some (.int .u32 y) := fun s => Bw.cell s (by rw [hy]; exact (HHj.out (j - 1) (by omega)).1)
          have HX := Lib.hid hx
          have HY := Lib.hid hy
          clear hx hy
          obtain ⟨q, hq⟩ : ∃ q, q = ltInt x y := ⟨_, rfl⟩
          have hc : ∀ X, Calls Tryz.prog 85 #[.int .u32 x, .int .u32 y] X fun e w' => e = .returned (.bool q) ∧ Below X.heap.size X w' := fun X => by
            rw [hq]; exact (less_any x y X).mono fun _ _ h => ⟨h.1, h.2 ▸ Below.refl _ _⟩
          have HC := Lib.hid hc
          have HQ := Lib.hid hq
          clear hc hq
          have hjd : j < d.size := by omega
          have hj1d : j - 1 < d.size := by omega
          have hsw : IntKind.i64.wrap ((j : Int) - 1) = ((j - 1 : Nat) : Int) := by rw [IntWalk.i64_in _ (by omega)]; omega
          have hsub : ((j : Int) - 1) = ((j - 1 : Nat) : Int) := by omega
          go_upto_region 4 with fail
          refine wp_region_wd (Bw wr) (by kernel_rfl) (by kernel_rfl) ((Below.refl _ wr).drew) ?_
          repeat (first
            | go_big_quiet_step (first | (go_at_call 85; with_reducible exact calls_wd (fun _ _ h hb => h.keep hb) _ (HC.out _)))
            | quiet_step (first | (go_at_call 85; with_reducible exact calls_wd (fun _ _ h hb => h.keep hb) _ (HC.out _))))
          refine wpQuiet_nil ?_
          rintro _ ⟨s, rfl⟩
          have d1 := c1 s
          have d2 := c2 s
          have HH2 := Lib.hid (Holds.keepB HHj.out s.h)
          have HO2 := Lib.hid (HOj.out.bel s.h)
          have f1 := (HH2.out j hj1).2
          have f2 := (HH2.out (j - 1) (by omega)).2
          generalize s.w = ws at *
          clear c1 c2 s
          cases q
          · go_wp2
            go_roundw
            case rel => exact ⟨i + 1, dj, by go_num, by omega, by omega, hsj, HH2, HO2, Lib.hid (by rw [← HO.out, insOuter_go _ _ _ _ _ hlt, ← HI.out, insInner_stop _ _ _ _ (.inr (by rw [← HX.out, ← HY.out, ← HQ.out]))])⟩
            case measure => simp [intOf]; omega
          · go_wp2_with fail
            have hS := holds_swp HH2.out hj1 (show j - 1 < dj.size by omega)
            rw [← HX.out, ← HY.out] at hS
            have HS := Lib.hid hS
            have HS2 := Lib.hid ((HO2.out.set ⟨blk, off + j, none⟩ (encU y) (.inl (by simp))).set ⟨blk, off + (j - 1), none⟩ (encU x) (.inl (by simp)))
            clear hS
            go_region
            all_goals go_wp2
            all_goals go_roundw
            case rel => exact ⟨j - 1, swp dj j (j - 1), by first | rfl | go_num, by omega, by omega, by rw [size_swp]; exact hsj, HS, Lib.hid HS2.out.drew, Lib.hid (by rw [← HI.out, insInner_go ltInt a j dj hja (by rw [← HX.out, ← HY.out, ← HQ.out])])⟩
            case measure => simp [intOf]; omega
        · have hjz : ¬ (a : Int) < j := by omega
          go_upto_region 4 with fail
          refine wp_region_wd (Bw wr) (by kernel_rfl) (by kernel_rfl) ((Below.refl _ wr).drew) ?_
          repeat (first | go_big_quiet_step (fail) | quiet_step (fail))
          refine wpQuiet_nil ?_
          rintro _ ⟨s, rfl⟩
          have HH2 := Lib.hid (Holds.keepB HHj.out s.h)
          have HO2 := Lib.hid (HOj.out.bel s.h)
          go_wp2
          go_roundw
          case rel => exact ⟨i + 1, dj, by go_num, by omega, by omega, hsj, HH2, HO2, Lib.hid (by rw [← HO.out, insOuter_go _ _ _ _ _ hlt, ← HI.out, insInner_stop _ _ _ _ (.inl (by omega))])⟩
          case measure => simp [intOf]; omega
    · have hge : ¬ (i : Int) < b := by omega
      go_wp2
      go_end0
      exact ⟨rfl, by unfold Sort.insertionSort; rw [← HO.out, insOuter_stop _ _ _ _ _ hlt]; exact HHk.out, HOk.out⟩
end Go.Proofs.YtldmajifkmcdcaaGreat.U32
/-
  Go's own heap sort at uint32. No condition but those typed at each theorem.
-/
namespace Go.Proofs.YtldmajifkmcdcaaGreat.U32
open Go.RowKit Go.Sort
theorem Hq {w : World} {blk off : Nat} {d : Array Int} (h : Holds encU w blk off d) {t : Nat} (ht : t < d.size) {v : Int} (hv : v = d[t]!) : ∀ s : Wd (Bw w), s.w.cell? ⟨blk, off + t, none⟩ = some (.int .u32 v) :=
  fun s => Bw.cell s (by rw [hv]; exact (h t ht).1)
theorem lessQ {x y : Int} {q : Bool} (hq : q = ltInt x y) : ∀ X, Calls Tryz.prog 85 #[.int .u32 x, .int .u32 y] X fun e w' => e = .returned (.bool q) ∧ Below X.heap.size X w' := fun X => by
  rw [hq]; exact (less_any x y X).mono fun _ _ h => ⟨h.1, h.2 ▸ Below.refl _ _⟩
theorem swz {X w : World} {blk off : Nat} {d : Array Int} (hH : Holds encU X blk off d) (hO : Off [blk] w X) {i j : Nat} (hi : i < d.size) (hj : j < d.size) {x y : Int} (hx : x = d[i]!) (hy : y = d[j]!) :
    Holds encU ((X.setCell ⟨blk, off + i, none⟩ (encU y)).setCell ⟨blk, off + j, none⟩ (encU x)) blk off (swp d i j) ∧ Off [blk] w ((X.setCell ⟨blk, off + i, none⟩ (encU y)).setCell ⟨blk, off + j, none⟩ (encU x)) := by
  subst hx hy
  exact ⟨holds_swp hH hi hj, (hO.set ⟨blk, off + i, none⟩ _ (.inl (by simp))).set ⟨blk, off + j, none⟩ _ (.inl (by simp))⟩
theorem sift_end (hi F r : Nat) (d : Array Int) (h : 2 * r + 1 ≥ hi) : siftDown ltInt hi F r d = d := by rw [siftDown, dif_pos h]
theorem sift_go (hi F r c : Nat) (d : Array Int) (h : ¬ 2 * r + 1 ≥ hi) (hc : c = if (decide (2 * r + 1 + 1 < hi) && ltInt d[F + (2 * r + 1)]! d[F + (2 * r + 1) + 1]!) = true then 2 * r + 2 else 2 * r + 1) :
    siftDown ltInt hi F r d = if ltInt d[F + r]! d[F + c]! = true then siftDown ltInt hi F c (swp d (F + r) (F + c)) else d := by
  rw [siftDown, dif_neg h]
  by_cases h1 : (decide (2 * r + 1 + 1 < hi) && ltInt d[F + (2 * r + 1)]! d[F + (2 * r + 1) + 1]!) = true
  · rw [if_pos h1] at hc
    subst hc
    rw [if_pos h1]
    have h2 : 2 * r + 2 < hi := by simp at h1; omega
    cases ltInt d[F + r]! d[F + (2 * r + 2)]! <;> simp [h2]
  · rw [if_neg h1] at hc
    subst hc
    rw [if_neg h1]
    cases ltInt d[F + r]! d[F + (2 * r + 1)]! <;> simp
theorem sift_size (hi F : Nat) : ∀ (n r : Nat) (d : Array Int), hi - r ≤ n → (siftDown ltInt hi F r d).size = d.size := by
  intro n
  induction n with
  | zero => intro r d h; rw [sift_end _ _ _ _ (by omega)]
  | succ n ih =>
    intro r d h
    by_cases h1 : 2 * r + 1 ≥ hi
    · rw [sift_end _ _ _ _ h1]
    · obtain ⟨c, hc⟩ : ∃ c, c = if (decide (2 * r + 1 + 1 < hi) && ltInt d[F + (2 * r + 1)]! d[F + (2 * r + 1) + 1]!) = true then 2 * r + 2 else 2 * r + 1 := ⟨_, rfl⟩
      have h2 : c ≤ 2 * r + 2 ∧ 2 * r + 1 ≤ c := by rw [hc]; split <;> omega
      rw [sift_go hi F r c d h1 hc]
      split
      · rw [ih _ _ (by omega), size_swp]
      · rfl
set_option maxRecDepth 100000 in
set_option maxHeartbeats 6400000 in
theorem siftDown_any (blk off cap lo hi F : Nat) (d : Array Int) (w : World) (hH : Holds encU w blk off d) (hb : F + hi ≤ d.size) (hsz : d.size ≤ 100000) (hlo : lo ≤ 100000) :
    Calls Tryz.prog 119 #[.slice (some ⟨blk, off, none⟩) d.size cap, .int .i64 lo, .int .i64 hi, .int .i64 F] w fun e w' =>
      e = .returned (.tuple #[]) ∧ Holds encU w' blk off (siftDown ltInt hi F lo d) ∧ Off [blk] w w' := by
  have HH := Lib.hid hH
  clear hH
  go_enter Tryz.func119, Tryz.ntmps119
  go_wp2
  go_loopw [8] (fun vr wr => ∃ (r : Nat) (dk : Array Int), vr = .int .i64 r ∧ r ≤ 100000 ∧ dk.size = d.size ∧ Hid (Holds encU wr blk off dk) ∧ Hid (Off [blk] w wr) ∧ Hid (siftDown ltInt hi F r dk = siftDown ltInt hi F lo d)) (fun vr _ => 100001 - (intOf vr).toNat)
  case atStart => exact ⟨lo, d, rfl, hlo, rfl, HH, Lib.hid (Off.refl _ _), Lib.hid rfl⟩
  case round =>
    obtain ⟨r, dk, rfl, hr, hsk, HHk, HOk, HI⟩ := hrel
    have inst : Nonempty (Wd (Bw wr)) := ⟨⟨wr, Below.refl _ _⟩⟩
    obtain ⟨c, hc⟩ : ∃ n : Nat, n = 2 * r + 1 := ⟨_, rfl⟩
    have zc : 2 * (r : Int) + 1 = (c : Int) := by omega
    have HC := Lib.hid hc
    clear hc
    by_cases hge : c ≥ hi
    · have hgez : (hi : Int) ≤ c := by omega
      go_wp2
      go_end0
      have := HI.out
      rw [sift_end _ _ _ _ (by have := HC.out; omega)] at this
      exact ⟨rfl, this ▸ HHk.out, HOk.out⟩
    have hgez : ¬ (hi : Int) ≤ c := by omega
    have hc := HC.out
    obtain ⟨c1, hc1⟩ : ∃ n : Nat, n = c + 1 := ⟨_, rfl⟩
    obtain ⟨fr, hfr⟩ : ∃ n : Nat, n = F + r := ⟨_, rfl⟩
    obtain ⟨fc, hfc⟩ : ∃ n : Nat, n = F + c := ⟨_, rfl⟩
    obtain ⟨f1, hf1⟩ : ∃ n : Nat, n = F + c + 1 := ⟨_, rfl⟩
    obtain ⟨x0, hx0⟩ : ∃ x, x = dk[fr]! := ⟨_, rfl⟩
    obtain ⟨x1, hx1⟩ : ∃ x, x = dk[fc]! := ⟨_, rfl⟩
    obtain ⟨x2, hx2⟩ : ∃ x, x = dk[f1]! := ⟨_, rfl⟩
    have g0 : fr < d.size := by omega
    have g1 : fc < d.size := by omega
    have q0 := Hq HHk.out (by omega) hx0
    have q1 := Hq HHk.out (by omega) hx1
    obtain ⟨p1, hp1⟩ : ∃ p, p = ltInt x1 x2 := ⟨_, rfl⟩
    have HL1 := Lib.hid (lessQ hp1)
    obtain ⟨cc, hcc⟩ : ∃ n : Nat, n = if (decide (c1 < hi) && p1) = true then c1 else c := ⟨_, rfl⟩
    have hgo := sift_go hi F r cc dk (by omega) (by rw [hcc, hp1, hx1, hx2, hf1, hfc, hc1, hc])
    have HGO := Lib.hid hgo
    have HCC := Lib.hid hcc
    have HX0 := Lib.hid hx0
    have HX1 := Lib.hid hx1
    have HX2 := Lib.hid hx2
    have HC1 := Lib.hid hc1
    have HFR := Lib.hid hfr
    have HFC := Lib.hid hfc
    have HF1 := Lib.hid hf1
    have zc1 : (c : Int) + 1 = (c1 : Int) := by omega
    have zfr : (F : Int) + r = (fr : Int) := by omega
    have zfc : (F : Int) + c = (fc : Int) := by omega
    have zf1 : (fc : Int) + 1 = (f1 : Int) := by omega
    have zg1 : (F : Int) + c1 = (f1 : Int) := by omega
    clear hx0 hx1 hx2 hp1 hcc hgo hc hc1 hfr hfc hf1
    obtain ⟨bb, hbb⟩ : ∃ b, b = (decide (c1 < hi) && p1) := ⟨_, rfl⟩
    have HBB := Lib.hid hbb
    rw [← hbb] at HCC
    clear hbb
    go_upto_region 3 with fail
    have yc : IntKind.i64.wrap (2 * (r : Int) + 1) = (c : Int) := by rw [IntWalk.i64_in _ (by omega)]; exact zc
    have yc1 : IntKind.i64.wrap ((c : Int) + 1) = (c1 : Int) := by rw [IntWalk.i64_in _ (by omega)]; exact zc1
    have yfr : IntKind.i64.wrap ((F : Int) + r) = (fr : Int) := by rw [IntWalk.i64_in _ (by omega)]; exact zfr
    have yfc : IntKind.i64.wrap ((F : Int) + c) = (fc : Int) := by rw [IntWalk.i64_in _ (by omega)]; exact zfc
    have yf1 : IntKind.i64.wrap ((fc : Int) + 1) = (f1 : Int) := by rw [IntWalk.i64_in _ (by omega)]; exact zf1
    have yg1 : IntKind.i64.wrap ((F : Int) + c1) = (f1 : Int) := by rw [IntWalk.i64_in _ (by omega)]; exact zg1
    go_cut [36] (fun s36 wx => s36 = .bool bb ∧ ∃ s : Wd (Bw wr), wx = s.w)
    case first =>
      by_cases h1 : c1 < hi
      · have h1z : (c1 : Int) < hi := by omega
        have q2 := Hq HHk.out (by have := HC1.out; have := HF1.out; omega) HX2.out
        have g2 : f1 < d.size := by have := HC1.out; have := HF1.out; omega
        refine wp_region_wd (Bw wr) (by kernel_rfl) (by kernel_rfl) ((Below.refl _ wr).drew) ?_
        repeat (first | go_big_quiet_step (first | (go_at_call 85; with_reducible exact calls_wd (fun _ _ h hb => h.keep hb) _ (HL1.out _))) | quiet_step (first | (go_at_call 85; with_reducible exact calls_wd (fun _ _ h hb => h.keep hb) _ (HL1.out _))))
        refine wpQuiet_nil ?_
        rintro _ ⟨s, rfl⟩
        go_wp2_with fail
        go_meet
        exact ⟨by rw [HBB.out]; simp [h1], s, rfl⟩
      · have h1z : ¬ (c1 : Int) < hi := by omega
        refine wp_region_wd (Bw wr) (by kernel_rfl) (by kernel_rfl) ((Below.refl _ wr).drew) ?_
        repeat (first | go_big_quiet_step (fail) | quiet_step (fail))
        refine wpQuiet_nil ?_
        rintro _ ⟨s, rfl⟩
        go_wp2_with fail
        go_meet
        exact ⟨by rw [HBB.out]; simp [h1], s, rfl⟩
    case rest =>
      obtain ⟨rfl, s0, rfl⟩ := hcut
      clear yc yc1 yfr yfc yf1 yg1
      cases bb
      ·
        have hccn : c = cc := by rw [HCC.out]; rfl
        subst hccn
        obtain ⟨fx, hfx⟩ : ∃ n : Nat, n = F + c := ⟨_, rfl⟩
        have hfx2 : fc = fx := by have := HFC.out; have := HF1.out; have := HC1.out; omega
        subst hfx2
        obtain ⟨p2, hp2⟩ : ∃ p, p = ltInt x0 x1 := ⟨_, rfl⟩
        have HL2 := Lib.hid (lessQ hp2)
        have hgo := HGO.out
        rw [← HFR.out, ← hfx, ← HX0.out, ← HX1.out, ← hp2] at hgo
        have HGO2 := Lib.hid hgo
        have HFX := Lib.hid hfx
        clear hgo hfx hp2 HCC HGO
        have gx : fc < d.size := by
          have h1 := HBB.out
          have h2 := HFC.out
          have h3 := HF1.out
          have h4 := HC1.out
          simp at h1
          omega
        have HHs := Lib.hid (Holds.keepB HHk.out s0.h)
        have HOs := Lib.hid (HOk.out.bel s0.h)
        generalize s0.w = w1 at *
        have q0' := Hq HHs.out (by omega) HX0.out
        have qx' := Hq HHs.out (by omega) HX1.out
        have inst1 : Nonempty (Wd (Bw w1)) := ⟨⟨w1, Below.refl _ _⟩⟩
        clear q0 q1 HHk HOk
        go_upto_region 5 with fail
        have yc : IntKind.i64.wrap (2 * (r : Int) + 1) = (c : Int) := by rw [IntWalk.i64_in _ (by omega)]; exact zc
        have yc1 : IntKind.i64.wrap ((c : Int) + 1) = (c1 : Int) := by rw [IntWalk.i64_in _ (by omega)]; exact zc1
        have yfr : IntKind.i64.wrap ((F : Int) + r) = (fr : Int) := by rw [IntWalk.i64_in _ (by omega)]; exact zfr
        have yfc : IntKind.i64.wrap ((F : Int) + c) = (fc : Int) := by rw [IntWalk.i64_in _ (by omega)]; exact zfc
        have yf1 : IntKind.i64.wrap ((fc : Int) + 1) = (f1 : Int) := by rw [IntWalk.i64_in _ (by omega)]; exact zf1
        have yg1 : IntKind.i64.wrap ((F : Int) + c1) = (f1 : Int) := by rw [IntWalk.i64_in _ (by omega)]; exact zg1
        refine wp_region_wd (Bw w1) (by kernel_rfl) (by kernel_rfl) ((Below.refl _ w1).drew) ?_
        repeat (first | go_big_quiet_step (first | (go_at_call 85; with_reducible exact calls_wd (fun _ _ h hb => h.keep hb) _ (HL2.out _))) | quiet_step (first | (go_at_call 85; with_reducible exact calls_wd (fun _ _ h hb => h.keep hb) _ (HL2.out _))))
        refine wpQuiet_nil ?_
        rintro _ ⟨s1, rfl⟩
        have d0 := q0' s1
        have dx := qx' s1
        have HH2 := Lib.hid (Holds.keepB HHs.out s1.h)
        have HO2 := Lib.hid (HOs.out.bel s1.h)
        have f0 := (HH2.out fr (by omega)).2
        have fx' := (HH2.out fc (by omega)).2
        generalize s1.w = w2 at *
        clear q0' qx' s1 inst1 inst
        cases p2
        · clear yc yc1 yfr yfc yf1 yg1
          go_wp2
          refine bodyPost_ret (results_none rfl _ _ _) rfl ?_
          have := HI.out
          rw [HGO2.out] at this
          exact ⟨rfl, this ▸ HH2.out, HO2.out⟩
        · obtain ⟨hs1, hs2⟩ := swz HH2.out HO2.out (show fr < dk.size by omega) (show fc < dk.size by omega) HX0.out HX1.out
          have HS1 := Lib.hid hs1
          have HS2 := Lib.hid hs2
          clear hs1 hs2
          clear yc yc1 yfr yfc yf1 yg1
          go_upto_region 6 with fail
          have yc : IntKind.i64.wrap (2 * (r : Int) + 1) = (c : Int) := by rw [IntWalk.i64_in _ (by omega)]; exact zc
          have yc1 : IntKind.i64.wrap ((c : Int) + 1) = (c1 : Int) := by rw [IntWalk.i64_in _ (by omega)]; exact zc1
          have yfr : IntKind.i64.wrap ((F : Int) + r) = (fr : Int) := by rw [IntWalk.i64_in _ (by omega)]; exact zfr
          have yfc : IntKind.i64.wrap ((F : Int) + c) = (fc : Int) := by rw [IntWalk.i64_in _ (by omega)]; exact zfc
          have yf1 : IntKind.i64.wrap ((fc : Int) + 1) = (f1 : Int) := by rw [IntWalk.i64_in _ (by omega)]; exact zf1
          have yg1 : IntKind.i64.wrap ((F : Int) + c1) = (f1 : Int) := by rw [IntWalk.i64_in _ (by omega)]; exact zg1
          go_region
          all_goals clear yc yc1 yfr yfc yf1 yg1
          all_goals go_wp2
          all_goals go_roundw
          case rel => exact ⟨c, swp dk fr fc, by first | rfl | go_num, by omega, by rw [size_swp]; exact hsk, HS1, Lib.hid HS2.out.drew, Lib.hid (by rw [← HI.out, HGO2.out]; simp)⟩
          case measure => simp [intOf]; have := HC.out; have := HC1.out; omega
      ·
        have hccn : c1 = cc := by rw [HCC.out]; rfl
        subst hccn
        obtain ⟨fx, hfx⟩ : ∃ n : Nat, n = F + c1 := ⟨_, rfl⟩
        have hfx2 : f1 = fx := by have := HFC.out; have := HF1.out; have := HC1.out; omega
        subst hfx2
        obtain ⟨p2, hp2⟩ : ∃ p, p = ltInt x0 x2 := ⟨_, rfl⟩
        have HL2 := Lib.hid (lessQ hp2)
        have hgo := HGO.out
        rw [← HFR.out, ← hfx, ← HX0.out, ← HX2.out, ← hp2] at hgo
        have HGO2 := Lib.hid hgo
        have HFX := Lib.hid hfx
        clear hgo hfx hp2 HCC HGO
        have gx : f1 < d.size := by
          have h1 := HBB.out
          have h2 := HFC.out
          have h3 := HF1.out
          have h4 := HC1.out
          simp at h1
          omega
        have HHs := Lib.hid (Holds.keepB HHk.out s0.h)
        have HOs := Lib.hid (HOk.out.bel s0.h)
        generalize s0.w = w1 at *
        have q0' := Hq HHs.out (by omega) HX0.out
        have qx' := Hq HHs.out (by omega) HX2.out
        have inst1 : Nonempty (Wd (Bw w1)) := ⟨⟨w1, Below.refl _ _⟩⟩
        clear q0 q1 HHk HOk
        go_upto_region 5 with fail
        have yc : IntKind.i64.wrap (2 * (r : Int) + 1) = (c : Int) := by rw [IntWalk.i64_in _ (by omega)]; exact zc
        have yc1 : IntKind.i64.wrap ((c : Int) + 1) = (c1 : Int) := by rw [IntWalk.i64_in _ (by omega)]; exact zc1
        have yfr : IntKind.i64.wrap ((F : Int) + r) = (fr : Int) := by rw [IntWalk.i64_in _ (by omega)]; exact zfr
        have yfc : IntKind.i64.wrap ((F : Int) + c) = (fc : Int) := by rw [IntWalk.i64_in _ (by omega)]; exact zfc
        have yf1 : IntKind.i64.wrap ((fc : Int) + 1) = (f1 : Int) := by rw [IntWalk.i64_in _ (by omega)]; exact zf1
        have yg1 : IntKind.i64.wrap ((F : Int) + c1) = (f1 : Int) := by rw [IntWalk.i64_in _ (by omega)]; exact zg1
        refine wp_region_wd (Bw w1) (by kernel_rfl) (by kernel_rfl) ((Below.refl _ w1).drew) ?_
        repeat (first | go_big_quiet_step (first | (go_at_call 85; with_reducible exact calls_wd (fun _ _ h hb => h.keep hb) _ (HL2.out _))) | quiet_step (first | (go_at_call 85; with_reducible exact calls_wd (fun _ _ h hb => h.keep hb) _ (HL2.out _))))
        refine wpQuiet_nil ?_
        rintro _ ⟨s1, rfl⟩
        have d0 := q0' s1
        have dx := qx' s1
        have HH2 := Lib.hid (Holds.keepB HHs.out s1.h)
        have HO2 := Lib.hid (HOs.out.bel s1.h)
        have f0 := (HH2.out fr (by omega)).2
        have fx' := (HH2.out f1 (by omega)).2
        generalize s1.w = w2 at *
        clear q0' qx' s1 inst1 inst
        cases p2
        · clear yc yc1 yfr yfc yf1 yg1
          go_wp2
          refine bodyPost_ret (results_none rfl _ _ _) rfl ?_
          have := HI.out
          rw [HGO2.out] at this
          exact ⟨rfl, this ▸ HH2.out, HO2.out⟩
        · obtain ⟨hs1, hs2⟩ := swz HH2.out HO2.out (show fr < dk.size by omega) (show f1 < dk.size by omega) HX0.out HX2.out
          have HS1 := Lib.hid hs1
          have HS2 := Lib.hid hs2
          clear hs1 hs2
          clear yc yc1 yfr yfc yf1 yg1
          go_upto_region 6 with fail
          have yc : IntKind.i64.wrap (2 * (r : Int) + 1) = (c : Int) := by rw [IntWalk.i64_in _ (by omega)]; exact zc
          have yc1 : IntKind.i64.wrap ((c : Int) + 1) = (c1 : Int) := by rw [IntWalk.i64_in _ (by omega)]; exact zc1
          have yfr : IntKind.i64.wrap ((F : Int) + r) = (fr : Int) := by rw [IntWalk.i64_in _ (by omega)]; exact zfr
          have yfc : IntKind.i64.wrap ((F : Int) + c) = (fc : Int) := by rw [IntWalk.i64_in _ (by omega)]; exact zfc
          have yf1 : IntKind.i64.wrap ((fc : Int) + 1) = (f1 : Int) := by rw [IntWalk.i64_in _ (by omega)]; exact zf1
          have yg1 : IntKind.i64.wrap ((F : Int) + c1) = (f1 : Int) := by rw [IntWalk.i64_in _ (by omega)]; exact zg1
          go_region
          all_goals clear yc yc1 yfr yfc yf1 yg1
          all_goals go_wp2
          all_goals go_roundw
          case rel => exact ⟨c1, swp dk fr f1, by first | rfl | go_num, by omega, by rw [size_swp]; exact hsk, HS1, Lib.hid HS2.out.drew, Lib.hid (by rw [← HI.out, HGO2.out]; simp)⟩
          case measure => simp [intOf]; have := HC.out; have := HC1.out; omega
set_option maxRecDepth 100000 in
set_option maxHeartbeats 6400000 in
theorem heapSort_any (blk off cap a b : Nat) (d : Array Int) (w : World) (hH : Holds encU w blk off d) (hab : a < b) (hb : b ≤ d.size) (hsz : d.size ≤ 100000) :
    Calls Tryz.prog 100 #[.slice (some ⟨blk, off, none⟩) d.size cap, .int .i64 a, .int .i64 b] w fun e w' =>
      e = .returned (.tuple #[]) ∧ Holds encU w' blk off (heapSort ltInt d a b) ∧ Off [blk] w w' := by
  have HH := Lib.hid hH
  clear hH
  obtain ⟨hi, hhi⟩ : ∃ n : Nat, n = b - a := ⟨_, rfl⟩
  have zhi : (b : Int) - a = (hi : Int) := by omega
  obtain ⟨k0, hk0⟩ : ∃ n : Nat, n = (hi - 1) / 2 := ⟨_, rfl⟩
  have hi1 : 1 ≤ hi ∧ hi ≤ 100000 := by omega
  have zk0 : ((hi : Int) - 1).tdiv 2 = (k0 : Int) := by rw [hk0, show ((hi : Int) - 1) = ((hi - 1 : Nat) : Int) by omega]; rfl
  have zk1 : ((hi : Int) - 1) / 2 = (k0 : Int) := by omega
  have hk1 : k0 ≤ 100000 := by omega
  have HHI := Lib.hid hhi
  have HK0 := Lib.hid hk0
  have hab' : a + hi = b := by omega
  have HAB := Lib.hid hab'
  clear hhi hk0 hab'
  go_enter Tryz.func100, Tryz.ntmps100
  go_wp2
  go_loopw [9] (fun v wr => ∃ (k : Nat) (dk : Array Int), v = .int .i64 ((k : Int) - 1) ∧ k ≤ k0 + 1 ∧ dk.size = d.size ∧ Hid (Holds encU wr blk off dk) ∧ Hid (Off [blk] w wr) ∧ Hid (heapBuild ltInt hi a k dk = heapBuild ltInt hi a (k0 + 1) d)) (fun v _ => (intOf v + 1).toNat)
  case atStart => exact ⟨k0 + 1, d, by go_num, Nat.le_refl _, rfl, HH, Lib.hid (Off.refl _ _), Lib.hid rfl⟩
  case round =>
    obtain ⟨k, dk, rfl, hk, hsk, HHk, HOk, HI⟩ := hrel
    cases k with
    | succ k =>
      have zk : (((k + 1 : Nat) : Int) - 1) = (k : Int) := by omega
      rw [zk]
      have hkz : (0 : Int) ≤ k := by omega
      have C1 := siftDown_any blk off cap k hi a dk wr HHk.out (by have := HAB.out; omega) (by omega) (by omega)
      rw [hsk] at C1
      have HC1 := Lib.hid C1
      clear C1 zk
      go_wp2_with (go_at_call 119; (with_reducible refine HC1.out.mono ?_); rintro e w1 ⟨rfl, hH1, hO1⟩; have HH1 := Lib.hid hH1; have HO1 := Lib.hid (HOk.out.trans hO1); clear hH1 hO1)
      go_roundw
      case rel => exact ⟨k, siftDown ltInt hi a k dk, by first | rfl | go_num, by omega, by rw [sift_size _ _ _ _ _ (Nat.le_refl _)]; exact hsk, HH1, HO1, Lib.hid (by rw [← HI.out]; rfl)⟩
      case measure => simp [intOf] <;> omega
    | zero =>
      rw [show (((0 : Nat) : Int) - 1) = -1 from rfl]
      have hH1 := HHk.out
      have hI1 : dk = heapBuild ltInt hi a (k0 + 1) d := HI.out
      go_wp2
      go_loopw [10] (fun v wr2 => ∃ (k : Nat) (dk2 : Array Int), v = .int .i64 ((k : Int) - 1) ∧ k ≤ hi ∧ dk2.size = d.size ∧ Hid (Holds encU wr2 blk off dk2) ∧ Hid (Off [blk] w wr2) ∧ Hid (heapPop ltInt a k dk2 = heapPop ltInt a hi dk)) (fun v _ => (intOf v + 1).toNat)
      case atStart => exact ⟨hi, dk, rfl, Nat.le_refl _, hsk, HHk, HOk, Lib.hid rfl⟩
      case round =>
        clear hH1
        have HI1 := Lib.hid hI1
        clear hI1 HHk HOk
        obtain ⟨k, dj, rfl, hk, hsj, HHj, HOj, HJ⟩ := hrel
        cases k with
        | succ k =>
          have zk : (((k + 1 : Nat) : Int) - 1) = (k : Int) := by omega
          rw [zk]
          have hkz : (0 : Int) ≤ k := by omega
          obtain ⟨ak, hak⟩ : ∃ n : Nat, n = a + k := ⟨_, rfl⟩
          have zak : (a : Int) + k = (ak : Int) := by omega
          obtain ⟨x, hx⟩ : ∃ x, x = dj[a]! := ⟨_, rfl⟩
          obtain ⟨y, hy⟩ : ∃ y, y = dj[ak]! := ⟨_, rfl⟩
          have h1 : a < d.size := by omega
          have h2 : ak < d.size := by have := HAB.out; omega
          have c1 : wr.cell? ⟨blk, off + a, none⟩ = some (.int .u32 x) := by rw [hx]; exact (HHj.out a (by omega)).1
          have c2 : wr.cell? ⟨blk, off + ak, none⟩ = some (.int .u32 y) := by rw [hy]; exact (HHj.out ak (by omega)).1
          have f1 := (HHj.out a (by omega)).2
          have f2 := (HHj.out ak (by omega)).2
          obtain ⟨hs1, hs2⟩ := swz HHj.out HOj.out (show a < dj.size by omega) (show ak < dj.size by omega) hx hy
          have HS1 := Lib.hid hs1
          have HS2 := Lib.hid hs2
          have HAK := Lib.hid hak
          have HXX := Lib.hid hx
          have HYY := Lib.hid hy
          have C1 := fun X (h : Holds encU X blk off (swp dj a ak)) => siftDown_any blk off cap 0 k a (swp dj a ak) X h (by rw [size_swp]; have := HAB.out; omega) (by rw [size_swp]; omega) (by omega)
          rw [size_swp, hsj] at C1
          simp only [Int.natCast_zero] at C1
          have HC1 := Lib.hid (C1 ((wr.setCell ⟨blk, off + a, none⟩ (.int .u32 y)).setCell ⟨blk, off + ak, none⟩ (.int .u32 x)).drew HS1.out)
          clear C1 zk hs1 hs2 hak hx hy
          by_cases hk0 : k = 0
          · have hka : a = ak := by have := HAK.out; omega
            have hxy : x = y := by rw [HXX.out, HYY.out, hka]
            subst hka hxy
            have HAK2 := HAK
            clear HAK hk0
            go_upto_region 10 with fail
            have yak : IntKind.i64.wrap ((a : Int) + k) = (a : Int) := by rw [IntWalk.i64_in _ (by omega)]; exact zak
            go_region
            all_goals clear yak
            all_goals go_wp2_with (go_at_call 119; (with_reducible refine HC1.out.mono ?_); rintro e w1 ⟨rfl, hH1, hO1⟩; have HH1 := Lib.hid hH1; have HO1 := Lib.hid ((HS2.out.drew).trans hO1); clear hH1 hO1)
            all_goals go_roundw
            case rel => exact ⟨k, siftDown ltInt k a 0 (swp dj a a), by first | rfl | go_num, by omega, by rw [sift_size _ _ _ _ _ (Nat.le_refl _), size_swp]; exact hsj, HH1, HO1, Lib.hid (by rw [← HJ.out, heapPop, show a + k = a from HAK2.out.symm])⟩
            case measure => simp [intOf] <;> omega
          · have hne : ¬ ak = a := by have := HAK.out; omega
            have hne2 : ¬ a = ak := by have := HAK.out; omega
            go_upto_region 10 with fail
            have yak : IntKind.i64.wrap ((a : Int) + k) = (ak : Int) := by rw [IntWalk.i64_in _ (by omega)]; exact zak
            go_region
            all_goals clear yak
            all_goals go_wp2_with (go_at_call 119; (with_reducible refine HC1.out.mono ?_); rintro e w1 ⟨rfl, hH1, hO1⟩; have HH1 := Lib.hid hH1; have HO1 := Lib.hid ((HS2.out.drew).trans hO1); clear hH1 hO1)
            all_goals go_roundw
            case rel => exact ⟨k, siftDown ltInt k a 0 (swp dj a ak), by first | rfl | go_num, by omega, by rw [sift_size _ _ _ _ _ (Nat.le_refl _), size_swp]; exact hsj, HH1, HO1, Lib.hid (by rw [← HJ.out, heapPop, HAK.out])⟩
            case measure => simp [intOf] <;> omega
        | zero =>
          rw [show (((0 : Nat) : Int) - 1) = -1 from rfl]
          go_wp2
          go_end0
          have e1 := HJ.out
          have e2 := HI1.out
          have e3 : dj = heapSort ltInt d a b := by
            unfold heapSort
            rw [← HHI.out, ← HK0.out, ← e2, ← e1]
            rfl
          exact ⟨rfl, e3 ▸ HHj.out, HOj.out⟩
end Go.Proofs.YtldmajifkmcdcaaGreat.U32
/-
  Which place Go's own sort chooses, and a range turned round, at uint32. No condition but those typed at each theorem.
-/
namespace Go.Proofs.YtldmajifkmcdcaaGreat.U32
open Go.RowKit Go.Sort
/-- a variable of one number -/
def OV (w : World) (S : Nat) : Prop := ∃ n : Int, w.heap[S]? = some (.cells #[.int .i64 n] 3 (0, 0))
theorem Holds.offB {S : List Nat} {w w' : World} {blk off : Nat} {d : Array Int} (hH : Holds encU w blk off d) (h : Off S w w') (hS : blk ∉ S) : Holds encU w' blk off d := fun t ht =>
  ⟨h.cell (hH t ht).1 hS, (World.frozen?_of_block (h.block _ (World.block_lt_of_cell? w _ (hH t ht).1) hS)).trans (hH t ht).2⟩
set_option maxRecDepth 100000 in
set_option maxHeartbeats 3200000 in
theorem order2_any (blk off cap a b S : Nat) (d : Array Int) (w : World) (hH : Holds encU w blk off d) (ha : a < d.size) (hb : b < d.size) (hS : OV w S) :
    Calls Tryz.prog 137 #[.slice (some ⟨blk, off, none⟩) d.size cap, .int .i64 a, .int .i64 b, .pointer (some ⟨S, 0, none⟩)] w fun e w' =>
      ∃ p q : Nat, e = .returned (.tuple #[.int .i64 p, .int .i64 q]) ∧ ((p = a ∧ q = b) ∨ (p = b ∧ q = a)) ∧ OV w' S ∧ Off [S] w w' := by
  obtain ⟨x, hx⟩ : ∃ x, x = d[b]! := ⟨_, rfl⟩
  obtain ⟨y, hy⟩ : ∃ y, y = d[a]! := ⟨_, rfl⟩
  have q1 := Hq hH hb hx
  have q2 := Hq hH ha hy
  obtain ⟨p, hp⟩ : ∃ p, p = ltInt x y := ⟨_, rfl⟩
  have HL := Lib.hid (lessQ hp)
  have HS := Lib.hid hS
  have inst : Nonempty (Wd (Bw w)) := ⟨⟨w, Below.refl _ _⟩⟩
  clear hx hy hp hH hS
  go_enter Tryz.func137, Tryz.ntmps137
  go_upto_region 1 with fail
  refine wp_region_wd (Bw w) (by kernel_rfl) (by kernel_rfl) ((Below.refl _ w).drew) ?_
  repeat (first | go_big_quiet_step (first | (go_at_call 85; with_reducible exact calls_wd (fun _ _ h hb => h.keep hb) _ (HL.out _))) | quiet_step (first | (go_at_call 85; with_reducible exact calls_wd (fun _ _ h hb => h.keep hb) _ (HL.out _))))
  refine wpQuiet_nil ?_
  rintro _ ⟨s, rfl⟩
  obtain ⟨n, hn⟩ := HS.out
  have hn1 : s.w.heap[S]? = some (.cells #[.int .i64 n] 3 (0, 0)) := (s.h.block S (lt_of_block hn)).trans hn
  have HO := Lib.hid (Off.of (S := [S]) s.h (Nat.le_refl _))
  generalize s.w = w1 at *
  clear s q1 q2 inst
  cases p
  · go_wp2
    go_ret2
    exact ⟨a, b, rfl, .inl ⟨rfl, rfl⟩, ⟨n, hn1⟩, HO.out⟩
  · have c := cell_of_one hn1
    have f := free_of_one hn1
    have HN := Lib.hid hn1
    obtain ⟨m, hm⟩ : ∃ m, m = IntKind.i64.wrap (n + 1) := ⟨_, rfl⟩
    have hm' : IntKind.i64.wrap (n + 1) = m := hm.symm
    clear hm hn1
    go_wp2
    go_ret2
    exact ⟨b, a, rfl, .inr ⟨rfl, rfl⟩, ⟨_, one_setCell HN.out⟩, HO.out.set _ _ (.inl (by simp))⟩
set_option maxRecDepth 100000 in
set_option maxHeartbeats 3200000 in
theorem median_any (blk off cap a b c S : Nat) (d : Array Int) (w : World) (hH : Holds encU w blk off d) (ha : a < d.size) (hb : b < d.size) (hc : c < d.size) (hS : OV w S) (hne : blk ≠ S) :
    Calls Tryz.prog 123 #[.slice (some ⟨blk, off, none⟩) d.size cap, .int .i64 a, .int .i64 b, .int .i64 c, .pointer (some ⟨S, 0, none⟩)] w fun e w' =>
      ∃ p : Nat, e = .returned (.int .i64 p) ∧ (p = a ∨ p = b ∨ p = c) ∧ OV w' S ∧ Off [S] w w' := by
  have HC := Lib.hid (fun X u v (h : Holds encU X blk off d) hu hv (hS : OV X S) => order2_any blk off cap u v S d X h hu hv hS)
  have HH := Lib.hid hH
  have HS := Lib.hid hS
  have hn : blk ∉ [S] := by simpa using hne
  clear hH hS
  go_enter Tryz.func123, Tryz.ntmps123
  go_wp2_with (first
    | (go_at_call 137; (with_reducible refine (HC.out w a b HH.out ha hb HS.out).mono ?_); rintro e w1 ⟨p1, q1, rfl, h1, hS1, hO1⟩; have H1 := Lib.hid h1; have hp1 : p1 < d.size ∧ q1 < d.size := (by omega); have HS1 := Lib.hid hS1; have HO1 := Lib.hid hO1; have HH1 := Lib.hid (Holds.offB HH.out hO1 hn); clear h1 hS1 hO1)
    | (go_at_call 137; (with_reducible refine (HC.out w1 q1 c HH1.out hp1.2 hc HS1.out).mono ?_); rintro e w2 ⟨p2, q2, rfl, h2, hS2, hO2⟩; have H2 := Lib.hid h2; have hp2 : p2 < d.size ∧ q2 < d.size := (by omega); have HS2 := Lib.hid hS2; have HO2 := Lib.hid (HO1.out.trans hO2); have HH2 := Lib.hid (Holds.offB HH1.out hO2 hn); clear h2 hS2 hO2)
    | (go_at_call 137; (with_reducible refine (HC.out w2 p1 p2 HH2.out hp1.1 hp2.1 HS2.out).mono ?_); rintro e w3 ⟨p3, q3, rfl, h3, hS3, hO3⟩; have H3 := Lib.hid h3; have HS3 := Lib.hid hS3; have HO3 := Lib.hid (HO2.out.trans hO3); clear h3 hS3 hO3))
  go_ret
  refine ⟨q3, rfl, ?_, HS3.out, HO3.out⟩
  have := H1.out
  have := H2.out
  have := H3.out
  omega
set_option maxRecDepth 100000 in
set_option maxHeartbeats 3200000 in
theorem medadj_any (blk off cap a S : Nat) (d : Array Int) (w : World) (hH : Holds encU w blk off d) (ha : a + 1 < d.size) (ha1 : 1 ≤ a) (hsz : d.size ≤ 100000) (hS : OV w S) (hne : blk ≠ S) :
    Calls Tryz.prog 122 #[.slice (some ⟨blk, off, none⟩) d.size cap, .int .i64 a, .pointer (some ⟨S, 0, none⟩)] w fun e w' =>
      ∃ p : Nat, e = .returned (.int .i64 p) ∧ (p + 1 = a ∨ p = a ∨ p = a + 1) ∧ OV w' S ∧ Off [S] w w' := by
  have C := median_any blk off cap (a - 1) a (a + 1) S d w hH (by omega) (by omega) ha hS hne
  have z1 : ((a - 1 : Nat) : Int) = (a : Int) - 1 := by omega
  have z2 : ((a + 1 : Nat) : Int) = (a : Int) + 1 := by omega
  rw [z1, z2] at C
  have HC := Lib.hid C
  clear C z1 z2 hH hS
  go_enter Tryz.func122, Tryz.ntmps122
  go_wp2_with (go_at_call 123; (with_reducible refine HC.out.mono ?_); rintro e w1 ⟨p, rfl, h1, hS1, hO1⟩)
  go_ret
  exact ⟨p, rfl, by omega, hS1, hO1⟩
set_option maxRecDepth 100000 in
set_option maxHeartbeats 6400000 in
theorem choose_any (blk off cap a b : Nat) (d : Array Int) (w : World) (hH : Holds encU w blk off d) (hb : b ≤ d.size) (hab : a + 13 ≤ b) (hsz : d.size ≤ 100000) :
    Calls Tryz.prog 102 #[.slice (some ⟨blk, off, none⟩) d.size cap, .int .i64 a, .int .i64 b] w fun e w' =>
      ∃ (p : Nat) (h : Int), e = .returned (.tuple #[.int .i64 p, .int .i64 h]) ∧ (a ≤ p ∧ p < b) ∧ (h = 0 ∨ h = 1 ∨ h = 2) ∧ Below w.heap.size w w' := by
  have hlt := World.block_lt_of_cell? w _ (hH a (by omega)).1
  have hne : blk ≠ w.heap.size := by simp at hlt; omega
  have hn : blk ∉ [w.heap.size] := by simpa using hne
  obtain ⟨W, hW⟩ : ∃ W, W = w.alloc (.cells #[.int .i64 0] 3) := ⟨_, rfl⟩
  have hS0 : OV W w.heap.size := by subst hW; exact ⟨0, heap_alloc_new w _⟩
  have hB0 : Below w.heap.size w W := by subst hW; exact (Below.refl _ w).alloc (Nat.le_refl _) _
  have hWs : w.heap.size < W.heap.size := by subst hW; simp
  have hH0 := Holds.keepB hH hB0
  have HC := Lib.hid (fun X u v t (h : Holds encU X blk off d) hu hv ht (hS : OV X w.heap.size) => median_any blk off cap u v t w.heap.size d X h hu hv ht hS hne)
  have HA := Lib.hid (fun X u (h : Holds encU X blk off d) hu hu1 (hS : OV X w.heap.size) => medadj_any blk off cap u w.heap.size d X h hu hu1 hsz hS hne)
  have HH0 := Lib.hid hH0
  have HS0 := Lib.hid hS0
  have HB0 := Lib.hid hB0
  obtain ⟨l, hl⟩ : ∃ n : Nat, n = b - a := ⟨_, rfl⟩
  obtain ⟨q, hq⟩ : ∃ n : Nat, n = l / 4 := ⟨_, rfl⟩
  obtain ⟨i, hi⟩ : ∃ n : Nat, n = a + q := ⟨_, rfl⟩
  obtain ⟨j, hj⟩ : ∃ n : Nat, n = a + q * 2 := ⟨_, rfl⟩
  obtain ⟨k, hk⟩ : ∃ n : Nat, n = a + q * 3 := ⟨_, rfl⟩
  have zl : (b : Int) - a = (l : Int) := by omega
  have zq : (l : Int).tdiv 4 = (q : Int) := by rw [hq]; rfl
  have zq2 : (l : Int) / 4 = (q : Int) := by omega
  have zi : (a : Int) + q = (i : Int) := by omega
  have zj : (a : Int) + (q : Int) * 2 = (j : Int) := by omega
  have zk : (a : Int) + (q : Int) * 3 = (k : Int) := by omega
  have hl8 : (8 : Int) ≤ l := by omega
  have hlb : l ≤ 100000 := by omega
  have hqb : q ≤ 100000 := by omega
  have hij : i < d.size ∧ j < d.size ∧ k < d.size := by omega
  have HF := Lib.hid (show l = b - a ∧ q = l / 4 ∧ i = a + q ∧ j = a + q * 2 ∧ k = a + q * 3 from ⟨hl, hq, hi, hj, hk⟩)
  clear hl hq hi hj hk hH0 hS0 hB0 hH hlt
  have fin : ∀ (X : World) (p : Nat), OV X w.heap.size → Off [w.heap.size] W X → a ≤ p ∧ p < b → ∃ n : Int, X.cell? ⟨w.heap.size, 0, none⟩ = some (.int .i64 n) ∧ Below w.heap.size w X := by
    rintro X p ⟨n, hn⟩ hO -
    exact ⟨n, cell_of_one hn, HB0.out.trans (hO.below (by omega) (by simp))⟩
  have FIN := Lib.hid fin
  clear fin
  go_enter Tryz.func102, Tryz.ntmps102
  go_upto_region 3 with fail
  rw [← hW]
  have HW := Lib.hid hW
  clear hW
  by_cases h50 : 50 ≤ l
  · have h50z : (50 : Int) ≤ l := by omega
    have hb1 : 1 ≤ i ∧ 1 ≤ j ∧ 1 ≤ k ∧ i + 1 < d.size ∧ j + 1 < d.size ∧ k + 1 < d.size := by have := HF.out; omega
    go_upto_region 12 with (first
      | (go_at_call 122; (with_reducible refine (HA.out W i HH0.out hb1.2.2.2.1 hb1.1 HS0.out).mono ?_); rintro e w1 ⟨p1, rfl, h1, hS1, hO1⟩; have H1 := Lib.hid h1; have g1 : p1 < d.size := (by omega); have HS1 := Lib.hid hS1; have HO1 := Lib.hid hO1; have HH1 := Lib.hid (Holds.offB HH0.out hO1 hn); clear h1 hS1 hO1)
      | (go_at_call 122; (with_reducible refine (HA.out w1 j HH1.out hb1.2.2.2.2.1 hb1.2.1 HS1.out).mono ?_); rintro e w2 ⟨p2, rfl, h2, hS2, hO2⟩; have H2 := Lib.hid h2; have g2 : p2 < d.size := (by omega); have HS2 := Lib.hid hS2; have HO2 := Lib.hid (HO1.out.trans hO2); have HH2 := Lib.hid (Holds.offB HH1.out hO2 hn); clear h2 hS2 hO2)
      | (go_at_call 122; (with_reducible refine (HA.out w2 k HH2.out hb1.2.2.2.2.2 hb1.2.2.1 HS2.out).mono ?_); rintro e w3 ⟨p3, rfl, h3, hS3, hO3⟩; have H3 := Lib.hid h3; have g3 : p3 < d.size := (by omega); have HS3 := Lib.hid hS3; have HO3 := Lib.hid (HO2.out.trans hO3); have HH3 := Lib.hid (Holds.offB HH2.out hO3 hn); clear h3 hS3 hO3)
      | (go_at_call 123; (with_reducible refine (HC.out w3 p1 p2 p3 HH3.out g1 g2 g3 HS3.out).mono ?_); rintro e w4 ⟨p4, rfl, h4, hS4, hO4⟩; have H4 := Lib.hid h4; have HS4 := Lib.hid hS4; have HO4 := Lib.hid (HO3.out.trans hO4); clear h4 hS4 hO4))
    have hp : a ≤ p4 ∧ p4 < b := by
      have := H1.out
      have := H2.out
      have := H3.out
      have := H4.out
      have := HF.out
      omega
    obtain ⟨n, hcell, hbel⟩ := FIN.out w4 p4 HS4.out HO4.out hp
    have HBEL := Lib.hid hbel
    have HP := Lib.hid hp
    clear hbel hp
    by_cases n0 : n = 0
    · subst n0
      go_wp2
      go_ret2
      exact ⟨p4, _, rfl, HP.out, .inr (.inl rfl), HBEL.out⟩
    · by_cases n12 : n = 12
      · subst n12
        go_wp2
        go_ret2
        exact ⟨p4, _, rfl, HP.out, .inr (.inr rfl), HBEL.out⟩
      · go_wp2
        go_ret2
        exact ⟨p4, _, rfl, HP.out, .inl rfl, HBEL.out⟩
  · have h50z : ¬ (50 : Int) ≤ l := by omega
    go_upto_region 12 with (first
      | (go_at_call 123; (with_reducible refine (HC.out W i j k HH0.out hij.1 hij.2.1 hij.2.2 HS0.out).mono ?_); rintro e w4 ⟨p4, rfl, h4, hS4, hO4⟩; have H4 := Lib.hid h4; have HS4 := Lib.hid hS4; have HO4 := Lib.hid hO4; clear h4 hS4 hO4))
    have hp : a ≤ p4 ∧ p4 < b := by
      have := H4.out
      have := HF.out
      omega
    obtain ⟨n, hcell, hbel⟩ := FIN.out w4 p4 HS4.out HO4.out hp
    have HBEL := Lib.hid hbel
    have HP := Lib.hid hp
    clear hbel hp
    by_cases n0 : n = 0
    · subst n0
      go_wp2
      go_ret2
      exact ⟨p4, _, rfl, HP.out, .inr (.inl rfl), HBEL.out⟩
    · by_cases n12 : n = 12
      · subst n12
        go_wp2
        go_ret2
        exact ⟨p4, _, rfl, HP.out, .inr (.inr rfl), HBEL.out⟩
      · go_wp2
        go_ret2
        exact ⟨p4, _, rfl, HP.out, .inl rfl, HBEL.out⟩
set_option maxRecDepth 100000 in
set_option maxHeartbeats 3200000 in
theorem reverse_any (blk off cap a b : Nat) (d : Array Int) (w : World) (hH : Holds encU w blk off d) (hab : a < b) (hb : b ≤ d.size) (hsz : d.size ≤ 100000) :
    Calls Tryz.prog 103 #[.slice (some ⟨blk, off, none⟩) d.size cap, .int .i64 a, .int .i64 b] w fun e w' =>
      e = .returned (.tuple #[]) ∧ Holds encU w' blk off (reverseRange d a b) ∧ Off [blk] w w' := by
  have HH := Lib.hid hH
  clear hH
  obtain ⟨j0, hj0⟩ : ∃ n : Nat, n = b - 1 := ⟨_, rfl⟩
  have zj0 : (b : Int) - 1 = (j0 : Int) := by omega
  have HJ0 := Lib.hid hj0
  have hj1 : j0 < d.size := by omega
  clear hj0
  go_enter Tryz.func103, Tryz.ntmps103
  go_wp2
  go_loopw [6, 7] (fun vi vj wr => ∃ (i j : Nat) (dk : Array Int), vi = .int .i64 i ∧ vj = .int .i64 j ∧ i ≤ j + 1 ∧ j < d.size ∧ dk.size = d.size ∧ Hid (Holds encU wr blk off dk) ∧ Hid (Off [blk] w wr) ∧ Hid (reverseLoop i j dk = reverseLoop a j0 d)) (fun vi vj _ => (intOf vj + 1 - intOf vi).toNat)
  case atStart => exact ⟨a, j0, d, rfl, rfl, by have := HJ0.out; omega, hj1, rfl, HH, Lib.hid (Off.refl _ _), Lib.hid rfl⟩
  case round =>
    obtain ⟨i, j, dk, rfl, rfl, hij, hjd, hsk, HHk, HOk, HI⟩ := hrel
    by_cases hlt : i < j
    · have hltz : (i : Int) < j := by omega
      obtain ⟨x, hx⟩ : ∃ x, x = dk[i]! := ⟨_, rfl⟩
      obtain ⟨y, hy⟩ : ∃ y, y = dk[j]! := ⟨_, rfl⟩
      have c1 : wr.cell? ⟨blk, off + i, none⟩ = some (.int .u32 x) := by rw [hx]; exact (HHk.out i (by omega)).1
      have c2 : wr.cell? ⟨blk, off + j, none⟩ = some (.int .u32 y) := by rw [hy]; exact (HHk.out j (by omega)).1
      have f1 := (HHk.out i (by omega)).2
      have f2 := (HHk.out j (by omega)).2
      have hid : i < d.size := by omega
      have hne : ¬ i = j := by omega
      have hne2 : ¬ j = i := by omega
      obtain ⟨hs1, hs2⟩ := swz HHk.out HOk.out (show i < dk.size by omega) (show j < dk.size by omega) hx hy
      have HS1 := Lib.hid hs1
      have HS2 := Lib.hid hs2
      clear hs1 hs2 hx hy
      go_upto_region 3 with fail
      go_region
      all_goals go_wp2
      all_goals go_roundw
      case rel => exact ⟨i + 1, j - 1, swp dk i j, by go_num, by go_num, by omega, by omega, by rw [size_swp]; exact hsk, HS1, Lib.hid HS2.out.drew, Lib.hid (by rw [← HI.out]; conv => rhs; rw [reverseLoop, if_pos hlt])⟩
      case measure => simp [intOf] <;> omega
    · have hltz : ¬ (i : Int) < j := by omega
      go_wp2
      go_end0
      have h1 := HI.out
      rw [reverseLoop, if_neg hlt] at h1
      exact ⟨rfl, by unfold reverseRange; rw [← HJ0.out, ← h1]; exact HHk.out, HOk.out⟩
end Go.Proofs.YtldmajifkmcdcaaGreat.U32
/-
  Go's own sort stirs a range, at uint32. No condition but those typed at each theorem.
-/
namespace Go.Proofs.YtldmajifkmcdcaaGreat.U32
open Go.RowKit Go.Sort
theorem Off.viaN {blk : Nat} {w X Y : World} (h : Off [blk] w X) (g : Off [w.heap.size] X Y) : Off [blk] w Y :=
  ⟨g.os.trans h.os, g.tape.trans h.tape, g.output.trans h.output, Nat.le_trans h.size g.size, fun k hk hS => (g.block k (Nat.lt_of_lt_of_le hk h.size) (fun e => by simp at e; omega)).trans (h.block k hk hS)⟩
theorem Holds.offN {w X Y : World} {blk off : Nat} {d : Array Int} (hH : Holds encU X blk off d) (h : Off [w.heap.size] X Y) (hne : w.heap.size ≠ blk) : Holds encU Y blk off d := Holds.offB hH h (by simpa using Ne.symm hne)
/-- a variable of one number of 64 bits -/
def XV (w : World) (S : Nat) : Prop := ∃ n : Int, w.heap[S]? = some (.cells #[.int .u64 n] 202 (0, 0))
theorem XV.swap {X : World} {S blk : Nat} (h : XV X S) (hne : S ≠ blk) (p q : Nat) (u v : Value) : XV ((X.setCell ⟨blk, p, none⟩ u).setCell ⟨blk, q, none⟩ v).drew S := by
  obtain ⟨n, hn⟩ := h
  exact ⟨n, ((Below.heap_setCell _ _ _ _ hne).trans (Below.heap_setCell _ _ _ _ hne)).trans hn⟩
set_option maxRecDepth 100000 in
set_option maxHeartbeats 3200000 in
theorem next_any' (S : Nat) (w : World) (hS : XV w S) :
    Calls Tryz.prog 121 #[.pointer (some ⟨S, 0, none⟩)] w fun e w' => ∃ x : Int, e = .returned (.int .u64 x) ∧ XV w' S ∧ Off [S] w w' := by
  obtain ⟨n, hn⟩ := hS
  have c := cell_of_one hn
  have f := free_of_one hn
  have HN := Lib.hid hn
  clear hn
  have HN0 := HN
  have HO0 := Lib.hid (Off.refl [S] w)
  have c0 := c
  have f0 := f
  clear c f HN
  go_enter Tryz.func121, Tryz.ntmps121
  go_upto_region 1 with fail
  go_region
  have HN1 := Lib.hid (show ((w.setCell ⟨S, 0, none⟩ (.int .u64 (bits .xor .u64 n (IntKind.u64.wrap (n * 8192))))).drew).heap[S]? = some (.cells #[.int .u64 (bits .xor .u64 n (IntKind.u64.wrap (n * 8192)))] 202 (0, 0)) from one_setCell HN0.out)
  have HO1 := Lib.hid ((HO0.out.set ⟨S, 0, none⟩ (.int .u64 (bits .xor .u64 n (IntKind.u64.wrap (n * 8192)))) (.inl (by simp))).drew)
  have c1 := cell_of_one HN1.out
  have f1 := free_of_one HN1.out
  clear c0 f0
  generalize (w.setCell ⟨S, 0, none⟩ (.int .u64 (bits .xor .u64 n (IntKind.u64.wrap (n * 8192))))).drew = w1 at *
  generalize bits .xor .u64 n (IntKind.u64.wrap (n * 8192)) = n1 at *
  go_upto_region 2 with fail
  go_region
  have HN2 := Lib.hid (show ((w1.setCell ⟨S, 0, none⟩ (.int .u64 (bits .xor .u64 n1 (n1 / 128)))).drew).heap[S]? = some (.cells #[.int .u64 (bits .xor .u64 n1 (n1 / 128))] 202 (0, 0)) from one_setCell HN1.out)
  have HO2 := Lib.hid ((HO1.out.set ⟨S, 0, none⟩ (.int .u64 (bits .xor .u64 n1 (n1 / 128))) (.inl (by simp))).drew)
  have c2 := cell_of_one HN2.out
  have f2 := free_of_one HN2.out
  clear c1 f1
  generalize (w1.setCell ⟨S, 0, none⟩ (.int .u64 (bits .xor .u64 n1 (n1 / 128)))).drew = w2 at *
  generalize bits .xor .u64 n1 (n1 / 128) = n2 at *
  go_upto_region 3 with fail
  go_region
  have HN3 := Lib.hid (show ((w2.setCell ⟨S, 0, none⟩ (.int .u64 (bits .xor .u64 n2 (IntKind.u64.wrap (n2 * 131072))))).drew).heap[S]? = some (.cells #[.int .u64 (bits .xor .u64 n2 (IntKind.u64.wrap (n2 * 131072)))] 202 (0, 0)) from one_setCell HN2.out)
  have HO3 := Lib.hid ((HO2.out.set ⟨S, 0, none⟩ (.int .u64 (bits .xor .u64 n2 (IntKind.u64.wrap (n2 * 131072)))) (.inl (by simp))).drew)
  have c3 := cell_of_one HN3.out
  have f3 := free_of_one HN3.out
  clear c2 f2
  generalize (w2.setCell ⟨S, 0, none⟩ (.int .u64 (bits .xor .u64 n2 (IntKind.u64.wrap (n2 * 131072))))).drew = w3 at *
  generalize bits .xor .u64 n2 (IntKind.u64.wrap (n2 * 131072)) = n3 at *
  go_wp2
  go_ret
  exact ⟨n3, rfl, ⟨n3, HN3.out⟩, HO3.out⟩
theorem bl_le : ∀ (f x : Nat), 0 < x → 2 ^ Lib.bitLenAux f x ≤ 2 * x
  | 0, x, h => by simp [Lib.bitLenAux]; omega
  | f + 1, x, h => by
    rw [Lib.bitLenAux, if_neg (by omega)]
    by_cases h1 : x / 2 = 0
    · rw [h1, show Lib.bitLenAux f 0 = 0 by cases f <;> simp [Lib.bitLenAux]]
      simp
      omega
    · have := bl_le f (x / 2) (by omega)
      rw [Nat.pow_add]
      omega
set_option maxRecDepth 100000 in
theorem pow2_any (n : Nat) (w : World) (hn : n ≤ 100000) (h0 : 0 < n) : Calls Tryz.prog 120 #[.int .i64 n] w fun e w' => (∃ m : Nat, 1 ≤ m ∧ m ≤ 2 * n ∧ e = .returned (.int .u64 m)) ∧ w' = w := by
  have hL := Tryz.bits_Len n w (by omega) (by omega)
  have hb := bl_le 64 n h0
  have hb2 : Lib.bitLen n ≤ 17 := by
    rcases Nat.lt_or_ge 17 (Lib.bitLen n) with h | h
    · have := Nat.pow_le_pow_right (show 0 < 2 by decide) (show 18 ≤ Lib.bitLen n by omega)
      have : 2 ^ Lib.bitLen n ≤ 2 * n := hb
      omega
    · exact h
  have hpos : 0 < 2 ^ Lib.bitLen n := Nat.pow_pos (by decide)
  have hb' : 2 ^ Lib.bitLen n ≤ 2 * n := hb
  have HL := Lib.hid hL
  clear hL hb
  go_enter Tryz.func120, Tryz.ntmps120
  go_wp2_with (go_at_call 32; (with_reducible refine HL.out.mono ?_); rintro e w1 ⟨rfl, rfl⟩)
  go_ret
  refine ⟨⟨2 ^ Lib.bitLen n, hpos, hb', ?_⟩, rfl⟩
  have hp : ((2 : Int) ^ Lib.bitLen n) = ((2 ^ Lib.bitLen n : Nat) : Int) := by simp
  show Ending.returned (.int .u64 (IntKind.u64.wrap (2 ^ Lib.bitLen n))) = _
  rw [IntKind.wrap_u64, hp]
  congr 2
  omega
theorem and_le (a : Int) (m : Nat) (hm : m < 18446744073709551616) : ∃ r : Nat, bits .and .u64 a (m : Int) = (r : Int) ∧ r ≤ m := by
  refine ⟨((BitVec.ofInt 64 a).toNat &&& m), ?_, Nat.and_le_right⟩
  show IntKind.u64.wrap ((BitVec.ofInt 64 a &&& BitVec.ofInt 64 (m : Int)).toNat : Int) = _
  have hx : (BitVec.ofInt 64 a).toNat &&& m < 2 ^ 64 := Nat.and_lt_two_pow _ (by omega)
  rw [BitVec.toNat_and, ofInt_u64 m hm, IntKind.wrap_u64]
  omega
set_option maxRecDepth 100000 in
set_option maxHeartbeats 12800000 in
theorem break_any (blk off cap a b : Nat) (d : Array Int) (w : World) (hH : Holds encU w blk off d) (hb : b ≤ d.size) (hab : a + 13 ≤ b) (hsz : d.size ≤ 100000) :
    Calls Tryz.prog 101 #[.slice (some ⟨blk, off, none⟩) d.size cap, .int .i64 a, .int .i64 b] w fun e w' =>
      e = .returned (.tuple #[]) ∧ ∃ d' : Array Int, d'.size = d.size ∧ Holds encU w' blk off d' ∧ Off [blk] w w' ∧ PermIn a b d d' := by
  have hlt := World.block_lt_of_cell? w _ (hH a (by omega)).1
  have hne : w.heap.size ≠ blk := by simp at hlt; omega
  obtain ⟨l, hl⟩ : ∃ n : Nat, n = b - a := ⟨_, rfl⟩
  obtain ⟨q, hq⟩ : ∃ n : Nat, n = l / 4 := ⟨_, rfl⟩
  obtain ⟨lo, hlo⟩ : ∃ n : Nat, n = a + q * 2 - 1 := ⟨_, rfl⟩
  obtain ⟨hi, hhi⟩ : ∃ n : Nat, n = a + q * 2 + 1 := ⟨_, rfl⟩
  have zl : (b : Int) - a = (l : Int) := by omega
  have zq : (l : Int).tdiv 4 = (q : Int) := by rw [hq]; rfl
  have zq2 : (l : Int) / 4 = (q : Int) := by omega
  have zlo : (a : Int) + (q : Int) * 2 - 1 = (lo : Int) := by omega
  have zhi : (a : Int) + (q : Int) * 2 + 1 = (hi : Int) := by omega
  have hl8 : (8 : Int) ≤ l := by omega
  have hlb : l ≤ 100000 := by omega
  have hqb : q ≤ 100000 := by omega
  have HFF := Lib.hid (show a + 5 ≤ lo ∧ lo + 2 = hi ∧ hi < b ∧ a + l = b by omega)
  have hhb : hi ≤ 100000 := by omega
  obtain ⟨W, hW⟩ : ∃ W, W = w.alloc (.cells #[.int .u64 l] 202) := ⟨_, rfl⟩
  have hX0 : XV W w.heap.size := by subst hW; exact ⟨_, heap_alloc_new w _⟩
  have hO0 : Off [blk] w W := by subst hW; exact (Off.refl _ w).all _
  have hH0 : Holds encU W blk off d := Holds.keepB hH (by subst hW; exact (Below.refl _ w).alloc (Nat.le_refl _) _)
  have HP2 := Lib.hid (pow2_any l W (by omega) (by omega))
  have HX0 := Lib.hid hX0
  have HO0 := Lib.hid hO0
  have HH0 := Lib.hid hH0
  clear hl hq hlo hhi hX0 hO0 hH0 hH hlt
  go_enter Tryz.func101, Tryz.ntmps101
  go_upto_region 3 with fail
  rw [← hW]
  have HW := Lib.hid hW
  clear hW
  go_wp2_with (go_at_call 120; (with_reducible refine HP2.out.mono ?_); rintro e w1 ⟨⟨m, hm1, hm2, rfl⟩, rfl⟩)
  obtain ⟨m1, hm⟩ : ∃ n : Nat, n = m - 1 := ⟨_, rfl⟩
  have zm : (m : Int) - 1 = (m1 : Int) := by omega
  have hm3 : m1 < 2 * l := by omega
  have HM := Lib.hid hm
  clear hm HP2
  go_loopw [9] (fun v wr => ∃ (j : Nat) (dk : Array Int), v = .int .i64 j ∧ lo ≤ j ∧ j ≤ hi + 1 ∧ dk.size = d.size ∧ Hid (Holds encU wr blk off dk) ∧ Hid (Off [blk] w wr) ∧ Hid (PermIn a b d dk) ∧ Hid (XV wr w.heap.size)) (fun v _ => (hi + 1 - intOf v).toNat)
  case atStart => exact ⟨lo, d, rfl, Nat.le_refl _, by have := HFF.out; omega, rfl, HH0, HO0, Lib.hid (permIn_refl _ _ _), HX0⟩
  case round =>
    clear HH0 HO0 HX0
    obtain ⟨j, dk, rfl, hj1, hj2, hsk, HHk, HOk, HP, HX⟩ := hrel
    by_cases hle : j ≤ hi
    · have hlez : (j : Int) ≤ hi := by omega
      have HC := Lib.hid (next_any' w.heap.size wr HX.out)
      have hand := Lib.hid (fun rx => and_le rx m1 (by omega))
      go_upto_region 8 with (go_at_call 121; (with_reducible refine HC.out.mono ?_); rintro e w2 ⟨rx, rfl, hX2, hO2⟩; obtain ⟨r, hr, hrm⟩ := hand.out rx; have HX2 := Lib.hid hX2; have HH2 := Lib.hid (Holds.offN HHk.out hO2 hne); have HO2 := Lib.hid (Off.viaN HOk.out hO2); clear hX2 hO2)
      by_cases hrl : r < l
      · have hrz : (r : Int) < l := by omega
        obtain ⟨o, ho⟩ : ∃ n : Nat, n = r := ⟨_, rfl⟩
        subst ho
        have hol : o < l := hrl
        clear hrl
        obtain ⟨ao, hao⟩ : ∃ n : Nat, n = a + o := ⟨_, rfl⟩
        have zao : (a : Int) + o = (ao : Int) := by omega
        obtain ⟨x, hx⟩ : ∃ x, x = dk[j]! := ⟨_, rfl⟩
        obtain ⟨y, hy⟩ : ∃ y, y = dk[ao]! := ⟨_, rfl⟩
        have hjd : j < d.size := by have := HFF.out; omega
        have hod : ao < d.size := by have := HFF.out; omega
        have c1 : w2.cell? ⟨blk, off + j, none⟩ = some (.int .u32 x) := by rw [hx]; exact (HH2.out j (by omega)).1
        have c2 : w2.cell? ⟨blk, off + ao, none⟩ = some (.int .u32 y) := by rw [hy]; exact (HH2.out ao (by omega)).1
        have f1 := (HH2.out j (by omega)).2
        have f2 := (HH2.out ao (by omega)).2
        obtain ⟨hs1, hs2⟩ := swz HH2.out HO2.out (show j < dk.size by omega) (show ao < dk.size by omega) hx hy
        have HS1 := Lib.hid hs1
        have HS2 := Lib.hid hs2
        have HAO := Lib.hid (show ao = a + o ∧ o < l from ⟨hao, hol⟩)
        have HXX := Lib.hid hx
        have HYY := Lib.hid hy
        clear hs1 hs2 hx hy hao hol
        by_cases hjo : j = ao
        · have hxy : x = y := by rw [HXX.out, HYY.out, hjo]
          subst hjo hxy
          go_upto_region 10 with fail
          have yao : IntKind.i64.wrap ((a : Int) + o) = (j : Int) := by rw [IntWalk.i64_in _ (by omega)]; exact zao
          go_region
          all_goals clear yao
          all_goals go_wp2
          all_goals go_roundw
          case rel => exact ⟨j + 1, swp dk j j, by go_num, by omega, by omega, by rw [size_swp]; exact hsk, HS1, Lib.hid HS2.out.drew, Lib.hid (permIn_trans _ _ _ _ _ HP.out (swp_permIn _ _ _ _ _ (by have := HFF.out; omega) (by have := HFF.out; omega) (by have := HFF.out; have := HAO.out; omega) (by have := HFF.out; have := HAO.out; omega) (by omega))), Lib.hid (XV.swap HX2.out hne _ _ _ _)⟩
          case measure => simp [intOf] <;> omega
        · have hjo2 : ¬ ao = j := fun e => hjo e.symm
          go_upto_region 10 with fail
          have yao : IntKind.i64.wrap ((a : Int) + o) = (ao : Int) := by rw [IntWalk.i64_in _ (by omega)]; exact zao
          go_region
          all_goals clear yao
          all_goals go_wp2
          all_goals go_roundw
          case rel => exact ⟨j + 1, swp dk j ao, by go_num, by omega, by omega, by rw [size_swp]; exact hsk, HS1, Lib.hid HS2.out.drew, Lib.hid (permIn_trans _ _ _ _ _ HP.out (swp_permIn _ _ _ _ _ (by have := HFF.out; omega) (by have := HFF.out; omega) (by have := HFF.out; have := HAO.out; omega) (by have := HFF.out; have := HAO.out; omega) (by omega))), Lib.hid (XV.swap HX2.out hne _ _ _ _)⟩
          case measure => simp [intOf] <;> omega
      · have hrz : ¬ (r : Int) < l := by omega
        obtain ⟨o, ho⟩ : ∃ n : Nat, n = r - l := ⟨_, rfl⟩
        have zo : (r : Int) - l = (o : Int) := by omega
        have hol : o < l := by omega
        clear ho hrl
        obtain ⟨ao, hao⟩ : ∃ n : Nat, n = a + o := ⟨_, rfl⟩
        have zao : (a : Int) + o = (ao : Int) := by omega
        obtain ⟨x, hx⟩ : ∃ x, x = dk[j]! := ⟨_, rfl⟩
        obtain ⟨y, hy⟩ : ∃ y, y = dk[ao]! := ⟨_, rfl⟩
        have hjd : j < d.size := by have := HFF.out; omega
        have hod : ao < d.size := by have := HFF.out; omega
        have c1 : w2.cell? ⟨blk, off + j, none⟩ = some (.int .u32 x) := by rw [hx]; exact (HH2.out j (by omega)).1
        have c2 : w2.cell? ⟨blk, off + ao, none⟩ = some (.int .u32 y) := by rw [hy]; exact (HH2.out ao (by omega)).1
        have f1 := (HH2.out j (by omega)).2
        have f2 := (HH2.out ao (by omega)).2
        obtain ⟨hs1, hs2⟩ := swz HH2.out HO2.out (show j < dk.size by omega) (show ao < dk.size by omega) hx hy
        have HS1 := Lib.hid hs1
        have HS2 := Lib.hid hs2
        have HAO := Lib.hid (show ao = a + o ∧ o < l from ⟨hao, hol⟩)
        have HXX := Lib.hid hx
        have HYY := Lib.hid hy
        clear hs1 hs2 hx hy hao hol
        by_cases hjo : j = ao
        · have hxy : x = y := by rw [HXX.out, HYY.out, hjo]
          subst hjo hxy
          go_upto_region 10 with fail
          have yao : IntKind.i64.wrap ((a : Int) + o) = (j : Int) := by rw [IntWalk.i64_in _ (by omega)]; exact zao
          go_region
          all_goals clear yao
          all_goals go_wp2
          all_goals go_roundw
          case rel => exact ⟨j + 1, swp dk j j, by go_num, by omega, by omega, by rw [size_swp]; exact hsk, HS1, Lib.hid HS2.out.drew, Lib.hid (permIn_trans _ _ _ _ _ HP.out (swp_permIn _ _ _ _ _ (by have := HFF.out; omega) (by have := HFF.out; omega) (by have := HFF.out; have := HAO.out; omega) (by have := HFF.out; have := HAO.out; omega) (by omega))), Lib.hid (XV.swap HX2.out hne _ _ _ _)⟩
          case measure => simp [intOf] <;> omega
        · have hjo2 : ¬ ao = j := fun e => hjo e.symm
          go_upto_region 10 with fail
          have yao : IntKind.i64.wrap ((a : Int) + o) = (ao : Int) := by rw [IntWalk.i64_in _ (by omega)]; exact zao
          go_region
          all_goals clear yao
          all_goals go_wp2
          all_goals go_roundw
          case rel => exact ⟨j + 1, swp dk j ao, by go_num, by omega, by omega, by rw [size_swp]; exact hsk, HS1, Lib.hid HS2.out.drew, Lib.hid (permIn_trans _ _ _ _ _ HP.out (swp_permIn _ _ _ _ _ (by have := HFF.out; omega) (by have := HFF.out; omega) (by have := HFF.out; have := HAO.out; omega) (by have := HFF.out; have := HAO.out; omega) (by omega))), Lib.hid (XV.swap HX2.out hne _ _ _ _)⟩
          case measure => simp [intOf] <;> omega
    · have hlez : ¬ (j : Int) ≤ hi := by omega
      go_wp2
      go_end0
      exact ⟨rfl, dk, hsk, HHk.out, HOk.out, HP.out⟩
end Go.Proofs.YtldmajifkmcdcaaGreat.U32
/-
  Go's own sort parts a range, at uint32. No condition but those typed at each theorem.
-/
namespace Go.Proofs.YtldmajifkmcdcaaGreat.U32
open Go.RowKit Go.Sort
/-- where parting stands: from a on, below i, those of which P holds; above j those of which it does not -/
structure PI (P : Int → Bool) (p : Int) (d0 d : Array Int) (a b i j : Nat) : Prop where
  perm : PermIn a b d0 d
  pa : d[a]! = p
  low : ∀ t, a < t → t < i → P d[t]! = true
  high : ∀ t, j < t → t < b → P d[t]! = false
  bnd : a < i ∧ i ≤ j + 1 ∧ j < b ∧ b ≤ d0.size ∧ d.size = d0.size
section
variable {P : Int → Bool} {p : Int} {d0 d : Array Int} {a b i j : Nat}
theorem PI.up (h : PI P p d0 d a b i j) (hij : i ≤ j) (hP : P d[i]! = true) : PI P p d0 d a b (i + 1) j :=
  ⟨h.perm, h.pa, fun t h1 h2 => (Decidable.em (t = i)).elim (fun e => e ▸ hP) (fun e => h.low t h1 (by omega)), h.high, by have := h.bnd; omega⟩
theorem PI.down (h : PI P p d0 d a b i j) (hij : i ≤ j) (hP : P d[j]! = false) : PI P p d0 d a b i (j - 1) :=
  ⟨h.perm, h.pa, h.low, fun t h1 h2 => (Decidable.em (t = j)).elim (fun e => e ▸ hP) (fun e => h.high t (by omega) h2), by have := h.bnd; omega⟩
theorem PI.swap (h : PI P p d0 d a b i j) (hij : i ≤ j) (hi : P d[i]! = false) (hj : P d[j]! = true) : PI P p d0 (swp d i j) a b (i + 1) (j - 1) := by
  have hb := h.bnd
  have hne : i ≠ j := fun e => by rw [e, hj] at hi; cases hi
  refine ⟨permIn_trans _ _ _ _ _ h.perm (swp_permIn _ _ _ _ _ (by omega) (by omega) (by omega) (by omega) (by omega)), ?_, ?_, ?_, ?_⟩
  · rw [swp_other _ _ _ _ (by omega) (by omega)]; exact h.pa
  · intro t h1 h2
    by_cases e : t = i
    · subst e; rw [swp_left _ _ _ (by omega) hne]; exact hj
    · rw [swp_other _ _ _ _ e (by omega)]; exact h.low t h1 (by omega)
  · intro t h1 h2
    by_cases e : t = j
    · subst e; rw [swp_right _ _ _ (by omega)]; exact hi
    · rw [swp_other _ _ _ _ (by omega) e]; exact h.high t (by omega) h2
  · rw [size_swp]; omega
theorem PI.start (P : Int → Bool) (d : Array Int) (a b pv : Nat) (h1 : a ≤ pv) (h2 : pv < b) (h3 : b ≤ d.size) : PI P d[pv]! d (swp d a pv) a b (a + 1) (b - 1) := by
  refine ⟨swp_permIn _ _ _ _ _ (by omega) (by omega) h1 h2 h3, ?_, by intro t h4 h5; omega, by intro t h4 h5; omega, by rw [size_swp]; omega⟩
  by_cases e : a = pv
  · subst e; rw [swp_right _ _ _ (by omega)]
  · rw [swp_left _ _ _ (by omega) e]
end
/-- parting is done -/
def PEQ (P : Int → Bool) (p : Int) (w : World) (blk off : Nat) (d : Array Int) (a b : Nat) (e : Ending) (w' : World) : Prop :=
  ∃ (i j : Nat) (d' : Array Int), e = .returned (.int .i64 i) ∧ d'.size = d.size ∧ Holds encU w' blk off d' ∧ Off [blk] w w' ∧ PI P p d d' a b i j ∧ j < i
set_option maxRecDepth 100000 in
set_option maxHeartbeats 25600000 in
theorem partEq_any (blk off cap a b pv : Nat) (d : Array Int) (w : World) (P : Int → Bool) (p : Int) (hp : p = d[pv]!) (hP : ∀ x, P x = !ltInt p x) (hH : Holds encU w blk off d) (hav : a ≤ pv) (hvb : pv < b) (hb : b ≤ d.size) (hsz : d.size ≤ 100000) :
    Calls Tryz.prog 105 #[.slice (some ⟨blk, off, none⟩) d.size cap, .int .i64 a, .int .i64 b, .int .i64 pv] w (PEQ P p w blk off d a b) := by
  have HHk := Lib.hid hH
  have HOk := Lib.hid (Off.refl [blk] w)
  have HP0 := Lib.hid (hp ▸ PI.start P d a b pv hav hvb hb)
  have hps := size_swp d a pv
  have ga : a < d.size := by omega
  have gp : pv < d.size := by omega
  clear hH hp
  go_enter Tryz.func105, Tryz.ntmps105
  go_upto_region 1 with fail
  obtain ⟨x, hx⟩ : ∃ x, x = d[a]! := ⟨_, rfl⟩
  obtain ⟨y, hy⟩ : ∃ y, y = d[pv]! := ⟨_, rfl⟩
  have c1 : w.cell? ⟨blk, off + a, none⟩ = some (.int .u32 x) := by rw [hx]; exact (HHk.out a (by omega)).1
  have c2 : w.cell? ⟨blk, off + pv, none⟩ = some (.int .u32 y) := by rw [hy]; exact (HHk.out pv (by omega)).1
  have f1 := (HHk.out a (by omega)).2
  have f2 := (HHk.out pv (by omega)).2
  obtain ⟨hs1, hs2⟩ := swz HHk.out HOk.out (show a < (d).size by omega) (show pv < (d).size by omega) hx hy
  have HS1 := Lib.hid hs1
  have HS2 := Lib.hid hs2
  have HXX := Lib.hid hx
  have HYY := Lib.hid hy
  clear hs1 hs2 hx hy HHk HOk
  go_cut [24] (fun _ wx => Hid (Holds encU wx blk off (swp (d) a pv)) ∧ Hid (Off [blk] w wx))
  case first =>
    by_cases hsame : a = pv
    · have hxy : x = y := by rw [HXX.out, HYY.out, hsame]
      subst hxy
      rw [hsame] at HS1 HS2
      go_region
      all_goals go_wp2_with fail
      all_goals go_meet
      all_goals exact ⟨Lib.hid (by rw [hsame]; exact HS1.out), Lib.hid HS2.out.drew⟩
    · have hsame2 : ¬ pv = a := fun e => hsame e.symm
      go_region
      all_goals go_wp2_with fail
      all_goals go_meet
      all_goals exact ⟨HS1, Lib.hid HS2.out.drew⟩
  case rest =>
    clear c1 c2 f1 f2 HS1 HS2 HXX HYY
    obtain ⟨HH0, HO0⟩ := hcut
    obtain ⟨j0, hj0⟩ : ∃ n : Nat, n = b - 1 := ⟨_, rfl⟩
    have zj0 : (b : Int) - 1 = (j0 : Int) := by omega
    rw [← hj0] at HP0
    clear hj0
    go_wp2_with fail
    go_loopw [9, 10] (fun vi vj wr => ∃ (i j : Nat) (dk : Array Int), vi = .int .i64 i ∧ vj = .int .i64 j ∧ dk.size = d.size ∧ Hid (PI P p d dk a b i j) ∧ Hid (Holds encU wr blk off dk) ∧ Hid (Off [blk] w wr)) (fun vi vj _ => (intOf vj + 2 - intOf vi).toNat)
    case atStart => exact ⟨a + 1, j0, swp d a pv, by go_num, rfl, hps, HP0, HH0, HO0⟩
    case round =>
      clear HP0 HH0 HO0 hps
      obtain ⟨i, j, dk, rfl, rfl, hsk, HPI, HHk, HOk⟩ := hrel
      have hbS := HPI.out.bnd
      obtain ⟨iS, hi⟩ : ∃ n, n = i := ⟨_, rfl⟩
      obtain ⟨jS, hj⟩ : ∃ n, n = j := ⟨_, rfl⟩
      have hiS : iS ≤ i := by omega
      have hjS : j ≤ jS := by omega
      have HIS := Lib.hid hi
      have HJS := Lib.hid hj
      clear hi hj
      go_upto_block 2 with fail
      go_cut [9] (fun v wr => ∃ i : Nat, v = .int .i64 i ∧ iS ≤ i ∧ Hid (PI P p d dk a b i j) ∧ Hid (j < i ∨ P dk[i]! = false) ∧ Hid (Holds encU wr blk off dk) ∧ Hid (Off [blk] w wr))
      case first =>
        go_wp2_with fail
        go_loopw [9] (fun v wr => ∃ i : Nat, v = .int .i64 i ∧ iS ≤ i ∧ Hid (PI P p d dk a b i j) ∧ Hid (Holds encU wr blk off dk) ∧ Hid (Off [blk] w wr)) (fun v _ => (j + 1 - intOf v).toNat)
        case atStart => exact ⟨i, rfl, hiS, HPI, HHk, HOk⟩
        case round =>
          clear HPI HHk HOk hiS
          obtain ⟨i, rfl, hiS, HPI, HHk, HOk⟩ := hrel
          have hbd := HPI.out.bnd
          have hpa := HPI.out.pa
          have inst : Nonempty (Wd (Bw wr)) := ⟨⟨wr, Below.refl _ _⟩⟩
          by_cases hij : i ≤ j
          ·
            have hijz : (i : Int) ≤ j := by omega
            obtain ⟨x, hx⟩ : ∃ x, x = dk[i]! := ⟨_, rfl⟩
            have q1 := Hq HHk.out (show i < dk.size by omega) hx
            have q2 := Hq HHk.out (show a < dk.size by omega) hpa.symm
            have g1 : i < d.size := by omega
            have g2 : a < d.size := by omega
            obtain ⟨q, hq⟩ : ∃ q, q = ltInt p x := ⟨_, rfl⟩
            have HL := Lib.hid (lessQ hq)
            have hPx : P dk[i]! = !q := by rw [← hx, hq, hP]
            have HPX := Lib.hid hPx
            clear hx hq hPx hpa hbd
            go_upto_region 3 with fail
            refine wp_region_wd (Bw wr) (by kernel_rfl) (by kernel_rfl) ((Below.refl _ wr).drew) ?_
            repeat (first | go_big_quiet_step (first | (go_at_call 85; with_reducible exact calls_wd (fun _ _ h hb => h.keep hb) _ (HL.out _))) | quiet_step (first | (go_at_call 85; with_reducible exact calls_wd (fun _ _ h hb => h.keep hb) _ (HL.out _))))
            refine wpQuiet_nil ?_
            rintro _ ⟨s, rfl⟩
            have HH2 := Lib.hid (Holds.keepB HHk.out s.h)
            have HO2 := Lib.hid (HOk.out.bel s.h)
            generalize s.w = w2 at *
            clear q1 q2 s inst HHk HOk
            have hbd := HPI.out.bnd
            cases q
            ·
              go_wp2
              go_roundw
              case rel => exact ⟨i + 1, by go_num, by omega, Lib.hid (HPI.out.up hij (by rw [HPX.out]; rfl)), HH2, HO2⟩
              case measure => simp [intOf] <;> omega
            ·
              go_wp2_with fail
              go_meet
              exact ⟨i, rfl, hiS, HPI, Lib.hid (.inr (by rw [HPX.out]; rfl)), HH2, HO2⟩
          ·
            have hijz : ¬ (i : Int) ≤ j := by omega
            go_upto_region 3 with fail
            refine wp_region_wd (Bw wr) (by kernel_rfl) (by kernel_rfl) ((Below.refl _ wr).drew) ?_
            repeat (first | go_big_quiet_step (fail) | quiet_step (fail))
            refine wpQuiet_nil ?_
            rintro _ ⟨s, rfl⟩
            have HH2 := Lib.hid (Holds.keepB HHk.out s.h)
            have HO2 := Lib.hid (HOk.out.bel s.h)
            go_wp2_with fail
            go_meet
            exact ⟨i, rfl, hiS, HPI, Lib.hid (.inl (by omega)), HH2, HO2⟩
      case rest =>
        clear HPI HHk HOk hiS
        obtain ⟨i, rfl, hiS, HPI, HE1, HHk, HOk⟩ := hcut
        go_upto_block 4 with fail
        go_cut [10] (fun v wr => ∃ j : Nat, v = .int .i64 j ∧ j ≤ jS ∧ Hid (PI P p d dk a b i j) ∧ Hid (j < i ∨ P dk[i]! = false) ∧ Hid (j < i ∨ P dk[j]! = true) ∧ Hid (Holds encU wr blk off dk) ∧ Hid (Off [blk] w wr))
        case first =>
          go_wp2_with fail
          go_loopw [10] (fun v wr => ∃ j : Nat, v = .int .i64 j ∧ j ≤ jS ∧ Hid (PI P p d dk a b i j) ∧ Hid (j < i ∨ P dk[i]! = false) ∧ Hid (Holds encU wr blk off dk) ∧ Hid (Off [blk] w wr)) (fun v _ => (intOf v + 1 - i).toNat)
          case atStart => exact ⟨j, rfl, hjS, HPI, HE1, HHk, HOk⟩
          case round =>
            clear HPI HHk HOk HE1 hjS
            obtain ⟨j, rfl, hjS, HPI, HE1, HHk, HOk⟩ := hrel
            have hbd := HPI.out.bnd
            have hpa := HPI.out.pa
            have inst : Nonempty (Wd (Bw wr)) := ⟨⟨wr, Below.refl _ _⟩⟩
            by_cases hij : i ≤ j
            ·
              have hijz : (i : Int) ≤ j := by omega
              obtain ⟨x, hx⟩ : ∃ x, x = dk[j]! := ⟨_, rfl⟩
              have q1 := Hq HHk.out (show j < dk.size by omega) hx
              have q2 := Hq HHk.out (show a < dk.size by omega) hpa.symm
              have g1 : j < d.size := by omega
              have g2 : a < d.size := by omega
              obtain ⟨q, hq⟩ : ∃ q, q = ltInt p x := ⟨_, rfl⟩
              have HL := Lib.hid (lessQ hq)
              have hPx : P dk[j]! = !q := by rw [← hx, hq, hP]
              have HPX := Lib.hid hPx
              clear hx hq hPx hpa hbd
              go_upto_region 5 with fail
              refine wp_region_wd (Bw wr) (by kernel_rfl) (by kernel_rfl) ((Below.refl _ wr).drew) ?_
              repeat (first | go_big_quiet_step (first | (go_at_call 85; with_reducible exact calls_wd (fun _ _ h hb => h.keep hb) _ (HL.out _))) | quiet_step (first | (go_at_call 85; with_reducible exact calls_wd (fun _ _ h hb => h.keep hb) _ (HL.out _))))
              refine wpQuiet_nil ?_
              rintro _ ⟨s, rfl⟩
              have HH2 := Lib.hid (Holds.keepB HHk.out s.h)
              have HO2 := Lib.hid (HOk.out.bel s.h)
              generalize s.w = w2 at *
              clear q1 q2 s inst HHk HOk
              have hbd := HPI.out.bnd
              cases q
              ·
                go_wp2_with fail
                go_meet
                exact ⟨j, rfl, hjS, HPI, HE1, Lib.hid (.inr (by rw [HPX.out]; rfl)), HH2, HO2⟩
              ·
                go_wp2
                go_roundw
                case rel => exact ⟨j - 1, by go_num, by omega, Lib.hid (HPI.out.down hij (by rw [HPX.out]; rfl)), Lib.hid (HE1.out.elim (fun h => .inl (by omega)) .inr), HH2, HO2⟩
                case measure => simp [intOf] <;> omega
            ·
              have hijz : ¬ (i : Int) ≤ j := by omega
              go_upto_region 5 with fail
              refine wp_region_wd (Bw wr) (by kernel_rfl) (by kernel_rfl) ((Below.refl _ wr).drew) ?_
              repeat (first | go_big_quiet_step (fail) | quiet_step (fail))
              refine wpQuiet_nil ?_
              rintro _ ⟨s, rfl⟩
              have HH2 := Lib.hid (Holds.keepB HHk.out s.h)
              have HO2 := Lib.hid (HOk.out.bel s.h)
              go_wp2_with fail
              go_meet
              exact ⟨j, rfl, hjS, HPI, HE1, Lib.hid (.inl (by omega)), HH2, HO2⟩
        case rest =>
          clear HPI HHk HOk HE1 hjS
          obtain ⟨j, rfl, hjS, HPI, HE1, HE2, HHk, HOk⟩ := hcut
          by_cases hfin : j < i
          · have hfz : (j : Int) < i := by omega
            go_wp2
            go_ret
            exact ⟨i, j, dk, rfl, hsk, HHk.out, HOk.out, HPI.out, hfin⟩
          · have hfz : ¬ (j : Int) < i := by omega
            have hPi : P dk[i]! = false := HE1.out.resolve_left hfin
            have hPj : P dk[j]! = true := HE2.out.resolve_left hfin
            have HPS := Lib.hid (HPI.out.swap (by omega) hPi hPj)
            have hb := HPI.out.bnd
            have hij : ¬ i = j := fun e => by rw [e, hPj] at hPi; cases hPi
            clear hPi hPj
            obtain ⟨x, hx⟩ : ∃ x, x = dk[i]! := ⟨_, rfl⟩
            obtain ⟨y, hy⟩ : ∃ y, y = dk[j]! := ⟨_, rfl⟩
            have hji : ¬ j = i := fun e => hij e.symm
            have g1 : i < d.size := by omega
            have g2 : j < d.size := by omega
            have c1 : wc.cell? ⟨blk, off + i, none⟩ = some (.int .u32 x) := by rw [hx]; exact (HHk.out i (by omega)).1
            have c2 : wc.cell? ⟨blk, off + j, none⟩ = some (.int .u32 y) := by rw [hy]; exact (HHk.out j (by omega)).1
            have f1 := (HHk.out i (by omega)).2
            have f2 := (HHk.out j (by omega)).2
            obtain ⟨hs1, hs2⟩ := swz HHk.out HOk.out (show i < dk.size by omega) (show j < dk.size by omega) hx hy
            have HS1 := Lib.hid hs1
            have HS2 := Lib.hid hs2
            clear hs1 hs2 hx hy HE1 HE2
            go_upto_region 8 with fail
            go_region
            all_goals go_wp2
            all_goals go_roundw
            case rel => exact ⟨i + 1, j - 1, swp dk i j, by go_num, by go_num, by rw [size_swp]; exact hsk, HPS, HS1, Lib.hid HS2.out.drew⟩
            case measure => (have := HIS.out; have := HJS.out; simp [intOf]; omega)
end Go.Proofs.YtldmajifkmcdcaaGreat.U32
/-
  Go's own sort parts a range by one of its numbers, at uint32. No condition but those typed at each theorem.
-/
namespace Go.Proofs.YtldmajifkmcdcaaGreat.U32
open Go.RowKit Go.Sort
/-- parting is done: what lay at a comes to its place -/
def PTN (P : Int → Bool) (p : Int) (w : World) (blk off : Nat) (d : Array Int) (a b : Nat) (e : Ending) (w' : World) : Prop :=
  ∃ (i j : Nat) (r : Bool) (dk : Array Int), e = .returned (.tuple #[.int .i64 j, .bool r]) ∧ dk.size = d.size ∧ Holds encU w' blk off (swp dk j a) ∧ Off [blk] w w' ∧ PI P p d dk a b i j ∧ j < i
set_option maxRecDepth 100000 in
set_option maxHeartbeats 25600000 in
theorem part_any (blk off cap a b pv : Nat) (d : Array Int) (w : World) (P : Int → Bool) (p : Int) (hp : p = d[pv]!) (hP : ∀ x, P x = ltInt x p) (hH : Holds encU w blk off d) (hav : a ≤ pv) (hvb : pv < b) (hb : b ≤ d.size) (hsz : d.size ≤ 100000) :
    Calls Tryz.prog 106 #[.slice (some ⟨blk, off, none⟩) d.size cap, .int .i64 a, .int .i64 b, .int .i64 pv] w (PTN P p w blk off d a b) := by
  have HHk := Lib.hid hH
  have HOk := Lib.hid (Off.refl [blk] w)
  have HP0 := Lib.hid (hp ▸ PI.start P d a b pv hav hvb hb)
  have hps := size_swp d a pv
  have ga : a < d.size := by omega
  have gp : pv < d.size := by omega
  clear hH hp
  go_enter Tryz.func106, Tryz.ntmps106
  go_upto_region 1 with fail
  obtain ⟨x, hx⟩ : ∃ x, x = d[a]! := ⟨_, rfl⟩
  obtain ⟨y, hy⟩ : ∃ y, y = d[pv]! := ⟨_, rfl⟩
  have c1 : w.cell? ⟨blk, off + a, none⟩ = some (.int .u32 x) := by rw [hx]; exact (HHk.out a (by omega)).1
  have c2 : w.cell? ⟨blk, off + pv, none⟩ = some (.int .u32 y) := by rw [hy]; exact (HHk.out pv (by omega)).1
  have f1 := (HHk.out a (by omega)).2
  have f2 := (HHk.out pv (by omega)).2
  obtain ⟨hs1, hs2⟩ := swz HHk.out HOk.out (show a < (d).size by omega) (show pv < (d).size by omega) hx hy
  have HS1 := Lib.hid hs1
  have HS2 := Lib.hid hs2
  have HXX := Lib.hid hx
  have HYY := Lib.hid hy
  clear hs1 hs2 hx hy HHk HOk
  go_cut [25] (fun _ wx => Hid (Holds encU wx blk off (swp (d) a pv)) ∧ Hid (Off [blk] w wx))
  case first =>
    by_cases hsame : a = pv
    · have hxy : x = y := by rw [HXX.out, HYY.out, hsame]
      subst hxy
      rw [hsame] at HS1 HS2
      go_region
      all_goals go_wp2_with fail
      all_goals go_meet
      all_goals exact ⟨Lib.hid (by rw [hsame]; exact HS1.out), Lib.hid HS2.out.drew⟩
    · have hsame2 : ¬ pv = a := fun e => hsame e.symm
      go_region
      all_goals go_wp2_with fail
      all_goals go_meet
      all_goals exact ⟨HS1, Lib.hid HS2.out.drew⟩
  case rest =>
    clear c1 c2 f1 f2 HS1 HS2 HXX HYY x y
    obtain ⟨HHk, HOk⟩ := hcut
    obtain ⟨j, hj0⟩ : ∃ n : Nat, n = b - 1 := ⟨_, rfl⟩
    have zj0 : (b : Int) - 1 = (j : Int) := by omega
    obtain ⟨i, hi0⟩ : ∃ n : Nat, n = a + 1 := ⟨_, rfl⟩
    have zi0 : (a : Int) + 1 = (i : Int) := by omega
    rw [← hj0, ← hi0] at HP0
    have HPI := HP0
    have hsk := hps
    obtain ⟨dk, hdk⟩ : ∃ dk, dk = swp d a pv := ⟨_, rfl⟩
    rw [← hdk] at HPI HHk hsk
    clear hj0 hi0 hdk HP0 hps
    obtain ⟨iS, hi⟩ : ∃ n, n = i := ⟨_, rfl⟩
    obtain ⟨jS, hj⟩ : ∃ n, n = j := ⟨_, rfl⟩
    have hiS : iS ≤ i := by omega
    have hjS : j ≤ jS := by omega
    have HIS := Lib.hid hi
    have HJS := Lib.hid hj
    clear hi hj
    go_upto_block 0 with fail
    go_cut [10] (fun v wr => ∃ i : Nat, v = .int .i64 i ∧ iS ≤ i ∧ Hid (PI P p d dk a b i j) ∧ Hid (j < i ∨ P dk[i]! = false) ∧ Hid (Holds encU wr blk off dk) ∧ Hid (Off [blk] w wr))
    case first =>
      go_wp2_with fail
      go_loopw [10] (fun v wr => ∃ i : Nat, v = .int .i64 i ∧ iS ≤ i ∧ Hid (PI P p d dk a b i j) ∧ Hid (Holds encU wr blk off dk) ∧ Hid (Off [blk] w wr)) (fun v _ => (j + 1 - intOf v).toNat)
      case atStart => exact ⟨i, rfl, hiS, HPI, HHk, HOk⟩
      case round =>
        clear HPI HHk HOk hiS
        obtain ⟨i, rfl, hiS, HPI, HHk, HOk⟩ := hrel
        have hbd := HPI.out.bnd
        have hpa := HPI.out.pa
        have inst : Nonempty (Wd (Bw wr)) := ⟨⟨wr, Below.refl _ _⟩⟩
        by_cases hij : i ≤ j
        ·
          have hijz : (i : Int) ≤ j := by omega
          obtain ⟨x, hx⟩ : ∃ x, x = dk[i]! := ⟨_, rfl⟩
          have q1 := Hq HHk.out (show i < dk.size by omega) hx
          have q2 := Hq HHk.out (show a < dk.size by omega) hpa.symm
          have g1 : i < d.size := by omega
          have g2 : a < d.size := by omega
          obtain ⟨q, hq⟩ : ∃ q, q = ltInt x p := ⟨_, rfl⟩
          have HL := Lib.hid (lessQ hq)
          have hPx : P dk[i]! = q := by rw [← hx, hq, hP]
          have HPX := Lib.hid hPx
          clear hx hq hPx hpa hbd
          go_upto_region 3 with fail
          refine wp_region_wd (Bw wr) (by kernel_rfl) (by kernel_rfl) ((Below.refl _ wr).drew) ?_
          repeat (first | go_big_quiet_step (first | (go_at_call 85; with_reducible exact calls_wd (fun _ _ h hb => h.keep hb) _ (HL.out _))) | quiet_step (first | (go_at_call 85; with_reducible exact calls_wd (fun _ _ h hb => h.keep hb) _ (HL.out _))))
          refine wpQuiet_nil ?_
          rintro _ ⟨s, rfl⟩
          have HH2 := Lib.hid (Holds.keepB HHk.out s.h)
          have HO2 := Lib.hid (HOk.out.bel s.h)
          generalize s.w = w2 at *
          clear q1 q2 s inst HHk HOk
          have hbd := HPI.out.bnd
          cases q
          ·
            go_wp2_with fail
            go_meet
            exact ⟨i, rfl, hiS, HPI, Lib.hid (.inr HPX.out), HH2, HO2⟩
          ·
            go_wp2
            go_roundw
            case rel => exact ⟨i + 1, by go_num, by omega, Lib.hid (HPI.out.up hij HPX.out), HH2, HO2⟩
            case measure => simp [intOf] <;> omega
        ·
          have hijz : ¬ (i : Int) ≤ j := by omega
          go_upto_region 3 with fail
          refine wp_region_wd (Bw wr) (by kernel_rfl) (by kernel_rfl) ((Below.refl _ wr).drew) ?_
          repeat (first | go_big_quiet_step (fail) | quiet_step (fail))
          refine wpQuiet_nil ?_
          rintro _ ⟨s, rfl⟩
          have HH2 := Lib.hid (Holds.keepB HHk.out s.h)
          have HO2 := Lib.hid (HOk.out.bel s.h)
          go_wp2_with fail
          go_meet
          exact ⟨i, rfl, hiS, HPI, Lib.hid (.inl (by omega)), HH2, HO2⟩
    case rest =>
      clear HPI HHk HOk hiS
      obtain ⟨i, rfl, hiS, HPI, HE1, HHk, HOk⟩ := hcut
      go_upto_block 2 with fail
      go_cut [11] (fun v wr => ∃ j : Nat, v = .int .i64 j ∧ j ≤ jS ∧ Hid (PI P p d dk a b i j) ∧ Hid (j < i ∨ P dk[i]! = false) ∧ Hid (j < i ∨ P dk[j]! = true) ∧ Hid (Holds encU wr blk off dk) ∧ Hid (Off [blk] w wr))
      case first =>
        go_wp2_with fail
        go_loopw [11] (fun v wr => ∃ j : Nat, v = .int .i64 j ∧ j ≤ jS ∧ Hid (PI P p d dk a b i j) ∧ Hid (j < i ∨ P dk[i]! = false) ∧ Hid (Holds encU wr blk off dk) ∧ Hid (Off [blk] w wr)) (fun v _ => (intOf v + 1 - i).toNat)
        case atStart => exact ⟨j, rfl, hjS, HPI, HE1, HHk, HOk⟩
        case round =>
          clear HPI HHk HOk HE1 hjS
          obtain ⟨j, rfl, hjS, HPI, HE1, HHk, HOk⟩ := hrel
          have hbd := HPI.out.bnd
          have hpa := HPI.out.pa
          have inst : Nonempty (Wd (Bw wr)) := ⟨⟨wr, Below.refl _ _⟩⟩
          by_cases hij : i ≤ j
          ·
            have hijz : (i : Int) ≤ j := by omega
            obtain ⟨x, hx⟩ : ∃ x, x = dk[j]! := ⟨_, rfl⟩
            have q1 := Hq HHk.out (show j < dk.size by omega) hx
            have q2 := Hq HHk.out (show a < dk.size by omega) hpa.symm
            have g1 : j < d.size := by omega
            have g2 : a < d.size := by omega
            obtain ⟨q, hq⟩ : ∃ q, q = ltInt x p := ⟨_, rfl⟩
            have HL := Lib.hid (lessQ hq)
            have hPx : P dk[j]! = q := by rw [← hx, hq, hP]
            have HPX := Lib.hid hPx
            clear hx hq hPx hpa hbd
            go_upto_region 5 with fail
            refine wp_region_wd (Bw wr) (by kernel_rfl) (by kernel_rfl) ((Below.refl _ wr).drew) ?_
            repeat (first | go_big_quiet_step (first | (go_at_call 85; with_reducible exact calls_wd (fun _ _ h hb => h.keep hb) _ (HL.out _))) | quiet_step (first | (go_at_call 85; with_reducible exact calls_wd (fun _ _ h hb => h.keep hb) _ (HL.out _))))
            refine wpQuiet_nil ?_
            rintro _ ⟨s, rfl⟩
            have HH2 := Lib.hid (Holds.keepB HHk.out s.h)
            have HO2 := Lib.hid (HOk.out.bel s.h)
            generalize s.w = w2 at *
            clear q1 q2 s inst HHk HOk
            have hbd := HPI.out.bnd
            cases q
            ·
              go_wp2
              go_roundw
              case rel => exact ⟨j - 1, by go_num, by omega, Lib.hid (HPI.out.down hij HPX.out), Lib.hid (HE1.out.elim (fun h => .inl (by omega)) .inr), HH2, HO2⟩
              case measure => simp [intOf] <;> omega
            ·
              go_wp2_with fail
              go_meet
              exact ⟨j, rfl, hjS, HPI, HE1, Lib.hid (.inr HPX.out), HH2, HO2⟩
          ·
            have hijz : ¬ (i : Int) ≤ j := by omega
            go_upto_region 5 with fail
            refine wp_region_wd (Bw wr) (by kernel_rfl) (by kernel_rfl) ((Below.refl _ wr).drew) ?_
            repeat (first | go_big_quiet_step (fail) | quiet_step (fail))
            refine wpQuiet_nil ?_
            rintro _ ⟨s, rfl⟩
            have HH2 := Lib.hid (Holds.keepB HHk.out s.h)
            have HO2 := Lib.hid (HOk.out.bel s.h)
            go_wp2_with fail
            go_meet
            exact ⟨j, rfl, hjS, HPI, HE1, Lib.hid (.inl (by omega)), HH2, HO2⟩
      case rest =>
        clear HPI HHk HOk HE1 hjS
        obtain ⟨j, rfl, hjS, HPI, HE1, HE2, HHk, HOk⟩ := hcut
        by_cases hfin : j < i
        · have hfz : (j : Int) < i := by omega
          have hb := HPI.out.bnd
          have ga2 : a < d.size := by omega
          have gj2 : j < d.size := by omega
          go_upto_region 8 with fail
          obtain ⟨x, hx⟩ : ∃ x, x = dk[j]! := ⟨_, rfl⟩
          obtain ⟨y, hy⟩ : ∃ y, y = dk[a]! := ⟨_, rfl⟩
          have c1 : wc.cell? ⟨blk, off + j, none⟩ = some (.int .u32 x) := by rw [hx]; exact (HHk.out j (by omega)).1
          have c2 : wc.cell? ⟨blk, off + a, none⟩ = some (.int .u32 y) := by rw [hy]; exact (HHk.out a (by omega)).1
          have f1 := (HHk.out j (by omega)).2
          have f2 := (HHk.out a (by omega)).2
          obtain ⟨hs1, hs2⟩ := swz HHk.out HOk.out (show j < (dk).size by omega) (show a < (dk).size by omega) hx hy
          have HS1 := Lib.hid hs1
          have HS2 := Lib.hid hs2
          have HXX := Lib.hid hx
          have HYY := Lib.hid hy
          clear hs1 hs2 hx hy HHk HOk
          go_cut [79] (fun _ wx => Hid (Holds encU wx blk off (swp (dk) j a)) ∧ Hid (Off [blk] w wx))
          case first =>
            by_cases hsame : j = a
            · have hxy : x = y := by rw [HXX.out, HYY.out, hsame]
              subst hxy
              rw [hsame] at HS1 HS2
              go_region
              all_goals go_wp2_with fail
              all_goals go_meet
              all_goals exact ⟨Lib.hid (by rw [hsame]; exact HS1.out), Lib.hid HS2.out.drew⟩
            · have hsame2 : ¬ a = j := fun e => hsame e.symm
              go_region
              all_goals go_wp2_with fail
              all_goals go_meet
              all_goals exact ⟨HS1, Lib.hid HS2.out.drew⟩
          case rest =>
            obtain ⟨HH9, HO9⟩ := hcut
            go_wp2
            go_ret2
            exact ⟨i, j, true, dk, rfl, hsk, HH9.out, HO9.out, HPI.out, hfin⟩
        · have hfz : ¬ (j : Int) < i := by omega
          have hPi : P dk[i]! = false := HE1.out.resolve_left hfin
          have hPj : P dk[j]! = true := HE2.out.resolve_left hfin
          have HPS := Lib.hid (HPI.out.swap (by omega) hPi hPj)
          have hb := HPI.out.bnd
          have hij : ¬ i = j := fun e => by rw [e, hPj] at hPi; cases hPi
          clear hPi hPj
          obtain ⟨x, hx⟩ : ∃ x, x = dk[i]! := ⟨_, rfl⟩
          obtain ⟨y, hy⟩ : ∃ y, y = dk[j]! := ⟨_, rfl⟩
          have hji : ¬ j = i := fun e => hij e.symm
          have g1 : i < d.size := by omega
          have g2 : j < d.size := by omega
          have c1 : wc.cell? ⟨blk, off + i, none⟩ = some (.int .u32 x) := by rw [hx]; exact (HHk.out i (by omega)).1
          have c2 : wc.cell? ⟨blk, off + j, none⟩ = some (.int .u32 y) := by rw [hy]; exact (HHk.out j (by omega)).1
          have f1 := (HHk.out i (by omega)).2
          have f2 := (HHk.out j (by omega)).2
          obtain ⟨hs1, hs2⟩ := swz HHk.out HOk.out (show i < dk.size by omega) (show j < dk.size by omega) hx hy
          have HS1 := Lib.hid hs1
          have HS2 := Lib.hid hs2
          clear hs1 hs2 hx hy HE1 HE2
          go_upto_region 10 with fail
          go_region
          all_goals go_wp2_with fail
          go_loopw [10, 11] (fun vi vj wr => ∃ (i j : Nat) (dk : Array Int), vi = .int .i64 i ∧ vj = .int .i64 j ∧ dk.size = d.size ∧ Hid (PI P p d dk a b i j) ∧ Hid (Holds encU wr blk off dk) ∧ Hid (Off [blk] w wr)) (fun vi vj _ => (intOf vj + 2 - intOf vi).toNat)
          case atStart => exact ⟨i + 1, j - 1, swp dk i j, by go_num, by go_num, by rw [size_swp]; exact hsk, HPS, HS1, Lib.hid HS2.out.drew⟩
          case round =>
            clear HPI HHk HOk HPS HS1 HS2 hb hij hji g1 g2 c1 c2 f1 f2 hiS hjS HIS HJS hfin hfz hsk
            obtain ⟨i, j, dk, rfl, rfl, hsk, HPI, HHk, HOk⟩ := hrel
            have hbS := HPI.out.bnd
            obtain ⟨iS, hi⟩ : ∃ n, n = i := ⟨_, rfl⟩
            obtain ⟨jS, hj⟩ : ∃ n, n = j := ⟨_, rfl⟩
            have hiS : iS ≤ i := by omega
            have hjS : j ≤ jS := by omega
            have HIS := Lib.hid hi
            have HJS := Lib.hid hj
            clear hi hj
            go_upto_block 6 with fail
            go_cut [10] (fun v wr => ∃ i : Nat, v = .int .i64 i ∧ iS ≤ i ∧ Hid (PI P p d dk a b i j) ∧ Hid (j < i ∨ P dk[i]! = false) ∧ Hid (Holds encU wr blk off dk) ∧ Hid (Off [blk] w wr))
            case first =>
              go_wp2_with fail
              go_loopw [10] (fun v wr => ∃ i : Nat, v = .int .i64 i ∧ iS ≤ i ∧ Hid (PI P p d dk a b i j) ∧ Hid (Holds encU wr blk off dk) ∧ Hid (Off [blk] w wr)) (fun v _ => (j + 1 - intOf v).toNat)
              case atStart => exact ⟨i, rfl, hiS, HPI, HHk, HOk⟩
              case round =>
                clear HPI HHk HOk hiS
                obtain ⟨i, rfl, hiS, HPI, HHk, HOk⟩ := hrel
                have hbd := HPI.out.bnd
                have hpa := HPI.out.pa
                have inst : Nonempty (Wd (Bw wr)) := ⟨⟨wr, Below.refl _ _⟩⟩
                by_cases hij : i ≤ j
                ·
                  have hijz : (i : Int) ≤ j := by omega
                  obtain ⟨x, hx⟩ : ∃ x, x = dk[i]! := ⟨_, rfl⟩
                  have q1 := Hq HHk.out (show i < dk.size by omega) hx
                  have q2 := Hq HHk.out (show a < dk.size by omega) hpa.symm
                  have g1 : i < d.size := by omega
                  have g2 : a < d.size := by omega
                  obtain ⟨q, hq⟩ : ∃ q, q = ltInt x p := ⟨_, rfl⟩
                  have HL := Lib.hid (lessQ hq)
                  have hPx : P dk[i]! = q := by rw [← hx, hq, hP]
                  have HPX := Lib.hid hPx
                  clear hx hq hPx hpa hbd
                  go_upto_region 13 with fail
                  refine wp_region_wd (Bw wr) (by kernel_rfl) (by kernel_rfl) ((Below.refl _ wr).drew) ?_
                  repeat (first | go_big_quiet_step (first | (go_at_call 85; with_reducible exact calls_wd (fun _ _ h hb => h.keep hb) _ (HL.out _))) | quiet_step (first | (go_at_call 85; with_reducible exact calls_wd (fun _ _ h hb => h.keep hb) _ (HL.out _))))
                  refine wpQuiet_nil ?_
                  rintro _ ⟨s, rfl⟩
                  have HH2 := Lib.hid (Holds.keepB HHk.out s.h)
                  have HO2 := Lib.hid (HOk.out.bel s.h)
                  generalize s.w = w2 at *
                  clear q1 q2 s inst HHk HOk
                  have hbd := HPI.out.bnd
                  cases q
                  ·
                    go_wp2_with fail
                    go_meet
                    exact ⟨i, rfl, hiS, HPI, Lib.hid (.inr HPX.out), HH2, HO2⟩
                  ·
                    go_wp2
                    go_roundw
                    case rel => exact ⟨i + 1, by go_num, by omega, Lib.hid (HPI.out.up hij HPX.out), HH2, HO2⟩
                    case measure => simp [intOf] <;> omega
                ·
                  have hijz : ¬ (i : Int) ≤ j := by omega
                  go_upto_region 13 with fail
                  refine wp_region_wd (Bw wr) (by kernel_rfl) (by kernel_rfl) ((Below.refl _ wr).drew) ?_
                  repeat (first | go_big_quiet_step (fail) | quiet_step (fail))
                  refine wpQuiet_nil ?_
                  rintro _ ⟨s, rfl⟩
                  have HH2 := Lib.hid (Holds.keepB HHk.out s.h)
                  have HO2 := Lib.hid (HOk.out.bel s.h)
                  go_wp2_with fail
                  go_meet
                  exact ⟨i, rfl, hiS, HPI, Lib.hid (.inl (by omega)), HH2, HO2⟩
            case rest =>
              clear HPI HHk HOk hiS
              obtain ⟨i, rfl, hiS, HPI, HE1, HHk, HOk⟩ := hcut
              go_upto_block 8 with fail
              go_cut [11] (fun v wr => ∃ j : Nat, v = .int .i64 j ∧ j ≤ jS ∧ Hid (PI P p d dk a b i j) ∧ Hid (j < i ∨ P dk[i]! = false) ∧ Hid (j < i ∨ P dk[j]! = true) ∧ Hid (Holds encU wr blk off dk) ∧ Hid (Off [blk] w wr))
              case first =>
                go_wp2_with fail
                go_loopw [11] (fun v wr => ∃ j : Nat, v = .int .i64 j ∧ j ≤ jS ∧ Hid (PI P p d dk a b i j) ∧ Hid (j < i ∨ P dk[i]! = false) ∧ Hid (Holds encU wr blk off dk) ∧ Hid (Off [blk] w wr)) (fun v _ => (intOf v + 1 - i).toNat)
                case atStart => exact ⟨j, rfl, hjS, HPI, HE1, HHk, HOk⟩
                case round =>
                  clear HPI HHk HOk HE1 hjS
                  obtain ⟨j, rfl, hjS, HPI, HE1, HHk, HOk⟩ := hrel
                  have hbd := HPI.out.bnd
                  have hpa := HPI.out.pa
                  have inst : Nonempty (Wd (Bw wr)) := ⟨⟨wr, Below.refl _ _⟩⟩
                  by_cases hij : i ≤ j
                  ·
                    have hijz : (i : Int) ≤ j := by omega
                    obtain ⟨x, hx⟩ : ∃ x, x = dk[j]! := ⟨_, rfl⟩
                    have q1 := Hq HHk.out (show j < dk.size by omega) hx
                    have q2 := Hq HHk.out (show a < dk.size by omega) hpa.symm
                    have g1 : j < d.size := by omega
                    have g2 : a < d.size := by omega
                    obtain ⟨q, hq⟩ : ∃ q, q = ltInt x p := ⟨_, rfl⟩
                    have HL := Lib.hid (lessQ hq)
                    have hPx : P dk[j]! = q := by rw [← hx, hq, hP]
                    have HPX := Lib.hid hPx
                    clear hx hq hPx hpa hbd
                    go_upto_region 15 with fail
                    refine wp_region_wd (Bw wr) (by kernel_rfl) (by kernel_rfl) ((Below.refl _ wr).drew) ?_
                    repeat (first | go_big_quiet_step (first | (go_at_call 85; with_reducible exact calls_wd (fun _ _ h hb => h.keep hb) _ (HL.out _))) | quiet_step (first | (go_at_call 85; with_reducible exact calls_wd (fun _ _ h hb => h.keep hb) _ (HL.out _))))
                    refine wpQuiet_nil ?_
                    rintro _ ⟨s, rfl⟩
                    have HH2 := Lib.hid (Holds.keepB HHk.out s.h)
                    have HO2 := Lib.hid (HOk.out.bel s.h)
                    generalize s.w = w2 at *
                    clear q1 q2 s inst HHk HOk
                    have hbd := HPI.out.bnd
                    cases q
                    ·
                      go_wp2
                      go_roundw
                      case rel => exact ⟨j - 1, by go_num, by omega, Lib.hid (HPI.out.down hij HPX.out), Lib.hid (HE1.out.elim (fun h => .inl (by omega)) .inr), HH2, HO2⟩
                      case measure => simp [intOf] <;> omega
                    ·
                      go_wp2_with fail
                      go_meet
                      exact ⟨j, rfl, hjS, HPI, HE1, Lib.hid (.inr HPX.out), HH2, HO2⟩
                  ·
                    have hijz : ¬ (i : Int) ≤ j := by omega
                    go_upto_region 15 with fail
                    refine wp_region_wd (Bw wr) (by kernel_rfl) (by kernel_rfl) ((Below.refl _ wr).drew) ?_
                    repeat (first | go_big_quiet_step (fail) | quiet_step (fail))
                    refine wpQuiet_nil ?_
                    rintro _ ⟨s, rfl⟩
                    have HH2 := Lib.hid (Holds.keepB HHk.out s.h)
                    have HO2 := Lib.hid (HOk.out.bel s.h)
                    go_wp2_with fail
                    go_meet
                    exact ⟨j, rfl, hjS, HPI, HE1, Lib.hid (.inl (by omega)), HH2, HO2⟩
              case rest =>
                clear HPI HHk HOk HE1 hjS
                obtain ⟨j, rfl, hjS, HPI, HE1, HE2, HHk, HOk⟩ := hcut
                by_cases hfin : j < i
                · have hfz : (j : Int) < i := by omega
                  have hb := HPI.out.bnd
                  have ga2 : a < d.size := by omega
                  have gj2 : j < d.size := by omega
                  go_upto_region 21 with fail
                  obtain ⟨x, hx⟩ : ∃ x, x = dk[j]! := ⟨_, rfl⟩
                  obtain ⟨y, hy⟩ : ∃ y, y = dk[a]! := ⟨_, rfl⟩
                  have c1 : wc.cell? ⟨blk, off + j, none⟩ = some (.int .u32 x) := by rw [hx]; exact (HHk.out j (by omega)).1
                  have c2 : wc.cell? ⟨blk, off + a, none⟩ = some (.int .u32 y) := by rw [hy]; exact (HHk.out a (by omega)).1
                  have f1 := (HHk.out j (by omega)).2
                  have f2 := (HHk.out a (by omega)).2
                  obtain ⟨hs1, hs2⟩ := swz HHk.out HOk.out (show j < (dk).size by omega) (show a < (dk).size by omega) hx hy
                  have HS1 := Lib.hid hs1
                  have HS2 := Lib.hid hs2
                  have HXX := Lib.hid hx
                  have HYY := Lib.hid hy
                  clear hs1 hs2 hx hy HHk HOk
                  go_cut [166] (fun _ wx => Hid (Holds encU wx blk off (swp (dk) j a)) ∧ Hid (Off [blk] w wx))
                  case first =>
                    by_cases hsame : j = a
                    · have hxy : x = y := by rw [HXX.out, HYY.out, hsame]
                      subst hxy
                      rw [hsame] at HS1 HS2
                      go_region
                      all_goals go_wp2_with fail
                      all_goals go_meet
                      all_goals exact ⟨Lib.hid (by rw [hsame]; exact HS1.out), Lib.hid HS2.out.drew⟩
                    · have hsame2 : ¬ a = j := fun e => hsame e.symm
                      go_region
                      all_goals go_wp2_with fail
                      all_goals go_meet
                      all_goals exact ⟨HS1, Lib.hid HS2.out.drew⟩
                  case rest =>
                    obtain ⟨HH9, HO9⟩ := hcut
                    go_wp2
                    go_ret2
                    exact ⟨i, j, false, dk, rfl, hsk, HH9.out, HO9.out, HPI.out, hfin⟩
                · have hfz : ¬ (j : Int) < i := by omega
                  have hPi : P dk[i]! = false := HE1.out.resolve_left hfin
                  have hPj : P dk[j]! = true := HE2.out.resolve_left hfin
                  have HPS := Lib.hid (HPI.out.swap (by omega) hPi hPj)
                  have hb := HPI.out.bnd
                  have hij : ¬ i = j := fun e => by rw [e, hPj] at hPi; cases hPi
                  clear hPi hPj
                  obtain ⟨x, hx⟩ : ∃ x, x = dk[i]! := ⟨_, rfl⟩
                  obtain ⟨y, hy⟩ : ∃ y, y = dk[j]! := ⟨_, rfl⟩
                  have hji : ¬ j = i := fun e => hij e.symm
                  have g1 : i < d.size := by omega
                  have g2 : j < d.size := by omega
                  have c1 : wc.cell? ⟨blk, off + i, none⟩ = some (.int .u32 x) := by rw [hx]; exact (HHk.out i (by omega)).1
                  have c2 : wc.cell? ⟨blk, off + j, none⟩ = some (.int .u32 y) := by rw [hy]; exact (HHk.out j (by omega)).1
                  have f1 := (HHk.out i (by omega)).2
                  have f2 := (HHk.out j (by omega)).2
                  obtain ⟨hs1, hs2⟩ := swz HHk.out HOk.out (show i < dk.size by omega) (show j < dk.size by omega) hx hy
                  have HS1 := Lib.hid hs1
                  have HS2 := Lib.hid hs2
                  clear hs1 hs2 hx hy HE1 HE2
                  go_upto_region 18 with fail
                  go_region
                  all_goals go_wp2
                  all_goals go_roundw
                  case rel => exact ⟨i + 1, j - 1, swp dk i j, by go_num, by go_num, by rw [size_swp]; exact hsk, HPS, HS1, Lib.hid HS2.out.drew⟩
                  case measure => (have := HIS.out; have := HJS.out; simp [intOf]; omega)
end Go.Proofs.YtldmajifkmcdcaaGreat.U32
/-
  Go's own sort puts a range in order by insertion, a few steps, at uint32. No condition but those typed at each theorem.
-/
namespace Go.Proofs.YtldmajifkmcdcaaGreat.U32
open Go.RowKit Go.Sort
/-- it is done: this array, and whether it is in order -/
def PIS (w : World) (blk off : Nat) (d : Array Int) (r : Array Int × Bool) (e : Ending) (w' : World) : Prop :=
  e = .returned (.bool r.2) ∧ r.1.size = d.size ∧ Holds encU w' blk off r.1 ∧ Off [blk] w w'
theorem pis_go (a b s i k : Nat) (d dA dB dC : Array Int) (hK : k = scanSorted ltInt d b i) (hkb : ¬ k = b) (h50 : ¬ b - a < 50) (hA : dA = swp d k (k - 1)) (hB : dB = if k - a ≥ 2 then shiftDown ltInt (k - 1) dA else dA) (hC : dC = if b - k ≥ 2 then shiftUp ltInt b (k + 1) dB else dB) :
    partialIns ltInt a b (s + 1) i d = partialIns ltInt a b s k dC := by
  subst hA hB hC hK
  rw [partialIns]
  simp only [if_neg hkb, if_neg h50]
theorem pis_end (a b s i k : Nat) (d : Array Int) (hK : k = scanSorted ltInt d b i) (hkb : k = b) : partialIns ltInt a b (s + 1) i d = (d, true) := by
  subst hK
  rw [partialIns]
  simp only [if_pos hkb]
theorem pis_short (a b s i k : Nat) (d : Array Int) (hK : k = scanSorted ltInt d b i) (hkb : ¬ k = b) (h50 : b - a < 50) : partialIns ltInt a b (s + 1) i d = (d, false) := by
  subst hK
  rw [partialIns]
  simp only [if_neg hkb, if_pos h50]
theorem shiftDown_size : ∀ (j : Nat) (d : Array Int), (shiftDown ltInt j d).size = d.size := by
  intro j
  induction j with
  | zero => intro d; rw [shiftDown]
  | succ j ih =>
    intro d
    rw [shiftDown]
    split
    · rfl
    · rw [ih, size_swp]
theorem shiftUp_size (b : Nat) : ∀ (n j : Nat) (d : Array Int), b - j ≤ n → (shiftUp ltInt b j d).size = d.size := by
  intro n
  induction n with
  | zero => intro j d h; rw [shiftUp_stop ltInt b j d (.inl (by omega))]
  | succ n ih =>
    intro j d h
    rw [shiftUp]
    split
    · split
      · rfl
      · rw [ih _ _ (by omega), size_swp]
    · rfl
set_option maxRecDepth 100000 in
set_option maxHeartbeats 25600000 in
theorem pins_any (blk off cap a b : Nat) (d : Array Int) (w : World) (hH : Holds encU w blk off d) (hab : a + 13 ≤ b) (hb : b ≤ d.size) (hsz : d.size ≤ 100000) :
    Calls Tryz.prog 104 #[.slice (some ⟨blk, off, none⟩) d.size cap, .int .i64 a, .int .i64 b] w (PIS w blk off d (partialInsertionSort ltInt d a b)) := by
  have HH := Lib.hid hH
  clear hH
  obtain ⟨l, hl⟩ : ∃ n : Nat, n = b - a := ⟨_, rfl⟩
  have zl : (b : Int) - a = (l : Int) := by omega
  have HLL := Lib.hid hl
  have hlb : l ≤ 100000 := by omega
  clear hl
  go_enter Tryz.func104, Tryz.ntmps104
  go_wp2
  go_loopw [7, 8] (fun vi vs wr => ∃ (i s k : Nat) (dk : Array Int), vi = .int .i64 i ∧ vs = .int .i64 k ∧ k + s = 5 ∧ a < i ∧ i ≤ b ∧ dk.size = d.size ∧ Hid (Holds encU wr blk off dk) ∧ Hid (Off [blk] w wr) ∧ Hid (partialIns ltInt a b s i dk = partialInsertionSort ltInt d a b)) (fun _ vs _ => (5 - intOf vs).toNat)
  case atStart => exact ⟨a + 1, 5, 0, d, by go_num, rfl, rfl, by omega, by omega, rfl, HH, Lib.hid (Off.refl _ _), Lib.hid rfl⟩
  case round =>
    obtain ⟨i, s, k, dk, rfl, rfl, hks, hai, hib, hsk, HHk, HOk, HI⟩ := hrel
    cases s with
    | zero =>
      have hk5 : ¬ (k : Int) < 5 := by omega
      go_wp2
      go_ret
      have h1 := HI.out
      rw [partialIns] at h1
      rw [← h1]
      exact ⟨rfl, hsk, HHk.out, HOk.out⟩
    | succ s =>
      have hk5 : (k : Int) < 5 := by omega
      obtain ⟨ii, hii⟩ : ∃ n, n = scanSorted ltInt dk b i := ⟨_, rfl⟩
      have HII := Lib.hid hii
      clear hii
      go_upto_block 2 with fail
      go_cut [7] (fun v wr => v = .int .i64 ii ∧ a < ii ∧ ii ≤ b ∧ Hid (Holds encU wr blk off dk) ∧ Hid (Off [blk] w wr))
      case first =>
        go_wp2_with fail
        go_loopw [7] (fun v wr => ∃ i : Nat, v = .int .i64 i ∧ a < i ∧ i ≤ b ∧ Hid (scanSorted ltInt dk b i = ii) ∧ Hid (Holds encU wr blk off dk) ∧ Hid (Off [blk] w wr)) (fun v _ => (b - intOf v).toNat)
        case atStart => exact ⟨i, rfl, hai, hib, Lib.hid HII.out.symm, HHk, HOk⟩
        case round =>
          clear HHk HOk hai hib
          obtain ⟨i, rfl, hai, hib, HSC, HHk, HOk⟩ := hrel
          by_cases hlt : i < b
          · have hltz : (i : Int) < b := by omega
            obtain ⟨x, hx⟩ : ∃ x, x = dk[i]! := ⟨_, rfl⟩
            obtain ⟨y, hy⟩ : ∃ y, y = dk[i - 1]! := ⟨_, rfl⟩
            have q1 := Hq HHk.out (show i < dk.size by omega) hx
            have q2 := Hq HHk.out (show i - 1 < dk.size by omega) hy
            have g1 : i < d.size := by omega
            have g2 : i - 1 < d.size := by omega
            obtain ⟨q, hq⟩ : ∃ q, q = ltInt x y := ⟨_, rfl⟩
            have HL := Lib.hid (lessQ hq)
            have hQ : ltInt dk[i]! dk[i - 1]! = q := by rw [← hx, ← hy, hq]
            have HQ := Lib.hid hQ
            have HX := Lib.hid hx
            have HY := Lib.hid hy
            have hsub : ((i : Nat) : Int) - 1 = ((i - 1 : Nat) : Int) := by omega
            clear hx hy hq hQ
            have inst : Nonempty (Wd (Bw wr)) := ⟨⟨wr, Below.refl _ _⟩⟩
            go_upto_region 5 with fail
            have hsw : IntKind.i64.wrap (((i : Nat) : Int) - 1) = ((i - 1 : Nat) : Int) := by rw [IntWalk.i64_in _ (by omega)]; exact hsub
            refine wp_region_wd (Bw wr) (by kernel_rfl) (by kernel_rfl) ((Below.refl _ wr).drew) ?_
            repeat (first | go_big_quiet_step (first | (go_at_call 85; with_reducible exact calls_wd (fun _ _ h hb => h.keep hb) _ (HL.out _))) | quiet_step (first | (go_at_call 85; with_reducible exact calls_wd (fun _ _ h hb => h.keep hb) _ (HL.out _))))
            refine wpQuiet_nil ?_
            rintro _ ⟨s, rfl⟩
            have d1 := q1 s
            have d2 := q2 s
            have HH2 := Lib.hid (Holds.keepB HHk.out s.h)
            have HO2 := Lib.hid (HOk.out.bel s.h)
            have f1 := (HH2.out i (by omega)).2
            have f2 := (HH2.out (i - 1) (by omega)).2
            generalize s.w = w2 at *
            clear q1 q2 s inst HHk HOk hsw
            cases q
            · go_wp2
              go_roundw
              case rel => exact ⟨i + 1, by go_num, by omega, by omega, Lib.hid (by rw [← scanSorted_go ltInt dk b i hlt HQ.out]; exact HSC.out), HH2, HO2⟩
              case measure => simp [intOf] <;> omega
            · go_wp2_with fail
              go_meet
              have h1 : ii = i := by rw [← HSC.out]; exact scanSorted_stop ltInt dk b i (.inr HQ.out)
              subst h1
              exact ⟨rfl, hai, hib, HH2, HO2⟩
          · have hltz : ¬ (i : Int) < b := by omega
            have inst : Nonempty (Wd (Bw wr)) := ⟨⟨wr, Below.refl _ _⟩⟩
            go_upto_region 5 with fail
            refine wp_region_wd (Bw wr) (by kernel_rfl) (by kernel_rfl) ((Below.refl _ wr).drew) ?_
            repeat (first | go_big_quiet_step (fail) | quiet_step (fail))
            refine wpQuiet_nil ?_
            rintro _ ⟨s, rfl⟩
            have HH2 := Lib.hid (Holds.keepB HHk.out s.h)
            have HO2 := Lib.hid (HOk.out.bel s.h)
            go_wp2_with fail
            go_meet
            have h1 : ii = i := by rw [← HSC.out]; exact scanSorted_stop ltInt dk b i (.inl hlt)
            subst h1
            exact ⟨rfl, hai, hib, HH2, HO2⟩
      case rest =>
        clear HHk HOk
        obtain ⟨rfl, hai2, hib2, HHk, HOk⟩ := hcut
        by_cases hfin : ii = b
        · have hfz : (ii : Int) = b := by omega
          have h1 := pis_end a b s i ii dk HII.out hfin
          rw [HI.out] at h1
          have HI1 := Lib.hid h1
          clear h1
          go_wp2
          go_ret
          rw [HI1.out]
          exact ⟨rfl, hsk, HHk.out, HOk.out⟩
        have hfz : ¬ (ii : Int) = b := by omega
        by_cases h50 : l < 50
        · have h50z : (l : Int) < 50 := by omega
          have h1 := pis_short a b s i ii dk HII.out hfin (by have := HLL.out; omega)
          rw [HI.out] at h1
          have HI1 := Lib.hid h1
          clear h1
          go_wp2
          go_ret
          rw [HI1.out]
          exact ⟨rfl, hsk, HHk.out, HOk.out⟩
        have h50z : ¬ (l : Int) < 50 := by omega
        obtain ⟨dA, hdA⟩ : ∃ x, x = swp dk ii (ii - 1) := ⟨_, rfl⟩
        obtain ⟨dB, hdB⟩ : ∃ x, x = if ii - a ≥ 2 then shiftDown ltInt (ii - 1) dA else dA := ⟨_, rfl⟩
        obtain ⟨dC, hdC⟩ : ∃ x, x = if b - ii ≥ 2 then shiftUp ltInt b (ii + 1) dB else dB := ⟨_, rfl⟩
        have h1 := pis_go a b s i ii dk dA dB dC HII.out hfin (by have := HLL.out; omega) hdA hdB hdC
        rw [HI.out] at h1
        have HI1 := Lib.hid h1
        have HDA := Lib.hid hdA
        have HDB := Lib.hid hdB
        have HDC := Lib.hid hdC
        have hsA : dA.size = d.size := by rw [hdA, size_swp]; exact hsk
        clear h1 hdA hdB hdC HI HII
        obtain ⟨x, hx⟩ : ∃ x, x = dk[ii]! := ⟨_, rfl⟩
        obtain ⟨y, hy⟩ : ∃ y, y = dk[ii - 1]! := ⟨_, rfl⟩
        have g1 : ii < d.size := by omega
        have g2 : ii - 1 < d.size := by omega
        have c1 : wc.cell? ⟨blk, off + ii, none⟩ = some (.int .u32 x) := by rw [hx]; exact (HHk.out ii (by omega)).1
        have c2 : wc.cell? ⟨blk, off + (ii - 1), none⟩ = some (.int .u32 y) := by rw [hy]; exact (HHk.out (ii - 1) (by omega)).1
        have f1 := (HHk.out ii (by omega)).2
        have f2 := (HHk.out (ii - 1) (by omega)).2
        obtain ⟨hs1, hs2⟩ := swz HHk.out HOk.out (show ii < dk.size by omega) (show ii - 1 < dk.size by omega) hx hy
        rw [← HDA.out] at hs1
        have HS1 := Lib.hid hs1
        have HS2 := Lib.hid hs2
        have hsub : ((ii : Nat) : Int) - 1 = ((ii - 1 : Nat) : Int) := by omega
        have hn1 : ¬ ii - 1 = ii := by omega
        have hn2 : ¬ ii = ii - 1 := by omega
        clear hs1 hs2 hx hy HHk HOk
        go_upto_region 11 with fail
        have hsw : IntKind.i64.wrap (((ii : Nat) : Int) - 1) = ((ii - 1 : Nat) : Int) := by rw [IntWalk.i64_in _ (by omega)]; exact hsub
        go_cut [57] (fun _ wx => Hid (Holds encU wx blk off dA) ∧ Hid (Off [blk] w wx))
        case first =>
          go_region
          all_goals go_wp2_with fail
          all_goals go_meet
          all_goals exact ⟨HS1, Lib.hid HS2.out.drew⟩
        case rest =>
          clear c1 c2 f1 f2 HS1 HS2 x y hn1 hn2 hsw
          obtain ⟨HHk, HOk⟩ := hcut
          go_upto_if 61 with fail
          go_cut [9] (fun _ wx => Hid (Holds encU wx blk off dB) ∧ Hid (Off [blk] w wx))
          case first =>
            by_cases hA2 : ii - a ≥ 2
            · have hA2z : 2 ≤ (ii : Int) - a := by omega
              go_wp2_with fail
              go_loopw [9] (fun vj wr => ∃ (j : Nat) (dj : Array Int), vj = .int .i64 j ∧ j < ii ∧ dj.size = d.size ∧ Hid (shiftDown ltInt j dj = dB) ∧ Hid (Holds encU wr blk off dj) ∧ Hid (Off [blk] w wr)) (fun vj _ => (intOf vj).toNat)
              case atStart => exact ⟨ii - 1, dA, by go_num, by omega, hsA, Lib.hid (by rw [HDB.out, if_pos (by omega)]), HHk, HOk⟩
              case round =>
                clear HHk HOk
                obtain ⟨j, dj, rfl, hj1, hsj, HSH, HHk, HOk⟩ := hrel
                by_cases hc : 1 ≤ j
                · have hcz : 1 ≤ (j : Int) := by omega
                  obtain ⟨x, hx⟩ : ∃ x, x = dj[j]! := ⟨_, rfl⟩
                  obtain ⟨y, hy⟩ : ∃ y, y = dj[j - 1]! := ⟨_, rfl⟩
                  have q1 := Hq HHk.out (show j < dj.size by omega) hx
                  have q2 := Hq HHk.out (show j - 1 < dj.size by omega) hy
                  have g1 : j < d.size := by omega
                  have g2 : j - 1 < d.size := by omega
                  obtain ⟨q, hq⟩ : ∃ q, q = ltInt x y := ⟨_, rfl⟩
                  have HL := Lib.hid (lessQ hq)
                  have hQ : ltInt dj[j]! dj[j - 1]! = q := by rw [← hx, ← hy, hq]
                  have HQ := Lib.hid hQ
                  have HX := Lib.hid hx
                  have HY := Lib.hid hy
                  have hsub : ((j : Nat) : Int) - 1 = ((j - 1 : Nat) : Int) := by omega
                  clear hx hy hq hQ
                  have inst : Nonempty (Wd (Bw wr)) := ⟨⟨wr, Below.refl _ _⟩⟩
                  go_upto_region 16 with fail
                  have hsw : IntKind.i64.wrap (((j : Nat) : Int) - 1) = ((j - 1 : Nat) : Int) := by rw [IntWalk.i64_in _ (by omega)]; exact hsub
                  refine wp_region_wd (Bw wr) (by kernel_rfl) (by kernel_rfl) ((Below.refl _ wr).drew) ?_
                  repeat (first | go_big_quiet_step (first | (go_at_call 85; with_reducible exact calls_wd (fun _ _ h hb => h.keep hb) _ (HL.out _))) | quiet_step (first | (go_at_call 85; with_reducible exact calls_wd (fun _ _ h hb => h.keep hb) _ (HL.out _))))
                  refine wpQuiet_nil ?_
                  rintro _ ⟨s, rfl⟩
                  have d1 := q1 s
                  have d2 := q2 s
                  have HH2 := Lib.hid (Holds.keepB HHk.out s.h)
                  have HO2 := Lib.hid (HOk.out.bel s.h)
                  have f1 := (HH2.out j (by omega)).2
                  have f2 := (HH2.out (j - 1) (by omega)).2
                  generalize s.w = w2 at *
                  clear q1 q2 s inst HHk HOk hsw
                  cases q
                  ·
                    go_wp2_with fail
                    go_meet
                    have h1 : dj = dB := by rw [← HSH.out]; exact (shiftDown_stop ltInt j dj (.inr HQ.out)).symm
                    exact ⟨h1 ▸ HH2, HO2⟩
                  ·
                    obtain ⟨hs1, hs2⟩ := swz HH2.out HO2.out (show j < dj.size by omega) (show j - 1 < dj.size by omega) HX.out HY.out
                    have HS1 := Lib.hid hs1
                    have HS2 := Lib.hid hs2
                    clear hs1 hs2
                    have hn1 : ¬ j - 1 = j := by omega
                    have hn2 : ¬ j = j - 1 := by omega
                    go_upto_region 17 with fail
                    have hsw : IntKind.i64.wrap (((j : Nat) : Int) - 1) = ((j - 1 : Nat) : Int) := by rw [IntWalk.i64_in _ (by omega)]; exact hsub
                    go_region
                    all_goals clear hsw
                    all_goals go_wp2
                    all_goals go_roundw
                    case rel => exact ⟨j - 1, swp dj j (j - 1), by go_num, by omega, by rw [size_swp]; exact hsj, Lib.hid (by rw [← HSH.out, shiftDown_go ltInt j dj hc HQ.out]), HS1, Lib.hid HS2.out.drew⟩
                    case measure => simp [intOf] <;> omega
                · have hcz : ¬ 1 ≤ (j : Int) := by omega
                  go_wp2_with fail
                  go_meet
                  have h1 : dj = dB := by rw [← HSH.out]; exact (shiftDown_stop ltInt j dj (.inl (by omega))).symm
                  exact ⟨h1 ▸ HHk, HOk⟩
            · have hA2z : ¬ 2 ≤ (ii : Int) - a := by omega
              go_wp2_with fail
              go_meet
              have h1 : dA = dB := by rw [HDB.out, if_neg hA2]
              exact ⟨h1 ▸ HHk, HOk⟩
          case rest =>
            clear HHk HOk
            obtain ⟨HHk, HOk⟩ := hcut
            have hsB : dB.size = d.size := by
              rw [HDB.out]; split
              · rw [shiftDown_size]; exact hsA
              · exact hsA
            have hsC : dC.size = d.size := by
              rw [HDC.out]; split
              · rw [shiftUp_size b b _ _ (by omega)]; exact hsB
              · exact hsB
            by_cases hB2 : b - ii ≥ 2
            · have hB2z : 2 ≤ (b : Int) - ii := by omega
              go_wp2_with fail
              go_loopw [10] (fun vj wr => ∃ (j : Nat) (dj : Array Int), vj = .int .i64 j ∧ ii < j ∧ j ≤ b ∧ dj.size = d.size ∧ Hid (shiftUp ltInt b j dj = dC) ∧ Hid (Holds encU wr blk off dj) ∧ Hid (Off [blk] w wr)) (fun vj _ => (b - intOf vj).toNat)
              case atStart => exact ⟨ii + 1, dB, by go_num, by omega, by omega, hsB, Lib.hid (by rw [HDC.out, if_pos (by omega)]), HHk, HOk⟩
              case round =>
                clear HHk HOk
                obtain ⟨j, dj, rfl, hj1, hj2, hsj, HSH, HHk, HOk⟩ := hrel
                by_cases hc : j < b
                · have hcz : (j : Int) < b := by omega
                  obtain ⟨x, hx⟩ : ∃ x, x = dj[j]! := ⟨_, rfl⟩
                  obtain ⟨y, hy⟩ : ∃ y, y = dj[j - 1]! := ⟨_, rfl⟩
                  have q1 := Hq HHk.out (show j < dj.size by omega) hx
                  have q2 := Hq HHk.out (show j - 1 < dj.size by omega) hy
                  have g1 : j < d.size := by omega
                  have g2 : j - 1 < d.size := by omega
                  obtain ⟨q, hq⟩ : ∃ q, q = ltInt x y := ⟨_, rfl⟩
                  have HL := Lib.hid (lessQ hq)
                  have hQ : ltInt dj[j]! dj[j - 1]! = q := by rw [← hx, ← hy, hq]
                  have HQ := Lib.hid hQ
                  have HX := Lib.hid hx
                  have HY := Lib.hid hy
                  have hsub : ((j : Nat) : Int) - 1 = ((j - 1 : Nat) : Int) := by omega
                  clear hx hy hq hQ
                  have inst : Nonempty (Wd (Bw wr)) := ⟨⟨wr, Below.refl _ _⟩⟩
                  go_upto_region 22 with fail
                  have hsw : IntKind.i64.wrap (((j : Nat) : Int) - 1) = ((j - 1 : Nat) : Int) := by rw [IntWalk.i64_in _ (by omega)]; exact hsub
                  refine wp_region_wd (Bw wr) (by kernel_rfl) (by kernel_rfl) ((Below.refl _ wr).drew) ?_
                  repeat (first | go_big_quiet_step (first | (go_at_call 85; with_reducible exact calls_wd (fun _ _ h hb => h.keep hb) _ (HL.out _))) | quiet_step (first | (go_at_call 85; with_reducible exact calls_wd (fun _ _ h hb => h.keep hb) _ (HL.out _))))
                  refine wpQuiet_nil ?_
                  rintro _ ⟨s, rfl⟩
                  have d1 := q1 s
                  have d2 := q2 s
                  have HH2 := Lib.hid (Holds.keepB HHk.out s.h)
                  have HO2 := Lib.hid (HOk.out.bel s.h)
                  have f1 := (HH2.out j (by omega)).2
                  have f2 := (HH2.out (j - 1) (by omega)).2
                  generalize s.w = w2 at *
                  clear q1 q2 s inst HHk HOk hsw
                  cases q
                  ·
                    have h1 : dj = dC := by rw [← HSH.out]; exact (shiftUp_stop ltInt b j dj (.inr HQ.out)).symm
                    have HH9 : Hid (Holds encU w2 blk off dC) := h1 ▸ HH2
                    clear h1
                    go_wp2
                    go_roundw
                    case rel => exact ⟨ii, s, k + 1, dC, rfl, by go_num, by omega, hai2, hib2, hsC, HH9, HO2, Lib.hid HI1.out.symm⟩
                    case measure => simp [intOf]; omega
                  ·
                    obtain ⟨hs1, hs2⟩ := swz HH2.out HO2.out (show j < dj.size by omega) (show j - 1 < dj.size by omega) HX.out HY.out
                    have HS1 := Lib.hid hs1
                    have HS2 := Lib.hid hs2
                    clear hs1 hs2
                    have hn1 : ¬ j - 1 = j := by omega
                    have hn2 : ¬ j = j - 1 := by omega
                    go_upto_region 23 with fail
                    have hsw : IntKind.i64.wrap (((j : Nat) : Int) - 1) = ((j - 1 : Nat) : Int) := by rw [IntWalk.i64_in _ (by omega)]; exact hsub
                    go_region
                    all_goals clear hsw
                    all_goals go_wp2
                    all_goals go_roundw
                    case rel => exact ⟨j + 1, swp dj j (j - 1), by go_num, by omega, by omega, by rw [size_swp]; exact hsj, Lib.hid (by rw [← HSH.out, shiftUp_go ltInt b j dj hc HQ.out]), HS1, Lib.hid HS2.out.drew⟩
                    case measure => simp [intOf] <;> omega
                · have hcz : ¬ (j : Int) < b := by omega
                  have h1 : dj = dC := by rw [← HSH.out]; exact (shiftUp_stop ltInt b j dj (.inl hc)).symm
                  have HH9 : Hid (Holds encU wr blk off dC) := h1 ▸ HHk
                  clear h1
                  go_wp2
                  go_roundw
                  case rel => exact ⟨ii, s, k + 1, dC, rfl, by go_num, by omega, hai2, hib2, hsC, HH9, HOk, Lib.hid HI1.out.symm⟩
                  case measure => simp [intOf]; omega
            · have hB2z : ¬ 2 ≤ (b : Int) - ii := by omega
              have h1 : dB = dC := by rw [HDC.out, if_neg hB2]
              have HH9 : Hid (Holds encU wc blk off dC) := h1 ▸ HHk
              clear h1
              go_wp2
              go_roundw
              case rel => exact ⟨ii, s, k + 1, dC, rfl, by go_num, by omega, hai2, hib2, hsC, HH9, HOk, Lib.hid HI1.out.symm⟩
              case measure => simp [intOf]; omega
end Go.Proofs.YtldmajifkmcdcaaGreat.U32
/-
  What a round of Go's own sort leaves to be put in order, at whole numbers. No condition but those typed at each theorem.
-/
namespace Go.Proofs.YtldmajifkmcdcaaGreat.U32
open Go.RowKit Go.Sort
/-- what is left: the range a to b of d; whoever puts that in order, puts all in order -/
structure PD (d0 : Array Int) (a0 b0 : Nat) (d : Array Int) (a b : Nat) : Prop where
  le : a ≤ b
  lo : a0 ≤ a
  hi : b ≤ b0
  hb : b0 ≤ d0.size
  sz : d.size = d0.size
  below : Below ltInt a b d
  fin : ∀ R, PermIn a b d R → SortedIn ltInt a b R → PermIn a0 b0 d0 R ∧ SortedIn ltInt a0 b0 R
section
variable {d0 d d' L : Array Int} {a0 b0 a b : Nat}
theorem PD.start (hab : a ≤ b) (hb : b ≤ d.size) (hB : Below ltInt a b d) : PD d a b d a b := ⟨hab, Nat.le_refl _, Nat.le_refl _, hb, rfl, hB, fun _ h1 h2 => ⟨h1, h2⟩⟩
theorem PD.bs (h : PD d0 a0 b0 d a b) : b ≤ d.size := by have := h.hi; have := h.hb; have := h.sz; omega
theorem PD.perm (h : PD d0 a0 b0 d a b) (hp : PermIn a b d d') : PD d0 a0 b0 d' a b :=
  ⟨h.le, h.lo, h.hi, h.hb, hp.1.trans h.sz, Sort.Below.perm h.below h.bs hp, fun R h1 h2 => h.fin R (permIn_trans _ _ _ _ _ hp h1) h2⟩
theorem PD.eq (h : PD d0 a0 b0 d a b) {P : Int → Bool} {p : Int} {i j : Nat} (hP : ∀ x, P x = !ltInt p x) (ha : 0 < a) (hl : ltInt d[a - 1]! p = false)
    (hI : PI P p d d' a b i j) (hji : j < i) : PD d0 a0 b0 d' i b ∧ a < i ∧ i ≤ b := by
  have hS := swo_ltInt
  have hbd := hI.bnd
  have hij : i = j + 1 := by omega
  subst hij
  have hb := h.bs
  have hb' : b ≤ d'.size := by omega
  have hge : ∀ t, a ≤ t → t < b → ltInt d[t]! p = false := fun t h1 h2 => by
    rcases h.below with h0 | hB
    · omega
    · exact hS.ntrans _ _ _ (hB t h1 h2) hl
  have hge4 := permIn_all d d' a b (fun x => ltInt x p = false) hb hI.perm hge
  have hle : ∀ t, a ≤ t → t < j + 1 → ltInt p d'[t]! = false := fun t h1 h2 => by
    by_cases e : t = a
    · subst e; rw [hI.pa]; exact hS.irrefl _
    · have := hI.low t (by omega) h2
      rw [hP] at this
      simpa using this
  have hgt : ∀ t, j + 1 ≤ t → t < b → ltInt p d'[t]! = true := fun t h1 h2 => by
    have := hI.high t (by omega) h2
    rw [hP] at this
    simpa using this
  have hBl : Below ltInt (j + 1) b d' := Or.inr fun t h1 h2 => by
    cases hc : ltInt d'[t]! d'[j + 1 - 1]! with
    | false => rfl
    | true => have := hS.trans _ _ _ (hgt t h1 h2) hc; rw [hle (j + 1 - 1) (by omega) (by omega)] at this; cases this
  refine ⟨⟨by omega, by have := h.lo; omega, h.hi, h.hb, hI.perm.1.trans h.sz, hBl, fun R hR hs => ?_⟩, by omega, by omega⟩
  refine h.fin R (permIn_trans _ _ _ a b hI.perm (permIn_mono _ _ (j + 1) b a b (by omega) (Nat.le_refl _) hb' hR)) ?_
  refine sorted_glue_eq hS p hs (fun t h1 h2 => ?_) (fun t h1 h2 => ?_) (permIn_all d' R (j + 1) b (fun x => ltInt p x = true) hb' hR hgt)
  · rw [hR.2.1 t (Or.inl h2)]; exact hle t h1 h2
  · rw [hR.2.1 t (Or.inl h2)]; exact hge4 t h1 (by omega)
/-- parted at m: what is left of m is less than what is at m, what is right of it is not -/
structure PP (d0 : Array Int) (a0 b0 : Nat) (d : Array Int) (a b m : Nat) : Prop where
  pd : PD d0 a0 b0 d a b
  am : a ≤ m
  mb : m < b
  lo : ∀ i, a ≤ i → i < m → ltInt d[i]! d[m]! = true
  hi : ∀ i, m < i → i < b → ltInt d[i]! d[m]! = false
theorem PP.of (h : PD d0 a0 b0 d a b) {P : Int → Bool} {p : Int} {i j : Nat} (hP : ∀ x, P x = ltInt x p) (hI : PI P p d d' a b i j) (hji : j < i) : PP d0 a0 b0 (swp d' j a) a b j := by
  have hbd := hI.bnd
  have hij : i = j + 1 := by omega
  subst hij
  have hb := h.bs
  have hjs : j < d'.size := by omega
  have has : a < d'.size := by omega
  have em : (swp d' j a)[j]! = p := by
    by_cases e : j = a
    · subst e; rw [swp_right _ _ _ has]; exact hI.pa
    · rw [swp_left _ _ _ hjs e]; exact hI.pa
  refine ⟨h.perm (permIn_trans _ _ _ _ _ hI.perm (swp_permIn _ _ _ _ _ (by omega) (by omega) (Nat.le_refl _) (by omega) (by omega))), by omega, by omega, fun t h1 h2 => ?_, fun t h1 h2 => ?_⟩
  · rw [em]
    by_cases e : t = a
    · subst e
      rw [swp_right _ _ _ has, ← hP]
      exact hI.low j (by omega) (by omega)
    · rw [swp_other _ _ _ _ (by omega) e, ← hP]
      exact hI.low t (by omega) (by omega)
  · rw [em, swp_other _ _ _ _ (by omega) (by omega), ← hP]
    exact hI.high t (by omega) h2
theorem PP.belowL {m : Nat} (h : PP d0 a0 b0 d a b m) : Below ltInt a m d := Sort.Below.mono h.pd.below (by have := h.mb; omega)
theorem PP.belowR {m : Nat} (h : PP d0 a0 b0 d a b m) : Below ltInt (m + 1) b d := Or.inr fun i h1 h2 => by rw [Nat.add_sub_cancel]; exact h.hi i (by omega) h2
/-- the left part is in order: the right one is left -/
theorem PP.left {m : Nat} (h : PP d0 a0 b0 d a b m) (hL : PermIn a m d L) (hs : SortedIn ltInt a m L) : PD d0 a0 b0 L (m + 1) b := by
  have hS := swo_ltInt
  have ham := h.am
  have hmb := h.mb
  have hb := h.pd.bs
  have hbL : b ≤ L.size := by rw [hL.1]; exact hb
  have eL : ∀ i, m ≤ i → L[i]! = d[i]! := fun i hi => hL.2.1 i (Or.inr hi)
  refine ⟨by omega, by have := h.pd.lo; omega, h.pd.hi, h.pd.hb, hL.1.trans h.pd.sz, Or.inr fun i h1 h2 => by rw [Nat.add_sub_cancel, eL i (by omega), eL m (Nat.le_refl _)]; exact h.hi i (by omega) h2, fun R hR hsR => ?_⟩
  have eR : ∀ i, i ≤ m → R[i]! = L[i]! := fun i hi => hR.2.1 i (Or.inl (by omega))
  refine h.pd.fin R (permIn_trans _ _ _ a b (permIn_mono _ _ a m a b (Nat.le_refl _) (by omega) hb hL) (permIn_mono _ _ (m + 1) b a b (by omega) (Nat.le_refl _) hbL hR)) ?_
  refine sorted_glue hS (hs.congr fun i _ h2 => eR i (by omega)) hsR (fun i h1 h2 => ?_) (fun i h1 h2 => ?_)
  · rw [eR i (by omega), eR m (Nat.le_refl _), eL m (Nat.le_refl _)]
    exact permIn_all d L a m (fun x => ltInt x d[m]! = true) (by omega) hL h.lo i h1 h2
  · rw [eR m (Nat.le_refl _), eL m (Nat.le_refl _)]
    exact permIn_all L R (m + 1) b (fun x => ltInt x d[m]! = false) hbL hR (fun k h3 h4 => by rw [eL k (by omega)]; exact h.hi k (by omega) h4) i (by omega) h2
/-- the right part is in order: the left one is left -/
theorem PP.right {m : Nat} (h : PP d0 a0 b0 d a b m) (hL : PermIn (m + 1) b d L) (hs : SortedIn ltInt (m + 1) b L) : PD d0 a0 b0 L a m := by
  have hS := swo_ltInt
  have ham := h.am
  have hmb := h.mb
  have hb := h.pd.bs
  have hbL : b ≤ L.size := by rw [hL.1]; exact hb
  have eL : ∀ i, i ≤ m → L[i]! = d[i]! := fun i hi => hL.2.1 i (Or.inl (by omega))
  have hBL : Below ltInt a m L := by
    rcases h.belowL with h0 | hB
    · exact Or.inl h0
    · exact Or.inr fun i h1 h2 => by rw [eL i (by omega), eL (a - 1) (by omega)]; exact hB i h1 h2
  refine ⟨h.am, h.pd.lo, by have := h.pd.hi; omega, h.pd.hb, hL.1.trans h.pd.sz, hBL, fun R hR hsR => ?_⟩
  have eR : ∀ i, m ≤ i → R[i]! = L[i]! := fun i hi => hR.2.1 i (Or.inr hi)
  refine h.pd.fin R (permIn_trans _ _ _ a b (permIn_mono _ _ (m + 1) b a b (by omega) (Nat.le_refl _) hb hL) (permIn_mono _ _ a m a b (Nat.le_refl _) (by omega) hbL hR)) ?_
  refine sorted_glue hS hsR (hs.congr fun i h1 _ => eR i (by omega)) (fun i h1 h2 => ?_) (fun i h1 h2 => ?_)
  · rw [eR m (Nat.le_refl _), eL m (Nat.le_refl _)]
    exact permIn_all L R a m (fun x => ltInt x d[m]! = true) (by omega) hR (fun k h3 h4 => by rw [eL k (by omega)]; exact h.lo k h3 h4) i h1 h2
  · rw [eR i (by omega), eR m (Nat.le_refl _), eL m (Nat.le_refl _)]
    exact permIn_all d L (m + 1) b (fun x => ltInt x d[m]! = false) hb hL (fun k h3 h4 => h.hi k (by omega) h4) i (by omega) h2
end
end Go.Proofs.YtldmajifkmcdcaaGreat.U32
/-
  Go's own sort puts a range in order, at uint32. No condition but those typed at each theorem.
-/
namespace Go.Proofs.YtldmajifkmcdcaaGreat.U32
open Go.RowKit Go.Sort
/-- the range is in order -/
def PDS (w : World) (blk off : Nat) (d : Array Int) (a b : Nat) (e : Ending) (w' : World) : Prop :=
  e = .returned (.tuple #[]) ∧ ∃ R : Array Int, R.size = d.size ∧ Holds encU w' blk off R ∧ Off [blk] w w' ∧ PermIn a b d R ∧ SortedIn ltInt a b R
theorem PDS.of {w w1 : World} {blk off : Nat} {d dk R : Array Int} {a0 b0 a b : Nat} (h : PD d a0 b0 dk a b) (hs : R.size = dk.size) (hH : Holds encU w1 blk off R) (hO : Off [blk] w w1) (h1 : PermIn a b dk R) (h2 : SortedIn ltInt a b R) : PDS w blk off d a0 b0 (.returned (.tuple #[])) w1 :=
  ⟨rfl, R, hs.trans h.sz, hH, hO, (h.fin R h1 h2).1, (h.fin R h1 h2).2⟩
theorem PDS.got {X w w1 : World} {blk off : Nat} {d : Array Int} {a b : Nat} {e : Ending} (hO : Off [blk] w X) (h : PDS X blk off d a b e w1) :
    ∃ R : Array Int, e = .returned (.tuple #[]) ∧ Hid (R.size = d.size) ∧ Hid (Holds encU w1 blk off R) ∧ Hid (Off [blk] w w1) ∧ Hid (PermIn a b d R) ∧ Hid (SortedIn ltInt a b R) := by
  obtain ⟨h0, R, h1, h2, h3, h4, h5⟩ := h
  exact ⟨R, h0, Lib.hid h1, Lib.hid h2, Lib.hid (hO.trans h3), Lib.hid h4, Lib.hid h5⟩
set_option maxRecDepth 100000 in
set_option maxHeartbeats 25600000 in
theorem pdq_any : ∀ (N blk off cap a b lim : Nat) (d : Array Int) (w : World), b - a < N → Holds encU w blk off d → a ≤ b → b ≤ d.size → d.size ≤ 100000 → lim ≤ 100 → Below ltInt a b d →
    Calls Tryz.prog 74 #[.slice (some ⟨blk, off, none⟩) d.size cap, .int .i64 a, .int .i64 b, .int .i64 lim] w (PDS w blk off d a b) := by
  intro N
  induction N with
  | zero => intro blk off cap a b lim d w h; omega
  | succ N ih =>
  intro blk off cap a b lim d w hN hH hab hb hsz hlim hB
  have HH := Lib.hid hH
  have HP := Lib.hid (PD.start hab hb hB)
  have IH := Lib.hid ih
  obtain ⟨n, hn⟩ : ∃ n, n = d.size := ⟨_, rfl⟩
  have HN := Lib.hid hn
  have hnb : b ≤ n := by omega
  have hn1 : n ≤ 100000 := by omega
  rw [← hn]
  clear hH hB ih hn hb hsz
  go_enter Tryz.func74, Tryz.ntmps74
  go_wp2
  go_loopw [1, 2, 3, 8, 9] (fun va vb vl v8 v9 wr => ∃ (a1 b1 l1 : Nat) (wb wp : Bool) (dk : Array Int), va = .int .i64 a1 ∧ vb = .int .i64 b1 ∧ vl = .int .i64 l1 ∧ v8 = .bool wb ∧ v9 = .bool wp ∧ l1 ≤ 100 ∧ a ≤ a1 ∧ a1 ≤ b1 ∧ b1 ≤ b ∧ Hid (PD d a b dk a1 b1) ∧ Hid (Holds encU wr blk off dk) ∧ Hid (Off [blk] w wr)) (fun va vb _ _ _ _ => (intOf vb - intOf va).toNat)
  case atStart => exact ⟨a, b, lim, true, true, d, rfl, rfl, rfl, rfl, rfl, hlim, Nat.le_refl _, hab, Nat.le_refl _, HP, HH, Lib.hid (Off.refl _ _)⟩
  case round =>
    clear HP HH hlim
    obtain ⟨a1, b1, l1, wb, wp, dk, rfl, rfl, rfl, rfl, rfl, hl1, haa, hab1, hbb, HPD, HHk, HOk⟩ := hrel
    obtain ⟨l, hl⟩ : ∃ n : Nat, n = b1 - a1 := ⟨_, rfl⟩
    have zl : (b1 : Int) - a1 = (l : Int) := by omega
    have hlb : l ≤ 100000 := by omega
    have HLL := Lib.hid hl
    clear hl
    have hdn : dk.size = n := by have := HPD.out.sz; have := HN.out; omega
    have HDN := Lib.hid hdn
    clear hdn
    by_cases h12 : l ≤ 12
    · have h12z : (l : Int) ≤ 12 := by omega
      have C := ins_any blk off cap a1 b1 dk wr HHk.out hab1 (by have := HDN.out; omega) (by have := HDN.out; omega)
      rw [HDN.out] at C
      have HC := Lib.hid C
      clear C
      go_wp2_with (go_at_call 99; (with_reducible refine HC.out.mono ?_); rintro e w1 ⟨rfl, hH1, hO1⟩; have HH1 := Lib.hid hH1; have HO1 := Lib.hid hO1; clear hH1 hO1)
      refine bodyPost_ret (results_none rfl _ _ _) rfl ?_
      have hS := insertionSort_holds (lt := ltInt) swo_ltInt dk a1 b1 hab1 (by have := HDN.out; omega)
      exact PDS.of HPD.out hS.1.1 HH1.out (HOk.out.trans HO1.out) hS.1 hS.2
    have h12z : ¬ (l : Int) ≤ 12 := by omega
    have h13 : a1 + 13 ≤ b1 := by have := HLL.out; omega
    by_cases hl0 : l1 = 0
    · have hl0z : (l1 : Int) = 0 := by omega
      have C := heapSort_any blk off cap a1 b1 dk wr HHk.out (by omega) (by have := HDN.out; omega) (by have := HDN.out; omega)
      rw [HDN.out] at C
      have HC := Lib.hid C
      clear C
      go_wp2_with (go_at_call 100; (with_reducible refine HC.out.mono ?_); rintro e w1 ⟨rfl, hH1, hO1⟩; have HH1 := Lib.hid hH1; have HO1 := Lib.hid hO1; clear hH1 hO1)
      refine bodyPost_ret (results_none rfl _ _ _) rfl ?_
      have hS := heapSort_holds (lt := ltInt) swo_ltInt dk a1 b1 hab1 (by have := HDN.out; omega)
      exact PDS.of HPD.out hS.1.1 HH1.out (HOk.out.trans HO1.out) hS.1 hS.2
    have hl0z : ¬ (l1 : Int) = 0 := by omega
    go_upto_if 35 with fail
    go_cut [3] (fun v wx => ∃ (l2 : Nat) (dk : Array Int), v = .int .i64 l2 ∧ l2 ≤ 100 ∧ Hid (dk.size = n) ∧ Hid (PD d a b dk a1 b1) ∧ Hid (Holds encU wx blk off dk) ∧ Hid (Off [blk] w wx))
    case first =>
      cases wb
      · have C := break_any blk off cap a1 b1 dk wr HHk.out (by have := HDN.out; omega) h13 (by have := HDN.out; omega)
        rw [HDN.out] at C
        have HC := Lib.hid C
        clear C
        go_wp2_with (go_at_call 101; (with_reducible refine HC.out.mono ?_); rintro e w1 ⟨rfl, d2, hs2, hH1, hO1, hp⟩; have HS2 := Lib.hid hs2; have HH1 := Lib.hid hH1; have HO1 := Lib.hid hO1; have HP1 := Lib.hid hp; clear hH1 hO1 hs2 hp)
        go_meet
        exact ⟨l1 - 1, d2, by go_num, by omega, Lib.hid HS2.out, Lib.hid (HPD.out.perm HP1.out), HH1, Lib.hid (HOk.out.trans HO1.out)⟩
      · go_wp2_with fail
        go_meet
        exact ⟨l1, dk, rfl, hl1, HDN, HPD, HHk, HOk⟩
    case rest =>
      clear HPD HHk HOk HDN
      obtain ⟨l2, dk, rfl, hl2, HDN, HPD, HHk, HOk⟩ := hcut
      clear hl0 hl0z hl1
      have C := choose_any blk off cap a1 b1 dk wc HHk.out (by have := HDN.out; omega) h13 (by have := HDN.out; omega)
      rw [HDN.out] at C
      have HC := Lib.hid C
      clear C
      go_upto_if 50 with (go_at_call 102; (with_reducible refine HC.out.mono ?_); rintro e w1 ⟨p, h, rfl, hpp, hh, hB1⟩; have HB1 := Lib.hid hB1; clear hB1)
      go_cut [11, 12] (fun v11 v12 wx => ∃ (p : Nat) (h : Int) (dk : Array Int), v11 = .int .i64 p ∧ v12 = .int .i64 h ∧ a1 ≤ p ∧ p < b1 ∧ (h = 0 ∨ h = 1) ∧ Hid (dk.size = n) ∧ Hid (PD d a b dk a1 b1) ∧ Hid (Holds encU wx blk off dk) ∧ Hid (Off [blk] w wx))
      case first =>
        rcases hh with rfl | rfl | rfl
        · go_wp2_with fail
          go_meet
          exact ⟨p, 0, dk, rfl, rfl, hpp.1, hpp.2, .inl rfl, HDN, HPD, Lib.hid (Holds.keepB HHk.out HB1.out), Lib.hid (HOk.out.bel HB1.out)⟩
        · go_wp2_with fail
          go_meet
          exact ⟨p, 1, dk, rfl, rfl, hpp.1, hpp.2, .inr rfl, HDN, HPD, Lib.hid (Holds.keepB HHk.out HB1.out), Lib.hid (HOk.out.bel HB1.out)⟩
        · have C := reverse_any blk off cap a1 b1 dk w1 (Holds.keepB HHk.out HB1.out) (by omega) (by have := HDN.out; omega) (by have := HDN.out; omega)
          rw [HDN.out] at C
          have HR := Lib.hid C
          clear C
          go_wp2_with (go_at_call 103; (with_reducible refine HR.out.mono ?_); rintro e w2 ⟨rfl, hH1, hO1⟩; have HH1 := Lib.hid hH1; have HO1 := Lib.hid hO1; clear hH1 hO1)
          go_meet
          have hp := reverseRange_holds (α := Int) dk a1 b1 hab1 (by have := HDN.out; omega)
          exact ⟨b1 - 1 - (p - a1), 1, _, by go_num, rfl, by omega, by omega, .inr rfl, Lib.hid (hp.1.trans HDN.out), Lib.hid (HPD.out.perm hp), HH1, Lib.hid ((HOk.out.bel HB1.out).trans HO1.out)⟩
      case rest =>
        clear HPD HHk HOk HDN HC HB1 hh hpp p h
        obtain ⟨p, h, dk, rfl, rfl, hp1, hp2, hh, HDN, HPD, HHk, HOk⟩ := hcut
        go_upto_region 15 with fail
        go_cut [68] (fun v wx => ∃ c : Bool, v = .bool c ∧ Hid (Holds encU wx blk off dk) ∧ Hid (Off [blk] w wx))
        case first =>
          rcases hh with rfl | rfl <;> cases wb <;> cases wp
          all_goals go_wp2_with fail
          all_goals go_meet
          all_goals exact ⟨_, rfl, HHk, HOk⟩
        case rest =>
          clear HHk HOk
          obtain ⟨c, rfl, HHk, HOk⟩ := hcut
          go_upto_if 68 with fail
          go_cut [72] (fun _ wx => ∃ dk : Array Int, Hid (dk.size = n) ∧ Hid (PD d a b dk a1 b1) ∧ Hid (Holds encU wx blk off dk) ∧ Hid (Off [blk] w wx))
          case first =>
            cases c
            · go_wp2_with fail
              go_meet
              exact ⟨dk, HDN, HPD, HHk, HOk⟩
            · have C := pins_any blk off cap a1 b1 dk wc HHk.out h13 (by have := HDN.out; omega) (by have := HDN.out; omega)
              rw [HDN.out] at C
              have hS := partialInsertionSort_holds (lt := ltInt) swo_ltInt dk a1 b1 (by omega) (by have := HDN.out; omega) HPD.out.below
              obtain ⟨r, hr⟩ : ∃ r, r = partialInsertionSort ltInt dk a1 b1 := ⟨_, rfl⟩
              rw [← hr] at C hS
              clear hr
              obtain ⟨R, q⟩ := r
              have HC := Lib.hid C
              have HS := Lib.hid hS
              clear C hS
              cases q
              · go_wp2_with (go_at_call 104; (with_reducible refine HC.out.mono ?_); rintro e w2 ⟨rfl, hs2, hH1, hO1⟩; have HS2 := Lib.hid hs2; have HH1 := Lib.hid hH1; have HO1 := Lib.hid hO1; clear hH1 hO1 hs2)
                go_meet
                exact ⟨R, Lib.hid (HS2.out.trans HDN.out), Lib.hid (HPD.out.perm HS.out.1), HH1, Lib.hid (HOk.out.trans HO1.out)⟩
              · go_wp2_with (go_at_call 104; (with_reducible refine HC.out.mono ?_); rintro e w2 ⟨rfl, hs2, hH1, hO1⟩; have HS2 := Lib.hid hs2; have HH1 := Lib.hid hH1; have HO1 := Lib.hid hO1; clear hH1 hO1 hs2)
                refine bodyPost_ret (results_none rfl _ _ _) rfl ?_
                exact PDS.of HPD.out HS2.out HH1.out (HOk.out.trans HO1.out) HS.out.1 (HS.out.2 (by trivial))
          case rest =>
            clear HPD HHk HOk HDN c
            obtain ⟨dk, HDN, HPD, HHk, HOk⟩ := hcut
            have ga : a1 - 1 < n := by omega
            have gp : p < n := by omega
            go_upto_region 17 with fail
            go_cut [87] (fun v wx => ∃ t : Bool, v = .bool t ∧ Hid (t = true → 0 < a1 ∧ ltInt dk[a1 - 1]! dk[p]! = false) ∧ Hid (Holds encU wx blk off dk) ∧ Hid (Off [blk] w wx))
            case first =>
              have inst : Nonempty (Wd (Bw wc)) := ⟨⟨wc, Below.refl _ _⟩⟩
              by_cases h0 : 0 < a1
              · have h0z : (0 : Int) < a1 := by omega
                obtain ⟨x, hx⟩ : ∃ x, x = dk[a1 - 1]! := ⟨_, rfl⟩
                obtain ⟨y, hy⟩ : ∃ y, y = dk[p]! := ⟨_, rfl⟩
                have q1 := Hq HHk.out (show a1 - 1 < dk.size by have := HDN.out; omega) hx
                have q2 := Hq HHk.out (show p < dk.size by have := HDN.out; omega) hy
                obtain ⟨q, hq⟩ : ∃ q, q = ltInt x y := ⟨_, rfl⟩
                have HL := Lib.hid (lessQ hq)
                have hQ : ltInt dk[a1 - 1]! dk[p]! = q := by rw [← hx, ← hy, hq]
                have HQ := Lib.hid hQ
                have hsub : ((a1 : Nat) : Int) - 1 = ((a1 - 1 : Nat) : Int) := by omega
                have hsw : IntKind.i64.wrap (((a1 : Nat) : Int) - 1) = ((a1 - 1 : Nat) : Int) := by rw [IntWalk.i64_in _ (by omega)]; exact hsub
                clear hx hy hq hQ
                refine wp_region_wd (Bw wc) (by kernel_rfl) (by kernel_rfl) ((Below.refl _ wc).drew) ?_
                repeat (first | go_big_quiet_step (first | (go_at_call 85; with_reducible exact calls_wd (fun _ _ h hb => h.keep hb) _ (HL.out _))) | quiet_step (first | (go_at_call 85; with_reducible exact calls_wd (fun _ _ h hb => h.keep hb) _ (HL.out _))))
                refine wpQuiet_nil ?_
                rintro _ ⟨s, rfl⟩
                have HH2 := Lib.hid (Holds.keepB HHk.out s.h)
                have HO2 := Lib.hid (HOk.out.bel s.h)
                go_wp2_with fail
                go_meet
                exact ⟨!q, rfl, Lib.hid (fun ht => ⟨h0, by rw [HQ.out]; simpa using ht⟩), HH2, HO2⟩
              · have h0z : ¬ (0 : Int) < a1 := by omega
                refine wp_region_wd (Bw wc) (by kernel_rfl) (by kernel_rfl) ((Below.refl _ wc).drew) ?_
                repeat (first | go_big_quiet_step (fail) | quiet_step (fail))
                refine wpQuiet_nil ?_
                rintro _ ⟨s, rfl⟩
                have HH2 := Lib.hid (Holds.keepB HHk.out s.h)
                have HO2 := Lib.hid (HOk.out.bel s.h)
                go_wp2_with fail
                go_meet
                exact ⟨false, rfl, Lib.hid (fun ht => by cases ht), HH2, HO2⟩
            case rest =>
              clear HHk HOk
              obtain ⟨t, rfl, HT, HHk, HOk⟩ := hcut
              cases t
              · have C := part_any blk off cap a1 b1 p dk wc (fun x => ltInt x dk[p]!) dk[p]! rfl (fun _ => rfl) HHk.out hp1 hp2 (by have := HDN.out; omega) (by have := HDN.out; omega)
                rw [HDN.out] at C
                have HC := Lib.hid C
                clear C
                go_upto_if 113 with (go_at_call 106; (with_reducible refine HC.out.mono ?_); rintro e w2 ⟨i, j, r, d2, rfl, hs2, hH1, hO1, hPI, hji⟩; have HPP := Lib.hid (PP.of HPD.out (fun _ => rfl) hPI hji); have hj1 := HPP.out.am; have hj2 := HPP.out.mb; have HS2 := Lib.hid hs2; have HH1 := Lib.hid hH1; have HO1 := Lib.hid (HOk.out.trans hO1); clear hH1 hO1 hs2 hPI hji)
                have hsw : (swp d2 j a1).size = n := by rw [size_swp, HS2.out, HDN.out]
                have HSW := Lib.hid hsw
                clear hsw
                by_cases hlt : j - a1 < b1 - j
                · have hltz : (j : Int) - a1 < b1 - j := by omega
                  have R := IH.out blk off cap a1 j l2 (swp d2 j a1) w2 (by omega) HH1.out hj1 (by have := HSW.out; omega) (by have := HSW.out; omega) hl2 HPP.out.belowL
                  rw [HSW.out] at R
                  have HR := Lib.hid R
                  clear R
                  go_wp2_with (go_at_call 74; (with_reducible refine HR.out.mono ?_); rintro e w3 h3; obtain ⟨R, rfl, hs3, HH3, HO3, HP3, HS3⟩ := PDS.got HO1.out h3; clear h3)
                  go_roundw
                  case rel => exact ⟨j + 1, b1, l2, _, r, R, by go_num, rfl, rfl, rfl, rfl, hl2, by omega, by omega, hbb, Lib.hid (HPP.out.left HP3.out HS3.out), HH3, HO3⟩
                  case measure => simp [intOf]; omega
                · have hltz : ¬ (j : Int) - a1 < b1 - j := by omega
                  have R := IH.out blk off cap (j + 1) b1 l2 (swp d2 j a1) w2 (by omega) HH1.out (by omega) (by have := HSW.out; omega) (by have := HSW.out; omega) hl2 HPP.out.belowR
                  rw [HSW.out] at R
                  have zj : (j : Int) + 1 = ((j + 1 : Nat) : Int) := by omega
                  rw [← zj] at R
                  have HR := Lib.hid R
                  clear R zj
                  go_wp2_with (go_at_call 74; (with_reducible refine HR.out.mono ?_); rintro e w3 h3; obtain ⟨R, rfl, hs3, HH3, HO3, HP3, HS3⟩ := PDS.got HO1.out h3; clear h3)
                  go_roundw
                  case rel => exact ⟨a1, j, l2, _, r, R, rfl, rfl, rfl, rfl, rfl, hl2, haa, by omega, by omega, Lib.hid (HPP.out.right HP3.out HS3.out), HH3, HO3⟩
                  case measure => simp [intOf]; omega
              · have C := partEq_any blk off cap a1 b1 p dk wc (fun x => !ltInt dk[p]! x) dk[p]! rfl (fun _ => rfl) HHk.out hp1 hp2 (by have := HDN.out; omega) (by have := HDN.out; omega)
                rw [HDN.out] at C
                have HC := Lib.hid C
                clear C
                go_wp2_with (go_at_call 105; (with_reducible refine HC.out.mono ?_); rintro e w2 ⟨i, j, d2, rfl, hs2, hH1, hO1, hPI, hji⟩; have hE := PD.eq HPD.out (fun _ => rfl) (HT.out rfl).1 (HT.out rfl).2 hPI hji; have HE := Lib.hid hE; have hj1 := hE.2.1; have hj2 := hE.2.2; have HH1 := Lib.hid hH1; have HO1 := Lib.hid (HOk.out.trans hO1); clear hH1 hO1 hs2 hPI hji hE)
                go_roundw
                case rel => exact ⟨i, b1, l2, wb, wp, d2, rfl, rfl, rfl, rfl, rfl, hl2, by omega, hj2, hbb, Lib.hid HE.out.1, HH1, HO1⟩
                case measure => simp [intOf]; omega
end Go.Proofs.YtldmajifkmcdcaaGreat.U32
/-
  slices.Sort puts numbers in order, at uint32. No condition but those typed at each theorem.
-/
namespace Go.Proofs.YtldmajifkmcdcaaGreat.U32
open Go.RowKit Go.Sort
/-- slices.Sort puts n numbers in order -/
def SortsU (n : Nat) : Prop := ∀ (X : World) (blk off cap : Nat) (d : Array Int), d.size = n → Holds encU X blk off d →
  Calls Tryz.prog 45 #[.slice (some ⟨blk, off, none⟩) d.size cap] X fun e w' => e = .returned (.tuple #[]) ∧ Holds encU w' blk off (Sort.sort ltInt d) ∧ Off [blk] X w'
theorem one_sort (d R : Array Int) (h1 : PermIn 0 d.size d R) (h2 : SortedIn ltInt 0 d.size R) : R = Sort.sort ltInt d := by
  have ha : ∀ x y : Int, ltInt x y = false → ltInt y x = false → x = y := by
    intro x y h1 h2
    simp [ltInt] at h1 h2
    omega
  have hS := sort_sorts ltInt swo_ltInt d
  have e1 := sorted_unique_holds (lt := ltInt) swo_ltInt ha d R h1 h2
  have e2 := sorted_unique_holds (lt := ltInt) swo_ltInt ha d (Sort.sort ltInt d) hS.1 hS.2
  exact Array.toList_inj.1 (e1.trans e2.symm)
theorem bl_100 (n : Nat) (h : n ≤ 8192) : Lib.bitLen n ≤ 100 := Nat.le_trans (Lib.bitLen_le n 14 (by omega) (by omega)) (by omega)
set_option maxRecDepth 100000 in
set_option maxHeartbeats 1600000 in
theorem sorts_any (n : Nat) (h : n ≤ 8192) : SortsU n := by
  intro w blk off cap d hn hH
  have HP := fun X (hX : Holds encU X blk off d) => pdq_any (n + 1) blk off cap 0 d.size (Lib.bitLen n) d X (by omega) hX (Nat.zero_le _) (Nat.le_refl _) (by omega) (bl_100 n h) (.inl rfl)
  have HL := fun X => Tryz.bits_Len n X (by omega) (by omega)
  have H1 := one_sort d
  rw [hn] at HP H1 ⊢
  simp only [Int.natCast_zero] at HP
  have HP' := Lib.hid HP
  have HL' := Lib.hid HL
  have HH := Lib.hid hH
  have H1' := Lib.hid H1
  clear HP HL hH hn H1
  go_enter Tryz.func45, Tryz.ntmps45
  go_wp2_with (first
    | (go_at_call 32; (with_reducible refine (HL'.out _).mono ?_); rintro e w1 ⟨rfl, rfl⟩)
    | (go_at_call 74; (with_reducible refine (HP'.out _ HH.out).mono ?_); rintro e w1 h1; obtain ⟨R, rfl, hs1, hH1, hO1, hP1, hS1⟩ := PDS.got (Off.refl _ _) h1; clear h1))
  go_end0
  have hR := H1'.out R hP1.out hS1.out
  subst hR
  exact ⟨rfl, hH1.out, hO1.out⟩
end Go.Proofs.YtldmajifkmcdcaaGreat.U32
/-
  Where numbers begin to be more than another (rank.Above). No condition but those typed at each theorem.
-/
namespace Go.Proofs.YtldmajifkmcdcaaGreat
open Go.RowKit
set_option maxRecDepth 100000 in
set_option maxHeartbeats 800000 in
theorem abv1_any (w : World) (B C b off cap : Nat) (xs : List Int) (x : Int) (hbox : w.cell? ⟨B, 0, none⟩ = some (.slice (some ⟨b, off, none⟩) xs.length cap)) (hx : Ns w b off .i64 xs)
    (hnum : w.cell? ⟨C, 0, none⟩ = some (.int .i64 x)) (m : Nat) (hm : m < xs.length) :
    Calls Tryz.prog 93 #[.int .i64 m, .pointer (some ⟨B, 0, none⟩), .pointer (some ⟨C, 0, none⟩)] w fun e w' => e = .returned (.bool (isMore xs x m)) ∧ Below w.heap.size w w' := by
  obtain ⟨y, hy⟩ : ∃ y, y = xs.getD m 0 := ⟨_, rfl⟩
  have c0 : ∀ s : Wd (Bw w), s.w.cell? ⟨B, 0, none⟩ = some (.slice (some ⟨b, off, none⟩) xs.length cap) := fun s => Bw.cell s hbox
  have c1 : ∀ s : Wd (Bw w), s.w.cell? ⟨C, 0, none⟩ = some (.int .i64 x) := fun s => Bw.cell s hnum
  have c2 : ∀ s : Wd (Bw w), s.w.cell? ⟨b, off + m, none⟩ = some (.int .i64 y) := fun s => Bw.cell s (hx m y (by rw [hy]; exact getD_num xs m hm))
  have inst : Nonempty (Wd (Bw w)) := ⟨⟨w, Below.refl _ _⟩⟩
  have HY := Lib.hid hy
  clear hbox hx hnum hy
  go_enter Tryz.func93, Tryz.ntmps93
  go_upto_region 1 with fail
  refine wp_region_wd (Bw w) (by kernel_rfl) (by kernel_rfl) ((Below.refl _ w).drew) ?_
  repeat (first | go_big_quiet_step (fail) | quiet_step (fail))
  refine wpQuiet_nil ?_
  rintro _ ⟨s, rfl⟩
  go_wp2
  go_ret
  refine ⟨retb ?_, s.h⟩
  rw [isMore, ← HY.out]
theorem egA : ∀ args w, (callFunc 93 args).run Tryz.prog w = .ok (.enter 93 args) w := enters_of Tryz.func93 (by kernel_rfl) rfl
set_option maxRecDepth 100000 in
set_option maxHeartbeats 800000 in
theorem Above_any (w : World) (p : Option Addr) (cap : Nat) (xs : List Int) (x : Int) (hx : NS w p .i64 xs) (hn : xs.length ≤ 100000) :
    Calls Tryz.prog 63 #[.slice p xs.length cap, .int .i64 x] w fun e w' => e = .returned (two (aboveP xs x)) ∧ Below w.heap.size w w' := by
  have hmf : ∀ (fn : Fn) (first cap : Array Value) (w : World), (Instr.makeFunc fn first cap).run Tryz.prog w = .ok (.func fn first cap) w := fun _ _ _ _ => rfl
  obtain ⟨W, hW⟩ : ∃ W, W = (w.alloc (.cells #[.slice p xs.length cap] 62)).alloc (.cells #[.int .i64 x] 2) := ⟨_, rfl⟩
  have hWb : Below w.heap.size w W := by subst hW; exact ((Below.refl _ w).alloc (Nat.le_refl _) _).alloc (by simp) _
  have hbox : W.cell? ⟨w.heap.size, 0, none⟩ = some (.slice p xs.length cap) := by subst hW; rw [World.cell?_alloc_lt _ _ _ (by simp)]; simp
  have hnum : W.cell? ⟨w.heap.size + 1, 0, none⟩ = some (.int .i64 x) := by subst hW; simp
  have hxW := hx.keep hWb
  have HC := Lib.hid (look_any W 93 xs.length #[.pointer (some ⟨w.heap.size, 0, none⟩), .pointer (some ⟨w.heap.size + 1, 0, none⟩)] (isMore xs x) egA (by omega) (by
    intro m hm X hX
    rcases hxW with rfl | ⟨b, off, rfl, h⟩
    · simp at hm
    · exact abv1_any X w.heap.size (w.heap.size + 1) b off cap xs x ((hX.cell (World.block_lt_of_cell? W _ hbox)).trans hbox) (h.keep hX) ((hX.cell (World.block_lt_of_cell? W _ hnum)).trans hnum) m hm))
  have hP : aboveP xs x = lk (isMore xs x) xs.length := rfl
  rw [← hP] at HC
  obtain ⟨P, hPP⟩ : ∃ P, P = aboveP xs x := ⟨_, rfl⟩
  obtain ⟨n, hnn⟩ : ∃ n, n = xs.length := ⟨_, rfl⟩
  rw [← hPP, ← hnn] at HC
  rw [← hPP, ← hnn]
  rw [← hnn] at hbox hW
  have HWb := Lib.hid hWb
  clear hWb hP hPP hnn hnum hx hxW hn
  go_enter Tryz.func63, Tryz.ntmps63
  go_upto_region 1 with fail
  rw [← hW]
  clear hW
  go_wp2_with (go_at_call 91; (with_reducible refine HC.out.mono ?_); rintro e w1 ⟨rfl, hb1⟩; have HB1 := Lib.hid (HWb.out.trans (hb1.mono HWb.out.size)); clear hb1)
  go_ret2
  exact ⟨rfl, HB1.out⟩
end Go.Proofs.YtldmajifkmcdcaaGreat
