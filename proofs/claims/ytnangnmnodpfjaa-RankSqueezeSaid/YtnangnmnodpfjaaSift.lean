/-
  Go's own heap sort at int64. No condition but those typed at each theorem.
-/
import Derived.Test.YtnangnmnodpfjaaIns
import Derived.Sort.LotB
namespace Go.Proofs.Ytnangnmnodpfjaa
open Go.RowKit Go.Sort

theorem Hq {w : World} {blk off : Nat} {d : Array Int} (h : Holds encU w blk off d) {t : Nat} (ht : t < d.size) {v : Int} (hv : v = d[t]!) : ∀ s : Wd (Bw w), s.w.cell? ⟨blk, off + t, none⟩ = some (.int .i64 v) :=
  fun s => Bw.cell s (by rw [hv]; exact (h t ht).1)
theorem lessQ {x y : Int} {q : Bool} (hq : q = ltInt x y) : ∀ X, Calls Try.prog 39 #[.int .i64 x, .int .i64 y] X fun e w' => e = .returned (.bool q) ∧ Below X.heap.size X w' := fun X => by
  rw [hq]; exact (less_any x y X).mono fun _ _ h => ⟨h.1, h.2 ▸ Below.refl _ _⟩
theorem swz {X w : World} {blk off : Nat} {d : Array Int} (hH : Holds encU X blk off d) (hO : Off [blk] w X) {i j : Nat} (hi : i < d.size) (hj : j < d.size) {x y : Int} (hx : x = d[i]!) (hy : y = d[j]!) :
    Holds encU ((X.setCell ⟨blk, off + i, none⟩ (encU y)).setCell ⟨blk, off + j, none⟩ (encU x)) blk off (swp d i j) ∧ Off [blk] w ((X.setCell ⟨blk, off + i, none⟩ (encU y)).setCell ⟨blk, off + j, none⟩ (encU x)) := by
  subst hx hy
  exact ⟨holds_swp hH hi hj, (hO.set ⟨blk, off + i, none⟩ _ (.inl (by simp))).set ⟨blk, off + j, none⟩ _ (.inl (by simp))⟩

theorem sift_end (hi F r : Nat) (d : Array Int) (h : 2 * r + 1 ≥ hi) : siftDown ltInt hi F r d = d := by rw [siftDown, dif_pos h]
theorem sift_go (hi F r c : Nat) (d : Array Int) (h : ¬ 2 * r + 1 ≥ hi) (hc : c = if (decide (2 * r + 1 + 1 < hi) && ltInt d[F + (2 * r + 1)]! d[F + (2 * r + 1) + 1]!) = true then 2 * r + 2 else 2 * r + 1) :
    siftDown ltInt hi F r d = if ltInt d[F + r]! d[F + c]! = true then siftDown ltInt hi F c (swp d (F + r) (F + c)) else d := by
  rw [siftDown, dif_neg h]
  by_cases h1 : (decide (2 * r + 1 + 1 < hi) && ltInt d[F + (2 * r + 1)]! d[F + (2 * r + 1) + 1]!) = true
  · rw [if_pos h1] at hc
    subst hc
    rw [if_pos h1]
    have h2 : 2 * r + 2 < hi := by simp at h1; omega
    cases ltInt d[F + r]! d[F + (2 * r + 2)]! <;> simp [h2]
  · rw [if_neg h1] at hc
    subst hc
    rw [if_neg h1]
    cases ltInt d[F + r]! d[F + (2 * r + 1)]! <;> simp
theorem sift_size (hi F : Nat) : ∀ (n r : Nat) (d : Array Int), hi - r ≤ n → (siftDown ltInt hi F r d).size = d.size := by
  intro n
  induction n with
  | zero => intro r d h; rw [sift_end _ _ _ _ (by omega)]
  | succ n ih =>
    intro r d h
    by_cases h1 : 2 * r + 1 ≥ hi
    · rw [sift_end _ _ _ _ h1]
    · obtain ⟨c, hc⟩ : ∃ c, c = if (decide (2 * r + 1 + 1 < hi) && ltInt d[F + (2 * r + 1)]! d[F + (2 * r + 1) + 1]!) = true then 2 * r + 2 else 2 * r + 1 := ⟨_, rfl⟩
      have h2 : c ≤ 2 * r + 2 ∧ 2 * r + 1 ≤ c := by rw [hc]; split <;> omega
      rw [sift_go hi F r c d h1 hc]
      split
      · rw [ih _ _ (by omega), size_swp]
      · rfl

set_option maxRecDepth 100000 in
set_option maxHeartbeats 6400000 in
theorem siftDown_any (blk off cap lo hi F : Nat) (d : Array Int) (w : World) (hH : Holds encU w blk off d) (hb : F + hi ≤ d.size) (hsz : d.size ≤ 100000) (hlo : lo ≤ 100000) :
    Calls Try.prog 42 #[.slice (some ⟨blk, off, none⟩) d.size cap, .int .i64 lo, .int .i64 hi, .int .i64 F] w fun e w' =>
      e = .returned (.tuple #[]) ∧ Holds encU w' blk off (siftDown ltInt hi F lo d) ∧ Off [blk] w w' := by
  have HH := Lib.hid hH
  clear hH
  go_enter Try.func42, Try.ntmps42
  go_wp2
  go_loopw [8] (fun vr wr => ∃ (r : Nat) (dk : Array Int), vr = .int .i64 r ∧ r ≤ 100000 ∧ dk.size = d.size ∧ Hid (Holds encU wr blk off dk) ∧ Hid (Off [blk] w wr) ∧ Hid (siftDown ltInt hi F r dk = siftDown ltInt hi F lo d)) (fun vr _ => 100001 - (intOf vr).toNat)
  case atStart => exact ⟨lo, d, rfl, hlo, rfl, HH, Lib.hid (Off.refl _ _), Lib.hid rfl⟩
  case round =>
    obtain ⟨r, dk, rfl, hr, hsk, HHk, HOk, HI⟩ := hrel
    have inst : Nonempty (Wd (Bw wr)) := ⟨⟨wr, Below.refl _ _⟩⟩
    obtain ⟨c, hc⟩ : ∃ n : Nat, n = 2 * r + 1 := ⟨_, rfl⟩
    have zc : 2 * (r : Int) + 1 = (c : Int) := by omega
    have HC := Lib.hid hc
    clear hc
    by_cases hge : c ≥ hi
    · have hgez : (hi : Int) ≤ c := by omega
      go_wp2
      go_end0
      have := HI.out
      rw [sift_end _ _ _ _ (by have := HC.out; omega)] at this
      exact ⟨rfl, this ▸ HHk.out, HOk.out⟩
    have hgez : ¬ (hi : Int) ≤ c := by omega
    have hc := HC.out
    obtain ⟨c1, hc1⟩ : ∃ n : Nat, n = c + 1 := ⟨_, rfl⟩
    obtain ⟨fr, hfr⟩ : ∃ n : Nat, n = F + r := ⟨_, rfl⟩
    obtain ⟨fc, hfc⟩ : ∃ n : Nat, n = F + c := ⟨_, rfl⟩
    obtain ⟨f1, hf1⟩ : ∃ n : Nat, n = F + c + 1 := ⟨_, rfl⟩
    obtain ⟨x0, hx0⟩ : ∃ x, x = dk[fr]! := ⟨_, rfl⟩
    obtain ⟨x1, hx1⟩ : ∃ x, x = dk[fc]! := ⟨_, rfl⟩
    obtain ⟨x2, hx2⟩ : ∃ x, x = dk[f1]! := ⟨_, rfl⟩
    have g0 : fr < d.size := by omega
    have g1 : fc < d.size := by omega
    have q0 := Hq HHk.out (by omega) hx0
    have q1 := Hq HHk.out (by omega) hx1
    obtain ⟨p1, hp1⟩ : ∃ p, p = ltInt x1 x2 := ⟨_, rfl⟩
    have HL1 := Lib.hid (lessQ hp1)
    obtain ⟨cc, hcc⟩ : ∃ n : Nat, n = if (decide (c1 < hi) && p1) = true then c1 else c := ⟨_, rfl⟩
    have hgo := sift_go hi F r cc dk (by omega) (by rw [hcc, hp1, hx1, hx2, hf1, hfc, hc1, hc])
    have HGO := Lib.hid hgo
    have HCC := Lib.hid hcc
    have HX0 := Lib.hid hx0
    have HX1 := Lib.hid hx1
    have HX2 := Lib.hid hx2
    have HC1 := Lib.hid hc1
    have HFR := Lib.hid hfr
    have HFC := Lib.hid hfc
    have HF1 := Lib.hid hf1
    have zc1 : (c : Int) + 1 = (c1 : Int) := by omega
    have zfr : (F : Int) + r = (fr : Int) := by omega
    have zfc : (F : Int) + c = (fc : Int) := by omega
    have zf1 : (fc : Int) + 1 = (f1 : Int) := by omega
    have zg1 : (F : Int) + c1 = (f1 : Int) := by omega
    clear hx0 hx1 hx2 hp1 hcc hgo hc hc1 hfr hfc hf1
    obtain ⟨bb, hbb⟩ : ∃ b, b = (decide (c1 < hi) && p1) := ⟨_, rfl⟩
    have HBB := Lib.hid hbb
    rw [← hbb] at HCC
    clear hbb
    go_upto_region 3 with fail
    have yc : IntKind.i64.wrap (2 * (r : Int) + 1) = (c : Int) := by rw [IntWalk.i64_in _ (by omega)]; exact zc
    have yc1 : IntKind.i64.wrap ((c : Int) + 1) = (c1 : Int) := by rw [IntWalk.i64_in _ (by omega)]; exact zc1
    have yfr : IntKind.i64.wrap ((F : Int) + r) = (fr : Int) := by rw [IntWalk.i64_in _ (by omega)]; exact zfr
    have yfc : IntKind.i64.wrap ((F : Int) + c) = (fc : Int) := by rw [IntWalk.i64_in _ (by omega)]; exact zfc
    have yf1 : IntKind.i64.wrap ((fc : Int) + 1) = (f1 : Int) := by rw [IntWalk.i64_in _ (by omega)]; exact zf1
    have yg1 : IntKind.i64.wrap ((F : Int) + c1) = (f1 : Int) := by rw [IntWalk.i64_in _ (by omega)]; exact zg1
    go_cut [36] (fun s36 wx => s36 = .bool bb ∧ ∃ s : Wd (Bw wr), wx = s.w)
    case first =>
      by_cases h1 : c1 < hi
      · have h1z : (c1 : Int) < hi := by omega
        have q2 := Hq HHk.out (by have := HC1.out; have := HF1.out; omega) HX2.out
        have g2 : f1 < d.size := by have := HC1.out; have := HF1.out; omega
        refine wp_region_wd (Bw wr) (by kernel_rfl) (by kernel_rfl) ((Below.refl _ wr).drew) ?_
        repeat (first | go_big_quiet_step (first | (go_at_call 39; with_reducible exact calls_wd (fun _ _ h hb => h.keep hb) _ (HL1.out _))) | quiet_step (first | (go_at_call 39; with_reducible exact calls_wd (fun _ _ h hb => h.keep hb) _ (HL1.out _))))
        refine wpQuiet_nil ?_
        rintro _ ⟨s, rfl⟩
        go_wp2_with fail
        go_meet
        exact ⟨by rw [HBB.out]; simp [h1], s, rfl⟩
      · have h1z : ¬ (c1 : Int) < hi := by omega
        refine wp_region_wd (Bw wr) (by kernel_rfl) (by kernel_rfl) ((Below.refl _ wr).drew) ?_
        repeat (first | go_big_quiet_step (fail) | quiet_step (fail))
        refine wpQuiet_nil ?_
        rintro _ ⟨s, rfl⟩
        go_wp2_with fail
        go_meet
        exact ⟨by rw [HBB.out]; simp [h1], s, rfl⟩
    case rest =>
      obtain ⟨rfl, s0, rfl⟩ := hcut
      clear yc yc1 yfr yfc yf1 yg1
      cases bb
      ·
        have hccn : c = cc := by rw [HCC.out]; rfl
        subst hccn
        obtain ⟨fx, hfx⟩ : ∃ n : Nat, n = F + c := ⟨_, rfl⟩
        have hfx2 : fc = fx := by have := HFC.out; have := HF1.out; have := HC1.out; omega
        subst hfx2
        obtain ⟨p2, hp2⟩ : ∃ p, p = ltInt x0 x1 := ⟨_, rfl⟩
        have HL2 := Lib.hid (lessQ hp2)
        have hgo := HGO.out
        rw [← HFR.out, ← hfx, ← HX0.out, ← HX1.out, ← hp2] at hgo
        have HGO2 := Lib.hid hgo
        have HFX := Lib.hid hfx
        clear hgo hfx hp2 HCC HGO
        have gx : fc < d.size := by
          have h1 := HBB.out
          have h2 := HFC.out
          have h3 := HF1.out
          have h4 := HC1.out
          simp at h1
          omega
        have HHs := Lib.hid (Holds.keepB HHk.out s0.h)
        have HOs := Lib.hid (HOk.out.bel s0.h)
        generalize s0.w = w1 at *
        have q0' := Hq HHs.out (by omega) HX0.out
        have qx' := Hq HHs.out (by omega) HX1.out
        have inst1 : Nonempty (Wd (Bw w1)) := ⟨⟨w1, Below.refl _ _⟩⟩
        clear q0 q1 HHk HOk
        go_upto_region 5 with fail
        have yc : IntKind.i64.wrap (2 * (r : Int) + 1) = (c : Int) := by rw [IntWalk.i64_in _ (by omega)]; exact zc
        have yc1 : IntKind.i64.wrap ((c : Int) + 1) = (c1 : Int) := by rw [IntWalk.i64_in _ (by omega)]; exact zc1
        have yfr : IntKind.i64.wrap ((F : Int) + r) = (fr : Int) := by rw [IntWalk.i64_in _ (by omega)]; exact zfr
        have yfc : IntKind.i64.wrap ((F : Int) + c) = (fc : Int) := by rw [IntWalk.i64_in _ (by omega)]; exact zfc
        have yf1 : IntKind.i64.wrap ((fc : Int) + 1) = (f1 : Int) := by rw [IntWalk.i64_in _ (by omega)]; exact zf1
        have yg1 : IntKind.i64.wrap ((F : Int) + c1) = (f1 : Int) := by rw [IntWalk.i64_in _ (by omega)]; exact zg1
        refine wp_region_wd (Bw w1) (by kernel_rfl) (by kernel_rfl) ((Below.refl _ w1).drew) ?_
        repeat (first | go_big_quiet_step (first | (go_at_call 39; with_reducible exact calls_wd (fun _ _ h hb => h.keep hb) _ (HL2.out _))) | quiet_step (first | (go_at_call 39; with_reducible exact calls_wd (fun _ _ h hb => h.keep hb) _ (HL2.out _))))
        refine wpQuiet_nil ?_
        rintro _ ⟨s1, rfl⟩
        have d0 := q0' s1
        have dx := qx' s1
        have HH2 := Lib.hid (Holds.keepB HHs.out s1.h)
        have HO2 := Lib.hid (HOs.out.bel s1.h)
        have f0 := (HH2.out fr (by omega)).2
        have fx' := (HH2.out fc (by omega)).2
        generalize s1.w = w2 at *
        clear q0' qx' s1 inst1 inst
        cases p2
        · clear yc yc1 yfr yfc yf1 yg1
          go_wp2
          refine bodyPost_ret (results_none rfl _ _ _) rfl ?_
          have := HI.out
          rw [HGO2.out] at this
          exact ⟨rfl, this ▸ HH2.out, HO2.out⟩
        · obtain ⟨hs1, hs2⟩ := swz HH2.out HO2.out (show fr < dk.size by omega) (show fc < dk.size by omega) HX0.out HX1.out
          have HS1 := Lib.hid hs1
          have HS2 := Lib.hid hs2
          clear hs1 hs2
          clear yc yc1 yfr yfc yf1 yg1
          go_upto_region 6 with fail
          have yc : IntKind.i64.wrap (2 * (r : Int) + 1) = (c : Int) := by rw [IntWalk.i64_in _ (by omega)]; exact zc
          have yc1 : IntKind.i64.wrap ((c : Int) + 1) = (c1 : Int) := by rw [IntWalk.i64_in _ (by omega)]; exact zc1
          have yfr : IntKind.i64.wrap ((F : Int) + r) = (fr : Int) := by rw [IntWalk.i64_in _ (by omega)]; exact zfr
          have yfc : IntKind.i64.wrap ((F : Int) + c) = (fc : Int) := by rw [IntWalk.i64_in _ (by omega)]; exact zfc
          have yf1 : IntKind.i64.wrap ((fc : Int) + 1) = (f1 : Int) := by rw [IntWalk.i64_in _ (by omega)]; exact zf1
          have yg1 : IntKind.i64.wrap ((F : Int) + c1) = (f1 : Int) := by rw [IntWalk.i64_in _ (by omega)]; exact zg1
          go_region
          all_goals clear yc yc1 yfr yfc yf1 yg1
          all_goals go_wp2
          all_goals go_roundw
          case rel => exact ⟨c, swp dk fr fc, by first | rfl | go_num, by omega, by rw [size_swp]; exact hsk, HS1, Lib.hid HS2.out.drew, Lib.hid (by rw [← HI.out, HGO2.out]; simp)⟩
          case measure => simp [intOf]; have := HC.out; have := HC1.out; omega
      ·
        have hccn : c1 = cc := by rw [HCC.out]; rfl
        subst hccn
        obtain ⟨fx, hfx⟩ : ∃ n : Nat, n = F + c1 := ⟨_, rfl⟩
        have hfx2 : f1 = fx := by have := HFC.out; have := HF1.out; have := HC1.out; omega
        subst hfx2
        obtain ⟨p2, hp2⟩ : ∃ p, p = ltInt x0 x2 := ⟨_, rfl⟩
        have HL2 := Lib.hid (lessQ hp2)
        have hgo := HGO.out
        rw [← HFR.out, ← hfx, ← HX0.out, ← HX2.out, ← hp2] at hgo
        have HGO2 := Lib.hid hgo
        have HFX := Lib.hid hfx
        clear hgo hfx hp2 HCC HGO
        have gx : f1 < d.size := by
          have h1 := HBB.out
          have h2 := HFC.out
          have h3 := HF1.out
          have h4 := HC1.out
          simp at h1
          omega
        have HHs := Lib.hid (Holds.keepB HHk.out s0.h)
        have HOs := Lib.hid (HOk.out.bel s0.h)
        generalize s0.w = w1 at *
        have q0' := Hq HHs.out (by omega) HX0.out
        have qx' := Hq HHs.out (by omega) HX2.out
        have inst1 : Nonempty (Wd (Bw w1)) := ⟨⟨w1, Below.refl _ _⟩⟩
        clear q0 q1 HHk HOk
        go_upto_region 5 with fail
        have yc : IntKind.i64.wrap (2 * (r : Int) + 1) = (c : Int) := by rw [IntWalk.i64_in _ (by omega)]; exact zc
        have yc1 : IntKind.i64.wrap ((c : Int) + 1) = (c1 : Int) := by rw [IntWalk.i64_in _ (by omega)]; exact zc1
        have yfr : IntKind.i64.wrap ((F : Int) + r) = (fr : Int) := by rw [IntWalk.i64_in _ (by omega)]; exact zfr
        have yfc : IntKind.i64.wrap ((F : Int) + c) = (fc : Int) := by rw [IntWalk.i64_in _ (by omega)]; exact zfc
        have yf1 : IntKind.i64.wrap ((fc : Int) + 1) = (f1 : Int) := by rw [IntWalk.i64_in _ (by omega)]; exact zf1
        have yg1 : IntKind.i64.wrap ((F : Int) + c1) = (f1 : Int) := by rw [IntWalk.i64_in _ (by omega)]; exact zg1
        refine wp_region_wd (Bw w1) (by kernel_rfl) (by kernel_rfl) ((Below.refl _ w1).drew) ?_
        repeat (first | go_big_quiet_step (first | (go_at_call 39; with_reducible exact calls_wd (fun _ _ h hb => h.keep hb) _ (HL2.out _))) | quiet_step (first | (go_at_call 39; with_reducible exact calls_wd (fun _ _ h hb => h.keep hb) _ (HL2.out _))))
        refine wpQuiet_nil ?_
        rintro _ ⟨s1, rfl⟩
        have d0 := q0' s1
        have dx := qx' s1
        have HH2 := Lib.hid (Holds.keepB HHs.out s1.h)
        have HO2 := Lib.hid (HOs.out.bel s1.h)
        have f0 := (HH2.out fr (by omega)).2
        have fx' := (HH2.out f1 (by omega)).2
        generalize s1.w = w2 at *
        clear q0' qx' s1 inst1 inst
        cases p2
        · clear yc yc1 yfr yfc yf1 yg1
          go_wp2
          refine bodyPost_ret (results_none rfl _ _ _) rfl ?_
          have := HI.out
          rw [HGO2.out] at this
          exact ⟨rfl, this ▸ HH2.out, HO2.out⟩
        · obtain ⟨hs1, hs2⟩ := swz HH2.out HO2.out (show fr < dk.size by omega) (show f1 < dk.size by omega) HX0.out HX2.out
          have HS1 := Lib.hid hs1
          have HS2 := Lib.hid hs2
          clear hs1 hs2
          clear yc yc1 yfr yfc yf1 yg1
          go_upto_region 6 with fail
          have yc : IntKind.i64.wrap (2 * (r : Int) + 1) = (c : Int) := by rw [IntWalk.i64_in _ (by omega)]; exact zc
          have yc1 : IntKind.i64.wrap ((c : Int) + 1) = (c1 : Int) := by rw [IntWalk.i64_in _ (by omega)]; exact zc1
          have yfr : IntKind.i64.wrap ((F : Int) + r) = (fr : Int) := by rw [IntWalk.i64_in _ (by omega)]; exact zfr
          have yfc : IntKind.i64.wrap ((F : Int) + c) = (fc : Int) := by rw [IntWalk.i64_in _ (by omega)]; exact zfc
          have yf1 : IntKind.i64.wrap ((fc : Int) + 1) = (f1 : Int) := by rw [IntWalk.i64_in _ (by omega)]; exact zf1
          have yg1 : IntKind.i64.wrap ((F : Int) + c1) = (f1 : Int) := by rw [IntWalk.i64_in _ (by omega)]; exact zg1
          go_region
          all_goals clear yc yc1 yfr yfc yf1 yg1
          all_goals go_wp2
          all_goals go_roundw
          case rel => exact ⟨c1, swp dk fr f1, by first | rfl | go_num, by omega, by rw [size_swp]; exact hsk, HS1, Lib.hid HS2.out.drew, Lib.hid (by rw [← HI.out, HGO2.out]; simp)⟩
          case measure => simp [intOf]; have := HC.out; have := HC1.out; omega

theorem build_size (hi F : Nat) : ∀ (k : Nat) (d : Array Int), (heapBuild ltInt hi F k d).size = d.size
  | 0, d => by rw [heapBuild]
  | k + 1, d => by rw [heapBuild, build_size hi F k, sift_size hi F _ _ _ (Nat.le_refl _)]

set_option maxRecDepth 100000 in
set_option maxHeartbeats 6400000 in
theorem heapSort_any (blk off cap a b : Nat) (d : Array Int) (w : World) (hH : Holds encU w blk off d) (hab : a < b) (hb : b ≤ d.size) (hsz : d.size ≤ 100000) :
    Calls Try.prog 34 #[.slice (some ⟨blk, off, none⟩) d.size cap, .int .i64 a, .int .i64 b] w fun e w' =>
      e = .returned (.tuple #[]) ∧ Holds encU w' blk off (heapSort ltInt d a b) ∧ Off [blk] w w' := by
  have HH := Lib.hid hH
  clear hH
  obtain ⟨hi, hhi⟩ : ∃ n : Nat, n = b - a := ⟨_, rfl⟩
  have zhi : (b : Int) - a = (hi : Int) := by omega
  obtain ⟨k0, hk0⟩ : ∃ n : Nat, n = (hi - 1) / 2 := ⟨_, rfl⟩
  have hi1 : 1 ≤ hi ∧ hi ≤ 100000 := by omega
  have zk0 : ((hi : Int) - 1).tdiv 2 = (k0 : Int) := by rw [hk0, show ((hi : Int) - 1) = ((hi - 1 : Nat) : Int) by omega]; rfl
  have zk1 : ((hi : Int) - 1) / 2 = (k0 : Int) := by omega
  have hk1 : k0 ≤ 100000 := by omega
  have HHI := Lib.hid hhi
  have HK0 := Lib.hid hk0
  have hab' : a + hi = b := by omega
  have HAB := Lib.hid hab'
  clear hhi hk0 hab'
  go_enter Try.func34, Try.ntmps34
  go_wp2
  go_loopw [9] (fun v wr => ∃ (k : Nat) (dk : Array Int), v = .int .i64 ((k : Int) - 1) ∧ k ≤ k0 + 1 ∧ dk.size = d.size ∧ Hid (Holds encU wr blk off dk) ∧ Hid (Off [blk] w wr) ∧ Hid (heapBuild ltInt hi a k dk = heapBuild ltInt hi a (k0 + 1) d)) (fun v _ => (intOf v + 1).toNat)
  case atStart => exact ⟨k0 + 1, d, by go_num, Nat.le_refl _, rfl, HH, Lib.hid (Off.refl _ _), Lib.hid rfl⟩
  case round =>
    obtain ⟨k, dk, rfl, hk, hsk, HHk, HOk, HI⟩ := hrel
    cases k with
    | succ k =>
      have zk : (((k + 1 : Nat) : Int) - 1) = (k : Int) := by omega
      rw [zk]
      have hkz : (0 : Int) ≤ k := by omega
      have C1 := siftDown_any blk off cap k hi a dk wr HHk.out (by have := HAB.out; omega) (by omega) (by omega)
      rw [hsk] at C1
      have HC1 := Lib.hid C1
      clear C1 zk
      go_wp2_with (go_at_call 42; (with_reducible refine HC1.out.mono ?_); rintro e w1 ⟨rfl, hH1, hO1⟩; have HH1 := Lib.hid hH1; have HO1 := Lib.hid (HOk.out.trans hO1); clear hH1 hO1)
      go_roundw
      case rel => exact ⟨k, siftDown ltInt hi a k dk, by first | rfl | go_num, by omega, by rw [sift_size _ _ _ _ _ (Nat.le_refl _)]; exact hsk, HH1, HO1, Lib.hid (by rw [← HI.out]; rfl)⟩
      case measure => simp [intOf] <;> omega
    | zero =>
      rw [show (((0 : Nat) : Int) - 1) = -1 from rfl]
      have hH1 := HHk.out
      have hI1 : dk = heapBuild ltInt hi a (k0 + 1) d := HI.out
      go_wp2
      go_loopw [10] (fun v wr2 => ∃ (k : Nat) (dk2 : Array Int), v = .int .i64 ((k : Int) - 1) ∧ k ≤ hi ∧ dk2.size = d.size ∧ Hid (Holds encU wr2 blk off dk2) ∧ Hid (Off [blk] w wr2) ∧ Hid (heapPop ltInt a k dk2 = heapPop ltInt a hi dk)) (fun v _ => (intOf v + 1).toNat)
      case atStart => exact ⟨hi, dk, rfl, Nat.le_refl _, hsk, HHk, HOk, Lib.hid rfl⟩
      case round =>
        clear hH1
        have HI1 := Lib.hid hI1
        clear hI1 HHk HOk
        obtain ⟨k, dj, rfl, hk, hsj, HHj, HOj, HJ⟩ := hrel
        cases k with
        | succ k =>
          have zk : (((k + 1 : Nat) : Int) - 1) = (k : Int) := by omega
          rw [zk]
          have hkz : (0 : Int) ≤ k := by omega
          obtain ⟨ak, hak⟩ : ∃ n : Nat, n = a + k := ⟨_, rfl⟩
          have zak : (a : Int) + k = (ak : Int) := by omega
          obtain ⟨x, hx⟩ : ∃ x, x = dj[a]! := ⟨_, rfl⟩
          obtain ⟨y, hy⟩ : ∃ y, y = dj[ak]! := ⟨_, rfl⟩
          have h1 : a < d.size := by omega
          have h2 : ak < d.size := by have := HAB.out; omega
          have c1 : wr.cell? ⟨blk, off + a, none⟩ = some (.int .i64 x) := by rw [hx]; exact (HHj.out a (by omega)).1
          have c2 : wr.cell? ⟨blk, off + ak, none⟩ = some (.int .i64 y) := by rw [hy]; exact (HHj.out ak (by omega)).1
          have f1 := (HHj.out a (by omega)).2
          have f2 := (HHj.out ak (by omega)).2
          obtain ⟨hs1, hs2⟩ := swz HHj.out HOj.out (show a < dj.size by omega) (show ak < dj.size by omega) hx hy
          have HS1 := Lib.hid hs1
          have HS2 := Lib.hid hs2
          have HAK := Lib.hid hak
          have HXX := Lib.hid hx
          have HYY := Lib.hid hy
          have C1 := fun X (h : Holds encU X blk off (swp dj a ak)) => siftDown_any blk off cap 0 k a (swp dj a ak) X h (by rw [size_swp]; have := HAB.out; omega) (by rw [size_swp]; omega) (by omega)
          rw [size_swp, hsj] at C1
          simp only [Int.natCast_zero] at C1
          have HC1 := Lib.hid (C1 ((wr.setCell ⟨blk, off + a, none⟩ (.int .i64 y)).setCell ⟨blk, off + ak, none⟩ (.int .i64 x)).drew HS1.out)
          clear C1 zk hs1 hs2 hak hx hy
          by_cases hk0 : k = 0
          · have hka : a = ak := by have := HAK.out; omega
            have hxy : x = y := by rw [HXX.out, HYY.out, hka]
            subst hka hxy
            have HAK2 := HAK
            clear HAK hk0
            go_upto_region 10 with fail
            have yak : IntKind.i64.wrap ((a : Int) + k) = (a : Int) := by rw [IntWalk.i64_in _ (by omega)]; exact zak
            go_region
            all_goals clear yak
            all_goals go_wp2_with (go_at_call 42; (with_reducible refine HC1.out.mono ?_); rintro e w1 ⟨rfl, hH1, hO1⟩; have HH1 := Lib.hid hH1; have HO1 := Lib.hid ((HS2.out.drew).trans hO1); clear hH1 hO1)
            all_goals go_roundw
            case rel => exact ⟨k, siftDown ltInt k a 0 (swp dj a a), by first | rfl | go_num, by omega, by rw [sift_size _ _ _ _ _ (Nat.le_refl _), size_swp]; exact hsj, HH1, HO1, Lib.hid (by rw [← HJ.out, heapPop, show a + k = a from HAK2.out.symm])⟩
            case measure => simp [intOf] <;> omega
          · have hne : ¬ ak = a := by have := HAK.out; omega
            have hne2 : ¬ a = ak := by have := HAK.out; omega
            go_upto_region 10 with fail
            have yak : IntKind.i64.wrap ((a : Int) + k) = (ak : Int) := by rw [IntWalk.i64_in _ (by omega)]; exact zak
            go_region
            all_goals clear yak
            all_goals go_wp2_with (go_at_call 42; (with_reducible refine HC1.out.mono ?_); rintro e w1 ⟨rfl, hH1, hO1⟩; have HH1 := Lib.hid hH1; have HO1 := Lib.hid ((HS2.out.drew).trans hO1); clear hH1 hO1)
            all_goals go_roundw
            case rel => exact ⟨k, siftDown ltInt k a 0 (swp dj a ak), by first | rfl | go_num, by omega, by rw [sift_size _ _ _ _ _ (Nat.le_refl _), size_swp]; exact hsj, HH1, HO1, Lib.hid (by rw [← HJ.out, heapPop, HAK.out])⟩
            case measure => simp [intOf] <;> omega
        | zero =>
          rw [show (((0 : Nat) : Int) - 1) = -1 from rfl]
          go_wp2
          go_end0
          have e1 := HJ.out
          have e2 := HI1.out
          have e3 : dj = heapSort ltInt d a b := by
            unfold heapSort
            rw [← HHI.out, ← HK0.out, ← e2, ← e1]
            rfl
          exact ⟨rfl, e3 ▸ HHj.out, HOj.out⟩
end Go.Proofs.Ytnangnmnodpfjaa
