/-
  CornerGrows: a corner whose place is moved away from where it goes has what it had; over any tree that tells corners.
-/
import Derived.Test.YtadlobmhnkfnfaaGreatME
namespace Go.Proofs.YtadlobmhnkfnfaaGreat.Co
open Go.ChangeShapes Go.WideShapes Go.ChangeAt Go.RowKit Go.Joins
theorem sub_rise : ∀ (W N : List Int), W.Pairwise (· < ·) → N.Pairwise (· < ·) → (∀ x ∈ N, x ∈ W) → N.Sublist W := by
  intro W
  induction W with
  | nil =>
    intro N _ _ h
    cases N with
    | nil => exact List.Sublist.refl _
    | cons n N => exact absurd (h n List.mem_cons_self) (by simp)
  | cons v W ih =>
    intro N hW hN h
    rw [List.pairwise_cons] at hW
    cases N with
    | nil => exact List.nil_sublist _
    | cons n N =>
      have hN' := List.pairwise_cons.1 hN
      by_cases e : n = v
      · subst e
        exact List.Sublist.cons_cons _ (ih N hW.2 hN'.2 (fun x hx => by
          rcases List.mem_cons.1 (h x (List.mem_cons_of_mem _ hx)) with g | g
          · have := hN'.1 x hx; omega
          · exact g))
      · refine List.Sublist.cons _ (ih (n :: N) hW.2 hN (fun x hx => ?_))
        have hn : n ∈ W := by
          rcases List.mem_cons.1 (h n List.mem_cons_self) with g | g
          · exact absurd g e
          · exact g
        have hvn := hW.1 n hn
        rcases List.mem_cons.1 (h x hx) with g | g
        · rcases List.mem_cons.1 hx with k | k
          · omega
          · have := hN'.1 x k; omega
        · exact g
theorem drop_step {N W : List Int} {k i : Nat} {x : Int} (h : (N.drop k).Sublist (W.drop i)) (hx : W[i]? = some x) : (∀ y, N[k]? = some y → y = x → (N.drop (k + 1)).Sublist (W.drop (i + 1))) ∧ ((∀ y, N[k]? = some y → y ≠ x) → (N.drop k).Sublist (W.drop (i + 1))) := by
  obtain ⟨hi, e⟩ := List.getElem?_eq_some_iff.1 hx
  rw [List.drop_eq_getElem_cons hi, e] at h
  constructor
  · rintro y hy rfl
    obtain ⟨hk, e2⟩ := List.getElem?_eq_some_iff.1 hy
    rw [List.drop_eq_getElem_cons hk, e2] at h
    exact List.cons_sublist_cons.1 h
  · intro hne
    cases hN : N.drop k with
    | nil => exact List.nil_sublist _
    | cons y N' =>
      rw [hN] at h
      have hy : N[k]? = some y := by
        have : (N.drop k)[0]? = some y := by rw [hN]; rfl
        rw [List.getElem?_drop] at this
        simpa using this
      cases h with
      | cons _ h => exact h
      | cons_cons _ h => exact absurd rfl (hne _ hy)
def mnI (a b : Int) : Int := if b < a then b else a
def mxI (a b : Int) : Int := if a < b then b else a
theorem minI (X : World) (ty : TypeId) (a b : Int) : (Builtin.min_ #[2, 2] ty #[.int .i64 a, .int .i64 b]).run Tryz.prog X = .ok (.int .i64 (mnI a b)) X := by
  unfold mnI
  by_cases h : b < a
  · simp [Builtin.min_, Builtin.min2, go_sem, h]
  · simp [Builtin.min_, Builtin.min2, go_sem, h]
theorem maxI (X : World) (ty : TypeId) (a b : Int) : (Builtin.max_ #[2, 2] ty #[.int .i64 a, .int .i64 b]).run Tryz.prog X = .ok (.int .i64 (mxI a b)) X := by
  unfold mxI
  by_cases h : a < b
  · simp [Builtin.max_, Builtin.max2, go_sem, h]
  · simp [Builtin.max_, Builtin.max2, go_sem, h]
theorem mn_wf {a b : Int} (ha : (Lit.int .i64 a).wf = true) (hb : (Lit.int .i64 b).wf = true) : (Lit.int .i64 (mnI a b)).wf = true := by unfold mnI; split <;> assumption
theorem mx_wf {a b : Int} (ha : (Lit.int .i64 a).wf = true) (hb : (Lit.int .i64 b).wf = true) : (Lit.int .i64 (mxI a b)).wf = true := by unfold mxI; split <;> assumption
/-- a way's less and more -/
def sel (c : Bool) (a b : Int) : Int := if c then b else a
theorem sel_wf {c : Bool} {a b : Int} (ha : (Lit.int .i64 a).wf = true) (hb : (Lit.int .i64 b).wf = true) : (Lit.int .i64 (sel c a b)).wf = true := by
  cases c
  · exact ha
  · exact hb
theorem co_grow (way : Nat) (a b c d : Int) : ∀ s, coB (sel (decide ((way : Int) % 4 % 2 = 1)) (mnI a b) (mxI a b)) (sel (decide (2 ≤ (way : Int) % 4)) (mnI c d) (mxI c d)) (way % 4) s = true → coB (sel (decide ((way : Int) % 4 % 2 = 1)) (mxI a b) (mnI a b)) (sel (decide (2 ≤ (way : Int) % 4)) (mxI c d) (mnI c d)) (way % 4) s = true := by
  intro s
  have h1 : mnI a b ≤ mxI a b := by unfold mnI mxI; split <;> split <;> omega
  have h2 : mnI c d ≤ mxI c d := by unfold mnI mxI; split <;> split <;> omega
  obtain h | h | h | h : way % 4 = 0 ∨ way % 4 = 1 ∨ way % 4 = 2 ∨ way % 4 = 3 := by omega
  · rw [show (way : Int) % 4 = 0 by omega, h]
    simp [coB, onB_down, sel]
    omega
  · rw [show (way : Int) % 4 = 1 by omega, h]
    simp [coB, onB_up, onB_down, sel]
    omega
  · rw [show (way : Int) % 4 = 2 by omega, h]
    simp [coB, onB_up, onB_down, sel]
    omega
  · rw [show (way : Int) % 4 = 3 by omega, h]
    simp [coB, onB_up, sel]
    omega
/-- the two places, a way's less and more -/
def PtE (w : World) (a : Nat) (s : S3) : Prop := EV 33 w a (tvs s)
/-- in the midst of CornerGrows: the two points of its own -/
structure Two (w0 w : World) (a b : Nat) (f g : S3) : Prop where
  ea : PtE w a f
  eb : PtE w b g
  ne : a ≠ b
  ha : w0.heap.size ≤ a
  hb : w0.heap.size ≤ b
  bel : Below w0.heap.size w0 w
theorem Two.flip {w0 w : World} {a b : Nat} {f g : S3} (h : Two w0 w a b f g) : Two w0 w b a g f := ⟨h.eb, h.ea, h.ne.symm, h.hb, h.ha, h.bel⟩
theorem Two.drew {w0 w : World} {a b : Nat} {f g : S3} {n : Nat} (h : Two w0 w a b f g) : Two w0 (w.drewN n) a b f g := ⟨h.ea, h.eb, h.ne, h.ha, h.hb, drewB h.bel⟩
theorem Two.setA {w0 w : World} {a b : Nat} {f g f' : S3} {i : Nat} {v : Value} (h : Two w0 w a b f g) (he : (tvs f).set i v = tvs f') : Two w0 (w.setCell ⟨a, i, none⟩ v) a b f' g :=
  ⟨(show EV 33 _ a (tvs f') from he ▸ EV.set h.ea i v), (Below.heap_setCell _ _ _ _ (Ne.symm (show (⟨a, i, none⟩ : Addr).block ≠ b from h.ne))).trans h.eb, h.ne, h.ha, h.hb, h.bel.setCell (show w0.heap.size ≤ (⟨a, i, none⟩ : Addr).block from h.ha) v⟩
theorem Two.setB {w0 w : World} {a b : Nat} {f g g' : S3} {i : Nat} {v : Value} (h : Two w0 w a b f g) (he : (tvs g).set i v = tvs g') : Two w0 (w.setCell ⟨b, i, none⟩ v) a b f g' := (h.flip.setA he).flip
theorem Two.new (w : World) (s : S3) : Two w ((w.alloc (.cells (tvs s).toArray 33)).alloc (.cells (tvs s).toArray 33)) w.heap.size (w.heap.size + 1) s s :=
  ⟨EV.all (heap_alloc_new w _) _, by have := heap_alloc_new (w.alloc (.cells (tvs s).toArray 33)) (.cells (tvs s).toArray 33); rw [show (w.alloc (.cells (tvs s).toArray 33)).heap.size = w.heap.size + 1 by simp] at this; exact this, by omega, Nat.le_refl _, by omega, ((Below.refl _ w).alloc (Nat.le_refl _) _).alloc (by simp) _⟩
set_option maxRecDepth 100000 in
set_option maxHeartbeats 12800000 in
theorem grows_walk {TS : World → Value → Nat → List Nat → List S3 → Prop} (C : CornC TS) (w : World) (p : Option Addr) (c : Nat) (L : List S3) (f g : S3) (way : Nat) (hx : TsS w p L) (hc : L.length ≤ c) (hp : p = none → c = 0) (hw : ∀ s ∈ L, Wf3 s) (hwf : Wf3 f) (hwg : Wf3 g) :
    Calls Tryz.prog 8 #[.slice p L.length c, tv f, tv g, .int .u8 way] w fun e w' => e = .returned (.bool true) ∧ Below w.heap.size w w' := by
  have HAW := Lib.hid (awake_any C)
  obtain ⟨W, hW⟩ : ∃ W, W = (w.alloc (.cells (tvs f).toArray 33)).alloc (.cells (tvs g).toArray 33) := ⟨_, rfl⟩
  have HNF := Lib.hid (show T1 W w.heap.size 0 f by rw [hW]; exact (T1.new w f _).keep ((Below.refl _ _).alloc (Nat.le_refl _) _) (by simp))
  have HNG := Lib.hid (show T1 W (w.heap.size + 1) 0 g by rw [hW]; have := T1.new (w.alloc (.cells (tvs f).toArray 33)) g 33; simpa using this)
  have HB := Lib.hid (show Below w.heap.size w W by rw [hW]; exact ((Below.refl _ w).alloc (Nat.le_refl _) _).alloc (by simp) _)
  have hbu := fun (hl : L.length ≤ 400) => C.build W p c L (hx.keep HB.out) hl hc hp hw
  obtain ⟨fx, fy, fi⟩ := f
  obtain ⟨gx, gy, gi⟩ := g
  unfold tvs at hW
  unfold tv
  simp only at hW ⊢
  have HW := Lib.hid hW.symm
  clear hW
  by_cases hbig : L.length ≤ 80
  · have hbz : ¬ (80 : Int) < L.length := by omega
    have HBU := Lib.hid (hbu (by omega))
    have HF := Lib.hid (show ∀ f, (nmS f L).length ≤ 80 from fun f => Nat.le_trans (nmS_len f L) hbig)
    obtain ⟨m, hmm⟩ : ∃ m, m = L.length := ⟨_, rfl⟩
    have HM := Lib.hid hmm
    rw [← hmm] at HBU hbz hbig ⊢
    clear hx hc hp hw hbu hmm
    by_cases hrg : Rg L
    · have HRG := Lib.hid hrg
      have hmin := fun X ty a b => minI X ty a b
      have hmax := fun X ty a b => maxI X ty a b
      go_enter Tryz.func8, Tryz.ntmps8
      go_upto_region 1 with fail
      rw [HW.out]
      go_upto_region 7 with (go_at_call 10; (with_reducible refine HBU.out.mono ?_); rintro e w1 ⟨hb, hor⟩; rcases hor with ⟨-, v, S, rfl, hT, hS⟩ | ⟨hn', -⟩; rotate_left; (exact absurd hrg hn'); rw [← HM.out] at hT; have HT := Lib.hid hT; have HNF := Lib.hid (HNF.out.keep hb HNF.out.lt); have HNG := Lib.hid (HNG.out.keep hb HNG.out.lt); have HB := Lib.hid (HB.out.trans (hb.mono HB.out.size)); clear hb hT hS)
      have HLF := Lib.hid HNF.out.lt
      have HLG := Lib.hid HNG.out.lt
      have a0 := HNF.out.c0
      have a1 := HNF.out.c1
      have a2 := HNF.out.c2
      have b0 := HNG.out.c0
      have b1 := HNG.out.c1
      have b2 := HNG.out.c2
      simp only [Nat.zero_add] at a0 a1 a2 b0 b1 b2
      have hs0 := HLF.out
      have hs1 := HLG.out
      clear HBU HW hrg
      go_cut [11, 12] from 34 to 35 (fun v11 v12 wx => ∃ a b : Nat, v11 = .pointer (some ⟨a, 0, none⟩) ∧ v12 = .pointer (some ⟨b, 0, none⟩) ∧ Hid (Two w1 wx a b (fx, fy, fi) (fx, fy, fi)))
      case first =>
        go_region
        all_goals go_wp2_with fail
        all_goals go_meet
        · exact ⟨_, _, rfl, rfl, Lib.hid (Two.new w1 (fx, fy, fi)).drew⟩
        · exact ⟨_, _, rfl, rfl, Lib.hid (Two.new w1 (fx, fy, fi)).flip.drew⟩
      case rest =>
        obtain ⟨a, b, rfl, rfl, HT2⟩ := hcut
        have hlz := Nat.lt_of_lt_of_le hs0 HT2.out.bel.size
        have n0 := HT2.out.ea.cell (i := 0) rfl
        have n1 := HT2.out.ea.cell (i := 1) rfl
        have n2 := HT2.out.ea.cell (i := 2) rfl
        have m0 := HT2.out.eb.cell (i := 0) rfl
        have m1 := HT2.out.eb.cell (i := 1) rfl
        have m2 := HT2.out.eb.cell (i := 2) rfl
        have nf := HT2.out.ea.free 0
        have mf := HT2.out.eb.free 0
        have hne := HT2.out.ne
        have hfa : w.heap.size ≠ a := by have := HT2.out.ha; omega
        have hfb : w.heap.size ≠ b := by have := HT2.out.hb; omega
        have hga : w.heap.size + 1 ≠ a := by have := HT2.out.ha; omega
        have hgb : w.heap.size + 1 ≠ b := by have := HT2.out.hb; omega
        have HF2 := Lib.hid (HNF.out.keep HT2.out.bel HLF.out)
        have HG2 := Lib.hid (HNG.out.keep HT2.out.bel HLG.out)
        have c0 := HF2.out.c0
        have c1 := HF2.out.c1
        have d0 := HG2.out.c0
        have d1 := HG2.out.c1
        simp only [Nat.zero_add] at c0 c1 d0 d1
        clear a0 a1 a2 b0 b1 b2 hs0 hs1
        go_upto_region 8 with fail
        go_cut [] from 36 to 47 (fun wx => Hid (Two w1 wx a b (mnI fx gx, fy, fi) (mxI fx gx, fy, fi)))
        case first =>
          go_region
          all_goals go_wp2_with fail
          all_goals go_meet
          exact Lib.hid ((HT2.out.setA rfl).setB rfl).drew
        case rest =>
          have HT3 := hcut
          clear HT2 hlz n0 n1 n2 m0 m1 m2 nf mf HF2 HG2 c0 c1 d0 d1
          obtain ⟨lx, hlx⟩ : ∃ lx, lx = sel (decide ((way : Int) % 4 % 2 = 1)) (mnI fx gx) (mxI fx gx) := ⟨_, rfl⟩
          obtain ⟨mx, hmx⟩ : ∃ mx, mx = sel (decide ((way : Int) % 4 % 2 = 1)) (mxI fx gx) (mnI fx gx) := ⟨_, rfl⟩
          obtain ⟨ly, hly⟩ : ∃ ly, ly = sel (decide (2 ≤ (way : Int) % 4)) (mnI fy gy) (mxI fy gy) := ⟨_, rfl⟩
          obtain ⟨my, hmy⟩ : ∃ my, my = sel (decide (2 ≤ (way : Int) % 4)) (mxI fy gy) (mnI fy gy) := ⟨_, rfl⟩
          have HLX := Lib.hid hlx
          have HMX := Lib.hid hmx
          have HLY := Lib.hid hly
          have HMY := Lib.hid hmy
          clear hlx hmx hly hmy
          go_upto_if 50 with fail
          go_cut [] from 48 to 56 (fun wx => Hid (Two w1 wx a b (lx, fy, fi) (mx, fy, fi)))
          case first =>
            have hlz := Nat.lt_of_lt_of_le HLF.out HT3.out.bel.size
            have n0 := HT3.out.ea.cell (i := 0) rfl
            have n1 := HT3.out.ea.cell (i := 1) rfl
            have n2 := HT3.out.ea.cell (i := 2) rfl
            have m0 := HT3.out.eb.cell (i := 0) rfl
            have m1 := HT3.out.eb.cell (i := 1) rfl
            have m2 := HT3.out.eb.cell (i := 2) rfl
            have nf := HT3.out.ea.free
            have mf := HT3.out.eb.free
            have HF2 := Lib.hid (HNF.out.keep HT3.out.bel HLF.out)
            have HG2 := Lib.hid (HNG.out.keep HT3.out.bel HLG.out)
            have c0 := HF2.out.c0
            have c1 := HF2.out.c1
            have d0 := HG2.out.c0
            have d1 := HG2.out.c1
            simp only [Nat.zero_add] at c0 c1 d0 d1
            by_cases ho : (way : Int) % 4 % 2 = 1
            · have hob : ((way : Int) % 4 % 2 == 1) = true := by simpa using ho
              have HE1 := Lib.hid (show lx = mxI fx gx by rw [HLX.out, decide_eq_true ho]; rfl)
              have HE2 := Lib.hid (show mx = mnI fx gx by rw [HMX.out, decide_eq_true ho]; rfl)
              have HO := Lib.hid ho
              clear ho
              go_wp2_with fail
              go_meet
              rw [HE1.out, HE2.out]
              exact Lib.hid ((HT3.out.setA rfl).setB rfl)
            · have hob : ((way : Int) % 4 % 2 == 1) = false := by simpa using ho
              have HE1 := Lib.hid (show lx = mnI fx gx by rw [HLX.out, decide_eq_false ho]; rfl)
              have HE2 := Lib.hid (show mx = mxI fx gx by rw [HMX.out, decide_eq_false ho]; rfl)
              have HO := Lib.hid ho
              clear ho
              go_wp2_with fail
              go_meet
              rw [HE1.out, HE2.out]
              exact HT3
          case rest =>
            have HT4 := hcut
            clear HT3 hcut
            have hlz := Nat.lt_of_lt_of_le HLF.out HT4.out.bel.size
            have n0 := HT4.out.ea.cell (i := 0) rfl
            have n1 := HT4.out.ea.cell (i := 1) rfl
            have n2 := HT4.out.ea.cell (i := 2) rfl
            have m0 := HT4.out.eb.cell (i := 0) rfl
            have m1 := HT4.out.eb.cell (i := 1) rfl
            have m2 := HT4.out.eb.cell (i := 2) rfl
            have nf := HT4.out.ea.free
            have mf := HT4.out.eb.free
            have HF2 := Lib.hid (HNF.out.keep HT4.out.bel HLF.out)
            have HG2 := Lib.hid (HNG.out.keep HT4.out.bel HLG.out)
            have c0 := HF2.out.c0
            have c1 := HF2.out.c1
            have d0 := HG2.out.c0
            have d1 := HG2.out.c1
            simp only [Nat.zero_add] at c0 c1 d0 d1
            go_upto_region 11 with fail
            go_cut [] from 57 to 68 (fun wx => Hid (Two w1 wx a b (lx, mnI fy gy, fi) (mx, mxI fy gy, fi)))
            case first =>
              go_region
              all_goals go_wp2_with fail
              all_goals go_meet
              exact Lib.hid ((HT4.out.setA rfl).setB rfl).drew
            case rest =>
              have HT5 := hcut
              clear hlz n0 n1 n2 m0 m1 m2 nf mf HF2 HG2 c0 c1 d0 d1
              clear HT4 hcut
              go_upto_if 70 with fail
              go_cut [] from 69 to 76 (fun wx => Hid (Two w1 wx a b (lx, ly, fi) (mx, my, fi)))
              case first =>
                have hlz := Nat.lt_of_lt_of_le HLF.out HT5.out.bel.size
                have n0 := HT5.out.ea.cell (i := 0) rfl
                have n1 := HT5.out.ea.cell (i := 1) rfl
                have n2 := HT5.out.ea.cell (i := 2) rfl
                have m0 := HT5.out.eb.cell (i := 0) rfl
                have m1 := HT5.out.eb.cell (i := 1) rfl
                have m2 := HT5.out.eb.cell (i := 2) rfl
                have nf := HT5.out.ea.free
                have mf := HT5.out.eb.free
                have HF2 := Lib.hid (HNF.out.keep HT5.out.bel HLF.out)
                have HG2 := Lib.hid (HNG.out.keep HT5.out.bel HLG.out)
                have c0 := HF2.out.c0
                have c1 := HF2.out.c1
                have d0 := HG2.out.c0
                have d1 := HG2.out.c1
                simp only [Nat.zero_add] at c0 c1 d0 d1
                by_cases ho : 2 ≤ (way : Int) % 4
                · have hob : decide (2 ≤ (way : Int) % 4) = true := decide_eq_true ho
                  have HE1 := Lib.hid (show ly = mxI fy gy by rw [HLY.out, hob]; rfl)
                  have HE2 := Lib.hid (show my = mnI fy gy by rw [HMY.out, hob]; rfl)
                  go_wp2_with fail
                  go_meet
                  rw [HE1.out, HE2.out]
                  exact Lib.hid ((HT5.out.setA rfl).setB rfl)
                · have hob : decide (2 ≤ (way : Int) % 4) = false := decide_eq_false ho
                  have HE1 := Lib.hid (show ly = mnI fy gy by rw [HLY.out, hob]; rfl)
                  have HE2 := Lib.hid (show my = mxI fy gy by rw [HMY.out, hob]; rfl)
                  go_wp2_with fail
                  go_meet
                  rw [HE1.out, HE2.out]
                  exact HT5
              case rest =>
                have HT6 := hcut
                have HCO := Lib.hid (show ∀ s, coB lx ly (way % 4) s = true → coB mx my (way % 4) s = true by rw [HLX.out, HMX.out, HLY.out, HMY.out]; exact co_grow way _ _ _ _)
                have HW1 := Lib.hid (show (Lit.int .i64 lx).wf = true by rw [HLX.out]; exact sel_wf (mn_wf hwf.1 hwg.1) (mx_wf hwf.1 hwg.1))
                have HW2 := Lib.hid (show (Lit.int .i64 mx).wf = true by rw [HMX.out]; exact sel_wf (mx_wf hwf.1 hwg.1) (mn_wf hwf.1 hwg.1))
                have HW3 := Lib.hid (show (Lit.int .i64 ly).wf = true by rw [HLY.out]; exact sel_wf (mn_wf hwf.2.1 hwg.2.1) (mx_wf hwf.2.1 hwg.2.1))
                have HW4 := Lib.hid (show (Lit.int .i64 my).wf = true by rw [HMY.out]; exact sel_wf (mx_wf hwf.2.1 hwg.2.1) (mn_wf hwf.2.1 hwg.2.1))
                clear HT5 hcut HLX HMX HLY HMY
                have hre := fun X x y (h : TS X v m S L) (h1 : (Lit.int .i64 x).wf = true) (h2 : (Lit.int .i64 y).wf = true) => C.report x y (way % 4) h h1 h2 (by omega)
                rw [show ((way % 4 : Nat) : Int) = (way : Int) % 4 by omega] at hre
                have HS1 := Lib.hid (fun X (h : TS X v m S L) => hre X lx ly h HW1.out HW3.out)
                have HS2 := Lib.hid (fun X (h : TS X v m S L) => hre X mx my h HW2.out HW4.out)
                have HSUB := Lib.hid (sub_rise (nmS (coB mx my (way % 4)) L) (nmS (coB lx ly (way % 4)) L) (nmS_rise HRG.out _) (nmS_rise HRG.out _) (fun n hn => by
                  obtain ⟨s, h1, h2, h3⟩ := mem_nmS.1 hn
                  exact mem_nmS.2 ⟨s, h1, HCO.out s h2, h3⟩))
                have hl1 := HF.out (coB lx ly (way % 4))
                have hl2 := HF.out (coB mx my (way % 4))
                have HT := Lib.hid (C.bel HT.out HT6.out.bel)
                have HB := Lib.hid (HB.out.trans (HT6.out.bel.mono HB.out.size))
                have HEB := Lib.hid HT6.out.eb
                have n0 := HT6.out.ea.cell (i := 0) rfl
                have n1 := HT6.out.ea.cell (i := 1) rfl
                clear hre HW1 HW2 HW3 HW4 HCO HT6 HNF HNG HLF HLG
                generalize nmS (coB lx ly (way % 4)) L = N at *
                generalize nmS (coB mx my (way % 4)) L = Z at *
                have HR1 := Lib.hid (show ∀ (Y : World) r, RL Y r N → ∃ q c, r = .slice q N.length c ∧ NS Y q .u32 N from fun Y r h => by obtain ⟨q, c, h1, h2, -⟩ := h; exact ⟨q, c, h1, h2⟩)
                have HR2 := Lib.hid (show ∀ (Y : World) r, RL Y r Z → ∃ q c, r = .slice q Z.length c ∧ NS Y q .u32 Z from fun Y r h => by obtain ⟨q, c, h1, h2, -⟩ := h; exact ⟨q, c, h1, h2⟩)
                obtain ⟨nl, hnl⟩ : ∃ l, l = N.length := ⟨_, rfl⟩
                obtain ⟨wl, hwl⟩ : ∃ l, l = Z.length := ⟨_, rfl⟩
                have HNL := Lib.hid hnl
                have HWL := Lib.hid hwl
                rw [← hnl] at hl1 HS1 HR1
                rw [← hwl] at hl2 HS2 HR2
                clear hnl hwl
                go_wp2_with (first
                  | (go_at_call 17; (with_reducible refine (HS1.out _ HT.out).mono ?_); rintro e w5 ⟨⟨r, t1, rfl, hr, -, -⟩, hb⟩; obtain ⟨q1, c1, rfl, hq⟩ := HR1.out _ _ hr; have HQ2 := Lib.hid hq; have HE5 := Lib.hid (EV.keep HEB.out hb (EV.lt HEB.out)); have m0 := EV.cell HE5.out (i := 0) rfl; have m1 := EV.cell HE5.out (i := 1) rfl; have HT := Lib.hid (C.bel HT.out hb); have HB := Lib.hid (HB.out.trans (hb.mono HB.out.size)); clear hb hr hq)
                  | (go_at_call 17; (with_reducible refine (HS2.out _ HT.out).mono ?_); rintro e w6 ⟨⟨r, t2, rfl, hr, -, -⟩, hb⟩; obtain ⟨q2, c2, rfl, hq⟩ := HR2.out _ _ hr; have HQ1 := Lib.hid hq; have HQ2 := Lib.hid (HQ2.out.keep hb); have HB := Lib.hid (HB.out.trans (hb.mono HB.out.size)); clear hb hr hq))
                clear HS1 HS2 HR1 HR2 HE5 HEB
                have HSX := HSUB
                go_loopw [17, 99] (fun v17 v99 wr => ∃ (k i : Nat), i ≤ wl ∧ k ≤ nl ∧ v99 = .int .i64 i ∧ v17 = .int .i64 k ∧ Hid ((N.drop k).Sublist (Z.drop i)) ∧ Hid (Below w6.heap.size w6 wr)) (fun _ v99 _ => wl - (intOf v99).toNat)
                case atStart => exact ⟨0, 0, Nat.zero_le _, Nat.zero_le _, rfl, rfl, HSUB, Lib.hid (Below.refl _ _)⟩
                case round =>
                  obtain ⟨k, i, hi1, hk1, rfl, rfl, HD, HB2⟩ := hrel
                  by_cases hlt : i < wl
                  · have hltz : (i : Int) < wl := by omega
                    obtain ⟨x, hxe⟩ : ∃ x, Z[i]? = some x := ⟨_, List.getElem?_eq_getElem (by have := HWL.out; omega)⟩
                    obtain ⟨d1, d2⟩ := drop_step HD.out hxe
                    have HD1 := Lib.hid d1
                    have HD2 := Lib.hid d2
                    rcases HQ1.out.keep HB2.out with h0 | ⟨bw, ow, rfl, hwc⟩
                    · rw [h0] at hxe; simp at hxe
                    · have cx := hwc i x hxe
                      by_cases hkn : k < nl
                      · have hknz : (k : Int) < nl := by omega
                        obtain ⟨y, hye⟩ : ∃ y, N[k]? = some y := ⟨_, List.getElem?_eq_getElem (by have := HNL.out; omega)⟩
                        rcases HQ2.out.keep HB2.out with h0 | ⟨bn, on, rfl, hnc⟩
                        · rw [h0] at hye; simp at hye
                        · have cy := hnc k y hye
                          have HYE := Lib.hid hye
                          clear hxe hwc hye hnc d1 d2
                          by_cases hxy : y = x
                          · have HS := Lib.hid (HD1.out y HYE.out hxy)
                            go_wp2
                            go_roundw
                            case rel => exact ⟨k + 1, i + 1, by omega, by omega, by go_num, by go_num, HS, HB2⟩
                            case measure => simp [intOf]; omega
                          · have HS := Lib.hid (HD2.out (fun z hz => by rw [HYE.out] at hz; cases hz; exact hxy))
                            go_wp2
                            go_roundw
                            case rel => exact ⟨k, i + 1, by omega, by omega, by go_num, by go_num, HS, HB2⟩
                            case measure => simp [intOf]; omega
                      · have hknz : ¬ (k : Int) < nl := by omega
                        have HS := Lib.hid (HD2.out (fun z hz => by have := (List.getElem?_eq_some_iff.1 hz).1; have := HNL.out; omega))
                        clear hxe hwc d1 d2
                        go_wp2
                        go_roundw
                        case rel => exact ⟨k, i + 1, by omega, by omega, by go_num, by go_num, HS, HB2⟩
                        case measure => simp [intOf]; omega
                  · obtain rfl : i = wl := by omega
                    have hltz : ¬ (i : Int) < i := by omega
                    have hkN : k = nl := by
                      have h := HD.out
                      rw [List.drop_of_length_le (l := Z) (by have := HWL.out; omega)] at h
                      have h2 := List.drop_eq_nil_iff.1 (List.sublist_nil.1 h)
                      have := HNL.out
                      omega
                    subst hkN
                    have HB := Lib.hid (HB.out.trans (HB2.out.mono HB.out.size))
                    go_wp2_with (go_at_call 9; (with_reducible refine (HAW.out _).mono ?_); rintro e w9 ⟨rfl, hb⟩; have HB := Lib.hid (HB.out.trans (hb.mono HB.out.size)); clear hb)
                    go_ret
                    exact ⟨rfl, HB.out⟩
    · have HRG := Lib.hid hrg
      go_enter Tryz.func8, Tryz.ntmps8
      go_upto_region 1 with fail
      rw [HW.out]
      go_wp2_with (first
        | (go_at_call 10; (with_reducible refine HBU.out.mono ?_); rintro e w1 ⟨hb, hor⟩; rcases hor with ⟨hn, -⟩ | ⟨-, v, S, rfl, -, -⟩; (exact absurd hn HRG.out); have HB := Lib.hid (HB.out.trans (hb.mono HB.out.size)); clear hb)
        | (go_at_call 9; (with_reducible refine (HAW.out _).mono ?_); rintro e w9 ⟨rfl, hb⟩; have HB := Lib.hid (HB.out.trans (hb.mono HB.out.size)); clear hb))
      go_ret
      exact ⟨rfl, HB.out⟩
  · have hbz : (80 : Int) < L.length := by omega
    clear hx hc hp hw hbu hbig
    generalize L.length = m at *
    go_enter Tryz.func8, Tryz.ntmps8
    go_upto_region 1 with fail
    rw [HW.out]
    go_wp2_with (go_at_call 9; (with_reducible refine (HAW.out _).mono ?_); rintro e w9 ⟨rfl, hb⟩; have HB := Lib.hid (HB.out.trans (hb.mono HB.out.size)); clear hb)
    go_ret
    exact ⟨rfl, HB.out⟩
end Go.Proofs.YtadlobmhnkfnfaaGreat.Co
