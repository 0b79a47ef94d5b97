/-
  HeapAll: dropped one by one, the lowest one of some sides first, all points of it are dropped in order of Y; then there is none; over any tree that tells three sides.
-/
import Derived.Test.YtajpboclicnopaaGreatHu
namespace Go.Proofs.YtajpboclicnopaaGreat.Hp
open Go.ChangeShapes Go.WideShapes Go.ChangeAt Go.RowKit Go.Joins
set_option maxRecDepth 100000 in
set_option maxHeartbeats 3200000 in
theorem hasN_any (w : World) (q : Option Addr) (c : Nat) (xs : List Int) (n : Int) (hx : NS w q .u32 xs) (hl : xs.length ≤ 8192) :
    Calls Tryz.prog 24 #[.slice q xs.length c, .int .u32 n] w fun e w' => e = .returned (.bool (decide (n ∈ xs))) ∧ Below w.heap.size w w' := by
  have HX := Lib.hid hx
  obtain ⟨d, hd⟩ : ∃ d, d = xs.length := ⟨_, rfl⟩
  have HD := Lib.hid hd
  rw [← hd] at hl ⊢
  clear hx hd
  go_enter Tryz.func24, Tryz.ntmps24
  go_wp2
  go_loopw [9] (fun i wr => ∃ k : Nat, k ≤ d ∧ i = .int .i64 k ∧ Hid (n ∉ xs.take k) ∧ Hid (Below w.heap.size w wr)) (fun i _ => d - (intOf i).toNat)
  case atStart => exact ⟨0, Nat.zero_le _, rfl, Lib.hid (by simp), Lib.hid (Below.refl _ _)⟩
  case round =>
    obtain ⟨k, hk, rfl, HT, HB⟩ := hrel
    by_cases hlt : k < d
    · have hltz : (k : Int) < d := by omega
      obtain ⟨x, hxe⟩ : ∃ x, xs[k]? = some x := ⟨_, List.getElem?_eq_getElem (by have := HD.out; omega)⟩
      rcases HX.out.keep HB.out with h0 | ⟨b1, o1, rfl, h1⟩
      · rw [h0] at hxe; simp at hxe
      · have cx := h1 k x hxe
        have HXE := Lib.hid hxe
        clear hxe h1
        by_cases hxn : x = n
        · have HE := Lib.hid (show decide (n ∈ xs) = true from decide_eq_true (hxn ▸ List.mem_of_getElem? HXE.out))
          go_wp2
          go_ret
          exact ⟨by rw [HE.out]; rfl, HB.out⟩
        · have HE := Lib.hid (show n ∉ xs.take (k + 1) by
            rw [List.take_add_one, HXE.out, Option.toList_some, List.mem_append, List.mem_singleton]
            exact fun h => h.elim HT.out (fun e => hxn e.symm))
          have HXN := Lib.hid hxn
          have hxb : (x == n) = false := by simpa using hxn
          clear hxn
          go_wp2
          go_roundw
          case rel => exact ⟨k + 1, by omega, by go_num, HE, HB⟩
          case measure => simp [intOf]; omega
    · obtain rfl : k = d := by omega
      have hltz : ¬ (k : Int) < k := by omega
      have HE := Lib.hid (show decide (n ∈ xs) = false from decide_eq_false (by have h := HT.out; rwa [List.take_of_length_le (by have := HD.out; omega)] at h))
      go_wp2
      go_ret
      exact ⟨by rw [HE.out]; rfl, HB.out⟩
/-- among the first j points the lowest one that is there, and between, if any is -/
def LowP (L A : List S3) (x1 x2 : Int) (j : Nat) (fd : Bool) (lw : S3) : Prop :=
  (fd = false → ∀ p ∈ L.take j, inX x1 x2 p = true → p ∉ A) ∧ (fd = true → lw ∈ A ∧ inX x1 x2 lw = true ∧ ∀ p ∈ L.take j, inX x1 x2 p = true → p ∈ A → lw.2.1 ≤ p.2.1)
theorem LowP.start (L A : List S3) (x1 x2 : Int) (lw : S3) : LowP L A x1 x2 0 false lw := ⟨fun _ p hp => by simp at hp, fun h => by cases h⟩
theorem LowP.skip {L A : List S3} {x1 x2 : Int} {j : Nat} {fd : Bool} {lw p : S3} (h : LowP L A x1 x2 j fd lw) (hp : L[j]? = some p) (hs : inX x1 x2 p = true → p ∈ A → fd = true ∧ lw.2.1 ≤ p.2.1) : LowP L A x1 x2 (j + 1) fd lw := by
  unfold LowP
  rw [List.take_add_one, hp, Option.toList_some]
  refine ⟨fun hf q hq hi hA => ?_, fun hf => ⟨(h.2 hf).1, (h.2 hf).2.1, fun q hq hi hA => ?_⟩⟩
  · rcases List.mem_append.1 hq with hq | hq
    · exact h.1 hf q hq hi hA
    · rw [List.mem_singleton.1 hq] at hi hA
      rw [(hs hi hA).1] at hf
      cases hf
  · rcases List.mem_append.1 hq with hq | hq
    · exact (h.2 hf).2.2 q hq hi hA
    · rw [List.mem_singleton.1 hq] at hi hA ⊢
      exact (hs hi hA).2
theorem LowP.upd {L A : List S3} {x1 x2 : Int} {j : Nat} {fd : Bool} {lw p : S3} (h : LowP L A x1 x2 j fd lw) (hp : L[j]? = some p) (hi : inX x1 x2 p = true) (hA : p ∈ A) (hlt : fd = true → p.2.1 ≤ lw.2.1) : LowP L A x1 x2 (j + 1) true p := by
  unfold LowP
  rw [List.take_add_one, hp, Option.toList_some]
  refine ⟨fun hf => (by cases hf), fun _ => ⟨hA, hi, fun q hq hqi hqA => ?_⟩⟩
  rcases List.mem_append.1 hq with hq | hq
  · cases hfd : fd with
    | false => exact absurd hqA (h.1 hfd q hq hqi)
    | true => exact Int.le_trans (hlt hfd) ((h.2 hfd).2.2 q hq hqi hqA)
  · rw [List.mem_singleton.1 hq]; exact Int.le_refl _
theorem mem_there {L A : List S3} (hL : Rg L) (hA : ∀ a ∈ A, a ∈ L) {p : S3} (hp : p ∈ L) : p.2.2 ∈ nmS (thB p.1 p.1 p.2.1) A ↔ p ∈ A := by
  constructor
  · intro h
    obtain ⟨s, hs, -, h2⟩ := mem_nmS.1 h
    rwa [← hL.names (hA s hs) hp h2]
  · intro h
    exact mem_nmS.2 ⟨p, h, by simp [thB], rfl⟩
theorem th_none {A : List S3} {x1 x2 y : Int} (h : ∀ a ∈ A, inX x1 x2 a = true → y < a.2.1) : (nmS (thB x1 x2 y) A).length = 0 := by
  have h0 : nmS (thB x1 x2 y) A = [] := nmS_none (fun s hs => by
    cases hb : thB x1 x2 y s with
    | false => rfl
    | true =>
      rw [th_in, Bool.and_eq_true, decide_eq_true_eq] at hb
      have := h s hs hb.1
      omega)
  rw [h0]
  rfl
theorem th_some {A : List S3} {x1 x2 y : Int} {a : S3} (h : a ∈ A) (h1 : inX x1 x2 a = true) (h2 : a.2.1 ≤ y) : 0 < (nmS (thB x1 x2 y) A).length :=
  List.length_pos_of_mem (mem_nmS.2 ⟨a, h, by rw [th_in, h1, Bool.true_and]; simpa using h2, rfl⟩)
set_option maxRecDepth 100000 in
set_option maxHeartbeats 12800000 in
theorem all_walk {TS : World → Value → Nat → List Nat → List S3 → Prop} (C : HeapC TS) (w : World) (p : Option Addr) (c : Nat) (L : List S3) (x1 x2 : Int) (hx : TsS w p L) (hc : L.length ≤ c) (hp : p = none → c = 0) (hw : ∀ s ∈ L, Wf3 s) (hwx : (Lit.int .i64 x1).wf = true) (hwy : (Lit.int .i64 x2).wf = true) :
    Calls Tryz.prog 7 #[.slice p L.length c, .int .i64 x1, .int .i64 x2] w fun e w' => e = .returned (.bool true) ∧ Below w.heap.size w w' := by
  have HAW := Lib.hid (awake_any C)
  by_cases hbig : L.length ≤ 60
  · have hbz : ¬ (60 : Int) < L.length := by omega
    have HX := Lib.hid hx
    have HWF := Lib.hid hw
    have HBU := Lib.hid (C.build w p c L hx (by omega) hc hp hw)
    obtain ⟨m, hmm⟩ : ∃ m, m = L.length := ⟨_, rfl⟩
    have HM := Lib.hid hmm
    rw [← hmm] at HBU hbz hbig ⊢
    have HWX := Lib.hid (And.intro hwx hwy)
    clear hx hc hp hw hmm hwx hwy
    by_cases hrg : Rg L
    · have HRG := Lib.hid hrg
      go_enter Tryz.func7, Tryz.ntmps7
      go_wp2_with (go_at_call 10; (with_reducible refine HBU.out.mono ?_); rintro e w1 ⟨hb, hor⟩; rcases hor with ⟨-, v, S, rfl, hT, hS⟩ | ⟨hn', -⟩; rotate_left; (exact absurd hrg hn'); rw [← HM.out] at hT; have HT := Lib.hid hT; have HSS := Lib.hid hS; have HB := Lib.hid hb; clear hb hT hS)
      clear HBU hrg
      have HAL := Lib.hid (show ∀ a ∈ L, a ∈ L from fun a h => h)
      have HLA := Lib.hid (show ∀ a ∈ L, inX x1 x2 a = true → -9223372036854775808 ≤ a.2.1 from fun a h _ => (i64_range (HWF.out a h).2.1).1)
      go_loopw [9, 36] (fun v9 v36 wr => ∃ (k : Nat) (A : List S3) (S : List Nat) (last : Int), k ≤ m ∧ v36 = .int .i64 k ∧ v9 = .int .i64 last ∧ Hid (TS wr v m S A) ∧ Hid (∀ b ∈ S, w.heap.size ≤ b) ∧ Hid (∀ a ∈ A, a ∈ L) ∧ Hid (∀ a ∈ A, inX x1 x2 a = true → last ≤ a.2.1) ∧ Hid (Below w.heap.size w wr)) (fun _ i _ => m - (intOf i).toNat)
      case atStart => exact ⟨0, L, S, _, Nat.zero_le _, rfl, rfl, HT, HSS, HAL, HLA, HB⟩
      case round =>
        clear HT HSS HAL HLA HB
        obtain ⟨k, A, S, last, hk, rfl, rfl, HT, HSS, HAL, HLA, HB⟩ := hrel
        by_cases hlt : k < m
        · have hltz : (k : Int) < m := by omega
          obtain ⟨W0, hW0⟩ : ∃ W0, W0 = wr.alloc (.cells (tvs (0, 0, 0)).toArray 34) := ⟨_, rfl⟩
          have HE0 := Lib.hid (show EV 34 W0 wr.heap.size (tvs (0, 0, 0)) by rw [hW0]; exact heap_alloc_new wr _)
          have HT0 := Lib.hid (show TS W0 v m S A by rw [hW0]; exact C.bel HT.out ((Below.refl _ wr).alloc (Nat.le_refl _) _))
          have HSL := Lib.hid (C.lies HT.out)
          have HLB := Lib.hid (show w.heap.size ≤ wr.heap.size from HB.out.size)
          have HB0 := Lib.hid (show Below w.heap.size w W0 by rw [hW0]; exact HB.out.alloc HB.out.size _)
          have HLW := Lib.hid (LowP.start L A x1 x2 (0, 0, 0))
          have HFEW := Lib.hid (C.few HT.out)
          unfold tvs at hW0
          simp only at hW0
          have HW0 := Lib.hid hW0
          clear hW0 HT HB
          go_upto_region 10 with fail
          rw [← HW0.out]
          clear HW0
          generalize wr.heap.size = lb at *
          generalize wr = wx at *
          go_wp2
          go_loopw [11, 41] (fun v11 v41 wz => ∃ (j : Nat) (fd : Bool) (lw : S3), j ≤ m ∧ v41 = .int .i64 j ∧ v11 = .bool fd ∧ Hid (LowP L A x1 x2 j fd lw) ∧ Hid (EV 34 wz lb (tvs lw)) ∧ Hid (TS wz v m S A) ∧ Hid (Below w.heap.size w wz)) (fun _ i _ => m - (intOf i).toNat)
          case atStart => exact ⟨0, false, (0, 0, 0), Nat.zero_le _, rfl, rfl, HLW, HE0, HT0, HB0⟩
          case round =>
            clear HLW HE0 HT0 HB0
            obtain ⟨j, fd, lw, hj, rfl, rfl, HLW, HE, HT, HB⟩ := hrel
            by_cases hlt2 : j < m
            · have hltz2 : (j : Int) < m := by omega
              obtain ⟨s, hse⟩ : ∃ s, L[j]? = some s := ⟨_, List.getElem?_eq_getElem (by have := HM.out; omega)⟩
              obtain ⟨bb, off, rfl, h1⟩ := (HX.out.keep HB.out).at hse
              have hms := List.mem_of_getElem? hse
              have HWS := Lib.hid (HWF.out s hms)
              have HKE := Lib.hid hse
              have n0 := h1.c0
              have n1 := h1.c1
              have n2 := h1.c2
              obtain ⟨W4, hW4⟩ : ∃ W4, W4 = wr.alloc (.cells (tvs s).toArray 34) := ⟨_, rfl⟩
              have hN4 : T1 W4 wr.heap.size 0 s := by rw [hW4]; exact T1.new wr s _
              have hb4 : Below wr.heap.size wr W4 := by rw [hW4]; exact (Below.refl _ wr).alloc (Nat.le_refl _) _
              have HN4 := Lib.hid hN4
              have HB4 := Lib.hid (HB.out.trans (hb4.mono HB.out.size))
              have HE4 := Lib.hid (HE.out.keep hb4 HE.out.lt)
              have HT4 := Lib.hid (C.bel HT.out hb4)
              have HPB := Lib.hid (show lb < wr.heap.size from HE.out.lt)
              have HTH := Lib.hid (C.three s.1 s.1 s.2.1 HT4.out HWS.out.1 HWS.out.1 HWS.out.2.1)
              have hzl := nmS_len (thB s.1 s.1 s.2.1) A
              have hal := HFEW.out.1
              have HHA : Hid (∀ Y q c, NS Y q .u32 (nmS (thB s.1 s.1 s.2.1) A) → Calls Tryz.prog 24 #[.slice q (nmS (thB s.1 s.1 s.2.1) A).length c, .int .u32 s.2.2] Y fun e w' => e = .returned (.bool (decide (s ∈ A))) ∧ Below Y.heap.size Y w') := Lib.hid (fun Y q c h => by
                have h2 := hasN_any Y q c _ s.2.2 h (by omega)
                have e : decide (s.2.2 ∈ nmS (thB s.1 s.1 s.2.1) A) = decide (s ∈ A) := decide_eq_decide.2 (mem_there HRG.out HAL.out hms)
                rw [e] at h2
                exact h2)
              generalize nmS (thB s.1 s.1 s.2.1) A = Z at *
              have HRL := Lib.hid (show ∀ (Y : World) r, RL Y r Z → ∃ q c, r = .slice q Z.length c ∧ NS Y q .u32 Z from fun Y r h => by obtain ⟨q, c, h1, h2, -⟩ := h; exact ⟨q, c, h1, h2⟩)
              generalize Z.length = zl at *
              have m0 := hN4.c0
              have m1 := hN4.c1
              have m2 := hN4.c2
              simp only [Nat.zero_add] at m0 m1 m2
              have HSK := Lib.hid (fun (h : inX x1 x2 s = true → s ∈ A → fd = true ∧ lw.2.1 ≤ s.2.1) => HLW.out.skip HKE.out h)
              have HUP := Lib.hid (fun (h1 : inX x1 x2 s = true) (h2 : s ∈ A) (h3 : fd = true → s.2.1 ≤ lw.2.1) => HLW.out.upd HKE.out h1 h2 h3)
              obtain ⟨px, py, pi⟩ := s
              obtain ⟨lx, ly, li⟩ := lw
              unfold tvs at hW4
              simp only at n0 n1 n2 m0 m1 m2 hW4 HTH HHA HSK HUP
              have HW4 := Lib.hid hW4
              clear h1 hse hms hN4 hW4 hb4 hzl hal
              go_upto_region 13 with fail
              rw [← HW4.out]
              clear HW4 n0 n1 n2
              go_upto_region 14 with (go_at_call 17; (with_reducible refine HTH.out.mono ?_); rintro e w5 ⟨⟨r5, t5, rfl, h5, -, -⟩, hb⟩; obtain ⟨q5, c5, rfl, hq⟩ := HRL.out _ _ h5; have HQ5 := Lib.hid hq; have HN5 := Lib.hid (HN4.out.keep hb HN4.out.lt); have HE5 := Lib.hid (HE4.out.keep hb HE4.out.lt); have HT5 := Lib.hid (C.bel HT4.out hb); have HB5 := Lib.hid (HB4.out.trans (hb.mono HB4.out.size)); clear hb h5 hq)
              clear HTH HRL HN4 HT4 HB4 HE4 HT HB HE m0 m1 m2
              have p0 := HN5.out.c0
              have p1 := HN5.out.c1
              have p2 := HN5.out.c2
              have l1 := HE5.out.cell (i := 1) rfl
              simp only [Nat.zero_add] at p0 p1 p2
              have HHX := Lib.hid (HHA.out w5 q5 c5 HQ5.out)
              generalize wr.heap.size = pb at *
              by_cases ha : x1 ≤ px
              · by_cases hb : px ≤ x2
                · have hinx : inX x1 x2 (px, py, pi) = true := by simp [inX, ha, hb]
                  by_cases hpa : (px, py, pi) ∈ A
                  · have HPA := Lib.hid hpa
                    rw [decide_eq_true hpa] at HHX
                    clear hpa HHA
                    cases fd with
                    | false =>
                      have HUX := Lib.hid (HUP.out hinx HPA.out (fun h => by cases h))
                      go_wp2_with (go_at_call 24; (with_reducible refine HHX.out.mono ?_); rintro e w6 ⟨rfl, hb⟩; have HN5 := Lib.hid (HN5.out.keep hb HN5.out.lt); have HE5 := Lib.hid (HE5.out.keep hb HE5.out.lt); have HT5 := Lib.hid (C.bel HT5.out hb); have HB5 := Lib.hid (HB5.out.trans (hb.mono HB5.out.size)); have p0 := HN5.out.c0; have p1 := HN5.out.c1; have p2 := HN5.out.c2; have l0 := HE5.out.cell (i := 0) rfl; have l1 := HE5.out.cell (i := 1) rfl; have l2 := HE5.out.cell (i := 2) rfl; have f0 := HE5.out.free; simp only [Nat.zero_add] at p0 p1 p2; clear hb)
                      go_roundw
                      case rel =>
                        have hE := EV.set (EV.set (EV.set HE5.out 0 (.int .i64 px)) 1 (.int .i64 py)) 2 (.int .u32 pi)
                        refine ⟨j + 1, true, (px, py, pi), by omega, by go_num, rfl, HUX, Lib.hid hE, Lib.hid (C.keep HT5.out ((((Off.refl [lb] _).set _ _ (.inl (by simp))).set _ _ (.inl (by simp))).set _ _ (.inl (by simp))) (fun b hb hb2 => by have := HSL.out b hb; rw [List.mem_singleton.1 hb2] at this; exact Nat.lt_irrefl _ this)), Lib.hid (((HB5.out.setCell (show w.heap.size ≤ (⟨lb, 0, none⟩ : Addr).block from HLB.out) _).setCell (show w.heap.size ≤ (⟨lb, 1, none⟩ : Addr).block from HLB.out) _).setCell (show w.heap.size ≤ (⟨lb, 2, none⟩ : Addr).block from HLB.out) _)⟩
                      case measure => simp [intOf]; omega
                    | true =>
                      by_cases hlo : py < ly
                      · have HUX := Lib.hid (HUP.out hinx HPA.out (fun _ => Int.le_of_lt hlo))
                        go_wp2_with (go_at_call 24; (with_reducible refine HHX.out.mono ?_); rintro e w6 ⟨rfl, hb⟩; have HN5 := Lib.hid (HN5.out.keep hb HN5.out.lt); have HE5 := Lib.hid (HE5.out.keep hb HE5.out.lt); have HT5 := Lib.hid (C.bel HT5.out hb); have HB5 := Lib.hid (HB5.out.trans (hb.mono HB5.out.size)); have p0 := HN5.out.c0; have p1 := HN5.out.c1; have p2 := HN5.out.c2; have l0 := HE5.out.cell (i := 0) rfl; have l1 := HE5.out.cell (i := 1) rfl; have l2 := HE5.out.cell (i := 2) rfl; have f0 := HE5.out.free; simp only [Nat.zero_add] at p0 p1 p2; clear hb)
                        go_roundw
                        case rel =>
                          have hE := EV.set (EV.set (EV.set HE5.out 0 (.int .i64 px)) 1 (.int .i64 py)) 2 (.int .u32 pi)
                          refine ⟨j + 1, true, (px, py, pi), by omega, by go_num, rfl, HUX, Lib.hid hE, Lib.hid (C.keep HT5.out ((((Off.refl [lb] _).set _ _ (.inl (by simp))).set _ _ (.inl (by simp))).set _ _ (.inl (by simp))) (fun b hb hb2 => by have := HSL.out b hb; rw [List.mem_singleton.1 hb2] at this; exact Nat.lt_irrefl _ this)), Lib.hid (((HB5.out.setCell (show w.heap.size ≤ (⟨lb, 0, none⟩ : Addr).block from HLB.out) _).setCell (show w.heap.size ≤ (⟨lb, 1, none⟩ : Addr).block from HLB.out) _).setCell (show w.heap.size ≤ (⟨lb, 2, none⟩ : Addr).block from HLB.out) _)⟩
                        case measure => simp [intOf]; omega
                      · have HSX := Lib.hid (HSK.out (fun _ _ => ⟨rfl, show ly ≤ py by omega⟩))
                        go_wp2
                        go_roundw
                        case rel => exact ⟨j + 1, _, (lx, ly, li), by omega, by go_num, rfl, HSX, HE5, HT5, HB5⟩
                        case measure => simp [intOf]; omega
                  · have HPA := Lib.hid hpa
                    rw [decide_eq_false hpa] at HHX
                    clear hpa HHA
                    cases fd with
                    | false =>
                      have HSX := Lib.hid (HSK.out (fun _ h => absurd h HPA.out))
                      go_wp2_with (go_at_call 24; (with_reducible refine HHX.out.mono ?_); rintro e w6 ⟨rfl, hb⟩; have HN5 := Lib.hid (HN5.out.keep hb HN5.out.lt); have HE5 := Lib.hid (HE5.out.keep hb HE5.out.lt); have HT5 := Lib.hid (C.bel HT5.out hb); have HB5 := Lib.hid (HB5.out.trans (hb.mono HB5.out.size)); have p0 := HN5.out.c0; have p1 := HN5.out.c1; have p2 := HN5.out.c2; have l0 := HE5.out.cell (i := 0) rfl; have l1 := HE5.out.cell (i := 1) rfl; have l2 := HE5.out.cell (i := 2) rfl; have f0 := HE5.out.free; simp only [Nat.zero_add] at p0 p1 p2; clear hb)
                      go_roundw
                      case rel => exact ⟨j + 1, _, (lx, ly, li), by omega, by go_num, rfl, HSX, HE5, HT5, HB5⟩
                      case measure => simp [intOf]; omega
                    | true =>
                      by_cases hlo : py < ly
                      · have HSX := Lib.hid (HSK.out (fun _ h => absurd h HPA.out))
                        go_wp2_with (go_at_call 24; (with_reducible refine HHX.out.mono ?_); rintro e w6 ⟨rfl, hb⟩; have HN5 := Lib.hid (HN5.out.keep hb HN5.out.lt); have HE5 := Lib.hid (HE5.out.keep hb HE5.out.lt); have HT5 := Lib.hid (C.bel HT5.out hb); have HB5 := Lib.hid (HB5.out.trans (hb.mono HB5.out.size)); have p0 := HN5.out.c0; have p1 := HN5.out.c1; have p2 := HN5.out.c2; have l0 := HE5.out.cell (i := 0) rfl; have l1 := HE5.out.cell (i := 1) rfl; have l2 := HE5.out.cell (i := 2) rfl; have f0 := HE5.out.free; simp only [Nat.zero_add] at p0 p1 p2; clear hb)
                        go_roundw
                        case rel => exact ⟨j + 1, _, (lx, ly, li), by omega, by go_num, rfl, HSX, HE5, HT5, HB5⟩
                        case measure => simp [intOf]; omega
                      · have HSX := Lib.hid (HSK.out (fun _ h => absurd h HPA.out))
                        go_wp2
                        go_roundw
                        case rel => exact ⟨j + 1, _, (lx, ly, li), by omega, by go_num, rfl, HSX, HE5, HT5, HB5⟩
                        case measure => simp [intOf]; omega
                · have HSX := Lib.hid (HSK.out (fun h _ => by simp [inX, hb] at h))
                  go_wp2
                  go_roundw
                  case rel => exact ⟨j + 1, _, (lx, ly, li), by omega, by go_num, rfl, HSX, HE5, HT5, HB5⟩
                  case measure => simp [intOf]; omega
              · have HSX := Lib.hid (HSK.out (fun h _ => by simp [inX, ha] at h))
                go_wp2
                go_roundw
                case rel => exact ⟨j + 1, _, (lx, ly, li), by omega, by go_num, rfl, HSX, HE5, HT5, HB5⟩
                case measure => simp [intOf]; omega
            · obtain rfl : j = m := by omega
              have hltz2 : ¬ (j : Int) < j := by omega
              have hll : L.take j = L := List.take_of_length_le (by have := HM.out; omega)
              have hlw := HLW.out
              unfold LowP at hlw
              rw [hll] at hlw
              obtain ⟨hlw1, hlw2⟩ := hlw
              have hmax : (Lit.int .i64 9223372036854775807).wf = true := by decide
              cases fd with
              | false =>
                have HA1 := Lib.hid (fun Y (h : TS Y v j S A) => show Calls Tryz.prog 18 #[v, .int .i64 x1, .int .i64 x2, .int .i64 9223372036854775807] Y (fun e X' => (∃ t : Nat, e = .returned (.tuple #[.bool false, .int .i64 t]) ∧ t ≤ most j) ∧ Below Y.heap.size Y X') from by
                  have h2 := C.any x1 x2 9223372036854775807 h HWX.out.1 HWX.out.2 hmax
                  rw [decide_eq_false (by rw [th_none (fun a ha hi => absurd ha (hlw1 rfl a (HAL.out a ha) hi))]; omega)] at h2
                  exact h2)
                clear hlw1 hlw2 hll hmax HLW
                go_wp2_with (first
                  | (go_at_call 18; (with_reducible refine (HA1.out _ HT.out).mono ?_); rintro e w7 ⟨⟨taHA1, rfl, -⟩, hb⟩; have HE := Lib.hid (HE.out.keep hb HE.out.lt); have HT := Lib.hid (C.bel HT.out hb); have HB := Lib.hid (HB.out.trans (hb.mono HB.out.size)); have l0 := HE.out.cell (i := 0) rfl; have l1 := HE.out.cell (i := 1) rfl; have l2 := HE.out.cell (i := 2) rfl; clear hb)
                  | (go_at_call 9; (with_reducible refine (HAW.out _).mono ?_); rintro e w9 ⟨rfl, hb⟩; have HB := Lib.hid (HB.out.trans (hb.mono HB.out.size)); clear hb))
                go_ret
                exact ⟨rfl, HB.out⟩
              | true =>
                obtain ⟨hwA, hwi, hwl⟩ := hlw2 rfl
                have hwf := HWF.out lw (HAL.out lw hwA)
                have hlyr := i64_range hwf.2.1
                have HA1 := Lib.hid (fun Y (h : TS Y v j S A) => show Calls Tryz.prog 18 #[v, .int .i64 x1, .int .i64 x2, .int .i64 9223372036854775807] Y (fun e X' => (∃ t : Nat, e = .returned (.tuple #[.bool true, .int .i64 t]) ∧ t ≤ most j) ∧ Below Y.heap.size Y X') from by
                  have h2 := C.any x1 x2 9223372036854775807 h HWX.out.1 HWX.out.2 hmax
                  rw [decide_eq_true (th_some hwA hwi (by omega))] at h2
                  exact h2)
                have HA2 := Lib.hid (fun Y (h : TS Y v j S A) => show Calls Tryz.prog 18 #[v, .int .i64 x1, .int .i64 x2, .int .i64 lw.2.1] Y (fun e X' => (∃ t : Nat, e = .returned (.tuple #[.bool true, .int .i64 t]) ∧ t ≤ most j) ∧ Below Y.heap.size Y X') from by
                  have h2 := C.any x1 x2 lw.2.1 h HWX.out.1 HWX.out.2 hwf.2.1
                  rw [decide_eq_true (th_some hwA hwi (Int.le_refl _))] at h2
                  exact h2)
                have hdl : ∀ a ∈ drp A lw, a ∈ A := fun a ha => (List.mem_filter.1 ha).1
                have HA3 := Lib.hid (fun Y S2 (hlo : -9223372036854775808 < lw.2.1) (h : TS Y v j S2 (drp A lw)) => show Calls Tryz.prog 18 #[v, .int .i64 x1, .int .i64 x2, .int .i64 (lw.2.1 - 1)] Y (fun e X' => (∃ t : Nat, e = .returned (.tuple #[.bool false, .int .i64 t]) ∧ t ≤ most j) ∧ Below Y.heap.size Y X') from by
                  have h2 := C.any x1 x2 (lw.2.1 - 1) h HWX.out.1 HWX.out.2 (WalkArith.wf_i64 (by omega))
                  rw [decide_eq_false (by rw [th_none (fun a ha hi => by have := hwl a (HAL.out a (hdl a ha)) hi (hdl a ha); omega)]; omega)] at h2
                  exact h2)
                have HD := Lib.hid (fun Y (h : TS Y v j S A) => show Calls Tryz.prog 15 #[v, tv lw] Y (fun e X' => e = .returned (.bool true) ∧ ∃ S', TS X' v j S' (drp A lw) ∧ Off S Y X' ∧ ∀ k ∈ S', k ∈ S ∨ Y.heap.size ≤ k) from by
                  have h2 := C.drop lw h hwf
                  rw [decide_eq_true hwA] at h2
                  exact h2)
                have hla := HLA.out lw hwA hwi
                have HAL2 := Lib.hid (show ∀ a ∈ drp A lw, a ∈ L from fun a ha => HAL.out a (hdl a ha))
                have HLA2 := Lib.hid (show ∀ a ∈ drp A lw, inX x1 x2 a = true → lw.2.1 ≤ a.2.1 from fun a ha hi => hwl a (HAL.out a (hdl a ha)) hi (hdl a ha))
                obtain ⟨D, hD⟩ : ∃ D, D = drp A lw := ⟨_, rfl⟩
                rw [← hD] at HA3 HD HAL2 HLA2
                obtain ⟨lx, ly, li⟩ := lw
                have l0 := HE.out.cell (i := 0) rfl
                have l1 := HE.out.cell (i := 1) rfl
                have l2 := HE.out.cell (i := 2) rfl
                unfold tv at HD
                simp only at HA2 HA3 HD hla hlyr HLA2 l0 l1 l2
                have hnl : ¬ ly < last := by omega
                obtain ⟨hly1, hly2⟩ := hlyr
                clear hlw1 hlw2 hll hmax HLW hwA hwi hwl hwf hdl hD hla
                by_cases hlo : -9223372036854775808 < ly
                · have HLO := Lib.hid hlo
                  have hw1 : IntKind.i64.wrap (ly - 1) = ly - 1 := IntWalk.i64_in _ (by omega)
                  go_wp2_with (first
                    | (go_at_call 18; (with_reducible refine (HA1.out _ HT.out).mono ?_); rintro e w7 ⟨⟨taHA1, rfl, -⟩, hb⟩; have HE := Lib.hid (HE.out.keep hb HE.out.lt); have HT := Lib.hid (C.bel HT.out hb); have HB := Lib.hid (HB.out.trans (hb.mono HB.out.size)); have l0 := HE.out.cell (i := 0) rfl; have l1 := HE.out.cell (i := 1) rfl; have l2 := HE.out.cell (i := 2) rfl; clear hb)
                    | (go_at_call 18; (with_reducible refine (HA2.out _ HT.out).mono ?_); rintro e w7 ⟨⟨taHA2, rfl, -⟩, hb⟩; have HE := Lib.hid (HE.out.keep hb HE.out.lt); have HT := Lib.hid (C.bel HT.out hb); have HB := Lib.hid (HB.out.trans (hb.mono HB.out.size)); have l0 := HE.out.cell (i := 0) rfl; have l1 := HE.out.cell (i := 1) rfl; have l2 := HE.out.cell (i := 2) rfl; clear hb)
                    | (go_at_call 15; (with_reducible refine (HD.out _ HT.out).mono ?_); rintro e w8 ⟨rfl, S8, hT8, hO8, hS8⟩; have HTD := Lib.hid hT8; have HE := Lib.hid (HE.out.off hO8 (fun h => by have := HSL.out _ h; exact Nat.lt_irrefl _ this)); have HSS8 := Lib.hid (show ∀ b ∈ S8, w.heap.size ≤ b from fun b hb => (hS8 b hb).elim (HSS.out b) (fun h => Nat.le_trans HB.out.size h)); have HB := Lib.hid (HB.out.trans (hO8.below (N := w.heap.size) HB.out.size HSS.out)); have l0 := HE.out.cell (i := 0) rfl; have l1 := HE.out.cell (i := 1) rfl; have l2 := HE.out.cell (i := 2) rfl; clear hT8 hO8 hS8)
                    | (go_at_call 18; (with_reducible refine (HA3.out _ _ HLO.out HTD.out).mono ?_); rintro e w7 ⟨⟨ta3, rfl, -⟩, hb⟩; have HE := Lib.hid (HE.out.keep hb HE.out.lt); have HTD := Lib.hid (C.bel HTD.out hb); have HB := Lib.hid (HB.out.trans (hb.mono HB.out.size)); have l0 := HE.out.cell (i := 0) rfl; have l1 := HE.out.cell (i := 1) rfl; have l2 := HE.out.cell (i := 2) rfl; clear hb))
                  go_roundw
                  case rel => exact ⟨k + 1, D, S8, ly, by omega, by go_num, rfl, HTD, HSS8, HAL2, HLA2, HB⟩
                  case measure => simp [intOf]; omega
                · go_wp2_with (first
                    | (go_at_call 18; (with_reducible refine (HA1.out _ HT.out).mono ?_); rintro e w7 ⟨⟨taHA1, rfl, -⟩, hb⟩; have HE := Lib.hid (HE.out.keep hb HE.out.lt); have HT := Lib.hid (C.bel HT.out hb); have HB := Lib.hid (HB.out.trans (hb.mono HB.out.size)); have l0 := HE.out.cell (i := 0) rfl; have l1 := HE.out.cell (i := 1) rfl; have l2 := HE.out.cell (i := 2) rfl; clear hb)
                    | (go_at_call 18; (with_reducible refine (HA2.out _ HT.out).mono ?_); rintro e w7 ⟨⟨taHA2, rfl, -⟩, hb⟩; have HE := Lib.hid (HE.out.keep hb HE.out.lt); have HT := Lib.hid (C.bel HT.out hb); have HB := Lib.hid (HB.out.trans (hb.mono HB.out.size)); have l0 := HE.out.cell (i := 0) rfl; have l1 := HE.out.cell (i := 1) rfl; have l2 := HE.out.cell (i := 2) rfl; clear hb)
                    | (go_at_call 15; (with_reducible refine (HD.out _ HT.out).mono ?_); rintro e w8 ⟨rfl, S8, hT8, hO8, hS8⟩; have HTD := Lib.hid hT8; have HE := Lib.hid (HE.out.off hO8 (fun h => by have := HSL.out _ h; exact Nat.lt_irrefl _ this)); have HSS8 := Lib.hid (show ∀ b ∈ S8, w.heap.size ≤ b from fun b hb => (hS8 b hb).elim (HSS.out b) (fun h => Nat.le_trans HB.out.size h)); have HB := Lib.hid (HB.out.trans (hO8.below (N := w.heap.size) HB.out.size HSS.out)); have l0 := HE.out.cell (i := 0) rfl; have l1 := HE.out.cell (i := 1) rfl; have l2 := HE.out.cell (i := 2) rfl; clear hT8 hO8 hS8))
                  go_roundw
                  case rel => exact ⟨k + 1, D, S8, ly, by omega, by go_num, rfl, HTD, HSS8, HAL2, HLA2, HB⟩
                  case measure => simp [intOf]; omega
        · obtain rfl : k = m := by omega
          have hltz : ¬ (k : Int) < k := by omega
          go_wp2_with (go_at_call 9; (with_reducible refine (HAW.out _).mono ?_); rintro e w9 ⟨rfl, hb⟩; have HB := Lib.hid (HB.out.trans (hb.mono HB.out.size)); clear hb)
          go_ret
          exact ⟨rfl, HB.out⟩
    · go_enter Tryz.func7, Tryz.ntmps7
      go_wp2_with (first
        | (go_at_call 10; (with_reducible refine HBU.out.mono ?_); rintro e w1 ⟨hb, hor⟩; rcases hor with ⟨hn, -⟩ | ⟨-, v, S, rfl, -, -⟩; (exact absurd hn hrg); have HB := Lib.hid hb; clear hb)
        | (go_at_call 9; (with_reducible refine (HAW.out _).mono ?_); rintro e w9 ⟨rfl, hb⟩; have HB := Lib.hid (HB.out.trans (hb.mono HB.out.size)); clear hb))
      go_ret
      exact ⟨rfl, HB.out⟩
  · have hbz : (60 : Int) < L.length := by omega
    have HB := Lib.hid (Below.refl w.heap.size w)
    clear hx hc hw hp hbig
    generalize L.length = m at *
    go_enter Tryz.func7, Tryz.ntmps7
    go_wp2_with (go_at_call 9; (with_reducible refine (HAW.out _).mono ?_); rintro e w9 ⟨rfl, hb⟩; have HB := Lib.hid (HB.out.trans (hb.mono HB.out.size)); clear hb)
    go_ret
    exact ⟨rfl, HB.out⟩
end Go.Proofs.YtajpboclicnopaaGreat.Hp
