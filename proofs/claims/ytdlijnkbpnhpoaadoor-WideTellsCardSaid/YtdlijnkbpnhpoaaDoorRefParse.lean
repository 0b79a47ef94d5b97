/-
  What the document-side function Parse tells: what wide.Parse tells; conditions: those typed at each theorem.
-/
import Derived.Test.YtdlijnkbpnhpoaaDoorRefDiff
import Derived.Test.YtdlijnkbpnhpoaaDoorDec
namespace Go.Proofs.YtdlijnkbpnhpoaaDoor
open Go.RowKit

theorem radd_yes (a b : Nat) (w : World) (h : a + b < B128) :
    Calls Tryd.prog 11 #[.agg #[.int .u64 (hi a), .int .u64 (lo a)], .agg #[.int .u64 (hi b), .int .u64 (lo b)]] w fun e w' => e = .returned (.tuple #[.agg #[.int .u64 (hi (a + b)), .int .u64 (lo (a + b))], .bool true]) ∧ Below w.heap.size w w' :=
  (radd_any a b w (by omega) (by omega)).mono fun _ _ ⟨he, hw⟩ => ⟨by rw [he, addR_yes h, addK_yes h], hw⟩
theorem radd_no (a b : Nat) (w : World) (ha : a < B128) (hb : b < B128) (h : ¬ a + b < B128) :
    Calls Tryd.prog 11 #[.agg #[.int .u64 (hi a), .int .u64 (lo a)], .agg #[.int .u64 (hi b), .int .u64 (lo b)]] w fun e w' => e = .returned (.tuple #[.agg #[.int .u64 0, .int .u64 0], .bool false]) ∧ Below w.heap.size w w' :=
  (radd_any a b w ha hb).mono fun _ _ ⟨he, hw⟩ => ⟨by rw [he, addR_no h, addK_no h, hi_zero, lo_zero], hw⟩
/-- all digits, a head that may stand, not too much: told. -/
theorem par_can (l : List UInt8) (h0 : l ≠ []) (hd : l.all digB = true) (hh : l.head? = some 48 → l.length = 1) (hv : val l < B128) : parR l = val l ∧ parE l = 0 := by
  have hc : Can l := ⟨h0, fun c hm => by have := List.all_eq_true.1 hd c hm; unfold digB at this; simp at this; omega, hh⟩
  have e := dec_val l.length l rfl hc
  have hw := wf_dec (val l) hv
  rw [e] at hw
  exact par_ok l hw hv
/-- what stands in the rounds of Parse: the result's own cells and the number so far. -/
structure PSt (w wr : World) (v : Nat) : Prop where
  r0 : wr.cell? ⟨w.heap.size, 0, none⟩ = some (.int .u64 0)
  r1 : wr.cell? ⟨w.heap.size, 1, none⟩ = some (.int .u64 0)
  q0 : wr.frozen? ⟨w.heap.size, 0, none⟩ = false
  q1 : wr.frozen? ⟨w.heap.size, 1, none⟩ = false
  c0 : wr.cell? ⟨w.heap.size + 1, 0, none⟩ = some (.int .u64 (hi v))
  c1 : wr.cell? ⟨w.heap.size + 1, 1, none⟩ = some (.int .u64 (lo v))
  f0 : wr.frozen? ⟨w.heap.size + 1, 0, none⟩ = false
  f1 : wr.frozen? ⟨w.heap.size + 1, 1, none⟩ = false
  bl : Below w.heap.size w wr
  sz : w.heap.size + 2 ≤ wr.heap.size
theorem PSt.step {w wr wx : World} {v : Nat} (h : PSt w wr v) (hb : Below wr.heap.size wr wx) : PSt w wx v :=
  ⟨keepc hb h.r0, keepc hb h.r1, keepf hb h.r0 h.q0, keepf hb h.r1 h.q1, keepc hb h.c0, keepc hb h.c1, keepf hb h.c0 h.f0, keepf hb h.c1 h.f1, h.bl.trans (hb.mono h.bl.size), Nat.le_trans h.sz hb.size⟩
theorem PSt.other {w wr : World} {v : Nat} (h : PSt w wr v) (g j : Nat) (u : Value) (hg : w.heap.size + 2 ≤ g) : PSt w (wr.setCell ⟨g, j, none⟩ u) v :=
  ⟨setc (by dsimp only; omega) h.r0, setc (by dsimp only; omega) h.r1, by simpa using h.q0, by simpa using h.q1, setc (by dsimp only; omega) h.c0, setc (by dsimp only; omega) h.c1, by simpa using h.f0, by simpa using h.f1, h.bl.setCell (p := ⟨g, j, none⟩) (by dsimp only; omega) _, by simpa using h.sz⟩
theorem PSt.put {w wr : World} {v : Nat} (h : PSt w wr v) (v' : Nat) : PSt w ((wr.setCell ⟨w.heap.size + 1, 0, none⟩ (.int .u64 (hi v'))).setCell ⟨w.heap.size + 1, 1, none⟩ (.int .u64 (lo v'))) v' :=
  ⟨setc (by dsimp only; omega) (setc (by dsimp only; omega) h.r0), setc (by dsimp only; omega) (setc (by dsimp only; omega) h.r1), by simpa using h.q0, by simpa using h.q1, set20 h.c0, set21 h.c1, by simpa using h.f0, by simpa using h.f1, (h.bl.setCell (p := ⟨w.heap.size + 1, 0, none⟩) (by dsimp only; omega) _).setCell (p := ⟨w.heap.size + 1, 1, none⟩) (by dsimp only; omega) _, by simpa using h.sz⟩
theorem PSt.told {w wr : World} {v : Nat} (h : PSt w wr v) (x y : Value) : Below w.heap.size w ((wr.setCell ⟨w.heap.size, 0, none⟩ x).setCell ⟨w.heap.size, 1, none⟩ y) :=
  (h.bl.setCell (p := ⟨w.heap.size, 0, none⟩) (Nat.le_refl _) _).setCell (p := ⟨w.heap.size, 1, none⟩) (Nat.le_refl _) _

set_option maxRecDepth 100000 in
set_option maxHeartbeats 2000000 in
theorem rparse_any (s : ByteArray) (w : World) (hs : s.size ≤ 140737488355328) :
    Calls Tryd.prog 18 #[.string s] w fun e w' => e = .returned (.tuple #[.agg #[.int .u64 (hi (parR s.data.toList)), .int .u64 (lo (parR s.data.toList))], .int .i64 (parE s.data.toList)]) ∧ Below w.heap.size w w' := by
  go_enter Tryd.func18, Tryd.ntmps18
  go_wp2_with fail
  go_loopw [5] (fun i wr => ∃ k : Nat, k ≤ s.size ∧ i = .int .i64 k ∧ Hid ((s.data.toList.take k).all digB = true) ∧ Hid (val (s.data.toList.take k) < B128) ∧ Hid (PSt w wr (val (s.data.toList.take k)))) (fun i _ => s.size - (intOf i).toNat)
  case atStart =>
    refine ⟨0, Nat.zero_le _, rfl, Lib.hid (by simp), Lib.hid (by simp [val, B128]), Lib.hid ?_⟩
    rw [List.take_zero, show val [] = 0 from rfl]
    refine ⟨allc (new0 _ _ _ rfl), allc (new1 _ _ _ rfl), allf (new0 _ _ _ rfl) (newf _ _ _ _ rfl), allf (new1 _ _ _ rfl) (newf _ _ _ _ rfl), ?_, ?_, newf _ _ _ _ (by simp), newf _ _ _ _ (by simp), ((Below.refl _ _).alloc (Nat.le_refl _) _).alloc (by simp) _, by simp⟩
    · rw [hi_zero]; exact new0 _ _ _ (by simp)
    · rw [lo_zero]; exact new1 _ _ _ (by simp)
  case round =>
    obtain ⟨k, hk, rfl, hall, hv, HS⟩ := hrel
    by_cases hlt : k < s.size
    · by_cases hbad : (s[k].toNat : Int) < 48 ∨ 57 < (s[k].toNat : Int)
      · have HP := Lib.hid (par_bad _ (wfS_bad s k hlt hbad))
        have r0 := HS.out.r0
        have r1 := HS.out.r1
        have q0 := HS.out.q0
        have q1 := HS.out.q1
        have s0 := set20 (x := .int .u64 0) (y := .int .u64 0) r0
        have s1 := set21 (x := .int .u64 0) (y := .int .u64 0) r1
        rcases hbad with hb | hb
        all_goals
          go_wp2
          refine bodyPost_ret (v := .tuple #[.agg #[.int .u64 0, .int .u64 0], .int .i64 10]) (by simp [results, Tryd.results18, go_sem, s0, s1]) rfl ⟨by rw [HP.out.1, HP.out.2, hi_zero, lo_zero], HS.out.told _ _⟩
      · have d0 : 48 ≤ (s[k].toNat : Int) := by omega
        have d1 : (s[k].toNat : Int) ≤ 57 := by omega
        clear hbad
        obtain ⟨dn, hdn⟩ : ∃ dn : Nat, dn = s[k].toNat - 48 := ⟨_, rfl⟩
        have hd9 : dn ≤ 9 := by omega
        have hw8 : IntKind.u8.wrap ((s[k].toNat : Int) - 48) = (dn : Int) := by rw [IntWalk.u8_in _ (by omega), hdn]; omega
        have HN : Hid (val (s.data.toList.take (k + 1)) = val (s.data.toList.take k) * 10 + dn) := by
          unfold Hid; rw [take_snoc s k hlt, val_snoc, hdn]
        have HA : Hid ((s.data.toList.take (k + 1)).all digB = true) := Lib.hid (by rw [take_snoc s k hlt, List.all_append, hall.out]; simp [digB_true s[k] (by omega) (by omega)])
        clear hdn hall
        generalize hvv : val (s.data.toList.take k) = v at *
        have HVV := Lib.hid hvv
        clear hvv
        go_wp2_with fail
        have HS1 := Lib.hid (HS.out.step ((Below.refl wr.heap.size wr).alloc (Nat.le_refl _) (.cells #[.int .u64 0, .int .u64 (dn : Int)] 24)))
        have n0 := new0 wr (.int .u64 0) (.int .u64 (dn : Int)) rfl
        have n1 := new1 wr (.int .u64 0) (.int .u64 (dn : Int)) rfl
        have m0 := newf wr (.int .u64 0) (.int .u64 (dn : Int)) 0 rfl
        have m1 := newf wr (.int .u64 0) (.int .u64 (dn : Int)) 1 rfl
        have hnb := HS.out.sz
        have hnz : wr.heap.size < (wr.alloc (.cells #[.int .u64 0, .int .u64 (dn : Int)] 24)).heap.size := by simp
        clear HS
        generalize wr.alloc (.cells #[.int .u64 0, .int .u64 (dn : Int)] 24) = wq at *
        generalize wr.heap.size = nb at *
        go_loopw [7] (fun i wr => ∃ q : Nat, q ≤ 10 ∧ i = .int .i64 q ∧ Hid (dn + q * v < B128) ∧ Hid (PSt w wr v) ∧ wr.cell? ⟨nb, 0, none⟩ = some (.int .u64 (hi (dn + q * v))) ∧ wr.cell? ⟨nb, 1, none⟩ = some (.int .u64 (lo (dn + q * v))) ∧ wr.frozen? ⟨nb, 0, none⟩ = false ∧ wr.frozen? ⟨nb, 1, none⟩ = false) (fun i _ => 10 - (intOf i).toNat)
        case atStart => exact ⟨0, by omega, rfl, Lib.hid (by unfold B128; omega), HS1, by rw [Nat.zero_mul, Nat.add_zero, small_hi dn (by unfold B64; omega)]; exact n0, by rw [Nat.zero_mul, Nat.add_zero, small_lo dn (by unfold B64; omega)]; exact n1, m0, m1⟩
        case round =>
          clear HS1 n0 n1 m0 m1
          obtain ⟨q, hq, rfl, hF, HS, n0, n1, m0, m1⟩ := hrel
          have c0 := HS.out.c0
          have c1 := HS.out.c1
          by_cases hq10 : q < 10
          · have hq10' : (q : Int) < 10 := by omega
            have eS : dn + (q + 1) * v = dn + q * v + v := by rw [Nat.succ_mul]; omega
            by_cases hfit : dn + q * v + v < B128
            · have HF := Lib.hid hfit
              clear hfit
              have HE := Lib.hid eS
              clear eS
              go_upto_region 14 with (go_at_call 11; refine (radd_yes (dn + q * v) v _ HF.out).mono ?_; rintro e w1 ⟨rfl, hb1⟩; replace m0 := keepf hb1 n0 m0; replace m1 := keepf hb1 n1 m1; replace n0 := keepc hb1 n0; replace n1 := keepc hb1 n1; replace HS := Lib.hid (HS.out.step hb1))
              have x0 := new0 w1 (.int .u64 (hi (dn + q * v + v))) (.int .u64 (lo (dn + q * v + v))) rfl
              have x1 := new1 w1 (.int .u64 (hi (dn + q * v + v))) (.int .u64 (lo (dn + q * v + v))) rfl
              replace m0 := allf (o := .cells #[.int .u64 (hi (dn + q * v + v)), .int .u64 (lo (dn + q * v + v))] 24) n0 m0
              replace m1 := allf (o := .cells #[.int .u64 (hi (dn + q * v + v)), .int .u64 (lo (dn + q * v + v))] 24) n1 m1
              replace n0 := allc (o := .cells #[.int .u64 (hi (dn + q * v + v)), .int .u64 (lo (dn + q * v + v))] 24) n0
              replace n1 := allc (o := .cells #[.int .u64 (hi (dn + q * v + v)), .int .u64 (lo (dn + q * v + v))] 24) n1
              replace HS := Lib.hid (HS.out.step ((Below.refl w1.heap.size w1).alloc (Nat.le_refl _) (.cells #[.int .u64 (hi (dn + q * v + v)), .int .u64 (lo (dn + q * v + v))] 24)))
              clear hb1 c0 c1
              generalize w1.alloc (.cells #[.int .u64 (hi (dn + q * v + v)), .int .u64 (lo (dn + q * v + v))] 24) = w2 at *
              generalize w1.heap.size = g at *
              go_wp2_with fail
              refine ⟨⟨q + 1, by omega, by go_num, ?_⟩, by simp [intOf]; omega⟩
              rw [HE.out]
              exact ⟨HF, Lib.hid ((HS.out.other nb 0 _ hnb).other nb 1 _ hnb), set20 n0, set21 n1, by simpa using m0, by simpa using m1⟩
            · have HP := Lib.hid (par_big s.data.toList (fun hlt2 => by
                have h1 := val_le (s.data.toList.take (k + 1)) (s.data.toList.drop (k + 1))
                rw [List.take_append_drop, HN.out] at h1
                have h3 : (q + 1) * v ≤ 10 * v := Nat.mul_le_mul_right v (by omega)
                omega))
              have HF := Lib.hid hfit
              clear hfit eS
              go_upto_region 13 with (go_at_call 11; refine (radd_no (dn + q * v) v _ hF.out hv.out HF.out).mono ?_; rintro e w1 ⟨rfl, hb1⟩; replace HS := Lib.hid (HS.out.step hb1))
              replace HS := Lib.hid (HS.out.step ((Below.refl w1.heap.size w1).alloc (Nat.le_refl _) (.cells #[.int .u64 0, .int .u64 0] 24)))
              clear hb1 c0 c1
              generalize w1.alloc (.cells #[.int .u64 0, .int .u64 0] 24) = w2 at *
              generalize w1.heap.size = g at *
              have r0 := HS.out.r0
              have r1 := HS.out.r1
              have q0 := HS.out.q0
              have q1 := HS.out.q1
              have s0 := set20 (x := .int .u64 0) (y := .int .u64 0) r0
              have s1 := set21 (x := .int .u64 0) (y := .int .u64 0) r1
              go_wp2_with fail
              refine bodyPost_ret (v := .tuple #[.agg #[.int .u64 0, .int .u64 0], .int .i64 10]) (by simp [results, Tryd.results18, go_sem, s0, s1]) rfl ⟨by rw [HP.out.1, HP.out.2, hi_zero, lo_zero], HS.out.told _ _⟩
          · obtain rfl : q = 10 := by omega
            have f0 := HS.out.f0
            have f1 := HS.out.f1
            have eV : val (s.data.toList.take (k + 1)) = dn + 10 * v := by rw [HN.out]; omega
            have HV' := Lib.hid eV
            clear eV
            go_wp2_with fail
            refine ⟨⟨k + 1, by omega, by go_num, HA, ?_⟩, by simp [intOf]; omega⟩
            rw [HV'.out]
            exact ⟨hF, Lib.hid (HS.out.put _)⟩
    · obtain rfl : k = s.size := by omega
      have hfull : s.data.toList.take s.size = s.data.toList := List.take_of_length_le (by simp)
      rw [hfull] at hall hv HS
      have r0 := HS.out.r0
      have r1 := HS.out.r1
      have q0 := HS.out.q0
      have q1 := HS.out.q1
      have hlen := len_size s
      by_cases h0 : s.size = 0
      · have HP := Lib.hid (par_bad _ (wfS_empty s h0))
        have t0 : ((s.size : Int) == 0) = true := beq_iff_eq.2 (by omega)
        have s0 := set20 (x := .int .u64 0) (y := .int .u64 0) r0
        have s1 := set21 (x := .int .u64 0) (y := .int .u64 0) r1
        clear hlen hfull h0
        go_wp2
        refine bodyPost_ret (v := .tuple #[.agg #[.int .u64 0, .int .u64 0], .int .i64 10]) (by simp [results, Tryd.results18, go_sem, s0, s1]) rfl ⟨by rw [HP.out.1, HP.out.2, hi_zero, lo_zero], HS.out.told _ _⟩
      have hp : 0 < s.size := by omega
      have t0 : ((s.size : Int) == 0) = false := beq_eq_false_iff_ne.2 (by omega)
      by_cases hz : (s[0].toNat : Int) = 48 ∧ 1 < s.size
      · obtain ⟨hz, h2⟩ := hz
        have HP := Lib.hid (par_bad _ (wfS_zero s h2 hz))
        have t1 : ((s[0].toNat : Int) == 48) = true := beq_iff_eq.2 hz
        have h2' : (1 : Int) < (s.size : Int) := by omega
        have s0 := set20 (x := .int .u64 0) (y := .int .u64 0) r0
        have s1 := set21 (x := .int .u64 0) (y := .int .u64 0) r1
        clear hlen hfull hz
        go_wp2
        refine bodyPost_ret (v := .tuple #[.agg #[.int .u64 0, .int .u64 0], .int .i64 10]) (by simp [results, Tryd.results18, go_sem, s0, s1]) rfl ⟨by rw [HP.out.1, HP.out.2, hi_zero, lo_zero], HS.out.told _ _⟩
      have HP := Lib.hid (par_can s.data.toList (by intro e; rw [e] at hlen; simp at hlen; omega) hall.out (fun e => by
        rw [head_eq s hp] at e
        have e1 : s[0] = 48 := by simpa using e
        have e2 : (s[0].toNat : Int) = 48 := by rw [e1]; rfl
        rw [hlen]
        by_cases q : 1 < s.size
        · exact absurd ⟨e2, q⟩ hz
        · omega) hv.out)
      have c0 := HS.out.c0
      have c1 := HS.out.c1
      generalize val s.data.toList = v at *
      have s0 := set20 (x := .int .u64 (hi v)) (y := .int .u64 (lo v)) r0
      have s1 := set21 (x := .int .u64 (hi v)) (y := .int .u64 (lo v)) r1
      clear hlen hfull h0
      by_cases hz1 : (s[0].toNat : Int) = 48
      · have t1 : ((s[0].toNat : Int) == 48) = true := beq_iff_eq.2 hz1
        have h1' : (s.size : Int) ≤ 1 := by
          by_cases q : 1 < s.size
          · exact absurd ⟨hz1, q⟩ hz
          · omega
        clear hz hz1
        go_wp2
        refine bodyPost_ret (v := .tuple #[.agg #[.int .u64 (hi v), .int .u64 (lo v)], .int .i64 0]) (by simp [results, Tryd.results18, go_sem, s0, s1]) rfl ⟨by rw [HP.out.1, HP.out.2], HS.out.told _ _⟩
      · have t1 : ((s[0].toNat : Int) == 48) = false := beq_eq_false_iff_ne.2 hz1
        clear hz hz1
        go_wp2
        refine bodyPost_ret (v := .tuple #[.agg #[.int .u64 (hi v), .int .u64 (lo v)], .int .i64 0]) (by simp [results, Tryd.results18, go_sem, s0, s1]) rfl ⟨by rw [HP.out.1, HP.out.2], HS.out.told _ _⟩
end Go.Proofs.YtdlijnkbpnhpoaaDoor
