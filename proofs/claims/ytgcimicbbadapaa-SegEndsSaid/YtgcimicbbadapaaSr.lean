/-
  A tree of spans: whether spans are right, their ends, a tree of none. No condition but those typed at each theorem.
-/
import Derived.Test.YtgcimicbbadapaaSm
import Derived.Test.YtgcimicbbadapaaMIc
import Derived.Test.YtgcimicbbadapaaTold
import Derived.Test.YtgcimicbbadapaaMFa
import Derived.Test.YtgcimicbbadapaaMn
namespace Go.Proofs.Ytgcimicbbadapaa
open Go.RowKit Go.Sort

/-! ### steps of a map -/
theorem wpList_lookR {P : Program} {w : World} {ops : Array Oper} {rest : List Oper} {o : Oper} {a : Act} {Q : Exit → Act → World → Prop} (hg : o.guard = none) (m x : Operand) (t : TypeId) (c : Bool) (hop : o.op = Op.lookup t m x c) (u v r : Value)
    (hm : a.eval m = u) (hx : a.eval x = v) (hrun : (Instr.lookup t u v c).run P w = .ok r w) (hK : wpList P ops Q rest (a.put o.dst r) w) : wpList P ops Q (o :: rest) a w :=
  wpList_plain hg fun K' hK' => by
    unfold Oper.wp
    simp [execOp, hop, hm, hx, hrun, Result.andThen]
    exact hK' _ _ hK
theorem wpList_putR {P : Program} {w w' : World} {ops : Array Oper} {rest : List Oper} {o : Oper} {a : Act} {Q : Exit → Act → World → Prop} (hg : o.guard = none) (m x y : Operand) (t : TypeId) (hop : o.op = Op.mapUpdate t m x y) (u v z : Value)
    (hm : a.eval m = u) (hx : a.eval x = v) (hy : a.eval y = z) (hrun : (Instr.mapUpdate t u v z).run P w = .ok () w') (hK : wpList P ops Q rest (a.put o.dst undef) w') : wpList P ops Q (o :: rest) a w :=
  wpList_plain hg fun K' hK' => by
    unfold Oper.wp
    simp [execOp, hop, hm, hx, hy, hrun, Result.andThen]
    exact hK' _ _ hK
theorem zeroI3 (w : World) : (zeroValue 3).run Try.prog w = .ok (.int .i64 0) w := by kernel_rfl
set_option maxRecDepth 100000 in
theorem right_span (w : World) (s : S3) : Calls Try.prog 48 #[tv s] w fun e w' => e = .returned (.bool (decide (s.1 ≤ s.2.1))) ∧ Below w.heap.size w w' := by
  obtain ⟨lo, hi, id⟩ := s
  simp only [tv]
  by_cases h : lo ≤ hi
  · go_enter Try.func48, Try.ntmps48
    go_wp2
    go_ret
    exact ⟨retb (by simp [h]), (Below.refl _ w).alloc (Nat.le_refl _) _⟩
  · go_enter Try.func48, Try.ntmps48
    go_wp2
    go_ret
    exact ⟨retb (by simp [h]), (Below.refl _ w).alloc (Nat.le_refl _) _⟩
theorem rg_twice {L : List S3} {i : Nat} {s : S3} (e : L[i]? = some s) (h : ∃ y ∈ L.take i, y.2.2 = s.2.2) : ¬ Rg L := by
  intro hr
  have h1 : (L.take (i + 1)).Sublist L := List.take_sublist _ _
  have h2 := (hr.sub h1).2
  rw [List.take_add_one, e, show (some s).toList = [s] from rfl, List.map_append, List.nodup_append] at h2
  obtain ⟨y, hy, hn⟩ := h
  exact h2.2.2 _ (List.mem_map.2 ⟨y, hy, rfl⟩) _ (by simp) hn
set_option maxRecDepth 100000 in
set_option maxHeartbeats 1600000 in
theorem right_any (w : World) (p : Option Addr) (c : Nat) (L : List S3) (hx : TsS w p L) (hl : L.length ≤ 400) (hw : ∀ s ∈ L, Wf3 s) :
    Calls Try.prog 26 #[.slice p L.length c] w fun e w' => e = .returned (.bool (decide (Rg L))) ∧ Below w.heap.size w w' := by
  have HX := Lib.hid hx
  have HW := Lib.hid hw
  obtain ⟨d, hd⟩ : ∃ d, d = L.length := ⟨_, rfl⟩
  have HD := Lib.hid hd
  rw [← hd] at hl ⊢
  clear hd hx hw
  have eqN := eqNew
  go_enter Try.func26, Try.ntmps26
  go_wp2_with (go_at_call 47; (with_reducible refine (names_any _).mono ?_); rintro e w1 ⟨⟨B, mb, rfl, hN, hB, hm, hne⟩, hb⟩; have HN := Lib.hid hN; have HB := Lib.hid hb; have HNE := Lib.hid (show w.heap.size ≤ B ∧ w.heap.size ≤ mb ∧ B ≠ mb from ⟨hB, hm, hne⟩); clear hN hB hm hne hb)
  go_loopw [9] (fun v wr => ∃ i : Nat, i ≤ d ∧ v = .int .i64 i ∧ Hid (Rg (L.take i)) ∧ Hid (IsN wr B mb ((L.take i).map (·.2.2))) ∧ Hid (Below w.heap.size w wr)) (fun v _ => d - (intOf v).toNat)
  case atStart => exact ⟨0, Nat.zero_le _, rfl, Lib.hid (by rw [List.take_zero]; exact Rg.nil), HN, HB⟩
  case round =>
    clear HN HB
    obtain ⟨i, hi, rfl, HG, HM, HB⟩ := hrel
    by_cases hlt : i < d
    · have hltz : (i : Int) < d := by omega
      obtain ⟨s, hse⟩ : ∃ s, L[i]? = some s := ⟨_, List.getElem?_eq_getElem (by have := HD.out; omega)⟩
      obtain ⟨b, off, rfl, h1⟩ := (HX.out.keep HB.out).at hse
      have n0 := h1.c0
      have n1 := h1.c1
      have n2 := h1.c2
      have HSE := Lib.hid hse
      have HS := Lib.hid (HW.out s (List.mem_of_getElem? hse)).2.2
      have HL := Lib.hid (show ((L.take i).map (·.2.2)).length ≤ 8192 by simp; have := HD.out; omega)
      clear h1 hse
      go_upto_region 5 with fail
      obtain ⟨W, hWd⟩ : ∃ W, W = wr.alloc (.cells (tvs s).toArray 34) := ⟨_, rfl⟩
      change Code.wp _ _ _ _ (wr.alloc (.cells (tvs s).toArray 34))
      rw [← hWd]
      have hT : T1 W wr.heap.size 0 s := hWd ▸ T1.new wr s _
      have hBW : Below w.heap.size w W := hWd ▸ HB.out.alloc HB.out.size _
      have hMW : IsN W B mb ((L.take i).map (·.2.2)) := HM.out.keep (hWd ▸ (Below.refl _ wr).alloc (Nat.le_refl _) _)
      have hmn : wr.heap.size ≠ mb := by have := HM.out.map.lt; omega
      have m2 := hT.c2
      clear hWd n0 n1 n2
      by_cases hseen : s.2.2 ∈ (L.take i).map (·.2.2)
      · have HC := Lib.hid (isnew_no hMW s.2.2 HS.out hseen HL.out HNE.out.2.2)
        have HBW := Lib.hid hBW
        have HSEEN := Lib.hid hseen
        clear hMW hBW hseen hT hmn
        obtain ⟨lo, hi2, id⟩ := s
        simp only [Nat.zero_add] at m2 HC
        go_wp2_with (go_at_fn 74; refine HC.out.mono ?_; rintro e w3 ⟨rfl, ho⟩; have HO := Lib.hid ho; clear ho)
        go_ret
        exact ⟨retb (by simp only [decide_eq_true_eq, Bool.false_eq_true, false_iff]; intro hr; obtain ⟨y, hy, e⟩ := List.mem_map.1 HSEEN.out; exact rg_twice HSE.out ⟨y, hy, e⟩ hr), HBW.out.trans (HO.out.below HBW.out.size (by simpa using HNE.out.2.1))⟩
      · have HC := Lib.hid (isnew_yes hMW s.2.2 HS.out hseen HL.out HNE.out.2.2)
        have HBW := Lib.hid hBW
        have HSEEN := Lib.hid hseen
        have HT := Lib.hid hT
        have HMN := Lib.hid hmn
        clear hMW hBW hseen hT hmn
        obtain ⟨lo, hi2, id⟩ := s
        simp only [Nat.zero_add] at m2 HC
        have HRS := Lib.hid (fun X => right_span X (lo, hi2, id))
        unfold tv at HRS
        by_cases hle : lo ≤ hi2
        · rw [decide_eq_true hle] at HRS
          go_wp2_with (first
            | (go_at_fn 74; refine HC.out.mono ?_; rintro e w3 ⟨rfl, hn, ho⟩; have HO := Lib.hid ho; have HN3 := Lib.hid hn; have hT3 := HT.out.off ho (by simp; exact HMN.out); have t0 := hT3.c0; have t1 := hT3.c1; have t2 := hT3.c2; simp only [Nat.zero_add] at t0 t1 t2; clear ho hn hT3)
            | (go_at_call 48; (with_reducible refine (HRS.out _).mono ?_); rintro e w4 ⟨rfl, hb⟩; have HB4 := Lib.hid ((HBW.out.trans (HO.out.below HBW.out.size (by simpa using HNE.out.2.1))).trans (hb.mono ((HBW.out.trans (HO.out.below HBW.out.size (by simpa using HNE.out.2.1))).size))); have HN4 := Lib.hid (HN3.out.keep hb); clear hb))
          go_roundw
          case rel =>
            refine ⟨i + 1, by omega, by go_num, Lib.hid ?_, Lib.hid ?_, HB4⟩
            · rw [List.take_add_one, HSE.out]
              exact HG.out.snoc hle (fun y hy e => HSEEN.out (List.mem_map.2 ⟨y, hy, e⟩))
            · rw [List.take_add_one, HSE.out, List.map_append]
              exact HN4.out
          case measure => simp [intOf]; omega
        · rw [decide_eq_false hle] at HRS
          go_wp2_with (first
            | (go_at_fn 74; refine HC.out.mono ?_; rintro e w3 ⟨rfl, hn, ho⟩; have HO := Lib.hid ho; have hT3 := HT.out.off ho (by simp; exact HMN.out); have t0 := hT3.c0; have t1 := hT3.c1; have t2 := hT3.c2; simp only [Nat.zero_add] at t0 t1 t2; clear ho hn hT3)
            | (go_at_call 48; (with_reducible refine (HRS.out _).mono ?_); rintro e w4 ⟨rfl, hb⟩; have HB4 := Lib.hid ((HBW.out.trans (HO.out.below HBW.out.size (by simpa using HNE.out.2.1))).trans (hb.mono ((HBW.out.trans (HO.out.below HBW.out.size (by simpa using HNE.out.2.1))).size))); clear hb))
          go_ret
          exact ⟨retb (by simp only [decide_eq_true_eq, Bool.false_eq_true, false_iff]; exact fun h => by have := h.1 _ (List.mem_of_getElem? HSE.out); simp only at this; omega), HB4.out⟩
    · have hid : i = d := by omega
      subst hid
      have hltz : ¬ (i : Int) < i := by omega
      go_wp2
      go_ret
      refine ⟨?_, HB.out⟩
      have := HG.out
      rw [List.take_of_length_le (by have := HD.out; omega)] at this
      simp [this]
/-! ### their ends -/
def endsL (L : List S3) : List Int := L.flatMap (fun s => [s.1, s.2.1])
theorem endsL_len (L : List S3) : (endsL L).length = 2 * L.length := by
  induction L with
  | nil => rfl
  | cons s L ih => rw [show endsL (s :: L) = [s.1, s.2.1] ++ endsL L from rfl, List.length_append, ih, List.length_cons]; simp; omega
theorem endsL_next {L : List S3} {i : Nat} {s : S3} (e : L[i]? = some s) : endsL (L.take (i + 1)) = endsL (L.take i) ++ [s.1, s.2.1] := by
  rw [List.take_add_one, e]
  simp [endsL]
theorem lit_at (W : World) (l : List Value) (t : TypeId) : ∀ j u, l[j]? = some u → (W.alloc (.cells l.toArray t)).cell? ((⟨W.heap.size, 0, none⟩ : Addr).add j) = some u := by
  intro j u e
  rw [Addr.add_lit, World.cell?_alloc_new]
  simpa using e
/-- a slice made -/
theorem made_any {P : Program} {e : TypeId} {z : Value} {size bytes : Nat} (hi : (P.info? e).map (fun i => (i.zero, i.size, i.bytes)) = some (some z, size, bytes)) (hby : bytes ≤ 64) (hsz : size ≤ 16) {t : TypeId} (ht : P.underlying t = some (.slice e)) (w : World) (l c : Nat) (hlc : l ≤ c) (hc : c ≤ 100000) :
    (Instr.makeSlice t (.int .i64 l) (.int .i64 c)).run P w = .ok (.slice (some ⟨w.heap.size, 0, none⟩) l c) (w.alloc (.cells (madeCells z.cells (c * size)) e)) := by
  obtain ⟨i0, hi0, hz0, hz1, hz2⟩ := info_parts hi
  subst hz1 hz2
  have h1 : c * i0.size ≤ 100000 * 16 := Nat.mul_le_mul hc hsz
  have h2 : i0.bytes * c ≤ 64 * 100000 := Nat.mul_le_mul hby hc
  have := run_makeSlice (P := P) (w := w) t e i0 z ht hi0 hz0 .i64 .i64 (l : Int) (c : Int) (by omega) (by omega) (by simp; omega) (by rw [← Int.natCast_mul]; omega) (by omega)
  simpa using this
set_option maxRecDepth 100000 in
set_option maxHeartbeats 1600000 in
theorem ends_any (w : World) (p : Option Addr) (c : Nat) (L : List S3) (hx : TsS w p L) (hl : L.length ≤ 400) :
    Calls Try.prog 28 #[.slice p L.length c] w fun e w' => ∃ q c', e = .returned (.slice q (I64.onceL (endsL L)).length c') ∧ I64.OS w w' q (I64.onceL (endsL L)) ∧ Below w.heap.size w w' := by
  have HX := Lib.hid hx
  obtain ⟨d, hd⟩ : ∃ d, d = L.length := ⟨_, rfl⟩
  have HD := Lib.hid hd
  have hel : (endsL L).length = 2 * d := by rw [hd]; exact endsL_len L
  have HEL := Lib.hid hel
  rw [← hd] at hl ⊢
  have hmk : ∀ w : World, (Instr.makeSlice 23 (.int .i64 0) (.int .i64 (2 * (d : Int)))).run Try.prog w = .ok (.slice (some ⟨w.heap.size, 0, none⟩) 0 (2 * d)) (w.alloc (.cells (madeCells #[.int .i64 0] (2 * d)) 2)) := fun w => by
    have := made_any I64.Try.info2 (by decide) (by decide) Try.underlying23 w 0 (2 * d) (by omega) (by omega)
    rw [show ((2 * d : Nat) : Int) = 2 * (d : Int) by omega] at this
    rw [Nat.mul_one] at this
    exact this
  have HTK := Lib.hid (fun i => (by rw [endsL_len, List.length_take]; omega : (endsL (L.take i)).length ≤ 2 * L.length))
  clear hd hx hel
  go_enter Try.func28, Try.ntmps28
  go_wp2
  go_loopw [3, 12] (fun s v wr => ∃ i : Nat, i ≤ d ∧ v = .int .i64 i ∧ Hid (wr.ownsRow w.heap.size 2 1 s (endsL (L.take i)).length ((endsL (L.take i)).map (Value.int .i64))) ∧ Hid (Below w.heap.size w wr)) (fun _ v _ => d - (intOf v).toNat)
  case atStart => exact ⟨0, Nat.zero_le _, rfl, Lib.hid (World.ownsRow_made w _ _ (Nat.le_refl _) (by simp [maxLen]; omega) (by rw [size_madeCells, Nat.mul_one])), Lib.hid ((Below.refl _ w).alloc (Nat.le_refl _) _)⟩
  case round =>
    clear hmk
    obtain ⟨i, hi, rfl, HA, HB⟩ := hrel
    by_cases hlt : i < d
    · have hltz : (i : Int) < d := by omega
      obtain ⟨s, hse⟩ : ∃ s, L[i]? = some s := ⟨_, List.getElem?_eq_getElem (by have := HD.out; omega)⟩
      obtain ⟨b, off, rfl, h1⟩ := (HX.out.keep HB.out).at hse
      have n0 := h1.c0
      have n1 := h1.c1
      have n2 := h1.c2
      have HEN := Lib.hid (endsL_next hse)
      have htk := HTK.out i
      have hsz := HB.out.size
      clear h1 hse
      obtain ⟨lo, hi2, id⟩ := s
      simp only at n0 n1 n2 HEN
      generalize hel : (endsL (L.take i)).length = el at *
      have HEL2 := Lib.hid hel
      clear hel
      go_wp2_with (at_builtin; refine wpList_list I64.Try.info2 rfl (by decide) (by decide) Try.underlying23 _ rfl (.tmp 16) (.tmp 21) rfl w.heap.size _ el _ rfl ((HA.out.alloc _).alloc _) (some ⟨wr.heap.size + 1, 0, none⟩) 2 2 [.int .i64 lo, .int .i64 hi2] (by simp [Act.eval]) rfl (.inr ⟨_, rfl, by have := lit_at (wr.alloc (.cells #[.int .i64 lo, .int .i64 hi2, .int .u32 id] 34)) [.int .i64 lo, .int .i64 hi2] 2; simpa using this⟩) (by simp [Value.oneCell']) (by have := HD.out; omega) (by simp; omega) ?_; intro v' w' h1 h2 _; have H1 := Lib.hid h1; have H2 := Lib.hid (((HB.out.alloc hsz _).alloc (by simp; omega) _).grown h2 (by simp; omega) (fun q e => own_geB HA.out q e)); clear h1 h2)
      go_roundw
      case rel =>
        refine ⟨i + 1, by omega, by go_num, Lib.hid ?_, H2⟩
        have := H1.out
        rw [HEN.out, List.length_append, HEL2.out, List.map_append]
        exact this
      case measure => simp [intOf]; omega
    · have hid : i = d := by omega
      subst hid
      have hltz : ¬ (i : Int) < i := by omega
      have hLi : L.take i = L := List.take_of_length_le (by have := HD.out; omega)
      rw [hLi] at HA
      have ha := HA.out
      obtain ⟨hn, q, cq, rfl, hns, hc, -⟩ := row_u ha
      have HSQ := Lib.hid (I64.Squeeze_any wr q cq (endsL L) hns (by have := HEL.out; omega) hc)
      clear ha hns hLi HA hc hn
      go_wp2_with (go_at_call 51; (with_reducible refine HSQ.out.mono ?_); rintro e w2 ⟨q2, c2, rfl, ho, -, hb⟩; have HO := Lib.hid ho; have HB2 := Lib.hid (HB.out.trans (hb.mono HB.out.size)); clear ho hb)
      go_ret
      refine ⟨_, _, rfl, ?_, HB2.out⟩
      rcases HO.out with ⟨h1, h2⟩ | ⟨g, h1, h2, h3⟩
      · exact .inl ⟨h1, h2⟩
      · exact .inr ⟨g, h1, Nat.le_trans HB.out.size h2, h3⟩
end Go.Proofs.Ytgcimicbbadapaa
