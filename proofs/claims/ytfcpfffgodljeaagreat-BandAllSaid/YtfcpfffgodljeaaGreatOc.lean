/-
  Points collected out of an iterator over a list (slices.Values, AppendSeq, Collect). No condition but those typed at each theorem.
-/
import Derived.Test.YtfcpfffgodljeaaGreatP3
import Derived.Test.YtfcpfffgodljeaaGreatOo
import Derived.RangeFuncNested
import Derived.RangeFuncBound
import Derived.RangeFuncCalls
import Derived.RangeFuncLeaves
import Derived.Shelf.RegionOpen
import Derived.OwnWalkIn
import Derived.TacticsInMore
import Derived.LoopNIn
import Derived.LoopIn
namespace Go.Proofs.YtfcpfffgodljeaaGreat.Ln
open Go.RowKit Go.Shelf
attribute [local go_sem] Oper.semAt_some

theorem info_point : (Tryz.prog.info? 34).map (fun i => (i.zero, i.size, i.bytes)) = some (some (.agg #[.int .i64 0, .int .i64 0, .int .u32 0]), 3, 24) := by kernel_rfl
theorem under_points : Tryz.prog.underlying 22 = some (.slice 34) := by kernel_rfl
/-- what lies in this block's cells lies so still -/
def KpB (B : Nat) (W W' : World) : Prop := ∀ i v, W.cell? ⟨B, i, none⟩ = some v → W'.cell? ⟨B, i, none⟩ = some v
theorem kpB_t {B : Nat} {X Y Z : World} (h : KpB B X Y) (k : KpB B Y Z) : KpB B X Z := fun i v e => k i v (h i v e)
theorem kpB_b {B : Nat} {N : Nat} (W : World) (l : Nat) (o o' : Obj) (_ : N ≤ l) (h : W.heap[l]? = some o) (hc : o.isCells = false) (_ : o.isWalk = false) : KpB B W (W.putObj l o') := fun _ _ e =>
  cell_kept e (grownBy_putObj' W l o') (fun r h2 => by cases h2; exact ⟨o, h, hc⟩)
theorem KpB.of {B N : Nat} {W W' : World} (h : Below N W W') (hB : B < N) : KpB B W W' := fun i _ e => (h.cell (p := ⟨B, i, none⟩) hB).trans e

set_option maxHeartbeats 1000000 in
theorem values_any (p : Option Addr) (n c : Nat) (w : World) : Calls Tryz.prog 70 #[.slice p n c] w fun e w' => e = .returned (.func (.func 100) #[] #[.pointer (some ⟨w.heap.size, 0, none⟩)]) ∧ w' = w.alloc (.cells #[.slice p n c] 22) := by
  have hmf : ∀ (fn : Fn) (first cap : Array Value) (w : World), (Instr.makeFunc fn first cap).run Tryz.prog w = .ok (.func fn first cap) w := fun _ _ _ _ => rfl
  go_enter Tryz.func70, Tryz.ntmps70
  go_wp2
  go_ret
  exact ⟨rfl, rfl⟩

set_option maxRecDepth 100000 in
set_option maxHeartbeats 2000000 in
theorem values_stops (m : Nat) (hm : 1 ≤ m) (bb off c B : Nat) (L : List S3) (w : World) (hB : B < w.heap.size) (hbb : bb < w.heap.size) (p : Option Addr) (hp : L ≠ [] → p = some ⟨bb, off, none⟩) (hbox : w.cell? ⟨B, 0, none⟩ = some (.slice p L.length c)) (hL : Ts w bb off L) (hl : L.length ≤ 8192) :
    SeqStopsK Fence.wide m Tryz.prog 100 #[.pointer (some ⟨B, 0, none⟩)] (fun x : S3 => #[tv x]) (KpB bb) (fun xs => xs = L) (fun pre => pre <+: L) L.length w := fun l J Jx W hW hJ _ hY h0 => by
  have c0 := (hW.cell (p := ⟨B, 0, none⟩) hB).trans hbox
  have hT : ∀ j s, L[j]? = some s → T1 W bb (off + j * 3) s := fun j s e => (hL j s e).keep hW hbb
  have HT := Lib.hid hT
  have HJ := Lib.hid hJ
  have HY := Lib.hid hY
  have H0 := Lib.hid h0
  obtain ⟨n, hn⟩ : ∃ n, n = L.length := ⟨_, rfl⟩
  have HN := Lib.hid hn
  rw [← hn] at c0 hl
  clear hT hL hbox hJ hY h0 hn
  refine callsIn_of_wp Tryz.func100 rfl trivial ?_ rfl
  simp only [Tryz.ntmps100, List.size_toArray, List.length_cons, List.length_nil, Nat.reduceAdd, Nat.reduceSub, Array.replicate_succ, Array.replicate_zero, List.push_toArray, List.append_toArray, List.nil_append, List.cons_append]
  gi_wp2
  gi_loopw [7] (fun i wr => ∃ k : Nat, k ≤ n ∧ i = .int .i64 k ∧ Hid (J (L.take k) wr) ∧ Hid (KpB bb W wr)) (fun i _ => n - (intOf i).toNat)
  case atStart => exact ⟨0, Nat.zero_le _, rfl, H0, Lib.hid (fun _ _ e => e)⟩
  case round =>
    obtain ⟨k, hk, rfl, HJk, HK⟩ := hrel
    by_cases hlt : k < n
    · have hltz : (k : Int) < n := by omega
      obtain ⟨s, hse⟩ : ∃ s, L[k]? = some s := ⟨_, List.getElem?_eq_getElem (by have := HN.out; omega)⟩
      obtain rfl := hp (fun h => by rw [h] at hse; simp at hse)
      have h1 := HT.out k s hse
      have n0 := HK.out _ _ h1.c0
      have n1 := HK.out _ _ h1.c1
      have n2 := HK.out _ _ h1.c2
      have HSE := Lib.hid hse
      obtain ⟨lo, hi, id⟩ := s
      simp only at n0 n1 n2
      have hJ2 : J (L.take k) (wr.alloc (.cells #[.int .i64 lo, .int .i64 hi, .int .u32 id] 34)) := HJ.out _ _ _ none HJk.out (World.grownBy_alloc wr _ none) (fun r e => by cases e)
      obtain ⟨fn, tm, asg, bo, hy, hY2⟩ := HY.out (L.take k) (lo, hi, id) _ hJ2 (by rw [List.length_take]; have := HN.out; omega)
      dsimp only [tv] at hy
      clear h1 hse hJ2
      gi_wp2
      refine hY2.mono ?_
      rintro e W3 (⟨rfl, hJ3, hk3⟩ | ⟨rfl, hx3⟩)
      · have HJ3 : Hid (J (L.take (k + 1)) W3) := Lib.hid (by rw [List.take_add_one, HSE.out]; exact hJ3)
        have HK3 : Hid (KpB bb W W3) := Lib.hid (fun i v e => hk3 i v (cell_al _ (HK.out i v e)))
        clear hJ3 hk3
        gi_wp2
        go_roundw
        case rel => exact ⟨k + 1, by omega, by go_num, HJ3, HK3⟩
        case measure => simp [intOf]; omega
      · have HX3 : Hid (Jx (L.take (k + 1)) W3) := Lib.hid (by rw [List.take_add_one, HSE.out]; exact hx3)
        clear hx3
        gi_wp2
        refine bodyPost_ret (results_none rfl _ _ _) rfl ?_
        exact ⟨⟨_, rfl⟩, .inr ⟨_, List.take_prefix _ _, HX3.out⟩⟩
    · have hltz : ¬ (k : Int) < n := by omega
      obtain rfl : k = n := by omega
      gi_wp2
      go_end0
      have h9 := HJk.out
      rw [HN.out, List.take_of_length_le (Nat.le_refl _)] at h9
      first | exact ⟨⟨_, rfl⟩, .inl ⟨L, rfl, h9⟩⟩ | exact ⟨⟨_, rfl⟩, .inl h9⟩ | exact .inl h9

theorem wpListIn_list {F : Fence} {k : Nat} {P : Program} {e : TypeId} {z : Value} {size bytes : Nat} (hi : (P.info? e).map (fun i => (i.zero, i.size, i.bytes)) = some (some z, size, bytes)) (hzs : z.cells.size = size) (hsz : 0 < size) (hby : bytes ≤ 64)
    {t : TypeId} (ht : P.underlying t = some (.slice e)) (w : World) {ops : Array Oper} {rest : List Oper} {o : Oper} {a : Act} {Q : Exit → Act → World → Prop} (hg : o.guard = none) (s x : Operand) (hop : o.op = Op.call { callee := Callee.builtin Builtin.append, args := #[s, x], argTypes := #[t, t] })
    (base : Nat) (v : Value) (n : Nat) (xs : List Value) (hs : a.eval s = v) (hown : w.ownsRow base e size v n xs) (p : Option Addr) (m c : Nat) (news : List Value) (hx : a.eval x = .slice p m c) (hl : news.length = m * size)
    (hsrc : Src w p m c news) (h1 : ∀ u ∈ news, u.oneCell' = true) (hn : n + m ≤ 100000) (hb : base ≤ w.heap.size)
    (hK : ∀ v' w', w'.ownsRow base e size v' (n + m) (xs ++ news) → w.grownBy w' v.ownBlock → wpListIn F k P ops Q rest (a.put o.dst v') w') :
    wpListIn F k P ops Q (o :: rest) a w := by
  refine wpListIn_plain hg fun K hK' => ?_
  obtain ⟨v', w', hrun, r1, r2, -⟩ := run_list hi hzs hsz hby ht o.type w base v n xs hown p m c news hl hsrc h1 hn hb
  unfold Oper.wpIn
  refine ⟨?_, ?_⟩
  · simp [Oper.about, hop, resolve, Target.leads, Sem.run_pure]
  · rw [Oper.semAt_plain F _ _ (by rw [hop]; intro c hc'; cases hc')]
    simp [execOp, hop, resolve, invoke, builtin, hs, hx, hrun, Result.andThen]
    exact hK' _ _ (hK v' w' r1 r2)
/-- so many have been put -/
structure ApI (w : World) (pre : List S3) (W : World) : Prop where
  box : ∃ v, Bx 22 W w.heap.size v ∧ W.ownsRow (w.heap.size + 1) 34 3 v pre.length (flatT pre)
  bel : Below w.heap.size w W
  sz : w.heap.size + 1 ≤ W.heap.size
theorem apI_own (w : World) : OwnFrom (w.heap.size + 1) (fun (pre : List S3) W => ApI w pre W) := by
  rintro pre X Y row ⟨⟨v, hv, hr⟩, hb, hs⟩ hg hrow
  have hrow' : ∀ r, row = some r → w.heap.size + 1 ≤ r ∧ ∃ o : Obj, X.heap[r]? = some o ∧ o.isCells = false := hrow
  refine ⟨⟨v, (hg.block _ (by omega) (fun e => by have := (hrow' _ e.symm).1; omega)).trans hv, ?_⟩, hb.grown hg hb.size (fun k e => by have := (hrow' k e).1; omega), Nat.le_trans hs hg.size⟩
  refine hr.kept hg ?_
  rcases hr.2 with ⟨rfl, _⟩ | ⟨g, cap, cur, rfl, _, hgb, _⟩
  · exact .inl rfl
  · refine .inr fun e' => ?_
    obtain ⟨_, o, ho, hc⟩ := hrow' g (by simpa [Value.ownBlock] using e'.symm)
    rw [hgb] at ho
    cases ho
    cases hc
set_option maxRecDepth 100000 in
set_option maxHeartbeats 4000000 in
theorem append_any (bb off c B : Nat) (L : List S3) (w : World) (hB : B < w.heap.size) (hbb : bb < w.heap.size) (p : Option Addr) (hp : L ≠ [] → p = some ⟨bb, off, none⟩) (hbox : w.cell? ⟨B, 0, none⟩ = some (.slice p L.length c)) (hL : Ts w bb off L) (hl : L.length ≤ 8192) :
    Calls Tryz.prog 128 #[.slice none 0 0, .func (.func 100) #[] #[.pointer (some ⟨B, 0, none⟩)]] w fun e w' => ∃ v, e = .returned v ∧ w'.ownsRow w.heap.size 34 3 v L.length (flatT L) ∧ Below w.heap.size w w' := by
  obtain ⟨W0, hW0⟩ : ∃ W0, w.alloc (.cells #[.slice none 0 0] 22) = W0 := ⟨_, rfl⟩
  have hsz : W0.heap.size = w.heap.size + 1 := by rw [← hW0]; simp
  have hb0 : Below w.heap.size w W0 := by rw [← hW0]; exact (Below.refl _ w).alloc (Nat.le_refl _) _
  have hA0 : ApI w [] W0 := ⟨⟨.slice none 0 0, by rw [← hW0]; exact Bx.new w (.slice none 0 0) 22, World.ownsRow_nil ..⟩, hb0, by omega⟩
  have HSS := Lib.hid (values_stops 8 (by omega) bb off c B L W0 (by omega) (by omega) p hp ((hb0.cell (p := ⟨B, 0, none⟩) hB).trans hbox) (fun j s e => (hL j s e).keep hb0 hbb) hl)
  refine (callsIn_wide (n := 9)).1 ?_
  refine callsIn_of_wp_marks Tryz.func128 rfl trivial ?_ rfl
  simp only [Tryz.ntmps128, List.size_toArray, List.length_cons, List.length_nil, Nat.reduceAdd, Nat.reduceSub, Array.replicate_succ, Array.replicate_zero, List.push_toArray, List.append_toArray, List.nil_append, List.cons_append]
  gi_wp2
  clear hW0 hL hbox
  refine wpIn_rangeFunc_ownH rfl (by omega) (gf := 100) (lb := #[.pointer (some ⟨B, 0, none⟩)]) rfl trivial (enters_of Tryz.func100 (by kernel_rfl) rfl)
    HSS.out kpB_t kpB_b (Below.refl _ _) (fun _ => rfl)
    (fun pre W => ApI w pre W)
    (fun _ _ _ => False)
    (by rw [hsz]; exact apI_own w)
    (fun _ _ _ _ _ hs _ _ => hs)
    hA0
    (fun x a' W => ∃ Bv, w.heap.size < Bv ∧ T1 W Bv 0 x ∧ a' = { tmps := #[.slice none 0 0, .func (.func 100) #[] #[.pointer (some ⟨B, 0, none⟩)], .pointer (some ⟨w.heap.size, 0, none⟩), undef, .slice none 0 0, .pointer (some ⟨Bv, 0, none⟩), .func (.func 100) #[] #[.pointer (some ⟨B, 0, none⟩)], tv x, undef, undef, undef, undef, undef], defers := [] })
    ?hax ?assign ?body ?done ?stop
  case hax =>
    rintro x a' - X Y row ⟨Bv, h1, h2, h3⟩ hg hrow
    refine ⟨Bv, h1, ⟨cell_kept h2.c0 hg (fun r e => (hrow r e).2), cell_kept h2.c1 hg (fun r e => (hrow r e).2), cell_kept h2.c2 hg (fun r e => (hrow r e).2)⟩, h3⟩
  case assign =>
    rintro l pre ⟨lo, hi, id⟩ W K hi' hK
    have hw1 : w.heap.size < W.heap.size := by have := hi'.sz; omega
    have hA1 : ApI w pre (W.alloc (.cells #[.int .i64 lo, .int .i64 hi, .int .u32 id] 34)) := apI_own w pre _ _ none hi' (World.grownBy_alloc W _ none) (fun r e => by cases e)
    have hT := T1.new W (lo, hi, id) 34
    have HK := Lib.hid (hK _ _ ((KeepsOthers.alloc _ _).from _) (fun i v e => cell_al _ e) hA1 ⟨W.heap.size, hw1, hT, rfl⟩)
    clear hA1 hT hK hi'
    dsimp only [tv]
    gi_wp2
    exact HK.out
  case body =>
    rintro l pre ⟨lo, hi, id⟩ a' W hl' ⟨r, hr⟩ hA ⟨Bv, hBv, hT, rfl⟩ hlt
    obtain ⟨v, hv, hrow⟩ := hA.box
    have b0 := hv.cell
    have t0 := hT.c0
    have t1 := hT.c1
    have t2 := hT.c2
    have HV := Lib.hid hv
    have HR := Lib.hid hrow
    have HA := Lib.hid hA
    have hsW := hA.sz
    have HLE := Lib.hid (hlt : pre.length < L.length)
    obtain ⟨m, hm⟩ : ∃ m, m = pre.length := ⟨_, rfl⟩
    have HM := Lib.hid hm
    have hml : m < 8192 := by have : pre.length < L.length := hlt; omega
    have HSRC := Lib.hid (TsS.src (c := 1) (ns := [(lo, hi, id)]) (w := W.alloc (.cells #[.int .i64 lo, .int .i64 hi, .int .u32 id] 34)) (p := some ⟨W.heap.size, 0, none⟩) (.inr ⟨W.heap.size, 0, rfl, fun j s e => by
      cases j with
      | zero => simp at e; subst e; exact T1.new W (lo, hi, id) 34
      | succ j => simp at e⟩) (fun h => by cases h))
    rw [← hm] at HR
    clear hv hrow hA hT hr hlt hm
    gi_wp2_with (gi_at_builtin; refine wpListIn_list info_point rfl (by decide) (by decide) under_points _ rfl (.tmp 8) (.tmp 10) rfl (w.heap.size + 1) v m _ rfl (HR.out.alloc _) (some ⟨W.heap.size, 0, none⟩) 1 1 (flatT [(lo, hi, id)]) rfl rfl HSRC.out (flatT_one _) (by omega) (by simp; omega) ?_; intro v' w1 h1 h2; have h3 : w1.ownsRow (w.heap.size + 1) 34 3 v' (m + 1) (flatT (pre ++ [(lo, hi, id)])) := (by rw [flatT_append]; exact h1); obtain ⟨-, q, cq, rfl, -⟩ := row_ts h3; have hne : ∀ k, v.ownBlock = some k → w.heap.size + 1 ≤ k := own_geB HR.out; have hv1 : Bx 22 w1 w.heap.size v := ((h2.block w.heap.size (by simp; omega) (fun e => by have := hne _ e.symm; omega)).trans (HV.out.all _)); have c1 := hv1.cell; have c2 := hv1.free; have H2 := Lib.hid h2; have H3 := Lib.hid h3; have HV1 := Lib.hid hv1; have HNE := Lib.hid hne; clear h1 h2 h3 hv1 hne b0)
    have hbW : Below w.heap.size W w1 := ((Below.refl w.heap.size W).alloc (by omega) _).grown H2.out (by simp; omega) (fun k e => by have := HNE.out k e; omega)
    refine ⟨?_, KpB.of (hbW.setCell (p := ⟨w.heap.size, 0, none⟩) (Nat.le_refl _) _) hbb, ⟨⟨_, HV1.out.set _, ?_⟩, (HA.out.bel.trans hbW).setCell (p := ⟨w.heap.size, 0, none⟩) (Nat.le_refl _) _, ?_⟩⟩
    · exact (((KeepsOthers.alloc W _).trans (KeepsOthers.of_grownBy H2.out (fun j o e ho => by
        obtain ⟨cur, hc⟩ := row_type (HR.out.alloc _) e
        rw [hc] at ho
        cases ho
        rfl))).trans (KeepsOthers.setCell _ _ _)).from _
    · have := row_off (S := [w.heap.size]) H3.out ((Off.refl [w.heap.size] w1).set ⟨w.heap.size, 0, none⟩ (.slice q (m + 1) cq) (.inl (by simp))) (fun k hk => by simp at hk; omega)
      rw [List.length_append, List.length_singleton, ← HM.out]
      exact this
    · have := hbW.size
      have h5 := H2.out.size
      simp at h5 ⊢
      omega
  case done =>
    rintro D ys W hD rfl hA hK
    obtain ⟨v, hv, hrow⟩ := hA.box
    have b0 := hv.cell
    have HR := Lib.hid hrow
    have HB := Lib.hid hA.bel
    clear hv hrow hA
    gi_wp2
    refine ⟨by simp, .inl ⟨_, _, rfl, run_takeDeferred hK, ?_⟩⟩
    refine ⟨_, results_tmp rfl _ _ _, v, rfl, ?_, ?_⟩
    · have h1 := HR.out.kept (grownBy_putObj' W D (.deferred none)) (by
        rcases HR.out.2 with ⟨rfl, _⟩ | ⟨g, cap, cur, rfl, _, hgb, _⟩
        · exact .inl rfl
        · refine .inr fun e' => ?_
          have e2 : D = g := by simp [Value.ownBlock] at e'; exact e'.symm
          rw [e2, hgb] at hK
          cases hK)
      exact row_at h1 (fun k hk => ⟨rfl, by have := own_geB h1 k hk; omega⟩)
    · exact HB.out.grown (grownBy_putObj' W D (.deferred none)) HB.out.size (fun k e => by cases e; omega)
  case stop =>
    rintro D c pre W _ _ h _
    exact h.elim
/-- an iterator over a list, collected -/
theorem collect_any (bb off c B : Nat) (L : List S3) (w : World) (hB : B < w.heap.size) (hbb : bb < w.heap.size) (p : Option Addr) (hp : L ≠ [] → p = some ⟨bb, off, none⟩) (hbox : w.cell? ⟨B, 0, none⟩ = some (.slice p L.length c)) (hL : Ts w bb off L) (hl : L.length ≤ 8192) :
    Calls Tryz.prog 98 #[.func (.func 100) #[] #[.pointer (some ⟨B, 0, none⟩)]] w fun e w' => ∃ v, e = .returned v ∧ w'.ownsRow w.heap.size 34 3 v L.length (flatT L) ∧ Below w.heap.size w w' := by
  have HC := Lib.hid (append_any bb off c B L w hB hbb p hp hbox hL hl)
  clear hbox hL hl
  go_enter Tryz.func98, Tryz.ntmps98
  go_wp2_with (go_at_call 128; (refine HC.out.mono ?_); rintro e w' ⟨v, rfl, hr, hb⟩; have HR := Lib.hid hr; have HB := Lib.hid hb; clear hr hb)
  go_ret
  exact ⟨v, rfl, HR.out, HB.out⟩
end Go.Proofs.YtfcpfffgodljeaaGreat.Ln
