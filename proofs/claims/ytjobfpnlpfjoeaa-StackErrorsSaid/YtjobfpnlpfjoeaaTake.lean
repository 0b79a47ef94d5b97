/-
  pool.kids handing out kids alone; pool.take; one thing put behind a row, and where it lies then. No condition but those typed at each theorem.
-/
import Derived.Test.YtjobfpnlpfjoeaaHas
namespace Go.Proofs.Ytjobfpnlpfjoeaa
open Go.RowKit Go.Shelf
attribute [local go_sem] Oper.semAt_some

set_option maxRecDepth 100000 in
set_option maxHeartbeats 2000000 in
theorem kids_stopsM (m : Nat) (hm : 1 ≤ m) (n : Nd) (B : Nat) (w : World) (hB : B < w.heap.size) (hc : N1 w B 0 n) :
    SeqStopsK Fence.wide m Try.prog 41 #[.pointer (some ⟨B, 0, none⟩)] (fun x : { x : Int // x ∈ ksL n } => #[Value.int .i64 x.1]) (KpB B) (fun xs => xs.map (·.1) = ksL n) (fun pre => pre.map (·.1) <+: ksL n) 2 w := fun l J Jx W hW _ _ hY h0 => by
  have hc' := hc.keep hW hB
  have k1 := hc'.c1
  have k2 := hc'.c2
  obtain ⟨k, L, R, f, t, a, q⟩ := n
  simp only [Nat.zero_add] at k1 k2
  clear hc hc'
  refine callsIn_of_wp Try.func41 rfl trivial ?_ rfl
  simp only [Try.ntmps41, List.size_toArray, List.length_cons, List.length_nil, Nat.reduceAdd, Nat.reduceSub, Array.replicate_succ, Array.replicate_zero, List.push_toArray, List.append_toArray, List.nil_append, List.cons_append]
  by_cases hL : L = -1
  · subst hL
    by_cases hR : R = -1
    · subst hR
      gi_wp2
      refine ⟨fun _ h => (by cases h), ?_⟩
      gi_wp2
      go_end0
      exact ⟨⟨_, rfl⟩, .inl ⟨[], by simp [ksL, nl, nr], h0⟩⟩
    · obtain ⟨fn, tm, asg, bo, hy, hY2⟩ := hY [] ⟨R, by simp [ksL, nl, nr, hR]⟩ W h0 (by simp)
      dsimp only at hy
      gi_wp2
      refine ⟨fun _ h => (by cases h), ?_⟩
      gi_wp2
      refine hY2.mono ?_
      rintro e W1 (⟨rfl, hJ1, -⟩ | ⟨rfl, hx1⟩)
      · gi_wp2
        go_end0
        exact ⟨⟨_, rfl⟩, .inl ⟨[⟨R, by simp [ksL, nl, nr, hR]⟩], by simp [ksL, nl, nr, hR], hJ1⟩⟩
      · gi_wp2
        go_end0
        exact ⟨⟨_, rfl⟩, .inr ⟨[⟨R, by simp [ksL, nl, nr, hR]⟩], by simp [ksL, nl, nr, hR], hx1⟩⟩
  · obtain ⟨fn, tm, asg, bo, hy, hY2⟩ := hY [] ⟨L, by simp [ksL, nl, nr, hL]⟩ W h0 (by simp)
    dsimp only at hy
    by_cases hR : R = -1
    · subst hR
      gi_wp2
      refine hY2.mono ?_
      rintro e W1 (⟨rfl, hJ1, hk⟩ | ⟨rfl, hx1⟩)
      · have k3 := hk _ _ k2
        gi_wp2
        go_end0
        exact ⟨⟨_, rfl⟩, .inl ⟨[⟨L, by simp [ksL, nl, nr, hL]⟩], by simp [ksL, nl, nr, hL], hJ1⟩⟩
      · gi_wp2
        refine bodyPost_ret (results_none rfl _ _ _) rfl ?_
        exact ⟨⟨_, rfl⟩, .inr ⟨[⟨L, by simp [ksL, nl, nr, hL]⟩], by simp [ksL, nl, nr, hL], hx1⟩⟩
    · gi_wp2
      refine hY2.mono ?_
      rintro e W1 (⟨rfl, hJ1, hk⟩ | ⟨rfl, hx1⟩)
      · have k3 := hk _ _ k2
        obtain ⟨fn', tm', asg', bo', hy', hY2'⟩ := hY [⟨L, by simp [ksL, nl, nr, hL]⟩] ⟨R, by simp [ksL, nl, nr, hR]⟩ W1 hJ1 (by simp)
        gi_wp2
        refine hY2'.mono ?_
        rintro e W2 (⟨rfl, hJ2, -⟩ | ⟨rfl, hx2⟩)
        · gi_wp2
          go_end0
          exact ⟨⟨_, rfl⟩, .inl ⟨[⟨L, by simp [ksL, nl, nr, hL]⟩, ⟨R, by simp [ksL, nl, nr, hR]⟩], by simp [ksL, nl, nr, hL, hR], hJ2⟩⟩
        · gi_wp2
          go_end0
          exact ⟨⟨_, rfl⟩, .inr ⟨[⟨L, by simp [ksL, nl, nr, hL]⟩, ⟨R, by simp [ksL, nl, nr, hR]⟩], by simp [ksL, nl, nr, hL, hR], hx2⟩⟩
      · gi_wp2
        refine bodyPost_ret (results_none rfl _ _ _) rfl ?_
        exact ⟨⟨_, rfl⟩, .inr ⟨[⟨L, by simp [ksL, nl, nr, hL]⟩], by simp [ksL, nl, nr, hL, hR], hx1⟩⟩

theorem Try.info4 : (Try.prog.info? 4).map (fun i => (i.zero, i.size, i.bytes)) = some (some (.bool false), 1, 1) := by kernel_rfl
theorem Try.info36 : (Try.prog.info? 36).map (fun i => (i.zero, i.size, i.bytes)) = some (some (nv (0, 0, 0, 0, 0, 0, 0)), 7, 56) := by kernel_rfl
/-- things put behind a row of one's own: what is handed back, where it lies -/
theorem run_more {P : Program} {e : TypeId} {z : Value} {size bytes : Nat} (hi : (P.info? e).map (fun i => (i.zero, i.size, i.bytes)) = some (some z, size, bytes)) (hzs : z.cells.size = size) (hsz : 0 < size) (hby : bytes ≤ 64)
    {t : TypeId} (ht : P.underlying t = some (.slice e)) (ty : TypeId) (w : World) (v : Value) (n : Nat) (xs : List Value) (hown : w.ownsRow 0 e size v n xs) (a : Addr) (m c : Nat) (news : List Value) (hl : news.length = m * size)
    (hnews : ∀ j u, news[j]? = some u → w.cell? (a.add j) = some u) (h1 : ∀ u ∈ news, u.oneCell' = true) (hn : n + m ≤ 100000) (hm : 0 < m) :
    ∃ g cap w', (Builtin.append_ #[t, t] ty #[v, .slice (some a) m c]).run P w = .ok (.slice (some ⟨g, 0, none⟩) (n + m) cap) w' ∧ w'.ownsRow 0 e size (.slice (some ⟨g, 0, none⟩) (n + m) cap) (n + m) (xs ++ news) ∧ w.grownBy w' v.ownBlock ∧ (v.ownBlock = some g ∨ g = w.heap.size) := by
  obtain ⟨i0, hi0, hz0, hz1, hz2⟩ := info_parts hi
  have hmx : maxLen = 9223372036854775807 := rfl
  have hb : (n + m) * bytes ≤ 100000 * 64 := Nat.mul_le_mul hn hby
  obtain ⟨v', w', hr, h2, h3, -⟩ := run_append_own (P := P) w 0 t ty e i0 z size bytes ht hi0 hz0 hz1 hz2 hzs hsz v n xs hown a m c news hl hnews h1 (by omega) (by omega) (Nat.zero_le _)
  have hblk := append_block (P := P) ht hi0 hz0 hz1 hz2 hown hl hnews h1 (by omega) (by omega) hm hr
  rcases h2.2 with ⟨rfl, h4⟩ | ⟨g, cap, cur, rfl, _⟩
  · omega
  · exact ⟨g, cap, w', hr, h2, h3, hblk g rfl⟩
theorem wpListIn_more {F : Fence} {k : Nat} {P : Program} {e : TypeId} {z : Value} {size bytes : Nat} (hi : (P.info? e).map (fun i => (i.zero, i.size, i.bytes)) = some (some z, size, bytes)) (hzs : z.cells.size = size) (hsz : 0 < size) (hby : bytes ≤ 64)
    {t : TypeId} (ht : P.underlying t = some (.slice e)) (w : World) {ops : Array Oper} {rest : List Oper} {o : Oper} {a : Act} {Q : Exit → Act → World → Prop} (hg : o.guard = none) (s x : Operand) (hop : o.op = Op.call { callee := Callee.builtin Builtin.append, args := #[s, x], argTypes := #[t, t] })
    (v : Value) (n : Nat) (xs : List Value) (hs : a.eval s = v) (hown : w.ownsRow 0 e size v n xs) (ad : Addr) (m c : Nat) (news : List Value) (hx : a.eval x = .slice (some ad) m c) (hl : news.length = m * size)
    (hnews : ∀ j u, news[j]? = some u → w.cell? (ad.add j) = some u) (h1 : ∀ u ∈ news, u.oneCell' = true) (hn : n + m ≤ 100000) (hm : 0 < m)
    (hK : ∀ g cap w', w'.ownsRow 0 e size (.slice (some ⟨g, 0, none⟩) (n + m) cap) (n + m) (xs ++ news) → w.grownBy w' v.ownBlock → (v.ownBlock = some g ∨ g = w.heap.size) → wpListIn F k P ops Q rest (a.put o.dst (.slice (some ⟨g, 0, none⟩) (n + m) cap)) w') :
    wpListIn F k P ops Q (o :: rest) a w := by
  refine wpListIn_plain hg fun K hK' => ?_
  obtain ⟨g, cap, w', hrun, r1, r2, r3⟩ := run_more hi hzs hsz hby ht o.type w v n xs hown ad m c news hl hnews h1 hn hm
  unfold Oper.wpIn
  refine ⟨?_, ?_⟩
  · simp [Oper.about, hop, resolve, Target.leads, Sem.run_pure]
  · rw [Oper.semAt_plain F _ _ (by rw [hop]; intro c hc'; cases hc')]
    simp [execOp, hop, resolve, invoke, builtin, hs, hx, hrun, Result.andThen]
    exact hK' _ _ (hK g cap w' r1 r2 r3)
theorem wpList_more {P : Program} {e : TypeId} {z : Value} {size bytes : Nat} (hi : (P.info? e).map (fun i => (i.zero, i.size, i.bytes)) = some (some z, size, bytes)) (hzs : z.cells.size = size) (hsz : 0 < size) (hby : bytes ≤ 64)
    {t : TypeId} (ht : P.underlying t = some (.slice e)) (w : World) {ops : Array Oper} {rest : List Oper} {o : Oper} {a : Act} {Q : Exit → Act → World → Prop} (hg : o.guard = none) (s x : Operand) (hop : o.op = Op.call { callee := Callee.builtin Builtin.append, args := #[s, x], argTypes := #[t, t] })
    (v : Value) (n : Nat) (xs : List Value) (hs : a.eval s = v) (hown : w.ownsRow 0 e size v n xs) (ad : Addr) (m c : Nat) (news : List Value) (hx : a.eval x = .slice (some ad) m c) (hl : news.length = m * size)
    (hnews : ∀ j u, news[j]? = some u → w.cell? (ad.add j) = some u) (h1 : ∀ u ∈ news, u.oneCell' = true) (hn : n + m ≤ 100000) (hm : 0 < m)
    (hK : ∀ g cap w', w'.ownsRow 0 e size (.slice (some ⟨g, 0, none⟩) (n + m) cap) (n + m) (xs ++ news) → w.grownBy w' v.ownBlock → (v.ownBlock = some g ∨ g = w.heap.size) → wpList P ops Q rest (a.put o.dst (.slice (some ⟨g, 0, none⟩) (n + m) cap)) w') :
    wpList P ops Q (o :: rest) a w :=
  wpList_plain hg fun K hK' => by
    obtain ⟨g, cap, w', hr, r1, r2, r3⟩ := run_more hi hzs hsz hby ht o.type w v n xs hown ad m c news hl hnews h1 hn hm
    unfold Oper.wp execOp
    simp only [hop, resolve, invoke, builtin, Sem.run_bind, Sem.run_pure, Result.andThen_ok, List.map_toArray, List.map_cons, List.map_nil, hs, hx, hr]
    exact hK' _ _ (hK g cap w' r1 r2 r3)
theorem one_at (W : World) (v : Value) (t : TypeId) : ∀ j u, [v][j]? = some u → (W.alloc (.cells #[v] t)).cell? ((⟨W.heap.size, 0, none⟩ : Addr).add j) = some u := by
  intro j u hu
  cases j with
  | zero => simp at hu; subst hu; rw [Addr.add_zero']; exact (one_new W v t).1
  | succ j => simp at hu

/-- a cell of a row of one's own written -/
theorem row_set {w : World} {base n : Nat} {e : TypeId} {g c j : Nat} {xs : List Value} (h : w.ownsRow base e 1 (.slice (some ⟨g, 0, none⟩) n c) n xs) (u : Value) : (w.setCell ⟨g, j, none⟩ u).ownsRow base e 1 (.slice (some ⟨g, 0, none⟩) n c) n (xs.set j u) := by
  obtain ⟨h1, h2⟩ := h
  rcases h2 with ⟨h2, _⟩ | ⟨g', cap, cur, hv, hb, hg, hnc, hcm, hcs, htk⟩
  · cases h2
  · cases hv
    refine ⟨by simpa using h1, .inr ⟨g, c, cur.setIfInBounds j u, rfl, hb, heap_setCell_same _ _ _ _ _ _ hg, hnc, hcm, by simpa using hcs, ?_⟩⟩
    rw [Array.toList_setIfInBounds, List.take_set, htk]
theorem row_cells {w : World} {base n : Nat} {e : TypeId} {g c : Nat} {xs : List Value} (h : w.ownsRow base e 1 (.slice (some ⟨g, 0, none⟩) n c) n xs) {j : Nat} {u : Value} (hj : xs[j]? = some u) : w.cell? ⟨g, j, none⟩ = some u ∧ w.frozen? ⟨g, j, none⟩ = false := by
  obtain ⟨h1, h2⟩ := h
  rcases h2 with ⟨h2, _⟩ | ⟨g', cap, cur, hv, hb, hg, hnc, hcm, hcs, htk⟩
  · cases h2
  · cases hv
    have hl := (List.getElem?_eq_some_iff.1 hj).1
    refine ⟨?_, by simp [World.frozen?, hg]⟩
    rw [← htk, List.getElem?_take] at hj
    split at hj
    · simp [World.cell?, hg]
      simpa using hj
    · cases hj
theorem ownFrom_row {β : Type} (B base n : Nat) (e : TypeId) (size : Nat) (v : Value) (f : β → List Value) : OwnFrom B (fun s W => W.ownsRow base e size v n (f s)) := by
  rintro s X Y row hr hg hrow
  refine hr.kept hg ?_
  rcases hr.2 with ⟨rfl, _⟩ | ⟨g, cap, cur, rfl, _, hgb, _⟩
  · exact .inl rfl
  · refine .inr fun e' => ?_
    obtain ⟨_, o, ho, hc⟩ := hrow g (by simpa [Value.ownBlock] using e'.symm)
    rw [hgb] at ho
    cases ho
    cases hc
theorem ownFrom_off {β : Type} {S : List Nat} {B : Nat} {w₀ : World} (hB : w₀.heap.size ≤ B) : OwnFrom B (fun (_ : β) W => Off S w₀ W) :=
  fun _ _ _ _ hs hg hr => ⟨hg.os.trans hs.os, hg.tape.trans hs.tape, hg.output.trans hs.output, Nat.le_trans hs.size hg.size, fun k hk hS => (hg.block k (Nat.lt_of_lt_of_le hk hs.size) (fun e => by have := (hr k e.symm).1; omega)).trans (hs.block k hk hS)⟩
theorem ownFrom_cell {β : Type} {B : Nat} {a : Addr} {v : Value} : OwnFrom B (fun (_ : β) W => W.cell? a = some v) := fun _ _ _ _ hs hg hr => cell_kept hs hg (fun r e => (hr r e).2)
theorem Off.grow {S : List Nat} {w X w' : World} {o : Option Nat} (h : Off S w X) (g : X.grownBy w' o) (ho : ∀ k, o = some k → k ∈ S ∨ w.heap.size ≤ k) : Off S w w' :=
  ⟨g.os.trans h.os, g.tape.trans h.tape, g.output.trans h.output, Nat.le_trans h.size g.size, fun k hk hS => (g.block k (Nat.lt_of_lt_of_le hk h.size) (fun e => by rcases ho k e.symm with h1 | h1; exact hS h1; omega)).trans (h.block k hk hS)⟩
theorem Off.put {S : List Nat} {w W : World} {D : Nat} (h : Off S w W) (o : Obj) (hD : w.heap.size ≤ D) : Off S w (W.putObj D o) :=
  h.grow (grownBy_putObj' W D o) (fun k e => by cases e; exact .inr hD)

set_option maxRecDepth 100000 in
set_option maxHeartbeats 4000000 in
theorem take_any (n : Nd) (w : World) (v : Value) (T : List Bool) (hown : w.ownsRow 0 4 1 v T.length (T.map Value.bool)) (hks : ∀ x ∈ ksL n, 0 ≤ x ∧ x < T.length) (hT : T.length ≤ 8192) :
    Calls Try.prog 32 #[nv n, v] w fun e w' => ∃ g cap, e = .returned (.slice (some ⟨g, 0, none⟩) (T.length + 1) cap) ∧ w'.ownsRow 0 4 1 (.slice (some ⟨g, 0, none⟩) (T.length + 1) cap) (T.length + 1) ((takeT n T).map Value.bool) ∧ Off v.ownBlock.toList w w' ∧ (v.ownBlock = some g ∨ w.heap.size ≤ g) := by
  have HV : Hid (∀ k, v.ownBlock = some k → k < w.heap.size) := Lib.hid fun k hk => (hown.lt k hk).2
  have HO := Lib.hid hown
  obtain ⟨m, hm⟩ : ∃ m, m = T.length := ⟨_, rfl⟩
  have HM := Lib.hid hm
  have HKS := Lib.hid hks
  rw [← hm] at HO HKS hT
  rw [← hm]
  obtain ⟨p, cap0, hv⟩ : ∃ p c, v = .slice p m c := by
    rcases hown.2 with ⟨rfl, h⟩ | ⟨g, cap, cur, rfl, _⟩
    · exact ⟨none, 0, by rw [hm, h]⟩
    · exact ⟨some ⟨g, 0, none⟩, cap, by rw [hm]⟩
  clear hown hm hks
  obtain ⟨n0, hn0⟩ : ∃ n0, n0 = n := ⟨_, rfl⟩
  have HK := Lib.hid (fun X => kids_any n0 X)
  have HS := Lib.hid (kids_stopsM 8 (by omega) n0)
  rw [hn0] at HK HS
  clear hn0
  obtain ⟨k, L, R, f, t, a, q⟩ := n
  obtain ⟨out, hout⟩ : ∃ out, out = (takeT (k, L, R, f, t, a, q) T).map Value.bool := ⟨_, rfl⟩
  have HOUT := Lib.hid hout
  rw [← hout]
  clear hout
  unfold nv nvs at *
  refine (callsIn_wide (n := 9)).1 ?_
  refine callsIn_of_wp_marks Try.func32 rfl trivial ?_ rfl
  subst hv
  simp only [Try.ntmps32, List.size_toArray, List.length_cons, List.length_nil, Nat.reduceAdd, Nat.reduceSub, Array.replicate_succ, Array.replicate_zero, List.push_toArray, List.append_toArray, List.nil_append, List.cons_append]
  gi_wp2_with (refine ⟨trivial, ?_⟩; gi_at_call 39; refine (callsIn_wide.2 (HK.out _)).mono ?_; rintro e w' ⟨rfl, rfl⟩)
  obtain ⟨W0, hW0⟩ : ∃ W0, (((w.alloc (.cells #[.int .u8 k, .int .i64 L, .int .i64 R, .int .i64 f, .int .i64 t, .int .i64 a, .int .i64 q] 36)).alloc (.cells #[.slice p m cap0] 44)).alloc (.cells #[.int .u8 k, .int .i64 L, .int .i64 R, .int .i64 f, .int .i64 t, .int .i64 a, .int .i64 q] 36)) = W0 := ⟨_, rfl⟩
  have hsz : W0.heap.size = w.heap.size + 3 := by rw [← hW0]; simp
  have hO0 : ∀ S, Off S w W0 := fun S => by rw [← hW0]; exact (((Off.refl S w).all _).all _).all _
  have hN : N1 W0 (w.heap.size + 1 + 1) 0 (k, L, R, f, t, a, q) := by
    rw [← hW0]
    have := N1.new ((w.alloc (.cells #[.int .u8 k, .int .i64 L, .int .i64 R, .int .i64 f, .int .i64 t, .int .i64 a, .int .i64 q] 36)).alloc (.cells #[.slice p m cap0] 44)) (k, L, R, f, t, a, q) 36
    simpa [nvs] using this
  have c1 : W0.cell? ⟨w.heap.size + 1, 0, none⟩ = some (.slice p m cap0) := by
    have := (one_new (w.alloc (.cells #[.int .u8 k, .int .i64 L, .int .i64 R, .int .i64 f, .int .i64 t, .int .i64 a, .int .i64 q] 36)) (.slice p m cap0) 44).1
    rw [World.size_alloc] at this
    rw [← hW0]
    exact cell_al _ this
  have hR0 : W0.ownsRow 0 4 1 (.slice p m cap0) m (T.map Value.bool) := by rw [← hW0]; exact ((HO.out.alloc _).alloc _).alloc _
  rw [hW0]
  clear hW0 HK
  have HSS := HS.out (w.heap.size + 1 + 1) W0 (by omega) hN
  clear HS hN
  refine wpIn_rangeFunc_ownF rfl (by omega) (gf := 41) (lb := #[.pointer (some ⟨w.heap.size + 1 + 1, 0, none⟩)]) rfl trivial (enters_of Try.func41 (by kernel_rfl) rfl)
    HSS kpB_t kpB_b (Below.refl _ _) (fun _ => rfl)
    (fun pre W => Hid (W.ownsRow 0 4 1 (.slice p m cap0) m ((setT T (pre.map (·.1))).map Value.bool)) ∧ W.cell? ⟨w.heap.size + 1, 0, none⟩ = some (.slice p m cap0) ∧ Hid (Off (Value.slice p m cap0).ownBlock.toList w W))
    (fun _ _ _ => False)
    (OwnFrom.and (fun s X Y row h1 h2 h3 => Lib.hid (ownFrom_row W0.heap.size 0 m 4 1 (.slice p m cap0) (fun (pre : List { x : Int // x ∈ ksL (k, L, R, f, t, a, q) }) => ((setT T (pre.map (·.1))).map Value.bool)) s X Y row h1.out h2 h3)) (OwnFrom.and ownFrom_cell (fun s X Y row h1 h2 h3 => Lib.hid (ownFrom_off (by omega) s X Y row h1.out h2 h3))))
    (fun _ _ _ _ _ hs _ _ => hs)
    ⟨Lib.hid hR0, c1, Lib.hid (hO0 _)⟩
    (fun x => { tmps := #[.agg #[.int .u8 k, .int .i64 L, .int .i64 R, .int .i64 f, .int .i64 t, .int .i64 a, .int .i64 q], .slice p m cap0, .pointer (some ⟨w.heap.size, 0, none⟩), .pointer (some ⟨w.heap.size + 1, 0, none⟩), .slice none 0 0, .int .i64 x.1, .agg #[.int .u8 k, .int .i64 L, .int .i64 R, .int .i64 f, .int .i64 t, .int .i64 a, .int .i64 q], .func (.func 41) #[] #[.pointer (some ⟨w.heap.size + 1 + 1, 0, none⟩)], .int .i64 x.1, undef, undef, undef, undef, undef, undef], defers := [] }) ?assign ?body ?done ?stop
  case assign =>
    intro l x W K hK
    gi_wp2
    exact hK
  case body =>
    rintro l pre ⟨x, hx⟩ W ⟨HR, hc, HF⟩ _
    obtain ⟨hx0, hxm⟩ := HKS.out x hx
    obtain ⟨j, rfl⟩ : ∃ j : Nat, x = j := ⟨x.toNat, by omega⟩
    have hjz : (j : Int) < m := hxm
    have hlen : (setT T (pre.map (·.1))).length = m := by rw [setT_len, ← HM.out]
    obtain ⟨y, hy⟩ : ∃ y, (setT T (pre.map (·.1)))[j]? = some y := ⟨_, List.getElem?_eq_getElem (by omega)⟩
    have hy2 : ((setT T (pre.map (·.1))).map Value.bool)[j]? = some (.bool y) := by rw [List.getElem?_map, hy]; rfl
    obtain ⟨g, rfl⟩ : ∃ g, p = some ⟨g, 0, none⟩ := by
      rcases HR.out.2 with ⟨h, h2⟩ | ⟨g, cap, cur, h, _⟩
      · omega
      · injection h with h _ _
        exact ⟨g, h⟩
    obtain ⟨hcj, hfj⟩ := row_cells HR.out hy2
    have hgl := HV.out g rfl
    have h1 := row_set HR.out (j := j) (.bool true)
    rw [← List.map_set] at h1
    have HR1 := Lib.hid h1
    have HF1 := Lib.hid (HF.out.set ⟨g, j, none⟩ (.bool true) (.inl (by simp [Value.ownBlock])))
    clear HKS HV hlen hy hy2 h1 HM
    gi_wp2
    refine ⟨KeepsOthers.setCell _ _ _, fun i u e => (World.cell?_setCell_other _ _ _ _ (by simp <;> omega)).trans e, ?_, (World.cell?_setCell_other _ _ _ _ (by simp <;> omega)).trans hc, HF1⟩
    rw [List.map_append, List.map_cons, List.map_nil, setT_snoc, Int.toNat_natCast]
    exact HR1
  case done =>
    rintro D ys W hD hS ⟨HR, hc, HF⟩ hK
    have hH := HR.out.alloc (.cells #[.bool false] 4)
    gi_wp2_with (gi_at_builtin; refine wpListIn_more Try.info4 rfl (by decide) (by decide) Try.underlying44 _ rfl _ _ rfl (.slice p m cap0) m _ rfl hH ⟨W.heap.size, 0, none⟩ 1 1 [.bool false] rfl rfl (one_at _ _ _) (by simp [Value.oneCell']) (by omega) (by omega) ?_; intro g cap w1 r1 r2 r3)
    have hDl := (Array.getElem?_eq_some_iff.1 hK).1
    have hDv : (Value.slice p m cap0).ownBlock ≠ some D := fun e => by
      obtain ⟨cur, h⟩ := row_type HR.out e
      rw [hK] at h
      cases h
    have hK' : w1.heap[D]? = some (.deferred (some [])) := ((r2.block D (by simp; omega) (fun e => hDv e.symm)).trans (Below.heap_alloc _ _ _ hDl)).trans hK
    have hg1 : g ≠ D := fun e => by
      obtain ⟨cur, h⟩ := row_type r1 (k := g) rfl
      rw [e, hK'] at h
      cases h
    refine ⟨by simp, .inl ⟨_, _, rfl, run_takeDeferred hK', ?_⟩⟩
    refine ⟨_, results_tmp rfl _ _ _, g, cap, rfl, ?_, ?_, ?_⟩
    · have h1 := r1.kept (grownBy_putObj' w1 D (.deferred none)) (.inr (fun e => by injection e with e; exact hg1 e))
      rw [HOUT.out]
      unfold takeT
      rw [← hS, List.map_append]
      exact h1
    · exact ((HF.out.all _).grow r2 (fun k e => .inl (by simp [e]))).put _ (by omega)
    · rcases r3 with h | h
      · exact .inl h
      · exact .inr (by rw [h]; have := HF.out.size; simp; omega)
  case stop =>
    rintro D c pre W _ _ h _
    exact h.elim
end Go.Proofs.Ytjobfpnlpfjoeaa
