/-
  A point is dropped. No condition but those typed at each theorem.
-/
import Derived.Test.YtfcpfffgodljeaaGreatMBb
import Derived.Test.YtfcpfffgodljeaaGreatMQ
namespace Go.Proofs.YtfcpfffgodljeaaGreat.Bd
open Go.RowKit Go.Sort

theorem wpOp_callW {P : Program} {ops : Array Oper} {Q : Exit → Act → World → Prop} {K : Act → World → Prop} {n : Nat} {o : Oper} {a : Act} {w : World} {f : FuncId} {args : Array Value} (ho : ops[n]? = some o) (hg : Region.wanted o (yielded ops a.tmps) = true)
    (hr : (execOp a.eval o).run P w = .ok (.enter f args) w) (h : Calls P f args w fun e w' => ∃ v, e = .returned v ∧ K (a.put o.dst v) w') : wpOp P ops Q n K a w := by
  unfold wpOp
  rw [ho]
  simp only []
  rw [if_pos hg]
  left
  unfold Oper.wp
  rw [hr, Oper.upon_enter]
  exact h.mono fun e w' hh => by obtain ⟨v, rfl, hk⟩ := hh; exact hk
section
variable {w w' : World} {P : BdP} {RX LY A : List S3}
/-- a list that has not the point is the same -/
theorem LsM.same {b o : Nat} {SP A' : List S3} {p : LsP} (h : LsM w b o SP A p) (hA : ∀ s ∈ SP, s ∈ A' ↔ s ∈ A) : LsM w b o SP A' p :=
  ⟨h.ca, h.cn, h.rows, h.nm.same hA, h.few, h.ord⟩
/-- another list's drop -/
theorem node_off {lb j k : Nat} {SPj SPk Aj Ak : List S3} {pj pk : LsP} (hj : LsM w lb j SPj Aj pj) (hk : LsM w lb k SPk Ak pk) (ha : Apt pj pk ∨ Apt pk pj) (ho : Off (mbl pk.np) w w') : LsM w' lb j SPj Aj pj := by
  refine hj.off ho hk.nm.out (fun x hx hm => ?_) (fun x hx => ?_) (fun x hx => ?_)
  · rcases ha with ha | ha
    · exact ha x hx hm
    · exact ha x hm hx
  · obtain ⟨c, e⟩ := row_type hj.rows.ra hx
    exact hk.nm.apart e (by decide) (by decide)
  · obtain ⟨c, e⟩ := row_type hj.rows.rn hx
    exact hk.nm.apart e (by decide) (by decide)
theorem BdM.apart (h : BdM w P RX LY A) {j k : Nat} {pj pk : LsP} (hj : P.ls[j]? = some pj) (hk : P.ls[k]? = some pk) (hjk : j ≠ k) : Apt pj pk ∨ Apt pk pj := by
  obtain ⟨l1, rfl⟩ := List.getElem?_eq_some_iff.1 hj
  obtain ⟨l2, rfl⟩ := List.getElem?_eq_some_iff.1 hk
  rcases Nat.lt_or_gt_of_ne hjk with g | g
  · exact .inl (List.pairwise_iff_getElem.1 h.ap j k l1 l2 g)
  · exact .inr (List.pairwise_iff_getElem.1 h.ap k j l2 l1 g)
theorem drp_one {A : List S3} (hA : A.Nodup) {s : S3} (hs : s ∈ A) : (drp A s).length + 1 = A.length := by
  induction A with
  | nil => cases hs
  | cons a A ih =>
    rw [List.nodup_cons] at hA
    by_cases e : a = s
    · subst e
      have : drp (a :: A) a = A := by
        have h1 := drp_not hA.1
        unfold drp at h1 ⊢
        rw [List.filter_cons, h1]
        simp
      rw [this, List.length_cons]
    · have hm : s ∈ A := by
        rcases List.mem_cons.1 hs with h | h
        · exact absurd h.symm e
        · exact h
      have h1 := ih hA.2 hm
      have h2 : drp (a :: A) s = a :: drp A s := by
        unfold drp
        rw [List.filter_cons]
        simp [e]
      rw [h2, List.length_cons, List.length_cons]
      omega
/-- the blocks that a drop writes -/
def mblk (P : BdP) : List Nat := P.ls.flatMap (fun p => mbl p.np)
theorem mblk_at {k : Nat} {p : LsP} (hk : P.ls[k]? = some p) : ∀ x ∈ mbl p.np, x ∈ mblk P := fun _ hx => List.mem_flatMap.2 ⟨p, List.mem_of_getElem? hk, hx⟩
theorem mblk_blks : ∀ x ∈ mblk P, x ∈ blks P := fun _ hx => by
  obtain ⟨p, hp, h1⟩ := List.mem_flatMap.1 hx
  unfold blks
  simp only [List.mem_cons, List.mem_append, List.mem_flatMap]
  exact .inr (.inr (.inr ⟨p, hp, by unfold lblk; simp [h1]⟩))
/-- in the midst of a drop: at these nodes the point is there no more -/
structure DrM (w : World) (P : BdP) (RX LY A : List S3) (s : S3) (ks : List Nat) : Prop where
  ev : EV 74 w P.B [.pointer (some ⟨P.B, 0, none⟩), P.rva, P.rvn, .pointer (some ⟨P.fb, 0, none⟩), P.lv, .int .i64 A.length, .int .i64 (wts RX A : Nat)]
  row : OrR w kx RX P.rva P.rvn
  fr : FR w P.fb RX.length P.fd P.fp
  nod : ∀ k p, P.ls[k]? = some p → LsM w P.lb (k * 8) (SPk RX LY k) (if k ∈ ks then drp A s else A) p
theorem DrM.start (h : BdM w P RX LY A) (s : S3) : DrM w P RX LY A s [] := ⟨h.ev, h.row, h.fr, fun k p e => by rw [if_neg (by simp)]; exact h.nod k p e⟩
theorem DrM.keep {s : S3} {ks : List Nat} (h : DrM w P RX LY A s ks) (g : Below w.heap.size w w') : DrM w' P RX LY A s ks :=
  ⟨h.ev.keep g h.ev.lt, h.row.keep g, h.fr.keep g, fun k p e => (h.nod k p e).keep g⟩
theorem DrM.step (h0 : BdM w' P RX LY A) {X X' : World} {s : S3} {ks : List Nat} (h : DrM X P RX LY A s ks) {k : Nat} {p : LsP} (hk : P.ls[k]? = some p) (hn : k ∉ ks) (hl : LsM X' P.lb (k * 8) (SPk RX LY k) (drp A s) p) (ho : Off (mbl p.np) X X') : DrM X' P RX LY A s (ks ++ [k]) := by
  have hlk := h.nod k p hk
  refine ⟨h.ev.off ho (hlk.nm.apart h.ev (by decide) (by decide)), h.row.off ho (fun x hx => ?_) (fun x hx => ?_), h.fr.block (ho.block _ h.fr.lt (hlk.nm.apart h.fr (by decide) (by decide))), fun j q hq => ?_⟩
  · obtain ⟨c, e⟩ := row_type h.row.ra hx
    exact hlk.nm.apart e (by decide) (by decide)
  · obtain ⟨c, e⟩ := row_type h.row.rn hx
    exact hlk.nm.apart e (by decide) (by decide)
  · by_cases hjk : j = k
    · subst hjk
      rw [hk] at hq
      injection hq with hq
      subst hq
      rw [if_pos (by simp)]
      exact hl
    · have h1 := node_off (h.nod j q hq) hlk (h0.apart hq hk hjk) ho
      by_cases hin : j ∈ ks
      · rw [if_pos hin] at h1
        rw [if_pos (by simp [hin])]
        exact h1
      · rw [if_neg hin] at h1
        rw [if_neg (by simp [hin, hjk])]
        exact h1
/-- at all nodes of its path: it is there no more -/
theorem DrM.done (h0 : BdM w' P RX LY A) {X : World} {s : S3} (h : DrM X P RX LY A s (ptF RX.length (RX.idxOf s))) {X' : World} (hev : EV 74 X' P.B [.pointer (some ⟨P.B, 0, none⟩), P.rva, P.rvn, .pointer (some ⟨P.fb, 0, none⟩), P.lv, .int .i64 (drp A s).length, .int .i64 (wts RX (drp A s) : Nat)]) (ho : Off [P.B] X X') : BdM X' P RX LY (drp A s) := by
  have tB : ∀ {t : TypeId} {c : Array Value} {x : Nat}, X.heap[x]? = some (.cells c t (0, 0)) → t ≠ 74 → x ∉ [P.B] := fun {t c x} e ht => by
    simp
    exact types_ne e h.ev ht
  refine ⟨hev, h.row.off ho (fun x hx => ?_) (fun x hx => ?_), h.fr.block (ho.block _ h.fr.lt (tB h.fr (by decide))), h0.lsl, h0.lat, fun k p hk => ?_, h0.ap, h0.pl, h0.lbB⟩
  · obtain ⟨c, e⟩ := row_type h.row.ra hx
    exact tB e (by decide)
  · obtain ⟨c, e⟩ := row_type h.row.rn hx
    exact tB e (by decide)
  · have h1 := h.nod k p hk
    have hlb : P.lb ∉ [P.B] := by simpa using h0.lbB
    have h2 := h1.off ho hlb (fun x hx hm => by
      rw [List.mem_singleton.1 hm] at hx
      exact h1.nm.apart h.ev (by decide) (by decide) hx) (fun x hx => by obtain ⟨c, e⟩ := row_type h1.rows.ra hx; exact tB e (by decide)) (fun x hx => by obtain ⟨c, e⟩ := row_type h1.rows.rn hx; exact tB e (by decide))
    by_cases hin : k ∈ ptF RX.length (RX.idxOf s)
    · rw [if_pos hin] at h2
      exact h2
    · rw [if_neg hin] at h2
      refine h2.same (fun t ht => ?_)
      rw [mem_drp]
      refine ⟨fun c => c.1, fun c => ⟨c, fun e => ?_⟩⟩
      subst e
      have := (List.mem_filter.1 ht).2
      simp at this
      exact hin this
/-- whether it is there, as the root's list tells -/
theorem has_root (h : PlI RX LY) (hR : Rg RX) (hs : ∀ s ∈ A, s ∈ RX) {s s' : S3} {i : Nat} (hi : RX[i]? = some s') (h1 : kx s' = kx s) (h2 : s'.2.2 = s.2.2) : hasB (SPk RX LY (2 * RX.length - 2)) A (ky s) s.2.2 = decide (s ∈ A) := by
  have hroot : ∀ t ∈ RX, t ∈ SPk RX LY (2 * RX.length - 2) := fun t ht => by
    obtain ⟨-, hlt⟩ := h.at_idx ht
    obtain ⟨tl, e, -⟩ := ptF_walk hlt
    exact List.mem_filter.2 ⟨h.pm.mem_iff.1 ht, by simp [e]⟩
  have hO := SPk_ord h (2 * RX.length - 2)
  have hf := SPk_few h (2 * RX.length - 2)
  unfold hasB
  by_cases hsA : s ∈ A
  · obtain ⟨q, hq⟩ := List.mem_iff_getElem?.1 (hroot s (hs s hsA))
    rw [fnd_yes hO hf hq rfl rfl]
    simp only
    rw [alA_at hq, decide_eq_true hsA]
    rfl
  · rw [decide_eq_false hsA]
    cases hb : (fnd ky (SPk RX LY (2 * RX.length - 2)) (ky s) s.2.2).2 with
    | false => rfl
    | true =>
      obtain ⟨t, t1, t2, t3⟩ := fnd_true hO hf hb
      rw [alA_at t1, Bool.true_and]
      refine decide_eq_false (fun ht => hsA ?_)
      have e := hR.names (hs t ht) (List.mem_of_getElem? hi) (t3.trans h2.symm)
      have : t = s := by
        obtain ⟨a, b, c⟩ := t
        obtain ⟨a', b', c'⟩ := s
        subst e
        simp only [kx, ky] at *
        subst h1; subst t2; subst t3
        rfl
      exact this ▸ ht
set_option maxRecDepth 100000 in
set_option maxHeartbeats 3200000 in
theorem drop_miss (h : BdM w P RX LY A) (s : S3) {q : Nat} (hf : fnd kx RX s.1 s.2.2 = (q, false)) :
    Calls Tryz.prog 22 #[.pointer (some ⟨P.B, 0, none⟩), tv s] w fun e w' => e = .returned (.bool false) ∧ Below w.heap.size w w' := by
  have HM := Lib.hid (fun X (hb : Below w.heap.size w X) => bmade_yes (h.keep hb))
  have c1 := h.ev.cell (i := 1) rfl
  have c2 := h.ev.cell (i := 2) rfl
  have c3 := h.ev.cell (i := 3) rfl
  have c4 := h.ev.cell (i := 4) rfl
  have HF := Lib.hid (fun X (hb : Below w.heap.size w X) => find_any (o := 1) ((hb.cell (World.block_lt_of_cell? _ _ c1)).trans c1) ((hb.cell (World.block_lt_of_cell? _ _ c2)).trans c2) (h.keep hb).row h.pl.ox (Nat.le_trans h.pl.few (by decide)) s.1 s.2.2)
  have H := Lib.hid h
  obtain ⟨x, y, id⟩ := s
  simp only at HF hf
  rw [hf] at HF
  unfold tv
  simp only
  clear h c1 c2 c3 c4
  go_enter Tryz.func22, Tryz.ntmps22
  obtain ⟨Y, hY⟩ : ∃ Y, Y = w.alloc (.cells #[.int .i64 x, .int .i64 y, .int .u32 id] 34) := ⟨_, rfl⟩
  have hT1 : T1 Y w.heap.size 0 (x, y, id) := hY ▸ T1.new w (x, y, id) _
  have hYB : Below w.heap.size w Y := hY ▸ (Below.refl _ w).alloc (Nat.le_refl _) _
  have hYs : w.heap.size < Y.heap.size := by rw [hY]; simp
  go_upto_region 1 with fail
  rw [← hY]
  clear hY
  have HYB := Lib.hid hYB
  have HYS := Lib.hid hYs
  have HT1 := Lib.hid hT1
  have HMW := Lib.hid (HM.out Y hYB)
  clear hT1 hYB hYs
  go_upto_region 3 with (go_at_call 40; (with_reducible refine HMW.out.mono ?_); rintro e wM ⟨rfl, hM⟩; subst wM)
  have inst : Nonempty (Wd (Bw Y)) := ⟨⟨Y, Below.refl _ _⟩⟩
  have b0 : ∀ z : Wd (Bw Y), z.w.cell? ⟨w.heap.size, 0, none⟩ = _ := fun z => Bw.cell z HT1.out.c0
  have b2 : ∀ z : Wd (Bw Y), z.w.cell? ⟨w.heap.size, 2, none⟩ = _ := fun z => Bw.cell z HT1.out.c2
  have HFC := Lib.hid (fun z : Wd (Bw Y) => HF.out z.w (HYB.out.trans (z.h.mono HYB.out.size)))
  refine wp_region_wd (Bw Y) (by kernel_rfl) (by kernel_rfl) ((Below.refl _ Y).drew) ?_
  repeat (first
    | go_big_quiet_step (first | (go_at_call 42; with_reducible exact calls_wd (fun _ _ h hb => h.keep hb) _ (HFC.out _)))
    | quiet_step (first | (go_at_call 42; with_reducible exact calls_wd (fun _ _ h hb => h.keep hb) _ (HFC.out _))))
  refine wpQuiet_nil ?_
  rintro _ ⟨z, rfl⟩
  have HB2 := Lib.hid (HYB.out.trans (z.h.mono HYB.out.size))
  have HT2 := Lib.hid (HT1.out.keep z.h HT1.out.lt)
  have HS2 := Lib.hid (Nat.lt_of_lt_of_le HYS.out z.h.size)
  generalize z.w = w2 at *
  clear b0 b2 HFC inst HYB HYS HT1
  go_wp2
  go_ret
  exact ⟨rfl, HB2.out⟩
set_option maxRecDepth 100000 in
set_option maxHeartbeats 3200000 in
theorem drop_not (h : BdM w P RX LY A) (s : S3) {s' : S3} {q : Nat} (hf : fnd kx RX s.1 s.2.2 = (q, true)) (hi : RX[q]? = some s') (hhas : hasB (SPk RX LY (2 * RX.length - 2)) A (ky s) s.2.2 = false) :
    Calls Tryz.prog 22 #[.pointer (some ⟨P.B, 0, none⟩), tv s] w fun e w' => e = .returned (.bool false) ∧ Below w.heap.size w w' := by
  have HM := Lib.hid (fun X (hb : Below w.heap.size w X) => bmade_yes (h.keep hb))
  have c1 := h.ev.cell (i := 1) rfl
  have c2 := h.ev.cell (i := 2) rfl
  have c3 := h.ev.cell (i := 3) rfl
  have c4 := h.ev.cell (i := 4) rfl
  have HF := Lib.hid (fun X (hb : Below w.heap.size w X) => find_any (o := 1) ((hb.cell (World.block_lt_of_cell? _ _ c1)).trans c1) ((hb.cell (World.block_lt_of_cell? _ _ c2)).trans c2) (h.keep hb).row h.pl.ox (Nat.le_trans h.pl.few (by decide)) s.1 s.2.2)
  have H := Lib.hid h
  obtain ⟨x, y, id⟩ := s
  simp only at HF hf hhas
  rw [hf] at HF
  unfold tv
  simp only
  have hq1 := (List.getElem?_eq_some_iff.1 hi).1
  have HPA := Lib.hid (fun X (hb : Below w.heap.size w X) => FPath_any X P.fb RX.length P.fd P.fp (h.keep hb).fr q hq1 (Nat.le_trans h.pl.few (by decide)))
  obtain ⟨tl, hpt, -⟩ := ptF_walk hq1
  have hrl : 2 * RX.length - 2 < P.ls.length := by rw [h.lsl]; omega
  obtain ⟨p, hp⟩ : ∃ p, P.ls[2 * RX.length - 2]? = some p := ⟨_, List.getElem?_eq_getElem hrl⟩
  obtain ⟨cap, hcap⟩ := h.lat (by intro e; rw [e] at hrl; simp at hrl)
  rw [hcap] at c4
  have HH := Lib.hid (fun X (hb : Below w.heap.size w X) => has_any ((h.keep hb).nod _ p hp) y id)
  rw [show hasB (SPk RX LY (2 * RX.length - 2)) A y id = false from hhas] at HH
  unfold tupP at HPA
  clear h c1 c2
  go_enter Tryz.func22, Tryz.ntmps22
  obtain ⟨Y, hY⟩ : ∃ Y, Y = w.alloc (.cells #[.int .i64 x, .int .i64 y, .int .u32 id] 34) := ⟨_, rfl⟩
  have hT1 : T1 Y w.heap.size 0 (x, y, id) := hY ▸ T1.new w (x, y, id) _
  have hYB : Below w.heap.size w Y := hY ▸ (Below.refl _ w).alloc (Nat.le_refl _) _
  have hYs : w.heap.size < Y.heap.size := by rw [hY]; simp
  go_upto_region 1 with fail
  rw [← hY]
  clear hY
  have HYB := Lib.hid hYB
  have HYS := Lib.hid hYs
  have HT1 := Lib.hid hT1
  have HMW := Lib.hid (HM.out Y hYB)
  clear hT1 hYB hYs
  go_upto_region 3 with (go_at_call 40; (with_reducible refine HMW.out.mono ?_); rintro e wM ⟨rfl, hM⟩; subst wM)
  have inst : Nonempty (Wd (Bw Y)) := ⟨⟨Y, Below.refl _ _⟩⟩
  have b0 : ∀ z : Wd (Bw Y), z.w.cell? ⟨w.heap.size, 0, none⟩ = _ := fun z => Bw.cell z HT1.out.c0
  have b2 : ∀ z : Wd (Bw Y), z.w.cell? ⟨w.heap.size, 2, none⟩ = _ := fun z => Bw.cell z HT1.out.c2
  have HFC := Lib.hid (fun z : Wd (Bw Y) => HF.out z.w (HYB.out.trans (z.h.mono HYB.out.size)))
  refine wp_region_wd (Bw Y) (by kernel_rfl) (by kernel_rfl) ((Below.refl _ Y).drew) ?_
  repeat (first
    | go_big_quiet_step (first | (go_at_call 42; with_reducible exact calls_wd (fun _ _ h hb => h.keep hb) _ (HFC.out _)))
    | quiet_step (first | (go_at_call 42; with_reducible exact calls_wd (fun _ _ h hb => h.keep hb) _ (HFC.out _))))
  refine wpQuiet_nil ?_
  rintro _ ⟨z, rfl⟩
  have HB2 := Lib.hid (HYB.out.trans (z.h.mono HYB.out.size))
  have HT2 := Lib.hid (HT1.out.keep z.h HT1.out.lt)
  have HS2 := Lib.hid (Nat.lt_of_lt_of_le HYS.out z.h.size)
  generalize z.w = w2 at *
  clear b0 b2 HFC inst HYB HYS HT1
  have hb4 := (HB2.out.cell (World.block_lt_of_cell? _ _ c4)).trans c4
  have hb3 := (HB2.out.cell (World.block_lt_of_cell? _ _ c3)).trans c3
  have HP2 := Lib.hid (HPA.out w2 HB2.out)
  go_upto_region 7 with (go_at_call 43; (with_reducible refine HP2.out.mono ?_); rintro e w3 ⟨v, rfl, hr, hb⟩; obtain ⟨-, pv, cv, rfl, -, -, hcv⟩ := row_u (k := .i64) (xs := ints (ptF RX.length q)) hr; have HB3 := Lib.hid (HB2.out.trans (hb.mono HB2.out.size)); have HR3 := Lib.hid (row_at hr (base' := w.heap.size) (fun k hk => ⟨rfl, Nat.le_trans HB2.out.size (row_lt hr hk).1⟩)); have HT3 := Lib.hid (HT2.out.keep hb HT2.out.lt); have HS3 := Lib.hid (Nat.lt_of_lt_of_le HS2.out hb.size); have d4 := (hb.cell (World.block_lt_of_cell? _ _ hb4)).trans hb4; clear hr hb)
  obtain ⟨gn, cpn, e1, hgn, hcl⟩ := row_cell HR3.out (j := 0) (u := .int .i64 (2 * RX.length - 2 : Nat)) (by change ((ints (ptF RX.length q)).map (Value.int .i64))[0]? = _; rw [hpt]; rfl)
  injection e1 with e1 _ ec
  subst ec
  subst e1
  have inst : Nonempty (Wd (Bw w3)) := ⟨⟨w3, Below.refl _ _⟩⟩
  have b1 : ∀ z : Wd (Bw w3), z.w.cell? ⟨w.heap.size, 1, none⟩ = _ := fun z => Bw.cell z HT3.out.c1
  have b2 : ∀ z : Wd (Bw w3), z.w.cell? ⟨w.heap.size, 2, none⟩ = _ := fun z => Bw.cell z HT3.out.c2
  have b4 : ∀ z : Wd (Bw w3), z.w.cell? ⟨P.B, 4, none⟩ = _ := fun z => Bw.cell z d4
  have b5 : ∀ z : Wd (Bw w3), z.w.cell? ⟨gn, 0, none⟩ = _ := fun z => Bw.cell z hcl
  have HHC := Lib.hid (fun z : Wd (Bw w3) => HH.out z.w (HB3.out.trans (z.h.mono HB3.out.size)))
  have hpos : 0 < (pt q (tr RX.length) 0 0).length := by have := ptF_pos hq1; exact this
  have HQ1 := Lib.hid hq1
  generalize hrt : 2 * RX.length - 2 = rtn at *
  generalize hnl : (pt q (tr RX.length) 0 0).length = nl at *
  generalize hll : P.ls.length = ll at *
  refine wp_region_wd (Bw w3) (by kernel_rfl) (by kernel_rfl) ((Below.refl _ w3).drew) ?_
  repeat (first
    | go_big_quiet_step (first | (go_at_call 44; with_reducible exact calls_wd (fun _ _ h hb => h.keep hb) _ (HHC.out _)))
    | quiet_step (first | (go_at_call 44; with_reducible exact calls_wd (fun _ _ h hb => h.keep hb) _ (HHC.out _))))
  refine wpQuiet_nil ?_
  rintro _ ⟨z, rfl⟩
  have HB4 := Lib.hid (HB3.out.trans (z.h.mono HB3.out.size))
  go_wp2
  go_ret
  exact ⟨rfl, HB4.out⟩
set_option maxRecDepth 100000 in
set_option maxHeartbeats 6400000 in
theorem drop_yes (h : BdM w P RX LY A) (hA : A.Nodup) (hs : ∀ s ∈ A, s ∈ RX) (s : S3) (hsA : s ∈ A) {q : Nat} (hf : fnd kx RX s.1 s.2.2 = (q, true)) (hi : RX[q]? = some s) (hhas : hasB (SPk RX LY (2 * RX.length - 2)) A (ky s) s.2.2 = true) :
    Calls Tryz.prog 22 #[.pointer (some ⟨P.B, 0, none⟩), tv s] w fun e w' => e = .returned (.bool true) ∧ BdM w' P RX LY (drp A s) ∧ Off (P.B :: mblk P) w w' := by
  have hidx := h.pl.idx hi
  have hwt := wts_drp (RX := RX) hA hsA
  have hlen := drp_one hA hsA
  have hwf := wts_few h.pl hs
  rw [hidx] at hwt
  have HIDX := Lib.hid hidx
  have HSA := Lib.hid hsA
  have hal : A.length ≤ 400 := Nat.le_trans (List.Nodup.length_le_of_subset hA hs) h.pl.few
  have hwb : wts RX A ≤ 10000 := by
    have h1 : A.length * (lgN (RX.length + 1) + 1) ≤ 400 * 10 := Nat.mul_le_mul hal (by have := lg_small2 h.pl; omega)
    omega
  have HMEM : Hid (s ∈ RX) := Lib.hid (hs s hsA)
  clear hidx hwf hsA hA hs
  have HM := Lib.hid (fun X (hb : Below w.heap.size w X) => bmade_yes (h.keep hb))
  have c1 := h.ev.cell (i := 1) rfl
  have c2 := h.ev.cell (i := 2) rfl
  have c3 := h.ev.cell (i := 3) rfl
  have c4 := h.ev.cell (i := 4) rfl
  have HF := Lib.hid (fun X (hb : Below w.heap.size w X) => find_any (o := 1) ((hb.cell (World.block_lt_of_cell? _ _ c1)).trans c1) ((hb.cell (World.block_lt_of_cell? _ _ c2)).trans c2) (h.keep hb).row h.pl.ox (Nat.le_trans h.pl.few (by decide)) s.1 s.2.2)
  have H := Lib.hid h
  obtain ⟨x, y, id⟩ := s
  simp only at HF hf hhas
  rw [hf] at HF
  unfold tv
  simp only
  have hq1 := (List.getElem?_eq_some_iff.1 hi).1
  have HPA := Lib.hid (fun X (hb : Below w.heap.size w X) => FPath_any X P.fb RX.length P.fd P.fp (h.keep hb).fr q hq1 (Nat.le_trans h.pl.few (by decide)))
  obtain ⟨tl, hpt, -⟩ := ptF_walk hq1
  have hrl : 2 * RX.length - 2 < P.ls.length := by rw [h.lsl]; omega
  obtain ⟨p, hp⟩ : ∃ p, P.ls[2 * RX.length - 2]? = some p := ⟨_, List.getElem?_eq_getElem hrl⟩
  obtain ⟨cap, hcap⟩ := h.lat (by intro e; rw [e] at hrl; simp at hrl)
  rw [hcap] at c4
  have HH := Lib.hid (fun X (hb : Below w.heap.size w X) => has_any ((h.keep hb).nod _ p hp) y id)
  rw [show hasB (SPk RX LY (2 * RX.length - 2)) A y id = true from hhas] at HH
  unfold tupP at HPA
  clear h c1 c2
  go_enter Tryz.func22, Tryz.ntmps22
  obtain ⟨Y, hY⟩ : ∃ Y, Y = w.alloc (.cells #[.int .i64 x, .int .i64 y, .int .u32 id] 34) := ⟨_, rfl⟩
  have hT1 : T1 Y w.heap.size 0 (x, y, id) := hY ▸ T1.new w (x, y, id) _
  have hYB : Below w.heap.size w Y := hY ▸ (Below.refl _ w).alloc (Nat.le_refl _) _
  have hYs : w.heap.size < Y.heap.size := by rw [hY]; simp
  go_upto_region 1 with fail
  rw [← hY]
  clear hY
  have HYB := Lib.hid hYB
  have HYS := Lib.hid hYs
  have HT1 := Lib.hid hT1
  have HMW := Lib.hid (HM.out Y hYB)
  clear hT1 hYB hYs
  go_upto_region 3 with (go_at_call 40; (with_reducible refine HMW.out.mono ?_); rintro e wM ⟨rfl, hM⟩; subst wM)
  have inst : Nonempty (Wd (Bw Y)) := ⟨⟨Y, Below.refl _ _⟩⟩
  have b0 : ∀ z : Wd (Bw Y), z.w.cell? ⟨w.heap.size, 0, none⟩ = _ := fun z => Bw.cell z HT1.out.c0
  have b2 : ∀ z : Wd (Bw Y), z.w.cell? ⟨w.heap.size, 2, none⟩ = _ := fun z => Bw.cell z HT1.out.c2
  have HFC := Lib.hid (fun z : Wd (Bw Y) => HF.out z.w (HYB.out.trans (z.h.mono HYB.out.size)))
  refine wp_region_wd (Bw Y) (by kernel_rfl) (by kernel_rfl) ((Below.refl _ Y).drew) ?_
  repeat (first
    | go_big_quiet_step (first | (go_at_call 42; with_reducible exact calls_wd (fun _ _ h hb => h.keep hb) _ (HFC.out _)))
    | quiet_step (first | (go_at_call 42; with_reducible exact calls_wd (fun _ _ h hb => h.keep hb) _ (HFC.out _))))
  refine wpQuiet_nil ?_
  rintro _ ⟨z, rfl⟩
  have HB2 := Lib.hid (HYB.out.trans (z.h.mono HYB.out.size))
  have HT2 := Lib.hid (HT1.out.keep z.h HT1.out.lt)
  have HS2 := Lib.hid (Nat.lt_of_lt_of_le HYS.out z.h.size)
  generalize z.w = w2 at *
  clear b0 b2 HFC inst HYB HYS HT1
  have hb4 := (HB2.out.cell (World.block_lt_of_cell? _ _ c4)).trans c4
  have hb3 := (HB2.out.cell (World.block_lt_of_cell? _ _ c3)).trans c3
  have HP2 := Lib.hid (HPA.out w2 HB2.out)
  go_upto_region 7 with (go_at_call 43; (with_reducible refine HP2.out.mono ?_); rintro e w3 ⟨v, rfl, hr, hb⟩; obtain ⟨-, pv, cv, rfl, -, -, hcv⟩ := row_u (k := .i64) (xs := ints (ptF RX.length q)) hr; have HB3 := Lib.hid (HB2.out.trans (hb.mono HB2.out.size)); have HR3 := Lib.hid (row_at hr (base' := w.heap.size) (fun k hk => ⟨rfl, Nat.le_trans HB2.out.size (row_lt hr hk).1⟩)); have HT3 := Lib.hid (HT2.out.keep hb HT2.out.lt); have HS3 := Lib.hid (Nat.lt_of_lt_of_le HS2.out hb.size); have d4 := (hb.cell (World.block_lt_of_cell? _ _ hb4)).trans hb4; clear hr hb)
  obtain ⟨gn, cpn, e1, hgn, hcl⟩ := row_cell HR3.out (j := 0) (u := .int .i64 (2 * RX.length - 2 : Nat)) (by change ((ints (ptF RX.length q)).map (Value.int .i64))[0]? = _; rw [hpt]; rfl)
  injection e1 with e1 _ ec
  subst ec
  subst e1
  have inst : Nonempty (Wd (Bw w3)) := ⟨⟨w3, Below.refl _ _⟩⟩
  have b1 : ∀ z : Wd (Bw w3), z.w.cell? ⟨w.heap.size, 1, none⟩ = _ := fun z => Bw.cell z HT3.out.c1
  have b2 : ∀ z : Wd (Bw w3), z.w.cell? ⟨w.heap.size, 2, none⟩ = _ := fun z => Bw.cell z HT3.out.c2
  have b4 : ∀ z : Wd (Bw w3), z.w.cell? ⟨P.B, 4, none⟩ = _ := fun z => Bw.cell z d4
  have b5 : ∀ z : Wd (Bw w3), z.w.cell? ⟨gn, 0, none⟩ = _ := fun z => Bw.cell z hcl
  have HHC := Lib.hid (fun z : Wd (Bw w3) => HH.out z.w (HB3.out.trans (z.h.mono HB3.out.size)))
  have hpos : 0 < (pt q (tr RX.length) 0 0).length := by have := ptF_pos hq1; exact this
  have HQ1 := Lib.hid hq1
  generalize hrt : 2 * RX.length - 2 = rtn at *
  generalize hnl : (pt q (tr RX.length) 0 0).length = nl at *
  generalize hll : P.ls.length = ll at *
  refine wp_region_wd (Bw w3) (by kernel_rfl) (by kernel_rfl) ((Below.refl _ w3).drew) ?_
  repeat (first
    | go_big_quiet_step (first | (go_at_call 44; with_reducible exact calls_wd (fun _ _ h hb => h.keep hb) _ (HHC.out _)))
    | quiet_step (first | (go_at_call 44; with_reducible exact calls_wd (fun _ _ h hb => h.keep hb) _ (HHC.out _))))
  refine wpQuiet_nil ?_
  rintro _ ⟨z, rfl⟩
  have HB4 := Lib.hid (HB3.out.trans (z.h.mono HB3.out.size))
  have HR4 := Lib.hid (row_keep HR3.out z.h)
  have HT4 := Lib.hid (HT3.out.keep z.h HT3.out.lt)
  have HS4 := Lib.hid (Nat.lt_of_lt_of_le HS3.out z.h.size)
  generalize z.w = w4 at *
  clear b1 b2 b4 b5 HHC HR3 HT3 HB3 hcl d4 hb4 hb3 HP2
  have HCAP := Lib.hid hcap
  have HLL := Lib.hid hll
  have HNL := Lib.hid hnl
  have HLIE := Lib.hid (fun k hk => H.out.lies k hk)
  have HKS : Hid (ptF RX.length q = pt q (tr RX.length) 0 0) := Lib.hid rfl
  have hnls : nl ≤ 10000 := by have := hwt; unfold ptF at this; rw [hnl] at this; omega
  have HND := Lib.hid (ptF_nodup RX.length q)
  have HKL : Hid (∀ k, k ∈ ptF RX.length q → k < ll) := Lib.hid (fun k hk => by
    rw [← hll, H.out.lsl]
    have h1 := (pt_range hk).2
    have h2 := lv_tr (m := RX.length) (by have := HQ1.out; omega)
    unfold rt at h1
    rw [h2] at h1
    omega)
  have HWT := Lib.hid hwt
  have HLE := Lib.hid hlen
  have HHF := Lib.hid hi
  have HNL2 : Hid ((ptF RX.length q).length = nl) := Lib.hid hnl
  clear hcap hll hnl HNL hwt hlen hi hpt hhas hf hp hrl hrt
  have hR4 : Hid (w4.ownsRow w.heap.size 3 1 (.slice (some ⟨gn, 0, none⟩) nl cv) nl ((ints (ptF RX.length q)).map (Value.int .i64))) := HR4
  clear HR4
  go_upto_block 10 with fail
  go_loopw [52] (fun iv wr => ∃ i : Nat, i ≤ nl ∧ iv = .int .i64 i ∧ Hid (DrM wr P RX LY A (x, y, id) ((ptF RX.length q).take i)) ∧ Hid (wr.ownsRow w.heap.size 3 1 (.slice (some ⟨gn, 0, none⟩) nl cv) nl ((ints (ptF RX.length q)).map (Value.int .i64))) ∧ Hid (T1 wr w.heap.size 0 (x, y, id)) ∧ Hid (Off (mblk P) w wr) ∧ Hid (w.heap.size < wr.heap.size)) (fun iv _ => nl - (intOf iv).toNat)
  case atStart => exact ⟨0, Nat.zero_le _, rfl, Lib.hid (DrM.start (H.out.keep HB4.out) _), hR4, HT4, Lib.hid (Off.of HB4.out (Nat.le_refl _)), HS4⟩
  case round =>
    obtain ⟨i, hi, rfl, HD, HR, HT, HO, HS⟩ := hrel
    have HLEN : Hid ((ptF RX.length q).length = nl) := Lib.hid (by have := HNL2.out; exact this)
    by_cases hlt : i < nl
    · have hltz : (i : Int) < nl := by omega
      obtain ⟨k, hk⟩ : ∃ k, (ptF RX.length q)[i]? = some k := ⟨_, List.getElem?_eq_getElem (by rw [HLEN.out]; exact hlt)⟩
      have hkl := HKL.out k (List.mem_of_getElem? hk)
      obtain ⟨pk, hpk⟩ : ∃ p, P.ls[k]? = some p := ⟨_, List.getElem?_eq_getElem (by rw [HLL.out]; exact hkl)⟩
      obtain ⟨gm, cpn, e1, -, hcl⟩ := row_cell HR.out (j := i) (u := .int .i64 k) (by rw [List.getElem?_map, ints, List.getElem?_map, hk]; rfl)
      injection e1 with e1 _ ec
      injection e1 with e1
      injection e1 with e1 _ _
      subst ec
      subst e1
      have hnk : k ∉ (ptF RX.length q).take i := fun hm => by
        obtain ⟨j, hj⟩ := List.mem_iff_getElem?.1 hm
        rw [List.getElem?_take] at hj
        split at hj
        · have hne := HND.out
          obtain ⟨l1, e1⟩ := List.getElem?_eq_some_iff.1 hj
          obtain ⟨l2, e2⟩ := List.getElem?_eq_some_iff.1 hk
          have := (List.getElem_inj (h₀ := l1) (h₁ := l2) hne).1 (e1.trans e2.symm)
          omega
        · cases hj
      have d4 := HD.out.ev.cell (i := 4) rfl
      rw [HCAP.out] at d4
      have HNK := Lib.hid hnk
      have HPK := Lib.hid hpk
      have HKK := Lib.hid hk
      have HLX := Lib.hid (fun X (hb : Below wr.heap.size wr X) => by have := (HD.out.keep hb).nod k pk hpk; rw [if_neg hnk] at this; exact ldrop_any this (s := (x, y, id)) (List.mem_filter.2 ⟨H.out.pl.pm.mem_iff.1 HMEM.out, by rw [HIDX.out]; simpa using List.mem_of_getElem? hk⟩) HSA.out)
      clear hk hpk hnk
      go_upto_region 12 with fail
      have inst : Nonempty (Wd (Bw wr)) := ⟨⟨wr, Below.refl _ _⟩⟩
      have b1 : ∀ z : Wd (Bw wr), z.w.cell? ⟨w.heap.size, 1, none⟩ = _ := fun z => Bw.cell z HT.out.c1
      have b2 : ∀ z : Wd (Bw wr), z.w.cell? ⟨w.heap.size, 2, none⟩ = _ := fun z => Bw.cell z HT.out.c2
      have b4 : ∀ z : Wd (Bw wr), z.w.cell? ⟨P.B, 4, none⟩ = _ := fun z => Bw.cell z d4
      refine wp_region_qc (Bw wr) 10 (by kernel_rfl) (by kernel_rfl) ((Below.refl _ wr).drew) ?_
      simp only [List.take_succ_cons, List.take_zero, List.drop_succ_cons, List.drop_zero]
      repeat (first | go_big_quiet_step (fail) | quiet_step (fail))
      refine wpQuiet_nil ?_
      rintro _ ⟨z3, rfl⟩
      refine wpOp_callW rfl rfl (f := 45) (args := #[.pointer (some ⟨P.lb, k * 8, none⟩), .int .i64 y, .int .u32 id]) (by simp [execOp, resolve, invoke, Act.eval, Deferred.ofValue, go_sem]) ?_
      refine (HLX.out z3.w z3.h).mono ?_
      rintro e w5 ⟨rfl, hl5, ho5⟩
      refine ⟨_, rfl, ?_⟩
      refine wpQuiet_nil ?_
      have HD5 := Lib.hid (DrM.step H.out (HD.out.keep z3.h) HPK.out HNK.out hl5 ho5)
      have hlow : ∀ m ∈ mbl pk.np, m < w.heap.size := fun m hm => HLIE.out m (mblk_blks m (mblk_at HPK.out m hm))
      have HR5 := Lib.hid (row_at HR.out (w' := w5) (base' := w.heap.size) (fun m hm => by
        have h1 := row_lt HR.out hm
        exact ⟨(ho5.block m (by have := z3.h.size; omega) (fun hin => by have := hlow m hin; omega)).trans (z3.h.block m h1.2), h1.1⟩))
      have HT5 := Lib.hid ((HT.out.keep z3.h HT.out.lt).off ho5 (fun hin => by have := hlow _ hin; omega))
      have HO5 := Lib.hid ((HO.out.trans (Off.of (S := mblk P) z3.h (Nat.le_refl _))).via ho5 (fun m _ hin => mblk_at HPK.out m hin))
      have HS5 : Hid (w.heap.size < w5.heap.size) := Lib.hid (by have := HS.out; have := z3.h.size; have := ho5.size; omega)
      clear hlow hl5 ho5 b1 b2 b4 inst d4 hcl HLX
      go_wp2
      go_roundw
      case rel => exact ⟨i + 1, by omega, by go_num, Lib.hid (by rw [List.take_add_one, HKK.out]; exact HD5.out), HR5, HT5, HO5, HS5⟩
      case measure => simp [intOf]; omega
    · have hltz : ¬ (i : Int) < nl := by omega
      obtain rfl : i = nl := by omega
      have HDN : Hid (DrM wr P RX LY A (x, y, id) (ptF RX.length q)) := Lib.hid (by have := HD.out; rw [List.take_of_length_le (by rw [HLEN.out]; exact Nat.le_refl _)] at this; exact this)
      have d5 := HDN.out.ev.cell (i := 5) rfl
      have d6 := HDN.out.ev.cell (i := 6) rfl
      have f5 := HDN.out.ev.free 5
      have f6 := HDN.out.ev.free 6
      have q1 := HLE.out
      have q2 := HWT.out
      rw [HLEN.out] at q2
      have s5 : ((A.length : Nat) : Int) - 1 = ((drp A (x, y, id)).length : Nat) := by omega
      have s6 : ((wts RX A : Nat) : Int) - i = ((wts RX (drp A (x, y, id)) : Nat) : Int) := by omega
      have S56 := Lib.hid (show (((A.length : Nat) : Int) - 1 = ((drp A (x, y, id)).length : Nat)) ∧ (((wts RX A : Nat) : Int) - i = ((wts RX (drp A (x, y, id)) : Nat) : Int)) from ⟨s5, s6⟩)
      have HEV := Lib.hid ((HDN.out.ev.set 5 (.int .i64 ((drp A (x, y, id)).length : Nat))).set 6 (.int .i64 (wts RX (drp A (x, y, id)) : Nat)))
      have HOB := Lib.hid (((Off.refl [P.B] wr).set ⟨P.B, 5, none⟩ (.int .i64 ((drp A (x, y, id)).length : Nat)) (.inl (by simp))).set ⟨P.B, 6, none⟩ (.int .i64 (wts RX (drp A (x, y, id)) : Nat)) (.inl (by simp)))
      generalize hla : A.length = la at *
      generalize hwa : wts RX A = wa at *
      generalize hld : (drp A (x, y, id)).length = ld at *
      generalize hwd : wts RX (drp A (x, y, id)) = wd at *
      have HG := Lib.hid (show (drp A (x, y, id)).length = ld ∧ wts RX (drp A (x, y, id)) = wd from ⟨hld, hwd⟩)
      have r5 : ld ≤ 400 := by omega
      have r6 : wd ≤ 10000 := by omega
      clear hla hwa hld hwd q1 q2
      go_wp2
      go_ret
      refine ⟨rfl, ?_, ?_⟩
      · refine (show DrM wr P RX LY A (x, y, id) (ptF RX.length (RX.idxOf (x, y, id))) by rw [HIDX.out]; exact HDN.out).done H.out ?_ HOB.out
        rw [HG.out.1, HG.out.2]
        exact HEV.out
      · exact ((HO.out.mono (T := P.B :: mblk P) (fun m _ hm => List.mem_cons_of_mem _ hm)).via HOB.out (fun m _ hm => by rw [List.mem_singleton.1 hm]; simp))
end
end Go.Proofs.YtfcpfffgodljeaaGreat.Bd
