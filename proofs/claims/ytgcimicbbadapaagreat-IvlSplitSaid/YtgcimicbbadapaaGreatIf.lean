/-
  A tree's Drop. No condition but those typed at each theorem.
-/
import Derived.Test.YtgcimicbbadapaaGreatIa
import Derived.Test.YtgcimicbbadapaaGreatIv
import Derived.Test.YtgcimicbbadapaaGreatId
namespace Go.Proofs.YtgcimicbbadapaaGreat.Iv
open Go.RowKit

/-- a tree but for its three lines and its count -/
structure IvB (X : World) (P : IvP) (E : List Int) (row : List S3) : Prop where
  self : X.cell? ⟨P.g, 0, none⟩ = some (.pointer (some ⟨P.g, 0, none⟩))
  en : EnM X P.g E P.qe P.ce
  st : X.cell? ⟨P.g, 2, none⟩ = some (.slice (some ⟨P.sb, 0, none⟩) (E.length + 1) (E.length + 1))
  stb : EB .i64 3 X P.sb (zs (mapR (E.length + 1) (stt (kn (En E) E.length) row)))
  los : X.cell? ⟨P.g, 12, none⟩ = some (.slice P.pl row.length P.cl)
  lns : NS X P.pl .i64 (row.map (·.1))
  blk : ∃ L, EV 64 X P.g L
section
variable {w X X' : World} {P : IvP} {E : List Int} {row RI FA row2 A : List S3}
theorem IvM.b (h : IvM X P E row RI FA A) : IvB X P E row := ⟨h.self, h.en, h.st, h.stb, h.los, h.lns, h.blk⟩
theorem IvB.off (h : IvB X P E row) (hn : IvNe P E) {S : List Nat} (o : Off S X X') (hS : ∀ k ∈ S, k ∈ P.var) : IvB X' P E row := by
  have hg : P.g ∉ S := fun g => hn.g (hS _ g)
  obtain ⟨L, hL⟩ := h.blk
  exact ⟨o.cell h.self hg, ⟨o.cell h.en.cell hg, h.en.ns.offF o (fun b off e hne => fun g => (hn.qe hne b off e).1 (hS _ g)), h.en.few⟩, o.cell h.st hg, h.stb.off o (fun g => hn.sb.1 (hS _ g)), o.cell h.los hg, h.lns.offF o (fun b off e _ => fun g => (hn.pl b off e).1 (hS _ g)), ⟨L, hL.off o hg⟩⟩
theorem LnM.offv {o : Nat} {SP : List S3} {p : Option Addr} {c br bo : Nat} {R : List (Nat × Nat)} {O : List Nat} (h : LnM X P.g o SP A p c br bo R O) (hn : IvNe P E) {S : List Nat} (g : Off S X X') (hS : ∀ k ∈ S, k ∈ P.var) (h1 : br ∉ S) (h2 : bo ∉ S) (hp : ∀ x off, p = some ⟨x, off, none⟩ → x ∉ P.var ∧ x ≠ P.g) : LnM X' P.g o SP A p c br bo R O :=
  h.off g (fun k => hn.g (hS _ k)) h1 h2 (fun x off e _ => fun k => (hp x off e).1 (hS _ k))
theorem IvI.ordRow (h : IvI E row RI FA row2) {L : List S3} (hs : L.Sublist row) : Ordd cLo L :=
  ⟨fun s t h1 h2 => by rw [cLo_neg] at h1 h2; omega, fun i j s t hij hi hj => by
    have hp := List.pairwise_iff_getElem.1 (h.rise.sublist hs)
    obtain ⟨l1, e1⟩ := List.getElem?_eq_some_iff.1 hi
    obtain ⟨l2, e2⟩ := List.getElem?_eq_some_iff.1 hj
    have := hp i j l1 l2 hij
    rw [e1, e2] at this
    exact this⟩
theorem IvI.ordFall (h : IvI E row RI FA row2) {L : List S3} (hs : L.Sublist row2) : Ordd cHi L :=
  ⟨fun s t h1 h2 => by rw [cHi_neg] at h1 h2; omega, fun i j s t hij hi hj => by
    have hp := List.pairwise_iff_getElem.1 (h.fall.sublist hs)
    obtain ⟨l1, e1⟩ := List.getElem?_eq_some_iff.1 hi
    obtain ⟨l2, e2⟩ := List.getElem?_eq_some_iff.1 hj
    have := hp i j l1 l2 hij
    rw [e1, e2] at this
    exact this⟩
/-- the row's drop -/
theorem rowdrop_any (hT : IvM X P E row RI FA A) (hI : IvI E row RI FA row2) (hs : ∀ s ∈ A, s ∈ row) (x : S3) :
    Calls Tryz.prog 28 #[.pointer (some ⟨P.g, 9, none⟩), .int .i64 0, .int .i64 (row.length : Nat), tv x, .func (.func 30) #[] #[]] X fun e w' => e = .returned (.bool (decide (x ∈ A))) ∧ (∃ R O, LnM w' P.g 9 row (drp A x) P.pw P.cw P.wr P.wo R O) ∧ Off [P.wr, P.wo] X w' := by
  obtain ⟨R, O, hl⟩ := hT.ro
  have e : (row.drop 0).take (row.length - 0) = row := by simp
  have h := ldrop_any hl hI.rg.once (i := 0) (k := row.length) (Nat.zero_le _) (Nat.le_refl _) x _ cLo egLo (fun X s t => cLo_any s t X) (by rw [e]; exact hI.ordRow (List.Sublist.refl _))
  rw [e] at h
  refine h.mono ?_
  rintro e w' ⟨rfl, hL, ho⟩
  have e1 : (x ∈ row ∧ x ∈ A) ↔ x ∈ A := ⟨fun h => h.2, fun h => ⟨hs x h, h⟩⟩
  refine ⟨retb (by simp [e1]), ?_, ho⟩
  by_cases hx : x ∈ row
  · rw [if_pos hx] at hL; exact hL
  · rw [if_neg hx] at hL
    rw [drp_not (fun h => hx (hs x h))]
    exact hL
/-- the rising line's drop, at its knot -/
theorem ridrop_any {R : List (Nat × Nat)} {O : List Nat} (hl : LnM X P.g 3 RI A P.pr P.cr P.br P.bo R O) (hI : IvI E row RI FA row2) {x : S3} (hx : x ∈ row) :
    Calls Tryz.prog 28 #[.pointer (some ⟨P.g, 3, none⟩), .int .i64 (stt (kn (En E) E.length) row (kn (En E) E.length x) : Nat), .int .i64 (stt (kn (En E) E.length) row (kn (En E) E.length x + 1) : Nat), tv x, .func (.func 30) #[] #[]] X fun e w' => (∃ y, e = .returned y) ∧ (∃ R O, LnM w' P.g 3 RI (drp A x) P.pr P.cr P.br P.bo R O) ∧ Off [P.br, P.bo] X w' := by
  have hk := (hI.atknot hx).1
  have hc := hI.ri.cut hk
  have h := ldrop_any hl (hI.ri.once hI.rg.once) (i := stt (kn (En E) E.length) row (kn (En E) E.length x)) (k := stt (kn (En E) E.length) row (kn (En E) E.length x + 1)) (by rw [stt_succ]; omega) (by rw [hI.ri.len]; exact stt_le _ _ _) x _ cLo egLo (fun X s t => cLo_any s t X) (by rw [hc]; exact hI.ordRow List.filter_sublist)
  rw [hc] at h
  refine h.mono ?_
  rintro e w' ⟨rfl, hL, ho⟩
  have hm : x ∈ nb (kn (En E) E.length) row (kn (En E) E.length x) := List.mem_filter.2 ⟨hx, by simp⟩
  rw [if_pos hm] at hL
  exact ⟨⟨_, rfl⟩, hL, ho⟩
/-- the falling line's drop, at its knot -/
theorem fadrop_any {R : List (Nat × Nat)} {O : List Nat} (hl : LnM X P.g 6 FA A P.pf P.cf P.fr P.fo R O) (hI : IvI E row RI FA row2) {x : S3} (hx : x ∈ row) :
    Calls Tryz.prog 28 #[.pointer (some ⟨P.g, 6, none⟩), .int .i64 (stt (kn (En E) E.length) row (kn (En E) E.length x) : Nat), .int .i64 (stt (kn (En E) E.length) row (kn (En E) E.length x + 1) : Nat), tv x, .func (.func 32) #[] #[]] X fun e w' => (∃ y, e = .returned y) ∧ (∃ R O, LnM w' P.g 6 FA (drp A x) P.pf P.cf P.fr P.fo R O) ∧ Off [P.fr, P.fo] X w' := by
  have hk := (hI.atknot hx).1
  have hc := hI.fa.cut hk
  have h1 := stt_perm (kf := kn (En E) E.length) hI.perm (kn (En E) E.length x)
  have h2 := stt_perm (kf := kn (En E) E.length) hI.perm (kn (En E) E.length x + 1)
  rw [h1, h2] at hc
  have h := ldrop_any hl (hI.fa.once (hI.perm.nodup_iff.2 hI.rg.once)) (i := stt (kn (En E) E.length) row (kn (En E) E.length x)) (k := stt (kn (En E) E.length) row (kn (En E) E.length x + 1)) (by rw [stt_succ]; omega) (by rw [hI.fa.len, hI.perm.length_eq]; exact stt_le _ _ _) x _ cHi egHi (fun X s t => cHi_any s t X) (by rw [hc]; exact hI.ordFall List.filter_sublist)
  rw [hc] at h
  refine h.mono ?_
  rintro e w' ⟨rfl, hL, ho⟩
  have hm : x ∈ nb (kn (En E) E.length) row2 (kn (En E) E.length x) := List.mem_filter.2 ⟨hI.perm.mem_iff.2 hx, by simp⟩
  rw [if_pos hm] at hL
  exact ⟨⟨_, rfl⟩, hL, ho⟩
theorem drp_one (hA : A.Nodup) {x : S3} (hx : x ∈ A) : (drp A x).length + 1 = A.length := by
  induction A with
  | nil => cases hx
  | cons a A ih =>
    rw [List.nodup_cons] at hA
    unfold drp
    rw [List.filter_cons]
    by_cases e : a = x
    · subst e
      rw [if_neg (by simp)]
      have := drp_not hA.1
      unfold drp at this
      rw [this, List.length_cons]
    · rw [if_pos (by simpa using e), List.length_cons, List.length_cons]
      have hx' : x ∈ A := by
        rcases List.mem_cons.1 hx with h | h
        · exact absurd h.symm e
        · exact h
      have := ih hA.2 hx'
      unfold drp at this
      omega
/-- a call that comes up, guarded or not -/
theorem wpOp_callW {P : Program} {ops : Array Oper} {Q : Exit → Act → World → Prop} {K : Act → World → Prop} {n : Nat} {o : Oper} {a : Act} {w : World} {f : FuncId} {args : Array Value} (ho : ops[n]? = some o) (hg : Region.wanted o (yielded ops a.tmps) = true)
    (hr : (execOp a.eval o).run P w = .ok (.enter f args) w) (h : Calls P f args w fun e w' => ∃ v, e = .returned v ∧ K (a.put o.dst v) w') : wpOp P ops Q n K a w := by
  unfold wpOp
  rw [ho]
  simp only []
  rw [if_pos hg]
  left
  unfold Oper.wp
  rw [hr, Oper.upon_enter]
  refine h.mono ?_
  rintro e w' ⟨v, rfl, hK⟩
  exact hK

theorem IvNe.ne (hn : IvNe P E) : P.br ∉ [P.wr, P.wo] ∧ P.bo ∉ [P.wr, P.wo] ∧ P.fr ∉ [P.wr, P.wo] ∧ P.fo ∉ [P.wr, P.wo] ∧ P.fr ∉ [P.br, P.bo] ∧ P.fo ∉ [P.br, P.bo] ∧ P.wr ∉ [P.br, P.bo] ∧ P.wo ∉ [P.br, P.bo] ∧ P.br ∉ [P.fr, P.fo] ∧ P.bo ∉ [P.fr, P.fo] ∧ P.wr ∉ [P.fr, P.fo] ∧ P.wo ∉ [P.fr, P.fo] := by
  have h := hn.nd
  unfold IvP.var at h
  simp only [List.nodup_cons, List.mem_cons, List.not_mem_nil, or_false, not_or, List.nodup_nil, and_true, not_false_eq_true] at h
  simp only [List.mem_cons, List.not_mem_nil, or_false, not_or]
  obtain ⟨⟨h1, h2, h3, h4, h5⟩, ⟨h6, h7, h8, h9⟩, ⟨h10, h11, h12⟩, ⟨h13, h14⟩, h15⟩ := h
  exact ⟨⟨h4, h5⟩, ⟨h8, h9⟩, ⟨h11, h12⟩, ⟨h13, h14⟩, ⟨Ne.symm h2, Ne.symm h6⟩, ⟨Ne.symm h3, Ne.symm h7⟩, ⟨Ne.symm h4, Ne.symm h8⟩, ⟨Ne.symm h5, Ne.symm h9⟩, ⟨h2, h3⟩, ⟨h6, h7⟩, ⟨Ne.symm h11, Ne.symm h13⟩, ⟨Ne.symm h12, Ne.symm h14⟩⟩
theorem IvP.vr (P : IvP) : ∀ k ∈ [P.br, P.bo], k ∈ P.var := by intro k hk; unfold IvP.var; simp at hk ⊢; rcases hk with h | h <;> simp [h]
theorem IvP.vf (P : IvP) : ∀ k ∈ [P.fr, P.fo], k ∈ P.var := by intro k hk; unfold IvP.var; simp at hk ⊢; rcases hk with h | h <;> simp [h]
theorem IvP.vw (P : IvP) : ∀ k ∈ [P.wr, P.wo], k ∈ P.var := by intro k hk; unfold IvP.var; simp at hk ⊢; rcases hk with h | h <;> simp [h]
theorem IvB.keep (h : IvB X P E row) (hb : Below X.heap.size X X') : IvB X' P E row := by
  have hc : ∀ {a : Addr} {v : Value}, X.cell? a = some v → X'.cell? a = some v := fun hv => (hb.cell (World.block_lt_of_cell? _ _ hv)).trans hv
  obtain ⟨L, hL⟩ := h.blk
  exact ⟨hc h.self, h.en.keep hb, hc h.st, h.stb.keep hb h.stb.lt, hc h.los, h.lns.keep hb, ⟨L, hL.keep hb hL.lt⟩⟩
/-- the count is written -/
theorem IvB.set13 (h : IvB X P E row) (hn : IvNe P E) (v : Value) : IvB (X.setCell ⟨P.g, 13, none⟩ v) P E row := by
  obtain ⟨L, hL⟩ := h.blk
  have hc : ∀ {i : Nat} {u : Value}, i ≠ 13 → X.cell? ⟨P.g, i, none⟩ = some u → (X.setCell ⟨P.g, 13, none⟩ v).cell? ⟨P.g, i, none⟩ = some u := fun hi hu => (World.cell?_setCell_other _ _ _ _ (by simp; try omega)).trans hu
  have ho : Off [P.g] X (X.setCell ⟨P.g, 13, none⟩ v) := (Off.refl _ X).set _ _ (.inl (by simp))
  exact ⟨hc (by decide) h.self, ⟨hc (by decide) h.en.cell, h.en.ns.offF ho (fun b off e hne => by have := (hn.qe hne b off e).2; simpa using this), h.en.few⟩, hc (by decide) h.st, h.stb.off ho (by have := hn.sb.2; simpa using this), hc (by decide) h.los, h.lns.offF ho (fun b off e _ => by have := (hn.pl b off e).2; simpa using this), ⟨_, hL.set _ _⟩⟩
theorem LnM.set13 {o : Nat} {SP : List S3} {p : Option Addr} {c br bo : Nat} {R : List (Nat × Nat)} {O : List Nat} (h : LnM X P.g o SP A p c br bo R O) (ho : o + 2 < 13) (hp : ∀ x off, p = some ⟨x, off, none⟩ → x ∉ P.var ∧ x ≠ P.g) (v : Value) : LnM (X.setCell ⟨P.g, 13, none⟩ v) P.g o SP A p c br bo R O := by
  have hc : ∀ {i : Nat} {u : Value}, i ≠ 13 → X.cell? ⟨P.g, i, none⟩ = some u → (X.setCell ⟨P.g, 13, none⟩ v).cell? ⟨P.g, i, none⟩ = some u := fun hi hu => (World.cell?_setCell_other _ _ _ _ (by simp; try omega)).trans hu
  have hO : Off [P.g] X (X.setCell ⟨P.g, 13, none⟩ v) := (Off.refl _ X).set _ _ (.inl (by simp))
  exact ⟨hc (by omega) h.sp, hc (by omega) h.rs, hc (by omega) h.os, h.ts.off hO (fun b off e _ => by have := (hp b off e).2; simpa using this), h.room, h.rb.off hO (by simp; exact Ne.symm h.ne.1), h.ob.off hO (by simp; exact Ne.symm h.ne.2.1), h.inv, h.few, h.ne⟩

set_option maxRecDepth 100000 in
set_option maxHeartbeats 6400000 in
theorem drop_yes (hT : IvM w P E row RI FA A) (hI : IvI E row RI FA row2) (hn : IvNe P E) (hA : A.Nodup) (hs : ∀ s ∈ A, s ∈ row) (x : S3) :
    Calls Tryz.prog 14 #[.pointer (some ⟨P.g, 0, none⟩), tv x] w fun e w' => e = .returned (.bool (decide (x ∈ A))) ∧ IvM w' P E row RI FA (drp A x) ∧ Off (P.g :: P.var) w w' := by
  obtain ⟨xl, xh, xi⟩ := x
  change Calls _ _ #[_, .agg #[.int .i64 xl, .int .i64 xh, .int .u32 xi]] w _
  obtain ⟨X, hX⟩ : ∃ X, X = w.alloc (.cells #[.int .i64 xl, .int .i64 xh, .int .u32 xi] 34) := ⟨_, rfl⟩
  have hb : Below w.heap.size w X := by rw [hX]; exact (Below.refl w.heap.size w).alloc (Nat.le_refl _) _
  have hTX := hT.keep hb
  have hT1 : T1 X w.heap.size 0 (xl, xh, xi) := by rw [hX]; exact T1.new w (xl, xh, xi) 34
  have hgw : P.g < w.heap.size := World.block_lt_of_cell? _ _ hT.self
  have HBX := Lib.hid hb
  have HX := Lib.hid hX
  have HM := Lib.hid (fun Y (hY : Below X.heap.size X Y) => (made_yes (hTX.keep hY).self).mono (fun e w' hh => (⟨hh.1, by rw [hh.2]; exact Below.refl _ _⟩ : e = .returned (.bool true) ∧ Below Y.heap.size Y w')))
  have HEN := Lib.hid (fun Y (hY : Below X.heap.size X Y) => (by obtain ⟨R, O, hl⟩ := (hTX.keep hY).ro; exact (end_any hl).mono fun e w' hh => ⟨hh.1, by rw [hh.2]; exact Below.refl _ _⟩ : Calls Tryz.prog 29 #[.pointer (some ⟨P.g, 9, none⟩)] Y fun x w' => x = .returned (.int .i64 (row.length : Nat)) ∧ Below Y.heap.size Y w'))
  have HRD := Lib.hid (fun Y (hY : Below X.heap.size X Y) => rowdrop_any (hTX.keep hY) hI hs (xl, xh, xi))
  have HTX := Lib.hid hTX
  have HN := Lib.hid hn
  have HVL : Hid (P.wr < w.heap.size ∧ P.wo < w.heap.size ∧ P.br < w.heap.size ∧ P.bo < w.heap.size ∧ P.fr < w.heap.size ∧ P.fo < w.heap.size) := Lib.hid (by
    obtain ⟨_, _, h1⟩ := hT.ri
    obtain ⟨_, _, h2⟩ := hT.fa
    obtain ⟨_, _, h3⟩ := hT.ro
    exact ⟨h3.rb.lt, h3.ob.lt, h1.rb.lt, h1.ob.lt, h2.rb.lt, h2.ob.lt⟩)
  have HAF : Hid (A.length ≤ 400) := Lib.hid (Nat.le_trans (sub_len hA hs) hI.few.1)
  have HI := Lib.hid hI
  have hfr := hI.few.1
  have HT1 := Lib.hid hT1
  have HAN := Lib.hid hA
  have HAS := Lib.hid hs
  clear hT hTX hT1 hb hX hI hn hA hs
  obtain ⟨n, hn⟩ : ∃ n, n = row.length := ⟨_, rfl⟩
  have HNN := Lib.hid hn
  rw [← hn] at HEN HRD hfr
  clear hn
  go_enter Tryz.func14, Tryz.ntmps14
  go_upto_region 1 with fail
  rw [← HX.out]
  have a0 : ∀ z : Wd (Bw X), z.w.cell? ⟨w.heap.size, 0, none⟩ = _ := fun z => Bw.cell z HT1.out.c0
  have a1 : ∀ z : Wd (Bw X), z.w.cell? ⟨w.heap.size, 1, none⟩ = _ := fun z => Bw.cell z HT1.out.c1
  have a2 : ∀ z : Wd (Bw X), z.w.cell? ⟨w.heap.size, 2, none⟩ = _ := fun z => Bw.cell z HT1.out.c2
  have inst : Nonempty (Wd (Bw X)) := ⟨⟨X, Below.refl _ _⟩⟩
  refine wp_region_qc (Bw X) 12 (by kernel_rfl) (by kernel_rfl) ((Below.refl _ X).drew) ?_
  simp only [List.take_succ_cons, List.take_zero, List.drop_succ_cons, List.drop_zero]
  repeat (first
    | go_big_quiet_step (first | (go_at_call 25; with_reducible exact calls_wd (fun _ _ h hb => h.keep hb) _ (HM.out _ (Wd.h _))) | (go_at_call 29; with_reducible exact calls_wd (fun _ _ h hb => h.keep hb) _ (HEN.out _ (Wd.h _))))
    | quiet_step (first | (go_at_call 25; with_reducible exact calls_wd (fun _ _ h hb => h.keep hb) _ (HM.out _ (Wd.h _))) | (go_at_call 29; with_reducible exact calls_wd (fun _ _ h hb => h.keep hb) _ (HEN.out _ (Wd.h _)))))
  refine wpQuiet_nil ?_
  rintro _ ⟨z, rfl⟩
  refine wpOp_callW rfl ?_ (f := 28) (args := #[.pointer (some ⟨P.g, 9, none⟩), .int .i64 0, .int .i64 n, .agg #[.int .i64 xl, .int .i64 xh, .int .u32 xi], .func (.func 30) #[] #[]]) ?_ ?_
  · rfl
  · simp [execOp, resolve, invoke, Act.eval, Deferred.ofValue, go_sem]
  · refine (HRD.out _ z.h).mono ?_
    rintro e w1 ⟨rfl, hl, ho⟩
    refine ⟨_, rfl, ?_⟩
    have HL := Lib.hid hl
    have HO := Lib.hid (show Off [P.wr, P.wo] X w1 from (Off.of (S := [P.wr, P.wo]) z.h (Nat.le_refl _)).trans ho)
    clear hl ho a0 a1 a2
    cases hmem : decide ((xl, xh, xi) ∈ A) with
    | false =>
      have HMM := Lib.hid (of_decide_eq_false hmem)
      clear hmem
      repeat (first | go_big_quiet_step (fail) | quiet_step (fail))
      refine wpQuiet_nil ?_
      go_wp2
      go_ret
      have he := HN.out.ne
      have hd := drp_not HMM.out
      rw [hd] at HL ⊢
      obtain ⟨R1, O1, h1⟩ := HTX.out.ri
      obtain ⟨R2, O2, h2⟩ := HTX.out.fa
      have hB := HTX.out.b.off HN.out HO.out P.vw
      exact ⟨retb (by simp [HMM.out]), ⟨hB.self, hB.en, hB.st, hB.stb, ⟨R1, O1, h1.offv HN.out HO.out P.vw he.1 he.2.1 HN.out.pr⟩, ⟨R2, O2, h2.offv HN.out HO.out P.vw he.2.2.1 he.2.2.2.1 HN.out.pf⟩, HL.out, hB.los, hB.lns, HO.out.cell HTX.out.cnt (fun k => HN.out.g (P.vw _ k)), hB.blk⟩, (Off.of HBX.out (Nat.le_refl _)).trans (HO.out.mono (fun k _ hk => List.mem_cons_of_mem _ (P.vw k hk)))⟩
    | true =>
      have hxA := of_decide_eq_true hmem
      have hxr := HAS.out _ hxA
      have HXA := Lib.hid hxA
      have HXR := Lib.hid hxr
      have he := HN.out.ne
      have HE := Lib.hid he
      have hx1 := HI.out.rg.1 _ hxr
      have hB := HTX.out.b.off HN.out HO.out P.vw
      have hlt : P.wr < w.heap.size ∧ P.wo < w.heap.size ∧ P.br < w.heap.size ∧ P.bo < w.heap.size ∧ P.fr < w.heap.size ∧ P.fo < w.heap.size := HVL.out
      have HT1a := Lib.hid (HT1.out.off HO.out (by simp; omega))
      obtain ⟨R1, O1, h1⟩ := HTX.out.ri
      obtain ⟨R2, O2, h2⟩ := HTX.out.fa
      have HRI := Lib.hid (h1.offv HN.out HO.out P.vw he.1 he.2.1 HN.out.pr)
      have HFA := Lib.hid (h2.offv HN.out HO.out P.vw he.2.2.1 he.2.2.2.1 HN.out.pf)
      have HCN := Lib.hid (HO.out.cell HTX.out.cnt (fun k => HN.out.g (P.vw _ k)))
      have HBB := Lib.hid hB
      have HKN := Lib.hid (knot_any hB.en (xl, xh, xi) hx1)
      obtain ⟨k, hk⟩ : ∃ k, k = kn (En E) E.length (xl, xh, xi) := ⟨_, rfl⟩
      have hkE := (HI.out.atknot hxr).1
      have HKK := Lib.hid hk
      rw [← hk] at HKN hkE
      have hg1 : ∀ Y, Below w1.heap.size w1 Y → Y.cell? ⟨P.sb, k, none⟩ = some (.int .i64 (stt (kn (En E) E.length) row k : Nat)) ∧ Y.cell? ⟨P.sb, k + 1, none⟩ = some (.int .i64 (stt (kn (En E) E.length) row (k + 1) : Nat)) ∧ Y.cell? ⟨P.g, 2, none⟩ = some (.slice (some ⟨P.sb, 0, none⟩) (E.length + 1) (E.length + 1)) := fun Y hY => ⟨(hB.keep hY).stb.cell (zs_get _ (mapR_get (E.length + 1) (stt (kn (En E) E.length) row) (k := k) (by omega))), (hB.keep hY).stb.cell (zs_get _ (mapR_get (E.length + 1) (stt (kn (En E) E.length) row) (k := k + 1) (by omega))), (hB.keep hY).st⟩
      have HG1 := Lib.hid hg1
      obtain ⟨i1, hi1⟩ : ∃ i1, i1 = stt (kn (En E) E.length) row k := ⟨_, rfl⟩
      obtain ⟨i2, hi2⟩ : ∃ i2, i2 = stt (kn (En E) E.length) row (k + 1) := ⟨_, rfl⟩
      have HI1 := Lib.hid hi1
      have HI2 := Lib.hid hi2
      rw [← hi1, ← hi2] at HG1
      have hEf := HI.out.few.2
      have t0 := HT1a.out.c0
      have t1 := HT1a.out.c1
      have t2 := HT1a.out.c2
      obtain ⟨m, hm⟩ : ∃ m, m = E.length := ⟨_, rfl⟩
      rw [← hm] at HG1 hkE hEf
      have HM0 := Lib.hid hm
      clear hmem hxA hxr he hx1 hB h1 h2 hk hg1 hi1 hi2 hlt hm
      repeat (first | go_big_quiet_step (fail) | quiet_step (fail))
      refine wpQuiet_nil ?_
      go_upto_region 4 with (go_at_call 31; (refine HKN.out.mono ?_); rintro e w2 ⟨rfl, hb2⟩; have HB2 := Lib.hid hb2; obtain ⟨c1, c2, c3⟩ := HG1.out _ hb2; clear hb2)
      go_quiet (fail)
      have HB3 : Hid (Below w1.heap.size w1 (w2.drewN nq)) := Lib.hid (drewB HB2.out)
      generalize w2.drewN nq = w3 at *
      clear c1 c2 c3 t0 t1 t2
      go_upto_region 5 with fail
      have HTc := Lib.hid (HT1a.out.keep HB3.out HT1a.out.lt)
      have b0 : ∀ z : Wd (Bw w3), z.w.cell? ⟨w.heap.size, 0, none⟩ = _ := fun z => Bw.cell z HTc.out.c0
      have b1 : ∀ z : Wd (Bw w3), z.w.cell? ⟨w.heap.size, 1, none⟩ = _ := fun z => Bw.cell z HTc.out.c1
      have b2 : ∀ z : Wd (Bw w3), z.w.cell? ⟨w.heap.size, 2, none⟩ = _ := fun z => Bw.cell z HTc.out.c2
      have inst3 : Nonempty (Wd (Bw w3)) := ⟨⟨w3, Below.refl _ _⟩⟩
      refine wp_region_qc (Bw w3) 6 (by kernel_rfl) (by kernel_rfl) ((Below.refl _ w3).drew) ?_
      simp only [List.take_succ_cons, List.take_zero, List.drop_succ_cons, List.drop_zero]
      repeat (first | go_big_quiet_step (fail) | quiet_step (fail))
      refine wpQuiet_nil ?_
      rintro _ ⟨z3, rfl⟩
      refine wpOp_callW rfl rfl (f := 28) (args := #[.pointer (some ⟨P.g, 3, none⟩), .int .i64 i1, .int .i64 i2, .agg #[.int .i64 xl, .int .i64 xh, .int .u32 xi], .func (.func 30) #[] #[]]) (by simp [execOp, resolve, invoke, Act.eval, Deferred.ofValue, go_sem]) ?_
      have HD1 := Lib.hid (ridrop_any ((HRI.out.keep HB3.out).keep z3.h) HI.out HXR.out)
      rw [← HKK.out, ← HI1.out, ← HI2.out] at HD1
      refine HD1.out.mono ?_
      rintro e w4 ⟨⟨y4, rfl⟩, hl4, ho4⟩
      refine ⟨_, rfl, ?_⟩
      refine wpQuiet_nil ?_
      have HL4 := Lib.hid hl4
      have HO4 := Lib.hid (show Off [P.br, P.bo] w1 w4 from (Off.of (S := [P.br, P.bo]) (HB3.out.trans (z3.h.mono HB3.out.size)) (Nat.le_refl _)).trans ho4)
      clear hl4 ho4 b0 b1 b2 inst3
      go_upto_region 6 with fail
      have HTd := Lib.hid (HT1a.out.off HO4.out (by have := HVL.out; simp; omega))
      have b0 : ∀ z : Wd (Bw w4), z.w.cell? ⟨w.heap.size, 0, none⟩ = _ := fun z => Bw.cell z HTd.out.c0
      have b1 : ∀ z : Wd (Bw w4), z.w.cell? ⟨w.heap.size, 1, none⟩ = _ := fun z => Bw.cell z HTd.out.c1
      have b2 : ∀ z : Wd (Bw w4), z.w.cell? ⟨w.heap.size, 2, none⟩ = _ := fun z => Bw.cell z HTd.out.c2
      have inst4 : Nonempty (Wd (Bw w4)) := ⟨⟨w4, Below.refl _ _⟩⟩
      refine wp_region_qc (Bw w4) 6 (by kernel_rfl) (by kernel_rfl) ((Below.refl _ w4).drew) ?_
      simp only [List.take_succ_cons, List.take_zero, List.drop_succ_cons, List.drop_zero]
      repeat (first | go_big_quiet_step (fail) | quiet_step (fail))
      refine wpQuiet_nil ?_
      rintro _ ⟨z4, rfl⟩
      refine wpOp_callW rfl rfl (f := 28) (args := #[.pointer (some ⟨P.g, 6, none⟩), .int .i64 i1, .int .i64 i2, .agg #[.int .i64 xl, .int .i64 xh, .int .u32 xi], .func (.func 32) #[] #[]]) (by simp [execOp, resolve, invoke, Act.eval, Deferred.ofValue, go_sem]) ?_
      have HFA4 := Lib.hid (HFA.out.offv HN.out HO4.out P.vr HE.out.2.2.2.2.1 HE.out.2.2.2.2.2.1 HN.out.pf)
      have HD2 := Lib.hid (fadrop_any (HFA4.out.keep z4.h) HI.out HXR.out)
      rw [← HKK.out, ← HI1.out, ← HI2.out] at HD2
      refine HD2.out.mono ?_
      rintro e w5 ⟨⟨y5, rfl⟩, hl5, ho5⟩
      refine ⟨_, rfl, ?_⟩
      refine wpQuiet_nil ?_
      have HL5 := Lib.hid hl5
      have HO5 := Lib.hid (show Off [P.fr, P.fo] w4 w5 from (Off.of (S := [P.fr, P.fo]) z4.h (Nat.le_refl _)).trans ho5)
      clear hl5 ho5 b0 b1 b2 inst4
      have hB5 := (HBB.out.off HN.out HO4.out P.vr).off HN.out HO5.out P.vf
      have HB5 := Lib.hid hB5
      have c0 := HO5.out.cell (HO4.out.cell HCN.out (fun k => HN.out.g (P.vr _ k))) (fun k => HN.out.g (P.vf _ k))
      obtain ⟨LB, hLB⟩ := hB5.blk
      have c1 := hLB.free 13
      have hdl := drp_one HAN.out HXA.out
      have hAl : A.length ≤ 400 := HAF.out
      have HDL := Lib.hid hdl
      obtain ⟨al, hal⟩ : ∃ al, al = A.length := ⟨_, rfl⟩
      rw [← hal] at c0 hAl
      have HAL := Lib.hid hal
      clear hB5 hLB hdl hal
      go_wp2
      go_ret
      rw [show (al : Int) - 1 = ((drp A (xl, xh, xi)).length : Nat) by have := HDL.out; have := HAL.out; omega]
      have hB := HB5.out.set13 HN.out (.int .i64 ((drp A (xl, xh, xi)).length : Nat))
      obtain ⟨R1, O1, h1⟩ := HL4.out
      obtain ⟨R2, O2, h2⟩ := HL5.out
      obtain ⟨R3, O3, h3⟩ := HL.out
      have h1' := (h1.offv HN.out HO5.out P.vf HE.out.2.2.2.2.2.2.2.2.1 HE.out.2.2.2.2.2.2.2.2.2.1 HN.out.pr).set13 (by decide) HN.out.pr (.int .i64 ((drp A (xl, xh, xi)).length : Nat))
      have h2' := h2.set13 (by decide) HN.out.pf (.int .i64 ((drp A (xl, xh, xi)).length : Nat))
      have h3' := ((h3.offv HN.out HO4.out P.vr HE.out.2.2.2.2.2.2.1 HE.out.2.2.2.2.2.2.2.1 HN.out.pw).offv HN.out HO5.out P.vf HE.out.2.2.2.2.2.2.2.2.2.2.1 HE.out.2.2.2.2.2.2.2.2.2.2.2 HN.out.pw).set13 (by decide) HN.out.pw (.int .i64 ((drp A (xl, xh, xi)).length : Nat))
      refine ⟨retb (by simp [HXA.out]), ⟨hB.self, hB.en, hB.st, hB.stb, ⟨R1, O1, h1'⟩, ⟨R2, O2, h2'⟩, ⟨R3, O3, h3'⟩, hB.los, hB.lns, World.cell?_setCell_same' _ _ _ (by rw [c0]; rfl), hB.blk⟩, ?_⟩
      have hv : ∀ {S : List Nat}, (∀ k ∈ S, k ∈ P.var) → ∀ (a b : World), Off S a b → Off (P.g :: P.var) a b := fun hS _ _ o => o.mono (fun k _ hk => List.mem_cons_of_mem _ (hS k hk))
      exact ((((Off.of HBX.out (Nat.le_refl _)).trans (hv P.vw _ _ HO.out)).trans (hv P.vr _ _ HO4.out)).trans (hv P.vf _ _ HO5.out)).set _ _ (.inl (List.mem_cons_self ..))
end
end Go.Proofs.YtgcimicbbadapaaGreat.Iv
