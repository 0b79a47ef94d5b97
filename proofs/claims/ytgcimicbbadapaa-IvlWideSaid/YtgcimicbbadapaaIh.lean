/-
  A tree in memory; those that have a number (having). No condition but those typed at each theorem.
-/
import Derived.Test.YtgcimicbbadapaaIt
import Derived.Test.YtgcimicbbadapaaIq
import Derived.Test.YtgcimicbbadapaaQc
namespace Go.Proofs.Ytgcimicbbadapaa.Iv
open Go.RowKit

/-- where a tree's things lie -/
structure IvP where
  g : Nat
  qe : Option Addr
  ce : Nat
  sb : Nat
  pr : Option Addr
  cr : Nat
  br : Nat
  bo : Nat
  pf : Option Addr
  cf : Nat
  fr : Nat
  fo : Nat
  pw : Option Addr
  cw : Nat
  wr : Nat
  wo : Nat
  pl : Option Addr
  cl : Nat
/-- a tree in memory -/
structure IvM (X : World) (P : IvP) (E : List Int) (row RI FA A : List S3) : Prop where
  self : X.cell? ⟨P.g, 0, none⟩ = some (.pointer (some ⟨P.g, 0, none⟩))
  en : EnM X P.g E P.qe P.ce
  st : X.cell? ⟨P.g, 2, none⟩ = some (.slice (some ⟨P.sb, 0, none⟩) (E.length + 1) (E.length + 1))
  stb : EB .i64 3 X P.sb (zs (mapR (E.length + 1) (stt (kn (En E) E.length) row)))
  ri : ∃ R O, LnM X P.g 3 RI A P.pr P.cr P.br P.bo R O
  fa : ∃ R O, LnM X P.g 6 FA A P.pf P.cf P.fr P.fo R O
  ro : ∃ R O, LnM X P.g 9 row A P.pw P.cw P.wr P.wo R O
  los : X.cell? ⟨P.g, 12, none⟩ = some (.slice P.pl row.length P.cl)
  lns : NS X P.pl .i64 (row.map (·.1))
  cnt : X.cell? ⟨P.g, 13, none⟩ = some (.int .i64 (A.length : Nat))
  blk : ∃ L, EV 88 X P.g L
theorem IvM.keep {X X' : World} {P : IvP} {E : List Int} {row RI FA A : List S3} (h : IvM X P E row RI FA A) (hb : Below X.heap.size X X') : IvM X' P E row RI FA A := by
  have hc : ∀ {a : Addr} {v : Value}, X.cell? a = some v → X'.cell? a = some v := fun hv => (hb.cell (World.block_lt_of_cell? _ _ hv)).trans hv
  obtain ⟨R1, O1, h1⟩ := h.ri
  obtain ⟨R2, O2, h2⟩ := h.fa
  obtain ⟨R3, O3, h3⟩ := h.ro
  obtain ⟨L, hL⟩ := h.blk
  exact ⟨hc h.self, h.en.keep hb, hc h.st, h.stb.keep hb h.stb.lt, ⟨R1, O1, h1.keep hb⟩, ⟨R2, O2, h2.keep hb⟩, ⟨R3, O3, h3.keep hb⟩, hc h.los, h.lns.keep hb, hc h.cnt, ⟨L, hL.keep hb hL.lt⟩⟩

set_option maxRecDepth 100000 in
set_option maxHeartbeats 400000 in
theorem istab_any (s : S3) (x : Int) (w : World) : Calls Try.prog 70 #[tv s, .int .i64 x] w fun e w' => e = .returned (.bool (stbB x s)) ∧ Below w.heap.size w w' := by
  obtain ⟨a, b, i⟩ := s
  change Calls _ _ #[.agg #[.int .i64 a, .int .i64 b, .int .u32 i], _] w _
  by_cases h1 : a ≤ x
  · by_cases h2 : x ≤ b
    · go_enter Try.func70, Try.ntmps70
      go_wp2
      go_ret
      exact ⟨retb (by simp [stbB, h1, h2]), (Below.refl _ _).alloc (Nat.le_refl _) _⟩
    · go_enter Try.func70, Try.ntmps70
      go_wp2
      go_ret
      exact ⟨retb (by simp [stbB, h2]), (Below.refl _ _).alloc (Nat.le_refl _) _⟩
  · go_enter Try.func70, Try.ntmps70
    go_wp2
    go_ret
    exact ⟨retb (by simp [stbB]; omega), (Below.refl _ _).alloc (Nat.le_refl _) _⟩
theorem egH : ∀ args w, (callFunc 67 args).run Try.prog w = .ok (.enter 67 args) w := enters_of Try.func67 (by kernel_rfl) rfl
theorem egW : ∀ args w, (callFunc 43 args).run Try.prog w = .ok (.enter 43 args) w := enters_of Try.func43 (by kernel_rfl) rfl
theorem egS : ∀ args w, (callFunc 69 args).run Try.prog w = .ok (.enter 69 args) w := enters_of Try.func69 (by kernel_rfl) rfl
set_option maxRecDepth 100000 in
set_option maxHeartbeats 400000 in
theorem hav11_any (s : S3) (x : Int) (B : Nat) (X : World) (hB : X.cell? ⟨B, 0, none⟩ = some (.int .i64 x)) : Calls Try.prog 69 #[tv s, .pointer (some ⟨B, 0, none⟩)] X fun e X' => e = .returned (.bool (stbB x s)) ∧ Below X.heap.size X X' := by
  have HS := Lib.hid (fun W => istab_any s x W)
  obtain ⟨a, b, i⟩ := s
  change Hid (∀ W, Calls _ _ #[.agg #[.int .i64 a, .int .i64 b, .int .u32 i], _] W _) at HS
  change Calls _ _ #[.agg #[.int .i64 a, .int .i64 b, .int .u32 i], _] X _
  generalize stbB x (a, b, i) = y at *
  have HB := Lib.hid ((Below.refl X.heap.size X).alloc (Nat.le_refl _) (.cells #[.int .i64 a, .int .i64 b, .int .u32 i] 34))
  have hlt := World.block_lt_of_cell? _ _ hB
  go_enter Try.func69, Try.ntmps69
  go_wp2_with (go_at_call 70; (with_reducible refine (HS.out _).mono ?_); rintro e w1 ⟨rfl, hb⟩; have HB1 := Lib.hid (HB.out.trans (hb.mono HB.out.size)); clear hb)
  go_ret
  exact ⟨rfl, HB1.out⟩

/-- in the midst of the way down for x -/
structure HvI (w : World) (P : IvP) (kf : S3 → Nat) (E : List Int) (row row2 A : List S3) (x : Int) (ks : List Nat) (X : World) : Prop where
  tb : X.cell? ⟨w.heap.size, 0, none⟩ = some (.pointer (some ⟨P.g, 0, none⟩))
  xb : X.cell? ⟨w.heap.size + 1, 0, none⟩ = some (.int .i64 x)
  nm : ∃ v, Bx 41 X (w.heap.size + 1 + 1) v ∧ X.ownsRow (w.heap.size + 4) 32 1 v (ids (toldX kf (En E) row row2 A x ks)).length ((ids (toldX kf (En E) row row2 A x ks)).map (Value.int .u32))
  ct : Bx 3 X (w.heap.size + 1 + 1 + 1) (.int .i64 (tchX kf (En E) row row2 A x ks : Nat))
  sz : w.heap.size + 4 ≤ X.heap.size
  bel : Below w.heap.size w X
theorem HvI.keep {w : World} {P : IvP} {kf : S3 → Nat} {E : List Int} {row row2 A : List S3} {x : Int} {ks : List Nat} {X X' : World} (h : HvI w P kf E row row2 A x ks X) (hb : Below X.heap.size X X') : HvI w P kf E row row2 A x ks X' := by
  obtain ⟨v, h1, h2⟩ := h.nm
  exact ⟨(hb.cell (World.block_lt_of_cell? _ _ h.tb)).trans h.tb, (hb.cell (World.block_lt_of_cell? _ _ h.xb)).trans h.xb, ⟨v, h1.keep hb, row_off h2 (Off.of (S := []) hb (Nat.le_refl _)) (by simp)⟩, h.ct.keep hb, Nat.le_trans h.sz hb.size, h.bel.trans (hb.mono h.bel.size)⟩

/-- behind the append, ahead of the stores -/
structure HvP (w : World) (P : IvP) (x : Int) (C0 : Nat) (v0 v' : Value) (xs : List Int) (X : World) : Prop where
  tb : X.cell? ⟨w.heap.size, 0, none⟩ = some (.pointer (some ⟨P.g, 0, none⟩))
  xb : X.cell? ⟨w.heap.size + 1, 0, none⟩ = some (.int .i64 x)
  nm : Bx 41 X (w.heap.size + 1 + 1) v0
  row : X.ownsRow (w.heap.size + 4) 32 1 v' xs.length (xs.map (Value.int .u32))
  ct : Bx 3 X (w.heap.size + 1 + 1 + 1) (.int .i64 (C0 : Nat))
  sz : w.heap.size + 4 ≤ X.heap.size
  bel : Below w.heap.size w X
theorem HvI.app {w : World} {P : IvP} {kf : S3 → Nat} {E : List Int} {row row2 A : List S3} {x : Int} {ks : List Nat} {X X' : World} {v0 v' : Value} {xs : List Int} (h : HvI w P kf E row row2 A x ks X) (hv : Bx 41 X (w.heap.size + 1 + 1) v0) {n : Nat} {ys : List Value} (hr : X.ownsRow (w.heap.size + 4) 32 1 v0 n ys) (h1 : X'.ownsRow (w.heap.size + 4) 32 1 v' xs.length (xs.map (Value.int .u32))) (h2 : X.grownBy X' v0.ownBlock) :
    HvP w P x (tchX kf (En E) row row2 A x ks) v0 v' xs X' := by
  have hne : ∀ k, k < w.heap.size + 4 → some k ≠ v0.ownBlock := fun k hk e => by have := own_geB hr k e.symm; omega
  have hs := h.sz
  have hb : ∀ k, k < w.heap.size + 4 → X'.heap[k]? = X.heap[k]? := fun k hk => h2.block k (by omega) (hne k hk)
  exact ⟨(World.cell?_of_block (w := X) (hb w.heap.size (by omega))).trans h.tb, (World.cell?_of_block (w := X) (hb (w.heap.size + 1) (by omega))).trans h.xb, (hb _ (by omega)).trans hv, h1, (hb _ (by omega)).trans h.ct, Nat.le_trans hs h2.size, h.bel.grown h2 h.bel.size (fun k e => by have := own_geB hr k e; omega)⟩
theorem HvP.put {w : World} {P : IvP} {kf : S3 → Nat} {E : List Int} {row row2 A : List S3} {x : Int} {ks : List Nat} {k C0 : Nat} {X : World} {v0 v' : Value} {xs : List Int} (h : HvP w P x C0 v0 v' xs X) (hx : xs = ids (toldX kf (En E) row row2 A x (ks ++ [k]))) (c : Nat) (hc : c = tchX kf (En E) row row2 A x (ks ++ [k])) :
    HvI w P kf E row row2 A x (ks ++ [k]) ((X.setCell ⟨w.heap.size + 1 + 1, 0, none⟩ v').setCell ⟨w.heap.size + 1 + 1 + 1, 0, none⟩ (.int .i64 c)) := by
  subst hx hc
  have hO : Off [w.heap.size + 1 + 1, w.heap.size + 1 + 1 + 1] X ((X.setCell ⟨w.heap.size + 1 + 1, 0, none⟩ v').setCell ⟨w.heap.size + 1 + 1 + 1, 0, none⟩ (.int .i64 (tchX kf (En E) row row2 A x (ks ++ [k]) : Nat))) := ((Off.refl _ X).set _ _ (.inl (by simp))).set _ _ (.inl (by simp))
  refine ⟨hO.cell h.tb (by simp <;> omega), hO.cell h.xb (by simp), ⟨v', (h.nm.set v').far (by show w.heap.size + 1 + 1 + 1 ≠ _; omega) _, row_off h.row hO (fun k hk => by simp at hk; omega)⟩, ?_, by have := h.sz; simpa using this, (h.bel.setCell (by show _ ≤ w.heap.size + 1 + 1; omega) _).setCell (by show _ ≤ w.heap.size + 1 + 1 + 1; omega) _⟩
  exact (h.ct.far (a := ⟨w.heap.size + 1 + 1, 0, none⟩) (by show w.heap.size + 1 + 1 ≠ _; omega) v').set _

set_option maxRecDepth 100000 in
set_option maxHeartbeats 3200000 in
theorem having1_any {w : World} {P : IvP} {E : List Int} {row RI FA row2 A : List S3} {x : Int} (hT : IvM w P E row RI FA A) (hI : IvI E row RI FA row2) {ks r : List Nat} {k : Nat} {X : World} (h : HvI w P (kn (En E) E.length) E row row2 A x ks X) (hk : k < E.length) (hp : px (sdx (En E) x) 0 E.length = ks ++ k :: r) :
    Calls Try.prog 67 #[.int .i64 (k : Nat), .pointer (some ⟨w.heap.size, 0, none⟩), .pointer (some ⟨w.heap.size + 1, 0, none⟩), .pointer (some ⟨w.heap.size + 1 + 1, 0, none⟩), .pointer (some ⟨w.heap.size + 1 + 1 + 1, 0, none⟩)] X fun e X' => e = .returned (.int .i64 (sdx (En E) x k)) ∧ HvI w P (kn (En E) E.length) E row row2 A x (ks ++ [k]) X' := by
  have hnd : (ks ++ [k]).Nodup := by
    have := px_once (sdx (En E) x) 0 E.length
    rw [hp, show ks ++ k :: r = (ks ++ [k]) ++ r by simp] at this
    exact this.sublist (List.sublist_append_left _ _)
  have htl : (toldX (kn (En E) E.length) (En E) row row2 A x (ks ++ [k])).length ≤ 400 := Nat.le_trans (told_len _ _ _ _ _ _ hI.perm hnd) hI.few.1
  have hkl : ks.length ≤ 800 := by
    have h1 := px_len (sdx (En E) x) (m := E.length) (M := E.length + 1) (Nat.le_refl _) (by have := hI.few.2; omega)
    rw [hp, List.length_append] at h1
    by_cases he : 2 ≤ E.length + 1
    · have h2 := (lg_spec (n := E.length + 1) he (by have := hI.few.2; omega)).2.1
      omega
    · rw [lg_small (by omega)] at h1; omega
  have htc := (tch_bounds (kn (En E) E.length) (En E) row row2 A x ks).2
  rw [toldX_snoc, List.length_append] at htl
  have hlk := lkd_le (stbB x) (atK (kn (En E) E.length) (En E) row row2 A x k)
  change (tl (kn (En E) E.length) (En E) row row2 A x k).length ≤ _ ∧ _ ≤ (tl (kn (En E) E.length) (En E) row row2 A x k).length + 1 at hlk
  obtain ⟨y, hy⟩ : ∃ y, E[k]? = some y := ⟨_, List.getElem?_eq_getElem hk⟩
  have hEn : En E k = y := by unfold En; rw [List.getD_eq_getElem?_getD, hy]; rfl
  obtain ⟨sd, hsd⟩ : ∃ sd, sd = sdx (En E) x k := ⟨_, rfl⟩
  have HSD := Lib.hid hsd
  have hX := hT.keep h.bel
  have hst : ∀ {i v}, (zs (mapR (E.length + 1) (stt (kn (En E) E.length) row)))[i]? = some v → X.cell? ⟨P.sb, i, none⟩ = some (.int .i64 v) := fun e => hX.stb.cell e
  have c1 := hst (zs_get _ (mapR_get (E.length + 1) (stt (kn (En E) E.length) row) (k := k) (by omega)))
  have c2 := hst (zs_get _ (mapR_get (E.length + 1) (stt (kn (En E) E.length) row) (k := k + 1) (by omega)))
  have hs1 := stt_le (kn (En E) E.length) row k
  have hs2 := stt_le (kn (En E) E.length) row (k + 1)
  -- the line that is gone through, by the side
  have hW : ∀ Y, Below X.heap.size X Y → Calls Try.prog 43 #[.pointer (some ⟨P.g, if 0 < sd then 6 else 3, none⟩), .int .i64 (stt (kn (En E) E.length) row k : Nat), .int .i64 (stt (kn (En E) E.length) row (k + 1) : Nat), .func (.func 69) #[] #[.pointer (some ⟨w.heap.size + 1, 0, none⟩)]] Y fun e Y' => (∃ v, e = .returned (.tuple #[v, .int .i64 (lkd (stbB x) (atK (kn (En E) E.length) (En E) row row2 A x k) : Nat)]) ∧ Y'.ownsRow Y.heap.size 32 1 v (ids (tl (kn (En E) E.length) (En E) row row2 A x k)).length ((ids (tl (kn (En E) E.length) (En E) row row2 A x k)).map (Value.int .u32))) ∧ Below Y.heap.size Y Y' := by
    intro Y hb
    have hY := hX.keep hb
    have hxb := (h.keep hb).xb
    have hso : ∀ Z s, Below Y.heap.size Y Z → Calls Try.prog 69 (#[tv s] ++ #[.pointer (some ⟨w.heap.size + 1, 0, none⟩)]) Z fun e Z' => e = .returned (.bool (stbB x s)) ∧ Below Z.heap.size Z Z' := fun Z s hz => hav11_any s x _ Z ((hz.cell (World.block_lt_of_cell? _ _ hxb)).trans hxb)
    have hst2 : stt (kn (En E) E.length) row2 k = stt (kn (En E) E.length) row k ∧ stt (kn (En E) E.length) row2 (k + 1) = stt (kn (En E) E.length) row (k + 1) := ⟨stt_perm hI.perm _, stt_perm hI.perm _⟩
    by_cases hs : 0 < sd
    · obtain ⟨R, O, hl⟩ := hY.fa
      have hlen := hI.fa.len
      have hle : (row2.length = row.length) := hI.perm.length_eq
      have := while_any hl (i := stt (kn (En E) E.length) row k) (k := stt (kn (En E) E.length) row (k + 1)) (by omega) (by omega) _ _ (stbB x) egS hso
      have e : sg FA A (stt (kn (En E) E.length) row k) (stt (kn (En E) E.length) row (k + 1)) = atK (kn (En E) E.length) (En E) row row2 A x k := by
        have hc := hI.fa.cut hk
        rw [hst2.1, hst2.2] at hc
        unfold sg atK
        rw [hc, if_pos (by rw [← hsd]; exact hs)]
      rw [e] at this
      rw [if_pos hs]
      exact this
    · obtain ⟨R, O, hl⟩ := hY.ri
      have hlen := hI.ri.len
      have := while_any hl (i := stt (kn (En E) E.length) row k) (k := stt (kn (En E) E.length) row (k + 1)) (by omega) (by omega) _ _ (stbB x) egS hso
      have e : sg RI A (stt (kn (En E) E.length) row k) (stt (kn (En E) E.length) row (k + 1)) = atK (kn (En E) E.length) (En E) row row2 A x k := by
        have hc := hI.ri.cut hk
        unfold sg atK
        rw [hc, if_neg (by rw [← hsd]; exact hs)]
      rw [e] at this
      rw [if_neg hs]
      exact this
  have HW := Lib.hid hW
  have HC : Hid (∀ Y, Calls Try.prog 68 #[.int .i64 x, .int .i64 y] Y fun e Y' => e = .returned (.int .i64 sd) ∧ Below Y.heap.size Y Y') := Lib.hid (fun Y => (cmp_any x y Y).mono fun e Y' hh => ⟨by rw [hh.1, hsd]; unfold cmpD sdx; rw [hEn], by rw [hh.2]; exact Below.refl _ _⟩)
  obtain ⟨eb, eo, hqe⟩ : ∃ eb eo, P.qe = some ⟨eb, eo, none⟩ := by
    rcases hX.en.ns with h0 | ⟨b, off, e, -⟩
    · rw [h0] at hy; simp at hy
    · exact ⟨b, off, e⟩
  have c3 := hX.en.cell
  have c4 : X.cell? ⟨eb, eo + k, none⟩ = some (.int .i64 y) := by
    rcases hX.en.ns with h0 | ⟨b, off, e, hn⟩
    · rw [h0] at hy; simp at hy
    · rw [hqe] at e; cases e; exact hn k y hy
  rw [hqe] at c3
  have c5 := hX.st
  have H := Lib.hid h
  have HTS := Lib.hid (toldX_snoc (kn (En E) E.length) (En E) row row2 A x ks k)
  have HCS := Lib.hid (tchX_snoc (kn (En E) E.length) (En E) row row2 A x ks k)
  have hfewE := hI.few.2
  have hfewR := hI.few.1
  have hsd3 : sd = -1 ∨ sd = 0 ∨ sd = 1 := by
    rw [hsd]; unfold sdx
    by_cases g1 : x < En E k
    · rw [if_pos g1]; exact .inl rfl
    · rw [if_neg g1]
      by_cases g2 : En E k < x
      · rw [if_pos g2]; exact .inr (.inr rfl)
      · rw [if_neg g2]; exact .inr (.inl rfl)
  rw [← hsd]
  have c6 := h.tb
  have c7 := h.xb
  clear hT hI h hp hnd hy hEn hsd hX hst hW hqe
  generalize kn (En E) E.length = kf at *
  generalize hs1' : stt kf row k = i1 at *
  generalize hs2' : stt kf row (k + 1) = i2 at *
  generalize htk : tl kf (En E) row row2 A x k = TK at *
  generalize hlkk : lkd (stbB x) (atK kf (En E) row row2 A x k) = lk at *
  clear hs1' hs2' htk hlkk
  generalize hm : E.length = m at *
  clear hm
  go_enter Try.func67, Try.ntmps67
  go_upto_region 1 with fail
  have a1 : ∀ z : Wd (Bw X), z.w.cell? ⟨P.sb, k, none⟩ = _ := fun z => Bw.cell z c1
  have a2 : ∀ z : Wd (Bw X), z.w.cell? ⟨P.sb, k + 1, none⟩ = _ := fun z => Bw.cell z c2
  have a3 : ∀ z : Wd (Bw X), z.w.cell? ⟨P.g, 1, none⟩ = _ := fun z => Bw.cell z c3
  have a4 : ∀ z : Wd (Bw X), z.w.cell? ⟨eb, eo + k, none⟩ = _ := fun z => Bw.cell z c4
  have a5 : ∀ z : Wd (Bw X), z.w.cell? ⟨P.g, 2, none⟩ = _ := fun z => Bw.cell z c5
  have a6 : ∀ z : Wd (Bw X), z.w.cell? ⟨w.heap.size, 0, none⟩ = _ := fun z => Bw.cell z c6
  have a7 : ∀ z : Wd (Bw X), z.w.cell? ⟨w.heap.size + 1, 0, none⟩ = _ := fun z => Bw.cell z c7
  have inst : Nonempty (Wd (Bw X)) := ⟨⟨X, Below.refl _ _⟩⟩
  refine wp_region_wd (Bw X) (by kernel_rfl) (by kernel_rfl) ((Below.refl _ X).drew) ?_
  repeat (first
    | go_big_quiet_step (first | (go_at_call 68; with_reducible exact calls_wd (fun _ _ h hb => h.keep hb) _ (HC.out _)))
    | quiet_step (first | (go_at_call 68; with_reducible exact calls_wd (fun _ _ h hb => h.keep hb) _ (HC.out _))))
  refine wpQuiet_nil ?_
  rintro _ ⟨z, rfl⟩
  have hmf : ∀ (fn : Fn) (first cap : Array Value) (w : World), (Instr.makeFunc fn first cap).run Try.prog w = .ok (.func fn first cap) w := fun _ _ _ _ => rfl
  have HBz := Lib.hid z.h
  have HX2 := Lib.hid (H.out.keep z.h)
  by_cases hpos : 0 < sd
  · rw [if_pos hpos] at HW
    have d6 := a6 z
    go_upto_region 4 with fail
    refine wp_region_qc (Bw X) 17 (by kernel_rfl) (by kernel_rfl) (z.h.drew) ?_
    simp only [List.take_succ_cons, List.take_zero, List.drop_succ_cons, List.drop_zero]
    repeat (first | go_big_quiet_step (fail) | quiet_step (fail))
    refine wpQuiet_nil ?_
    rintro _ ⟨z2, rfl⟩
    refine wpOp_call rfl rfl (f := 43) (args := #[.pointer (some ⟨P.g, 6, none⟩), .int .i64 i1, .int .i64 i2, .func (.func 69) #[] #[.pointer (some ⟨w.heap.size + 1, 0, none⟩)]]) ?_ ?_
    · simp [execOp, resolve, invoke, Act.eval, Deferred.ofValue, go_sem]
    · refine (HW.out _ z2.h).mono ?_
      rintro e w1 ⟨⟨v, rfl, hr⟩, hb⟩
      refine ⟨_, rfl, ?_⟩
      obtain ⟨hlen, q, cq, rfl, hq, hqc, -⟩ := row_u hr
      have HSRC := Lib.hid ((NS.src hq hqc))
      have HI1 := Lib.hid ((H.out.keep z2.h).keep hb)
      obtain ⟨v0, hv0, hr0⟩ := HI1.out.nm
      have b0 := hv0.cell
      have HV0 := Lib.hid hv0
      have HR0 := Lib.hid hr0
      have b2 := HI1.out.ct.cell
      have hsz1 := HI1.out.sz
      clear hr hb hq hqc hv0 hr0 hlen
      repeat (first | go_big_quiet_step (fail) | quiet_step (fail))
      refine wpQuiet_nil ?_
      rw [ids_len] at HSRC HR0 ⊢
      have HDL := Lib.hid (rfl : (toldX kf (En E) row row2 A x ks).length = (toldX kf (En E) row row2 A x ks).length)
      generalize hT0 : toldX kf (En E) row row2 A x ks = T0 at *
      generalize hC0 : tchX kf (En E) row row2 A x ks = C0 at *
      go_wp2_with (at_builtin; refine wpList_list info_u rfl (by decide) (by decide) Try.underlying41 _ rfl (.tmp 49) (.tmp 50) rfl (w.heap.size + 4) v0 T0.length _ rfl HR0.out q TK.length cq ((ids TK).map (Value.int .u32)) (by simp [Act.eval]) (by simp [ids]) HSRC.out (ints_one _ _) (by omega) (by omega) ?_; intro v' w' h1 h2 _; have hP := HI1.out.app HV0.out HR0.out (xs := ids T0 ++ ids TK) (by rw [List.length_append, ids_len, ids_len, List.map_append]; exact h1) h2; rw [hC0] at hP; obtain ⟨-, q2, c2, rfl, -⟩ := row_u hP.row; have HP := Lib.hid hP; have b0' := hP.nm.cell; have b1' := hP.nm.free; have b2' := hP.ct.cell; have b3' := hP.ct.free; clear h1 h2 hP b0 b2)
      go_ret
      refine ⟨rfl, ?_⟩
      have := HP.out.put (kf := kf) (E := E) (row := row) (row2 := row2) (A := A) (ks := ks) (k := k) (by rw [HTS.out, ids_app]) (C0 + (1 + lk)) (by rw [HCS.out])
      rw [List.length_append, show ((C0 + (1 + lk) : Nat) : Int) = (C0 : Int) + (1 + (lk : Int)) by omega] at this
      exact this
  · rw [if_neg hpos] at HW
    have d6 := a6 z
    go_upto_region 4 with fail
    refine wp_region_qc (Bw X) 17 (by kernel_rfl) (by kernel_rfl) (z.h.drew) ?_
    simp only [List.take_succ_cons, List.take_zero, List.drop_succ_cons, List.drop_zero]
    repeat (first | go_big_quiet_step (fail) | quiet_step (fail))
    refine wpQuiet_nil ?_
    rintro _ ⟨z2, rfl⟩
    refine wpOp_call rfl rfl (f := 43) (args := #[.pointer (some ⟨P.g, 3, none⟩), .int .i64 i1, .int .i64 i2, .func (.func 69) #[] #[.pointer (some ⟨w.heap.size + 1, 0, none⟩)]]) ?_ ?_
    · simp [execOp, resolve, invoke, Act.eval, Deferred.ofValue, go_sem]
    · refine (HW.out _ z2.h).mono ?_
      rintro e w1 ⟨⟨v, rfl, hr⟩, hb⟩
      refine ⟨_, rfl, ?_⟩
      obtain ⟨hlen, q, cq, rfl, hq, hqc, -⟩ := row_u hr
      have HSRC := Lib.hid ((NS.src hq hqc))
      have HI1 := Lib.hid ((H.out.keep z2.h).keep hb)
      obtain ⟨v0, hv0, hr0⟩ := HI1.out.nm
      have b0 := hv0.cell
      have HV0 := Lib.hid hv0
      have HR0 := Lib.hid hr0
      have b2 := HI1.out.ct.cell
      have hsz1 := HI1.out.sz
      clear hr hb hq hqc hv0 hr0 hlen
      repeat (first | go_big_quiet_step (fail) | quiet_step (fail))
      refine wpQuiet_nil ?_
      rw [ids_len] at HSRC HR0 ⊢
      have HDL := Lib.hid (rfl : (toldX kf (En E) row row2 A x ks).length = (toldX kf (En E) row row2 A x ks).length)
      generalize hT0 : toldX kf (En E) row row2 A x ks = T0 at *
      generalize hC0 : tchX kf (En E) row row2 A x ks = C0 at *
      go_wp2_with (at_builtin; refine wpList_list info_u rfl (by decide) (by decide) Try.underlying41 _ rfl (.tmp 49) (.tmp 50) rfl (w.heap.size + 4) v0 T0.length _ rfl HR0.out q TK.length cq ((ids TK).map (Value.int .u32)) (by simp [Act.eval]) (by simp [ids]) HSRC.out (ints_one _ _) (by omega) (by omega) ?_; intro v' w' h1 h2 _; have hP := HI1.out.app HV0.out HR0.out (xs := ids T0 ++ ids TK) (by rw [List.length_append, ids_len, ids_len, List.map_append]; exact h1) h2; rw [hC0] at hP; obtain ⟨-, q2, c2, rfl, -⟩ := row_u hP.row; have HP := Lib.hid hP; have b0' := hP.nm.cell; have b1' := hP.nm.free; have b2' := hP.ct.cell; have b3' := hP.ct.free; clear h1 h2 hP b0 b2)
      go_ret
      refine ⟨rfl, ?_⟩
      have := HP.out.put (kf := kf) (E := E) (row := row) (row2 := row2) (A := A) (ks := ks) (k := k) (by rw [HTS.out, ids_app]) (C0 + (1 + lk)) (by rw [HCS.out])
      rw [List.length_append, show ((C0 + (1 + lk) : Nat) : Int) = (C0 : Int) + (1 + (lk : Int)) by omega] at this
      exact this

/-- those that have x, at any tree: their names in a row of the call's own, how many things were touched -/
theorem having_any {w : World} {P : IvP} {E : List Int} {row RI FA row2 A : List S3} (x : Int) (hT : IvM w P E row RI FA A) (hI : IvI E row RI FA row2) :
    Calls Try.prog 41 #[.pointer (some ⟨P.g, 0, none⟩), .int .i64 x] w fun e w' => (∃ v, e = .returned (.tuple #[v, .int .i64 (tchX (kn (En E) E.length) (En E) row row2 A x (px (sdx (En E) x) 0 E.length) : Nat)]) ∧ w'.ownsRow w.heap.size 32 1 v (ids (toldX (kn (En E) E.length) (En E) row row2 A x (px (sdx (En E) x) 0 E.length))).length ((ids (toldX (kn (En E) E.length) (En E) row row2 A x (px (sdx (En E) x) 0 E.length))).map (Value.int .u32))) ∧ Below w.heap.size w w' := by
  obtain ⟨X, hX⟩ : ∃ X, X = (((w.alloc (.cells #[.pointer (some ⟨P.g, 0, none⟩)] 53)).alloc (.cells #[.int .i64 x] 2)).alloc (.cells #[.slice none 0 0] 41)).alloc (.cells #[.int .i64 0] 3) := ⟨_, rfl⟩
  have hV : HvI w P (kn (En E) E.length) E row row2 A x [] X := by
    obtain ⟨f0, f1, f2, f3, f4⟩ := four w (.cells #[.pointer (some ⟨P.g, 0, none⟩)] 53) (.cells #[.int .i64 x] 2) (.cells #[.slice none 0 0] 41) (.cells #[.int .i64 0] 3)
    rw [← hX] at f0 f1 f2 f3 f4
    exact ⟨Bx.cell (t := 53) f0, Bx.cell (t := 2) f1, ⟨.slice none 0 0, f2, World.ownsRow_nil ..⟩, f3, by rw [hX]; simp, f4⟩
  have hD := down_any X P.g P.qe E.length P.ce (hT.keep hV.bel).en.cell hT.en.few 67 #[.pointer (some ⟨w.heap.size, 0, none⟩), .pointer (some ⟨w.heap.size + 1, 0, none⟩), .pointer (some ⟨w.heap.size + 1 + 1, 0, none⟩), .pointer (some ⟨w.heap.size + 1 + 1 + 1, 0, none⟩)] (sdx (En E) x)
    (HvI w P (kn (En E) E.length) E row row2 A x) egH (fun _ _ _ hJ hb => hJ.keep hb) (fun ks k r Y hp hk hJ => having1_any hT hI hJ hk hp) hV
  rw [hX] at hD
  have HD := Lib.hid hD
  clear hD hV hX hT hI
  generalize px (sdx (En E) x) 0 E.length = ks at *
  generalize kn (En E) E.length = kf at *
  go_enter Try.func41, Try.ntmps41
  go_upto_region 4 with (go_at_call 66; (with_reducible refine HD.out.mono ?_); rintro e w1 ⟨rfl, hJ⟩; have HJ := Lib.hid hJ; clear hJ)
  obtain ⟨v, hv, hr⟩ := HJ.out.nm
  have c5 := hv.cell
  have c6 := HJ.out.ct.cell
  have HR := Lib.hid hr
  clear hv hr
  go_quiet (fail)
  go_wp2
  go_ret2
  refine ⟨⟨_, rfl, ?_⟩, drewB HJ.out.bel⟩
  refine row_at HR.out (fun k hk => ⟨rfl, ?_⟩)
  have := own_geB HR.out k hk
  omega
end Go.Proofs.Ytgcimicbbadapaa.Iv
