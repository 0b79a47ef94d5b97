/-
  A tree with bridges is made of right points (grown). No condition but those typed at each theorem.
-/
import Derived.Test.YtajpboclicnopaaGreatMKb
import Derived.Test.YtajpboclicnopaaGreatMKc
import Derived.Test.YtajpboclicnopaaGreatRo
import Derived.Test.YtajpboclicnopaaGreatBh
import Derived.Test.YtajpboclicnopaaGreatMN
import Derived.Deep.RegionLaw
namespace Go.Proofs.YtajpboclicnopaaGreat.Ca
open Go.RowKit Go.Sort Bd
/-- the same points in another order -/
theorem CaM.reA {w : World} {P : CaP} {RX LY A A' : List S3} (h : CaM w P RX LY A) (hp : A'.Perm A) : CaM w P RX LY A' :=
  ⟨by rw [hp.length_eq]; exact h.ev, h.row, h.lst, h.kv0, h.kv1, fun h0 => (h.kn h0).same (fun _ _ => hp.mem_iff), h.kt, h.dj, h.pl⟩
set_option maxRecDepth 100000 in
theorem rootc_any {w : World} {B m cap : Nat} {p : Option Addr} (c5 : w.cell? ⟨B, 5, none⟩ = some (.slice p m cap)) (h1 : 1 ≤ m) (h2 : m ≤ 1000) : Calls Tryz.prog 40 #[.pointer (some ⟨B, 0, none⟩)] w fun e w' => e = .returned (.int .i64 (m - 1 : Nat)) ∧ w' = w := by
  have hz : (m : Int) - 1 = (m - 1 : Nat) := by omega
  go_enter Tryz.func40, Tryz.ntmps40
  go_wp2
  go_ret
  exact ⟨by go_num, rfl⟩
/-- in the midst of the knots: the first ones are laid -/
structure GkM (w7 wr : World) (T : Nat) (va vn : Value) (n i : Nat) (ns : List Nd) (kv : Value) : Prop where
  rk : wr.ownsRow w7.heap.size 95 14 kv i (flatK (ns.take i))
  ev : EV 82 wr T (ccs (.pointer (some ⟨T, 0, none⟩)) va vn (.slice none 0 0) (.slice none 0 0) kv (.int .i64 n))
  off : Off [T] w7 wr
theorem GkM.keep {w7 wr w' : World} {T : Nat} {va vn : Value} {n i : Nat} {ns : List Nd} {kv : Value} (h : GkM w7 wr T va vn n i ns kv) (g : Below wr.heap.size wr w') : GkM w7 w' T va vn n i ns kv :=
  ⟨row_keep h.rk g, h.ev.keep g h.ev.lt, h.off.bel g⟩
theorem GkM.tne {w7 wr : World} {T : Nat} {va vn : Value} {n i : Nat} {ns : List Nd} {kv : Value} (h : GkM w7 wr T va vn n i ns kv) : some T ≠ kv.ownBlock := fun c => by
  obtain ⟨x, e⟩ := row_type h.rk c.symm
  exact types_ne h.ev e (by decide) rfl
theorem GkM.step {w7 W w6 : World} {T : Nat} {va vn : Value} {n i : Nat} {ns : List Nd} {kv : Value} {nd : Nd} {g cap : Nat} {o : Obj} (h : GkM w7 W T va vn n i ns kv) (hs : ns[i]? = some nd) (r1 : w6.ownsRow 0 95 14 (.slice (some ⟨g, 0, none⟩) (i + 1) cap) (i + 1) (flatK (ns.take i) ++ kz nd)) (r2 : (W.alloc o).grownBy w6 kv.ownBlock) (r3 : kv.ownBlock = some g ∨ g = (W.alloc o).heap.size) :
    GkM w7 (w6.setCell ⟨T, 5, none⟩ (.slice (some ⟨g, 0, none⟩) (i + 1) cap)) T va vn n (i + 1) ns (.slice (some ⟨g, 0, none⟩) (i + 1) cap) := by
  have hoff : Off kv.ownBlock.toList W w6 := ((Off.refl _ W).all _).grow r2 (fun k e => .inl (by simp [e]))
  have hE6 := EV.grown (h.ev.all o) r2 h.tne
  have hset := (Off.refl [T] w6).set ⟨T, 5, none⟩ (.slice (some ⟨g, 0, none⟩) (i + 1) cap) (.inl (by simp))
  have hgl : w7.heap.size ≤ g := r3.elim (fun e => (row_lt h.rk e).1) (fun e => by have := h.off.size; simp at e; omega)
  refine ⟨?_, hE6.set 5 _, (h.off.via hoff (fun x hx hm => by have := (row_lt h.rk (by simpa using hm)).1; omega)).trans hset⟩
  rw [List.take_add_one, hs, show ns.take i ++ (some nd).toList = ns.take i ++ [nd] from rfl, flatK_snoc]
  have h1 : w6.ownsRow w7.heap.size 95 14 (.slice (some ⟨g, 0, none⟩) (i + 1) cap) (i + 1) (flatK (ns.take i) ++ kz nd) := row_base' r1 (fun x hx => by simp [Value.ownBlock] at hx; subst hx; exact hgl)
  refine row_at h1 (fun x hx => ⟨hset.block x (row_lt h1 hx).2 (fun hm => ?_), (row_lt h1 hx).1⟩)
  obtain ⟨c1, e1⟩ := row_type h1 hx
  exact types_ne e1 hE6 (by decide) (List.mem_singleton.1 hm)
/-- in the midst of the points: the first ones are in the list, and seated -/
structure GsM (w8 wr : World) (T : Nat) (va vn kv : Value) (n i : Nat) (RX LY : List S3) (la ln vs : Value) : Prop where
  ls : OrR wr ky (LY.take i) la ln
  se : SeR wr w8.heap.size RX (LY.take i) vs
  ev : EV 82 wr T (ccs (.pointer (some ⟨T, 0, none⟩)) va vn la ln kv (.int .i64 n))
  nw : (∀ x, la.ownBlock = some x → w8.heap.size ≤ x) ∧ (∀ x, ln.ownBlock = some x → w8.heap.size ≤ x)
  off : Off [T] w8 wr
theorem GsM.keep {w8 wr w' : World} {T : Nat} {va vn kv : Value} {n i : Nat} {RX LY : List S3} {la ln vs : Value} (h : GsM w8 wr T va vn kv n i RX LY la ln vs) (g : Below wr.heap.size wr w') : GsM w8 w' T va vn kv n i RX LY la ln vs :=
  ⟨h.ls.keep g, h.se.keep g, h.ev.keep g h.ev.lt, h.nw, h.off.bel g⟩
/-- one point more is in the list, not yet seated -/
structure GtM (w8 wr : World) (T : Nat) (va vn kv : Value) (n i : Nat) (RX LY : List S3) (la ln vs : Value) : Prop where
  ls : OrR wr ky (LY.take (i + 1)) la ln
  se : SeR wr w8.heap.size RX (LY.take i) vs
  ev : EV 82 wr T (ccs (.pointer (some ⟨T, 0, none⟩)) va vn la ln kv (.int .i64 n))
  nw : (∀ x, la.ownBlock = some x → w8.heap.size ≤ x) ∧ (∀ x, ln.ownBlock = some x → w8.heap.size ≤ x)
  off : Off [T] w8 wr
theorem GsM.add {w8 W w5 : World} {T : Nat} {va vn kv : Value} {n i : Nat} {RX LY : List S3} {la ln vs la' ln' : Value} {s : S3} (h : GsM w8 W T va vn kv n i RX LY la ln vs) (hs : LY[i]? = some s) (hr : OrR w5 ky (LY.take i ++ [s]) la' ln') (hE : EV 82 w5 T (ccs (.pointer (some ⟨T, 0, none⟩)) va vn la' ln' kv (.int .i64 n))) (ho : Off (T :: (la.ownBlock.toList ++ ln.ownBlock.toList)) W w5) (h1 : Whr W la la') (h2 : Whr W ln ln') :
    GtM w8 w5 T va vn kv n i RX LY la' ln' vs := by
  have hsz := h.off.size
  refine ⟨by rw [List.take_add_one, hs]; exact hr, h.se.off ho (fun x hx hm => ?_), hE, ⟨fun x hx => (h1 x hx).elim (h.nw.1 x) (fun g => by omega), fun x hx => (h2 x hx).elim (h.nw.2 x) (fun g => by omega)⟩, h.off.via ho (fun k hk hm => ?_)⟩
  · obtain ⟨c, e⟩ := row_type h.se hx
    simp only [List.mem_cons, List.mem_append, Option.mem_toList] at hm
    rcases hm with rfl | hm | hm
    · exact types_ne e h.ev (by decide) rfl
    · obtain ⟨c', e'⟩ := row_type h.ls.ra hm; exact types_ne e e' (by decide) rfl
    · obtain ⟨c', e'⟩ := row_type h.ls.rn hm; exact types_ne e e' (by decide) rfl
  · simp only [List.mem_cons, List.mem_append, Option.mem_toList] at hm
    rcases hm with rfl | hm | hm
    · simp
    · have := h.nw.1 k hm; omega
    · have := h.nw.2 k hm; omega
theorem GtM.seat {w8 W w5 : World} {T : Nat} {va vn kv : Value} {n i : Nat} {RX LY : List S3} {la ln vs : Value} {s : S3} {g cap : Nat} {o : Obj} (h : GtM w8 W T va vn kv n i RX LY la ln vs) (hs : LY[i]? = some s) (hi : i ≤ LY.length) (r1 : w5.ownsRow 0 133 2 (.slice (some ⟨g, 0, none⟩) (i + 1) cap) (i + 1) (flatS RX (LY.take i) ++ stv RX s)) (r2 : (W.alloc o).grownBy w5 vs.ownBlock) (r3 : vs.ownBlock = some g ∨ g = (W.alloc o).heap.size) :
    GsM w8 w5 T va vn kv n (i + 1) RX LY la ln (.slice (some ⟨g, 0, none⟩) (i + 1) cap) := by
  have hoff : Off vs.ownBlock.toList W w5 := ((Off.refl _ W).all _).grow r2 (fun k e => .inl (by simp [e]))
  have hgl : w8.heap.size ≤ g := r3.elim (fun e => (row_lt h.se e).1) (fun e => by have := h.off.size; simp at e; omega)
  have tl : ∀ {t : TypeId} {c : Array Value} {x : Nat}, W.heap[x]? = some (.cells c t (0, 0)) → t ≠ 133 → x ∉ vs.ownBlock.toList := fun {t c x} e ht hm => by
    obtain ⟨c', e'⟩ := row_type h.se (by simpa using hm)
    exact types_ne e e' ht rfl
  refine ⟨h.ls.off hoff (fun x hx => by obtain ⟨c, e⟩ := row_type h.ls.ra hx; exact tl e (by decide)) (fun x hx => by obtain ⟨c, e⟩ := row_type h.ls.rn hx; exact tl e (by decide)), ?_, h.ev.off hoff (tl h.ev (by decide)), h.nw, h.off.via hoff (fun x hx hm => by have := (row_lt h.se (by simpa using hm)).1; omega)⟩
  rw [List.take_add_one, hs, show LY.take i ++ (some s).toList = LY.take i ++ [s] from rfl]
  show w5.ownsRow _ _ _ _ _ _
  rw [flatS_snoc, List.length_append, List.length_singleton, List.length_take, Nat.min_eq_left hi]
  exact row_base' r1 (fun x hx => by simp [Value.ownBlock] at hx; subst hx; exact hgl)
set_option maxRecDepth 100000 in
set_option maxHeartbeats 3200000 in
theorem cgrown_any (w : World) (p : Option Addr) (c : Nat) (L : List S3) (hx : TsS w p L) (hl : L.length ≤ 400) (hR : Rg L) :
    Calls Tryz.prog 37 #[.slice p L.length c] w fun e w' => ∃ P RX LY, e = .returned (.pointer (some ⟨P.B, 0, none⟩)) ∧ CaM w' P RX LY L ∧ RX.Perm L ∧ (∀ k ∈ cblk P RX.length, w.heap.size ≤ k) ∧ Below w.heap.size w w' := by
  have HX := Lib.hid hx
  have HRG := Lib.hid hR
  have HBX := Lib.hid (byX_any w p c L hx hl hR)
  have HSY := Lib.hid (fun X (hb : Below w.heap.size w X) => Ln.sorted_any p c X.heap.size L (X.alloc (.cells #[.slice p L.length c] 22)) (by simp) (one_new X _ _).1 ((hx.keep hb).keep ((Below.refl _ X).alloc (Nat.le_refl _) _)) (by omega) _ Ln.cY egY Ln.swoY (fun X s t => Ln.cY_any s t X))
  obtain ⟨n, hn⟩ : ∃ n, n = L.length := ⟨_, rfl⟩
  have HN := Lib.hid hn
  rw [← hn] at HSY HBX hl ⊢
  clear hx hR hn
  have HFN := Lib.hid (fun X => FNew_any X n (by omega))
  go_enter Tryz.func37, Tryz.ntmps37
  go_upto_region 2 with (go_at_call 47; (refine HBX.out.mono ?_); rintro e w1 ⟨va, vn, RX, rfl, h1, h2, h3, h4, h5⟩; obtain ⟨pa, ca, rfl, -, -⟩ := h1.ks; obtain ⟨pn, cn, rfl, -, -⟩ := h1.ns; have HO1 := Lib.hid h1; have HW1 := Lib.hid h2; have HP1 := Lib.hid h3; have HF1 := Lib.hid h4; have HB1 := Lib.hid h5; clear h1 h2 h3 h4 h5)
  obtain ⟨va, hva⟩ : ∃ va, va = Value.slice pa RX.length ca := ⟨_, rfl⟩
  obtain ⟨vn, hvn⟩ : ∃ vn, vn = Value.slice pn RX.length cn := ⟨_, rfl⟩
  rw [← hva, ← hvn] at HO1 HF1
  rw [← hva, ← hvn]
  clear hva hvn
  obtain ⟨T, hT⟩ : ∃ T, T = w1.heap.size := ⟨_, rfl⟩
  have HTT := Lib.hid hT
  obtain ⟨W, hW⟩ : ∃ W, W = w1.alloc (.cells #[.pointer none, va, vn, .slice none 0 0, .slice none 0 0, .slice none 0 0, .int .i64 n] 82) := ⟨_, rfl⟩
  rw [← hW, ← hT]
  have HV : Hid (EV 82 W T (ccs (.pointer none) va vn (.slice none 0 0) (.slice none 0 0) (.slice none 0 0) (.int .i64 n))) := Lib.hid (by rw [hW, hT]; exact heap_alloc_new w1 _)
  have HB0 : Hid (Below T w1 W) := Lib.hid (by rw [hW]; exact (Below.refl _ w1).alloc (by omega) _)
  have HLX : Hid (RX.length = n) := Lib.hid (by rw [HP1.out.length_eq, HN.out])
  clear hW hT
  have y0 := HV.out.cell (i := 0) rfl
  have f0 := HV.out.free 0
  go_upto_region 3 with fail
  clear y0 f0
  obtain ⟨W5, hW5⟩ : ∃ X, X = W.setCell ⟨T, 0, none⟩ (.pointer (some ⟨T, 0, none⟩)) := ⟨_, rfl⟩
  rw [← hW5]
  have HV5 : Hid (EV 82 W5 T (ccs (.pointer (some ⟨T, 0, none⟩)) va vn (.slice none 0 0) (.slice none 0 0) (.slice none 0 0) (.int .i64 n))) := Lib.hid (by rw [hW5]; exact HV.out.set 0 _)
  have HB5 : Hid (Below T w1 W5) := Lib.hid (by rw [hW5]; exact HB0.out.setCell (Nat.le_refl _) _)
  clear HV HB0 hW5
  have HO5 : Hid (OrR W5 kx RX va vn) := Lib.hid (HO1.out.keep (by rw [← HTT.out]; exact HB5.out))
  obtain ⟨nl, hnl⟩ : ∃ nl, nl = (ndN n).length := ⟨_, rfl⟩
  have HNL := Lib.hid hnl
  have HNL2 := Lib.hid (show nl = 2 * n - 1 by rw [hnl, ndN_len])
  have hnl3 : nl ≤ 1000 := by rw [hnl, ndN_len]; omega
  clear hnl
  go_upto_block 5 with (first
    | (go_at_call 48; (refine (HFN.out _).mono ?_); rintro e w6 ⟨rfl, hF, hb⟩; have HB6 := Lib.hid hb; have HE6 := Lib.hid (HV5.out.keep hb HV5.out.lt); have HND := Lib.hid (FNodes_any w6 W5.heap.size n [W5.heap.size] (.inl ⟨hF, rfl⟩) (by omega)); clear hF hb)
    | (go_at_call 49; (refine HND.out.mono ?_); rintro e w7 ⟨vv, rfl, bl', -, hoff, -, hrow, -⟩; rw [← HNL.out] at hrow; obtain ⟨-, pq, cq, rfl, hnds, -, hcq, -, hpq⟩ := row_nds hrow; have HO7 := Lib.hid hoff; have HNS := Lib.hid hnds; have HRW := Lib.hid hrow; have HPQ := Lib.hid hpq; clear hoff hrow hnds hpq))
  have HTW5 : Hid (T < W5.heap.size) := Lib.hid HV5.out.lt
  have HE7 : Hid (EV 82 w7 T (ccs (.pointer (some ⟨T, 0, none⟩)) va vn (.slice none 0 0) (.slice none 0 0) (.slice none 0 0) (.int .i64 n))) := Lib.hid (HE6.out.off HO7.out (by have := HTW5.out; simp; omega))
  have HB67 : Hid (Below W5.heap.size W5 w7) := Lib.hid (HB6.out.trans (HO7.out.below HB6.out.size (by simp)))
  have HB7 : Hid (Below T w1 w7) := Lib.hid (HB5.out.trans (HB67.out.mono (by rw [HTT.out]; exact HB5.out.size)))
  have HQT : Hid (∀ b off, pq = some ⟨b, off, none⟩ → ndN n ≠ [] → b ∉ [T]) := Lib.hid (fun b off e _ hm => by
    rcases HPQ.out with e0 | ⟨g, e0, -⟩
    · rw [e0] at e; cases e
    · rw [e0] at e
      injection e with e
      injection e with e
      subst e
      have h1 := (row_lt HRW.out (k := g) (by rw [e0]; rfl)).1
      have h2 := HB6.out.size
      have h3 := HTW5.out
      rw [List.mem_singleton.1 hm] at h1
      omega)
  have HG0 : Hid (GkM w7 w7 T va vn n 0 (ndN n) (.slice none 0 0)) := Lib.hid ⟨World.ownsRow_nil .., HE7.out, Off.refl _ _⟩
  clear HE6 HE7 HND HRW HPQ HV5 HO7 HB6
  go_loopw [32] (fun iv wr => ∃ (i : Nat) (kv : Value), i ≤ nl ∧ iv = .int .i64 i ∧ Hid (GkM w7 wr T va vn n i (ndN n) kv) ∧ Hid (i = 0 → kv = .slice none 0 0)) (fun iv _ => nl - (intOf iv).toNat)
  case atStart => exact ⟨0, _, Nat.zero_le _, rfl, HG0, Lib.hid (fun _ => rfl)⟩
  case round =>
    clear HG0
    obtain ⟨i, kv, hi, rfl, HG, HKZ⟩ := hrel
    by_cases hlt : i < nl
    · have hltz : (i : Int) < nl := by omega
      obtain ⟨nd, hnd⟩ : ∃ nd, (ndN n)[i]? = some nd := ⟨_, List.getElem?_eq_getElem (by rw [← HNL.out]; exact hlt)⟩
      obtain ⟨bb, off, rfl, h1⟩ := (HNS.out.off HG.out.off HQT.out).at hnd
      have k0 := h1.c0
      have k1 := h1.c1
      have k2 := h1.c2
      have k3 := h1.c3
      have k4 := h1.c4
      have k5 := h1.c5
      have k6 := h1.c6
      have HNDD := Lib.hid hnd
      obtain ⟨d0, d1, d2, d3, d4, d5, d6⟩ := nd
      simp only at k0 k1 k2 k3 k4 k5 k6
      clear h1 hnd
      go_upto_region 7 with fail
      obtain ⟨X, hXd⟩ : ∃ X, X = wr.alloc (.cells #[.int .u8 d0, .int .i64 d1, .int .i64 d2, .int .i64 d3, .int .i64 d4, .int .i64 d5, .int .i64 d6] 85) := ⟨_, rfl⟩
      rw [← hXd]
      have hbx : Below wr.heap.size wr X := hXd ▸ (Below.refl _ wr).alloc (Nat.le_refl _) _
      have hEX : EV 85 X wr.heap.size [.int .u8 d0, .int .i64 d1, .int .i64 d2, .int .i64 d3, .int .i64 d4, .int .i64 d5, .int .i64 d6] := hXd ▸ heap_alloc_new wr _
      have HGX := Lib.hid (HG.out.keep hbx)
      have x0 := hEX.cell (i := 0) rfl
      have x1 := hEX.cell (i := 1) rfl
      have x2 := hEX.cell (i := 2) rfl
      have x3 := hEX.cell (i := 3) rfl
      have x4 := hEX.cell (i := 4) rfl
      have x5 := hEX.cell (i := 5) rfl
      have x6 := hEX.cell (i := 6) rfl
      have y5 := HGX.out.ev.cell (i := 5) rfl
      obtain ⟨tb, etb⟩ : ∃ tb, tb = wr.heap.size := ⟨_, rfl⟩
      rw [← etb] at x0 x1 x2 x3 x4 x5 x6
      rw [← etb]
      have HGD := Lib.hid (show GkM w7 X.drew T va vn n i (ndN n) kv from HGX.out.keep ((Below.refl _ X).drew))
      have HR4 : Hid (X.drew.ownsRow 0 95 14 kv i (flatK ((ndN n).take i))) := Lib.hid (row_base' HGD.out.rk (fun _ _ => Nat.zero_le _))
      have z5 : (X.alloc (.cells #[.int .u8 d0, .int .i64 d1, .int .i64 d2, .int .i64 d3, .int .i64 d4, .int .i64 d5, .int .i64 d6, .slice none 0 0, .slice none 0 0, .slice none 0 0, .int .i64 0, .slice none 0 0, .slice none 0 0, .slice none 0 0] 95)).cell? ⟨T, 5, none⟩ = some kv := cell_al _ y5
      clear hXd hbx hEX k0 k1 k2 k3 k4 k5 k6 etb HG
      go_region_law (go_loud (refine step_long info_knot rfl (by decide) under_knots rfl (.tmp 40) (.tmp 43) rfl kv i _ (by simp [Act.eval]) (by exact HR4.out.alloc _) ⟨X.heap.size, 0, none⟩ 1 1 (kz (d0, d1, d2, d3, d4, d5, d6)) (by simp [Act.eval]) rfl (by exact lit_atB X [.int .u8 d0, .int .i64 d1, .int .i64 d2, .int .i64 d3, .int .i64 d4, .int .i64 d5, .int .i64 d6, .slice none 0 0, .slice none 0 0, .slice none 0 0, .int .i64 0, .slice none 0 0, .slice none 0 0, .slice none 0 0] 95) (kz_one _) (by omega) (by omega) (by decide) ?_; intro g cap w6 r1 r2 r3; have R1 := Lib.hid r1; have R2 := Lib.hid r2; have R3 := Lib.hid r3; have hv6 := EV.grown (HGD.out.ev.all _) r2 HGD.out.tne; have m1 := hv6.cell (i := 5) rfl; have m2 := hv6.free 5; clear r1 r2 r3 hv6))
      all_goals (go_wp2_with fail)
      all_goals (
        go_roundw
        case rel => exact ⟨i + 1, _, by omega, by go_num, Lib.hid (HGD.out.step HNDD.out R1.out R2.out R3.out), Lib.hid (fun e => by omega)⟩
        case measure => simp [intOf]; omega)
    · have hltz : ¬ (i : Int) < nl := by omega
      obtain rfl : i = nl := by omega
      have HG1 : Hid (GkM w7 wr T va vn n i (ndN n) kv) := HG
      have HBW : Hid (Below w.heap.size w wr) := Lib.hid (by
        have hT := HTT.out
        have h0 := HB1.out.size
        have h1 := HB1.out.trans (HB7.out.mono (by rw [hT]; exact h0))
        exact h1.trans (HG.out.off.below h1.size (by simp; omega)))
      go_upto_block 11 with (first
        | (go_at_call 51; (with_reducible refine (Ln.values_any _ _ _ _).mono ?_); rintro e wa ⟨rfl, rfl⟩)
        | (go_at_call 50; (refine (HSY.out _ HBW.out).mono ?_); rintro e w8 ⟨q2, c2, LY, he, h1, h2, h3, h4, h5, h6, h7⟩; rw [← HN.out] at he; subst he; have HP2 := Lib.hid h1; have HW2 := Lib.hid (ord_y HRG.out h1 h2); have HT2 := Lib.hid h3; have HG2 := Lib.hid h5; have HB8 := Lib.hid (((Below.refl wr.heap.size wr).alloc (Nat.le_refl _) _).trans (h7.mono (by simp))); clear h1 h2 h3 h4 h5 h6 h7))
      have HGK := Lib.hid (HG1.out.keep HB8.out)
      have HLY : Hid (LY.length = n) := Lib.hid (by rw [HP2.out.length_eq, HN.out])
      have HPL : Hid (PlI RX LY) := Lib.hid ⟨HW1.out, HW2.out, HP1.out.trans HP2.out.symm, by have := HLX.out; omega⟩
      have HB8W : Hid (Below w.heap.size w w8) := Lib.hid (HBW.out.trans (HB8.out.mono HBW.out.size))
      have HOW : Hid (OrR w8 kx RX va vn) := Lib.hid (by
        have h1 := HO5.out.keep HB67.out
        have h2 := h1.off HG1.out.off (fun x hx hm => by have := (row_lt HO1.out.ra hx).2; rw [List.mem_singleton.1 hm, HTT.out] at this; omega) (fun x hx hm => by have := (row_lt HO1.out.rn hx).2; rw [List.mem_singleton.1 hm, HTT.out] at this; omega)
        exact h2.keep HB8.out)
      have HVT : Hid (∀ x, (va.ownBlock = some x ∨ vn.ownBlock = some x) → x ∉ [T]) := Lib.hid (fun x hx hm => by
        rcases hx with hx | hx
        · have := (row_lt HO1.out.ra hx).2; rw [List.mem_singleton.1 hm, HTT.out] at this; omega
        · have := (row_lt HO1.out.rn hx).2; rw [List.mem_singleton.1 hm, HTT.out] at this; omega)
      have HQ2 : Hid (∀ x off, q2 = some ⟨x, off, none⟩ → x ≠ T) := Lib.hid (fun x off e => by
        have h1 := HG2.out x off e
        have h2 := HG1.out.ev.lt
        simp at h1
        omega)
      have HS0 : Hid (GsM w8 w8 T va vn kv n 0 RX LY (.slice none 0 0) (.slice none 0 0) (.slice none 0 0)) := Lib.hid ⟨OrR.nil _ _, SeR.nil .., HGK.out.ev, ⟨fun x h => (by cases h), fun x h => (by cases h)⟩, Off.refl _ _⟩
      clear HG1 HB8 HG2 HSY HFN HBX HO5 HB67 HNS HQT HG
      go_loopw [8, 52] (fun vs jv wx => ∃ (j : Nat) (la ln : Value), j ≤ n ∧ jv = .int .i64 j ∧ Hid (GsM w8 wx T va vn kv n j RX LY la ln vs)) (fun _ jv _ => n - (intOf jv).toNat)
      case atStart => exact ⟨0, _, _, Nat.zero_le _, rfl, HS0⟩
      case round =>
        clear HS0
        obtain ⟨j, la, ln, hj, rfl, HS⟩ := hrel
        obtain ⟨pv, cv, evv, -⟩ := HS.out.se.shape
        have hll : (LY.take j).length = j := by rw [List.length_take, HLY.out]; omega
        rw [hll] at evv
        subst evv
        clear hll
        by_cases hjl : j < n
        · have hjz : (j : Int) < n := by omega
          obtain ⟨s, hse⟩ : ∃ s, LY[j]? = some s := ⟨_, List.getElem?_eq_getElem (by rw [HLY.out]; exact hjl)⟩
          obtain ⟨bb, off, rfl, h1⟩ := (HT2.out.off HS.out.off (fun x off e _ => by have := HQ2.out x off e; simp; exact this)).at hse
          have n0 := h1.c0
          have n1 := h1.c1
          have n2 := h1.c2
          have HSE := Lib.hid hse
          obtain ⟨sx, sy, si⟩ := s
          clear h1 hse
          go_upto_region 13 with fail
          obtain ⟨X, hXd⟩ : ∃ X, X = wr.alloc (.cells #[.int .i64 sx, .int .i64 sy, .int .u32 si] 34) := ⟨_, rfl⟩
          rw [← hXd]
          have hbx : Below wr.heap.size wr X := hXd ▸ (Below.refl _ wr).alloc (Nat.le_refl _) _
          have HET : Hid (EV 34 X wr.heap.size [.int .i64 sx, .int .i64 sy, .int .u32 si]) := Lib.hid (hXd ▸ heap_alloc_new wr _)
          have HSX := Lib.hid (HS.out.keep hbx)
          obtain ⟨tb, etb⟩ : ∃ tb, tb = wr.heap.size := ⟨_, rfl⟩
          rw [← etb] at HET ⊢
          clear n0 n1 n2 hXd hbx etb HS
          have hin : (sx, sy, si) ∈ RX := HPL.out.pm.mem_iff.2 (List.mem_of_getElem? HSE.out)
          obtain ⟨hid1, hid2⟩ := HPL.out.at_idx hin
          have HID2 : Hid (RX.idxOf (sx, sy, si) < RX.length) := Lib.hid hid2
          have HFI := Lib.hid (fun Z (hb : Below X.heap.size X Z) => by
            have hF := HSX.out.keep hb
            have := find_any (o := 1) (hF.ev.cell (i := 1) rfl) (hF.ev.cell (i := 2) rfl) (HOW.out.off hF.off (fun x hx => HVT.out x (.inl hx)) (fun x hx => HVT.out x (.inr hx))) HPL.out.ox (Nat.le_trans HPL.out.few (by decide)) sx si
            rw [show fnd kx RX sx si = (RX.idxOf (sx, sy, si), true) from fnd_yes HPL.out.ox (Nat.le_trans HPL.out.few (by decide)) hid1 rfl rfl] at this
            exact this)
          clear hin hid1 hid2
          have inst : Nonempty (Wd (Bw X)) := ⟨⟨X, Below.refl _ _⟩⟩
          have b0 : ∀ z : Wd (Bw X), z.w.cell? ⟨tb, 0, none⟩ = _ := fun z => Bw.cell z (HET.out.cell (i := 0) rfl)
          have b2 : ∀ z : Wd (Bw X), z.w.cell? ⟨tb, 2, none⟩ = _ := fun z => Bw.cell z (HET.out.cell (i := 2) rfl)
          have HFC := Lib.hid (fun z : Wd (Bw X) => HFI.out z.w z.h)
          refine wp_region_wd (Bw X) (by kernel_rfl) (by kernel_rfl) ((Below.refl _ X).drew) ?_
          repeat (first
            | go_big_quiet_step (first | (go_at_call 39; with_reducible exact calls_wd (fun _ _ h hb => h.keep hb) _ (HFC.out _)))
            | quiet_step (first | (go_at_call 39; with_reducible exact calls_wd (fun _ _ h hb => h.keep hb) _ (HFC.out _))))
          refine wpQuiet_nil ?_
          rintro _ ⟨z, rfl⟩
          have HS2 := Lib.hid (HSX.out.keep z.h)
          have HET2 := Lib.hid (HET.out.keep z.h HET.out.lt)
          generalize z.w = w2 at *
          clear b0 b2 HFC inst HSX HET HFI
          have HOA := Lib.hid (fun Y (hb : Below w2.heap.size w2 Y) => by
            have hS := HS2.out.keep hb
            exact oadd_any (s := (sx, sy, si)) (o := 3) hS.ev rfl rfl hS.ls (fun c => by obtain ⟨x, e⟩ := row_type hS.ls.ra c; exact types_ne hS.ev e (by decide) rfl) (fun c => by obtain ⟨x, e⟩ := row_type hS.ls.rn c; exact types_ne hS.ev e (by decide) rfl) (by rw [List.length_take]; omega))
          go_upto_region 14 with fail
          have inst : Nonempty (Wd (Bw w2)) := ⟨⟨w2, Below.refl _ _⟩⟩
          have b1 : ∀ z : Wd (Bw w2), z.w.cell? ⟨tb, 1, none⟩ = _ := fun z => Bw.cell z (HET2.out.cell (i := 1) rfl)
          have b2 : ∀ z : Wd (Bw w2), z.w.cell? ⟨tb, 2, none⟩ = _ := fun z => Bw.cell z (HET2.out.cell (i := 2) rfl)
          refine wp_region_qc (Bw w2) 7 (by kernel_rfl) (by kernel_rfl) ((Below.refl _ w2).drew) ?_
          simp only [List.take_succ_cons, List.take_zero, List.drop_succ_cons, List.drop_zero]
          repeat (first | go_big_quiet_step (fail) | quiet_step (fail))
          refine wpQuiet_nil ?_
          rintro _ ⟨z3, rfl⟩
          refine wpOp_callW rfl rfl (f := 63) (args := #[.pointer (some ⟨T, 3, none⟩), .int .i64 sy, .int .u32 si]) (by simp [execOp, resolve, invoke, Act.eval, Deferred.ofValue, go_sem]) ?_
          refine (HOA.out z3.w z3.h).mono ?_
          rintro e w5 ⟨rfl, la', ln', hr5, hE5, ho5, q1', q2'⟩
          refine ⟨_, rfl, ?_⟩
          refine wpQuiet_nil ?_
          have hS3 := HS2.out.keep (show Below w2.heap.size w2 z3.w from z3.h)
          have HT5 := Lib.hid (hS3.add HSE.out hr5 hE5 ho5 q1' q2')
          have HET5 := Lib.hid ((HET2.out.keep (show Below w2.heap.size w2 z3.w from z3.h) HET2.out.lt).off ho5 (fun hm => by
            have hX := HET2.out.keep (show Below w2.heap.size w2 z3.w from z3.h) HET2.out.lt
            simp only [List.mem_cons, List.mem_append, Option.mem_toList] at hm
            rcases hm with hm | hm | hm
            · exact types_ne hX hS3.ev (by decide) hm
            · obtain ⟨c', e'⟩ := row_type hS3.ls.ra hm; exact types_ne hX e' (by decide) rfl
            · obtain ⟨c', e'⟩ := row_type hS3.ls.rn hm; exact types_ne hX e' (by decide) rfl))
          have u2 := HET5.out.cell (i := 2) rfl
          clear hr5 hE5 ho5 q1' q2' b1 b2 inst HOA hS3 HS2 HET2
          have HSR5 : Hid (w5.ownsRow 0 133 2 (.slice pv j cv) j (flatS RX (LY.take j))) := Lib.hid (row_base' (by have := HT5.out.se; unfold SeR at this; rw [List.length_take, Nat.min_eq_left (by rw [HLY.out]; omega)] at this; exact this) (fun _ _ => Nat.zero_le _))
          go_wp2_with (at_builtin; refine wpList_more info_seat rfl (by decide) (by decide) under_seats _ rfl (.tmp 75) (.tmp 80) rfl (.slice pv j cv) j _ (by simp [Act.eval]) (HSR5.out.alloc _) ⟨w5.heap.size, 0, none⟩ 1 1 (stv RX (sx, sy, si)) (by simp [Act.eval]) rfl (stv_at RX (sx, sy, si) w5) (stv_one RX (sx, sy, si)) (by omega) (by decide) ?_; intro g8 cap8 w8' r1 r2 r3; have HS8 := Lib.hid (HT5.out.seat HSE.out (g := g8) (cap := cap8) (w5 := w8') (by rw [HLY.out]; omega) r1 r2 r3); clear r1 r2 r3)
          go_roundw
          case rel => exact ⟨j + 1, _, _, by omega, by go_num, HS8⟩
          case measure => simp [intOf]; omega
        · have hjz : ¬ (j : Int) < n := by omega
          obtain rfl : j = n := by omega
          have htk : LY.take j = LY := List.take_of_length_le (by rw [HLY.out]; exact Nat.le_refl _)
          have hS := HS.out
          have hls := hS.ls
          have hse := hS.se
          rw [htk] at hls hse
          have HLS := Lib.hid hls
          have HSE := Lib.hid hse
          have hoN := HOW.out.off hS.off (fun x hx => HVT.out x (.inl hx)) (fun x hx => HVT.out x (.inr hx))
          have HON := Lib.hid hoN
          have HBX : Hid (Below w.heap.size w wr) := Lib.hid (HB8W.out.trans (hS.off.below HB8W.out.size (by have := HTT.out; have := HB1.out.size; simp; omega)))
          clear hls hse hS hoN htk
          by_cases hn0 : j = 0
          · subst hn0
            have hnl0 : i = 0 := by have := HNL2.out; omega
            have hrx : RX.length = 0 := HLX.out
            go_wp2
            go_ret
            refine ⟨⟨T, T, va, vn, la, ln, kv, fun _ => ⟨⟨.slice none 0 0, 0, 0, 0, 0⟩, 0, .slice none 0 0⟩⟩, rfl, RX, ⟨LY, CaM.reA (A := LY) ⟨by rw [HLY.out]; exact HS.out.ev, HON.out, HLS.out, fun _ => HKZ.out hnl0, fun h => absurd hrx h, fun h => absurd hrx h, fun h => absurd hrx h, ⟨fun a b _ h => (by omega), fun a b _ h => (by omega)⟩, HPL.out⟩ HP2.out.symm⟩, HP1.out, fun x hx => ?_, HBX.out⟩
            have hT := HTT.out
            have h1 := HB1.out.size
            have h8 := HB8W.out.size
            unfold cblk at hx
            rw [hrx] at hx
            simp only [List.mem_cons, List.mem_append, List.mem_flatMap, Option.mem_toList, List.mem_range] at hx
            rcases hx with rfl | ((hx | hx) | (hx | hx)) | ⟨a, ha, -⟩
            · rw [hT]; exact h1
            · exact HF1.out.1 x hx
            · exact HF1.out.2 x hx
            · exact Nat.le_trans h8 (HS.out.nw.1 x hx)
            · exact Nat.le_trans h8 (HS.out.nw.2 x hx)
            · omega
          · have hnl1 : 1 ≤ i := by have := HNL2.out; omega
            have hrk := row_at HGK.out.rk (w' := wr) (base' := w7.heap.size) (fun x hx => ⟨HS.out.off.block x (row_lt HGK.out.rk hx).2 (fun hm => by
              obtain ⟨c1, e1⟩ := row_type HGK.out.rk hx
              exact types_ne e1 HGK.out.ev (by decide) (List.mem_singleton.1 hm)), (row_lt HGK.out.rk hx).1⟩)
            rw [List.take_of_length_le (by rw [← HNL.out]; exact Nat.le_refl _)] at hrk
            obtain ⟨g, cK, KVL, hkv, hgb, hEK, hget⟩ := row_ev hrk hnl1
            have HKT := Lib.hid hget
            have HEK := Lib.hid hEK
            have HGB := Lib.hid hgb
            subst hkv
            have c5 := HS.out.ev.cell (i := 5) rfl
            have HRT := Lib.hid (rootc_any (B := T) c5 hnl1 hnl3)
            have hTg : T ≠ g := types_ne HS.out.ev hEK (by decide)
            have hrt : rt 0 (tr j) = i - 1 := by have := HNL2.out; unfold rt; rw [lv_tr (by omega)]; omega
            have hKZ : KzT KVL (tr j) 0 0 := kzt_of (L := ndN j) (fun k nd e q u hu => hget _ _ (flatK_get _ e q u hu)) (SG.all j (by omega))
            have hsr : SeR wr 0 RX (SR RX LY 0 (0 + lv (tr j))) (.slice pv j cv) := by
              rw [lv_tr (by omega), Nat.zero_add, show SR RX LY 0 j = LY by have := SR_all HPL.out; rw [HLX.out] at this; exact this]
              exact row_base' HSE.out (fun _ _ => Nat.zero_le _)
            have HFL := Lib.hid (cfill_any HPL.out hTg (m := i) (cap := cK) (tr j) 0 0 (by rw [hrt]; omega) wr (.slice pv j cv) KVL hEK c5 hKZ hsr)
            rw [hrt] at HFL
            have HTG := Lib.hid hTg
            clear hrk hget hEK hgb c5 hTg hrt hKZ hsr HKT
            have hjp : (0 : Int) < j := by omega
            go_wp2_with (first
              | (go_at_call 40; (with_reducible refine HRT.out.mono ?_); rintro e wQ ⟨rfl, hQ⟩; subst wQ)
              | (go_at_call 64; (with_reducible refine HFL.out.mono ?_); rintro e wZ ⟨rfl, KV', ps, q1, q2, q3, q4, q5⟩; have HQ1 := Lib.hid q1; have HQ3 := Lib.hid q3; have HQ4 := Lib.hid q4; have HQ5 := Lib.hid q5; clear q1 q2 q3 q4 q5))
            go_ret
            have hrx : RX.length = j := HLX.out
            have hnl := HNL2.out
            have hT := HTT.out
            have h1 := HB1.out.size
            have h8 := HB8W.out.size
            have hX := HBX.out.size
            have hgs : ∀ {t : TypeId} {c : Array Value} {x : Nat}, wr.heap[x]? = some (.cells c t (0, 0)) → t ≠ 95 → x ∉ [g] := fun {t c x} e ht hm => types_ne e HEK.out ht (List.mem_singleton.1 hm)
            have hoff : ∀ {kf : S3 → Int} {M : List S3} {a b : Value}, OrR wr kf M a b → OrR wZ kf M a b := fun {kf M a b} ho => ho.off HQ5.out (fun x hx => by obtain ⟨c1, e1⟩ := row_type ho.ra hx; exact hgs e1 (by decide)) (fun x hx => by obtain ⟨c1, e1⟩ := row_type ho.rn hx; exact hgs e1 (by decide))
            have hszt : sz (tr j) = 2 * j - 1 := sz_tr (by omega)
            have hgw : w.heap.size ≤ g := by
              have h7 := HB7.out.size
              have := HGB.out
              omega
            refine ⟨⟨T, g, va, vn, la, ln, .slice (some ⟨g, 0, none⟩) i cK, ps⟩, RX, LY, rfl, CaM.reA (A := LY) ⟨by rw [HLY.out]; exact HS.out.ev.off HQ5.out (hgs HS.out.ev (by decide)), hoff HON.out, hoff HLS.out, fun h => absurd (hrx ▸ h) hn0, fun _ => ⟨cK, by rw [hrx, ← hnl]⟩, fun _ => by rw [hrx]; exact HQ3.out.done HPL.out HQ1.out, fun _ => ⟨_, HQ1.out⟩, by rw [hrx, ← hszt]; have := HQ4.out; rw [Nat.zero_add] at this; exact this, HPL.out⟩ HP2.out.symm, HP1.out, fun x hx => ?_, HBX.out.trans (HQ5.out.below HBX.out.size (by simp; exact hgw))⟩
            unfold cblk at hx
            rw [hrx] at hx
            simp only [List.mem_cons, List.mem_append, List.mem_flatMap, Option.mem_toList, List.mem_range] at hx
            rcases hx with rfl | ((hx | hx) | (hx | hx)) | ⟨a, ha, hx⟩
            · rw [hT]; exact h1
            · exact HF1.out.1 x hx
            · exact HF1.out.2 x hx
            · exact Nat.le_trans h8 (HS.out.nw.1 x hx)
            · exact Nat.le_trans h8 (HS.out.nw.2 x hx)
            · rcases hx with rfl | hx
              · exact hgw
              · exact Nat.le_trans hX (HQ3.out.lt a (Nat.zero_le _) (by rw [hszt]; omega) x hx).1
end Go.Proofs.YtajpboclicnopaaGreat.Ca
