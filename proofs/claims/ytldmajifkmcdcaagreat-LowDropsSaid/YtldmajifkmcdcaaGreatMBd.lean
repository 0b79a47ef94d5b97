/-
  A node's list in memory: how a list is made. No condition but those typed at each theorem.
-/
import Derived.Test.YtldmajifkmcdcaaGreatMBa
import Derived.Test.YtldmajifkmcdcaaGreatMA
import Derived.Test.YtldmajifkmcdcaaGreatMBb
import Derived.Test.YtldmajifkmcdcaaGreatBd
import Derived.Deep.RegionLaw
import Derived.Test.YtldmajifkmcdcaaGreatMO
namespace Go.Proofs.YtldmajifkmcdcaaGreat.Bd
open Go.RowKit Go.Sort
/-- a list's cells -/
def lcl (n z : Nat) (va : Value) (P : NmP) : List Value := va :: P.vn :: nmc n z P
/-- the eight cells written -/
def eight (X : World) (b : Nat) (u0 u1 u2 u3 u4 u5 u6 u7 : Value) : World := (((((((X.setCell ⟨b, 0, none⟩ u0).setCell ⟨b, 1, none⟩ u1).setCell ⟨b, 2, none⟩ u2).setCell ⟨b, 3, none⟩ u3).setCell ⟨b, 4, none⟩ u4).setCell ⟨b, 5, none⟩ u5).setCell ⟨b, 6, none⟩ u6).setCell ⟨b, 7, none⟩ u7
end Go.Proofs.YtldmajifkmcdcaaGreat.Bd
/-
  The nodes' lists laid one behind the other: what stands in the midst of it; an append of long elements. No condition but those typed at each theorem.
-/
namespace Go.Proofs.YtldmajifkmcdcaaGreat.Bd
open Go.RowKit Go.Sort
theorem run_long {P : Program} {e : TypeId} {z : Value} {size bytes : Nat} (hi : (P.info? e).map (fun i => (i.zero, i.size, i.bytes)) = some (some z, size, bytes)) (hzs : z.cells.size = size) (hsz : 0 < size)
    {t : TypeId} (ht : P.underlying t = some (.slice e)) (ty : TypeId) (w : World) (v : Value) (n : Nat) (xs : List Value) (hown : w.ownsRow 0 e size v n xs) (a : Addr) (m c : Nat) (news : List Value) (hl : news.length = m * size)
    (hnews : ∀ j u, news[j]? = some u → w.cell? (a.add j) = some u) (h1 : ∀ u ∈ news, u.oneCell' = true) (hn : n + m ≤ 100000) (hb : (n + m) * bytes ≤ 6400000) (hm : 0 < m) :
    ∃ g cap w', (Builtin.append_ #[t, t] ty #[v, .slice (some a) m c]).run P w = .ok (.slice (some ⟨g, 0, none⟩) (n + m) cap) w' ∧ w'.ownsRow 0 e size (.slice (some ⟨g, 0, none⟩) (n + m) cap) (n + m) (xs ++ news) ∧ w.grownBy w' v.ownBlock ∧ (v.ownBlock = some g ∨ g = w.heap.size) := by
  obtain ⟨i0, hi0, hz0, hz1, hz2⟩ := info_parts hi
  have hmx : maxLen = 9223372036854775807 := rfl
  obtain ⟨v', w', hr, h2, h3, -⟩ := run_append_own (P := P) w 0 t ty e i0 z size bytes ht hi0 hz0 hz1 hz2 hzs hsz v n xs hown a m c news hl hnews h1 (by omega) (by omega) (Nat.zero_le _)
  have hblk := append_block (P := P) ht hi0 hz0 hz1 hz2 hown hl hnews h1 (by omega) (by omega) hm hr
  rcases h2.2 with ⟨rfl, h4⟩ | ⟨g, cap, cur, rfl, _⟩
  · omega
  · exact ⟨g, cap, w', hr, h2, h3, hblk g rfl⟩
theorem step_long {P : Program} {e : TypeId} {z : Value} {size bytes : Nat} (hi : (P.info? e).map (fun i => (i.zero, i.size, i.bytes)) = some (some z, size, bytes)) (hzs : z.cells.size = size) (hsz : 0 < size)
    {t : TypeId} (ht : P.underlying t = some (.slice e)) {w : World} {ops : Array Oper} {o : Oper} {a : Act} {K : Act → World → Prop} {Q : Exit → Act → World → Prop} {E : Prop} (hg : o.guard = none) (s x : Operand) (hop : o.op = Op.call { callee := Callee.builtin Builtin.append, args := #[s, x], argTypes := #[t, t] })
    (v : Value) (n : Nat) (xs : List Value) (hs : a.eval s = v) (hown : w.ownsRow 0 e size v n xs) (ad : Addr) (m c : Nat) (news : List Value) (hx : a.eval x = .slice (some ad) m c) (hl : news.length = m * size)
    (hnews : ∀ j u, news[j]? = some u → w.cell? (ad.add j) = some u) (h1 : ∀ u ∈ news, u.oneCell' = true) (hn : n + m ≤ 100000) (hb : (n + m) * bytes ≤ 6400000) (hm : 0 < m)
    (hK : ∀ g cap w', w'.ownsRow 0 e size (.slice (some ⟨g, 0, none⟩) (n + m) cap) (n + m) (xs ++ news) → w.grownBy w' v.ownBlock → (v.ownBlock = some g ∨ g = w.heap.size) → K (a.put o.dst (.slice (some ⟨g, 0, none⟩) (n + m) cap)) w') :
    if Region.wanted o (yielded ops a.tmps) = true then Oper.wp P o a w K Q else E := by
  have hw : Region.wanted o (yielded ops a.tmps) = true := by simp [Region.wanted, hg]
  rw [if_pos hw]
  obtain ⟨g, cap, w', hr, r1, r2, r3⟩ := run_long hi hzs hsz ht o.type w v n xs hown ad m c news hl hnews h1 hn hb hm
  unfold Oper.wp execOp
  simp only [hop, resolve, invoke, builtin, Sem.run_bind, Sem.run_pure, Result.andThen_ok, List.map_toArray, List.map_cons, List.map_nil, hs, hx, hr]
  exact hK g cap w' r1 r2 r3
/-- a list's cells -/
def lc8 (l : Nat) (p : LsP) : List Value := lcl l p.z p.va p.np
/-- the lists, cell by cell, from the n-th on -/
def flatN (len : Nat → Nat) : Nat → List LsP → List Value
  | _, [] => []
  | n, p :: LL => lc8 (len n) p ++ flatN len (n + 1) LL
theorem flatN_len (len : Nat → Nat) : ∀ n LL, (flatN len n LL).length = LL.length * 8
  | _, [] => rfl
  | n, p :: LL => by rw [flatN, List.length_append, flatN_len len (n + 1) LL, List.length_cons]; simp [lc8, lcl, nmc]; omega
theorem flatN_get (len : Nat → Nat) {p : LsP} {i : Nat} (hi : i < 8) : ∀ {n : Nat} {LL : List LsP} {j : Nat}, LL[j]? = some p → (flatN len n LL)[j * 8 + i]? = (lc8 (len (n + j)) p)[i]?
  | n, [], j, h => by simp at h
  | n, q :: LL, 0, h => by
    simp at h
    subst h
    rw [flatN, List.getElem?_append_left (by simp [lc8, lcl, nmc]; omega)]
    simp
  | n, q :: LL, j + 1, h => by
    rw [flatN, List.getElem?_append_right (by simp [lc8, lcl, nmc]; omega)]
    have := flatN_get len hi (n := n + 1) (LL := LL) (j := j) (by simpa using h)
    rw [show (j + 1) * 8 + i - (lc8 (len n) q).length = j * 8 + i by simp [lc8, lcl, nmc]; omega, this, show n + 1 + j = n + (j + 1) by omega]
theorem flatN_snoc (len : Nat → Nat) (p : LsP) : ∀ n LL, flatN len n (LL ++ [p]) = flatN len n LL ++ lc8 (len (n + LL.length)) p
  | n, [] => by simp [flatN]
  | n, q :: LL => by
    rw [List.cons_append, flatN, flatN_snoc len p (n + 1) LL, flatN, List.append_assoc, List.length_cons, show n + 1 + LL.length = n + (LL.length + 1) by omega]
section
variable {w wr w' : World}  {RX LY : List S3} {cnt wt : Nat} {OV : List (Value × Value)} {LL : List LsP} {lv : Value}
end
end Go.Proofs.YtldmajifkmcdcaaGreat.Bd
/-
  The nodes' lists are filled. No condition but those typed at each theorem.
-/
namespace Go.Proofs.YtldmajifkmcdcaaGreat.Bd
open Go.RowKit Go.Sort
theorem lit_atB (W : World) (l : List Value) (t : TypeId) : ∀ j u, l[j]? = some u → (W.alloc (.cells l.toArray t)).cell? ((⟨W.heap.size, 0, none⟩ : Addr).add j) = some u := by
  intro j u e
  rw [Addr.add_lit, World.cell?_alloc_new]
  simpa using e
section
variable {w : World}  {RX LY : List S3}
end
end Go.Proofs.YtldmajifkmcdcaaGreat.Bd
/-
  Points put in a row by X (lists.ByX). No condition but those typed at each theorem.
-/
namespace Go.Proofs.YtldmajifkmcdcaaGreat.Bd
open Go.RowKit Go.Sort
theorem egX : ∀ args w, (callFunc 49 args).run Tryz.prog w = .ok (.enter 49 args) w := enters_of Tryz.func49 (by kernel_rfl) rfl
theorem egY : ∀ args w, (callFunc 68 args).run Tryz.prog w = .ok (.enter 68 args) w := enters_of Tryz.func68 (by kernel_rfl) rfl
/-- a sorted list of unlike names is strictly in order -/
theorem ord_x {L row : List S3} (hL : Rg L) (hp : row.Perm L) (h : row.Pairwise (fun s t => ¬ Ln.cX t s < 0)) : Ord kx row := by
  have hn : row.Pairwise (fun s t => s.2.2 ≠ t.2.2) := List.Pairwise.of_map (S := fun a b => a ≠ b) (·.2.2) (fun _ _ h => h) (Rg.perm hp.symm hL)
  refine (h.and hn).imp (fun {s t} hst => ?_)
  obtain ⟨h1, h2⟩ := hst
  rw [Ln.cX_neg] at h1
  show s.1 < t.1 ∨ s.1 = t.1 ∧ s.2.2 < t.2.2
  omega
theorem ord_y {L row : List S3} (hL : Rg L) (hp : row.Perm L) (h : row.Pairwise (fun s t => ¬ Ln.cY t s < 0)) : Ord ky row := by
  have hn : row.Pairwise (fun s t => s.2.2 ≠ t.2.2) := List.Pairwise.of_map (S := fun a b => a ≠ b) (·.2.2) (fun _ _ h => h) (Rg.perm hp.symm hL)
  refine (h.and hn).imp (fun {s t} hst => ?_)
  obtain ⟨h1, h2⟩ := hst
  rw [Ln.cY_neg] at h1
  show s.2.1 < t.2.1 ∨ s.2.1 = t.2.1 ∧ s.2.2 < t.2.2
  omega
noncomputable def rowD : TypeDesc := (Tryz.prog.underlying 64).get (by kernel_rfl)
set_option maxRecDepth 100000 in
set_option maxHeartbeats 6400000 in
theorem byX_any (w : World) (p : Option Addr) (c : Nat) (L : List S3) (hx : TsS w p L) (hl : L.length ≤ 400) (hR : Rg L) :
    Calls Tryz.prog 67 #[.slice p L.length c] w fun e w' => ∃ va vn RX, e = .returned (.agg #[va, vn]) ∧ OrR w' kx RX va vn ∧ Ord kx RX ∧ RX.Perm L ∧ ((∀ x, va.ownBlock = some x → w.heap.size ≤ x) ∧ (∀ x, vn.ownBlock = some x → w.heap.size ≤ x)) ∧ Below w.heap.size w w' := by
  have HX := Lib.hid hx
  have HRG := Lib.hid hR
  have HSX := Lib.hid (fun X (hb : Below w.heap.size w X) => Ln.sorted_any p c X.heap.size L (X.alloc (.cells #[.slice p L.length c] 22)) (by simp) (one_new X _ _).1 ((hx.keep hb).keep ((Below.refl _ X).alloc (Nat.le_refl _) _)) (by omega) _ Ln.cX egX Ln.swoX (fun X s t => Ln.cX_any s t X))
  obtain ⟨n, hn⟩ : ∃ n, n = L.length := ⟨_, rfl⟩
  have HN := Lib.hid hn
  rw [← hn] at HSX hl ⊢
  clear hx hR hn
  go_enter Tryz.func67, Tryz.ntmps67
  go_upto_region 2 with fail
  obtain ⟨W, hW⟩ : ∃ W, W = (w.alloc (.cells #[.slice none 0 0, .slice none 0 0] 64)).alloc (.cells #[.slice none 0 0, .slice none 0 0] 64) := ⟨_, rfl⟩
  rw [← hW]
  have HV0 : Hid (EV 64 W w.heap.size [.slice none 0 0, .slice none 0 0]) := Lib.hid (by rw [hW]; exact (Below.heap_alloc _ _ _ (by simp)).trans (heap_alloc_new w _))
  have HV : Hid (EV 64 W (w.heap.size + 1) [.slice none 0 0, .slice none 0 0]) := Lib.hid (by
    rw [hW]
    have := heap_alloc_new (w.alloc (.cells #[.slice none 0 0, .slice none 0 0] 64)) (.cells #[.slice none 0 0, .slice none 0 0] 64)
    rw [World.size_alloc] at this
    exact this)
  have HB0 : Hid (Below w.heap.size w W) := Lib.hid (by rw [hW]; exact ((Below.refl _ w).alloc (Nat.le_refl _) _).alloc (by simp) _)
  clear hW
  go_wp2_with (first
    | (go_at_call 48; (with_reducible refine (Ln.values_any _ _ _ _).mono ?_); rintro e wa ⟨rfl, rfl⟩)
    | (go_at_call 47; (refine (HSX.out _ HB0.out).mono ?_); rintro e w1 ⟨q1, c1, RX, he, h1, h2, h3, h4, h5, h6, h7⟩; rw [← HN.out] at he; subst he; have HP1 := Lib.hid h1; have HW1 := Lib.hid (ord_x HRG.out h1 h2); have HT1 := Lib.hid h3; have HG1 := Lib.hid h5; have HB51 := Lib.hid (((Below.refl W.heap.size W).alloc (Nat.le_refl _) _).trans (h7.mono (by simp))); clear h1 h2 h3 h4 h5 h6 h7))
  have HE1 : Hid (EV 64 w1 (w.heap.size + 1) [.slice none 0 0, .slice none 0 0]) := Lib.hid (HV.out.keep HB51.out HV.out.lt)
  have HE0 : Hid (EV 64 w1 w.heap.size [.slice none 0 0, .slice none 0 0]) := Lib.hid (HV0.out.keep HB51.out HV0.out.lt)
  have HB1 : Hid (Below w.heap.size w w1) := Lib.hid (HB0.out.trans (HB51.out.mono HB0.out.size))
  have HQ1 : Hid (∀ x off, q1 = some ⟨x, off, none⟩ → x ≠ w.heap.size + 1 ∧ x < w1.heap.size) := Lib.hid (fun x off e => by
    have h1 := HG1.out x off e
    have h2 := HV.out.lt
    simp at h1
    exact ⟨by omega, h1.2⟩)
  have HLX : Hid (RX.length = n) := Lib.hid (by rw [HP1.out.length_eq, HN.out])
  clear HV HV0 HB0 HB51 HG1 HSX
  go_loopw [10] (fun iv wr => ∃ (i : Nat) (va vn : Value), i ≤ n ∧ iv = .int .i64 i ∧ Hid (OrR wr kx (RX.take i) va vn) ∧ Hid (EV 64 wr (w.heap.size + 1) [va, vn]) ∧ Hid ((∀ x, va.ownBlock = some x → w1.heap.size ≤ x) ∧ (∀ x, vn.ownBlock = some x → w1.heap.size ≤ x)) ∧ Hid (Off [w.heap.size + 1] w1 wr)) (fun iv _ => n - (intOf iv).toNat)
  case atStart => exact ⟨0, _, _, Nat.zero_le _, rfl, Lib.hid (OrR.nil _ _), HE1, Lib.hid ⟨fun x h => (by cases h), fun x h => (by cases h)⟩, Lib.hid (Off.refl _ _)⟩
  case round =>
    obtain ⟨i, va, vn, hi, rfl, HO, HE, HF, HOF⟩ := hrel
    by_cases hlt : i < n
    · have hltz : (i : Int) < n := by omega
      obtain ⟨s, hse⟩ : ∃ s, RX[i]? = some s := ⟨_, List.getElem?_eq_getElem (by rw [HLX.out]; exact hlt)⟩
      obtain ⟨bb, off, rfl, h1⟩ := (HT1.out.off HOF.out (fun x off e _ => by have := HQ1.out x off e; simp; omega)).at hse
      have n0 := h1.c0
      have n1 := h1.c1
      have n2 := h1.c2
      have HSE := Lib.hid hse
      obtain ⟨sx, sy, si⟩ := s
      clear h1 hse
      go_upto_region 5 with fail
      obtain ⟨X, hXd⟩ : ∃ X, X = wr.alloc (.cells #[.int .i64 sx, .int .i64 sy, .int .u32 si] 34) := ⟨_, rfl⟩
      rw [← hXd]
      have hET : EV 34 X wr.heap.size [.int .i64 sx, .int .i64 sy, .int .u32 si] := hXd ▸ heap_alloc_new wr _
      have HXB : Hid (Below wr.heap.size wr X) := Lib.hid (hXd ▸ (Below.refl _ wr).alloc (Nat.le_refl _) _)
      have t0 := hET.cell (i := 0) rfl
      have t2 := hET.cell (i := 2) rfl
      obtain ⟨tb, etb⟩ : ∃ tb, tb = wr.heap.size := ⟨_, rfl⟩
      rw [← etb] at t0 t2
      rw [← etb]
      clear n0 n1 n2 hET hXd etb
      have HOA := Lib.hid (by
        have hO := HO.out.keep HXB.out
        have hE := HE.out.keep HXB.out HE.out.lt
        exact oadd_any (s := (sx, sy, si)) (o := 0) hE rfl rfl hO (fun c => by obtain ⟨x, e⟩ := row_type hO.ra c; exact types_ne hE e (by decide) rfl) (fun c => by obtain ⟨x, e⟩ := row_type hO.rn c; exact types_ne hE e (by decide) rfl) (by rw [List.length_take]; omega))
      have hsz : w1.heap.size ≤ X.heap.size := Nat.le_trans HOF.out.size HXB.out.size
      go_wp2_with (go_at_call 50; (refine HOA.out.mono ?_); rintro e w5 ⟨rfl, va', vn', hr5, hE5, ho5, q1', q2'⟩; have HO5 : Hid (OrR w5 kx (RX.take (i + 1)) va' vn') := Lib.hid (by rw [List.take_add_one, HSE.out]; exact hr5); have HE5 : Hid (EV 64 w5 (w.heap.size + 1) [va', vn']) := Lib.hid hE5; have HF5 : Hid ((∀ x, va'.ownBlock = some x → w1.heap.size ≤ x) ∧ (∀ x, vn'.ownBlock = some x → w1.heap.size ≤ x)) := Lib.hid ⟨fun x hx => (q1' x hx).elim (HF.out.1 x) (fun g => by omega), fun x hx => (q2' x hx).elim (HF.out.2 x) (fun g => by omega)⟩; have HOF5 : Hid (Off [w.heap.size + 1] w1 w5) := Lib.hid ((HOF.out.bel HXB.out).via ho5 (fun k hk hm => by
        simp only [List.mem_cons, List.mem_append, Option.mem_toList] at hm
        rcases hm with rfl | hm | hm
        · simp
        · have := HF.out.1 k hm; omega
        · have := HF.out.2 k hm; omega)); clear hr5 hE5 ho5 q1' q2')
      go_roundw
      case rel => exact ⟨i + 1, _, _, by omega, by go_num, HO5, HE5, HF5, HOF5⟩
      case measure => simp [intOf]; omega
    · have hltz : ¬ (i : Int) < n := by omega
      obtain rfl : i = n := by omega
      have HO : Hid (OrR wr kx RX va vn) := Lib.hid (by have := HO.out; rw [List.take_of_length_le (by have := HLX.out; omega)] at this; exact this)
      obtain ⟨pa, ca, rfl, -, -⟩ := HO.out.ks
      obtain ⟨pn, cn, rfl, -, -⟩ := HO.out.ns
      have HE0r : Hid (EV 64 wr w.heap.size [.slice none 0 0, .slice none 0 0]) := Lib.hid (HE0.out.off HOF.out (by simp))
      have m0 := HE.out.cell (i := 0) rfl
      have m1 := HE.out.cell (i := 1) rfl
      have f0 := HE0r.out.free 0
      have f1 := HE0r.out.free 1
      have d0 := HE0r.out.cell (i := 0) rfl
      have d1 := HE0r.out.cell (i := 1) rfl
      go_wp2
      refine bodyPost_ret (results_cell_row (p := 2) (ty := 64) rfl _ _ w.heap.size _ _ _ rowD rfl ((HE0r.out.set 0 _).set 1 _) (Option.some_get _).symm (by kernel_rfl) (by kernel_rfl)) rfl ?_
      have ho := ((Off.refl [w.heap.size] wr).set ⟨w.heap.size, 0, none⟩ (.slice pa RX.length ca) (.inl (by simp))).set ⟨w.heap.size, 1, none⟩ (.slice pn RX.length cn) (.inl (by simp))
      have hwr : Below w.heap.size w wr := HB1.out.trans (HOF.out.below HB1.out.size (by simp))
      exact ⟨.slice pa RX.length ca, .slice pn RX.length cn, rfl, RX, HO.out.off ho (fun x hx hm => by
        obtain ⟨c', e'⟩ := row_type HO.out.ra hx
        simp only [List.mem_singleton] at hm
        exact types_ne e' HE0r.out (by decide) hm) (fun x hx hm => by
        obtain ⟨c', e'⟩ := row_type HO.out.rn hx
        simp only [List.mem_singleton] at hm
        exact types_ne e' HE0r.out (by decide) hm), HW1.out, HP1.out, ⟨fun x hx => Nat.le_trans HB1.out.size (HF.out.1 x hx), fun x hx => Nat.le_trans HB1.out.size (HF.out.2 x hx)⟩, hwr.trans (ho.below hwr.size (by simp))⟩
end Go.Proofs.YtldmajifkmcdcaaGreat.Bd
