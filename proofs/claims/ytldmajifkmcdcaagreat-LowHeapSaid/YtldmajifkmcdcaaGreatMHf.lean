/-
  A point is put where the first place is free on the way to its leaf (put). No condition but those typed at each theorem.
-/
import Derived.Test.YtldmajifkmcdcaaGreatMHd
import Derived.Test.YtldmajifkmcdcaaGreatMBb
import Derived.Test.YtldmajifkmcdcaaGreatMA
import Derived.Test.YtldmajifkmcdcaaGreatMN
import Derived.Test.YtldmajifkmcdcaaGreatMBa
import Derived.Test.YtldmajifkmcdcaaGreatLt
import Derived.Test.YtldmajifkmcdcaaGreatBd
import Derived.Test.YtldmajifkmcdcaaGreatMBd
import Derived.Deep.RegionLaw
import Derived.Test.YtldmajifkmcdcaaGreatMHe
import Derived.Test.YtldmajifkmcdcaaGreatPg
import Derived.Test.YtldmajifkmcdcaaGreatMH
namespace Go.Proofs.YtldmajifkmcdcaaGreat.Hp
open Go.RowKit Go.Sort Bd
/-- one point more is there, in this block -/
def qbN (qb : S3 → Nat) (s : S3) (b : Nat) : S3 → Nat := fun x => if x = s then b else qb x
section
variable {w w' : World} {P : HpP} {RX D : List S3} {c : Int} {g : Nat → Option S3}
set_option maxRecDepth 100000 in
set_option maxHeartbeats 3200000 in
theorem hput_any (h : HoM w P RX c) (hK : KnM w P.kb RX.length P.qb D g) {cap : Nat} (hkv : P.kv = .slice (some ⟨P.kb, 0, none⟩) (2 * RX.length - 1) cap) (s : S3) (hs : s ∈ RX) (hD : s ∉ D) :
    Calls Tryz.prog 69 #[.pointer (some ⟨P.B, 0, none⟩), tv s] w fun e w' => e = .returned (.tuple #[]) ∧ ∃ g', KnM w' P.kb RX.length (qbN P.qb s w.heap.size) (D ++ [s]) g' ∧ Off [P.kb] w w' ∧ rd g' 0 (tr RX.length) = putT s (RX.idxOf s) 0 (rd g 0 (tr RX.length)) := by
  have hx := h.idx hs
  have HO := Lib.hid (fun X (hb : Below w.heap.size w X) => over_any (h.keep hb) s hx)
  have c4 := h.ev.cell (i := 4) rfl
  rw [hkv] at c4
  have hi := List.idxOf_lt_length_of_mem hs
  have hf := h.few
  have HIN : Hid (∀ k ∈ pt (RX.idxOf s) (tr RX.length) 0 0, k < 2 * RX.length - 1) := Lib.hid (fun k hk => by
    have := (pt_in _ _ _ k hk).2
    unfold sz at this
    rw [lv_tr (by omega)] at this
    omega)
  have hLn : (pt (RX.idxOf s) (tr RX.length) 0 0).length ≤ 400 := Nat.le_trans (pt_len _ _ _) (by rw [lv_tr (by omega)]; exact hf)
  have HK := Lib.hid hK
  have HD := Lib.hid hD
  have HSZ := Lib.hid h.ev.lt
  have HWAY := Lib.hid (put_way (g := g) (s := s) (p := RX.idxOf s) (tr RX.length) 0 0)
  obtain ⟨m, hmm⟩ : ∃ m, m = 2 * RX.length - 1 := ⟨_, rfl⟩
  have hm2 : m ≤ 1000 := by omega
  rw [← hmm] at c4 HIN
  obtain ⟨L, hL⟩ : ∃ L, L = pt (RX.idxOf s) (tr RX.length) 0 0 := ⟨_, rfl⟩
  rw [← hL] at HO HIN hLn HWAY
  simp only [if_true] at HO
  obtain ⟨n, hn⟩ : ∃ n, n = L.length := ⟨_, rfl⟩
  have HN := Lib.hid hn
  have HMM := Lib.hid hmm
  rw [← hn] at hLn HO
  -- the point's own block
  have HADD := Lib.hid (fun X (hb : Below w.heap.size w X) (hE : EV 34 X w.heap.size (tvs s)) => (hK.keep hb).add hD hE)
  change Hid (∀ X, Below w.heap.size w X → EV 34 X w.heap.size (tvs s) → KnM X P.kb RX.length (qbN P.qb s w.heap.size) (D ++ [s]) g) at HADD
  have HQB : Hid (hv (qbN P.qb s w.heap.size) (some s) = .pointer (some ⟨w.heap.size, 0, none⟩)) := Lib.hid (by simp [hv, qbN])
  have HMEM : Hid (s ∈ D ++ [s]) := Lib.hid (by simp)
  obtain ⟨x, yy, id⟩ := s
  unfold tv at HO ⊢
  unfold tvs at HADD
  simp only at HO HADD ⊢
  clear h hK hkv hx hi hf hmm hL hn hs hD
  go_enter Tryz.func69, Tryz.ntmps69
  obtain ⟨Y, hY⟩ : ∃ Y, Y = w.alloc (.cells #[.int .i64 x, .int .i64 yy, .int .u32 id] 34) := ⟨_, rfl⟩
  have hE1 : EV 34 Y w.heap.size [.int .i64 x, .int .i64 yy, .int .u32 id] := hY ▸ heap_alloc_new w _
  have hYB : Below w.heap.size w Y := hY ▸ (Below.refl _ w).alloc (Nat.le_refl _) _
  go_upto_region 1 with fail
  rw [← hY]
  clear hY
  have HYB := Lib.hid hYB
  have HE1 := Lib.hid hE1
  have k0 := hE1.cell (i := 0) rfl
  have k1 := hE1.cell (i := 1) rfl
  have k2 := hE1.cell (i := 2) rfl
  clear hE1 hYB
  go_wp2_with (go_at_call 70; (refine (HO.out Y HYB.out).mono ?_); rintro e w1 ⟨v, rfl, hr, hb⟩; obtain ⟨hl2, p2, c2, rfl, hn2, hp2, hc2⟩ := row_u (k := .i64) (xs := ints L) hr; have HB1 := Lib.hid (HYB.out.trans (hb.mono HYB.out.size)); have HR1 := Lib.hid hn2; have HE2 := Lib.hid (HE1.out.keep hb HE1.out.lt); clear hr hb hn2 hp2 hl2)
  clear k0 k1 k2 HE1 HYB HO
  go_loopw [11] (fun iv wr => ∃ j : Nat, j ≤ n ∧ iv = .int .i64 j ∧ Hid (∀ k ∈ L.take j, g k ≠ none) ∧ Hid (Below w1.heap.size w1 wr)) (fun iv _ => n - (intOf iv).toNat)
  case atStart => exact ⟨0, Nat.zero_le _, rfl, Lib.hid (by simp), Lib.hid (Below.refl _ _)⟩
  case round =>
    obtain ⟨j, hj, rfl, HS, HB⟩ := hrel
    have HBW := Lib.hid (HB1.out.trans (HB.out.mono HB1.out.size))
    have HKW := Lib.hid (HADD.out wr HBW.out (HE2.out.keep HB.out HE2.out.lt))
    by_cases hlt : j < n
    · have hltz : (j : Int) < n := by omega
      obtain ⟨k, hk⟩ : ∃ k, L[j]? = some k := ⟨_, List.getElem?_eq_getElem (by rw [← HN.out]; exact hlt)⟩
      have HKM := Lib.hid (HIN.out k (List.mem_of_getElem? hk))
      have hkm := HKM.out
      rcases HR1.out with h0 | ⟨bb, off, rfl, h1⟩
      · have : (ints L)[j]? = some (k : Int) := by unfold ints; rw [List.getElem?_map, hk]; rfl
        rw [h0] at this; simp at this
      have n0 := (HB.out.cell (World.block_lt_of_cell? _ _ (h1 j k (by unfold ints; rw [List.getElem?_map, hk]; rfl)))).trans (h1 j k (by unfold ints; rw [List.getElem?_map, hk]; rfl))
      have HJK := Lib.hid hk
      have d4 := (HBW.out.cell HSZ.out).trans c4
      have n7 := HKW.out.hc (k := k) (by have := HMM.out; omega)
      have f7 := HKW.out.free (k * 8 + 7)
      cases hg : g k with
      | none =>
        rw [hg] at n7
        simp only [hv] at n7
        have HFOUND : Hid (∃ M N, L = M ++ k :: N ∧ (∀ j ∈ M, g j ≠ none) ∧ g k = none) := Lib.hid ⟨L.take j, L.drop (j + 1), by
          obtain ⟨h2, h3⟩ := List.getElem?_eq_some_iff.1 HJK.out
          rw [← h3, List.getElem_cons_drop, List.take_append_drop], HS.out, hg⟩
        clear hk h1 hg
        go_wp2
        (try simp only [Exit.inBlock, Exit.then])
        refine bodyPost_ret (results_none rfl _ _ _) rfl ?_
        obtain ⟨M, N, q1, q2, q3⟩ := HFOUND.out
        have hup := HKW.out.up (k := k) (o := some (x, yy, id)) (by have := HMM.out; have := HKM.out; omega) (fun s e => by cases e; exact HMEM.out)
        rw [HQB.out] at hup
        refine ⟨rfl, _, hup, ((Off.of (S := [P.kb]) HBW.out (Nat.le_refl _))).set _ _ (.inl (by simp)), ?_⟩
        rcases HWAY.out with ⟨a1, -⟩ | ⟨M', k', N', a1, a2, a3, -, a5⟩
        · exact absurd q3 (a1 k (by rw [q1]; simp))
        · obtain rfl := first_same (p := fun j => g j = none) (q1.symm.trans a1) q2 q3 a2 a3
          exact a5
      | some u =>
        rw [hg] at n7
        have hvu : hv (qbN P.qb (x, yy, id) w.heap.size) (some u) = .pointer (some ⟨qbN P.qb (x, yy, id) w.heap.size u, 0, none⟩) := rfl
        rw [hvu] at n7
        generalize qbN P.qb (x, yy, id) w.heap.size u = qu at *
        have HNE : Hid (∀ k ∈ L.take (j + 1), g k ≠ none) := Lib.hid (fun a ha => by
          rw [List.take_add_one, HJK.out] at ha
          rcases List.mem_append.1 ha with ha | ha
          · exact HS.out a ha
          · obtain rfl : a = k := by simpa using ha
            rw [hg]; simp)
        clear hk h1 hg hvu
        go_wp2
        go_roundw
        case rel => exact ⟨j + 1, by omega, by go_num, HNE, HB⟩
        case measure => simp [intOf]; omega
    · have hltz : ¬ (j : Int) < n := by omega
      obtain rfl : j = n := by omega
      go_wp2
      go_end0
      refine ⟨rfl, g, HKW.out, Off.of HBW.out (Nat.le_refl _), ?_⟩
      have hall := HS.out
      rw [List.take_of_length_le (by rw [HN.out]; exact Nat.le_refl _)] at hall
      rcases HWAY.out with ⟨-, a2⟩ | ⟨M', k', N', a1, a2, a3, -, a5⟩
      · exact a2.symm
      · exact absurd a3 (hall k' (by rw [a1]; simp))
end
end Go.Proofs.YtldmajifkmcdcaaGreat.Hp
/-
  A tree of points with bridges, plain: who stands at a node, where a place of its list lies in its kids' lists, which nodes tell of a box, how many are entered. No condition but those typed at each theorem.
-/
namespace Go.Proofs.YtldmajifkmcdcaaGreat.Ca
open Go.RowKit Bd
/-- the points of the leaves from f on, ahead of e, by Y -/
def SR (RX LY : List S3) (f e : Nat) : List S3 := LY.filter (fun s => decide (f ≤ RX.idxOf s) && decide (RX.idxOf s < e))
section
variable {RX LY : List S3} {f m e : Nat}
end
/-- of how many it holds -/
def pre (P : S3 → Bool) (L : List S3) : Nat := (L.filter P).length
/-- below y, and up to y -/
def lo (y : Int) (s : S3) : Bool := decide (ky s < y)
def up (y : Int) (s : S3) : Bool := decide (ky s ≤ y)
section
variable {RX LY : List S3} {f m e : Nat}
end
/-- what is told of a tree's nodes: their places, and their leaves; and how many are entered -/
def en (RX LY : List S3) (P Q : S3 → Bool) (x y : Nat) : Tr → Nat → Nat → List (Nat × Nat × Nat) × Nat
  | .lf, b, f => if pre P (SR RX LY f (f + 1)) = pre Q (SR RX LY f (f + 1)) ∨ f + 1 ≤ x ∨ y ≤ f then ([], 1) else ([(b, f, f + 1)], 1)
  | .nd l r, b, f =>
    if pre P (SR RX LY f (f + (lv l + lv r))) = pre Q (SR RX LY f (f + (lv l + lv r))) ∨ f + (lv l + lv r) ≤ x ∨ y ≤ f then ([], 1)
    else if x ≤ f ∧ f + (lv l + lv r) ≤ y then ([(b + sz l + sz r, f, f + (lv l + lv r))], 1)
    else ((en RX LY P Q x y l b f).1 ++ (en RX LY P Q x y r (b + sz l) (f + lv l)).1, 1 + (en RX LY P Q x y l b f).2 + (en RX LY P Q x y r (b + sz l) (f + lv l)).2)
section
variable {RX LY : List S3} {P Q : S3 → Bool} {x y : Nat}
end
section
variable {RX LY A : List S3}
end
end Go.Proofs.YtldmajifkmcdcaaGreat.Ca
/-
  All lists of a tree are made; the knots, ahead of it, out of a frame's nodes. No condition but those typed at each theorem.
-/
namespace Go.Proofs.YtldmajifkmcdcaaGreat.Ca
open Go.RowKit Go.Sort Bd
section
variable {kb B : Nat} {RX LY : List S3}
end
/-- the cells of a row's block -/
theorem row_ev {w : World} {base n : Nat} {e : TypeId} {size : Nat} {v : Value} {xs : List Value} (h : w.ownsRow base e size v n xs) (hn : 0 < n) : ∃ g c L, v = .slice (some ⟨g, 0, none⟩) n c ∧ base ≤ g ∧ EV e w g L ∧ ∀ (j : Nat) (u : Value), xs[j]? = some u → L[j]? = some u := by
  obtain ⟨h1, h2⟩ := h
  rcases h2 with ⟨rfl, h2⟩ | ⟨q, cap, cur, hv, hb, hg, hnc, hcm, hcs, htk⟩
  · omega
  · refine ⟨q, cap, cur.toList, hv, hb, by simpa [EV] using hg, fun j u hj => ?_⟩
    rw [← htk, List.getElem?_take] at hj
    split at hj
    · exact hj
    · cases hj
end Go.Proofs.YtldmajifkmcdcaaGreat.Ca
/-
  A heap is made of right points (grown). No condition but those typed at each theorem.
-/
namespace Go.Proofs.YtldmajifkmcdcaaGreat.Hp
open Go.RowKit Go.Sort Bd
/-- a node that holds nothing -/
def kn0 (n : Nd) : List Value := nvs n ++ [.pointer none]
def flatH (ns : List Nd) : List Value := ns.flatMap kn0
theorem flatH_snoc (ns : List Nd) (n : Nd) : flatH (ns ++ [n]) = flatH ns ++ kn0 n := by simp [flatH]
theorem kn0_len (n : Nd) : (kn0 n).length = 8 := rfl
theorem flatH_get : ∀ (ns : List Nd) {k : Nat} {n : Nd}, ns[k]? = some n → KhAt (flatH ns) k (kn0 n)
  | [], k, n, h => by simp at h
  | a :: ns, 0, n, h => by
    simp at h
    subst h
    intro i u hu
    have hi := (List.getElem?_eq_some_iff.1 hu).1
    show (kn0 a ++ flatH ns)[0 * 8 + i]? = some u
    rw [List.getElem?_append_left (by omega)]
    simpa using hu
  | a :: ns, k + 1, n, h => by
    intro i u hu
    have := flatH_get ns (k := k) (by simpa using h) i u hu
    show (kn0 a ++ flatH ns)[(k + 1) * 8 + i]? = some u
    rw [List.getElem?_append_right (by rw [kn0_len]; omega), kn0_len, show (k + 1) * 8 + i - 8 = k * 8 + i by omega]
    exact this
theorem info_knotH : (Tryz.prog.info? 148).map (fun i => (i.zero, i.size, i.bytes)) = some (some (.agg (kn0 (0, 0, 0, 0, 0, 0, 0)).toArray), 8, 64) := by kernel_rfl
theorem under_knotsH : Tryz.prog.underlying 95 = some (.slice 148) := by kernel_rfl
theorem kn0_one (n : Nd) : ∀ u ∈ kn0 n, u.oneCell' = true := by
  intro u hu
  simp [kn0, nvs] at hu
  rcases hu with rfl | rfl | rfl | rfl | rfl | rfl | rfl | rfl <;> rfl
/-- the cells of a tree -/
@[reducible] def hcs (a b c d e f : Value) : List Value := [a, b, c, d, e, f]
/-- in the midst of the nodes: the first ones are laid -/
structure GhM (w7 wr : World) (T F : Nat) (va vn : Value) (n i : Nat) (ns : List Nd) (kv : Value) : Prop where
  rk : wr.ownsRow w7.heap.size 148 8 kv i (flatH (ns.take i))
  ev : EV 97 wr T (hcs (.pointer (some ⟨T, 0, none⟩)) va vn (.pointer (some ⟨F, 0, none⟩)) kv (.int .i64 n))
  off : Off [T] w7 wr
theorem GhM.keep {w7 wr w' : World} {T F : Nat} {va vn : Value} {n i : Nat} {ns : List Nd} {kv : Value} (h : GhM w7 wr T F va vn n i ns kv) (g : Below wr.heap.size wr w') : GhM w7 w' T F va vn n i ns kv :=
  ⟨row_keep h.rk g, h.ev.keep g h.ev.lt, h.off.bel g⟩
theorem GhM.tne {w7 wr : World} {T F : Nat} {va vn : Value} {n i : Nat} {ns : List Nd} {kv : Value} (h : GhM w7 wr T F va vn n i ns kv) : some T ≠ kv.ownBlock := fun c => by
  obtain ⟨x, e⟩ := row_type h.rk c.symm
  exact types_ne h.ev e (by decide) rfl
theorem GhM.step {w7 W w6 : World} {T F : Nat} {va vn : Value} {n i : Nat} {ns : List Nd} {kv : Value} {nd : Nd} {g cap : Nat} {o : Obj} (h : GhM w7 W T F va vn n i ns kv) (hs : ns[i]? = some nd) (r1 : w6.ownsRow 0 148 8 (.slice (some ⟨g, 0, none⟩) (i + 1) cap) (i + 1) (flatH (ns.take i) ++ kn0 nd)) (r2 : (W.alloc o).grownBy w6 kv.ownBlock) (r3 : kv.ownBlock = some g ∨ g = (W.alloc o).heap.size) :
    GhM w7 (w6.setCell ⟨T, 4, none⟩ (.slice (some ⟨g, 0, none⟩) (i + 1) cap)) T F va vn n (i + 1) ns (.slice (some ⟨g, 0, none⟩) (i + 1) cap) := by
  have hoff : Off kv.ownBlock.toList W w6 := ((Off.refl _ W).all _).grow r2 (fun k e => .inl (by simp [e]))
  have hE6 := EV.grown (h.ev.all o) r2 h.tne
  have hset := (Off.refl [T] w6).set ⟨T, 4, none⟩ (.slice (some ⟨g, 0, none⟩) (i + 1) cap) (.inl (by simp))
  have hgl : w7.heap.size ≤ g := r3.elim (fun e => (row_lt h.rk e).1) (fun e => by have := h.off.size; simp at e; omega)
  refine ⟨?_, hE6.set 4 _, (h.off.via hoff (fun x hx hm => by have := (row_lt h.rk (by simpa using hm)).1; omega)).trans hset⟩
  rw [List.take_add_one, hs, show ns.take i ++ (some nd).toList = ns.take i ++ [nd] from rfl, flatH_snoc]
  have h1 : w6.ownsRow w7.heap.size 148 8 (.slice (some ⟨g, 0, none⟩) (i + 1) cap) (i + 1) (flatH (ns.take i) ++ kn0 nd) := row_up r1 (fun x hx => by simp [Value.ownBlock] at hx; subst hx; exact hgl)
  refine row_offS h1 hset (fun x hx hm => ?_)
  obtain ⟨c1, e1⟩ := row_type h1 hx
  exact types_ne e1 hE6 (by decide) (List.mem_singleton.1 hm)
/-- the nodes that were laid hold nothing -/
theorem kn_none {w : World} {g n : Nat} {KV : List Value} {qb : S3 → Nat} (hE : EV 148 w g KV) (hK : ∀ (j : Nat) (u : Value), (flatH (ndN n))[j]? = some u → KV[j]? = some u) : KnM w g n qb [] (fun _ => none) :=
  ⟨⟨KV, hE, fun k nd e q v hv => hK _ _ (flatH_get _ e q v hv)⟩, fun _ _ _ e => (by cases e), fun s hs => (by cases hs)⟩
theorem HpI.re {RX A A' : List S3} {g : Nat → Option S3} (h : HpI RX A g) (hp : A'.Perm A) : HpI RX A' g :=
  ⟨h.few, h.nd, h.rg, fun s hs => h.sub s (hp.mem_iff.1 hs), h.ok, h.pm.trans hp.symm, Rg.perm hp.symm h.rga⟩
/-- in the midst of the points: the first ones are held -/
structure GpM (w0 w8 wr : World) (T F kb : Nat) (va vn kv : Value) (n : Nat) (RX D : List S3) : Prop where
  ho : ∃ qb g, HoM wr ⟨T, F, kb, va, vn, kv, qb⟩ RX n ∧ KnM wr kb n qb D g ∧ rd g 0 (tr n) = fillT (fun s => RX.idxOf s) 0 (rd (fun _ => none) 0 (tr n)) D ∧ ∀ s ∈ D, w0.heap.size ≤ qb s
  off : Off [kb] w8 wr
theorem GpM.keep {w0 w8 wr w' : World} {T F kb : Nat} {va vn kv : Value} {n : Nat} {RX D : List S3} (h : GpM w0 w8 wr T F kb va vn kv n RX D) (g : Below wr.heap.size wr w') : GpM w0 w8 w' T F kb va vn kv n RX D := by
  obtain ⟨qb, g0, h1, h2, h3, h4⟩ := h.ho
  exact ⟨⟨qb, g0, h1.keep g, h2.keep g, h3, h4⟩, h.off.bel g⟩
/-- one more is put -/
theorem GpM.put {w0 w8 X : World} {T F kb : Nat} {va vn : Value} {n cap : Nat} {RX D : List S3} {s : S3} (h : GpM w0 w8 X T F kb va vn (.slice (some ⟨kb, 0, none⟩) (2 * n - 1) cap) n RX D) (hn : RX.length = n) (hs : s ∈ RX) (hD : s ∉ D) (hsz : w0.heap.size ≤ X.heap.size) :
    Calls Tryz.prog 69 #[.pointer (some ⟨T, 0, none⟩), tv s] X fun e w' => e = .returned (.tuple #[]) ∧ GpM w0 w8 w' T F kb va vn (.slice (some ⟨kb, 0, none⟩) (2 * n - 1) cap) n RX (D ++ [s]) := by
  obtain ⟨qb, g, h1, h2, h3, h4⟩ := h.ho
  subst hn
  refine (hput_any h1 h2 (cap := cap) rfl s hs hD).mono (fun e w' hh => ?_)
  obtain ⟨rfl, g', q1, q2, q3⟩ := hh
  obtain ⟨cc, hty⟩ := h2.ty
  have far := h1.far hty (by decide) (by decide) (by decide) (by decide)
  have nin : ∀ {x : Nat}, kb ≠ x → x ∉ [kb] := fun {x} hne hm => hne (List.mem_singleton.1 hm).symm
  have h5 := h1.off q2 (nin far.1) (nin far.2.1) (fun k hk => nin (far.2.2.1 k hk)) (fun k hk => nin (far.2.2.2 k hk))
  refine ⟨rfl, ⟨qbN qb s X.heap.size, g', ⟨h5.ev, h5.row, h5.ord, h5.fr, h5.few⟩, q1, ?_, fun x hx => ?_⟩, h.off.via q2 (fun _ _ hm => hm)⟩
  · rw [q3, h3, fill_snoc]
  · show w0.heap.size ≤ (if x = s then X.heap.size else qb x)
    by_cases hxs : x = s
    · rw [if_pos hxs]; exact hsz
    · rw [if_neg hxs]
      rcases List.mem_append.1 hx with hx | hx
      · exact h4 x hx
      · exact absurd (List.mem_singleton.1 hx) hxs
theorem ord_lt {LY : List S3} (h : Ord ky LY) : LY.Pairwise (fun a b => ltY a b = true) := h.imp (fun {a b} hab => by
  unfold ltY
  exact decide_eq_true hab)
/-- all are put -/
theorem GpM.done {w0 w8 wr : World} {T F kb : Nat} {va vn : Value} {n cap : Nat} {RX LY L : List S3} (h : GpM w0 w8 wr T F kb va vn (.slice (some ⟨kb, 0, none⟩) (2 * n - 1) cap) n RX LY) (hn : RX.length = n) (h1 : 1 ≤ n) (hR : Rg RX) (hp : LY.Perm RX) (hO : Ord ky LY) (hL : RX.Perm L) (hw : ∀ s ∈ L, Wf3 s) :
    ∃ qb, HpM wr ⟨T, F, kb, va, vn, .slice (some ⟨kb, 0, none⟩) (2 * n - 1) cap, qb⟩ RX L ∧ ∀ s ∈ RX, w0.heap.size ≤ qb s := by
  obtain ⟨qb, g, q1, q2, q3, q4⟩ := h.ho
  subst hn
  have hI : HpI RX LY g := HpI.fill ⟨h1, q1.few⟩ hR.once hR hp (ord_lt hO) (by rw [lv_rd, lv_tr h1]) q3
  refine ⟨qb, ⟨by have h0 := q1.ev; rw [show ((RX.length : Nat) : Int) = ((L.length : Nat) : Int) by rw [hL.length_eq]] at h0; exact h0, q1.row, q1.ord, q1.fr, fun _ => ⟨cap, rfl⟩, fun _ => ⟨g, q2.same (fun s => hp.symm.mem_iff), hI.re (hL.symm.trans hp.symm)⟩, fun h0 => (by omega), fun s hs => hw s (hL.mem_iff.1 hs), q1.few⟩, fun s hs => q4 s (hp.mem_iff.2 hs)⟩
end Go.Proofs.YtldmajifkmcdcaaGreat.Hp
/-
  A heap is made of right points (grown): the walk. No condition but those typed at each theorem.
-/
namespace Go.Proofs.YtldmajifkmcdcaaGreat.Hp
open Go.RowKit Go.Sort Bd
set_option maxRecDepth 100000 in
set_option maxHeartbeats 6400000 in
theorem hgrown_any (w : World) (p : Option Addr) (c : Nat) (L : List S3) (hx : TsS w p L) (hl : L.length ≤ 400) (hR : Rg L) (hw : ∀ s ∈ L, Wf3 s) :
    Calls Tryz.prog 39 #[.slice p L.length c] w fun e w' => ∃ P RX, e = .returned (.pointer (some ⟨P.B, 0, none⟩)) ∧ HpM w' P RX L ∧ RX.Perm L ∧ (∀ k ∈ hblk P RX, w.heap.size ≤ k) ∧ Below w.heap.size w w' := by
  have HX := Lib.hid hx
  have HRG := Lib.hid hR
  have HWF := Lib.hid hw
  have HBX := Lib.hid (byX_any w p c L hx hl hR)
  have HSY := Lib.hid (fun X (hb : Below w.heap.size w X) => Ln.sorted_any p c X.heap.size L (X.alloc (.cells #[.slice p L.length c] 22)) (by simp) (one_new X _ _).1 ((hx.keep hb).keep ((Below.refl _ X).alloc (Nat.le_refl _) _)) (by omega) _ Ln.cY egY Ln.swoY (fun X s t => Ln.cY_any s t X))
  obtain ⟨n, hn⟩ : ∃ n, n = L.length := ⟨_, rfl⟩
  have HN := Lib.hid hn
  rw [← hn] at HSY HBX hl ⊢
  clear hx hR hn hw
  have HFN := Lib.hid (fun X => FNew_any X n (by omega))
  go_enter Tryz.func39, Tryz.ntmps39
  go_upto_region 2 with (go_at_call 67; (refine HBX.out.mono ?_); rintro e w1 ⟨va, vn, RX, rfl, h1, h2, h3, h4, h5⟩; obtain ⟨pa, ca, rfl, -, -⟩ := h1.ks; obtain ⟨pn, cn, rfl, -, -⟩ := h1.ns; have HO1 := Lib.hid h1; have HW1 := Lib.hid h2; have HP1 := Lib.hid h3; have HF1 := Lib.hid h4; have HB1 := Lib.hid h5; clear h1 h2 h3 h4 h5)
  obtain ⟨va, hva⟩ : ∃ va, va = Value.slice pa RX.length ca := ⟨_, rfl⟩
  obtain ⟨vn, hvn⟩ : ∃ vn, vn = Value.slice pn RX.length cn := ⟨_, rfl⟩
  rw [← hva, ← hvn] at HO1 HF1
  rw [← hva, ← hvn]
  clear hva hvn
  obtain ⟨T, hT⟩ : ∃ T, T = w1.heap.size := ⟨_, rfl⟩
  have HTT := Lib.hid hT
  obtain ⟨W, hW⟩ : ∃ W, W = w1.alloc (.cells #[.pointer none, va, vn, .pointer none, .slice none 0 0, .int .i64 n] 97) := ⟨_, rfl⟩
  rw [← hW, ← hT]
  have HV : Hid (EV 97 W T (hcs (.pointer none) va vn (.pointer none) (.slice none 0 0) (.int .i64 n))) := Lib.hid (by rw [hW, hT]; exact heap_alloc_new w1 _)
  have HB0 : Hid (Below T w1 W) := Lib.hid (by rw [hW]; exact (Below.refl _ w1).alloc (by omega) _)
  have HLX : Hid (RX.length = n) := Lib.hid (by rw [HP1.out.length_eq, HN.out])
  clear hW hT
  have y0 := HV.out.cell (i := 0) rfl
  have f0 := HV.out.free 0
  go_upto_region 3 with fail
  clear y0 f0
  obtain ⟨W5, hW5⟩ : ∃ X, X = W.setCell ⟨T, 0, none⟩ (.pointer (some ⟨T, 0, none⟩)) := ⟨_, rfl⟩
  rw [← hW5]
  have HV5 : Hid (EV 97 W5 T (hcs (.pointer (some ⟨T, 0, none⟩)) va vn (.pointer none) (.slice none 0 0) (.int .i64 n))) := Lib.hid (by rw [hW5]; exact HV.out.set 0 _)
  have HB5 : Hid (Below T w1 W5) := Lib.hid (by rw [hW5]; exact HB0.out.setCell (Nat.le_refl _) _)
  clear HV HB0 hW5
  have HO5 : Hid (OrR W5 kx RX va vn) := Lib.hid (HO1.out.keep (by rw [← HTT.out]; exact HB5.out))
  obtain ⟨nl, hnl⟩ : ∃ nl, nl = (ndN n).length := ⟨_, rfl⟩
  have HNL := Lib.hid hnl
  have HNL2 := Lib.hid (show nl = 2 * n - 1 by rw [hnl, ndN_len])
  have hnl3 : nl ≤ 1000 := by rw [hnl, ndN_len]; omega
  clear hnl
  obtain ⟨F, hF⟩ : ∃ F, F = W5.heap.size := ⟨_, rfl⟩
  have HFF := Lib.hid hF
  have HTF : Hid (T < F) := Lib.hid (by rw [hF]; exact HV5.out.lt)
  go_upto_region 4 with (go_at_call 51; (refine (HFN.out _).mono ?_); rintro e w6 ⟨rfl, hF6, hb⟩; have HB6 := Lib.hid hb; have HE6 := Lib.hid (HV5.out.keep hb HV5.out.lt); have y3 := HE6.out.cell (i := 3) rfl; have f3 := HE6.out.free 3; have HFR6 := Lib.hid hF6; clear hF6 hb)
  clear y3 f3
  rw [← HFF.out] at HFR6 HB6
  rw [← HFF.out]
  obtain ⟨W6, hW6⟩ : ∃ X, X = w6.setCell ⟨T, 3, none⟩ (.pointer (some ⟨F, 0, none⟩)) := ⟨_, rfl⟩
  rw [← hW6]
  have HE6' : Hid (EV 97 W6 T (hcs (.pointer (some ⟨T, 0, none⟩)) va vn (.pointer (some ⟨F, 0, none⟩)) (.slice none 0 0) (.int .i64 n))) := Lib.hid (by rw [hW6]; exact HE6.out.set 3 _)
  have hO6 : Off [T] w6 W6 := hW6 ▸ (Off.refl [T] w6).set _ _ (.inl (by simp))
  have HF6 : Hid (FR W6 F n 0 (.pointer none)) := Lib.hid (HFR6.out.block (hO6.block _ HFR6.out.lt (by have := HTF.out; simp; omega)))
  have HND := Lib.hid (FNodes_any W6 F n [F] (.inl ⟨HF6.out, rfl⟩) (by omega))
  have HB56 : Hid (Off [T] W5 W6) := Lib.hid ((Off.of (S := [T]) HB6.out (by rw [HFF.out]; exact Nat.le_refl _)).trans hO6)
  have y3 := HE6'.out.cell (i := 3) rfl
  clear hO6 hW6 HE6 HFR6 hF
  go_upto_block 5 with (go_at_call 52; (refine HND.out.mono ?_); rintro e w7 ⟨vv, rfl, bl', hfs, hoff, -, hrow, -⟩; rw [← HNL.out] at hrow; obtain ⟨-, pq, cq, rfl, hnds, -, hcq, -, hpq⟩ := row_nds hrow; have HO7 := Lib.hid hoff; have HNS := Lib.hid hnds; have HRW := Lib.hid hrow; have HPQ := Lib.hid hpq; have HFR7 : Hid (∃ d pp, FR w7 F n d pp) := Lib.hid hfs.fr; clear hoff hrow hnds hpq hfs)
  clear y3
  have HE7 : Hid (EV 97 w7 T (hcs (.pointer (some ⟨T, 0, none⟩)) va vn (.pointer (some ⟨F, 0, none⟩)) (.slice none 0 0) (.int .i64 n))) := Lib.hid (HE6'.out.off HO7.out (by have := HTF.out; simp; omega))
  have HO57 : Hid (Off [T] W5 w7) := Lib.hid (HB56.out.via HO7.out (fun k hk hm => by have := HFF.out; simp at hm; omega))
  have HB7 : Hid (Below T w1 w7) := Lib.hid (HB5.out.trans (HO57.out.below (by rw [HTT.out]; exact HB5.out.size) (by simp)))
  have HQT : Hid (∀ b off, pq = some ⟨b, off, none⟩ → ndN n ≠ [] → b ∉ [T]) := Lib.hid (fun b off e _ hm => by
    rcases HPQ.out with e0 | ⟨g, e0, -⟩
    · rw [e0] at e; cases e
    · rw [e0] at e
      injection e with e
      injection e with e
      subst e
      have h1 := (row_lt HRW.out (k := g) (by rw [e0]; rfl)).1
      have h2 := HB56.out.size
      have h3 := HV5.out.lt
      rw [List.mem_singleton.1 hm] at h1
      omega)
  have HG0 : Hid (GhM w7 w7 T F va vn n 0 (ndN n) (.slice none 0 0)) := Lib.hid ⟨World.ownsRow_nil .., HE7.out, Off.refl _ _⟩
  clear HE6' HE7 HND HRW HPQ HV5 HO7 HB6 HF6 HB56 HFN HBX
  go_loopw [33] (fun iv wr => ∃ (i : Nat) (kv : Value), i ≤ nl ∧ iv = .int .i64 i ∧ Hid (GhM w7 wr T F va vn n i (ndN n) kv) ∧ Hid (i = 0 → kv = .slice none 0 0)) (fun iv _ => nl - (intOf iv).toNat)
  case atStart => exact ⟨0, _, Nat.zero_le _, rfl, HG0, Lib.hid (fun _ => rfl)⟩
  case round =>
    clear HG0
    obtain ⟨i, kv, hi, rfl, HG, HKZ⟩ := hrel
    by_cases hlt : i < nl
    · have hltz : (i : Int) < nl := by omega
      obtain ⟨nd, hnd⟩ : ∃ nd, (ndN n)[i]? = some nd := ⟨_, List.getElem?_eq_getElem (by rw [← HNL.out]; exact hlt)⟩
      obtain ⟨bb, off, rfl, h1⟩ := (HNS.out.off HG.out.off HQT.out).at hnd
      have k0 := h1.c0
      have k1 := h1.c1
      have k2 := h1.c2
      have k3 := h1.c3
      have k4 := h1.c4
      have k5 := h1.c5
      have k6 := h1.c6
      have HNDD := Lib.hid hnd
      obtain ⟨d0, d1, d2, d3, d4, d5, d6⟩ := nd
      simp only at k0 k1 k2 k3 k4 k5 k6
      clear h1 hnd
      go_upto_region 7 with fail
      obtain ⟨X, hXd⟩ : ∃ X, X = wr.alloc (.cells #[.int .u8 d0, .int .i64 d1, .int .i64 d2, .int .i64 d3, .int .i64 d4, .int .i64 d5, .int .i64 d6] 77) := ⟨_, rfl⟩
      rw [← hXd]
      have hbx : Below wr.heap.size wr X := hXd ▸ (Below.refl _ wr).alloc (Nat.le_refl _) _
      have hEX : EV 77 X wr.heap.size [.int .u8 d0, .int .i64 d1, .int .i64 d2, .int .i64 d3, .int .i64 d4, .int .i64 d5, .int .i64 d6] := hXd ▸ heap_alloc_new wr _
      have HGX := Lib.hid (HG.out.keep hbx)
      have x0 := hEX.cell (i := 0) rfl
      have x1 := hEX.cell (i := 1) rfl
      have x2 := hEX.cell (i := 2) rfl
      have x3 := hEX.cell (i := 3) rfl
      have x4 := hEX.cell (i := 4) rfl
      have x5 := hEX.cell (i := 5) rfl
      have x6 := hEX.cell (i := 6) rfl
      have y5 := HGX.out.ev.cell (i := 4) rfl
      obtain ⟨tb, etb⟩ : ∃ tb, tb = wr.heap.size := ⟨_, rfl⟩
      rw [← etb] at x0 x1 x2 x3 x4 x5 x6
      rw [← etb]
      have HGD := Lib.hid (show GhM w7 X.drew T F va vn n i (ndN n) kv from HGX.out.keep ((Below.refl _ X).drew))
      have HR4 : Hid (X.drew.ownsRow 0 148 8 kv i (flatH ((ndN n).take i))) := Lib.hid (row_up HGD.out.rk (fun _ _ => Nat.zero_le _))
      have z5 : (X.alloc (.cells #[.int .u8 d0, .int .i64 d1, .int .i64 d2, .int .i64 d3, .int .i64 d4, .int .i64 d5, .int .i64 d6, .pointer none] 148)).cell? ⟨T, 4, none⟩ = some kv := cell_al _ y5
      clear hXd hbx hEX k0 k1 k2 k3 k4 k5 k6 etb HG
      go_region_law (go_loud (refine step_long info_knotH rfl (by decide) under_knotsH rfl (.tmp 41) (.tmp 44) rfl kv i _ (by simp [Act.eval]) (by exact HR4.out.alloc _) ⟨X.heap.size, 0, none⟩ 1 1 (kn0 (d0, d1, d2, d3, d4, d5, d6)) (by simp [Act.eval]) rfl (by exact lit_atB X [.int .u8 d0, .int .i64 d1, .int .i64 d2, .int .i64 d3, .int .i64 d4, .int .i64 d5, .int .i64 d6, .pointer none] 148) (kn0_one _) (by omega) (by omega) (by decide) ?_; intro g cap w6 r1 r2 r3; have R1 := Lib.hid r1; have R2 := Lib.hid r2; have R3 := Lib.hid r3; have hv6 := EV.grown (HGD.out.ev.all _) r2 HGD.out.tne; have m1 := hv6.cell (i := 4) rfl; have m2 := hv6.free 4; clear r1 r2 r3 hv6))
      all_goals (go_wp2_with fail)
      all_goals (
        go_roundw
        case rel => exact ⟨i + 1, _, by omega, by go_num, Lib.hid (HGD.out.step HNDD.out R1.out R2.out R3.out), Lib.hid (fun e => by omega)⟩
        case measure => simp [intOf]; omega)
    · have hltz : ¬ (i : Int) < nl := by omega
      obtain rfl : i = nl := by omega
      have HG1 : Hid (GhM w7 wr T F va vn n i (ndN n) kv) := HG
      have HB7W : Hid (Below w.heap.size w w7) := Lib.hid (HB1.out.trans (HB7.out.mono (by rw [HTT.out]; exact HB1.out.size)))
      have HBW : Hid (Below w.heap.size w wr) := Lib.hid (HB7W.out.trans (HG.out.off.below HB7W.out.size (by have hT := HTT.out; have h0 := HB1.out.size; simp; omega)) )
      go_upto_block 10 with (first
        | (go_at_call 48; (with_reducible refine (Ln.values_any _ _ _ _).mono ?_); rintro e wa ⟨rfl, rfl⟩)
        | (go_at_call 47; (refine (HSY.out _ HBW.out).mono ?_); rintro e w8 ⟨q2, c2, LY, he, h1, h2, h3, h4, h5, h6, h7⟩; rw [← HN.out] at he; subst he; have HP2 := Lib.hid h1; have HW2 := Lib.hid (ord_y HRG.out h1 h2); have HT2 := Lib.hid h3; have HG2 := Lib.hid h5; have HB8 := Lib.hid (((Below.refl wr.heap.size wr).alloc (Nat.le_refl _) _).trans (h7.mono (by simp))); clear h1 h2 h3 h4 h5 h6 h7))
      have HGK := Lib.hid (HG1.out.keep HB8.out)
      have HLY : Hid (LY.length = n) := Lib.hid (by rw [HP2.out.length_eq, HN.out])
      have HPX : Hid (LY.Perm RX) := Lib.hid (HP2.out.trans HP1.out.symm)
      have HRX : Hid (Rg RX) := Lib.hid (Rg.perm HP1.out.symm HRG.out)
      have HB8W : Hid (Below w.heap.size w w8) := Lib.hid (HBW.out.trans (HB8.out.mono HBW.out.size))
      have HVT : Hid (∀ x, (va.ownBlock = some x ∨ vn.ownBlock = some x) → x ∉ [T]) := Lib.hid (fun x hx hm => by
        rcases hx with hx | hx
        · have := (row_lt HO1.out.ra hx).2; rw [List.mem_singleton.1 hm, HTT.out] at this; omega
        · have := (row_lt HO1.out.rn hx).2; rw [List.mem_singleton.1 hm, HTT.out] at this; omega)
      have HOW : Hid (OrR w8 kx RX va vn) := Lib.hid (by
        have h1 := HO5.out.off HO57.out (fun x hx => HVT.out x (.inl hx)) (fun x hx => HVT.out x (.inr hx))
        have h2 := h1.off HG1.out.off (fun x hx => HVT.out x (.inl hx)) (fun x hx => HVT.out x (.inr hx))
        exact h2.keep HB8.out)
      have HFRW : Hid (∃ d pp, FR w8 F n d pp) := Lib.hid (by
        obtain ⟨d, pp, hF⟩ := HFR7.out
        have h1 := hF.block (HG1.out.off.block _ hF.lt (by have := HTF.out; simp; omega))
        exact ⟨d, pp, h1.keep HB8.out⟩)
      have HHO : Hid (∀ kb qb, HoM w8 ⟨T, F, kb, va, vn, kv, qb⟩ RX n) := Lib.hid (fun kb qb => ⟨HGK.out.ev, HOW.out, HW1.out, by rw [HLX.out]; exact HFRW.out, by rw [HLX.out]; exact hl⟩)
      have HBL : Hid (w.heap.size ≤ T ∧ w.heap.size ≤ F ∧ (∀ x, va.ownBlock = some x → w.heap.size ≤ x) ∧ (∀ x, vn.ownBlock = some x → w.heap.size ≤ x)) := Lib.hid ⟨by rw [HTT.out]; exact HB1.out.size, by have h1 := HTT.out; have h2 := HB1.out.size; have h3 := HTF.out; omega, HF1.out.1, HF1.out.2⟩
      have HQ2 : Hid (∀ x off, q2 = some ⟨x, off, none⟩ → wr.heap.size ≤ x) := Lib.hid (fun x off e => by
        have h1 := HG2.out x off e
        simp at h1
        omega)
      have HKL : Hid (∀ k, kv.ownBlock = some k → k < wr.heap.size) := Lib.hid (fun k hk => (row_lt HG1.out.rk hk).2)
      clear HG1 HG2 HSY HO5 HNS HQT HG HO57 HB7 HFR7 HFRW HVT
      by_cases hn0 : n = 0
      · have hnl0 : i = 0 := by have := HNL2.out; omega
        subst hn0
        go_loopw [53] (fun iv wx => iv = .int .i64 0 ∧ Hid (wx = w8)) (fun _ _ => 0)
        case atStart => exact ⟨rfl, Lib.hid rfl⟩
        case round =>
          obtain ⟨rfl, HWX⟩ := hrel
          go_wp2
          go_ret
          rw [HWX.out]
          have hR0 : RX.length = 0 := HLX.out
          have hL0 : L = [] := List.length_eq_zero_iff.1 HN.out.symm
          have hho := HHO.out T (fun _ => 0)
          have hrx : RX = [] := List.length_eq_zero_iff.1 hR0
          refine ⟨⟨T, F, T, va, vn, kv, fun _ => 0⟩, RX, rfl, ⟨?_, hho.row, hho.ord, hho.fr, fun h => absurd hR0 h, fun h => absurd hR0 h, fun _ => ⟨rfl, hL0⟩, fun s hs => (by rw [hrx] at hs; cases hs), hho.few⟩, HP1.out, fun k hk => ?_, HB8W.out⟩
          · have := hho.ev
            rw [hL0]
            exact this
          · obtain ⟨b1, b2, b3, b4⟩ := HBL.out
            subst hrx
            simp only [hblk, List.mem_cons, List.mem_append, List.mem_map, Option.mem_toList] at hk
            rcases hk with rfl | rfl | rfl | (hk | hk) | ⟨s, hs, -⟩
            · exact b1
            · exact b2
            · exact b1
            · exact b3 k hk
            · exact b4 k hk
            · cases hs
      · have hnl1 : 1 ≤ i := by have := HNL2.out; omega
        have hrk := HGK.out.rk
        rw [List.take_of_length_le (by rw [← HNL.out]; exact Nat.le_refl _)] at hrk
        obtain ⟨kb, cK, KVL, hkv, hgb, hEK, hget⟩ := Ca.row_ev hrk hnl1
        have HKT := Lib.hid (kn_none (qb := fun _ => 0) hEK hget)
        have HGB := Lib.hid hgb
        obtain ⟨cap, hcap⟩ : ∃ cap, cap = cK := ⟨_, rfl⟩
        rw [HNL2.out, ← hcap] at hkv
        have HS0 : Hid (GpM w w8 w8 T F kb va vn (.slice (some ⟨kb, 0, none⟩) (2 * n - 1) cap) n RX (LY.take 0)) := Lib.hid ⟨⟨fun _ => 0, fun _ => none, by have := HHO.out kb (fun _ => 0); rw [hkv] at this; exact this, HKT.out, by rw [List.take_zero]; exact rd_empty _ _ _, fun s hs => by simp at hs⟩, Off.refl _ _⟩
        have HKB : Hid (w.heap.size ≤ kb) := Lib.hid (Nat.le_trans HB7W.out.size HGB.out)
        have HQK : Hid (∀ x off, q2 = some ⟨x, off, none⟩ → x ∉ [kb]) := Lib.hid (fun x off e hm => by
          have h1 := HQ2.out x off e
          have h2 := HKL.out kb (by rw [hkv]; rfl)
          have h3 := List.mem_singleton.1 hm
          omega)
        have HKV := Lib.hid hkv
        clear hrk hget hEK hgb HGK HB8 hkv hcap HKT
        go_loopw [53] (fun jv wx => ∃ j : Nat, j ≤ n ∧ jv = .int .i64 j ∧ Hid (GpM w w8 wx T F kb va vn (.slice (some ⟨kb, 0, none⟩) (2 * n - 1) cap) n RX (LY.take j))) (fun jv _ => n - (intOf jv).toNat)
        case atStart => exact ⟨0, Nat.zero_le _, rfl, HS0⟩
        case round =>
          clear HS0
          obtain ⟨j, hj, rfl, HS⟩ := hrel
          by_cases hjl : j < n
          · have hjz : (j : Int) < n := by omega
            obtain ⟨s, hse⟩ : ∃ s, LY[j]? = some s := ⟨_, List.getElem?_eq_getElem (by rw [HLY.out]; exact hjl)⟩
            obtain ⟨bb, off, rfl, h1⟩ := (HT2.out.off HS.out.off (fun x off e _ => HQK.out x off e)).at hse
            have n0 := h1.c0
            have n1 := h1.c1
            have n2 := h1.c2
            have hdn : s ∉ LY.take j := fun hm => by
              have hnd : LY.Nodup := HRX.out.once.perm HPX.out.symm
              obtain ⟨i2, h2⟩ := List.mem_iff_getElem?.1 hm
              rw [List.getElem?_take] at h2
              split at h2
              · have := (List.getElem?_inj (List.getElem?_eq_some_iff.1 h2).1 hnd).1 (h2.trans hse.symm)
                omega
              · cases h2
            have hrs : s ∈ RX := HPX.out.mem_iff.1 (List.mem_of_getElem? hse)
            have HSE := Lib.hid hse
            have HDN := Lib.hid hdn
            have HRS := Lib.hid hrs
            obtain ⟨sx, sy, si⟩ := s
            clear h1 hse hdn hrs
            go_upto_region 12 with fail
            obtain ⟨X, hXd⟩ : ∃ X, X = wr.alloc (.cells #[.int .i64 sx, .int .i64 sy, .int .u32 si] 34) := ⟨_, rfl⟩
            rw [← hXd]
            have hbx : Below wr.heap.size wr X := hXd ▸ (Below.refl _ wr).alloc (Nat.le_refl _) _
            have hET : EV 34 X wr.heap.size [.int .i64 sx, .int .i64 sy, .int .u32 si] := hXd ▸ heap_alloc_new wr _
            have HSX := Lib.hid (HS.out.keep hbx)
            have x0 := hET.cell (i := 0) rfl
            have x1 := hET.cell (i := 1) rfl
            have x2 := hET.cell (i := 2) rfl
            have HPU := Lib.hid (HSX.out.put HLX.out HRS.out HDN.out (by
              have h1 := HB8W.out.size
              have h2 := HS.out.off.size
              have h3 := hbx.size
              omega))
            unfold tv at HPU
            simp only at HPU
            clear n0 n1 n2 hXd hbx hET
            go_wp2_with (go_at_call 69; (refine HPU.out.mono ?_); rintro e w9 ⟨rfl, h9⟩; have HS9 : Hid (GpM w w8 w9 T F kb va vn (.slice (some ⟨kb, 0, none⟩) (2 * n - 1) cap) n RX (LY.take (j + 1))) := Lib.hid (by rw [List.take_add_one, HSE.out]; exact h9); clear h9)
            go_roundw
            case rel => exact ⟨j + 1, by omega, by go_num, HS9⟩
            case measure => simp [intOf]; omega
          · have hjz : ¬ (j : Int) < n := by omega
            obtain rfl : j = n := by omega
            have hS := HS.out
            rw [List.take_of_length_le (by rw [HLY.out]; exact Nat.le_refl _)] at hS
            obtain ⟨qb, hM, hqb⟩ := hS.done HLX.out (by omega) HRX.out HPX.out HW2.out HP1.out HWF.out
            have HMM := Lib.hid hM
            have HQB := Lib.hid hqb
            have HOX := Lib.hid hS.off
            clear hS hM hqb
            go_wp2
            go_ret
            refine ⟨⟨T, F, kb, va, vn, .slice (some ⟨kb, 0, none⟩) (2 * j - 1) cap, qb⟩, rfl, RX, HMM.out, HP1.out, fun k hk => ?_, HB8W.out.trans (HOX.out.below HB8W.out.size (by simp; exact HKB.out))⟩
            obtain ⟨b1, b2, b3, b4⟩ := HBL.out
            simp only [hblk, List.mem_cons, List.mem_append, List.mem_map, Option.mem_toList] at hk
            rcases hk with rfl | rfl | rfl | (hk | hk) | ⟨s, hs, rfl⟩
            · exact b1
            · exact b2
            · exact HKB.out
            · exact b3 k hk
            · exact b4 k hk
            · exact HQB.out s hs
end Go.Proofs.YtldmajifkmcdcaaGreat.Hp
/-
  What is asked of a tree of three sides holds of this one. No condition but those typed at each theorem.
-/
namespace Go.Proofs.YtldmajifkmcdcaaGreat.Hp
open Go.RowKit Go.Sort Bd
/-- the trees that Build answers -/
def TSh (X : World) (v : Value) (n : Nat) (S : List Nat) (A : List S3) : Prop :=
  (∃ P RX, v = .pointer (some ⟨P.B, 0, none⟩) ∧ HpM X P RX A ∧ RX.length = n ∧ S = hblk P RX) ∨ (v = .pointer none ∧ n = 0 ∧ S = [] ∧ A = [])
set_option maxRecDepth 100000 in
set_option maxHeartbeats 1600000 in
theorem hbuild_any (w : World) (p : Option Addr) (c : Nat) (L : List S3) (hx : TsS w p L) (hl : L.length ≤ 400) (hw : ∀ s ∈ L, Wf3 s) : Calls Tryz.prog 20 #[.slice p L.length c] w (Built TSh w L) := by
  have HR := Lib.hid (rightP_any w p c L hx hl hw)
  by_cases hR : Rg L
  · rw [decide_eq_true hR] at HR
    have HG := Lib.hid (fun X (hb : Below w.heap.size w X) => hgrown_any X p c L (hx.keep hb) hl hR hw)
    have HRG := Lib.hid hR
    obtain ⟨n, hn⟩ : ∃ n, n = L.length := ⟨_, rfl⟩
    have HN := Lib.hid hn
    rw [← hn] at HR HG hl ⊢
    clear hx hw hR hn
    have hlz : ¬ (2147483648 : Int) < n := by omega
    go_enter Tryz.func20, Tryz.ntmps20
    go_wp2_with (first
      | (go_at_call 24; (with_reducible refine HR.out.mono ?_); rintro e w1 ⟨rfl, hb⟩; have HB1 := Lib.hid hb; clear hb)
      | (go_at_call 39; (refine (HG.out _ HB1.out).mono ?_); rintro e w2 ⟨P, RX, rfl, h1, h2, h3, h4⟩; have H1 := Lib.hid h1; have H2 := Lib.hid h2; have H3 := Lib.hid h3; have H4 := Lib.hid h4; clear h1 h2 h3 h4))
    go_ret2
    refine ⟨HB1.out.trans (H4.out.mono HB1.out.size), .inl ⟨HRG.out, _, _, rfl, .inl ⟨P, RX, rfl, H1.out, by rw [H2.out.length_eq], rfl⟩, fun k hk => Nat.le_trans HB1.out.size (H3.out k hk)⟩⟩
  · rw [decide_eq_false hR] at HR
    have HRG := Lib.hid hR
    obtain ⟨n, hn⟩ : ∃ n, n = L.length := ⟨_, rfl⟩
    rw [← hn] at HR hl ⊢
    clear hx hw hR hn
    have hlz : ¬ (2147483648 : Int) < n := by omega
    go_enter Tryz.func20, Tryz.ntmps20
    go_wp2_with (go_at_call 24; (with_reducible refine HR.out.mono ?_); rintro e w1 ⟨rfl, hb⟩; have HB1 := Lib.hid hb; clear hb)
    go_ret2
    exact ⟨HB1.out, .inr ⟨HRG.out, _, _, rfl, .inr ⟨rfl, rfl, rfl, rfl⟩, fun k hk => (by cases hk)⟩⟩
theorem heapC : HeapC TSh where
  keep := by
    rintro X X' v n S A T (⟨P, RX, h1, h2, h3, rfl⟩ | h) ho hS
    · exact .inl ⟨P, RX, h1, h2.off ho hS, h3, rfl⟩
    · exact .inr h
  lies := by
    rintro X v n S A (⟨P, RX, h1, h2, h3, rfl⟩ | ⟨-, -, rfl, -⟩) k hk
    · exact h2.lies k hk
    · cases hk
  build := fun w p c L hx hl _ _ hw => hbuild_any w p c L hx hl hw
  len := by
    rintro X v n S A (⟨P, RX, rfl, h2, -⟩ | ⟨rfl, -, -, rfl⟩)
    · exact hlen_any h2
    · exact hlen_nil X
  three := by
    rintro X v n S A x1 x2 y (⟨P, RX, rfl, h2, rfl, -⟩ | ⟨rfl, rfl, -, rfl⟩) _ _ _
    · exact hthree_any h2 x1 x2 y
    · exact hthree_nil X x1 x2 y
  drop := by
    rintro X v n S A s (⟨P, RX, rfl, h2, rfl, rfl⟩ | ⟨rfl, rfl, rfl, rfl⟩) _
    · refine (hdrop_any h2 s).mono ?_
      rintro e w' ⟨rfl, hM, ho⟩
      refine ⟨rfl, _, .inl ⟨P, RX, rfl, hM, rfl, rfl⟩, ho.mono (fun k _ hk => ?_), fun k hk => .inl hk⟩
      simp only [List.mem_cons, List.mem_nil_iff, or_false] at hk
      rcases hk with rfl | rfl <;> simp [hblk]
    · refine (hdrop_nil X s).mono ?_
      rintro e w' ⟨rfl, hb⟩
      exact ⟨by simp, [], .inr ⟨rfl, rfl, rfl, rfl⟩, Off.of hb (Nat.le_refl _), fun k hk => (by cases hk)⟩
  few := by
    rintro X v n S A (⟨P, RX, rfl, h2, rfl, rfl⟩ | ⟨rfl, rfl, rfl, rfl⟩)
    · refine ⟨?_, h2.few, ?_⟩
      · by_cases h0 : RX.length = 0
        · rw [(h2.z0 h0).2]; simp
        · obtain ⟨g, -, hI⟩ := h2.kn h0
          exact List.Nodup.length_le_of_subset hI.rga.once hI.sub
      · by_cases h0 : RX.length = 0
        · rw [(h2.z0 h0).2]
          show ([] : List Int).Nodup
          exact List.nodup_nil
        · obtain ⟨g, -, hI⟩ := h2.kn h0
          exact hI.rga
    · exact ⟨Nat.le_refl _, by omega, by show ([] : List Int).Nodup; exact List.nodup_nil⟩
end Go.Proofs.YtldmajifkmcdcaaGreat.Hp
