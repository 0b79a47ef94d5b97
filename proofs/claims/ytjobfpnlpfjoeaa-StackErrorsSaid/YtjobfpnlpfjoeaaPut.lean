/-
  (*Pool).Put. No condition but those typed at each theorem.
-/
import Derived.Test.YtjobfpnlpfjoeaaFits
import Derived.StillTailTactics
import Derived.Deep.RegionLaw
namespace Go.Proofs.Ytjobfpnlpfjoeaa
open Go.RowKit

theorem wp_region_tail {P : Program} {id : Nat} {Q : Exit → Act → World → Prop} {a : Act} {w : World} {l : List Oper} (n : Nat) (hm : P.follows .mixedOrders = true) (hB : Region.lexTailB .any l.toArray n = true)
    (h : wpStill P l.toArray w.drew (fun a' => wpList P l.toArray Q (l.drop n) a' w.drew) (l.take n) a) : (Code.region id l.toArray true).wp P Q a w := wp_region_still_tail n hm hB h

theorem undrew {w w' : World} (h : Below w.drew.heap.size w.drew w') : Below w.heap.size w w' := ⟨h.os, h.tape, h.output, h.size, h.block⟩
theorem grown_drew {w w' : World} {o : Option Nat} (h : w.drew.grownBy w' o) : w.grownBy w' o := ⟨h.os, h.tape, h.output, h.size, h.block⟩
theorem step_more {P : Program} {e : TypeId} {z : Value} {size bytes : Nat} (hi : (P.info? e).map (fun i => (i.zero, i.size, i.bytes)) = some (some z, size, bytes)) (hzs : z.cells.size = size) (hsz : 0 < size) (hby : bytes ≤ 64)
    {t : TypeId} (ht : P.underlying t = some (.slice e)) {w : World} {ops : Array Oper} {o : Oper} {a : Act} {K : Act → World → Prop} {Q : Exit → Act → World → Prop} {E : Prop} (hg : o.guard = none) (s x : Operand) (hop : o.op = Op.call { callee := Callee.builtin Builtin.append, args := #[s, x], argTypes := #[t, t] })
    (v : Value) (n : Nat) (xs : List Value) (hs : a.eval s = v) (hown : w.ownsRow 0 e size v n xs) (ad : Addr) (m c : Nat) (news : List Value) (hx : a.eval x = .slice (some ad) m c) (hl : news.length = m * size)
    (hnews : ∀ j u, news[j]? = some u → w.cell? (ad.add j) = some u) (h1 : ∀ u ∈ news, u.oneCell' = true) (hn : n + m ≤ 100000) (hm : 0 < m)
    (hK : ∀ g cap w', w'.ownsRow 0 e size (.slice (some ⟨g, 0, none⟩) (n + m) cap) (n + m) (xs ++ news) → w.grownBy w' v.ownBlock → (v.ownBlock = some g ∨ g = w.heap.size) → K (a.put o.dst (.slice (some ⟨g, 0, none⟩) (n + m) cap)) w') :
    if Region.wanted o (yielded ops a.tmps) = true then Oper.wp P o a w K Q else E := by
  have hw : Region.wanted o (yielded ops a.tmps) = true := by simp [Region.wanted, hg]
  rw [if_pos hw]
  obtain ⟨g, cap, w', hr, r1, r2, r3⟩ := run_more hi hzs hsz hby ht o.type w v n xs hown ad m c news hl hnews h1 hn hm
  unfold Oper.wp execOp
  simp only [hop, resolve, invoke, builtin, Sem.run_bind, Sem.run_pure, Result.andThen_ok, List.map_toArray, List.map_cons, List.map_nil, hs, hx, hr]
  exact hK g cap w' r1 r2 r3
theorem nd_at (W : World) (n : Nd) (t : TypeId) : ∀ j u, (nvs n)[j]? = some u → (W.alloc (.cells (nvs n).toArray t)).cell? ((⟨W.heap.size, 0, none⟩ : Addr).add j) = some u := by
  intro j u hu
  rw [Addr.add_lit, Nat.zero_add, World.cell?_alloc_new]
  simpa using hu

/-- in the midst of a Put: the node has been put behind the row, and the pool does not know it yet -/
structure Mid (w w4 : World) (P d g cap : Nat) (v1 v2 : Value) (most : Int) (N : List Nd) (n : Nd) : Prop where
  bP : w4.heap[P]? = some (.cells #[.pointer (some ⟨P, 0, none⟩), .int .i64 most, v1, v2] 57 (0, 0))
  ns : w4.ownsRow 0 36 7 (.slice (some ⟨g, 0, none⟩) (d + 1) cap) (d + 1) (flatN (N ++ [n]))
  ts : w4.ownsRow 0 4 1 v2 N.length ((tk N).map Value.bool)
  nd : N1 w4 w.heap.size 0 n
  off : Off (pbl P v1 v2) w w4
  new : v1.ownBlock = some g ∨ w.heap.size ≤ g
theorem Mid.cP {w w4 : World} {P d g cap : Nat} {v1 v2 : Value} {most : Int} {N : List Nd} {n : Nd} (h : Mid w w4 P d g cap v1 v2 most N n) : w4.cell? ⟨P, 2, none⟩ = some v1 := by simp [World.cell?, h.bP]
theorem Mid.fP {w w4 : World} {P d g cap : Nat} {v1 v2 : Value} {most : Int} {N : List Nd} {n : Nd} (h : Mid w w4 P d g cap v1 v2 most N n) : w4.frozen? ⟨P, 2, none⟩ = false := by simp [World.frozen?, h.bP]
theorem put_mid {w wd w4 : World} {P d g cap : Nat} {v1 v2 : Value} {most : Int} {N : List Nd} {n : Nd} (hP : PO wd P v1 v2 most N) (hn : N1 wd w.heap.size 0 n) (hO : ∀ S, Off S w wd) (hlt : ∀ k ∈ pbl P v1 v2, k < w.heap.size)
    (r1 : w4.ownsRow 0 36 7 (.slice (some ⟨g, 0, none⟩) (d + 1) cap) (d + 1) (flatN N ++ nvs n)) (r2 : (wd.alloc (.cells (nvs n).toArray 36)).grownBy w4 v1.ownBlock)
    (r3 : v1.ownBlock = some g ∨ g = (wd.alloc (.cells (nvs n).toArray 36)).heap.size) : Mid w w4 P d g cap v1 v2 most N n := by
  have hold : ∀ k, k < wd.heap.size → v1.ownBlock ≠ some k → w4.heap[k]? = wd.heap[k]? := fun k hk h => (r2.block k (by simp; omega) (fun e => h e.symm)).trans (Below.heap_alloc _ _ _ hk)
  have h1P : v1.ownBlock ≠ some P := fun e => by
    obtain ⟨cur, h⟩ := row_type hP.ns e
    exact types_ne h hP.box (by decide) rfl
  have h12 : ∀ k, v2.ownBlock = some k → v1.ownBlock ≠ some k := fun k e2 e1 => by
    obtain ⟨cur, h⟩ := row_type hP.ns e1
    obtain ⟨cur', h'⟩ := row_type hP.ts e2
    exact types_ne h h' (by decide) rfl
  refine ⟨(hold P (lt_of_block hP.box) h1P).trans hP.box, by rw [flatN_snoc]; exact r1, row_at hP.ts (fun k e => ⟨hold k (hP.ts.lt k e).2 (h12 k e), Nat.zero_le _⟩), hn.block (hold _ hn.lt (fun e => by have := hlt _ (mem_pbl.2 (.inr (.inl e))); omega)), ?_, ?_⟩
  · exact ((hO _).all _).grow r2 (fun k e => .inl (mem_pbl.2 (.inr (.inl e))))
  · rcases r3 with h | h
    · exact .inl h
    · exact .inr (by rw [h]; have := (hO []).size; simp; omega)

/-- the pool knows its nodes, and not yet whose kids they are -/
structure Mid5 (w w5 : World) (P d g cap : Nat) (v1 v2 : Value) (most : Int) (N : List Nd) (n : Nd) : Prop where
  bP : w5.heap[P]? = some (.cells #[.pointer (some ⟨P, 0, none⟩), .int .i64 most, .slice (some ⟨g, 0, none⟩) (d + 1) cap, v2] 57 (0, 0))
  ns : w5.ownsRow 0 36 7 (.slice (some ⟨g, 0, none⟩) (d + 1) cap) (d + 1) (flatN (N ++ [n]))
  ts : w5.ownsRow 0 4 1 v2 N.length ((tk N).map Value.bool)
  nd : N1 w5 w.heap.size 0 n
  off : Off (pbl P v1 v2) w w5
  new : v1.ownBlock = some g ∨ w.heap.size ≤ g
theorem mid_store {w w4 : World} {P d g cap : Nat} {v1 v2 : Value} {most : Int} {N : List Nd} {n : Nd} (K : Mid w w4 P d g cap v1 v2 most N n) (hlt : ∀ k ∈ pbl P v1 v2, k < w.heap.size) :
    Mid5 w (w4.setCell ⟨P, 2, none⟩ (.slice (some ⟨g, 0, none⟩) (d + 1) cap)) P d g cap v1 v2 most N n := by
  have hP := hlt P (mem_pbl.2 (.inl rfl))
  have hold : ∀ k, k ≠ P → (w4.setCell ⟨P, 2, none⟩ (.slice (some ⟨g, 0, none⟩) (d + 1) cap)).heap[k]? = w4.heap[k]? := fun k hk => Below.heap_setCell _ _ _ _ hk
  have hbP := K.bP
  refine ⟨?_, row_at K.ns (fun k e => ⟨hold k (fun e2 => ?_), Nat.zero_le _⟩), row_at K.ts (fun k e => ⟨hold k (fun e2 => ?_), Nat.zero_le _⟩), K.nd.block (hold _ (by omega)), K.off.set _ _ (.inl (mem_pbl.2 (.inl rfl))), K.new⟩
  · rw [heap_setCell_same _ _ _ _ _ _ hbP]
    rfl
  · obtain ⟨cur, h⟩ := row_type K.ns e
    exact types_ne h hbP (by decide) e2
  · obtain ⟨cur, h⟩ := row_type K.ts e
    exact types_ne h hbP (by decide) e2
/-- all but the last store -/
structure End6 (w w6 : World) (P d g cap g2 cap2 : Nat) (v1 v2 : Value) (most : Int) (N : List Nd) : Prop where
  bP : w6.heap[P]? = some (.cells #[.pointer (some ⟨P, 0, none⟩), .int .i64 most, .slice (some ⟨g, 0, none⟩) (d + 1) cap, v2] 57 (0, 0))
  ns : w6.ownsRow 0 36 7 (.slice (some ⟨g, 0, none⟩) (d + 1) cap) (d + 1) (flatN N)
  ts : w6.ownsRow 0 4 1 (.slice (some ⟨g2, 0, none⟩) (d + 1) cap2) (d + 1) ((tk N).map Value.bool)
  off : Off (pbl P v1 v2) w w6
  new : ∀ k ∈ pbl P (.slice (some ⟨g, 0, none⟩) (d + 1) cap) (.slice (some ⟨g2, 0, none⟩) (d + 1) cap2), k ∈ pbl P v1 v2 ∨ w.heap.size ≤ k
  rt : Rt N
  len : N.length = d + 1
theorem End6.cP {w w6 : World} {P d g cap g2 cap2 : Nat} {v1 v2 : Value} {most : Int} {N : List Nd} (h : End6 w w6 P d g cap g2 cap2 v1 v2 most N) : w6.cell? ⟨P, 3, none⟩ = some v2 := by simp [World.cell?, h.bP]
theorem End6.fP {w w6 : World} {P d g cap g2 cap2 : Nat} {v1 v2 : Value} {most : Int} {N : List Nd} (h : End6 w w6 P d g cap g2 cap2 v1 v2 most N) : w6.frozen? ⟨P, 3, none⟩ = false := by simp [World.frozen?, h.bP]
theorem End6.po {w w6 : World} {P d g cap g2 cap2 : Nat} {v1 v2 : Value} {most : Int} {N : List Nd} (h : End6 w w6 P d g cap g2 cap2 v1 v2 most N) :
    PO (w6.setCell ⟨P, 3, none⟩ (.slice (some ⟨g2, 0, none⟩) (d + 1) cap2)) P (.slice (some ⟨g, 0, none⟩) (d + 1) cap) (.slice (some ⟨g2, 0, none⟩) (d + 1) cap2) most N := by
  have hold : ∀ k, k ≠ P → (w6.setCell ⟨P, 3, none⟩ (.slice (some ⟨g2, 0, none⟩) (d + 1) cap2)).heap[k]? = w6.heap[k]? := fun k hk => Below.heap_setCell _ _ _ _ hk
  have hbP := h.bP
  refine ⟨?_, ?_, ?_, h.rt⟩
  · rw [heap_setCell_same _ _ _ _ _ _ hbP]
    rfl
  · rw [h.len]
    refine row_at h.ns (fun k e => ⟨hold k (fun e2 => ?_), Nat.zero_le _⟩)
    obtain ⟨cur, h'⟩ := row_type h.ns e
    exact types_ne h' hbP (by decide) e2
  · rw [h.len]
    refine row_at h.ts (fun k e => ⟨hold k (fun e2 => ?_), Nat.zero_le _⟩)
    obtain ⟨cur, h'⟩ := row_type h.ts e
    exact types_ne h' hbP (by decide) e2
theorem End6.off' {w w6 : World} {P d g cap g2 cap2 : Nat} {v1 v2 : Value} {most : Int} {N : List Nd} (h : End6 w w6 P d g cap g2 cap2 v1 v2 most N) :
    Off (pbl P v1 v2) w (w6.setCell ⟨P, 3, none⟩ (.slice (some ⟨g2, 0, none⟩) (d + 1) cap2)) := h.off.set _ _ (.inl (mem_pbl.2 (.inl rfl)))
theorem put_end {w w5 w6 : World} {P d g cap g2 cap2 : Nat} {v1 v2 : Value} {most : Int} {N : List Nd} {n : Nd} (K : Mid5 w w5 P d g cap v1 v2 most N n) (hd : d = N.length) (hR : Rt (N ++ [n]))
    (t1 : w6.ownsRow 0 4 1 (.slice (some ⟨g2, 0, none⟩) (d + 1) cap2) (d + 1) ((tk (N ++ [n])).map Value.bool)) (t2 : Off v2.ownBlock.toList w5.drew w6) (t3 : v2.ownBlock = some g2 ∨ w5.drew.heap.size ≤ g2) :
    End6 w w6 P d g cap g2 cap2 v1 v2 most (N ++ [n]) := by
  have hold : ∀ k, k < w5.heap.size → v2.ownBlock ≠ some k → w6.heap[k]? = w5.heap[k]? := fun k hk h => t2.block k hk (by simpa [Option.mem_toList] using h)
  have hbP := K.bP
  have h2P : v2.ownBlock ≠ some P := fun e => by
    obtain ⟨cur, h⟩ := row_type K.ts e
    exact types_ne h hbP (by decide) rfl
  have h12 : ∀ k, (Value.slice (some ⟨g, 0, none⟩) (d + 1) cap).ownBlock = some k → v2.ownBlock ≠ some k := fun k e1 e2 => by
    obtain ⟨cur, h⟩ := row_type K.ns e1
    obtain ⟨cur', h'⟩ := row_type K.ts e2
    exact types_ne h h' (by decide) rfl
  refine ⟨(hold P (lt_of_block hbP) h2P).trans hbP, row_at K.ns (fun k e => ⟨hold k (K.ns.lt k e).2 (h12 k e), Nat.zero_le _⟩), t1, ?_, ?_, hR, by simp [hd]⟩
  · have hs := K.off.size
    refine ⟨t2.os.trans K.off.os, t2.tape.trans K.off.tape, t2.output.trans K.off.output, Nat.le_trans hs t2.size, fun k hk hS => ?_⟩
    refine (hold k (by omega) (fun e => hS (mem_pbl.2 (.inr (.inr e))))).trans (K.off.block k hk hS)
  · intro k hk
    rw [mem_pbl] at hk
    rcases hk with rfl | hk | hk
    · exact .inl (mem_pbl.2 (.inl rfl))
    · simp [Value.ownBlock] at hk
      subst hk
      exact K.new.elim (fun e => .inl (mem_pbl.2 (.inr (.inl e)))) .inr
    · simp [Value.ownBlock] at hk
      subst hk
      rcases t3 with h | h
      · exact .inl (mem_pbl.2 (.inr (.inr h)))
      · exact .inr (Nat.le_trans K.off.size h)

/-- what there is behind a Put, and what is told -/
def putN (N : List Nd) (most : Int) (n : Nd) : List Nd × Int × Int :=
  if mayB N n = true then (if (N.length : Int) = most then (N, 0, 5) else (N ++ [n], N.length, 0)) else (N, 0, 50)
def told (p : List Nd × Int × Int) : Value := .tuple #[.int .i64 p.2.1, .int .i64 p.2.2]

set_option maxRecDepth 100000 in
theorem Put_nil (w : World) (n : Nd) :
    Calls Try.prog 18 #[.pointer none, nv n] w fun e w' => e = .returned (.tuple #[.int .i64 0, .int .i64 1]) ∧ Below w.heap.size w w' := by
  obtain ⟨k, L, R, f, t, a, q⟩ := n
  unfold nv
  go_enter Try.func18, Try.ntmps18
  go_wp2_with (go_at_call 33; (with_reducible refine (made_nil _).mono ?_); rintro e w1 ⟨rfl, rfl⟩)
  go_ret2
  exact ⟨rfl, (Below.refl _ w).alloc (Nat.le_refl _) _⟩
set_option maxRecDepth 100000 in
theorem Put_not (w : World) (P : Nat) (n : Nd) (h : w.cell? ⟨P, 0, none⟩ = some (.pointer none)) :
    Calls Try.prog 18 #[.pointer (some ⟨P, 0, none⟩), nv n] w fun e w' => e = .returned (.tuple #[.int .i64 0, .int .i64 1]) ∧ Below w.heap.size w w' := by
  obtain ⟨k, L, R, f, t, a, q⟩ := n
  unfold nv
  have HC := Lib.hid (fun o => made_not (w.alloc o) P (cell_al o h))
  clear h
  go_enter Try.func18, Try.ntmps18
  go_wp2_with (go_at_call 33; (with_reducible refine (HC.out _).mono ?_); rintro e w1 ⟨rfl, rfl⟩)
  go_ret2
  exact ⟨rfl, (Below.refl _ w).alloc (Nat.le_refl _) _⟩

set_option maxRecDepth 100000 in
set_option maxHeartbeats 3200000 in
theorem Put_any (w : World) (P : Nat) (v1 v2 : Value) (most : Int) (N : List Nd) (n : Nd) (h : PO w P v1 v2 most N) (hN : N.length ≤ 8000) :
    Calls Try.prog 18 #[.pointer (some ⟨P, 0, none⟩), nv n] w fun e w' => ∃ u1 u2, e = .returned (told (putN N most n)) ∧ PO w' P u1 u2 most (putN N most n).1 ∧ Off (pbl P v1 v2) w w' ∧ ∀ k ∈ pbl P u1 u2, k ∈ pbl P v1 v2 ∨ w.heap.size ≤ k := by
  obtain ⟨hl, p2, c2, hv2, hY⟩ := row_yn h.ts
  obtain ⟨-, p1, cp1, hv1, -⟩ := row_nds h.ns
  have HP := Lib.hid h
  have HM := Lib.hid (fun X (hX : PO X P v1 v2 most N) => made_yes X P v1 v2 most N hX)
  have HF := Lib.hid (fun X (hX : Below w.heap.size w X) => by
    have := fits_any n X p2 c2 (tk N) (hY.keep hX)
    rw [fits_may] at this
    exact this)
  obtain ⟨d, hd⟩ : ∃ d, d = N.length := ⟨_, rfl⟩
  rw [← hd] at hN hv2 hl hv1
  have HD := Lib.hid hd
  rw [hl] at HF
  clear hd hl hY h
  subst hv2
  subst hv1
  have HB1 := Lib.hid (fun o => (Below.refl _ w).alloc (Nat.le_refl _) o)
  have HX1 := Lib.hid (fun o => HP.out.keep (HB1.out o))
  obtain ⟨w1, hw1⟩ : ∃ w1, w1 = w.alloc (.cells (nvs n).toArray 36) := ⟨_, rfl⟩
  have hN1 : N1 w1 w.heap.size 0 n := by rw [hw1]; exact N1.new w n _
  have hPO1 : PO w1 P (.slice p1 d cp1) (.slice p2 d c2) most N := by rw [hw1]; exact HX1.out _
  have hB11 : Below w.heap.size w w1 := by rw [hw1]; exact HB1.out _
  have hO11 : ∀ S, Off S w w1 := fun S => by rw [hw1]; exact (Off.refl S w).all _
  have hs1 : w1.heap.size = w.heap.size + 1 := by rw [hw1]; simp
  have n0 := hN1.c0
  have n1 := hN1.c1
  have n2 := hN1.c2
  have n3 := hN1.c3
  have n4 := hN1.c4
  have n5 := hN1.c5
  have n6 := hN1.c6
  simp only [Nat.zero_add] at n1 n2 n3 n4 n5 n6
  have c1 := hPO1.c1
  have c2' := hPO1.c2
  have c3 := hPO1.c3
  have HPO1 := Lib.hid hPO1
  have HB11 := Lib.hid hB11
  have HO11 := Lib.hid hO11
  have HS1 := Lib.hid hs1
  have HCM := Lib.hid (HM.out w1 hPO1)
  have HPL := Lib.hid HP.out.lt
  clear hN1 hPO1 hB11 hO11 HX1 HB1 hs1 HP HM
  have HN1 := Lib.hid (show N1 w1 w.heap.size 0 n from ⟨n0, by simpa using n1, by simpa using n2, by simpa using n3, by simpa using n4, by simpa using n5, by simpa using n6⟩)
  by_cases hm : mayB N n = true
  · by_cases hf : (d : Int) = most
    · have hput : putN N most n = (N, 0, 5) := by simp [putN, hm, ← HD.out, hf]
      rw [hput]
      rw [hm] at HF
      clear hput hm c1 c2'
      obtain ⟨k, L, R, f, t, a, q⟩ := n
      unfold nv told
      unfold nv at HF
      unfold nvs at hw1
      simp only at n0 n1 n2 n3 n4 n5 n6
      go_enter Try.func18, Try.ntmps18
      go_upto_region 3 with (rw [← hw1]; clear hw1; go_at_call 33; (with_reducible refine HCM.out.mono ?_); rintro e w2 ⟨rfl, rfl⟩)
      refine wp_region_tail 5 (by kernel_rfl) (by kernel_rfl) ?_
      simp only [List.take_succ_cons, List.take_zero, List.drop_succ_cons, List.drop_zero]
      repeat still_step
      refine wpStill_nil ?_
      go_upto_region 5 with (go_at_call 31; (with_reducible refine (HF.out _ HB11.out.drew).mono ?_); rintro e w3 ⟨rfl, hb⟩; have HB3 := Lib.hid (undrew hb); clear hb)
      have hB3 : Below w2.heap.size w2 w3 := HB3.out
      have hPO3 := HPO1.out.keep hB3
      have hN3 := HN1.out.keep hB3 (by have := HS1.out; omega)
      have hO3 : ∀ S, Off S w w3 := fun S => (HO11.out S).bel hB3
      clear n0 n1 n2 n3 n4 n5 n6 c3
      have c1 := hPO3.c1
      have c2' := hPO3.c2
      have c3 := hPO3.c3
      have n0 := hN3.c0
      have n1 := hN3.c1
      have n2 := hN3.c2
      have n3 := hN3.c3
      have n4 := hN3.c4
      have n5 := hN3.c5
      have n6 := hN3.c6
      simp only [Nat.zero_add] at n0 n1 n2 n3 n4 n5 n6
      have HPO3 := Lib.hid hPO3
      have HN3 := Lib.hid hN3
      have HO3 := Lib.hid hO3
      have HS3 := Lib.hid hB3.size
      clear hB3 hPO3 hN3 hO3
      refine wp_region_tail 9 (by kernel_rfl) (by kernel_rfl) ?_
      simp only [List.take_succ_cons, List.take_zero, List.drop_succ_cons, List.drop_zero]
      repeat still_step
      refine wpStill_nil ?_
      go_wp2
      go_ret2
      exact ⟨_, _, rfl, HPO3.out.block (fun _ _ => rfl), (HO3.out _).drew, fun k hk => .inl hk⟩
    · have hput : putN N most n = (N ++ [n], (N.length : Int), 0) := by simp [putN, hm, ← HD.out, hf]
      rw [hput]
      have HR := Lib.hid (HPO1.out.rt.snoc hm)
      have HTA := Lib.hid (fun (X : World) (v : Value) (h1 : X.ownsRow 0 4 1 v N.length ((tk N).map Value.bool)) => by
        have := take_any n X v (tk N) (by rw [tk_len]; exact h1) (fun x hx => by have := may_kid hm hx; rw [tk_len]; omega) (by rw [tk_len, ← HD.out]; omega)
        rw [tk_len, take_tk HPO1.out.rt hm] at this
        exact this)
      rw [hm] at HF
      rw [← HD.out] at HTA
      rw [← HD.out]
      clear hput hm c1 c2'
      obtain ⟨k, L, R, f, t, a, q⟩ := n
      unfold nv told
      unfold nv at HF
      unfold nvs at hw1
      simp only at n0 n1 n2 n3 n4 n5 n6
      go_enter Try.func18, Try.ntmps18
      go_upto_region 3 with (rw [← hw1]; clear hw1; go_at_call 33; (with_reducible refine HCM.out.mono ?_); rintro e w2 ⟨rfl, rfl⟩)
      refine wp_region_tail 5 (by kernel_rfl) (by kernel_rfl) ?_
      simp only [List.take_succ_cons, List.take_zero, List.drop_succ_cons, List.drop_zero]
      repeat still_step
      refine wpStill_nil ?_
      go_upto_region 5 with (go_at_call 31; (with_reducible refine (HF.out _ HB11.out.drew).mono ?_); rintro e w3 ⟨rfl, hb⟩; have HB3 := Lib.hid (undrew hb); clear hb)
      have hB3 : Below w2.heap.size w2 w3 := HB3.out
      have hPO3 := HPO1.out.keep hB3
      have hN3 := HN1.out.keep hB3 (by have := HS1.out; omega)
      have hO3 : ∀ S, Off S w w3 := fun S => (HO11.out S).bel hB3
      clear n0 n1 n2 n3 n4 n5 n6 c3
      have c1 := hPO3.c1
      have c2' := hPO3.c2
      have c3 := hPO3.c3
      have n0 := hN3.c0
      have n1 := hN3.c1
      have n2 := hN3.c2
      have n3 := hN3.c3
      have n4 := hN3.c4
      have n5 := hN3.c5
      have n6 := hN3.c6
      simp only [Nat.zero_add] at n0 n1 n2 n3 n4 n5 n6
      have HPO3 := Lib.hid hPO3
      have HN3 := Lib.hid hN3
      have HO3 := Lib.hid hO3
      have HS3 := Lib.hid hB3.size
      clear hB3 hPO3 hN3 hO3
      refine wp_region_tail 9 (by kernel_rfl) (by kernel_rfl) ?_
      simp only [List.take_succ_cons, List.take_zero, List.drop_succ_cons, List.drop_zero]
      repeat still_step
      refine wpStill_nil ?_
      go_upto_region 7 with fail
      rw [show ((d : Int) == most) = false by simpa using hf]
      obtain ⟨wd, hwd⟩ : ∃ wd, wd = w3.drew := ⟨_, rfl⟩
      rw [← hwd]
      have hPOd : PO wd P (.slice p1 d cp1) (.slice p2 d c2) most N := by rw [hwd]; exact HPO3.out.block (fun _ _ => rfl)
      have hNd : N1 wd w.heap.size 0 (k, L, R, f, t, a, q) := by rw [hwd]; exact HN3.out.block rfl
      have hOd : ∀ S, Off S w wd := fun S => by rw [hwd]; exact (HO3.out S).drew
      have hDN := HD.out
      have hown := hPOd.ns.alloc (.cells (nvs (k, L, R, f, t, a, q)).toArray 36)
      rw [← hDN] at hown
      clear n0 n1 n2 n3 n4 n5 n6 c1 c2' c3
      have c2' := hPOd.c2
      have fr2 := hPOd.fr 2
      have e2 : P < wd.heap.size := lt_of_block hPOd.box
      have e1 : ¬ wd.heap.size = P := by omega
      have e3 : ¬ P = wd.heap.size := by omega
      have n0 := hNd.c0
      have n1 := hNd.c1
      have n2 := hNd.c2
      have n3 := hNd.c3
      have n4 := hNd.c4
      have n5 := hNd.c5
      have n6 := hNd.c6
      simp only [Nat.zero_add] at n0 n1 n2 n3 n4 n5 n6
      have HPOD := Lib.hid hPOd
      have HND := Lib.hid hNd
      have HOD := Lib.hid hOd
      have HOWN := Lib.hid hown
      clear hPOd hNd hOd hown hDN HPO3 HN3 HO3 hwd HS3 HB3
      go_cut [] from 26 to 35 (fun wx => ∃ g cap w4, Hid (Mid w w4 P d g cap (.slice p1 d cp1) (.slice p2 d c2) most N (k, L, R, f, t, a, q)) ∧ wx = w4.setCell ⟨P, 2, none⟩ (.slice (some ⟨g, 0, none⟩) (d + 1) cap))
      case first =>
        go_region_law ((refine step_more Try.info36 rfl (by decide) (by decide) Try.underlying22 rfl (.tmp 30) (.tmp 32) rfl (.slice p1 d cp1) d (flatN N) (by simp [Act.eval]) (by exact HOWN.out) ⟨wd.heap.size, 0, none⟩ 1 1 (nvs (k, L, R, f, t, a, q)) (by simp [Act.eval]) rfl (nd_at wd _ _) (nvs_one _) (by omega) (by omega) ?_; intro g cap w4 r1 r2 r3; have K := put_mid HPOD.out HND.out HOD.out HPL.out r1 (grown_drew r2) r3; have k1 := K.cP; have k2 := K.fP; have HK := Lib.hid K; clear r1 r2 r3 K))
        all_goals (go_wp2_with fail; go_meet; exact ⟨g, cap, w4, HK, rfl⟩)
      case rest =>
        obtain ⟨g, cap, w4, HK, rfl⟩ := hcut
        have K := mid_store HK.out HPL.out
        generalize w4.setCell ⟨P, 2, none⟩ (.slice (some ⟨g, 0, none⟩) (d + 1) cap) = w5 at *
        have hT := HTA.out w5.drew _ (by rw [HD.out]; exact K.ts)
        have n0 := K.nd.c0
        have n1 := K.nd.c1
        have n2 := K.nd.c2
        have n3 := K.nd.c3
        have n4 := K.nd.c4
        have n5 := K.nd.c5
        have n6 := K.nd.c6
        simp only [Nat.zero_add] at n0 n1 n2 n3 n4 n5 n6
        have c3 : w5.cell? ⟨P, 3, none⟩ = some (.slice p2 d c2) := by simp [World.cell?, K.bP]
        unfold nv at hT
        have HT := Lib.hid hT
        have HK5 := Lib.hid K
        clear hT K HTA HF HK HPOD HND HOD HOWN c2' fr2 e1 e2 e3
        go_upto_region 8 with fail
        go_cut [] from 36 to 44 (fun wx => ∃ g2 cap2, Hid (PO wx P (.slice (some ⟨g, 0, none⟩) (d + 1) cap) (.slice (some ⟨g2, 0, none⟩) (d + 1) cap2) most (N ++ [(k, L, R, f, t, a, q)])) ∧ Hid (Off (pbl P (.slice p1 d cp1) (.slice p2 d c2)) w wx) ∧ Hid (∀ k ∈ pbl P (.slice (some ⟨g, 0, none⟩) (d + 1) cap) (.slice (some ⟨g2, 0, none⟩) (d + 1) cap2), k ∈ pbl P (.slice p1 d cp1) (.slice p2 d c2) ∨ w.heap.size ≤ k))
        case first =>
          go_region_with (go_at_call 32; (with_reducible refine HT.out.mono ?_); rintro e w6 ⟨g2, cap2, rfl, t1, t2, t3⟩; have K6 := put_end HK5.out HD.out HR.out t1 t2 t3; have k1 := K6.cP; have k2 := K6.fP; have HK6 := Lib.hid K6; clear t1 t2 t3 K6)
          all_goals (go_wp2_with fail; go_meet; exact ⟨g2, cap2, Lib.hid HK6.out.po, Lib.hid HK6.out.off', Lib.hid HK6.out.new⟩)
        case rest =>
          obtain ⟨g2, cap2, HE, HO, HW⟩ := hcut
          have c2' := HE.out.c2
          clear n0 n1 n2 n3 n4 n5 n6 c3 HT HK5
          go_wp2
          go_ret2
          exact ⟨_, _, by simp, HE.out, HO.out, HW.out⟩
  · have hmf : mayB N n = false := by simpa using hm
    have hput : putN N most n = (N, 0, 50) := by simp [putN, hm]
    rw [hput]
    rw [hmf] at HF
    clear hput hm hmf c1 c2'
    obtain ⟨k, L, R, f, t, a, q⟩ := n
    unfold nv told
    unfold nv at HF
    unfold nvs at hw1
    simp only at n0 n1 n2 n3 n4 n5 n6
    go_enter Try.func18, Try.ntmps18
    go_upto_region 3 with (rw [← hw1]; clear hw1; go_at_call 33; (with_reducible refine HCM.out.mono ?_); rintro e w2 ⟨rfl, rfl⟩)
    refine wp_region_tail 5 (by kernel_rfl) (by kernel_rfl) ?_
    simp only [List.take_succ_cons, List.take_zero, List.drop_succ_cons, List.drop_zero]
    repeat still_step
    refine wpStill_nil ?_
    go_wp2_with (go_at_call 31; (with_reducible refine (HF.out _ HB11.out.drew).mono ?_); rintro e w3 ⟨rfl, hb⟩; have HB3 := Lib.hid (undrew hb); clear hb)
    go_ret2
    exact ⟨_, _, rfl, HPO1.out.keep HB3.out, (HO11.out _).bel HB3.out, fun k hk => .inl hk⟩
end Go.Proofs.Ytjobfpnlpfjoeaa
