/-
  A span taken out of its nodes. No condition but those typed at each theorem.
-/
import Derived.Test.YtgcimicbbadapaaSw
import Derived.Test.YtgcimicbbadapaaSr
import Derived.Deep.LoopGhost
import Derived.WalkMore
namespace Go.Proofs.Ytgcimicbbadapaa
open Go.RowKit

theorem row_cut {w : World} {base n m : Nat} {e : TypeId} {g c : Nat} {xs : List Value} (h : w.ownsRow base e 1 (.slice (some ⟨g, 0, none⟩) n c) n xs) (hm : m ≤ n) : w.ownsRow base e 1 (.slice (some ⟨g, 0, none⟩) m c) m (xs.take m) := by
  obtain ⟨h1, h2⟩ := h
  rcases h2 with ⟨h2, _⟩ | ⟨g', cap, cur, hv, hb, hg, hnc, hcm, hcs, htk⟩
  · cases h2
  · cases hv
    refine ⟨by rw [List.length_take]; omega, .inr ⟨g, c, cur, rfl, hb, hg, by omega, hcm, hcs, ?_⟩⟩
    rw [← htk, List.take_take]
    congr 1
    omega
theorem off_set2 (w : World) (g i : Nat) (v : Value) : Off [g] w (w.setCell ⟨g, i, none⟩ v) := (Off.refl _ w).set _ _ (.inl (by simp))
theorem slU_to (X : World) (p : Option Addr) (n c h : Nat) (hm : h ≤ c) : (Instr.slice 41 (.slice p n c) none (some (.int .i64 h)) none).run Try.prog X = .ok (.slice p h c) X := by
  obtain ⟨i0, hi, hz0, hz1, hz2⟩ := info_parts Try.info32
  simp [Instr.slice, run_underlying Try.underlying41, Instr.sliceBounds, Instr.sliceBound, asIntOf, sizeOf, typeInfo, hi, hm]
  cases p <;> simp [Addr.add_zero']
theorem zeroSt (w : World) : ∃ z, (zeroValue 70).run Try.prog w = .ok z w := ⟨.agg #[.int .i64 0, .int .i64 0, .int .u32 0, .slice none 0 0], by kernel_rfl⟩
section
variable {X wr : World} {g : Nat} {ev : Value} {eb : List Nat} {gf gn gm : Nat} {E : List Int} {NV : List Value} {NM : List (List Int)} {D : List En} {wt : Int}
/-- the last name of a node written over another, and cut off -/
theorem SegM.cut1 {k m p cap a : Nat} (h : SegM X g ev eb gf gn gm E NV NM D wt) (hk : NV[k]? = some (.slice (some ⟨a, 0, none⟩) (m + 1) cap)) (hl : (nm NM k).length = m + 1) (last : Int) :
    SegM ((X.setCell ⟨a, p, none⟩ (.int .u32 last)).setCell ⟨gn, k, none⟩ (.slice (some ⟨a, 0, none⟩) m cap)) g ev eb gf gn gm E (NV.set k (.slice (some ⟨a, 0, none⟩) m cap)) (NM.set k (((nm NM k).set p last).take m)) D wt ∧
    Off [gn, a] X ((X.setCell ⟨a, p, none⟩ (.int .u32 last)).setCell ⟨gn, k, none⟩ (.slice (some ⟨a, 0, none⟩) m cap)) := by
  have hvm : Value.slice (some ⟨a, 0, none⟩) (m + 1) cap ∈ NV := List.mem_of_getElem? hk
  obtain ⟨cur, hty⟩ := h.nameType hvm (b := a) rfl
  have hne : gn ≠ a := types_ne h.nms hty (by decide)
  have o1 := off_set2 X a p (.int .u32 last)
  have o2 := off_set2 (X.setCell ⟨a, p, none⟩ (.int .u32 last)) gn k (.slice (some ⟨a, 0, none⟩) m cap)
  have o : Off [gn, a] X ((X.setCell ⟨a, p, none⟩ (.int .u32 last)).setCell ⟨gn, k, none⟩ (.slice (some ⟨a, 0, none⟩) m cap)) := (o1.mono (fun b _ hb => by simp at hb ⊢; exact .inr hb)).trans (o2.mono (fun b _ hb => by simp at hb ⊢; exact .inl hb))
  have hgn : EV 41 (X.setCell ⟨a, p, none⟩ (.int .u32 last)) gn NV := h.nms.off o1 (by simpa using hne)
  have hr := h.row k _ hk
  rw [hl] at hr
  have hr1 := row_cut (row_set (j := p) hr (.int .u32 last)) (Nat.le_succ m)
  have hr2 : ((X.setCell ⟨a, p, none⟩ (.int .u32 last)).setCell ⟨gn, k, none⟩ (.slice (some ⟨a, 0, none⟩) m cap)).ownsRow 0 32 1 (.slice (some ⟨a, 0, none⟩) m cap) m ((((nm NM k).map (Value.int .u32)).set p (.int .u32 last)).take m) :=
    row_at hr1 (fun b e => ⟨o2.block b (row_lt hr1 e).2 (by simp [Value.ownBlock] at e; subst e; simpa using Ne.symm hne), Nat.zero_le _⟩)
  have hlen : (((nm NM k).set p last).take m).length = m := by rw [List.length_take, List.length_set, hl]; omega
  refine ⟨h.nameSet (L := ((nm NM k).set p last).take m) hk o (hgn.set k _) ?_ (fun b e => .inl e), o⟩
  rw [hlen, List.map_take, List.map_set]
  exact hr2
theorem bks_cut {k m cap a c2 m2 : Nat} (hk : NV[k]? = some (.slice (some ⟨a, 0, none⟩) m cap)) {b : Nat} (hb : b ∈ bks g eb gf gn gm (NV.set k (.slice (some ⟨a, 0, none⟩) m2 c2)) D) : b ∈ bks g eb gf gn gm NV D := by
  rcases mem_bks.1 hb with h | h | h | h | h | ⟨u, hu, e⟩ | h
  · exact mem_bks.2 (.inl h)
  · exact mem_bks.2 (.inr (.inl h))
  · exact mem_bks.2 (.inr (.inr (.inl h)))
  · exact mem_bks.2 (.inr (.inr (.inr (.inl h))))
  · exact mem_bks.2 (.inr (.inr (.inr (.inr (.inl h)))))
  · rcases List.mem_or_eq_of_mem_set hu with hu | rfl
    · exact mem_bks.2 (.inr (.inr (.inr (.inr (.inr (.inl ⟨u, hu, e⟩))))))
    · exact mem_bks.2 (.inr (.inr (.inr (.inr (.inr (.inl ⟨_, List.mem_of_getElem? hk, e⟩))))))
  · exact mem_bks.2 (.inr (.inr (.inr (.inr (.inr (.inr h))))))
/-- a tree while a span leaves its nodes: j of them it has left -/
structure LvM (X wr : World) (g : Nat) (ev : Value) (eb : List Nat) (gf gn gm : Nat) (E : List Int) (NV : List Value) (D : List En) (wt : Int) (x : En) (j : Nat) (NVj : List Value) (NMj : List (List Int)) (Dj : List En) : Prop where
  m : SegM wr g ev eb gf gn gm E NVj NMj Dj wt
  i : LvI E NMj Dj x j
  off : Off (bks g eb gf gn gm NV D) X wr
  old : ∀ b ∈ bks g eb gf gn gm NVj Dj, b ∈ bks g eb gf gn gm NV D
  same : Dj.map (·.1) = D.map (·.1)
variable {x : En} {j : Nat} {NVj : List Value} {NMj : List (List Int)} {Dj : List En}
theorem LvM.bel {w' : World} (h : LvM X wr g ev eb gf gn gm E NV D wt x j NVj NMj Dj) (hb : Below wr.heap.size wr w') : LvM X w' g ev eb gf gn gm E NV D wt x j NVj NMj Dj :=
  ⟨h.m.bel hb, h.i, h.off.bel hb, h.old, h.same⟩
theorem LvM.step {k p m cap a c i : Nat} {last : Int} {dl : En} {bl nl cl : Nat} (h : LvM X wr g ev eb gf gn gm E NV D wt x j NVj NMj Dj) (hq : x.2.2[j]? = some (k, p)) (hkl : k < NMj.length) (hpx : (nm NMj k)[p]? = some x.1.2.2) (hm : (nm NMj k).length = m + 1) (hpm : p ≤ m)
    (hl : (nm NMj k)[m]? = some last) (ha : Dj[i]? = some dl) (hdn : dl.1.2.2 = last) (hc : dl.2.2[c]? = some (k, m)) (hk : NVj[k]? = some (.slice (some ⟨a, 0, none⟩) (m + 1) cap)) (hv : dl.2.1 = .slice (some ⟨bl, 0, none⟩) nl cl)
    {w2 : World} (hb2 : Below wr.heap.size ((wr.setCell ⟨a, p, none⟩ (.int .u32 last)).setCell ⟨gn, k, none⟩ (.slice (some ⟨a, 0, none⟩) m cap)) w2) :
    LvM X (w2.setCell ⟨bl, c * 2 + 1, none⟩ (.int .i64 (p : Nat))) g ev eb gf gn gm E NV D wt x (j + 1) (NVj.set k (.slice (some ⟨a, 0, none⟩) m cap)) (NMj.set k (((nm NMj k).set p last).take m)) (Dj.set i (dl.1, dl.2.1, dl.2.2.set c (k, p))) := by
  obtain ⟨h1, h2⟩ := h.m.cut1 (p := p) hk hm last
  have hb3 : Below ((wr.setCell ⟨a, p, none⟩ (.int .u32 last)).setCell ⟨gn, k, none⟩ (.slice (some ⟨a, 0, none⟩) m cap)).heap.size ((wr.setCell ⟨a, p, none⟩ (.int .u32 last)).setCell ⟨gn, k, none⟩ (.slice (some ⟨a, 0, none⟩) m cap)) w2 := by simpa using hb2
  have hM := (h1.bel hb3).seatSet (p' := p) ha hv hc
  have hlb : bl ∈ bks g eb gf gn gm NV D := h.old _ (mem_bks.2 (.inr (.inr (.inr (.inr (.inr (.inr ⟨dl, List.mem_of_getElem? ha, by rw [hv]; rfl⟩)))))))
  have hla : a ∈ bks g eb gf gn gm NV D := h.old _ (mem_bks.2 (.inr (.inr (.inr (.inr (.inr (.inl ⟨_, List.mem_of_getElem? hk, rfl⟩)))))))
  refine ⟨hM, h.i.step hq hkl hpx hm hpm hl ha hdn hc, ?_, fun b hb => ?_, ?_⟩
  · refine Off.via ((Off.via h.off h2 (fun b _ hb => ?_)).bel hb3) (off_set2 w2 bl _ _) (fun b _ hb => ?_)
    · simp at hb
      rcases hb with rfl | rfl
      · exact mem_bks.2 (.inr (.inr (.inl rfl)))
      · exact hla
    · simp at hb
      subst hb
      exact hlb
  · exact h.old b (bks_cut hk ((bks_seatSet ha).1 hb))
  · rw [List.map_set, set_same (by rw [List.getElem?_map, ha]; rfl)]
    exact h.same
end
end Go.Proofs.Ytgcimicbbadapaa
