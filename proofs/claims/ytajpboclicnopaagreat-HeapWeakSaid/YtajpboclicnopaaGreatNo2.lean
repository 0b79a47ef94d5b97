/-
  Names in a row are made (alive.NamesOf): all are there. No condition but those typed at each theorem.
-/
import Derived.Test.YtajpboclicnopaaGreatNm
import Derived.Deep.RegionHeld3
import Derived.Deep.RegionWith
namespace Go.Proofs.YtajpboclicnopaaGreat.Bd
open Go.RowKit Go.Sort
/-- the cells of a row of names -/
def nmc (n z : Nat) (P : NmP) : List Value := [P.vn, .slice (some ⟨P.br, 0, none⟩) (n + 1) (n + 1), .slice (some ⟨P.bo, 0, none⟩) (n + 1) (n + 1), .int .i64 z, .slice (some ⟨P.ba, 0, none⟩) (n / z + 1) (n / z + 1), .slice (some ⟨P.bw, 0, none⟩) (n + 1) (n + 1)]
/-- a row of names of its own blocks, all there -/
structure NoB (w wr : World) (n z : Nat) (P : NmP) : Prop where
  r : EV 189 wr P.br (flatR (layR (n + 1) (n + 1)))
  o : EB .i64 3 wr P.bo (zs (layO (n + 1) (n + 1)))
  a : EB .i64 3 wr P.ba (zs (List.replicate (n / z + 1) 0))
  b : EB .i64 3 wr P.bw (zs (List.replicate (n + 1) 0))
  ne : P.bo ≠ P.ba ∧ P.bo ≠ P.bw ∧ P.ba ≠ P.bw
  zz : 1 ≤ z ∧ z ≤ 9000
  new : ∀ x ∈ mbl P, w.heap.size ≤ x
theorem NoB.off {w wr w' : World} {n z : Nat} {P : NmP} {S : List Nat} (h : NoB w wr n z P) (g : Off S wr w') (hS : ∀ x ∈ mbl P, x ∉ S) : NoB w w' n z P :=
  ⟨h.r.off g (hS _ (by simp [mbl])), h.o.off g (hS _ (by simp [mbl])), h.a.off g (hS _ (by simp [mbl])), h.b.off g (hS _ (by simp [mbl])), h.ne, h.zz, h.new⟩
theorem NoB.keep {w wr w' : World} {n z : Nat} {P : NmP} (h : NoB w wr n z P) (g : Below wr.heap.size wr w') : NoB w w' n z P :=
  h.off (Off.of (S := []) g (Nat.le_refl _)) (by simp)
theorem NoB.lt {w wr : World} {n z : Nat} {P : NmP} (h : NoB w wr n z P) : ∀ x ∈ mbl P, x < wr.heap.size := fun x hx => by
  simp only [mbl, List.mem_cons, List.not_mem_nil, or_false] at hx
  rcases hx with rfl | rfl | rfl | rfl
  · exact h.r.lt
  · exact h.o.lt
  · exact h.a.lt
  · exact h.b.lt
theorem NoB.apart {w wr : World} {n z : Nat} {P : NmP} (h : NoB w wr n z P) {x : Nat} {c : Array Value} {t : TypeId} (hx : wr.heap[x]? = some (.cells c t (0, 0))) (h1 : t ≠ 189) (h2 : t ≠ 3) : x ∉ mbl P := by
  simp only [mbl, List.mem_cons, List.not_mem_nil, or_false, not_or]
  exact ⟨types_ne hx h.r h1, types_ne hx h.o h2, types_ne hx h.a h2, types_ne hx h.b h2⟩
/-- laid into cells: a row of names, all there -/
theorem NoB.mem {w wr : World} {b o : Nat} {SP A : List S3} {P : NmP} {z : Nat} (h : NoB w wr SP.length z P) (hc : ∀ i u, (nmc SP.length z P)[i]? = some u → wr.cell? ⟨b, o + i, none⟩ = some u)
    (rn : wr.ownsRow 0 32 1 P.vn SP.length ((SP.map (·.2.2)).map (Value.int .u32))) (few : SP.length ≤ 8192) (nd : SP.Nodup) (hb : b ∉ mbl P) (hA : ∀ s ∈ SP, s ∈ A) : NmM wr b o SP A P := by
  have hal : ∀ q, alA SP A q = true := fun q => by
    cases hq : SP[q]? with
    | none => exact alA_end (List.getElem?_eq_none_iff.1 hq)
    | some s => rw [alA_at hq]; exact decide_eq_true (hA s (List.mem_of_getElem? hq))
  have hr := h.r
  have hoo := h.o
  rw [(lay_done _).1] at hr
  rw [(lay_done _).2] at hoo
  simp only [mbl, List.mem_cons, List.not_mem_nil, or_false, not_or] at hb
  obtain ⟨b1, b2, b3, b4⟩ := hb
  exact ⟨hc 0 _ rfl, rn, ⟨_, _, hc 1 _ rfl, hc 2 _ rfl, hr, hoo, RnI.start _ _ (fun q _ => hal q), few, b1, b2, types_ne hr hoo (by decide)⟩, ⟨z, _, _, hc 3 _ rfl, hc 4 _ rfl, hc 5 _ rfl, h.a, h.b, FwI.start (fun q _ => hal q) h.zz.1, h.zz.2, few, b3, b4, h.ne.2.2⟩, ⟨h.ne.1, h.ne.2.1⟩, few, nd⟩
noncomputable def namesD : TypeDesc := (Tryz.prog.underlying 93).get (by kernel_rfl)
set_option maxRecDepth 100000 in
set_option maxHeartbeats 3200000 in
theorem namesOf_any (w : World) (p : Option Addr) (n c : Nat) (hn : n ≤ 8192) :
    Calls Tryz.prog 101 #[.slice p n c] w fun e w' => ∃ (P : NmP) (z : Nat), P.vn = .slice p n c ∧ e = .returned (.agg (nmc n z P).toArray) ∧ NoB w w' n z P ∧ Below w.heap.size w w' := by
  have HR := Lib.hid (fun X => runsOf_any X n hn)
  have HD := Lib.hid (fun X => dropsOf_any X n hn)
  go_enter Tryz.func101, Tryz.ntmps101
  go_upto_region 1 with fail
  obtain ⟨W, hW⟩ : ∃ W, W = w.alloc (.cells #[.slice none 0 0, .slice none 0 0, .slice none 0 0, .int .i64 0, .slice none 0 0, .slice none 0 0] 93) := ⟨_, rfl⟩
  have HE : Hid (EV 93 W w.heap.size [.slice none 0 0, .slice none 0 0, .slice none 0 0, .int .i64 0, .slice none 0 0, .slice none 0 0]) := Lib.hid (hW ▸ heap_alloc_new w _)
  have HB : Hid (Below w.heap.size w W) := Lib.hid (hW ▸ (Below.refl _ w).alloc (Nat.le_refl _) _)
  rw [← hW]
  clear hW
  go_wp2_with (first
    | (go_at_call 126; refine (HR.out _).mono ?_; rintro e w1 ⟨v, rfl, br, bo, rfl, r1, r2, r3, r4, r5, r6⟩; have HB1 := Lib.hid r6; have R1 := Lib.hid r1; have R2 := Lib.hid r2; have R3 := Lib.hid (show W.heap.size ≤ br ∧ W.heap.size ≤ bo ∧ br ≠ bo from ⟨r3, r4, r5⟩); clear r1 r2 r3 r4 r5 r6)
    | (go_at_call 127; refine (HD.out _).mono ?_; rintro e w2 ⟨v, rfl, z, ba, bw, rfl, q1, q2, q3, q4, q5⟩; have HB2 := Lib.hid q5; have D1 := Lib.hid q1; have D2 := Lib.hid q2; have D3 := Lib.hid q3; have D4 := Lib.hid q4; have hE2 := (HE.out.keep HB1.out HE.out.lt).keep q5 (Nat.lt_of_lt_of_le HE.out.lt HB1.out.size); have HE2 := Lib.hid hE2; have e0 := hE2.cell (i := 0) rfl; have f0 := hE2.free 0; have e1 := hE2.cell (i := 1) rfl; have f1 := hE2.free 1; have e2 := hE2.cell (i := 2) rfl; have f2 := hE2.free 2; have e3 := hE2.cell (i := 3) rfl; have f3 := hE2.free 3; have e4 := hE2.cell (i := 4) rfl; have f4 := hE2.free 4; have e5 := hE2.cell (i := 5) rfl; have f5 := hE2.free 5; clear q1 q2 q3 q4 q5 hE2))
  refine bodyPost_ret (results_cell_row (p := 2) (ty := 93) rfl _ _ w.heap.size _ _ _ namesD rfl ((((((HE2.out.set 0 _).set 1 _).set 2 _).set 3 _).set 4 _).set 5 _) (Option.some_get _).symm (by kernel_rfl) (by kernel_rfl)) rfl ?_
  have ho := ((((((Off.refl [w.heap.size] w2).set ⟨w.heap.size, 0, none⟩ (.slice p n c) (.inl (by simp))).set ⟨w.heap.size, 1, none⟩ (.slice (some ⟨br, 0, none⟩) (n + 1) (n + 1)) (.inl (by simp))).set ⟨w.heap.size, 2, none⟩ (.slice (some ⟨bo, 0, none⟩) (n + 1) (n + 1)) (.inl (by simp))).set ⟨w.heap.size, 3, none⟩ (.int .i64 z) (.inl (by simp))).set ⟨w.heap.size, 4, none⟩ (.slice (some ⟨ba, 0, none⟩) (n / z + 1) (n / z + 1)) (.inl (by simp))).set ⟨w.heap.size, 5, none⟩ (.slice (some ⟨bw, 0, none⟩) (n + 1) (n + 1)) (.inl (by simp))
  have hs := HE.out.lt
  have h1 := R1.out.lt
  have h2 := R2.out.lt
  have h3 := R3.out
  have h4 := D4.out
  have hb2 : Below w.heap.size w w2 := (HB.out.trans (HB1.out.mono HB.out.size)).trans (HB2.out.mono (Nat.le_trans HB.out.size HB1.out.size))
  refine ⟨⟨.slice p n c, br, bo, ba, bw⟩, z, rfl, rfl, ⟨(R1.out.keep HB2.out h1).off ho (by simp; omega), (R2.out.keep HB2.out h2).off ho (by simp; omega), D1.out.off ho (by simp; omega), D2.out.off ho (by simp; omega), ⟨by show bo ≠ ba; omega, by show bo ≠ bw; omega, h4.2.2⟩, D3.out, fun x hx => ?_⟩, hb2.trans (ho.below hb2.size (by simp))⟩
  simp only [mbl, List.mem_cons, List.not_mem_nil, or_false] at hx
  rcases hx with rfl | rfl | rfl | rfl <;> omega
end Go.Proofs.YtajpboclicnopaaGreat.Bd
