/-
  A tree of no spans, over ends. No condition but those typed at each theorem.
-/
import Derived.Test.YtgcimicbbadapaaSr
namespace Go.Proofs.Ytgcimicbbadapaa
open Go.RowKit Go.Sort

theorem Try.info41 : (Try.prog.info? 41).map (fun i => (i.zero, i.size, i.bytes)) = some (some (.slice none 0 0), 1, 24) := by kernel_rfl
/-- the ends, as they are handed to it -/
def EndsA (X : World) (base : Nat) (ev : Value) (E : List Int) : Prop := ∃ p c, ev = .slice p E.length c ∧ (E = [] ∨ ∃ b, p = some ⟨b, 0, none⟩ ∧ base ≤ b ∧ b < X.heap.size ∧ Ns X b 0 .i64 E)
theorem EndsA.got {X X' : World} {base : Nat} {ev : Value} {E : List Int} (h : EndsA X base ev E) (hb : Below X.heap.size X X') : ∃ eb, EndsM X' ev E eb ∧ ∀ k ∈ eb, base ≤ k ∧ k < X.heap.size := by
  obtain ⟨p, c, rfl, h⟩ := h
  by_cases hE : E = []
  · exact ⟨[], ⟨p, c, rfl, .inl ⟨hE, rfl⟩⟩, by simp⟩
  · rcases h with h | ⟨b, rfl, h1, h2, h3⟩
    · exact absurd h hE
    · exact ⟨[b], ⟨_, c, rfl, .inr ⟨b, rfl, rfl, hE, h3.keep hb⟩⟩, by simp; omega⟩
theorem nil_row (w : World) (base : Nat) (k : Nat) (n : Nat) (v : Value) (e : (List.replicate n (Value.slice none 0 0))[k]? = some v) : w.ownsRow base 32 1 v (nm (List.replicate n ([] : List Int)) k).length ((nm (List.replicate n ([] : List Int)) k).map (Value.int .u32)) := by
  have h1 := List.getElem?_eq_some_iff.1 e
  obtain ⟨h2, h3⟩ := h1
  simp at h3
  have h4 : nm (List.replicate n ([] : List Int)) k = [] := by
    unfold nm
    rw [List.getD_eq_getElem?_getD]
    simp at h2
    simp [h2]
  rw [h4, ← h3]
  exact World.ownsRow_nil _ _ _ _
theorem EV.new (w : World) (a : Array Value) (t : TypeId) : EV t (w.alloc (.cells a t)) w.heap.size a.toList := by
  unfold EV
  rw [Array.toArray_toList]
  exact heap_alloc_new w _
theorem off_set (w : World) (g i : Nat) (v : Value) : Off [g] w (w.setCell ⟨g, i, none⟩ v) := (Off.refl _ w).set _ _ (.inl (by simp))
theorem max_zero (X : World) (ty : TypeId) (n m : Nat) (h : m = 2 * n - 1) : (Builtin.max_ #[3, 3] ty #[.int .i64 0, .int .i64 (2 * (n : Int) - 1)]).run Try.prog X = .ok (.int .i64 (m : Nat)) X := by
  by_cases h1 : n = 0
  · subst h1
    subst h
    simp [Builtin.max_, Builtin.max2, go_sem]
  · have h2 : (2 * (n : Int) - 1) > 0 := by omega
    have h3 : (2 * (n : Int) - 1) = (m : Nat) := by omega
    rw [h3] at h2 ⊢
    simp [Builtin.max_, Builtin.max2, go_sem]
    omega
set_option maxRecDepth 100000 in
set_option maxHeartbeats 1600000 in
theorem empty_any (w : World) (ev : Value) (E : List Int) (base : Nat) (hE : EndsA w base ev E) (hl : E.length ≤ 800) :
    Calls Try.prog 27 #[ev] w fun e w' => ∃ g eb gf gn gm NV, e = .returned (.pointer (some ⟨g, 0, none⟩)) ∧ SegM w' g ev eb gf gn gm E NV (List.replicate (2 * ms E - 1) []) [] 0 ∧ Below w.heap.size w w' ∧ ∀ k ∈ bks g eb gf gn gm NV [], base ≤ k ∨ w.heap.size ≤ k := by
  have HE := Lib.hid hE
  have hmm := @run_makeMap Try.prog
  obtain ⟨p, c, rfl, hE2⟩ := hE
  obtain ⟨n, hn⟩ : ∃ n, n = E.length := ⟨_, rfl⟩
  obtain ⟨m, hm⟩ : ∃ m, m = ms E := ⟨_, rfl⟩
  have hmn : m = 2 * n - 1 := by rw [hm, hn]; rfl
  have HMM := Lib.hid hm
  rw [← hm]
  rw [← hn] at hl ⊢
  have HN := Lib.hid hn
  clear hE2 hm hn
  have hmax := fun X ty => max_zero X ty n m hmn
  have HF := Lib.hid (fun X => FNew_any X m (by omega))
  obtain ⟨nn, hnn⟩ : ∃ nn, nn = 2 * m - 1 := ⟨_, rfl⟩
  rw [← hnn]
  have HR : Hid (∀ X B, FR X B m 0 (.pointer none) → Calls Try.prog 50 #[.pointer (some ⟨B, 0, none⟩)] X fun e w' => e = .returned (.int .i64 ((nn : Int) - 1)) ∧ Below X.heap.size X w') := Lib.hid (fun X B h => by
    by_cases h0 : m = 0
    · subst h0
      refine (Root_none X B 0 _ h).mono ?_
      rintro e w' ⟨rfl, rfl⟩
      exact ⟨by rw [hnn]; rfl, Below.refl _ _⟩
    · have := Root_any X B m (2 * m - 2) 0 _ h (by omega) (by omega) (by omega)
      rw [show ((2 * m - 2 : Nat) : Int) = (nn : Int) - 1 by omega] at this
      exact this)
  have hmk := fun X => made_any Try.info41 (by decide) (by decide) Try.underlying63 X nn nn (Nat.le_refl _) (by omega)
  rw [Nat.mul_one] at hmk
  have hnb : nn ≤ 10000 := by omega
  have HMN := Lib.hid hmn
  have HNN := Lib.hid hnn
  clear hmn hnn
  go_enter Try.func27, Try.ntmps27
  go_upto_region 3 with fail
  obtain ⟨W, hW⟩ : ∃ W, W = ((w.alloc (Obj.map #[] 0)).alloc (Obj.cells #[.pointer (some ⟨w.heap.size + 1, 0, none⟩), .slice p n c, .pointer none, .slice none 0 0, .map (some w.heap.size), .int .i64 0] 66)) := ⟨_, rfl⟩
  rw [← hW]
  obtain ⟨g, hg⟩ : ∃ g, g = w.heap.size + 1 := ⟨_, rfl⟩
  rw [← hg]
  have hGn := EV.new (w.alloc (Obj.map #[] 0)) #[.pointer (some ⟨w.heap.size + 1, 0, none⟩), .slice p n c, .pointer none, .slice none 0 0, .map (some w.heap.size), .int .i64 0] 66
  rw [← hW, show (w.alloc (Obj.map #[] 0)).heap.size = w.heap.size + 1 by simp, ← hg] at hGn
  have hMP : MP Try.prog 32 W w.heap.size [] := hW ▸ (MP.made Try.prog _ w).keep ((Below.refl _ _).alloc (Nat.le_refl _) _)
  have hB : Below w.heap.size w W := hW ▸ ((Below.refl _ w).alloc (Nat.le_refl _) _).alloc (by simp) _
  have hlt : g < W.heap.size := hGn.lt
  have hl2 : w.heap.size < W.heap.size := by omega
  have hgm : w.heap.size ≠ g := by omega
  have h0 : W.heap.size ≠ g := by omega
  have hge : w.heap.size ≤ g := by omega
  have HGN := Lib.hid hGn
  have HMP := Lib.hid hMP
  have HB := Lib.hid hB
  have HG := Lib.hid hg
  clear hW hGn hMP hB hmm hg
  go_wp2_with (first
    | (go_at_call 49; (with_reducible refine (HF.out _).mono ?_); rintro e w1 ⟨rfl, hf, hb⟩; have HG1 := Lib.hid (HGN.out.keep hb hlt); have f2 := HG1.out.free 2; have k2 := HG1.out.cell (i := 2) rfl; have HM1 := Lib.hid (HMP.out.keep hb); have HF1 := Lib.hid hf; have hl1 := hb.size; have HB1 := Lib.hid (HB.out.trans (hb.mono HB.out.size)); clear hb hf)
    | (go_at_call 50; (with_reducible refine (HR.out _ _ (HF1.out.block ((off_set _ g _ _).block _ HF1.out.lt (by simpa using h0)))).mono ?_); rintro e w2 ⟨rfl, hb⟩; have HG2 := Lib.hid ((HG1.out.set 2 (.pointer (some ⟨W.heap.size, 0, none⟩))).keep hb (by simp; omega)); have f3 := (HG2.out.all (Obj.cells (madeCells #[.slice none 0 0] nn) 41)).free 3; have k3 := (HG2.out.all (Obj.cells (madeCells #[.slice none 0 0] nn) 41)).cell (i := 3) rfl; have HF2 := Lib.hid ((HF1.out.block ((off_set w1 g 2 (.pointer (some ⟨W.heap.size, 0, none⟩))).block _ HF1.out.lt (by simpa using h0))).block (hb.block _ (by have := HF1.out.lt; simpa using this))); have HM2 := Lib.hid ((HM1.out.off (off_set w1 g 2 (.pointer (some ⟨W.heap.size, 0, none⟩))) (by simpa using hgm)).keep hb); have hl2' := hb.size; have HB2 := Lib.hid (HB1.out.trans (((off_set w1 g 2 (.pointer (some ⟨W.heap.size, 0, none⟩))).below (N := w.heap.size) HB1.out.size (by simp; omega)).trans (hb.mono (by simp; have := HB1.out.size; omega)))); clear hb))
  go_ret
  obtain ⟨eb, he, hebk⟩ := HE.out.got HB2.out
  have hs12 : w1.heap.size ≤ w2.heap.size := by simpa using hl2'
  have hgm3 : w.heap.size < w2.heap.size := by omega
  obtain ⟨w3, hw3⟩ : ∃ w3, w3 = (w2.alloc (Obj.cells (madeCells #[.slice none 0 0] nn) 41)) := ⟨_, rfl⟩
  have hn3 := EV.new w2 (madeCells #[.slice none 0 0] nn) 41
  rw [toList_madeCells_one, ← hw3] at hn3
  have hb3 : Below w2.heap.size w2 w3 := hw3 ▸ (Below.refl _ w2).alloc (Nat.le_refl _) _
  have hgl2 : g < w2.heap.size := by omega
  have hne3 : w2.heap.size ≠ g := by omega
  have ho := off_set w3 g 3 (.slice (some ⟨w2.heap.size, 0, none⟩) nn nn)
  have hG := (HG2.out.keep hb3 hgl2).set 3 (.slice (some ⟨w2.heap.size, 0, none⟩) nn nn)
  have hz3 := hb3.size
  have hO2 : Off [g] w2 (w3.setCell ⟨g, 3, none⟩ (.slice (some ⟨w2.heap.size, 0, none⟩) nn nn)) := (Off.of hb3 (Nat.le_refl _)).trans ho
  have hfr := HF2.out.block (hO2.block _ HF2.out.lt (by simpa using h0))
  have hmp := HM2.out.off hO2 (by simpa using hgm)
  have hbw : Below w.heap.size w (w3.setCell ⟨g, 3, none⟩ (.slice (some ⟨w2.heap.size, 0, none⟩) nn nn)) := HB2.out.trans (hO2.below (N := w.heap.size) HB2.out.size (by simp; omega))
  have hnm : EV 41 (w3.setCell ⟨g, 3, none⟩ (.slice (some ⟨w2.heap.size, 0, none⟩) nn nn)) w2.heap.size (List.replicate nn (.slice none 0 0)) := hn3.off ho (by simpa using hne3)
  have heM : EndsM (w3.setCell ⟨g, 3, none⟩ (.slice (some ⟨w2.heap.size, 0, none⟩) nn nn)) (.slice p E.length c) E eb := he.block (fun k hk => hO2.block k (by have := hebk k hk; omega) (by have := hebk k hk; simp; omega))
  have hnone : ∀ v ∈ List.replicate nn (Value.slice none 0 0), ∀ b, v.ownBlock ≠ some b := fun v hv b => by
    rw [List.eq_of_mem_replicate hv]
    simp [Value.ownBlock]
  have hne4 : W.heap.size ≠ w2.heap.size := by have := HF2.out.lt; omega
  rw [← hw3]
  rw [show E.length = n from HN.out.symm] at heM
  refine ⟨g, eb, W.heap.size, w2.heap.size, w.heap.size, List.replicate nn (.slice none 0 0), rfl, ⟨?_, heM, HMM.out ▸ hfr, hnm, by simp, fun k v e => nil_row _ _ _ _ _ e, ?_, hmp, by simp, by simp, ?_⟩, hbw, ?_⟩
  · have h1 := hG
    rw [List.length_replicate]
    exact h1
  · intro i j v v' b hi hj e _
    exact absurd e (hnone v (List.mem_of_getElem? hi) b)
  · intro k hk
    have := hebk k hk
    refine ⟨by omega, by omega, by omega, fun v hv => hnone v hv k, by simp⟩
  · intro k hk
    rcases mem_bks.1 hk with rfl | rfl | rfl | rfl | hk | ⟨v, hv, e⟩ | ⟨d, hd, e⟩
    · right; omega
    · right; omega
    · right; omega
    · right; omega
    · left; exact (hebk k hk).1
    · exact absurd e (hnone v hv k)
    · simp at hd
end Go.Proofs.Ytgcimicbbadapaa
