/-
  What wide.Text tells, for every wide number, where the table of powers of ten reads as it is laid.
-/
import Derived.Test.YtdlijnkbpnhpoaaDoorBack
namespace Go.Proofs.YtdlijnkbpnhpoaaDoor
open Go.RowKit Go.Shelf
attribute [local go_sem] Oper.semAt_some

/-- the text of groups, from the highest: behind the first one each has nineteen digits. -/
def stepT (l : List UInt8) (g : Nat) : List UInt8 := (if l.length = 0 then l else l ++ Lib.repeatL [48] (19 - Lib.nDigits g)) ++ Lib.decDigits g
def foldT (L : List Nat) : List UInt8 := L.foldl stepT []
def txt (a : Nat) : List UInt8 := foldT (gs a).reverse
def foldP (pre : List (Nat × G19)) : List UInt8 := foldT (pre.map fun x => x.2.1)
theorem gs_lt (a : Nat) (h : a < B128) : ∀ g ∈ gs a, g < 10000000000000000000 := by
  intro g hg
  unfold gs at hg
  split at hg
  · simp at hg; omega
  · split at hg
    · simp at hg; rcases hg with rfl | rfl
      · unfold gR; omega
      · assumption
    · simp at hg; rcases hg with rfl | rfl | rfl
      · unfold gR; omega
      · unfold gR; omega
      · unfold gQ; unfold B128 at h; omega
theorem exists_G19 (L : List Nat) (h : ∀ g ∈ L, g < 10000000000000000000) : ∃ zs : List G19, zs.map (·.1) = L := by
  induction L with
  | nil => exact ⟨[], rfl⟩
  | cons x l ih =>
    obtain ⟨zs, hz⟩ := ih (fun g hg => h g (List.mem_cons_of_mem _ hg))
    exact ⟨⟨x, h x List.mem_cons_self⟩ :: zs, by rw [List.map_cons, hz]⟩
theorem gs_len (a : Nat) : 1 ≤ (gs a).length ∧ (gs a).length ≤ 3 := by
  unfold gs; split
  · simp
  · split <;> simp

theorem ownsRow_form0 {w : World} {base size n : Nat} {e : TypeId} {v : Value} {xs : List Value} (h : w.ownsRow base e size v n xs) (hn : 1 ≤ n) : ∃ g cap, v = .slice (some ⟨g, 0, none⟩) n cap := by
  rcases h.2 with ⟨rfl, rfl⟩ | ⟨g, cap, cur, rfl, _⟩
  · omega
  · exact ⟨g, cap, rfl⟩
theorem ko_below {W W' : World} (h : Below W.heap.size W W') : KeepsOthers W W' :=
  KeepsOthers.of_grownBy (row := none) ⟨h.os, h.tape, h.output, h.size, fun k hk _ => h.block k hk⟩ (fun _ _ e => by cases e)
theorem Bd.below {R b : Nat} {bs : List Value} {W W' : World} (h : Bd R b bs W) (hb : Below W.heap.size W W') : Bd R b bs W' := by
  obtain ⟨p, v, hp, hbk, hown⟩ := h
  refine ⟨p, v, hp, ?_, ownBelow hown hb⟩
  rw [hb.block b (Array.getElem?_eq_some_iff.1 hbk).1]; exact hbk
theorem Bd.own (R b B : Nat) (f : List (Nat × G19) → List Value) : OwnFrom B (fun pre W => Bd R b (f pre) W) := by
  intro s W W' row ⟨p, v, hp, hbk, hown⟩ hg hr
  have hne : ∀ k, (∃ c t z, W.heap[k]? = some (.cells c t z)) → some k ≠ row := by
    rintro k ⟨c, t, z, hk⟩ e
    obtain ⟨o, ho, hc⟩ := (hr k e.symm).2
    rw [hk] at ho; cases ho; simp [Obj.isCells] at hc
  refine ⟨p, v, hp, ?_, ?_⟩
  · rw [hg.block b (Array.getElem?_eq_some_iff.1 hbk).1 (hne b ⟨_, _, _, hbk⟩)]; exact hbk
  · refine hown.kept hg ?_
    cases hv : v.ownBlock with
    | none => exact .inl rfl
    | some k =>
      obtain ⟨c, fz, hc⟩ := own_kind hown k hv
      exact .inr (hne k ⟨_, _, _, hc⟩)
theorem Bd.is {R b : Nat} {bs : List Value} {W : World} (h : Bd R b bs W) (hbR : b < R) : Lib.IsBuilder 62 5 b b bs W := by
  obtain ⟨p, v, hp, hbk, hown⟩ := h
  have ho : W.ownsRow b 5 1 v bs.length bs := ⟨hown.1, hown.2.elim .inl (fun ⟨g, cap, cur, e1, e2, e3⟩ => .inr ⟨g, cap, cur, e1, by omega, e3⟩)⟩
  have hne : v.ownBlock ≠ some b := fun e => by have := (hown.lt b e).1; omega
  rcases hp with rfl | rfl
  · exact .inl ⟨Nat.le_refl _, v, hbk, ho, hne⟩
  · exact .inr ⟨Nat.le_refl _, v, hbk, ho, hne⟩
theorem frOwn {R b B : Nat} {A : World} (hR : R ≤ B) (hA : R ≤ A.heap.size) {β : Type} : OwnFrom B (fun (_ : β) W => Fr R b A W) := by
  intro s W W' row h hg hr
  exact h.grown hg (Nat.le_trans hA h.size) (fun k e => Nat.le_trans hR (hr k e).1)
theorem Tryd.gTab : Tryd.prog.globalNamed "internal/strconv.uint64pow10" = some 3 := by kernel_rfl
theorem tab_fr {w w' : World} {R b : Nat} (h : Lib.TabIs Tryd.prog w "internal/strconv.uint64pow10" .u64 Lib.pow10Tab) (hF : Fr R b w w') (h3 : 3 < R) (hb : 3 ≠ b) : Lib.TabIs Tryd.prog w' "internal/strconv.uint64pow10" .u64 Lib.pow10Tab := by
  unfold Lib.TabIs World.var? at *
  simp only [Tryd.gTab, Option.bind_some] at h ⊢
  rw [hF.block 3 h3 hb]
  exact h
theorem tab_lt {w : World} (h : Lib.TabIs Tryd.prog w "internal/strconv.uint64pow10" .u64 Lib.pow10Tab) : 3 < w.heap.size := by
  unfold Lib.TabIs World.var? at h
  simp only [Tryd.gTab, Option.bind_some] at h
  rcases Nat.lt_or_ge 3 w.heap.size with h' | h'
  · exact h'
  · rw [Array.getElem?_eq_none h'] at h; simp at h
theorem nd_le : ∀ (k u : Nat), u < 10 ^ (k + 1) → Lib.nDigits u ≤ k + 1
  | 0, u, h => by rw [Lib.nDigits_small (by simpa using h)]; exact Nat.le_refl _
  | k + 1, u, h => by
    by_cases hu : u < 10
    · rw [Lib.nDigits_small hu]; omega
    · rw [Lib.nDigits_big hu]
      have := nd_le k (u / 10) (by rw [Nat.pow_succ] at h; omega)
      omega
theorem nd19 (g : G19) : 1 ≤ Lib.nDigits g.1 ∧ Lib.nDigits g.1 ≤ 19 := by
  exact ⟨Lib.nDigits_pos _, nd_le 18 g.1 g.2⟩
theorem foldP_snoc (pre : List (Nat × G19)) (x : Nat × G19) : foldP (pre ++ [x]) = stepT (foldP pre) x.2.1 := by
  unfold foldP foldT; simp [List.foldl_append]
theorem stepT_len (l : List UInt8) (g : G19) : (stepT l g.1).length ≤ l.length + 19 := by
  have := nd19 g
  unfold stepT
  split
  · rw [List.length_append, Lib.decDigits_length]; omega
  · rw [List.length_append, List.length_append, Lib.decDigits_length, Lib.repeatL_length]; simp; omega
theorem foldP_len (pre : List (Nat × G19)) : (foldP pre).length ≤ 19 * pre.length := by
  suffices h : ∀ n, ∀ pre : List (Nat × G19), pre.length = n → (foldP pre).length ≤ 19 * n from h _ _ rfl
  intro n
  induction n with
  | zero => intro pre hp; rw [List.eq_nil_of_length_eq_zero hp]; simp [foldP, foldT]
  | succ n ih =>
    intro pre hp
    obtain ⟨ini, x, rfl⟩ : ∃ ini x, pre = ini ++ [x] := by
      cases h : pre.reverse with
      | nil => have : pre = [] := by simpa using h
               rw [this] at hp; simp at hp
      | cons x t => exact ⟨t.reverse, x, by have := congrArg List.reverse h; simpa using this⟩
    rw [foldP_snoc]
    have := stepT_len (foldP ini) x.2
    have := ih ini (by simp at hp; omega)
    omega
theorem fold_back (zs : List G19) : foldP (uptoL (backAt zs) zs.length) = foldT (zs.map (·.1)).reverse := by
  have e : (uptoL (backAt zs) zs.length).map (fun x => x.2.1) = (zs.map (·.1)).reverse := by
    apply List.ext_getElem
    · simp [uptoL]
    · intro i h1 h2
      have hi : i < zs.length := by simpa [uptoL] using h1
      simp only [uptoL, backAt, List.getElem_map, List.getElem_range, List.getElem_reverse, List.length_map]
      rw [List.getElem?_eq_getElem (by omega)]
      rfl
  unfold foldP
  rw [e]
theorem sizeOf_dec (u : Nat) : ByteArray.size ⟨(Lib.decDigits u).toArray⟩ = Lib.nDigits u := by
  show (Lib.decDigits u).toArray.size = _
  rw [List.size_toArray, Lib.decDigits_length]
theorem sizeOf_rep (c : Nat) : ByteArray.size ⟨(Lib.repeatL [48] c).toArray⟩ = c := by
  show (Lib.repeatL [48] c).toArray.size = _
  rw [List.size_toArray, Lib.repeatL_length]; simp
set_option maxRecDepth 100000 in
set_option maxHeartbeats 2000000 in
/-- wide.Text: the groups from the highest on, each behind the first one filled up to nineteen digits. -/
theorem text_any (a : Nat) (w : World) (ha : a < B128) (htab : Lib.TabIs Tryd.prog w "internal/strconv.uint64pow10" .u64 Lib.pow10Tab) :
    Calls Tryd.prog 23 #[.agg #[.int .u64 (hi a), .int .u64 (lo a)]] w fun e w' => e = .returned (.string ⟨(txt a).toArray⟩) ∧ Below w.heap.size w w' := by
  refine (callsIn_wide (n := 6)).1 ?_
  refine callsIn_of_wp_marks Tryd.func23 rfl trivial ?_ rfl
  simp only [Tryd.ntmps23, List.size_toArray, List.length_cons, List.length_nil, Nat.reduceAdd, Nat.reduceSub, Array.replicate_succ, Array.replicate_zero, List.push_toArray, List.append_toArray, List.nil_append, List.cons_append]
  have HA := Lib.hid ha
  have HT := Lib.hid htab
  clear ha htab
  gi_wp2_with fail
  refine ⟨trivial, ?_⟩
  gi_at_call 38
  refine (callsIn_wide.2 (groups_any a _ HA.out)).mono ?_
  rintro e w1 ⟨v, rfl, hown, hb1⟩
  obtain ⟨zs, hzs⟩ := exists_G19 (gs a) (gs_lt a HA.out)
  have HX : Hid (txt a = foldP (uptoL (backAt zs) zs.length)) := by unfold Hid txt; rw [fold_back, hzs]
  have hlen := gs_len a
  rw [← hzs] at hown hlen
  rw [List.length_map] at hown hlen
  clear hzs HA
  obtain ⟨g, cap, rfl⟩ := ownsRow_form0 hown hlen.1
  simp only [World.size_alloc] at hown hb1
  gi_wp2_with fail
  refine ⟨trivial, ?_⟩
  gi_at_call 37
  refine (back_in Fence.wide _ trivial rfl _ _ _ _).mono ?_
  rintro e w2 ⟨rfl, rfl⟩
  gi_wp2_with fail
  obtain ⟨hg1, hg2⟩ := hown.lt g rfl
  have hw1 : w.heap.size + 2 ≤ w1.heap.size := Nat.le_trans (by simp) hb1.size
  have h3 := tab_lt HT.out
  have hbl : (w1.alloc (.cells #[.slice (some ⟨g, 0, none⟩) zs.length cap] 66)).heap[w.heap.size + 1]? = some (.cells #[.pointer none, .slice none 0 0] 62 (0, 0)) := by
    rw [Below.heap_alloc _ _ _ (by omega), hb1.block _ (by omega)]
    have := World.alloc_heap_new (w.alloc (Obj.cells #[Value.int IntKind.u64 (hi a), Value.int IntKind.u64 (lo a)] 24)) (Obj.cells #[Value.pointer none, Value.slice none 0 0] 62)
    rwa [World.size_alloc] at this
  have hB0 : Below w.heap.size w (w1.alloc (.cells #[.slice (some ⟨g, 0, none⟩) zs.length cap] 66)) := ((((Below.refl _ w).alloc (Nat.le_refl _) _).alloc (by simp) _).trans (hb1.mono (by omega))).alloc (by omega) _
  have hT2 : Lib.TabIs Tryd.prog (w1.alloc (.cells #[.slice (some ⟨g, 0, none⟩) zs.length cap] 66)) "internal/strconv.uint64pow10" .u64 Lib.pow10Tab := tab_below HT.out hB0
  have hcs : ∀ j, j < zs.length → (w1.alloc (.cells #[.slice (some ⟨g, 0, none⟩) zs.length cap] 66)).cell? ⟨g, 0 + j, none⟩ = some (.int .u64 ((zs[j]?.getD g0).1 : Int)) := fun j hj => by
    refine allc ?_
    rw [Nat.zero_add, hown.cellAt j (by omega)]
    simp [hj, uv]
  have hcb := World.cell?_alloc_new (w := w1) #[Value.slice (some ⟨g, 0, none⟩) zs.length cap] 66 0
  obtain ⟨w2, hw2⟩ : ∃ w2, w2 = w1.alloc (.cells #[.slice (some ⟨g, 0, none⟩) zs.length cap] 66) := ⟨_, rfl⟩
  have hsz2 : w2.heap.size = w1.heap.size + 1 := by rw [hw2]; simp
  rw [← hw2] at hbl hB0 hT2 hcs hcb ⊢
  clear hw2
  refine wpIn_rangeFunc_ownG rfl (by omega) (gf := 53) (lb := #[.pointer (some ⟨w1.heap.size, 0, none⟩)]) rfl trivial (enters_of Tryd.func53 (by kernel_rfl) rfl)
    (back_stops Fence.wide 5 trivial rfl (by omega) w1.heap.size (w1.heap.size + 1) (w.heap.size + 1) g cap zs (by omega) (by omega) (by omega) (by omega) (by omega) w2 (by omega) hcb hcs)
    (fun h k => h.trans k) (frK_b (by omega)) (Below.refl _ _) (fun _ => rfl)
    (fun pre W => Bd (w1.heap.size + 1) (w.heap.size + 1) (Lib.byteCells (foldP pre)) W ∧ Fr (w1.heap.size + 1) (w.heap.size + 1) w2 W)
    (fun _ _ _ => False)
    (OwnFrom.and (Bd.own _ _ _ _) (frOwn (by omega) (by omega)))
    (fun _ _ _ _ _ hs _ _ => hs)
    ⟨⟨_, _, .inl rfl, hbl, World.ownsRow_nil _ _ _ _⟩, Fr.refl _ _ _⟩
    (fun x => { tmps := #[.agg #[.int .u64 (hi a), .int .u64 (lo a)], .pointer (some ⟨w.heap.size, 0, none⟩), .string ⟨#[]⟩, .pointer (some ⟨w.heap.size + 1, 0, none⟩), undef, .int .u64 (x.2.1 : Int), undef, .agg #[.int .u64 (hi a), .int .u64 (lo a)], .slice (some ⟨g, 0, none⟩) zs.length cap, .func (.func 53) #[] #[.pointer (some ⟨w1.heap.size, 0, none⟩)], .int .i64 (x.1 : Int), .int .u64 (x.2.1 : Int), undef, undef, undef, undef, undef, undef, undef, undef, undef, undef, undef, undef], defers := [] }) ?assign ?body ?done ?stop
  case assign =>
    intro l x W K hK
    gi_wp2
    exact hK
  case body =>
    rintro l pre x W ⟨hBd, hFr⟩ hpl
    have HW := hFr.size
    have hfl := foldP_len pre
    have hnd := nd19 x.2
    have hxl := x.2.lt
    have hdl : (Lib.decDigits x.2.1).length ≤ 19 := by rw [Lib.decDigits_length]; exact hnd.2
    have hT3 := tab_fr hT2 hFr (by omega) (by omega)
    have HS := Lib.hid (foldP_snoc pre x)
    clear hcs hcb hbl hown hb1 HX hB0 hT2
    gi_wp2_with fail
    refine ⟨trivial, ?_⟩
    gi_at_call 39
    refine (CallsIn.inRound l (callsIn_wide.2 (fmt_any x.2.1 (by omega) _ hT3))).mono ?_
    rintro e W1 ⟨rfl, hbW⟩
    have hBd1 := hBd.below hbW
    have hFrW : Fr (w1.heap.size + 1) (w.heap.size + 1) W W1 := Fr.of_below (hbW.mono (by omega))
    have hKO1 := ko_below hbW
    have HW1 := hbW.size
    clear hBd hbW hT3
    gi_wp2_with fail
    refine ⟨trivial, ?_⟩
    gi_at_call 40
    refine (CallsIn.inRound l (callsIn_wide.2 (Tryd.Builder_Len (w.heap.size + 1) (w.heap.size + 1) (Lib.byteCells (foldP pre)) _ (hBd1.is (by omega))))).mono ?_
    rintro e W2 ⟨rfl, rfl⟩
    rw [Lib.byteCells_length]
    by_cases hz : (foldP pre).length = 0
    · gi_wp2_with fail
      refine ⟨trivial, ?_⟩
      gi_at_call 41
      refine (CallsIn.inRound l (callsIn_wide.2 (ws_any (w1.heap.size + 1) (w.heap.size + 1) (Lib.byteCells (foldP pre)) ⟨(Lib.decDigits x.2.1).toArray⟩ _ hBd1 (by omega) (by omega) (by rw [Lib.byteCells_length, hz, sizeOf_dec]; omega)))).mono ?_
      rintro e W3 ⟨rfl, hBd2, hFr2, hKO2⟩
      gi_wp2
      refine ⟨(hKO1.trans hKO2).from _, hFrW.trans hFr2, ?_, hFr.trans (hFrW.trans hFr2)⟩
      rw [HS.out, stepT, if_pos hz, Lib.byteCells_append]
      exact hBd2
    · gi_wp2_with fail
      refine ⟨trivial, ?_⟩
      gi_at_call 42
      rw [show (19 : Int) - ((Lib.decDigits x.2.1).length : Int) = ((19 - Lib.nDigits x.2.1 : Nat) : Int) by rw [Lib.decDigits_length]; omega]
      refine (CallsIn.inRound l (callsIn_wide.2 (Tryd.strings_Repeat ⟨#[48]⟩ (19 - Lib.nDigits x.2.1) _ (by omega) (by show 1 * _ ≤ _; omega)))).mono ?_
      rintro e W3 ⟨rfl, hbW⟩
      have hBd2 := hBd1.below hbW
      have hFr2 : Fr (w1.heap.size + 1) (w.heap.size + 1) W2 W3 := Fr.of_below (hbW.mono (by omega))
      have hKO2 := ko_below hbW
      have HW3 := hbW.size
      clear hbW hBd1
      gi_wp2_with fail
      refine ⟨trivial, ?_⟩
      gi_at_call 41
      refine (CallsIn.inRound l (callsIn_wide.2 (ws_any (w1.heap.size + 1) (w.heap.size + 1) (Lib.byteCells (foldP pre)) ⟨(Lib.repeatL [48] (19 - Lib.nDigits x.2.1)).toArray⟩ _ hBd2 (by omega) (by omega) (by rw [Lib.byteCells_length, sizeOf_rep]; omega)))).mono ?_
      rintro e W4 ⟨rfl, hBd3, hFr3, hKO3⟩
      have HW4 := hFr3.size
      have hBd4 : Bd (w1.heap.size + 1) (w.heap.size + 1) (Lib.byteCells (foldP pre ++ Lib.repeatL [48] (19 - Lib.nDigits x.2.1))) W4 := by rw [Lib.byteCells_append]; exact hBd3
      clear hBd2 hBd3
      gi_wp2_with fail
      refine ⟨trivial, ?_⟩
      gi_at_call 41
      refine (CallsIn.inRound l (callsIn_wide.2 (ws_any (w1.heap.size + 1) (w.heap.size + 1) _ ⟨(Lib.decDigits x.2.1).toArray⟩ _ hBd4 (by omega) (by omega) (by rw [Lib.byteCells_length, List.length_append, Lib.repeatL_length, sizeOf_dec]; simp; omega)))).mono ?_
      rintro e W5 ⟨rfl, hBd5, hFr5, hKO5⟩
      gi_wp2
      refine ⟨(((hKO1.trans hKO2).trans hKO3).trans hKO5).from _, ((hFrW.trans hFr2).trans hFr3).trans hFr5, ?_, hFr.trans (((hFrW.trans hFr2).trans hFr3).trans hFr5)⟩
      rw [HS.out, stepT, if_neg hz, Lib.byteCells_append]
      exact hBd5
  case done =>
    rintro D ys W hD rfl ⟨hBd, hFr⟩ hK
    have HW := hFr.size
    have HB1 : Below w.heap.size w W := hB0.trans (hFr.below (by omega) (by omega))
    clear hcs hcb hbl hown hb1 hT2
    gi_wp2_with fail
    refine ⟨trivial, ?_⟩
    gi_at_call 43
    refine (callsIn_wide.2 (Tryd.Builder_String_any_k (w.heap.size + 1) (w.heap.size + 1) _ _ (Lib.IsBuilderF.of (hBd.is (by omega))) (by omega))).mono ?_
    rintro e W2 ⟨rfl, _, hb2, hO⟩
    have hK2 := hO D _ hK (by intro e; cases e; omega) (by intro c z e; cases e)
    gi_wp2
    refine ⟨by simp, .inl ⟨_, _, rfl, run_takeDeferred hK2, ?_⟩⟩
    exact ⟨_, results_tmp rfl _ _ _, by rw [HX.out]; rfl, (HB1.trans (hb2.mono (by omega))).trans (belowK_b (w := w) (Nat.le_refl _) W2 D _ _ (by omega) hK2 rfl rfl)⟩
  case stop =>
    rintro D c pre W _ _ h _
    exact h.elim
end Go.Proofs.YtdlijnkbpnhpoaaDoor
