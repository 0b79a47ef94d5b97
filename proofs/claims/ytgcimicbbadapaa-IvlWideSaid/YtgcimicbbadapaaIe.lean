/-
  A tree's Meet. No condition but those typed at each theorem.
-/
import Derived.Test.YtgcimicbbadapaaIa
import Derived.Test.YtgcimicbbadapaaAb
namespace Go.Proofs.Ytgcimicbbadapaa.Iv
open Go.RowKit

/-- has a span a number from lo to hi? -/
def mtB (lo hi : Int) (s : S3) : Bool := decide (s.1 ≤ hi) && decide (lo ≤ s.2.1)
def mtL (A : List S3) (lo hi : Int) : List Int := if lo ≤ hi then (A.filter (mtB lo hi)).map (·.2.2) else []
def mtS (A : List S3) (lo hi : Int) : List Int := nsort (mtL A lo hi)
def meetD (lo hi : Int) (s : S3) : Bool := decide (max s.1 lo ≤ min s.2.1 hi)
/-- those that begin behind lo and are there, by their order -/
def bhd (row A : List S3) (lo : Int) : List S3 := sg row A (aboveP (row.map (·.1)) lo).1 row.length
section
variable {E : List Int} {row RI FA row2 A : List S3} (h : IvI E row RI FA row2)
include h
theorem above_at (lo : Int) : (aboveP (row.map (·.1)) lo).1 ≤ row.length ∧ (aboveP (row.map (·.1)) lo).2 ≤ lgN (row.length + 1) ∧ ∀ i s, row[i]? = some s → ((aboveP (row.map (·.1)) lo).1 ≤ i ↔ lo < s.1) := by
  have hl : (row.map (·.1)).length = row.length := by simp
  have h1 := lk_looks (isMore (row.map (·.1)) lo) (n := (row.map (·.1)).length) (by rw [hl]; have := h.few.1; omega)
  have hat : ∀ i s, row[i]? = some s → isMore (row.map (·.1)) lo i = decide (lo < s.1) := fun i s hs => by
    unfold isMore; rw [List.getD_eq_getElem?_getD, List.getElem?_map, hs]; rfl
  have h2 := lk_parts (isMore (row.map (·.1)) lo) (row.map (·.1)).length (fun i j hij hj hi => by
    rw [hl] at hj
    have e1 := List.getElem?_eq_getElem (l := row) (i := i) (by omega)
    have e2 := List.getElem?_eq_getElem (l := row) (i := j) hj
    rw [hat i _ e1] at hi
    rw [hat j _ e2]
    simp at hi ⊢
    rcases Nat.eq_or_lt_of_le hij with g | g
    · subst g; exact hi
    · have := List.pairwise_iff_getElem.1 h.rise i j (by omega) hj g
      rw [cLo_neg] at this
      omega)
  rw [hl] at h1
  refine ⟨by unfold aboveP; rw [hl]; exact h1.1, by unfold aboveP; rw [hl]; exact h1.2.1, fun i s hs => ?_⟩
  have hi := (List.getElem?_eq_some_iff.1 hs).1
  unfold aboveP
  constructor
  · intro g
    have := h2.2 i g (by rw [hl]; exact hi)
    rw [hat i s hs] at this
    simpa using this
  · intro g
    rcases Nat.lt_or_ge i (lk (isMore (row.map (·.1)) lo) (row.map (·.1)).length).1 with g2 | g2
    · have := h2.1 i g2
      rw [hat i s hs] at this
      simp at this
      omega
    · exact g2
theorem mem_bhd (lo : Int) (s : S3) : s ∈ bhd row A lo ↔ s ∈ row ∧ s ∈ A ∧ lo < s.1 := by
  obtain ⟨h1, -, h3⟩ := above_at h lo
  unfold bhd sg
  rw [List.mem_filter, List.take_of_length_le (by simp)]
  constructor
  · rintro ⟨hm, ha⟩
    obtain ⟨i, hi, e⟩ := List.mem_iff_getElem.1 hm
    rw [List.getElem_drop] at e
    have hs : row[(aboveP (row.map (·.1)) lo).1 + i]? = some s := List.getElem?_eq_some_iff.2 ⟨by rw [List.length_drop] at hi; omega, e⟩
    exact ⟨List.mem_of_getElem? hs, by simpa using ha, (h3 _ s hs).1 (by omega)⟩
  · rintro ⟨hr, ha, hlt⟩
    obtain ⟨i, hi, e⟩ := List.mem_iff_getElem.1 hr
    have hs : row[i]? = some s := List.getElem?_eq_some_iff.2 ⟨hi, e⟩
    have := (h3 i s hs).2 hlt
    refine ⟨List.mem_of_getElem? (i := i - (aboveP (row.map (·.1)) lo).1) ?_, by simpa using ha⟩
    rw [List.getElem?_drop, show (aboveP (row.map (·.1)) lo).1 + (i - (aboveP (row.map (·.1)) lo).1) = i by omega]
    exact hs
theorem bhd_take {lo hi : Int} : (bhd row A lo).takeWhile (meetD lo hi) = (bhd row A lo).filter (meetD lo hi) := by
  refine take_filter _ ?_
  have hsub : (bhd row A lo).Sublist row := List.filter_sublist.trans ((List.take_sublist _ _).trans (List.drop_sublist _ _))
  refine List.Pairwise.imp_of_mem (fun {a b} ha hb hc => ?_) (h.rise.sublist hsub)
  have h1 := (mem_bhd h lo a).1 ha
  have h2 := (mem_bhd h lo b).1 hb
  have h3 := h.rg.1 a h1.1
  rw [cLo_neg] at hc
  unfold meetD
  simp only [decide_eq_true_eq]
  omega
theorem meet_names {lo hi : Int} (hlh : lo ≤ hi) (hA : A.Nodup) (hs : ∀ s ∈ A, s ∈ row) : nsort (ids (toldX (kn (En E) E.length) (En E) row row2 A lo (px (sdx (En E) lo) 0 E.length)) ++ ids ((bhd row A lo).takeWhile (meetD lo hi))) = mtS A lo hi ∧ (toldX (kn (En E) E.length) (En E) row row2 A lo (px (sdx (En E) lo) 0 E.length)).length + ((bhd row A lo).takeWhile (meetD lo hi)).length = (mtS A lo hi).length := by
  have hp : (toldX (kn (En E) E.length) (En E) row row2 A lo (px (sdx (En E) lo) 0 E.length) ++ (bhd row A lo).takeWhile (meetD lo hi)).Perm (A.filter (mtB lo hi)) := by
    have ht := h.told lo hA hs
    have hB : (bhd row A lo).Nodup := h.rg.once.sublist (List.filter_sublist.trans ((List.take_sublist _ _).trans (List.drop_sublist _ _)))
    rw [bhd_take h]
    refine nodup_perm ?_ (hA.sublist List.filter_sublist) (fun s => ?_)
    · rw [List.nodup_append]
      refine ⟨ht.nodup_iff.2 (hA.sublist List.filter_sublist), hB.sublist List.filter_sublist, fun a ha b hb e => ?_⟩
      subst e
      have h1 := (List.mem_filter.1 (ht.mem_iff.1 ha)).2
      have h2 := ((mem_bhd h lo a).1 (List.mem_filter.1 hb).1).2.2
      unfold stbB at h1
      simp at h1
      omega
    · rw [List.mem_append, ht.mem_iff, List.mem_filter, List.mem_filter, List.mem_filter, mem_bhd h lo s]
      unfold stbB mtB meetD
      simp only [Bool.and_eq_true, decide_eq_true_eq]
      constructor
      · rintro (⟨h1, h2, h3⟩ | ⟨⟨h1, h2, h3⟩, h4⟩)
        · exact ⟨h1, by omega, by omega⟩
        · exact ⟨h2, by omega, by omega⟩
      · rintro ⟨h1, h2, h3⟩
        have h4 := h.rg.1 s (hs s h1)
        by_cases g : s.1 ≤ lo
        · exact .inl ⟨h1, g, h3⟩
        · exact .inr ⟨⟨hs s h1, h1, by omega⟩, by omega⟩
  constructor
  · unfold mtS mtL
    rw [if_pos hlh, ← ids_app]
    exact nsort_eq (hp.map _)
  · have := hp.length_eq
    rw [List.length_append] at this
    unfold mtS mtL
    rw [if_pos hlh, nsort_len, List.length_map, this]
end
set_option maxRecDepth 100000 in
set_option maxHeartbeats 400000 in
theorem imeet_any (s : S3) (lo hi : Int) (w : World) : Calls Try.prog 46 #[tv s, .int .i64 lo, .int .i64 hi] w fun e w' => e = .returned (.bool (meetD lo hi s)) ∧ Below w.heap.size w w' := by
  obtain ⟨a, b, i⟩ := s
  change Calls _ _ #[.agg #[.int .i64 a, .int .i64 b, .int .u32 i], _, _] w _
  (go_enter Try.func46, Try.ntmps46; go_wp2 <;> go_ret <;> exact ⟨retb (by simp [meetD] <;> omega), ((Below.refl _ _).alloc (Nat.le_refl _) _)⟩)
theorem egM : ∀ args w, (callFunc 45 args).run Try.prog w = .ok (.enter 45 args) w := enters_of Try.func45 (by kernel_rfl) rfl
set_option maxRecDepth 100000 in
set_option maxHeartbeats 400000 in
theorem meet1_any (s : S3) (lo hi : Int) (B C : Nat) (X : World) (hB : X.cell? ⟨B, 0, none⟩ = some (.int .i64 lo)) (hC : X.cell? ⟨C, 0, none⟩ = some (.int .i64 hi)) : Calls Try.prog 45 #[tv s, .pointer (some ⟨B, 0, none⟩), .pointer (some ⟨C, 0, none⟩)] X fun e X' => e = .returned (.bool (meetD lo hi s)) ∧ Below X.heap.size X X' := by
  have HS := Lib.hid (fun W => imeet_any s lo hi W)
  obtain ⟨a, b, i⟩ := s
  change Hid (∀ W, Calls _ _ #[.agg #[.int .i64 a, .int .i64 b, .int .u32 i], _, _] W _) at HS
  change Calls _ _ #[.agg #[.int .i64 a, .int .i64 b, .int .u32 i], _, _] X _
  generalize meetD lo hi (a, b, i) = y at *
  have HB := Lib.hid ((Below.refl X.heap.size X).alloc (Nat.le_refl _) (.cells #[.int .i64 a, .int .i64 b, .int .u32 i] 34))
  have hlt := World.block_lt_of_cell? _ _ hB
  have hlt2 := World.block_lt_of_cell? _ _ hC
  go_enter Try.func45, Try.ntmps45
  go_wp2_with (go_at_call 46; (with_reducible refine (HS.out _).mono ?_); rintro e w1 ⟨rfl, hb⟩; have HB1 := Lib.hid (HB.out.trans (hb.mono HB.out.size)); clear hb)
  go_ret
  exact ⟨rfl, HB1.out⟩
set_option maxRecDepth 100000 in
theorem meet_no (X : World) (lo hi : Int) :
    Calls Try.prog 24 #[.pointer none, .int .i64 lo, .int .i64 hi] X fun e w' => e = .returned (.tuple #[.slice none 0 0, .int .i64 0]) ∧ Below X.heap.size X w' := by
  have HM := Lib.hid (fun W => made_no W)
  have HB := Lib.hid (((Below.refl X.heap.size X).alloc (Nat.le_refl _) (.cells #[.int .i64 lo] 2)).alloc (by simp) (.cells #[.int .i64 hi] 2))
  go_enter Try.func24, Try.ntmps24
  go_wp2_with (go_at_call 40; (with_reducible refine (HM.out _).mono ?_); rintro e w1 ⟨rfl, rfl⟩)
  go_ret2
  exact ⟨rfl, HB.out⟩
section
variable {w : World} {P : IvP} {E : List Int} {row RI FA row2 A : List S3} (hT : IvM w P E row RI FA A) (hI : IvI E row RI FA row2) (hA : A.Nodup) (hs : ∀ s ∈ A, s ∈ row) (lo hi : Int)
include hT
set_option maxRecDepth 100000 in
theorem meet_not (hlh : hi < lo) :
    Calls Try.prog 24 #[.pointer (some ⟨P.g, 0, none⟩), .int .i64 lo, .int .i64 hi] w fun e w' => e = .returned (.tuple #[.slice none 0 0, .int .i64 0]) ∧ Below w.heap.size w w' := by
  obtain ⟨X, hX⟩ : ∃ X, X = (w.alloc (.cells #[.int .i64 lo] 2)).alloc (.cells #[.int .i64 hi] 2) := ⟨_, rfl⟩
  have hb : Below w.heap.size w X := by rw [hX]; exact ((Below.refl w.heap.size w).alloc (Nat.le_refl _) _).alloc (by simp) _
  have HB := Lib.hid hb
  have HM := Lib.hid (made_yes (hT.keep hb).self)
  rw [hX] at HM HB
  clear hT hb hX
  go_enter Try.func24, Try.ntmps24
  go_wp2_with (go_at_call 40; (with_reducible refine HM.out.mono ?_); rintro e w1 ⟨rfl, rfl⟩)
  go_ret2
  exact ⟨rfl, HB.out⟩
include hI hA hs
set_option maxRecDepth 100000 in
set_option maxHeartbeats 3200000 in
theorem meet_yes (hlh : lo ≤ hi) :
    Calls Try.prog 24 #[.pointer (some ⟨P.g, 0, none⟩), .int .i64 lo, .int .i64 hi] w fun e w' => (∃ r, ∃ t : Nat, e = .returned (.tuple #[r, .int .i64 t]) ∧ TL w' r (mtS A lo hi).length (mtS A lo hi) ∧ (mtS A lo hi).length ≤ t ∧ t ≤ (mtS A lo hi).length + (2 * lgN (E.length + 1) + lgN (row.length + 1) + 1)) ∧ Below w.heap.size w w' := by
  obtain ⟨X, hX⟩ : ∃ X, X = (w.alloc (.cells #[.int .i64 lo] 2)).alloc (.cells #[.int .i64 hi] 2) := ⟨_, rfl⟩
  have hb : Below w.heap.size w X := by rw [hX]; exact ((Below.refl w.heap.size w).alloc (Nat.le_refl _) _).alloc (by simp) _
  have hsz : X.heap.size = w.heap.size + 2 := by rw [hX]; simp
  have hb1 : X.cell? ⟨w.heap.size, 0, none⟩ = some (.int .i64 lo) := by rw [hX]; exact cell_al _ (one_new w (.int .i64 lo) 2).1
  have hb2 : X.cell? ⟨w.heap.size + 1, 0, none⟩ = some (.int .i64 hi) := by
    have := (one_new (w.alloc (.cells #[.int .i64 lo] 2)) (.int .i64 hi) 2).1
    rw [World.size_alloc] at this
    rw [hX]; exact this
  have hTX := hT.keep hb
  have HM := Lib.hid (made_yes hTX.self)
  have HH := Lib.hid (having_any lo hTX hI)
  obtain ⟨g1, g2, -⟩ := above_at hI lo
  have n1 := meet_names hI hlh hA hs
  have n2 := told_few (A := A) hI lo
  have n3 := tch_bounds (kn (En E) E.length) (En E) row row2 A lo (px (sdx (En E) lo) 0 E.length)
  have n4 := lkd_le (meetD lo hi) (bhd row A lo)
  have hfr := hI.few.1
  have hT3 : Hid (∀ Y, Below X.heap.size X Y → IvM Y P E row RI FA A) := Lib.hid (fun Y hY => hTX.keep hY)
  have HAB := Lib.hid (fun Y (hY : Below X.heap.size X Y) => Above_any Y P.pl P.cl (row.map (·.1)) lo (hTX.keep hY).lns (by simp; omega))
  obtain ⟨q, hq⟩ : ∃ q, q = (aboveP (row.map (·.1)) lo).1 := ⟨_, rfl⟩
  obtain ⟨ak, hak⟩ : ∃ ak, ak = (aboveP (row.map (·.1)) lo).2 := ⟨_, rfl⟩
  have HW : Hid (∀ Y, Below X.heap.size X Y → Calls Try.prog 43 #[.pointer (some ⟨P.g, 9, none⟩), .int .i64 q, .int .i64 (row.length : Nat), .func (.func 45) #[] #[.pointer (some ⟨w.heap.size, 0, none⟩), .pointer (some ⟨w.heap.size + 1, 0, none⟩)]] Y fun e Y' => (∃ v, e = .returned (.tuple #[v, .int .i64 (lkd (meetD lo hi) (bhd row A lo) : Nat)]) ∧ Y'.ownsRow Y.heap.size 32 1 v (ids ((bhd row A lo).takeWhile (meetD lo hi))).length ((ids ((bhd row A lo).takeWhile (meetD lo hi))).map (Value.int .u32))) ∧ Below Y.heap.size Y Y') := Lib.hid (fun Y hY => by
    obtain ⟨R, O, hl⟩ := (hTX.keep hY).ro
    have c1 := (hY.cell (World.block_lt_of_cell? _ _ hb1)).trans hb1
    have c2 := (hY.cell (World.block_lt_of_cell? _ _ hb2)).trans hb2
    have := while_any hl (i := q) (k := row.length) (by rw [hq]; exact g1) (Nat.le_refl _) 45 #[.pointer (some ⟨w.heap.size, 0, none⟩), .pointer (some ⟨w.heap.size + 1, 0, none⟩)] (meetD lo hi) egM (fun Z s hz => meet1_any s lo hi _ _ Z ((hz.cell (World.block_lt_of_cell? _ _ c1)).trans c1) ((hz.cell (World.block_lt_of_cell? _ _ c2)).trans c2))
    rw [hq] at this ⊢
    exact this)
  have HEN := Lib.hid (fun Y (hY : Below X.heap.size X Y) => (by obtain ⟨R, O, hl⟩ := (hTX.keep hY).ro; exact (end_any hl).mono fun e w' hh => ⟨hh.1, by rw [hh.2]; exact Below.refl _ _⟩ : Calls Try.prog 44 #[.pointer (some ⟨P.g, 9, none⟩)] Y fun x w' => x = .returned (.int .i64 (row.length : Nat)) ∧ Below Y.heap.size Y w'))
  have h12 := hTX.los
  rw [List.length_map] at HAB
  have htwo : two (aboveP (row.map (·.1)) lo) = .tuple #[.int .i64 q, .int .i64 ak] := by rw [hq, hak]; rfl
  rw [htwo] at HAB
  rw [← hq] at g1
  rw [← hak] at g2
  have HN1 := Lib.hid n1
  have H3 : Hid ((mtS A lo hi).length ≤ tchX (kn (En E) E.length) (En E) row row2 A lo (px (sdx (En E) lo) 0 E.length) + ak + lkd (meetD lo hi) (bhd row A lo) ∧ tchX (kn (En E) E.length) (En E) row row2 A lo (px (sdx (En E) lo) 0 E.length) + ak + lkd (meetD lo hi) (bhd row A lo) ≤ (mtS A lo hi).length + (2 * lgN (E.length + 1) + lgN (row.length + 1) + 1)) := Lib.hid (by omega)
  have hbl : ((bhd row A lo).takeWhile (meetD lo hi)).length ≤ 400 := by
    refine Nat.le_trans (List.takeWhile_sublist _).length_le (Nat.le_trans ?_ hfr)
    exact sg_len _ _ _ _
  have htl := n2.1
  have hpl : (px (sdx (En E) lo) 0 E.length).length ≤ 64 := by
    refine Nat.le_trans n2.2 ?_
    by_cases he : 2 ≤ E.length + 1
    · have h2 := (lg_spec (n := E.length + 1) he (by have := hI.few.2; omega)).2.1
      omega
    · rw [lg_small (by omega)]; omega
  have hakl : ak ≤ 64 := by
    refine Nat.le_trans g2 ?_
    by_cases he : 2 ≤ row.length + 1
    · have h2 := (lg_spec (n := row.length + 1) he (by omega)).2.1
      omega
    · rw [lg_small (by omega)]; omega
  have HBX := Lib.hid hb
  clear hT hTX hI hA hs n1 n2 hq hak g2 htwo
  rw [hX] at HM HH
  have HX := Lib.hid hX
  generalize toldX (kn (En E) E.length) (En E) row row2 A lo (px (sdx (En E) lo) 0 E.length) = T at *
  generalize tchX (kn (En E) E.length) (En E) row row2 A lo (px (sdx (En E) lo) 0 E.length) = tc at *
  generalize (bhd row A lo).takeWhile (meetD lo hi) = U at *
  generalize lkd (meetD lo hi) (bhd row A lo) = lk at *
  generalize hpx : (px (sdx (En E) lo) 0 E.length).length = pl at *
  generalize hn : row.length = n at *
  clear hpx hn hX
  go_enter Try.func24, Try.ntmps24
  go_upto_region 4 with (first
    | (go_at_call 40; (with_reducible refine HM.out.mono ?_); rintro e w1 ⟨rfl, rfl⟩)
    | (go_at_call 41; (with_reducible refine HH.out.mono ?_); rintro e w2 ⟨⟨v, rfl, hr⟩, hb'⟩; rw [← HX.out] at hr hb'; have HR := Lib.hid hr; have HB := Lib.hid hb'; clear hr hb'))
  have c1 := (HB.out.cell (World.block_lt_of_cell? _ _ hb1)).trans hb1
  have c2 := (HB.out.cell (World.block_lt_of_cell? _ _ hb2)).trans hb2
  have c3 := (HB.out.cell (World.block_lt_of_cell? _ _ h12)).trans h12
  clear hb1 hb2 h12
  have a1 : ∀ z : Wd (Bw w2), z.w.cell? ⟨w.heap.size, 0, none⟩ = _ := fun z => Bw.cell z c1
  have a2 : ∀ z : Wd (Bw w2), z.w.cell? ⟨P.g, 12, none⟩ = _ := fun z => Bw.cell z c3
  have inst : Nonempty (Wd (Bw w2)) := ⟨⟨w2, Below.refl _ _⟩⟩
  have HAB2 := Lib.hid (fun Y (hY : Below w2.heap.size w2 Y) => HAB.out Y (HB.out.trans (hY.mono HB.out.size)))
  have HEN2 := Lib.hid (fun Y (hY : Below w2.heap.size w2 Y) => HEN.out Y (HB.out.trans (hY.mono HB.out.size)))
  have HW2 := Lib.hid (fun Y (hY : Below w2.heap.size w2 Y) => HW.out Y (HB.out.trans (hY.mono HB.out.size)))
  refine wp_region_wd (Bw w2) (by kernel_rfl) (by kernel_rfl) ((Below.refl _ w2).drew) ?_
  repeat (first
    | go_big_quiet_step (first | (go_at_call 42; with_reducible exact calls_wd (fun _ _ h hb => h.keep hb) _ (HAB2.out _ (Wd.h _))))
    | quiet_step (first | (go_at_call 42; with_reducible exact calls_wd (fun _ _ h hb => h.keep hb) _ (HAB2.out _ (Wd.h _)))))
  refine wpQuiet_nil ?_
  rintro _ ⟨z, rfl⟩
  go_upto_region 5 with fail
  refine wp_region_qc (Bw w2) 9 (by kernel_rfl) (by kernel_rfl) (z.h.drew) ?_
  simp only [List.take_succ_cons, List.take_zero, List.drop_succ_cons, List.drop_zero]
  repeat (first
    | go_big_quiet_step (first | (go_at_call 44; with_reducible exact calls_wd (fun _ _ h hb => h.keep hb) _ (HEN2.out _ (Wd.h _))))
    | quiet_step (first | (go_at_call 44; with_reducible exact calls_wd (fun _ _ h hb => h.keep hb) _ (HEN2.out _ (Wd.h _)))))
  refine wpQuiet_nil ?_
  rintro _ ⟨z2, rfl⟩
  refine wpOp_call rfl rfl (f := 43) (args := #[.pointer (some ⟨P.g, 9, none⟩), .int .i64 q, .int .i64 n, .func (.func 45) #[] #[.pointer (some ⟨w.heap.size, 0, none⟩), .pointer (some ⟨w.heap.size + 1, 0, none⟩)]]) ?_ ?_
  · simp [execOp, resolve, invoke, Act.eval, Deferred.ofValue, go_sem]
  · refine (HW2.out _ z2.h).mono ?_
    rintro e w3 ⟨⟨v2, rfl, hr2⟩, hb2⟩
    refine ⟨_, rfl, ?_⟩
    obtain ⟨hlen, q2, cq, rfl, hq2, hqc, -⟩ := row_u hr2
    have HSRC := Lib.hid ((NS.src hq2 hqc))
    have HB3 := Lib.hid (z2.h.trans (hb2.mono z2.h.size))
    have HR3 := Lib.hid (row_off HR.out (Off.of (S := []) HB3.out (Nat.le_refl _)) (by simp))
    have hsz3 := HB3.out.size
    have hsz2 := HB.out.size
    clear hr2 hb2 hq2 hqc hlen
    repeat (first | go_big_quiet_step (fail) | quiet_step (fail))
    refine wpQuiet_nil ?_
    rw [ids_len] at HSRC HR3 ⊢
    go_upto_region 7 with (at_builtin; refine wpList_list info_u rfl (by decide) (by decide) Try.underlying41 _ rfl (.tmp 50) (.tmp 51) rfl X.heap.size v T.length _ rfl HR3.out q2 U.length cq ((ids U).map (Value.int .u32)) (by simp [Act.eval]) (by simp [ids]) HSRC.out (ints_one _ _) (by omega) (by omega) ?_; intro v' w' h1 h2 _; have H1 := Lib.hid h1; have H2 := Lib.hid ((HB.out.trans (HB3.out.mono hsz2)).grown h2 (by omega) (fun k e => own_geB HR3.out k e)); clear h1 h2)
    have HR4 : Hid (w'.ownsRow X.heap.size 32 1 v' (ids T ++ ids U).length ((ids T ++ ids U).map (Value.int .u32))) := Lib.hid (by rw [List.length_append, ids_len, ids_len, List.map_append]; exact H1.out)
    have HTO := Lib.hid (told_any _ _ _ _ HR4.out (by rw [List.length_append, ids_len, ids_len]; omega))
    have HG := Lib.hid (own_geB HR4.out)
    go_wp2_with (go_at_call 35; (with_reducible refine HTO.out.mono ?_); rintro e w5 ⟨rfl, h3, h4⟩; have H4 := Lib.hid h3; have H5 := Lib.hid h4; clear h3 h4)
    go_ret2
    refine ⟨⟨v', tc + ak + lk, ?_, ?_, H3.out⟩, HBX.out.trans ((H2.out.trans (H5.out.below H2.out.size (fun k hk => HG.out k (by simpa using hk)))).mono HBX.out.size)⟩
    · simp only [Int.natCast_add]
      rfl
    · have := H4.out
      rw [HN1.out.1, List.length_append, ids_len, ids_len, HN1.out.2] at this
      exact this
end
end Go.Proofs.Ytgcimicbbadapaa.Iv
