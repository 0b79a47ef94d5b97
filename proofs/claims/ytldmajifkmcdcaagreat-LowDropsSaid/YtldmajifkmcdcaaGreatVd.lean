/-
  Drop of what is not there. No condition but those typed at each theorem.
-/
import Derived.Test.YtldmajifkmcdcaaGreatMVb
import Derived.Test.YtldmajifkmcdcaaGreatBd
namespace Go.Proofs.YtldmajifkmcdcaaGreat.Lv
open Go.RowKit Go.Sort Bd
open Hp (upG upG_at upG_ne)
section
variable {w : World} {P : LoP} {RX A : List S3} {c : Int}
theorem LoS.at (h : LoS w P RX c) {s : S3} {i : Nat} (hx : fnd kx RX s.1 s.2.2 = (i, true)) : ∃ t, RX[i]? = some t ∧ t.1 = s.1 ∧ t.2.2 = s.2.2 := by
  have := fnd_true h.ord (Nat.le_trans h.few (by decide)) (v := s.1) (x := s.2.2) (by rw [hx])
  rw [hx] at this
  exact this
theorem LoS.idx (h : LoS w P RX c) {s : S3} (hs : s ∈ RX) : fnd kx RX s.1 s.2.2 = (RX.idxOf s, true) :=
  fnd_yes h.ord (Nat.le_trans h.few (by decide)) (i := RX.idxOf s) (at_idx hs) rfl rfl
/-- a Y at its place -/
theorem LoS.y (h : LoS w P RX c) {i : Nat} {t : S3} (ht : RX[i]? = some t) : ∃ g o cap, P.ys = .slice (some ⟨g, o, none⟩) RX.length cap ∧ w.cell? ⟨g, o + i, none⟩ = some (.int .i64 t.2.1) := by
  obtain ⟨-, p, cp, e, hn, -⟩ := row_u h.yr
  have ey : (RX.map ky)[i]? = some t.2.1 := by rw [List.getElem?_map, ht]; rfl
  rcases hn with h0 | ⟨g, o, rfl, h1⟩
  · rw [h0] at ey; cases ey
  · exact ⟨g, o, cp, e, h1 i _ ey⟩
set_option maxRecDepth 100000 in
set_option maxHeartbeats 3200000 in
theorem ldrop_no (h : LoS w P RX c) (s : S3) {i : Nat} (hx : fnd kx RX s.1 s.2.2 = (i, false)) :
    Calls Tryz.prog 15 #[.pointer (some ⟨P.B, 0, none⟩), tv s] w fun e w' => e = .returned (.bool false) ∧ Below w.heap.size w w' := by
  have hf : RX.length ≤ 8192 := Nat.le_trans h.few (by decide)
  have HM := Lib.hid (fun X (hb : Below w.heap.size w X) => lmade_yes (h.keep hb))
  have HF := Lib.hid (fun X (hb : Below w.heap.size w X) => find_any (o := 1) ((h.keep hb).ev.cell (i := 1) rfl) ((h.keep hb).ev.cell (i := 2) rfl) (h.keep hb).row h.ord hf s.1 s.2.2)
  rw [hx] at HF
  obtain ⟨x, y, id⟩ := s
  unfold tv
  simp only at HF ⊢
  generalize P.B = B at *
  clear h hx hf
  go_enter Tryz.func15, Tryz.ntmps15
  obtain ⟨Y, hY⟩ : ∃ Y, Y = (w.alloc (.cells #[.pointer (some ⟨B, 0, none⟩)] 25)).alloc (.cells #[.int .i64 x, .int .i64 y, .int .u32 id] 34) := ⟨_, rfl⟩
  have hYB : Below w.heap.size w Y := hY ▸ ((Below.refl _ w).alloc (Nat.le_refl _) _).alloc (by simp) _
  have hp : Y.cell? ⟨w.heap.size, 0, none⟩ = some (.pointer (some ⟨B, 0, none⟩)) := by rw [hY]; exact cell_al _ (one_new w _ _).1
  have hT1 : T1 Y (w.heap.size + 1) 0 (x, y, id) := by
    have := T1.new (w.alloc (.cells #[.pointer (some ⟨B, 0, none⟩)] 25)) (x, y, id) 34
    rw [World.size_alloc] at this
    rw [hY]
    exact this
  go_upto_region 1 with fail
  rw [← hY]
  clear hY
  have HYB := Lib.hid hYB
  have k0 := hT1.c0
  have k1 := hT1.c1
  have k2 := hT1.c2
  simp only [Nat.zero_add] at k0 k1 k2
  have HMW := Lib.hid (HM.out Y hYB)
  clear hT1 hYB
  go_upto_region 3 with (go_at_call 26; (with_reducible refine HMW.out.mono ?_); rintro e wM ⟨rfl, hM⟩; subst wM)
  have inst : Nonempty (Wd (Bw Y)) := ⟨⟨Y, Below.refl _ _⟩⟩
  have bp : ∀ z : Wd (Bw Y), z.w.cell? ⟨w.heap.size, 0, none⟩ = _ := fun z => Bw.cell z hp
  have b0 : ∀ z : Wd (Bw Y), z.w.cell? ⟨w.heap.size + 1, 0, none⟩ = _ := fun z => Bw.cell z k0
  have b1 : ∀ z : Wd (Bw Y), z.w.cell? ⟨w.heap.size + 1, 1, none⟩ = _ := fun z => Bw.cell z k1
  have b2 : ∀ z : Wd (Bw Y), z.w.cell? ⟨w.heap.size + 1, 2, none⟩ = _ := fun z => Bw.cell z k2
  have HFC := Lib.hid (fun z : Wd (Bw Y) => HF.out z.w (HYB.out.trans (z.h.mono HYB.out.size)))
  refine wp_region_wd (Bw Y) (by kernel_rfl) (by kernel_rfl) ((Below.refl _ Y).drew) ?_
  repeat (first
    | go_big_quiet_step (first | (go_at_call 28; with_reducible exact calls_wd (fun _ _ h hb => h.keep hb) _ (HFC.out _)))
    | quiet_step (first | (go_at_call 28; with_reducible exact calls_wd (fun _ _ h hb => h.keep hb) _ (HFC.out _))))
  refine wpQuiet_nil ?_
  rintro _ ⟨z, rfl⟩
  have HB2 := Lib.hid (HYB.out.trans (z.h.mono HYB.out.size))
  have mp := bp z
  have m1 := b1 z
  generalize z.w = w2 at *
  clear bp b0 b1 b2 HFC inst HYB k0 k1 k2 hp
  go_upto_region 4 with fail
  go_quiet (fail)
  go_wp2
  go_ret
  exact ⟨rfl, drewB HB2.out⟩
set_option maxRecDepth 100000 in
set_option maxHeartbeats 3200000 in
theorem ldrop_y (h : LoS w P RX c) (s : S3) {i : Nat} {t : S3} (hx : fnd kx RX s.1 s.2.2 = (i, true)) (ht : RX[i]? = some t) (hy : t.2.1 ≠ s.2.1) :
    Calls Tryz.prog 15 #[.pointer (some ⟨P.B, 0, none⟩), tv s] w fun e w' => e = .returned (.bool false) ∧ Below w.heap.size w w' := by
  have hf : RX.length ≤ 8192 := Nat.le_trans h.few (by decide)
  have HM := Lib.hid (fun X (hb : Below w.heap.size w X) => lmade_yes (h.keep hb))
  have HF := Lib.hid (fun X (hb : Below w.heap.size w X) => find_any (o := 1) ((h.keep hb).ev.cell (i := 1) rfl) ((h.keep hb).ev.cell (i := 2) rfl) (h.keep hb).row h.ord hf s.1 s.2.2)
  rw [hx] at HF
  have hi := (List.getElem?_eq_some_iff.1 ht).1
  obtain ⟨yg, yo, yc, hys, y0⟩ := h.y ht
  have c3 := h.ev.cell (i := 3) rfl
  rw [hys] at c3
  obtain ⟨x, y, id⟩ := s
  unfold tv
  simp only at HF hy ⊢
  generalize P.B = B at *
  generalize t.2.1 = ty at *
  have hl := h.few
  generalize RX.length = n at *
  have hyb : (ty == y) = false := by rw [beq_eq_false_iff_ne]; exact hy
  clear h hx ht hys
  go_enter Tryz.func15, Tryz.ntmps15
  obtain ⟨Y, hY⟩ : ∃ Y, Y = (w.alloc (.cells #[.pointer (some ⟨B, 0, none⟩)] 25)).alloc (.cells #[.int .i64 x, .int .i64 y, .int .u32 id] 34) := ⟨_, rfl⟩
  have hYB : Below w.heap.size w Y := hY ▸ ((Below.refl _ w).alloc (Nat.le_refl _) _).alloc (by simp) _
  have hp : Y.cell? ⟨w.heap.size, 0, none⟩ = some (.pointer (some ⟨B, 0, none⟩)) := by rw [hY]; exact cell_al _ (one_new w _ _).1
  have hT1 : T1 Y (w.heap.size + 1) 0 (x, y, id) := by
    have := T1.new (w.alloc (.cells #[.pointer (some ⟨B, 0, none⟩)] 25)) (x, y, id) 34
    rw [World.size_alloc] at this
    rw [hY]
    exact this
  go_upto_region 1 with fail
  rw [← hY]
  clear hY
  have HYB := Lib.hid hYB
  have k0 := hT1.c0
  have k1 := hT1.c1
  have k2 := hT1.c2
  simp only [Nat.zero_add] at k0 k1 k2
  have HMW := Lib.hid (HM.out Y hYB)
  clear hT1 hYB
  go_upto_region 3 with (go_at_call 26; (with_reducible refine HMW.out.mono ?_); rintro e wM ⟨rfl, hM⟩; subst wM)
  have inst : Nonempty (Wd (Bw Y)) := ⟨⟨Y, Below.refl _ _⟩⟩
  have bp : ∀ z : Wd (Bw Y), z.w.cell? ⟨w.heap.size, 0, none⟩ = _ := fun z => Bw.cell z hp
  have b0 : ∀ z : Wd (Bw Y), z.w.cell? ⟨w.heap.size + 1, 0, none⟩ = _ := fun z => Bw.cell z k0
  have b1 : ∀ z : Wd (Bw Y), z.w.cell? ⟨w.heap.size + 1, 1, none⟩ = _ := fun z => Bw.cell z k1
  have b2 : ∀ z : Wd (Bw Y), z.w.cell? ⟨w.heap.size + 1, 2, none⟩ = _ := fun z => Bw.cell z k2
  have HFC := Lib.hid (fun z : Wd (Bw Y) => HF.out z.w (HYB.out.trans (z.h.mono HYB.out.size)))
  refine wp_region_wd (Bw Y) (by kernel_rfl) (by kernel_rfl) ((Below.refl _ Y).drew) ?_
  repeat (first
    | go_big_quiet_step (first | (go_at_call 28; with_reducible exact calls_wd (fun _ _ h hb => h.keep hb) _ (HFC.out _)))
    | quiet_step (first | (go_at_call 28; with_reducible exact calls_wd (fun _ _ h hb => h.keep hb) _ (HFC.out _))))
  refine wpQuiet_nil ?_
  rintro _ ⟨z, rfl⟩
  have HB2 := Lib.hid (HYB.out.trans (z.h.mono HYB.out.size))
  have mp := bp z
  have m1 := b1 z
  generalize z.w = w2 at *
  clear bp b0 b1 b2 HFC inst HYB k0 k1 k2 hp
  have d3 := (HB2.out.cell (World.block_lt_of_cell? _ _ c3)).trans c3
  have dy := (HB2.out.cell (World.block_lt_of_cell? _ _ y0)).trans y0
  go_upto_region 4 with fail
  go_quiet (fail)
  go_wp2
  go_ret
  exact ⟨rfl, drewB HB2.out⟩
set_option maxRecDepth 100000 in
set_option maxHeartbeats 3200000 in
theorem ldrop_gone (h : LoS w P RX c) (hF : ∃ d pp, FR w P.F RX.length d pp) {cap : Nat} {g : Nat → Option S3} (hK : KlM w P.kb cap (2 * RX.length - 1) RX g) (hkv : P.kv = .slice (some ⟨P.kb, 0, none⟩) (2 * RX.length - 1) cap) (s : S3) {i last : Nat} {ini : List Nat} (hx : fnd kx RX s.1 s.2.2 = (i, true)) (ht : RX[i]? = some s) (hw : pt i (tr RX.length) 0 0 = ini ++ [last]) (hlt : last < 2 * RX.length - 1) (hg : g last = none) :
    Calls Tryz.prog 15 #[.pointer (some ⟨P.B, 0, none⟩), tv s] w fun e w' => e = .returned (.bool false) ∧ Below w.heap.size w w' := by
  have hf : RX.length ≤ 8192 := Nat.le_trans h.few (by decide)
  have HM := Lib.hid (fun X (hb : Below w.heap.size w X) => lmade_yes (h.keep hb))
  have HF := Lib.hid (fun X (hb : Below w.heap.size w X) => find_any (o := 1) ((h.keep hb).ev.cell (i := 1) rfl) ((h.keep hb).ev.cell (i := 2) rfl) (h.keep hb).row h.ord hf s.1 s.2.2)
  rw [hx] at HF
  have hi := (List.getElem?_eq_some_iff.1 ht).1
  obtain ⟨yg, yo, yc, hys, y0⟩ := h.y ht
  have c3 := h.ev.cell (i := 3) rfl
  have c4 := h.ev.cell (i := 4) rfl
  have c5 := h.ev.cell (i := 5) rfl
  rw [hys] at c3
  rw [hkv] at c5
  have HP := Lib.hid (fun X (hb : Below w.heap.size w X) => (show Calls Tryz.prog 29 #[.pointer (some ⟨P.F, 0, none⟩), .int .i64 i] X fun e w' => ∃ v, e = .returned (tupP v 0) ∧ w'.ownsRow X.heap.size 3 1 v (pt i (tr RX.length) 0 0).length ((ints (pt i (tr RX.length) 0 0)).map (Value.int .i64)) ∧ Below X.heap.size X w' by
    obtain ⟨d, pp, hF⟩ := hF
    exact FPath_any X P.F RX.length d pp (hF.keep hb) i hi (by have := h.few; omega)))
  have HK := Lib.hid hK
  have HLT := Lib.hid hlt
  rw [hw] at HP
  have hpl : (ini ++ [last]).length ≤ 400 := by
    rw [← hw]
    exact Nat.le_trans (pt_len _ _ _ _).2 (Nat.le_trans (ht_le _) (by rw [lv_tr (by omega)]; exact h.few))
  have n7 := hK.hc hlt
  rw [hg] at n7
  unfold bv bi at n7
  unfold tupP at HP
  obtain ⟨x, y, id⟩ := s
  unfold tv
  simp only at HF y0 ⊢
  generalize P.B = B at *
  have hl := h.few
  generalize P.F = F at *
  generalize P.kb = kb at *
  obtain ⟨m, hm⟩ : ∃ m, m = 2 * RX.length - 1 := ⟨_, rfl⟩
  have hm2 : m ≤ 1000 := by omega
  rw [← hm] at c5 hlt
  rw [List.length_append, List.length_singleton] at HP hpl
  generalize RX.length = n at *
  obtain ⟨il, hil⟩ : ∃ il, il = ini.length := ⟨_, rfl⟩
  have HIL := Lib.hid hil
  rw [← hil] at HP hpl
  clear h hx ht hys hF hkv hw hK hg hm hil HK HLT
  go_enter Tryz.func15, Tryz.ntmps15
  obtain ⟨Y, hY⟩ : ∃ Y, Y = (w.alloc (.cells #[.pointer (some ⟨B, 0, none⟩)] 25)).alloc (.cells #[.int .i64 x, .int .i64 y, .int .u32 id] 34) := ⟨_, rfl⟩
  have hYB : Below w.heap.size w Y := hY ▸ ((Below.refl _ w).alloc (Nat.le_refl _) _).alloc (by simp) _
  have hp : Y.cell? ⟨w.heap.size, 0, none⟩ = some (.pointer (some ⟨B, 0, none⟩)) := by rw [hY]; exact cell_al _ (one_new w _ _).1
  have hT1 : T1 Y (w.heap.size + 1) 0 (x, y, id) := by
    have := T1.new (w.alloc (.cells #[.pointer (some ⟨B, 0, none⟩)] 25)) (x, y, id) 34
    rw [World.size_alloc] at this
    rw [hY]
    exact this
  go_upto_region 1 with fail
  rw [← hY]
  clear hY
  have HYB := Lib.hid hYB
  have k0 := hT1.c0
  have k1 := hT1.c1
  have k2 := hT1.c2
  simp only [Nat.zero_add] at k0 k1 k2
  have HMW := Lib.hid (HM.out Y hYB)
  clear hT1 hYB
  go_upto_region 3 with (go_at_call 26; (with_reducible refine HMW.out.mono ?_); rintro e wM ⟨rfl, hM⟩; subst wM)
  have inst : Nonempty (Wd (Bw Y)) := ⟨⟨Y, Below.refl _ _⟩⟩
  have bp : ∀ z : Wd (Bw Y), z.w.cell? ⟨w.heap.size, 0, none⟩ = _ := fun z => Bw.cell z hp
  have b0 : ∀ z : Wd (Bw Y), z.w.cell? ⟨w.heap.size + 1, 0, none⟩ = _ := fun z => Bw.cell z k0
  have b1 : ∀ z : Wd (Bw Y), z.w.cell? ⟨w.heap.size + 1, 1, none⟩ = _ := fun z => Bw.cell z k1
  have b2 : ∀ z : Wd (Bw Y), z.w.cell? ⟨w.heap.size + 1, 2, none⟩ = _ := fun z => Bw.cell z k2
  have HFC := Lib.hid (fun z : Wd (Bw Y) => HF.out z.w (HYB.out.trans (z.h.mono HYB.out.size)))
  refine wp_region_wd (Bw Y) (by kernel_rfl) (by kernel_rfl) ((Below.refl _ Y).drew) ?_
  repeat (first
    | go_big_quiet_step (first | (go_at_call 28; with_reducible exact calls_wd (fun _ _ h hb => h.keep hb) _ (HFC.out _)))
    | quiet_step (first | (go_at_call 28; with_reducible exact calls_wd (fun _ _ h hb => h.keep hb) _ (HFC.out _))))
  refine wpQuiet_nil ?_
  rintro _ ⟨z, rfl⟩
  have HB2 := Lib.hid (HYB.out.trans (z.h.mono HYB.out.size))
  have mp := bp z
  have m1 := b1 z
  generalize z.w = w2 at *
  clear bp b0 b1 b2 HFC inst HYB k0 k1 k2 hp
  have d3 := (HB2.out.cell (World.block_lt_of_cell? _ _ c3)).trans c3
  have d4 := (HB2.out.cell (World.block_lt_of_cell? _ _ c4)).trans c4
  have dy := (HB2.out.cell (World.block_lt_of_cell? _ _ y0)).trans y0
  go_upto_region 4 with fail
  go_quiet (fail)
  generalize hwd : World.drewN w2 _ = wd
  have hbd : Below w2.heap.size w2 wd := hwd ▸ below_drewN (Below.refl _ w2) _
  have HB4 := Lib.hid (HB2.out.trans (hbd.mono HB2.out.size))
  have mp4 := (hbd.cell (World.block_lt_of_cell? _ _ mp)).trans mp
  have d44 := (hbd.cell (World.block_lt_of_cell? _ _ d4)).trans d4
  have HPW := Lib.hid (HP.out wd HB4.out)
  clear hwd hbd d3 d4 dy mp m1
  go_upto_region 8 with (go_at_call 29; (refine HPW.out.mono ?_); rintro e w3 ⟨v, rfl, hr, hb⟩; obtain ⟨hl2, p2, c2, rfl, hn2, hp2, hc2⟩ := row_u (k := .i64) (xs := ints (ini ++ [last])) hr; have HB3 := Lib.hid (HB4.out.trans (hb.mono HB4.out.size)); have mp3 := (hb.cell (World.block_lt_of_cell? _ _ mp4)).trans mp4; clear hr hb)
  have ei : (ints (ini ++ [last]))[il]? = some (last : Int) := by
    unfold ints
    rw [List.getElem?_map, HIL.out, List.getElem?_append_right (Nat.le_refl _)]
    simp
  rcases hn2 with h0 | ⟨gp, op, rfl, h1⟩
  · rw [h0] at ei; cases ei
  have e0 := h1 il _ ei
  have d5 := (HB3.out.cell (World.block_lt_of_cell? _ _ c5)).trans c5
  have d7 := (HB3.out.cell (World.block_lt_of_cell? _ _ n7)).trans n7
  clear h1 ei d44 mp4
  go_region
  go_wp2
  go_ret
  exact ⟨rfl, drewB HB3.out⟩
end
end Go.Proofs.YtldmajifkmcdcaaGreat.Lv
