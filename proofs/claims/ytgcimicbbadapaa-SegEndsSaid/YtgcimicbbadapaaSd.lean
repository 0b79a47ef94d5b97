/-
  A tree of spans: Drop. No condition but those typed at each theorem.
-/
import Derived.Test.YtgcimicbbadapaaSy
namespace Go.Proofs.Ytgcimicbbadapaa
open Go.RowKit
section
variable {X : World} {g : Nat} {ev : Value} {eb : List Nat} {gf gn gm : Nat} {E : List Int} {NV : List Value} {NM : List (List Int)} {D : List En} {wt : Int}
theorem zeroSt' (w : World) : (zeroValue 70).run Try.prog w = .ok (.agg #[.int .i64 0, .int .i64 0, .int .u32 0, .slice none 0 0]) w := by kernel_rfl
set_option maxRecDepth 100000 in
theorem sDrop_no (X : World) (s : S3) :
    Calls Try.prog 17 #[.pointer none, tv s] X fun e w' => e = .returned (.bool false) ∧ Below X.heap.size X w' := by
  have HM := Lib.hid (fun Y => smade_no Y)
  obtain ⟨lo, hi, id⟩ := s
  unfold tv
  go_enter Try.func17, Try.ntmps17
  go_wp2_with (go_at_call 30; (with_reducible refine (HM.out _).mono ?_); rintro e w1 ⟨rfl, rfl⟩)
  go_ret
  exact ⟨rfl, (Below.refl _ X).alloc (Nat.le_refl _) _⟩
theorem LvM.from {X0 wr : World} {NV' : List Value} {NM' : List (List Int)} {D' : List En} {x : En} {j : Nat} (hb : Below X.heap.size X X0) (h : LvM X0 wr g ev eb gf gn gm E NV D wt x j NV' NM' D') : LvM X wr g ev eb gf gn gm E NV D wt x j NV' NM' D' :=
  ⟨h.m, h.i, (Off.of hb (Nat.le_refl _)).trans h.off, h.old, h.same⟩
/-- what Drop leaves -/
def DropP (X : World) (g : Nat) (ev : Value) (eb : List Nat) (gf gn gm : Nat) (E : List Int) (NV : List Value) (D : List En) (wt : Int) (s : S3) (X' : World) : Prop :=
  ∃ NV' NM' D' wt', SegM X' g ev eb gf gn gm E NV' NM' D' wt' ∧ SgI E NM' D' ∧ D'.map (·.1) = drp (D.map (·.1)) s ∧ wt' = wt - ((if s ∈ D.map (·.1) then (cs E s).length else 0 : Nat) : Int) ∧ Off (bks g eb gf gn gm NV D) X X' ∧ ∀ b ∈ bks g eb gf gn gm NV' D', b ∈ bks g eb gf gn gm NV D ∨ X.heap.size ≤ b
theorem DropP.none (h : SegM X g ev eb gf gn gm E NV NM D wt) (hI : SgI E NM D) {s : S3} (hs : s ∉ D.map (·.1)) {X' : World} (hb : Below X.heap.size X X') : DropP X g ev eb gf gn gm E NV D wt s X' :=
  ⟨NV, NM, D, wt, h.bel hb, hI, (drp_not hs).symm, by rw [if_neg hs]; omega, Off.of hb (Nat.le_refl _), fun b hb => .inl hb⟩
theorem DropP.gone {NV' : List Value} {NM' : List (List Int)} {D' : List En} {wr w' : World} {x : En} (hI : SgI E NM D) (hx : x ∈ D) (h : LvM X wr g ev eb gf gn gm E NV D (wt - (x.2.2.length : Nat)) x x.2.2.length NV' NM' D') (o : Off [gm] wr w')
    (hmp : MP Try.prog 32 w' gm ((kvD D').filter (fun p => decide (p.1 ≠ x.1.2.2)))) : DropP X g ev eb gf gn gm E NV D wt x.1 w' := by
  have hm : x.1 ∈ D.map (·.1) := List.mem_map.2 ⟨x, hx, rfl⟩
  refine ⟨NV', NM', _, _, h.m.mapDrop o hmp, h.i.done (Nat.le_refl _), ?_, ?_, Off.via h.off o (fun b _ hb => ?_), fun b hb => .inl (h.old b ?_)⟩
  · have h1 : (D'.filter (fun d => decide (d.1.2.2 ≠ x.1.2.2))).map (·.1) = (D'.map (·.1)).filter (fun s => decide (s.2.2 ≠ x.1.2.2)) := by rw [List.filter_map]; rfl
    rw [h1, h.same]
    unfold drp
    refine List.filter_congr (fun s hs => ?_)
    have : s.2.2 ≠ x.1.2.2 ↔ s ≠ x.1 := ⟨fun e e2 => e (by rw [e2]), fun e e2 => e (hI.rg.names hs hm e2)⟩
    simp only [this]
  · rw [if_pos hm, ← hI.st x hx, List.length_map]
  · have : b = gm := by simpa using hb
    exact mem_bks.2 (.inr (.inr (.inr (.inl this))))
  · rcases mem_bks.1 hb with h1 | h1 | h1 | h1 | h1 | h1 | ⟨d, hd, e⟩
    · exact mem_bks.2 (.inl h1)
    · exact mem_bks.2 (.inr (.inl h1))
    · exact mem_bks.2 (.inr (.inr (.inl h1)))
    · exact mem_bks.2 (.inr (.inr (.inr (.inl h1))))
    · exact mem_bks.2 (.inr (.inr (.inr (.inr (.inl h1)))))
    · exact mem_bks.2 (.inr (.inr (.inr (.inr (.inr (.inl h1))))))
    · exact mem_bks.2 (.inr (.inr (.inr (.inr (.inr (.inr ⟨d, (List.mem_filter.1 hd).1, e⟩))))))
set_option maxRecDepth 100000 in
set_option maxHeartbeats 4000000 in
theorem sDrop_yes (h : SegM X g ev eb gf gn gm E NV NM D wt) (hI : SgI E NM D) (hw : ∀ d ∈ D, (Lit.int .u32 d.1.2.2).wf = true) (hn : ∀ d ∈ D, d.2.2.length ≤ 400) (hwt : 0 ≤ wt ∧ wt ≤ 1000000) (s : S3) (hs : Wf3 s) :
    Calls Try.prog 17 #[.pointer (some ⟨g, 0, none⟩), tv s] X fun e X' => e = .returned (.bool (decide (s ∈ D.map (·.1)))) ∧ DropP X g ev eb gf gn gm E NV D wt s X' := by
  have HM := Lib.hid (fun Y (hb : Below X.heap.size X Y) => smade_yes (h.bel hb))
  have HH := Lib.hid h
  have HI := Lib.hid hI
  have HWF := Lib.hid hs.2.2
  have HWD := Lib.hid hw
  have HND := Lib.hid hn
  have hneT := neT
  have hfd := fieldSt
  clear hw hn hs
  obtain ⟨lo, hi, id⟩ := s
  simp only at HWF
  unfold tv
  go_enter Try.func17, Try.ntmps17
  go_upto_region 1 with fail
  obtain ⟨W, hW⟩ : ∃ W, W = X.alloc (.cells #[.int .i64 lo, .int .i64 hi, .int .u32 id] 34) := ⟨_, rfl⟩
  rw [← hW]
  have hBW : Below X.heap.size X W := hW ▸ (Below.refl _ X).alloc (Nat.le_refl _) _
  have hBX : EV 34 W X.heap.size [.int .i64 lo, .int .i64 hi, .int .u32 id] := hW ▸ EV.new X _ _
  have hWs : W.heap.size = X.heap.size + 1 := by rw [hW]; simp
  have b0 := hBX.cell (i := 0) rfl
  have b1 := hBX.cell (i := 1) rfl
  have b2 := hBX.cell (i := 2) rfl
  have hHW := h.bel hBW
  have c4 : W.cell? ⟨g, 4, none⟩ = some (.map (some gm)) := hHW.seg.cell (i := 4) rfl
  have hbl := hBX.lt
  have hgl := hHW.seg.lt
  have HB := Lib.hid hBW
  have HBX := Lib.hid hBX
  clear hW
  by_cases hf : ∃ d ∈ D, d.1.2.2 = id
  · obtain ⟨d, hd, hdi⟩ := hf
    obtain ⟨bd, cd, restd, hdv, hdl, -⟩ := h.seats d hd
    have hstv : stV d = .agg #[.int .i64 d.1.1, .int .i64 d.1.2.1, .int .u32 id, .slice (some ⟨bd, 0, none⟩) d.2.2.length cd] := by rw [← hdi, ← hdv]; rfl
    have hlA : ∀ W', Below W.heap.size W W' → (Instr.lookup 64 (.map (some gm)) (.int .u32 id) true).run Try.prog W' = .ok (.tuple #[.agg #[.int .i64 d.1.1, .int .i64 d.1.2.1, .int .u32 id, .slice (some ⟨bd, 0, none⟩) d.2.2.length cd], .bool true]) W' := fun W' hb => by
      have := ((hHW.bel hb).mp.look Try.underlying64 Try.underlying32 HWF.out (v := stV d) (List.mem_map.2 ⟨d, hd, by rw [← hdi]⟩) (zeroSt' W') true)
      rw [hstv] at this
      simpa using this
    have hbA : Below W.heap.size W (W.alloc (.cells #[.int .i64 0, .int .i64 0, .int .u32 0, .slice none 0 0] 70)) := (Below.refl _ W).alloc (Nat.le_refl _) _
    have hl1 := hlA W.drew ⟨rfl, rfl, rfl, Nat.le_refl _, fun _ _ => rfl⟩
    have hl2 := hlA (W.drew.alloc (.cells #[.int .i64 0, .int .i64 0, .int .u32 0, .slice none 0 0] 70)) (Below.alloc (a := W) (w := W.drew) ⟨rfl, rfl, rfl, Nat.le_refl _, fun _ _ => rfl⟩ (Nat.le_refl _) _)
    have hl3 := hlA ((W.alloc (.cells #[.int .i64 0, .int .i64 0, .int .u32 0, .slice none 0 0] 70)).drew) (drewB hbA)
    have c4a := (hbA.cell (World.block_lt_of_cell? W _ c4)).trans c4
    have b2a := (hbA.cell (World.block_lt_of_cell? W _ b2)).trans b2
    have HBA := Lib.hid hbA
    obtain ⟨lo', hlo⟩ : ∃ a, a = d.1.1 := ⟨_, rfl⟩
    obtain ⟨hi', hhi⟩ : ∃ a, a = d.1.2.1 := ⟨_, rfl⟩
    obtain ⟨nd, hnd⟩ : ∃ a, a = d.2.2.length := ⟨_, rfl⟩
    rw [← hlo, ← hhi, ← hnd] at hl1 hl2 hl3
    have HD := Lib.hid hd
    have HLO := Lib.hid hlo
    have HHI := Lib.hid hhi
    have HN := Lib.hid hnd
    have HDI := Lib.hid hdi
    have HDV := Lib.hid hdv
    rw [← hnd] at HDV
    clear hlA hHW h hI hBX hBW hbA hstv hd hlo hhi hnd hdi hdv hdl
    go_upto_region 3 with (go_at_call 30; (with_reducible refine (HM.out _ HB.out).mono ?_); rintro e w1 ⟨rfl, rfl⟩)
    go_region
    all_goals (
      go_upto_region 4 with fail
      obtain ⟨W3, hW3⟩ : ∃ W3, W3 = (w1.alloc (.cells #[.int .i64 lo', .int .i64 hi', .int .u32 id, .slice (some ⟨bd, 0, none⟩) nd cd] 70)).drew := ⟨_, rfl⟩
      rw [← hW3]
      have hb3 : Below w1.heap.size w1 W3 := hW3 ▸ drewB ((Below.refl _ w1).alloc (Nat.le_refl _) _)
      have hG : EV 70 W3 (X.heap.size + 1) [.int .i64 lo', .int .i64 hi', .int .u32 id, .slice (some ⟨bd, 0, none⟩) nd cd] := by
        rw [hW3, ← hWs]
        exact EV.new w1 _ _
      have HB3 := Lib.hid (HB.out.trans (hb3.mono HB.out.size))
      have hX3 := HBX.out.keep hb3 HBX.out.lt
      have b0 := hX3.cell (i := 0) rfl
      have b1 := hX3.cell (i := 1) rfl
      have b2 := hX3.cell (i := 2) rfl
      have g0 := hG.cell (i := 0) rfl
      have g1 := hG.cell (i := 1) rfl
      have g2 := hG.cell (i := 2) rfl
      have g3 := hG.cell (i := 3) rfl
      have HX3 := Lib.hid hX3
      clear hW3 hb3 hG hX3 HBA hl1 hl2 hl3 c4a b2a c4
      by_cases heq : (lo', hi') = (lo, hi)
      · obtain ⟨rfl, rfl⟩ := Prod.mk.inj heq
        have hneq : ∀ Y, (binOp .neq 34 (.agg #[.int .i64 lo', .int .i64 hi', .int .u32 id]) (.agg #[.int .i64 lo', .int .i64 hi', .int .u32 id])).run Try.prog Y = .ok (.bool false) Y := fun Y => by rw [neT]; simp
        have hds : d.1 = (lo', hi', id) := by rw [← HDI.out, HLO.out, HHI.out]
        have hmem : (lo', hi', id) ∈ D.map (·.1) := List.mem_map.2 ⟨d, HD.out, hds⟩
        have HDM := Lib.hid (decide_eq_true hmem)
        have HL := Lib.hid (leave_any (HH.out.bel HB3.out) HI.out HD.out HWD.out HND.out hwt)
        rw [HDV.out, ← HN.out] at HL
        have HDS := Lib.hid hds
        have HIN := Lib.hid (fun hb => by have := HH.out.lies _ hb; omega : X.heap.size ∉ bks g eb gf gn gm NV D)
        clear hneT heq hmem hds
        go_upto_region 7 with (go_at_call 32; (with_reducible refine HL.out.mono ?_); rintro e w4 ⟨rfl, NV', NM', D', hL⟩; have HLV := Lib.hid hL; clear hL)
        have hl := HLV.out
        have c4 : w4.cell? ⟨g, 4, none⟩ = some (.map (some gm)) := hl.m.seg.cell (i := 4) rfl
        have hX4 := HX3.out.off hl.off HIN.out
        have b2 := hX4.cell (i := 2) rfl
        have hmpd : MP Try.prog 32 w4.drew gm (kvD D') := hl.m.mp.block rfl
        obtain ⟨w9, hdel, hmp9, ho9⟩ := hmpd.drop Try.underlying64 Try.underlying32 id HWF.out 0
        have HMP9 := Lib.hid hmp9
        have HO9 := Lib.hid ((Off.refl [gm] w4).drew.trans ho9)
        clear hl hX4 hmpd hmp9 ho9 b0 b1 g0 g1 g2 g3
        go_region
        all_goals (
          go_wp2
          go_ret
          have hP := DropP.gone HI.out HD.out (HN.out ▸ HLV.out.from HB3.out) HO9.out (by rw [HDS.out]; exact HMP9.out)
          rw [HDS.out] at hP
          exact ⟨retb (by rw [HDM.out]), hP⟩)
      · have hneq : ∀ Y, (binOp .neq 34 (.agg #[.int .i64 lo', .int .i64 hi', .int .u32 id]) (.agg #[.int .i64 lo, .int .i64 hi, .int .u32 id])).run Try.prog Y = .ok (.bool true) Y := fun Y => by
          rw [neT, decide_eq_false (fun e => heq (by cases e; rfl))]
          rfl
        have hnin : (lo, hi, id) ∉ D.map (·.1) := fun hm => by
          obtain ⟨d2, hd2, e⟩ := List.mem_map.1 hm
          have e2 := en_eq HI.out.rg hd2 HD.out (by rw [e, HDI.out])
          subst e2
          exact heq (by rw [HLO.out, HHI.out, e])
        have HD0 := Lib.hid (decide_eq_false hnin)
        have HP : Hid (∀ W', Below X.heap.size X W' → DropP X g ev eb gf gn gm E NV D wt (lo, hi, id) W') := Lib.hid (fun W' hb => DropP.none HH.out HI.out hnin hb)
        clear hneT heq hnin
        go_wp2
        go_ret
        exact ⟨retb (by rw [HD0.out]), HP.out _ HB3.out⟩)
  · have hnone : ∀ p ∈ kvD D, p.1 ≠ id := fun p hp => by
      obtain ⟨d, hd, rfl⟩ := List.mem_map.1 hp
      exact fun e => hf ⟨d, hd, e⟩
    have hlA : ∀ W', Below W.heap.size W W' → (Instr.lookup 64 (.map (some gm)) (.int .u32 id) true).run Try.prog W' = .ok (.tuple #[.agg #[.int .i64 0, .int .i64 0, .int .u32 0, .slice none 0 0], .bool false]) W' := fun W' hb => by
      have := ((hHW.bel hb).mp.miss Try.underlying64 Try.underlying32 HWF.out hnone (zeroSt' W') true)
      simpa using this
    have hl1 := hlA W.drew ⟨rfl, rfl, rfl, Nat.le_refl _, fun _ _ => rfl⟩
    have hl2 := hlA (W.drew.alloc (.cells #[.int .i64 0, .int .i64 0, .int .u32 0, .slice none 0 0] 70)) (Below.alloc (a := W) (w := W.drew) ⟨rfl, rfl, rfl, Nat.le_refl _, fun _ _ => rfl⟩ (Nat.le_refl _) _)
    have hl3 := hlA ((W.alloc (.cells #[.int .i64 0, .int .i64 0, .int .u32 0, .slice none 0 0] 70)).drew) (drewB ((Below.refl _ W).alloc (Nat.le_refl _) _))
    have hbA : Below W.heap.size W (W.alloc (.cells #[.int .i64 0, .int .i64 0, .int .u32 0, .slice none 0 0] 70)) := (Below.refl _ W).alloc (Nat.le_refl _) _
    have c4a := (hbA.cell (World.block_lt_of_cell? W _ c4)).trans c4
    have b2a := (hbA.cell (World.block_lt_of_cell? W _ b2)).trans b2
    clear hbA
    have hnin : (lo, hi, id) ∉ D.map (·.1) := fun hm => by
      obtain ⟨d, hd, e⟩ := List.mem_map.1 hm
      exact hf ⟨d, hd, by rw [e]⟩
    have HD0 := Lib.hid (decide_eq_false hnin)
    have HP : Hid (∀ W', Below X.heap.size X W' → DropP X g ev eb gf gn gm E NV D wt (lo, hi, id) W') := Lib.hid (fun W' hb => DropP.none HH.out HI.out hnin hb)
    clear hf hnone hlA hnin hHW h hI hBX hBW
    go_upto_region 3 with (go_at_call 30; (with_reducible refine (HM.out _ HB.out).mono ?_); rintro e w1 ⟨rfl, rfl⟩)
    go_region
    all_goals (
      go_wp2
      go_ret
      exact ⟨retb (by rw [HD0.out]), HP.out _ (drewB (HB.out.trans (((Below.refl _ w1).alloc (Nat.le_refl _) _).mono HB.out.size)))⟩)
end
end Go.Proofs.Ytgcimicbbadapaa
