/-
  Two pieces of the way down, by themselves: another node is copied over the one below; that one is copied over the one above. No condition but those typed at each theorem.
-/
import Derived.Test.YtldmajifkmcdcaaGreatVi
import Derived.Deep.RegionHeld3
namespace Go.Proofs.YtldmajifkmcdcaaGreat.Lv
open Go.RowKit Go.Sort Bd
def cR : Code → Code
  | .seq _ b => b
  | c => c
def cL : Code → Code
  | .seq a _ => a
  | c => c
def cI : Code → Code
  | .block _ c => c
  | .loop c => c
  | .cond _ c _ => c
  | c => c
/-- a piece of part's body -/
def isR5 (c : Code) : Prop := c = cI (cR (cL (cR (cI (cR (cI (cI (cR (cR (Tryz.f38.body.getD .skip))))))))))
def isR7 (c : Code) : Prop := c = cR (cR (cR (cI (cR (cI (cI (cR (cR (Tryz.f38.body.getD .skip)))))))))
section
variable {w X : World} {c : Code} {Q : Exit → Act → World → Prop} {KB DB q B kb m cap r : Nat} {l s1 s2 s3 s4 s5 s6 s7 s0 : Int} {x0 x1 x2 x3 x4 x5 x6 x7 : Value}
set_option maxRecDepth 100000 in
set_option maxHeartbeats 1600000 in
theorem r7_any {u0 u1 u2 u3 u5 u7 u8 u9 u10 u11 u12 u13 u14 u15 u16 u17 u18 u19 u20 u21 u22 u23 u24 u25 u26 u27 u28 u29 u30 u31 u32 u33 u34 u35 u36 u37 u38 u39 u40 u41 u42 u43 u44 u45 u46 u47 u48 u49 u50 u51 u52 u53 u54 u55 u56 u57 u58 u59 u60 u61 u62 : Value} (hc : isR7 c) (hD : EV 79 w DB [.int .u8 s0, .int .i64 s1, .int .i64 s2, .int .i64 s3, .int .i64 s4, .int .i64 s5, .int .i64 s6, .int .i64 s7]) (hK : EV 79 w KB [x0, x1, x2, x3, x4, x5, x6, x7])
    (hQ : ∀ v62, Q .normal { tmps := #[u0, u1, u2, u3, .pointer (some ⟨KB, 0, none⟩), u5, .pointer (some ⟨DB, 0, none⟩), u7, u8, u9, u10, u11, u12, u13, u14, u15, u16, u17, u18, u19, u20, u21, u22, u23, u24, u25, u26, u27, u28, u29, u30, u31, u32, u33, u34, u35, u36, u37, u38, u39, u40, u41, u42, u43, u44, u45, u46, u47, u48, u49, u50, u51, u52, u53, u54, u55, u56, u57, u58, u59, u60, u61, v62], defers := [] } (set8 w KB (.int .u8 s0) (.int .i64 s1) (.int .i64 s2) (.int .i64 s3) (.int .i64 s4) (.int .i64 s5) (.int .i64 s6) (.int .i64 s7))) :
    Code.wp Tryz.prog c Q { tmps := #[u0, u1, u2, u3, .pointer (some ⟨KB, 0, none⟩), u5, .pointer (some ⟨DB, 0, none⟩), u7, u8, u9, u10, u11, u12, u13, u14, u15, u16, u17, u18, u19, u20, u21, u22, u23, u24, u25, u26, u27, u28, u29, u30, u31, u32, u33, u34, u35, u36, u37, u38, u39, u40, u41, u42, u43, u44, u45, u46, u47, u48, u49, u50, u51, u52, u53, u54, u55, u56, u57, u58, u59, u60, u61, u62], defers := [] } w := by
  simp only [isR7, cR, cI, Tryz.f38, Option.getD_some] at hc
  subst hc
  have d0 := hD.cell (i := 0) rfl
  have d1 := hD.cell (i := 1) rfl
  have d2 := hD.cell (i := 2) rfl
  have d3 := hD.cell (i := 3) rfl
  have d4 := hD.cell (i := 4) rfl
  have d5 := hD.cell (i := 5) rfl
  have d6 := hD.cell (i := 6) rfl
  have d7 := hD.cell (i := 7) rfl
  have k0 := hK.cell (i := 0) rfl
  have k1 := hK.cell (i := 1) rfl
  have k2 := hK.cell (i := 2) rfl
  have k3 := hK.cell (i := 3) rfl
  have k4 := hK.cell (i := 4) rfl
  have k5 := hK.cell (i := 5) rfl
  have k6 := hK.cell (i := 6) rfl
  have k7 := hK.cell (i := 7) rfl
  have g0 := hK.free 0
  have g1 := hK.free 1
  have g2 := hK.free 2
  have g3 := hK.free 3
  have g4 := hK.free 4
  have g5 := hK.free 5
  have g6 := hK.free 6
  have g7 := hK.free 7
  have HQ := Lib.hid hQ
  clear hD hK hQ
  go_wp2
  exact HQ.out _
set_option maxRecDepth 100000 in
set_option maxHeartbeats 6400000 in
theorem r5_any {u1 u2 u3 u5 u7 u8 u9 u10 u11 u12 u13 u14 u15 u16 u17 u18 u19 u20 u21 u22 u23 u24 u25 u26 u27 u28 u29 u30 u31 u32 u33 u34 u35 u36 u37 u38 u39 u40 u41 u42 u43 u44 u45 u46 u47 u48 u49 u50 u51 u52 u53 u54 u55 u56 u57 u58 u59 u60 u61 u62 : Value} (hc : isR5 c) (hD : EV 79 X DB [x0, x1, x2, x3, x4, x5, x6, x7]) (hF : X.cell? ⟨q, 0, none⟩ = some (.pointer (some ⟨B, 0, none⟩)) ∧ X.cell? ⟨B, 5, none⟩ = some (.slice (some ⟨kb, 0, none⟩) m cap) ∧ X.cell? ⟨KB, 2, none⟩ = some (.int .i64 (r : Nat)) ∧ X.cell? ⟨KB, 1, none⟩ = some (.int .i64 l) ∧ X.cell? ⟨kb, r * 8, none⟩ = some (.int .u8 s0) ∧ X.cell? ⟨kb, r * 8 + 1, none⟩ = some (.int .i64 s1) ∧ X.cell? ⟨kb, r * 8 + 2, none⟩ = some (.int .i64 s2) ∧ X.cell? ⟨kb, r * 8 + 3, none⟩ = some (.int .i64 s3) ∧ X.cell? ⟨kb, r * 8 + 4, none⟩ = some (.int .i64 s4) ∧ X.cell? ⟨kb, r * 8 + 5, none⟩ = some (.int .i64 s5) ∧ X.cell? ⟨kb, r * 8 + 6, none⟩ = some (.int .i64 s6) ∧ X.cell? ⟨kb, r * 8 + 7, none⟩ = some (.int .i64 s7)) (hn : DB ≠ q ∧ DB ≠ B ∧ DB ≠ KB ∧ DB ≠ kb) (hr : r < m)
    (hQ : ∀ v44 v45 v46 v47 v48 v49 v50 v51 v52 v53 v54 v55 v56 v57 v58, Q .normal { tmps := #[.pointer (some ⟨q, 0, none⟩), u1, u2, u3, .pointer (some ⟨KB, 0, none⟩), u5, .pointer (some ⟨DB, 0, none⟩), .int .i64 l, u8, u9, u10, u11, u12, u13, u14, u15, u16, u17, u18, u19, u20, u21, u22, u23, u24, u25, u26, u27, u28, u29, u30, u31, u32, u33, u34, u35, u36, u37, u38, u39, u40, u41, u42, u43, v44, v45, v46, v47, v48, v49, v50, v51, v52, v53, v54, v55, v56, v57, v58, u59, u60, u61, u62], defers := [] } (set8 X DB (.int .u8 s0) (.int .i64 s1) (.int .i64 s2) (.int .i64 s3) (.int .i64 s4) (.int .i64 s5) (.int .i64 s6) (.int .i64 s7)).drew) :
    Code.wp Tryz.prog c Q { tmps := #[.pointer (some ⟨q, 0, none⟩), u1, u2, u3, .pointer (some ⟨KB, 0, none⟩), u5, .pointer (some ⟨DB, 0, none⟩), u7, u8, u9, u10, u11, u12, u13, u14, u15, u16, u17, u18, u19, u20, u21, u22, u23, u24, u25, u26, u27, u28, u29, u30, u31, u32, u33, u34, u35, u36, u37, u38, u39, u40, u41, u42, u43, u44, u45, u46, u47, u48, u49, u50, u51, u52, u53, u54, u55, u56, u57, u58, u59, u60, u61, u62], defers := [] } X := by
  simp only [isR5, cR, cL, cI, Tryz.f38, Option.getD_some] at hc
  subst hc
  have HKS : Hid (∀ w', Off [DB] X w' → w'.cell? ⟨q, 0, none⟩ = some (.pointer (some ⟨B, 0, none⟩)) ∧ w'.cell? ⟨B, 5, none⟩ = some (.slice (some ⟨kb, 0, none⟩) m cap) ∧ w'.cell? ⟨KB, 2, none⟩ = some (.int .i64 (r : Nat)) ∧ w'.cell? ⟨KB, 1, none⟩ = some (.int .i64 l) ∧ w'.cell? ⟨kb, r * 8, none⟩ = some (.int .u8 s0) ∧ w'.cell? ⟨kb, r * 8 + 1, none⟩ = some (.int .i64 s1) ∧ w'.cell? ⟨kb, r * 8 + 2, none⟩ = some (.int .i64 s2) ∧ w'.cell? ⟨kb, r * 8 + 3, none⟩ = some (.int .i64 s3) ∧ w'.cell? ⟨kb, r * 8 + 4, none⟩ = some (.int .i64 s4) ∧ w'.cell? ⟨kb, r * 8 + 5, none⟩ = some (.int .i64 s5) ∧ w'.cell? ⟨kb, r * 8 + 6, none⟩ = some (.int .i64 s6) ∧ w'.cell? ⟨kb, r * 8 + 7, none⟩ = some (.int .i64 s7)) := Lib.hid (fun w' o => by
    obtain ⟨n1, n2, n3, n4⟩ := hn
    obtain ⟨f0, f1, f2, f3, f4, f5, f6, f7, f8, f9, f10, f11⟩ := hF
    refine ⟨?_, ?_, ?_, ?_, ?_, ?_, ?_, ?_, ?_, ?_, ?_, ?_⟩ <;> refine Off.cell o (by assumption) ?_ <;> simp <;> omega)
  have HXD := HKS.out X.drew ((Off.refl [DB] X).drew)
  obtain ⟨f0, f1, f2, f3, f4, f5, f6, f7, f8, f9, f10, f11⟩ := HXD
  have e0 := hD.cell (i := 0) rfl
  have e1 := hD.cell (i := 1) rfl
  have e2 := hD.cell (i := 2) rfl
  have e3 := hD.cell (i := 3) rfl
  have e4 := hD.cell (i := 4) rfl
  have e5 := hD.cell (i := 5) rfl
  have e6 := hD.cell (i := 6) rfl
  have e7 := hD.cell (i := 7) rfl
  have g0 := hD.free 0
  have g1 := hD.free 1
  have g2 := hD.free 2
  have g3 := hD.free 3
  have g4 := hD.free 4
  have g5 := hD.free 5
  have g6 := hD.free 6
  have g7 := hD.free 7
  have HXS : Hid (X.drew.cell? ⟨q, 0, none⟩ = some (.pointer (some ⟨B, 0, none⟩)) ∧ X.drew.cell? ⟨B, 5, none⟩ = some (.slice (some ⟨kb, 0, none⟩) m cap) ∧ X.drew.cell? ⟨KB, 2, none⟩ = some (.int .i64 (r : Nat)) ∧ X.drew.cell? ⟨KB, 1, none⟩ = some (.int .i64 l) ∧ X.drew.cell? ⟨kb, r * 8, none⟩ = some (.int .u8 s0) ∧ X.drew.cell? ⟨kb, r * 8 + 1, none⟩ = some (.int .i64 s1) ∧ X.drew.cell? ⟨kb, r * 8 + 2, none⟩ = some (.int .i64 s2) ∧ X.drew.cell? ⟨kb, r * 8 + 3, none⟩ = some (.int .i64 s3) ∧ X.drew.cell? ⟨kb, r * 8 + 4, none⟩ = some (.int .i64 s4) ∧ X.drew.cell? ⟨kb, r * 8 + 5, none⟩ = some (.int .i64 s5) ∧ X.drew.cell? ⟨kb, r * 8 + 6, none⟩ = some (.int .i64 s6) ∧ X.drew.cell? ⟨kb, r * 8 + 7, none⟩ = some (.int .i64 s7)) := Lib.hid ⟨f0, f1, f2, f3, f4, f5, f6, f7, f8, f9, f10, f11⟩
  have HQ := Lib.hid hQ
  clear hD hn hQ f0 f1 f2 f3 f4 f5 f6 f7 f8 f9 f10 f11 hF
  go_region_held3 (fun w' => w'.cell? ⟨q, 0, none⟩ = some (.pointer (some ⟨B, 0, none⟩)) ∧ w'.cell? ⟨B, 5, none⟩ = some (.slice (some ⟨kb, 0, none⟩) m cap) ∧ w'.cell? ⟨KB, 2, none⟩ = some (.int .i64 (r : Nat)) ∧ w'.cell? ⟨KB, 1, none⟩ = some (.int .i64 l) ∧ w'.cell? ⟨kb, r * 8, none⟩ = some (.int .u8 s0) ∧ w'.cell? ⟨kb, r * 8 + 1, none⟩ = some (.int .i64 s1) ∧ w'.cell? ⟨kb, r * 8 + 2, none⟩ = some (.int .i64 s2) ∧ w'.cell? ⟨kb, r * 8 + 3, none⟩ = some (.int .i64 s3) ∧ w'.cell? ⟨kb, r * 8 + 4, none⟩ = some (.int .i64 s4) ∧ w'.cell? ⟨kb, r * 8 + 5, none⟩ = some (.int .i64 s5) ∧ w'.cell? ⟨kb, r * 8 + 6, none⟩ = some (.int .i64 s6) ∧ w'.cell? ⟨kb, r * 8 + 7, none⟩ = some (.int .i64 s7)) (first | with_reducible exact HXS.out | exact HKS.out _ (set8_off (W := X) (b := DB)).drew) (first | fail)
  exact HQ.out _ _ _ _ _ _ _ _ _ _ _ _ _ _ _
end
end Go.Proofs.YtldmajifkmcdcaaGreat.Lv
