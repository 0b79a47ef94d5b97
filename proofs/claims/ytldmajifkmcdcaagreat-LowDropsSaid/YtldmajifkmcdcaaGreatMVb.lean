/-
  A tree of lowest points in memory: its nodes, the row, the Ys; made, Len. No condition but those typed at each theorem.
-/
import Derived.Test.YtldmajifkmcdcaaGreatMVa
import Derived.Test.YtldmajifkmcdcaaGreatMN
import Derived.Test.YtldmajifkmcdcaaGreatMBa
import Derived.Test.YtldmajifkmcdcaaGreatMO
import Derived.Test.YtldmajifkmcdcaaGreatMQ
import Derived.BigRegion
namespace Go.Proofs.YtldmajifkmcdcaaGreat.Lv
open Go.RowKit Go.Sort Bd
open Hp (upG upG_at upG_ne)
/-- what a node has of its lowest point: its place, or that there is none -/
def bi (RX : List S3) : Option S3 → Int
  | none => -1
  | some s => (RX.idxOf s : Nat)
def bv (RX : List S3) (o : Option S3) : Value := .int .i64 (bi RX o)
/-- a node's cells, then what it has -/
def kl (n : Nd) (v : Value) : List Value := nvs n ++ [v]
/-- the cells from a node's place on -/
def KlAt (KV : List Value) (k : Nat) (vs : List Value) : Prop := ∀ q v, vs[q]? = some v → KV[k * 8 + q]? = some v
/-- the first m nodes over the leaves of RX, and the lowest point of each -/
structure KlM (w : World) (kb cap m : Nat) (RX : List S3) (g : Nat → Option S3) : Prop where
  ev : ∃ KV, EV 79 w kb KV ∧ KV.length = cap * 8 ∧ ∀ k nd, k < m → (ndN RX.length)[k]? = some nd → KlAt KV k (kl nd (bv RX (g k)))
  room : m ≤ cap ∧ cap ≤ maxLen ∧ m ≤ 2 * RX.length - 1
  inn : ∀ k s, k < m → g k = some s → s ∈ RX
section
variable {w w' : World} {kb cap m : Nat} {RX : List S3} {g : Nat → Option S3}
theorem KlM.ty (h : KlM w kb cap m RX g) : ∃ c, w.heap[kb]? = some (.cells c 79 (0, 0)) := by
  obtain ⟨KV, e, -⟩ := h.ev
  exact ⟨_, e⟩
theorem KlM.lt (h : KlM w kb cap m RX g) : kb < w.heap.size := by
  obtain ⟨KV, e, -⟩ := h.ev
  exact e.lt
theorem KlM.free (h : KlM w kb cap m RX g) (i : Nat) : w.frozen? ⟨kb, i, none⟩ = false := by
  obtain ⟨KV, e, -⟩ := h.ev
  exact e.free i
theorem KlM.nd (h : KlM w kb cap m RX g) {k : Nat} {nd : Nd} (hk : k < m) (e : (ndN RX.length)[k]? = some nd) : N1 w kb (k * 8) nd := by
  obtain ⟨KV, hE, -, hK⟩ := h.ev
  have hK := hK k nd hk e
  exact ⟨hE.cell (hK 0 _ rfl), hE.cell (hK 1 _ rfl), hE.cell (hK 2 _ rfl), hE.cell (hK 3 _ rfl), hE.cell (hK 4 _ rfl), hE.cell (hK 5 _ rfl), hE.cell (hK 6 _ rfl)⟩
theorem KlM.at (h : KlM w kb cap m RX g) {k : Nat} (hk : k < m) : ∃ nd, (ndN RX.length)[k]? = some nd := ⟨_, List.getElem?_eq_getElem (by rw [ndN_len]; have := h.room; omega)⟩
theorem KlM.hc (h : KlM w kb cap m RX g) {k : Nat} (hk : k < m) : w.cell? ⟨kb, k * 8 + 7, none⟩ = some (bv RX (g k)) := by
  obtain ⟨nd, e⟩ := h.at hk
  obtain ⟨KV, hE, -, hK⟩ := h.ev
  exact hE.cell (hK k nd hk e 7 _ rfl)
theorem KlM.off (h : KlM w kb cap m RX g) {S : List Nat} (o : Off S w w') (h1 : kb ∉ S) : KlM w' kb cap m RX g := by
  obtain ⟨KV, hE, hl, hK⟩ := h.ev
  exact ⟨⟨KV, hE.off o h1, hl, hK⟩, h.room, h.inn⟩
theorem KlM.keep (h : KlM w kb cap m RX g) (o : Below w.heap.size w w') : KlM w' kb cap m RX g := h.off (Off.of (S := []) o (Nat.le_refl _)) (by simp)
/-- a node has another one -/
theorem KlM.up (h : KlM w kb cap m RX g) {k : Nat} {o : Option S3} (hk : k < m) (ho : ∀ s, o = some s → s ∈ RX) : KlM (w.setCell ⟨kb, k * 8 + 7, none⟩ (bv RX o)) kb cap m RX (upG g k o) := by
  obtain ⟨KV, hE, hl, hK⟩ := h.ev
  refine ⟨⟨_, hE.set (k * 8 + 7) _, by rw [List.length_set]; exact hl, fun j nd hj e q v hv => ?_⟩, h.room, fun j s hj e => ?_⟩
  · have hq : q < 8 := by
      have := (List.getElem?_eq_some_iff.1 hv).1
      simpa [kl, nvs] using this
    by_cases hjk : j = k
    · subst hjk
      rw [upG_at] at hv
      by_cases hq7 : q = 7
      · subst hq7
        have hl := (List.getElem?_eq_some_iff.1 (hK j nd hj e 7 _ rfl)).1
        rw [List.getElem?_set_self hl]
        exact hv
      · rw [List.getElem?_set_ne (by omega)]
        refine hK j nd hj e q v ?_
        rw [← hv]
        unfold kl
        rw [List.getElem?_append_left (by simp [nvs]; omega), List.getElem?_append_left (by simp [nvs]; omega)]
    · rw [upG_ne hjk] at hv
      rw [List.getElem?_set_ne (by omega)]
      exact hK j nd hj e q v hv
  · by_cases hjk : j = k
    · subst hjk
      rw [upG_at] at e
      exact ho s e
    · rw [upG_ne hjk] at e
      exact h.inn j s hj e
/-- the nodes as a row of one's own -/
theorem KlM.own (h : KlM w kb cap m RX g) {base : Nat} (hb : base ≤ kb) : ∃ xs, w.ownsRow base 79 8 (.slice (some ⟨kb, 0, none⟩) m cap) m xs ∧ ∀ k nd, k < m → (ndN RX.length)[k]? = some nd → KlAt xs k (kl nd (bv RX (g k))) := by
  obtain ⟨KV, hE, hl, hK⟩ := h.ev
  have hr := h.room
  refine ⟨KV.take (m * 8), ⟨by rw [List.length_take]; omega, .inr ⟨kb, cap, _, rfl, hb, hE, hr.1, hr.2.1, by simpa using hl, rfl⟩⟩, fun k nd hk e q v hv => ?_⟩
  have hq : q < 8 := by
    have := (List.getElem?_eq_some_iff.1 hv).1
    simpa [kl, nvs] using this
  rw [List.getElem?_take, if_pos (by omega)]
  exact hK k nd hk e q v hv
end
/-- where a tree lies -/
structure LoP where
  B : Nat
  F : Nat
  kb : Nat
  rva : Value
  rvn : Value
  ys : Value
  kv : Value
/-- the points that a tree was built of -/
structure LoS (w : World) (P : LoP) (RX : List S3) (c : Int) : Prop where
  ev : EV 68 w P.B [.pointer (some ⟨P.B, 0, none⟩), P.rva, P.rvn, P.ys, .pointer (some ⟨P.F, 0, none⟩), P.kv, .int .i64 c]
  row : OrR w kx RX P.rva P.rvn
  yr : w.ownsRow 0 2 1 P.ys RX.length ((RX.map ky).map (Value.int .i64))
  ord : Ord kx RX
  few : RX.length ≤ 400
/-- the blocks of the row -/
def rblk (P : LoP) : List Nat := P.rva.ownBlock.toList ++ (P.rvn.ownBlock.toList ++ P.ys.ownBlock.toList)
/-- the blocks of a tree -/
def lblk (P : LoP) : List Nat := P.B :: P.F :: P.kb :: rblk P
section
variable {w w' : World} {P : LoP} {RX A : List S3} {c : Int}
theorem mem_rblk {k : Nat} : k ∈ rblk P ↔ P.rva.ownBlock = some k ∨ P.rvn.ownBlock = some k ∨ P.ys.ownBlock = some k := by
  simp only [rblk, List.mem_append, Option.mem_toList]
theorem LoS.off (h : LoS w P RX c) {S : List Nat} (o : Off S w w') (h1 : P.B ∉ S) (h2 : ∀ k ∈ rblk P, k ∉ S) : LoS w' P RX c :=
  ⟨h.ev.off o h1, h.row.off o (fun k hk => h2 k (mem_rblk.2 (.inl hk))) (fun k hk => h2 k (mem_rblk.2 (.inr (.inl hk)))), row_offS h.yr o (fun k hk => h2 k (mem_rblk.2 (.inr (.inr hk)))), h.ord, h.few⟩
theorem LoS.keep (h : LoS w P RX c) (o : Below w.heap.size w w') : LoS w' P RX c := h.off (Off.of (S := []) o (Nat.le_refl _)) (by simp) (by simp)
theorem LoS.lies (h : LoS w P RX c) : ∀ k ∈ rblk P, k < w.heap.size := fun k hk => by
  rcases mem_rblk.1 hk with e | e | e
  · exact (row_lt h.row.ra e).2
  · exact (row_lt h.row.rn e).2
  · exact (row_lt h.yr e).2
/-- a block of another kind is none of these -/
theorem LoS.far (h : LoS w P RX c) {x : Nat} {cs : Array Value} {t : TypeId} (hx : w.heap[x]? = some (.cells cs t (0, 0))) (h1 : t ≠ 68) (h3 : t ≠ 2) (h4 : t ≠ 32) : x ≠ P.B ∧ ∀ k ∈ rblk P, x ≠ k := by
  refine ⟨types_ne hx h.ev h1, fun k hk => ?_⟩
  rcases mem_rblk.1 hk with e | e | e
  · obtain ⟨cc, e⟩ := row_type h.row.ra e
    exact types_ne hx e h3
  · obtain ⟨cc, e⟩ := row_type h.row.rn e
    exact types_ne hx e h4
  · obtain ⟨cc, e⟩ := row_type h.yr e
    exact types_ne hx e h3
theorem LoS.nodup (h : LoS w P RX c) : RX.Nodup := h.ord.nodup
/-- a tree: built of the points RX (by X), of which those of A are there -/
structure LoM (w : World) (P : LoP) (RX A : List S3) : Prop where
  s : LoS w P RX A.length
  fr : ∃ d pp, FR w P.F RX.length d pp
  kn : RX.length ≠ 0 → ∃ cap g, P.kv = .slice (some ⟨P.kb, 0, none⟩) (2 * RX.length - 1) cap ∧ KlM w P.kb cap (2 * RX.length - 1) RX g ∧ LwI RX A g (2 * RX.length - 1)
  z0 : RX.length = 0 → P.kb = P.B
  wf : ∀ s ∈ RX, Wf3 s
  sub : ∀ s ∈ A, s ∈ RX
  rga : Rg A
theorem LoM.off (h : LoM w P RX A) {S : List Nat} (o : Off S w w') (hS : ∀ k ∈ lblk P, k ∉ S) : LoM w' P RX A := by
  obtain ⟨d, pp, hF⟩ := h.fr
  refine ⟨h.s.off o (hS _ (by simp [lblk])) (fun k hk => hS k (by simp [lblk, hk])), ⟨d, pp, hF.block (o.block _ hF.lt (hS _ (by simp [lblk])))⟩, fun h0 => ?_, h.z0, h.wf, h.sub, h.rga⟩
  obtain ⟨cap, g, h1, h2, h3⟩ := h.kn h0
  exact ⟨cap, g, h1, h2.off o (hS _ (by simp [lblk])), h3⟩
theorem LoM.keep (h : LoM w P RX A) (o : Below w.heap.size w w') : LoM w' P RX A := h.off (Off.of (S := []) o (Nat.le_refl _)) (by simp)
theorem LoM.lies (h : LoM w P RX A) : ∀ k ∈ lblk P, k < w.heap.size := by
  intro k hk
  obtain ⟨d, pp, hF⟩ := h.fr
  simp only [lblk, List.mem_cons] at hk
  rcases hk with rfl | rfl | rfl | hk
  · exact h.s.ev.lt
  · exact hF.lt
  · by_cases h0 : RX.length = 0
    · rw [h.z0 h0]; exact h.s.ev.lt
    · obtain ⟨cap, g, h1, h2, h3⟩ := h.kn h0
      exact h2.lt
  · exact h.s.lies k hk
theorem LoM.le (h : LoM w P RX A) : A.length ≤ RX.length := List.Nodup.length_le_of_subset h.rga.once h.sub
theorem eqSameL (a : Addr) (w : World) : (binOp .eql 25 (.pointer (some a)) (.pointer (some a))).run Tryz.prog w = .ok (.bool true) w := by
  obtain ⟨j, hj⟩ := Option.isSome_iff_exists.1 (show (Tryz.prog.info? 68).isSome = true by kernel_rfl)
  exact run_eql_ptr_same w a Tryz.underlying25 hj
set_option maxRecDepth 100000 in
theorem lmade_yes (h : LoS w P RX c) : Calls Tryz.prog 26 #[.pointer (some ⟨P.B, 0, none⟩)] w fun e w' => e = .returned (.bool true) ∧ w' = w := by
  have c0 := h.ev.cell (i := 0) rfl
  have q := @eqSameL
  clear h
  go_enter Tryz.func26, Tryz.ntmps26
  go_wp2
  go_ret
  exact ⟨rfl, rfl⟩
set_option maxRecDepth 100000 in
theorem lmade_nil (w : World) : Calls Tryz.prog 26 #[.pointer none] w fun e w' => e = .returned (.bool false) ∧ w' = w := by
  go_enter Tryz.func26, Tryz.ntmps26
  go_wp2
  go_ret
  exact ⟨rfl, rfl⟩
set_option maxRecDepth 100000 in
theorem llen_any (h : LoM w P RX A) : Calls Tryz.prog 12 #[.pointer (some ⟨P.B, 0, none⟩)] w fun e w' => e = .returned (.int .i64 A.length) ∧ Below w.heap.size w w' := by
  have HM := Lib.hid (lmade_yes h.s)
  have c5 := h.s.ev.cell (i := 6) rfl
  clear h
  go_enter Tryz.func12, Tryz.ntmps12
  go_wp2_with (go_at_call 26; (with_reducible refine HM.out.mono ?_); rintro e wM ⟨rfl, hM⟩; subst wM)
  go_ret
  exact ⟨rfl, Below.refl _ _⟩
theorem llen_nil (w : World) : Calls Tryz.prog 12 #[.pointer none] w fun e w' => e = .returned (.int .i64 0) ∧ Below w.heap.size w w' := by
  have HM := Lib.hid (lmade_nil w)
  go_enter Tryz.func12, Tryz.ntmps12
  go_wp2_with (go_at_call 26; (with_reducible refine HM.out.mono ?_); rintro e wM ⟨rfl, hM⟩; subst wM)
  go_ret
  exact ⟨rfl, Below.refl _ _⟩
end
end Go.Proofs.YtldmajifkmcdcaaGreat.Lv
/-
  The point at a place, which of two is the lower one, a node's choice. No condition but those typed at each theorem.
-/
namespace Go.Proofs.YtldmajifkmcdcaaGreat.Lv
open Go.RowKit Go.Sort Bd
open Hp (upG upG_at upG_ne)
section
variable {w : World} {P : LoP} {RX : List S3} {c : Int}
set_option maxRecDepth 100000 in
set_option maxHeartbeats 1600000 in
theorem point_any (h : LoS w P RX c) {i : Nat} {s : S3} (e : RX[i]? = some s) :
    Calls Tryz.prog 37 #[.pointer (some ⟨P.B, 0, none⟩), .int .i64 i] w fun e w' => e = .returned (tv s) ∧ Below w.heap.size w w' := by
  obtain ⟨pa, ca, hva, hna, -⟩ := h.row.ks
  obtain ⟨pn, cn, hvn, hnn, -⟩ := h.row.ns
  obtain ⟨-, py, cy, hvy, hny, -⟩ := row_u h.yr
  have c1 := h.ev.cell (i := 1) rfl
  have c2 := h.ev.cell (i := 2) rfl
  have c3 := h.ev.cell (i := 3) rfl
  rw [hva] at c1
  rw [hvn] at c2
  rw [hvy] at c3
  have hi := (List.getElem?_eq_some_iff.1 e).1
  have hf := h.few
  have ea : (RX.map kx)[i]? = some s.1 := by rw [List.getElem?_map, e]; rfl
  have en : (RX.map (·.2.2))[i]? = some s.2.2 := by rw [List.getElem?_map, e]; rfl
  have ey : (RX.map ky)[i]? = some s.2.1 := by rw [List.getElem?_map, e]; rfl
  rcases hna with h0 | ⟨ga, oa, rfl, h1⟩
  · rw [h0] at ea; cases ea
  rcases hnn with h0 | ⟨gn, on, rfl, h2⟩
  · rw [h0] at en; cases en
  rcases hny with h0 | ⟨gy, oy, rfl, h3⟩
  · rw [h0] at ey; cases ey
  have a0 := h1 i _ ea
  have n0 := h2 i _ en
  have y0 := h3 i _ ey
  obtain ⟨x, y, id⟩ := s
  unfold tv
  simp only at a0 n0 y0 ⊢
  obtain ⟨n, hn⟩ : ∃ n, n = RX.length := ⟨_, rfl⟩
  rw [← hn] at c1 c2 c3 hi hf
  generalize P.B = B at *
  clear h hva hvn hvy e h1 h2 h3 ea en ey hn
  go_enter Tryz.func37, Tryz.ntmps37
  obtain ⟨Y, hY⟩ : ∃ Y, Y = w.alloc (.cells #[.int .i64 0, .int .i64 0, .int .u32 0] 34) := ⟨_, rfl⟩
  have hYB : Below w.heap.size w Y := hY ▸ (Below.refl _ w).alloc (Nat.le_refl _) _
  have hE : EV 34 Y w.heap.size [.int .i64 0, .int .i64 0, .int .u32 0] := hY ▸ heap_alloc_new w _
  go_upto_region 1 with fail
  rw [← hY]
  clear hY
  have d1 := (hYB.cell (World.block_lt_of_cell? _ _ c1)).trans c1
  have d2 := (hYB.cell (World.block_lt_of_cell? _ _ c2)).trans c2
  have d3 := (hYB.cell (World.block_lt_of_cell? _ _ c3)).trans c3
  have da := (hYB.cell (World.block_lt_of_cell? _ _ a0)).trans a0
  have dn := (hYB.cell (World.block_lt_of_cell? _ _ n0)).trans n0
  have dy := (hYB.cell (World.block_lt_of_cell? _ _ y0)).trans y0
  have f0 := hE.free 0
  have f1 := hE.free 1
  have f2 := hE.free 2
  have k0 := hE.cell (i := 0) rfl
  have k1 := hE.cell (i := 1) rfl
  have k2 := hE.cell (i := 2) rfl
  have HY := Lib.hid hYB
  have HE := Lib.hid hE
  clear c1 c2 c3 a0 n0 y0 hYB hE
  go_region
  obtain ⟨Z, hZ⟩ : ∃ Z, Z = (((Y.setCell ⟨w.heap.size, 0, none⟩ (.int .i64 x)).setCell ⟨w.heap.size, 1, none⟩ (.int .i64 y)).setCell ⟨w.heap.size, 2, none⟩ (.int .u32 id)).drew := ⟨_, rfl⟩
  rw [← hZ]
  have hEZ : EV 34 Z w.heap.size [.int .i64 x, .int .i64 y, .int .u32 id] := hZ ▸ ((HE.out.set 0 _).set 1 _).set 2 _
  have HB : Hid (Below w.heap.size w Z) := Lib.hid (hZ ▸ (((HY.out.setCell (Nat.le_refl _) _).setCell (Nat.le_refl _) _).setCell (Nat.le_refl _) _).drew)
  have z0 := hEZ.cell (i := 0) rfl
  have z1 := hEZ.cell (i := 1) rfl
  have z2 := hEZ.cell (i := 2) rfl
  clear hZ hEZ d1 d2 d3 da dn dy f0 f1 f2 k0 k1 k2 HE
  go_wp2
  refine bodyPost_ret (v := .agg #[.int .i64 x, .int .i64 y, .int .u32 id]) ?_ rfl ⟨rfl, HB.out⟩
  simp [results, Tryz.f37, go_sem, z0, z1, z2]
set_option maxRecDepth 100000 in
set_option maxHeartbeats 1600000 in
/-- is the one the lower one? -/
theorem islower_any (h : LoS w P RX c) {s t : S3} (hs : s ∈ RX) (ht : t ∈ RX) :
    Calls Tryz.prog 90 #[.pointer (some ⟨P.B, 0, none⟩), .int .i64 (RX.idxOf s : Nat), .int .i64 (RX.idxOf t : Nat)] w fun e w' => e = .returned (.bool (Lw.ltL s t)) ∧ Below w.heap.size w w' := by
  have HP := Lib.hid (fun X (hb : Below w.heap.size w X) => point_any (h.keep hb) (at_idx hs))
  have HQ := Lib.hid (fun X (hb : Below w.heap.size w X) => point_any (h.keep hb) (at_idx ht))
  have HC := Lib.hid (fun X => Ln.cY_any s t X)
  have HL : Hid (decide (Ln.cY s t < 0) = Lw.ltL s t) := Lib.hid (by
    unfold Lw.ltL
    exact decide_eq_decide.2 Ln.cY_neg)
  generalize RX.idxOf s = i at *
  generalize RX.idxOf t = j at *
  generalize Lw.ltL s t = y at *
  generalize Ln.cY s t = cc at *
  generalize tv s = vs at *
  generalize tv t = vt at *
  generalize P.B = B at *
  clear h hs ht
  go_enter Tryz.func90, Tryz.ntmps90
  go_wp2_with (first
    | (go_at_call 37; (with_reducible refine (HP.out _ (Below.refl _ _)).mono ?_); rintro e w1 ⟨rfl, hb⟩; have HB1 := Lib.hid hb; clear hb)
    | (go_at_call 37; (with_reducible refine (HQ.out _ HB1.out).mono ?_); rintro e w2 ⟨rfl, hb⟩; have HB2 := Lib.hid (HB1.out.trans (hb.mono HB1.out.size)); clear hb)
    | (go_at_call 68; (with_reducible refine (HC.out _).mono ?_); rintro e w3 ⟨rfl, hb⟩; have HB3 := Lib.hid (HB2.out.trans (hb.below.mono HB2.out.size)); clear hb))
  go_ret
  exact ⟨by rw [← HL.out]; rfl, HB3.out⟩
set_option maxRecDepth 100000 in
set_option maxHeartbeats 1600000 in
/-- the lower one of two -/
theorem lower_any (h : LoS w P RX c) (o p : Option S3) (ho : ∀ s, o = some s → s ∈ RX) (hp : ∀ s, p = some s → s ∈ RX) :
    Calls Tryz.prog 59 #[.pointer (some ⟨P.B, 0, none⟩), bv RX o, bv RX p] w fun e w' => e = .returned (bv RX (lwr o p)) ∧ Below w.heap.size w w' := by
  cases p with
  | none =>
    rw [show lwr o none = o by cases o <;> rfl]
    cases o with
    | none =>
      unfold bv bi
      simp only
      clear h ho hp
      generalize P.B = B at *
      go_enter Tryz.func59, Tryz.ntmps59
      go_wp2
      go_ret
      exact ⟨rfl, Below.refl _ _⟩
    | some s =>
      unfold bv bi
      simp only
      clear h ho hp
      generalize P.B = B at *
      generalize RX.idxOf s = i at *
      go_enter Tryz.func59, Tryz.ntmps59
      go_wp2
      go_ret
      exact ⟨rfl, Below.refl _ _⟩
  | some t =>
    have hq : ((RX.idxOf t : Nat) : Int) ≠ -1 := by omega
    have hqb : (((RX.idxOf t : Nat) : Int) == -1) = false := by rw [beq_eq_false_iff_ne]; exact hq
    cases o with
    | none =>
      rw [show lwr none (some t) = some t from rfl]
      unfold bv bi
      simp only
      clear h ho hp
      generalize P.B = B at *
      generalize RX.idxOf t = j at *
      go_enter Tryz.func59, Tryz.ntmps59
      go_wp2
      go_ret
      exact ⟨rfl, Below.refl _ _⟩
    | some s =>
      have hp0 : ((RX.idxOf s : Nat) : Int) ≠ -1 := by omega
      have hpb : (((RX.idxOf s : Nat) : Int) == -1) = false := by rw [beq_eq_false_iff_ne]; exact hp0
      have HI := Lib.hid (islower_any h (ho s rfl) (hp t rfl))
      cases hy : Lw.ltL s t with
      | true =>
        rw [show lwr (some s) (some t) = some s by simp [lwr, hy]]
        rw [hy] at HI
        unfold bv bi
        simp only
        clear h ho hp hy
        generalize P.B = B at *
        generalize RX.idxOf s = i at *
        generalize RX.idxOf t = j at *
        go_enter Tryz.func59, Tryz.ntmps59
        go_wp2_with (go_at_call 90; (with_reducible refine HI.out.mono ?_); rintro e w1 ⟨rfl, hb⟩; have HB1 := Lib.hid hb; clear hb)
        go_ret
        exact ⟨rfl, HB1.out⟩
      | false =>
        rw [show lwr (some s) (some t) = some t by simp [lwr, hy]]
        rw [hy] at HI
        unfold bv bi
        simp only
        clear h ho hp hy
        generalize P.B = B at *
        generalize RX.idxOf s = i at *
        generalize RX.idxOf t = j at *
        go_enter Tryz.func59, Tryz.ntmps59
        go_wp2_with (go_at_call 90; (with_reducible refine HI.out.mono ?_); rintro e w1 ⟨rfl, hb⟩; have HB1 := Lib.hid hb; clear hb)
        go_ret
        exact ⟨rfl, HB1.out⟩
set_option maxRecDepth 100000 in
set_option maxHeartbeats 3200000 in
/-- a node chooses the lower one of what its kids have -/
theorem choose_any {kb cap m : Nat} {g : Nat → Option S3} (h : LoS w P RX c) (hK : KlM w kb cap m RX g) (hkv : P.kv = .slice (some ⟨kb, 0, none⟩) m cap) {k l r : Nat} {f t : Int} (hk : k < m) (hl : l < m) (hr : r < m) (e : (ndN RX.length)[k]? = some (2, (l : Int), (r : Int), f, t, 0, 0)) :
    Calls Tryz.prog 31 #[.pointer (some ⟨P.B, 0, none⟩), .int .i64 k] w fun e w' => e = .returned (.tuple #[]) ∧ KlM w' kb cap m RX (upG g k (lwr (g l) (g r))) ∧ Off [kb] w w' := by
  have hN := hK.nd hk e
  have n1 : w.cell? ⟨kb, k * 8 + 1, none⟩ = some (.int .i64 l) := hN.c1
  have n2 : w.cell? ⟨kb, k * 8 + 2, none⟩ = some (.int .i64 r) := hN.c2
  have vl := hK.hc hl
  have vr := hK.hc hr
  have c5 := h.ev.cell (i := 5) rfl
  rw [hkv] at c5
  have HL := Lib.hid (fun X (hb : Below w.heap.size w X) => lower_any (h.keep hb) (g l) (g r) (fun s => hK.inn l s hl) (fun s => hK.inn r s hr))
  have HK := Lib.hid hK
  have HKK := Lib.hid hk
  have HIN : Hid (∀ s, lwr (g l) (g r) = some s → s ∈ RX) := Lib.hid (fun s hs => by
    cases hgl : g l with
    | none =>
      cases hgr : g r with
      | none => rw [hgl, hgr] at hs; cases hs
      | some b => rw [hgl, hgr] at hs; cases hs; exact hK.inn r _ hr hgr
    | some a =>
      cases hgr : g r with
      | none => rw [hgl, hgr] at hs; cases hs; exact hK.inn l _ hl hgl
      | some b =>
        rw [hgl, hgr] at hs
        simp only [lwr] at hs
        split at hs
        · cases hs; exact hK.inn l _ hl hgl
        · cases hs; exact hK.inn r _ hr hgr)
  have hm2 : m ≤ 1000 := by have := hK.room; have := h.few; omega
  generalize lwr (g l) (g r) = o at *
  unfold bv at HL vl vr
  generalize bi RX (g l) = vgl at *
  generalize bi RX (g r) = vgr at *
  obtain ⟨vo, hvo⟩ : ∃ vo, vo = bi RX o := ⟨_, rfl⟩
  have HVO := Lib.hid hvo
  rw [← hvo] at HL
  generalize P.B = B at *
  clear h hK hkv e hN hvo
  go_enter Tryz.func31, Tryz.ntmps31
  go_upto_region 1 with fail
  have inst : Nonempty (Wd (Bw w)) := ⟨⟨w, Below.refl _ _⟩⟩
  have b5 : ∀ z : Wd (Bw w), z.w.cell? ⟨B, 5, none⟩ = _ := fun z => Bw.cell z c5
  have b1 : ∀ z : Wd (Bw w), z.w.cell? ⟨kb, k * 8 + 1, none⟩ = _ := fun z => Bw.cell z n1
  have b2 : ∀ z : Wd (Bw w), z.w.cell? ⟨kb, k * 8 + 2, none⟩ = _ := fun z => Bw.cell z n2
  have bl : ∀ z : Wd (Bw w), z.w.cell? ⟨kb, l * 8 + 7, none⟩ = _ := fun z => Bw.cell z vl
  have br : ∀ z : Wd (Bw w), z.w.cell? ⟨kb, r * 8 + 7, none⟩ = _ := fun z => Bw.cell z vr
  have HFC := Lib.hid (fun z : Wd (Bw w) => HL.out z.w z.h)
  refine wp_region_qt (Bw w) 29 (by kernel_rfl) (by kernel_rfl) ((Below.refl _ w).drew) ?_
  simp only [List.take_succ_cons, List.take_zero, List.drop_succ_cons, List.drop_zero]
  repeat (first
    | go_big_quiet_step (first | (go_at_call 59; with_reducible exact calls_wd (fun _ _ h hb => h.keep hb) _ (HFC.out _)))
    | quiet_step (first | (go_at_call 59; with_reducible exact calls_wd (fun _ _ h hb => h.keep hb) _ (HFC.out _))))
  refine wpQuiet_nil ?_
  rintro _ ⟨z, rfl⟩
  have HB := Lib.hid (show Below w.heap.size w z.w from z.h)
  have HK2 := Lib.hid (HK.out.keep HB.out)
  have m7 := HK2.out.hc HKK.out
  have f7 := HK2.out.free (k * 8 + 7)
  generalize z.w = w1 at *
  clear b5 b1 b2 bl br inst HFC
  go_wp2
  go_end0
  have hU := HK2.out.up (o := o) HKK.out HIN.out
  unfold bv at hU
  rw [← HVO.out] at hU
  exact ⟨rfl, hU, (Off.of HB.out (Nat.le_refl _)).set _ _ (.inl (by simp))⟩
end
end Go.Proofs.YtldmajifkmcdcaaGreat.Lv
