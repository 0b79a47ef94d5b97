/-
  A tree of points in memory; the canonical nodes' lists handed down. No condition but those typed at each theorem.
-/
import Derived.Test.YtfcpfffgodljeaaGreatBp
import Derived.Test.YtfcpfffgodljeaaGreatB5
namespace Go.Proofs.YtfcpfffgodljeaaGreat.Bd
open Go.RowKit Go.Sort

/-- where a tree lies -/
structure BdP where
  B : Nat
  fb : Nat
  lb : Nat
  fd : Int
  fp : Value
  rva : Value
  rvn : Value
  lv : Value
  ls : List LsP
def Apt (p q : LsP) : Prop := ∀ x ∈ mbl p.np, x ∉ mbl q.np
/-- a tree: built of the points RX (by X; LY by Y), of which those of A are there -/
structure BdM (w : World) (P : BdP) (RX LY A : List S3) : Prop where
  ev : EV 74 w P.B [.pointer (some ⟨P.B, 0, none⟩), P.rva, P.rvn, .pointer (some ⟨P.fb, 0, none⟩), P.lv, .int .i64 A.length, .int .i64 (wts RX A : Nat)]
  row : OrR w kx RX P.rva P.rvn
  fr : FR w P.fb RX.length P.fd P.fp
  lsl : P.ls.length = 2 * RX.length - 1
  lat : P.ls ≠ [] → ∃ cap, P.lv = .slice (some ⟨P.lb, 0, none⟩) P.ls.length cap
  nod : ∀ k p, P.ls[k]? = some p → LsM w P.lb (k * 8) (SPk RX LY k) A p
  ap : P.ls.Pairwise Apt
  pl : PlI RX LY
  lbB : P.lb ≠ P.B
/-- the blocks of a list -/
def lblk (lb : Nat) (p : LsP) : List Nat := lb :: (mbl p.np ++ (p.va.ownBlock.toList ++ p.np.vn.ownBlock.toList))
/-- the blocks of a tree -/
def blks (P : BdP) : List Nat := P.B :: P.fb :: (P.rva.ownBlock.toList ++ P.rvn.ownBlock.toList ++ P.ls.flatMap (lblk P.lb))
section
variable {w w' : World} {P : BdP} {RX LY A : List S3}
theorem BdM.off (h : BdM w P RX LY A) {S : List Nat} (g : Off S w w') (hS : ∀ k ∈ blks P, k ∉ S) : BdM w' P RX LY A := by
  have h1 : P.B ∉ S := hS _ (by simp [blks])
  have h2 : P.fb ∉ S := hS _ (by simp [blks])
  refine ⟨h.ev.off g h1, h.row.off g (fun k hk => hS k (by simp [blks, hk])) (fun k hk => hS k (by simp [blks, hk])), h.fr.block (g.block _ h.fr.lt h2), h.lsl, h.lat, fun k p e => ?_, h.ap, h.pl, h.lbB⟩
  have hm : p ∈ P.ls := List.mem_of_getElem? e
  have hin : ∀ x ∈ lblk P.lb p, x ∉ S := fun x hx => hS x (by
    unfold blks
    simp only [List.mem_cons, List.mem_append, List.mem_flatMap]
    exact .inr (.inr (.inr ⟨p, hm, hx⟩)))
  exact (h.nod k p e).off g (hin _ (by simp [lblk])) (fun x hx => hin x (by simp [lblk, hx])) (fun x hx => hin x (by simp [lblk, hx])) (fun x hx => hin x (by simp [lblk, hx]))
theorem BdM.keep (h : BdM w P RX LY A) (g : Below w.heap.size w w') : BdM w' P RX LY A := h.off (Off.of (S := []) g (Nat.le_refl _)) (by simp)
theorem BdM.lies (h : BdM w P RX LY A) : ∀ k ∈ blks P, k < w.heap.size := by
  intro k hk
  unfold blks at hk
  simp only [List.mem_cons, List.mem_append, List.mem_flatMap, Option.mem_toList] at hk
  rcases hk with rfl | rfl | (hk | hk) | ⟨p, hp, hk⟩
  · exact h.ev.lt
  · exact h.fr.lt
  · exact (row_lt h.row.ra hk).2
  · exact (row_lt h.row.rn hk).2
  · obtain ⟨i, hi⟩ := List.mem_iff_getElem?.1 hp
    have hl := h.nod i p hi
    unfold lblk at hk
    simp only [List.mem_cons, List.mem_append, Option.mem_toList] at hk
    rcases hk with rfl | hk | hk | hk
    · exact World.block_lt_of_cell? _ _ hl.ca
    · exact hl.nm.lt.2.1 k hk
    · exact (row_lt hl.rows.ra hk).2
    · exact (row_lt hl.rows.rn hk).2
theorem eqSameB (a : Addr) (w : World) : (binOp .eql 25 (.pointer (some a)) (.pointer (some a))).run Tryz.prog w = .ok (.bool true) w := by
  obtain ⟨j, hj⟩ := Option.isSome_iff_exists.1 (show (Tryz.prog.info? 74).isSome = true by kernel_rfl)
  exact run_eql_ptr_same w a Tryz.underlying25 hj
set_option maxRecDepth 100000 in
theorem bmade_yes (h : BdM w P RX LY A) : Calls Tryz.prog 40 #[.pointer (some ⟨P.B, 0, none⟩)] w fun e w' => e = .returned (.bool true) ∧ w' = w := by
  have c0 := h.ev.cell (i := 0) rfl
  have q := @eqSameB
  clear h
  go_enter Tryz.func40, Tryz.ntmps40
  go_wp2
  go_ret
  exact ⟨rfl, rfl⟩
set_option maxRecDepth 100000 in
theorem bmade_nil (w : World) : Calls Tryz.prog 40 #[.pointer none] w fun e w' => e = .returned (.bool false) ∧ w' = w := by
  go_enter Tryz.func40, Tryz.ntmps40
  go_wp2
  go_ret
  exact ⟨rfl, rfl⟩
set_option maxRecDepth 100000 in
theorem rbox_any (w : World) (b : B5) : Calls Tryz.prog 81 #[bv b] w fun e w' => e = .returned (.bool (decide (b.1.1 ≤ b.1.2.1 ∧ b.1.2.2.1 ≤ b.1.2.2.2))) ∧ Below w.heap.size w w' := by
  obtain ⟨⟨x1, x2, y1, y2⟩, i⟩ := b
  unfold bv
  simp only
  by_cases h1 : x1 ≤ x2
  · by_cases h2 : y1 ≤ y2
    · rw [decide_eq_true (show x1 ≤ x2 ∧ y1 ≤ y2 from ⟨h1, h2⟩)]
      go_enter Tryz.func81, Tryz.ntmps81
      go_wp2
      go_ret
      exact ⟨retb (by simp), (Below.refl _ w).alloc (Nat.le_refl _) _⟩
    · rw [decide_eq_false (show ¬ (x1 ≤ x2 ∧ y1 ≤ y2) from fun c => h2 c.2)]
      go_enter Tryz.func81, Tryz.ntmps81
      go_wp2
      go_ret
      exact ⟨retb (by simp), (Below.refl _ w).alloc (Nat.le_refl _) _⟩
  · rw [decide_eq_false (show ¬ (x1 ≤ x2 ∧ y1 ≤ y2) from fun c => h1 c.1)]
    go_enter Tryz.func81, Tryz.ntmps81
    go_wp2
    go_ret
    exact ⟨rfl, (Below.refl _ w).alloc (Nat.le_refl _) _⟩
theorem sum_cap {α : Type} (f : α → Nat) (c : Nat) (h : ∀ x, f x ≤ c) : ∀ l : List α, (l.map f).sum ≤ l.length * c
  | [] => by simp
  | x :: l => by
    have h1 := h x
    have h2 := sum_cap f c h l
    rw [List.map_cons, List.sum_cons, List.length_cons, Nat.add_mul]
    omega
theorem kns_lt (h : PlI RX LY) {b : B4} (hx : b.1 ≤ b.2.1) {k : Nat} (hk : k ∈ kns RX b) : k < 2 * RX.length - 1 := by
  obtain ⟨a1, -, -⟩ := abv_parts h.ox (Nat.le_trans h.few (by decide)) b.2.1
  have hle := fst_abv h.ox (Nat.le_trans h.few (by decide)) hx
  unfold kns cnF at hk
  split at hk
  · cases hk
  · rename_i hne
    have h1 := (cn_range hk).2
    have h2 := lv_tr (m := RX.length) (by omega)
    unfold rt at h1
    rw [h2] at h1
    omega
set_option maxRecDepth 100000 in
set_option maxHeartbeats 3200000 in
theorem each_any (h : BdM w P RX LY A) (b : B5) (hx : b.1.1 ≤ b.1.2.1) (hy : b.1.2.2.1 ≤ b.1.2.2.2) (g : Nat) (lb : Array Value) (eg : ∀ args w, (callFunc g args).run Tryz.prog w = .ok (.enter g args) w) (J : Nat → World → Prop) (cost : Nat → Nat) (S0 : List Nat)
    (hJ0 : ∀ X, Below w.heap.size w X → J 0 X) (hJb : ∀ i X X', J i X → Below X.heap.size X X' → J i X') (hS0 : P.B ∉ S0) (hcost : ∀ k, cost k ≤ 30000)
    (hC : ∀ i k X, (kns RX b.1)[i]? = some k → J i X → w.heap.size ≤ X.heap.size → Calls Tryz.prog g (#[.pointer (some ⟨P.lb, k * 8, none⟩)] ++ lb) X fun e X' => e = .returned (.int .i64 (cost k : Nat)) ∧ J (i + 1) X' ∧ ∃ S, Off S X X' ∧ ∀ m ∈ S, (m < w.heap.size ∧ m ∈ S0) ∨ (w.heap.size ≤ m ∧ ∃ c, X.heap[m]? = some (.cells c 32 (0, 0)))) :
    Calls Tryz.prog 47 #[.pointer (some ⟨P.B, 0, none⟩), bv b, .func (.func g) #[] lb] w fun e w' => e = .returned (.int .i64 (hedT RX b.1 + ((kns RX b.1).map cost).sum : Nat)) ∧ J (kns RX b.1).length w' ∧ Off S0 w w' := by
  obtain ⟨hd1, hd2⟩ := head_few h.pl hx
  have HKL := Lib.hid (fun k hk => (h.lsl ▸ kns_lt (k := k) h.pl hx hk : k < P.ls.length))
  have HLAT := Lib.hid h.lat
  obtain ⟨⟨x1, x2, y1, y2⟩, bi⟩ := b
  simp only at hx hy hd1 hd2 hC HKL ⊢
  have hf : RX.length ≤ 8192 := Nat.le_trans h.pl.few (by decide)
  obtain ⟨f1, f2, -⟩ := fst_parts h.pl.ox hf x1
  obtain ⟨a1, a2, -⟩ := abv_parts h.pl.ox hf x2
  have hle := fst_abv h.pl.ox hf hx
  have hlg : lgN (RX.length + 1) ≤ 100 := Nat.le_trans (lgM (by have := h.pl.few; omega) (by omega) : lgN (RX.length + 1) ≤ lgN 401) (by decide)
  have hbt := btN_few h.pl.ox hf x1 x2
  have HM := Lib.hid (fun X (hb : Below w.heap.size w X) => bmade_yes (h.keep hb))
  have HRB : Hid (∀ X, Calls Tryz.prog 81 #[.agg #[.int .i64 x1, .int .i64 x2, .int .i64 y1, .int .i64 y2, .int .u32 bi]] X fun e w' => e = .returned (.bool true) ∧ Below X.heap.size X w') := Lib.hid (fun X => by have := rbox_any X ((x1, x2, y1, y2), bi); rw [decide_eq_true (show x1 ≤ x2 ∧ y1 ≤ y2 from ⟨hx, hy⟩)] at this; exact this)
  have HBT := Lib.hid (fun X (hb : Below w.heap.size w X) => rbetw_any (o := 1) ((h.keep hb).ev.cell (i := 1) rfl) (h.keep hb).row h.pl.ox hf x1 x2)
  have HCN := Lib.hid (fun X (hb : Below w.heap.size w X) => FCanon_any X P.fb RX.length P.fd P.fp (h.keep hb).fr (firstP (RX.map kx) x1).1 (aboveP (RX.map kx) x2).1 hle a1 (Nat.le_trans h.pl.few (by decide)))
  have e3 := h.ev.cell (i := 3) rfl
  have e4 := h.ev.cell (i := 4) rfl
  have E4 := Lib.hid e4
  have hBl := h.ev.lt
  unfold tup3 at HCN
  unfold tup4 at HBT
  unfold kns hedT at *
  simp only at hd1 hd2 hC HKL ⊢
  generalize (firstP (RX.map kx) x1).1 = i0 at *
  generalize (aboveP (RX.map kx) x2).1 = j0 at *
  generalize btN kx RX x1 x2 = bt at *
  generalize cnF RX.length i0 j0 = CN at *
  obtain ⟨ks, en⟩ := CN
  simp only at HCN hd1 hd2 hC HKL ⊢
  generalize lgN (RX.length + 1) = lg at *
  have HC := Lib.hid hC
  have HJ0 := Lib.hid hJ0
  have HJb := Lib.hid hJb
  have HS0 := Lib.hid hS0
  have HCO := Lib.hid hcost
  have hbd : bt ≤ 1000 ∧ en ≤ 1000 ∧ ks.length ≤ 200 := ⟨by omega, by omega, by omega⟩
  obtain ⟨hb1, hb3, hb4⟩ := hbd
  generalize RX.length = n at *
  clear hC hJ0 hJb hS0 hcost h hd1 hd2 f2 a2 hlg hbt
  unfold bv
  go_enter Tryz.func47, Tryz.ntmps47
  obtain ⟨W, hW⟩ : ∃ W, W = w.alloc (.cells #[.int .i64 x1, .int .i64 x2, .int .i64 y1, .int .i64 y2, .int .u32 bi] 42) := ⟨_, rfl⟩
  have hX1 : X1 W w.heap.size 0 ((x1, x2, y1, y2), bi) := hW ▸ X1.new w ((x1, x2, y1, y2), bi) _
  have hWB : Below w.heap.size w W := hW ▸ (Below.refl _ w).alloc (Nat.le_refl _) _
  go_upto_region 1 with fail
  rw [← hW]
  clear hW
  have HWB := Lib.hid hWB
  have k0 := hX1.c0
  have k1 := hX1.c1
  have k2 := hX1.c2
  have k3 := hX1.c3
  have k4 := hX1.c4
  simp only [Nat.zero_add] at k0 k1 k2 k3 k4
  have HMW := Lib.hid (HM.out W hWB)
  go_upto_region 3 with (first
    | (go_at_call 40; (with_reducible refine HMW.out.mono ?_); rintro e wM ⟨rfl, hM⟩; subst wM)
    | (go_at_call 81; (with_reducible refine (HRB.out _).mono ?_); rintro e w1 ⟨rfl, hb⟩; have HB1 := Lib.hid (HWB.out.trans (hb.mono HWB.out.size)); have HBW1 := Lib.hid hb; clear hb))
  have q0 := (HBW1.out.cell (World.block_lt_of_cell? _ _ k0)).trans k0
  have q1 := (HBW1.out.cell (World.block_lt_of_cell? _ _ k1)).trans k1
  have p3 := (HB1.out.cell (World.block_lt_of_cell? _ _ e3)).trans e3
  have p4 := (HB1.out.cell (World.block_lt_of_cell? _ _ e4)).trans e4
  clear k0 k1 k2 k3 k4 HMW HWB HBW1 hX1 e3 e4
  have HS1 := Lib.hid HB1.out.size
  have inst : Nonempty (Wd (Bw w1)) := ⟨⟨w1, Below.refl _ _⟩⟩
  have b0 : ∀ z : Wd (Bw w1), z.w.cell? ⟨w.heap.size, 0, none⟩ = _ := fun z => Bw.cell z q0
  have b1 : ∀ z : Wd (Bw w1), z.w.cell? ⟨w.heap.size, 1, none⟩ = _ := fun z => Bw.cell z q1
  have HFC := Lib.hid (fun z : Wd (Bw w1) => HBT.out z.w (HB1.out.trans (z.h.mono HS1.out)))
  refine wp_region_wd (Bw w1) (by kernel_rfl) (by kernel_rfl) ((Below.refl _ w1).drew) ?_
  repeat (first
    | go_big_quiet_step (first | (go_at_call 73; with_reducible exact calls_wd (fun _ _ h hb => h.keep hb) _ (HFC.out _)))
    | quiet_step (first | (go_at_call 73; with_reducible exact calls_wd (fun _ _ h hb => h.keep hb) _ (HFC.out _))))
  refine wpQuiet_nil ?_
  rintro _ ⟨z2, rfl⟩
  have HB3 := Lib.hid (HB1.out.trans (z2.h.mono HS1.out))
  have s3 := Bw.cell z2 p3
  have s4 := Bw.cell z2 p4
  generalize z2.w = w3 at *
  clear b0 b1 HFC inst p3 p4 q0 q1 HS1
  have HC3 := Lib.hid (HCN.out w3 HB3.out)
  go_upto_block 7 with (go_at_call 82; (with_reducible refine HC3.out.mono ?_); rintro e w4 ⟨v, rfl, hr, hb⟩; obtain ⟨-, pv, cv, rfl, -, -, hcv⟩ := row_u (k := .i64) (xs := ints ks) hr; have HB4 := Lib.hid (HB3.out.trans (hb.mono HB3.out.size)); have HR4 := Lib.hid (row_at hr (base' := w.heap.size) (fun k hk => ⟨rfl, Nat.le_trans HB3.out.size (row_lt hr hk).1⟩)); have t4 := (hb.cell (World.block_lt_of_cell? _ _ s4)).trans s4; clear hr hb)
  clear HC3 s3 s4 t4 HM HRB HBT HCN
  obtain ⟨st, est⟩ : ∃ st, st = bt + en := ⟨_, rfl⟩
  have EST := Lib.hid est
  have hst : st ≤ 3000 := by omega
  clear est
  have HSUM := Lib.hid (fun i => sum_cap cost 30000 HCO.out (ks.take i))
  have hcvM := hcv
  go_loopw [13, 52] (fun tv iv wr => ∃ i : Nat, i ≤ ks.length ∧ tv = .int .i64 (st + ((ks.take i).map cost).sum : Nat) ∧ iv = .int .i64 i ∧ Hid (J i wr) ∧ Hid (wr.ownsRow w.heap.size 3 1 (.slice pv (ints ks).length cv) (ints ks).length ((ints ks).map (Value.int .i64))) ∧ Hid (Off S0 w wr)) (fun _ iv _ => ks.length - (intOf iv).toNat)
  case atStart => exact ⟨0, Nat.zero_le _, by have := EST.out; go_num, rfl, Lib.hid (HJ0.out _ HB4.out), Lib.hid (by rw [ints_len]; exact HR4.out), Lib.hid (Off.of HB4.out (Nat.le_refl _))⟩
  case round =>
    obtain ⟨i, hi, rfl, rfl, HJ, HR, HO⟩ := hrel
    by_cases hlt : i < ks.length
    · have hltz : (i : Int) < ks.length := by omega
      obtain ⟨k, hk⟩ : ∃ k, ks[i]? = some k := ⟨_, List.getElem?_eq_getElem hlt⟩
      have hkl := HKL.out k (List.mem_of_getElem? hk)
      obtain ⟨cap, hcap⟩ := HLAT.out (by intro e; rw [e] at hkl; simp at hkl)
      have c4 := HO.out.cell E4.out (by simpa using HS0.out)
      rw [hcap] at c4
      obtain ⟨gn, cpn, e1, -, hcl⟩ := row_cell HR.out (j := i) (u := .int .i64 k) (by rw [List.getElem?_map, ints, List.getElem?_map, hk]; rfl)
      injection e1 with e1 _ ec
      subst ec
      subst e1
      have HK := Lib.hid hk
      have hsum := HSUM.out i
      have hsum2 : i * 30000 ≤ 200 * 30000 := Nat.mul_le_mul_right _ (by omega)
      have hck := HCO.out k
      have HCK := Lib.hid (HC.out i k wr hk HJ.out HO.out.size)
      have HTY := Lib.hid (row_type HR.out (k := gn) rfl)
      have HGN := Lib.hid (row_lt HR.out (k := gn) rfl)
      have HSM : Hid (((ks.take (i + 1)).map cost).sum = ((ks.take i).map cost).sum + cost k) := Lib.hid (by rw [List.take_add_one, hk, List.map_append, List.sum_append]; simp)
      have hlt2 : ((ks.take i).map cost).sum ≤ 6000000 := by
        refine Nat.le_trans hsum (Nat.le_trans (Nat.mul_le_mul_right _ ?_) hsum2)
        rw [List.length_take]; omega
      generalize ((ks.take i).map cost).sum = sm at *
      generalize cost k = ck at *
      generalize P.ls.length = pl at *
      clear hsum hsum2 hk hcap
      go_wp2_with (go_at_fn g; refine HCK.out.mono ?_; rintro e w5 ⟨rfl, hj, S, hS, hm⟩; have HJ5 := Lib.hid hj; have HOS := Lib.hid hS; have HMM := Lib.hid hm; clear hj hS hm)
      go_roundw
      case rel =>
        refine ⟨i + 1, by omega, by rw [HSM.out]; go_num, by go_num, HJ5, Lib.hid ?_, Lib.hid ?_⟩
        · refine row_at HR.out (fun m hm => ?_)
          have : m = gn := by simpa [Value.ownBlock] using hm.symm
          subst this
          refine ⟨HOS.out.block _ HGN.out.2 (fun hin => ?_), HGN.out.1⟩
          rcases HMM.out _ hin with h1 | ⟨-, c, h2⟩
          · have := HGN.out.1; omega
          · obtain ⟨c', h3⟩ := HTY.out
            exact types_ne h2 h3 (by decide) rfl
        · exact HO.out.via HOS.out (fun m hm hin => (HMM.out m hin).elim (fun h => h.2) (fun h => by omega))
      case measure => simp [intOf]; omega
    · have hltz : ¬ (i : Int) < ks.length := by omega
      obtain rfl : i = ks.length := by omega
      have e := EST.out
      rw [List.take_of_length_le (Nat.le_refl _), e] at *
      go_wp2
      go_ret
      refine ⟨?_, HJ.out, HO.out⟩
      go_num
end
end Go.Proofs.YtfcpfffgodljeaaGreat.Bd
