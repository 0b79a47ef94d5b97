/-
  frame's part: put. No condition but those typed at each theorem.
-/
import Derived.Test.YtmkmkndcndpfeaaPart
import Derived.Test.YtmkmkndcndpfeaaQt
namespace Go.Proofs.Ytmkmkndcndpfeaa
open Go.RowKit

/-- a part's nodes have been put -/
def FP (w w' : World) (P : Nat) (v1 v2 : Value) (most : Int) (N : List Nd) : Prop := ∃ u1 u2, PO w' P u1 u2 most N ∧ Off (pbl P v1 v2) w w' ∧ ∀ k ∈ pbl P u1 u2, k ∈ pbl P v1 v2 ∨ w.heap.size ≤ k
theorem FP.trans {w X w' : World} {P : Nat} {v1 v2 u1 u2 : Value} {most : Int} {N : List Nd} (hO : Off (pbl P v1 v2) w X) (hk : ∀ k ∈ pbl P u1 u2, k ∈ pbl P v1 v2 ∨ w.heap.size ≤ k) (h : FP X w' P u1 u2 most N) : FP w w' P v1 v2 most N := by
  obtain ⟨x1, x2, h1, h2, h3⟩ := h
  refine ⟨x1, x2, h1, ⟨h2.os.trans hO.os, h2.tape.trans hO.tape, h2.output.trans hO.output, Nat.le_trans hO.size h2.size, fun k hlt hkn => (h2.block k (Nat.lt_of_lt_of_le hlt hO.size) (fun e => (hk k e).elim hkn (fun g => by omega))).trans (hO.block k hlt hkn)⟩, fun k hk3 => ?_⟩
  rcases h3 k hk3 with h4 | h4
  · exact hk k h4
  · exact .inr (Nat.le_trans hO.size h4)

theorem Row.off {X w' : World} {n : Nat} {vs : List Value} {S : List Nat} (h : Row X n vs) (hb : Off S X w') (hn : n ∉ S) : Row w' n vs := fun k v e => hb.cell (h k v e) hn
/-- in the midst of a put: the pool, and the three variables -/
structure PM (w wq : World) (P : Nat) (v1 v2 u1 u2 : Value) (most : Int) (N : List Nd) (q : Nat) (x2 x4 x5 : List Value) : Prop where
  po : PO wq P u1 u2 most N
  off : Off (pbl P v1 v2) w wq
  sub : ∀ k ∈ pbl P u1 u2, k ∈ pbl P v1 v2 ∨ w.heap.size ≤ k
  far : ∀ k ∈ pbl P u1 u2, k ≠ w.heap.size ∧ k ≠ q ∧ k ≠ q + 1
  r2 : Row wq w.heap.size x2
  r4 : Row wq q x4
  r5 : Row wq (q + 1) x5
  lt : w.heap.size < wq.heap.size ∧ q + 1 < wq.heap.size
theorem pm1 {w w3 w5 : World} {P : Nat} {v1 v2 u1 u2 : Value} {most : Int} {N : List Nd} (x2 x4 x5 : List Value) (hB : Below w.heap.size w w3) (h2 : Row w3 w.heap.size x2) (hlt : w.heap.size < w3.heap.size) (hPL : ∀ k ∈ pbl P v1 v2, k < w.heap.size)
    (hP : PO w5 P u1 u2 most N) (hO : Off (pbl P v1 v2) ((w3.alloc (.cells x4.toArray 81)).alloc (.cells x5.toArray 81)) w5) (hk : ∀ k ∈ pbl P u1 u2, k ∈ pbl P v1 v2 ∨ ((w3.alloc (.cells x4.toArray 81)).alloc (.cells x5.toArray 81)).heap.size ≤ k) :
    PM w w5 P v1 v2 u1 u2 most N w3.heap.size x2 x4 x5 := by
  have hsz : ((w3.alloc (.cells x4.toArray 81)).alloc (.cells x5.toArray 81)).heap.size = w3.heap.size + 2 := by simp
  rw [hsz] at hk
  have hn : ∀ n, w.heap.size ≤ n → n ∉ pbl P v1 v2 := fun n hn e => by have := hPL n e; omega
  refine ⟨hP, ((Off.of (S := pbl P v1 v2) hB (Nat.le_refl _)).all _ |>.all _).trans hO, fun k e => (hk k e).elim .inl (fun g => .inr (by omega)), fun k e => ?_, ((h2.all _).all _).off hO (hn _ (Nat.le_refl _)), ((Row.new w3 x4 _ rfl).all _).off hO (hn _ (by omega)), (Row.new _ x5 _ (by simp)).off hO (hn _ (by omega)), ?_⟩
  · rcases hk k e with g | g
    · have := hPL k g; omega
    · omega
  · have := hO.size
    omega
theorem off_in {w X w' : World} {S T : List Nat} (hO : Off S w X) (hk : ∀ k ∈ T, k ∈ S ∨ w.heap.size ≤ k) (h : Off T X w') : Off S w w' :=
  ⟨h.os.trans hO.os, h.tape.trans hO.tape, h.output.trans hO.output, Nat.le_trans hO.size h.size, fun k hlt hkn => (h.block k (Nat.lt_of_lt_of_le hlt hO.size) (fun e => (hk k e).elim hkn (fun g => by omega))).trans (hO.block k hlt hkn)⟩
theorem PM.step {w wq w6 : World} {P : Nat} {v1 v2 u1 u2 y1 y2 : Value} {most : Int} {N N2 : List Nd} {q : Nat} {x2 x4 x5 : List Value} (h : PM w wq P v1 v2 u1 u2 most N q x2 x4 x5)
    (hP : PO w6 P y1 y2 most N2) (hO : Off (pbl P u1 u2) wq w6) (hk : ∀ k ∈ pbl P y1 y2, k ∈ pbl P u1 u2 ∨ wq.heap.size ≤ k) : PM w w6 P v1 v2 y1 y2 most N2 q x2 x4 x5 := by
  have h0 := h.off.size
  have hl := h.lt
  have hn2 : w.heap.size ∉ pbl P u1 u2 := fun e => (h.far _ e).1 rfl
  have hn4 : q ∉ pbl P u1 u2 := fun e => (h.far _ e).2.1 rfl
  have hn5 : q + 1 ∉ pbl P u1 u2 := fun e => (h.far _ e).2.2 rfl
  refine ⟨hP, off_in h.off h.sub hO, fun k e => ?_, fun k e => ?_, h.r2.off hO hn2, h.r4.off hO hn4, h.r5.off hO hn5, ?_⟩
  · rcases hk k e with g | g
    · exact h.sub k g
    · exact .inr (by omega)
  · rcases hk k e with g | g
    · exact h.far k g
    · omega
  · have := hO.size
    omega
set_option maxRecDepth 100000 in
set_option maxHeartbeats 3200000 in
theorem put_part : ∀ m b f t w P v1 v2 most N, 1 ≤ m → t = f + m → PO w P v1 v2 most N → N.length = b → ((b + sz (tr m) : Nat) : Int) ≤ most → b + sz (tr m) ≤ 8000 → f + m ≤ 8000 →
    Calls Try.prog 52 #[pv b f t, .pointer (some ⟨P, 0, none⟩)] w fun e w' => e = .returned (.tuple #[]) ∧ FP w w' P v1 v2 most (N ++ nds b f (tr m)) := by
  intro m
  induction m using Nat.strongRecOn with
  | _ m ih =>
    intro b f t w P v1 v2 most N hm ht hP hb hmost hlen hfm
    have hszm := sz_pos (tr m)
    obtain ⟨w1, hw1⟩ : ∃ w1, w1 = w.alloc (.cells (pvs b f t).toArray 81) := ⟨_, rfl⟩
    have HB1 := Lib.hid (show Below w.heap.size w w1 by rw [hw1]; exact (Below.refl _ w).alloc (Nat.le_refl _) _)
    have HIS := Lib.hid (fun X => by rw [ht]; exact isLeaf_any b f m X hm (by omega) : ∀ X, Calls Try.prog 47 #[pv b f t] X fun e w' => e = .returned (.bool (decide (m = 1))) ∧ w' = X.alloc (.cells (pvs b f t).toArray 81))
    by_cases h1 : m = 1
    · subst h1
      have hl : N.length + 1 ≤ 8000 := by rw [tr_one (by omega)] at hlen; simp [sz, lv] at hlen; omega
      have hne : ¬ (N.length : Int) = most := by rw [tr_one (by omega)] at hmost; simp [sz, lv] at hmost; omega
      have HPU := Lib.hid (fun X (hX : Below w.heap.size w X) => Put_any X P v1 v2 most N (1, -1, -1, (f : Int), (t : Int), 0, (f : Int)) (hP.keep hX) (by omega))
      have hput : putN N most (1, -1, -1, (f : Int), (t : Int), 0, (f : Int)) = (N ++ nds b f (tr 1), ((N.length : Nat) : Int), 0) := by
        rw [tr_one (by omega), ht]
        unfold putN
        rw [if_pos (may_lf N f), if_neg hne]
        rfl
      rw [hput] at HPU
      unfold told at HPU
      have HFP : Hid (∀ X w', Below w.heap.size w X → (∃ u1 u2, PO w' P u1 u2 most (N ++ nds b f (tr 1)) ∧ Off (pbl P v1 v2) X w' ∧ ∀ k ∈ pbl P u1 u2, k ∈ pbl P v1 v2 ∨ X.heap.size ≤ k) → FP w w' P v1 v2 most (N ++ nds b f (tr 1))) := Lib.hid (by
        rintro X w' hX ⟨u1, u2, h1, h2, h3⟩
        exact FP.trans (Off.of hX (Nat.le_refl _)) (fun k hk => .inl hk) ⟨u1, u2, h1, h2, h3⟩)
      clear hput hP hb hmost hlen ih hne hl
      generalize N ++ nds b f (tr 1) = N2 at *
      generalize N.length = d at *
      clear ht
      have HB2 := Lib.hid (show Below w.heap.size w ((w.alloc (.cells (pvs b f t).toArray 81)).alloc (.cells (pvs b f t).toArray 81)) from ((Below.refl _ w).alloc (Nat.le_refl _) _).alloc (by simp) _)
      clear HB1 hw1
      unfold pv pvs nv at *
      go_enter Try.func52, Try.ntmps52
      go_wp2_with (first
        | (go_at_call 47; (with_reducible refine (HIS.out _).mono ?_); rintro e w2 ⟨rfl, rfl⟩)
        | (go_at_call 63; (with_reducible refine (HPU.out _ HB2.out).mono ?_); rintro e w3 ⟨u1, u2, rfl, h⟩; have H := Lib.hid (HFP.out _ _ HB2.out ⟨u1, u2, h⟩); clear h))
      first | (go_end0; exact ⟨rfl, H.out⟩) | (refine bodyPost_ret (results_none rfl _ _ _) rfl ?_; exact ⟨rfl, H.out⟩) | (simp only [Exit.inBlock, Exit.then]; refine bodyPost_ret (results_none rfl _ _ _) rfl ?_; exact ⟨rfl, H.out⟩)
    · have hm2 : 2 ≤ m := by omega
      obtain ⟨a, ha⟩ : ∃ a, a = m - m / 2 := ⟨_, rfl⟩
      obtain ⟨c, hc⟩ : ∃ c, c = m / 2 := ⟨_, rfl⟩
      obtain ⟨mid, hmid⟩ : ∃ mid, mid = f + a := ⟨_, rfl⟩
      obtain ⟨z, hz⟩ : ∃ z, z = sz (tr a) := ⟨_, rfl⟩
      have etr : tr m = .nd (tr a) (tr c) := by rw [tr_two hm2, ha, hc]
      have la : lv (tr a) = a := lv_tr (by omega)
      have lc : lv (tr c) = c := lv_tr (by omega)
      have hz1 : z + 1 = 2 * a := by rw [hz]; unfold sz; omega
      have hsz : sz (tr m) = z + sz (tr c) + 1 := by rw [etr, sz_nd, ← hz]
      have hl1 : (N ++ nds b f (tr a)).length = b + z := by rw [List.length_append, nds_len, hb, hz]
      have hl2 : (N ++ nds b f (tr a) ++ nds (b + z) mid (tr c)).length = b + z + sz (tr c) := by rw [List.length_append, nds_len, hl1]
      have hmay := may_top (l := tr a) (r := tr c) (f := f) hP.rt hb
      rw [la, lc, ← hz, ← hmid] at hmay
      have e3 : N ++ nds b f (tr m) = N ++ nds b f (tr a) ++ nds (b + z) mid (tr c) ++ [(2, (rt b (tr a) : Int), (rt (b + z) (tr c) : Int), (f : Int), ((f + (a + c) : Nat) : Int), 0, 0)] := by
        rw [etr]
        simp [nds, la, ← hz, ← hmid, lc]
      have et : f + (a + c) = t := by omega
      rw [et] at hmay e3
      have hputN : putN (N ++ nds b f (tr a) ++ nds (b + z) mid (tr c)) most (2, (rt b (tr a) : Int), (rt (b + z) (tr c) : Int), (f : Int), (t : Int), 0, 0) = (N ++ nds b f (tr m), (((N ++ nds b f (tr a) ++ nds (b + z) mid (tr c)).length : Nat) : Int), 0) := by
        unfold putN
        rw [if_pos hmay, if_neg (by rw [hl2]; omega), e3]
      have HHV := Lib.hid (fun X => halves_any b f m a c z mid t X hm2 ha hc hz1 hmid ht (by omega))
      have HR1 := Lib.hid (fun X => (by rw [hmid]; exact root_any b f a (rt b (tr a)) X (by omega) (by unfold rt; omega) (by omega) : Calls Try.prog 37 #[pv b f mid] X fun e w' => e = .returned (.int .i64 (rt b (tr a) : Nat)) ∧ Below X.heap.size X w'))
      have HR2 := Lib.hid (fun X => (by rw [show t = mid + c by omega]; exact root_any (b + z) mid c (rt (b + z) (tr c)) X (by omega) (by unfold rt; omega) (by omega) : Calls Try.prog 37 #[pv (b + z) mid t] X fun e w' => e = .returned (.int .i64 (rt (b + z) (tr c) : Nat)) ∧ Below X.heap.size X w'))
      have HI1 := Lib.hid (fun X (hX : Below w.heap.size w X) => ih a (by omega) b f mid X P v1 v2 most N (by omega) hmid (hP.keep hX) hb (by omega) (by omega) (by omega))
      have HI2 := Lib.hid (fun X u1 u2 (hX : PO X P u1 u2 most (N ++ nds b f (tr a))) => ih c (by omega) (b + z) mid t X P u1 u2 most (N ++ nds b f (tr a)) (by omega) (by omega) hX hl1 (by omega) (by omega) (by omega))
      have HPU := Lib.hid (fun X u1 u2 (hX : PO X P u1 u2 most (N ++ nds b f (tr a) ++ nds (b + z) mid (tr c))) => by
        have := Put_any X P u1 u2 most _ (2, (rt b (tr a) : Int), (rt (b + z) (tr c) : Int), (f : Int), (t : Int), 0, 0) hX (by rw [hl2]; omega)
        rwa [hputN] at this)
      have hd : decide (m = 1) = false := by simp [h1]
      rw [hd] at HIS
      have HPL := Lib.hid hP.lt
      clear hputN e3 hmay hl2 hl1 hP hb hmost hlen ih etr la lc hz1 hsz hszm ha hc hmid hz ht et
      generalize (N ++ nds b f (tr a) ++ nds (b + z) mid (tr c)).length = d at *
      unfold told at HPU
      generalize N ++ nds b f (tr m) = NM at *
      generalize N ++ nds b f (tr a) ++ nds (b + z) mid (tr c) = N2 at *
      generalize N ++ nds b f (tr a) = N1 at *
      generalize rt b (tr a) = r1 at *
      generalize rt (b + z) (tr c) = r2 at *
      generalize b + z = bz at *
      unfold pv pvs nv at *
      have HB2 := Lib.hid (show Below w.heap.size w ((w.alloc (.cells #[.int .i64 b, .int .i64 f, .int .i64 t] 81)).alloc (.cells #[.int .i64 b, .int .i64 f, .int .i64 t] 81)) from ((Below.refl _ w).alloc (Nat.le_refl _) _).alloc (by simp) _)
      clear HB1 hw1
      go_enter Try.func52, Try.ntmps52
      go_wp2_with (first
        | (go_at_call 47; (with_reducible refine (HIS.out _).mono ?_); rintro e w2 ⟨rfl, rfl⟩)
        | (go_at_call 45; (with_reducible refine (HHV.out _).mono ?_); rintro e w3 ⟨rfl, hb3⟩; have HB3 := Lib.hid (HB2.out.trans (hb3.mono HB2.out.size)); have HB3' := Lib.hid hb3; clear hb3)
        | (go_at_call 52; (with_reducible refine (HI1.out _ ((HB3.out.alloc HB3.out.size _).alloc (by have := HB3.out.size; simp; omega) _)).mono ?_); rintro e w5 ⟨rfl, u1, u2, g1, g2, g3⟩;
            have hM := pm1 [.int .i64 b, .int .i64 f, .int .i64 t] [.int .i64 b, .int .i64 f, .int .i64 mid] [.int .i64 bz, .int .i64 mid, .int .i64 t] HB3.out (((Row.new w [.int .i64 b, .int .i64 f, .int .i64 t] 81 rfl).all _).keep HB3'.out) (by have := HB3'.out.size; simp at this; omega) HPL.out g1 g2 g3;
            have x0 := hM.r5 0 _ rfl; have x1 := hM.r5 1 _ rfl; have x2 := hM.r5 2 _ rfl; have HM := Lib.hid hM; clear hM g1 g2 g3)
        | (go_at_call 52; (with_reducible refine (HI2.out w5 u1 u2 HM.out.po).mono ?_); rintro e w6 ⟨rfl, y1, y2, g1, g2, g3⟩; have HM6 := Lib.hid (HM.out.step g1 g2 g3); clear x0 x1 x2 g1 g2 g3))
      have z20 := fun s : Wd (Bw w6) => (HM6.out.r2.keep s.h) 0 _ rfl
      have z21 := fun s : Wd (Bw w6) => (HM6.out.r2.keep s.h) 1 _ rfl
      have z22 := fun s : Wd (Bw w6) => (HM6.out.r2.keep s.h) 2 _ rfl
      have z40 := fun s : Wd (Bw w6) => (HM6.out.r4.keep s.h) 0 _ rfl
      have z41 := fun s : Wd (Bw w6) => (HM6.out.r4.keep s.h) 1 _ rfl
      have z42 := fun s : Wd (Bw w6) => (HM6.out.r4.keep s.h) 2 _ rfl
      have z50 := fun s : Wd (Bw w6) => (HM6.out.r5.keep s.h) 0 _ rfl
      have z51 := fun s : Wd (Bw w6) => (HM6.out.r5.keep s.h) 1 _ rfl
      have z52 := fun s : Wd (Bw w6) => (HM6.out.r5.keep s.h) 2 _ rfl
      have inst : Nonempty (Wd (Bw w6)) := ⟨⟨w6, Below.refl _ _⟩⟩
      have hkp : Hid (∀ X w', Bw w6 X → Below X.heap.size X w' → Bw w6 w') := Lib.hid (fun X w' h hb => h.keep hb)
      refine wp_region_qt (Bw w6) 10 (by kernel_rfl) (by kernel_rfl) ((Below.refl _ w6).drew) ?_
      simp only [List.take_succ_cons, List.take_zero, List.drop_succ_cons, List.drop_zero]
      repeat (first | go_big_quiet_step (first | (go_at_call 37; first | (with_reducible exact calls_wd hkp.out _ (HR1.out _)) | (with_reducible exact calls_wd hkp.out _ (HR2.out _)))) | quiet_step (first | (go_at_call 37; first | (with_reducible exact calls_wd hkp.out _ (HR1.out _)) | (with_reducible exact calls_wd hkp.out _ (HR2.out _)))))
      refine wpQuiet_nil ?_
      rintro _ ⟨s, rfl⟩
      have HS : Hid (Below w6.heap.size w6 s.w) := Lib.hid s.h
      clear z20 z21 z22 z40 z41 z42 z50 z51 z52 inst
      go_wp2_with (go_at_call 63; (with_reducible refine (HPU.out s.w y1 y2 (HM6.out.po.keep HS.out)).mono ?_); rintro e w7 ⟨x1, x2, rfl, g1, g2, g3⟩; have HF := Lib.hid (show FP w w7 P v1 v2 most NM from ⟨x1, x2, g1, off_in (HM6.out.off.bel HS.out) HM6.out.sub g2, fun k e => by
        rcases g3 k e with g | g
        · exact HM6.out.sub k g
        · have h5 := HM6.out.off.size; have h6 := HS.out.size; exact .inr (by omega)⟩); clear g1 g2 g3)
      first | (go_end0; exact ⟨rfl, HF.out⟩) | (refine bodyPost_ret (results_none rfl _ _ _) rfl ?_; exact ⟨rfl, HF.out⟩) | (simp only [Exit.inBlock, Exit.then]; refine bodyPost_ret (results_none rfl _ _ _) rfl ?_; exact ⟨rfl, HF.out⟩)
end Go.Proofs.Ytmkmkndcndpfeaa
