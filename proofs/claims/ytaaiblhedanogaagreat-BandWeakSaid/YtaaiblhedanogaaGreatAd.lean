/-
  How many were dropped, in memory: how the shares are made, Add, Ahead. No condition but those typed at each theorem.
-/
import Derived.Test.YtaaiblhedanogaaGreatAl
import Derived.Test.YtaaiblhedanogaaGreatAf
namespace Go.Proofs.YtaaiblhedanogaaGreat
open Go.RowKit

theorem wrapP {x : Int} (h : -9223372036854775808 ≤ x ∧ x ≤ 9223372036854775807) : IntKind.i64.wrap x = x := IntWalk.i64_in _ (by omega)
theorem low_bits {n : Nat} (h : 1 ≤ n) (h2 : n ≤ 100000) : bits .and .i64 (n : Int) (-(n : Int)) = (low n : Int) := by
  show IntKind.i64.wrap ((BitVec.ofInt 64 (n : Int) &&& BitVec.ofInt 64 (-(n : Int))).toNat : Int) = _
  have e1 : (BitVec.ofInt 64 (n : Int)).toNat = n := by
    rw [BitVec.toNat_ofInt]; omega
  have e2 : (BitVec.ofInt 64 (-(n : Int))).toNat = 2 ^ 64 - n := by
    rw [BitVec.toNat_ofInt]; omega
  rw [BitVec.toNat_and, e1, e2, and_low 64 n h (by omega)]
  have := (low_le n h).2
  exact wrapP (by omega)
set_option maxRecDepth 100000 in
theorem lowest_any (n : Nat) (w : World) (h : 1 ≤ n) (h2 : n ≤ 100000) : Calls Tryz.prog 80 #[.int .i64 n] w fun e w' => e = .returned (.int .i64 (low n)) ∧ w' = w := by
  have hz : IntKind.i64.wrap (-(n : Int)) = -(n : Int) := wrapP (by omega)
  have hb := low_bits h h2
  go_enter Tryz.func80, Tryz.ntmps80
  go_wp2
  go_ret
  exact ⟨rfl, rfl⟩

/-- shares at a place in memory -/
structure DpM (w : World) (b o N : Nat) (al : Nat → Bool) (bs : Nat) (F : List Nat) : Prop where
  ss : w.cell? ⟨b, o, none⟩ = some (.slice (some ⟨bs, 0, none⟩) N N)
  sb : EB .i64 3 w bs (zs F)
  inv : FwI N al F
  few : N ≤ 8192
  ne : b ≠ bs
section
variable {w w' : World} {b o N : Nat} {al : Nat → Bool} {bs : Nat} {F : List Nat}
theorem DpM.off (h : DpM w b o N al bs F) {S : List Nat} (g : Off S w w') (h1 : b ∉ S) (h2 : bs ∉ S) : DpM w' b o N al bs F :=
  ⟨g.cell h.ss h1, h.sb.off g h2, h.inv, h.few, h.ne⟩
theorem DpM.keep (h : DpM w b o N al bs F) (hb : Below w.heap.size w w') : DpM w' b o N al bs F :=
  h.off (Off.of (S := []) hb (Nat.le_refl _)) (by simp) (by simp)

set_option maxRecDepth 100000 in
set_option maxHeartbeats 1600000 in
theorem ahead_any (h : DpM w b o N al bs F) {q : Nat} (hq : q ≤ N) :
    Calls Tryz.prog 62 #[.pointer (some ⟨b, o, none⟩), .int .i64 q] w fun x w' => x = .returned (.tuple #[.int .i64 (dc al q : Nat), .int .i64 (pcs q : Nat)]) ∧ w' = w := by
  have H := Lib.hid h
  have hn := h.few
  have HC := Lib.hid (dc_le al)
  have y1 := h.ss
  clear h
  go_enter Tryz.func62, Tryz.ntmps62
  go_wp2
  go_loopw [6, 7, 8] (fun u v z wr => ∃ c k n : Nat, n ≤ q ∧ u = .int .i64 c ∧ v = .int .i64 k ∧ z = .int .i64 n ∧ Hid (c + dc al n = dc al q) ∧ Hid (k + pcs n = pcs q) ∧ Hid (k ≤ q - n) ∧ wr = w) (fun _ _ z _ => (intOf z).toNat)
  case atStart => exact ⟨0, 0, q, Nat.le_refl _, rfl, rfl, rfl, Lib.hid (by simp), Lib.hid (by simp), Lib.hid (by simp), rfl⟩
  case round =>
    obtain ⟨c, k, n, h1, rfl, rfl, rfl, HD, HP, HK, rfl⟩ := hrel
    by_cases h0 : 0 < n
    · have h0z : (0 : Int) < n := by omega
      obtain ⟨x, hx⟩ : ∃ x, F[n - 1]? = some x := ⟨_, List.getElem?_eq_getElem (by rw [H.out.inv.len]; omega)⟩
      have y2 := H.out.sb.cell (zs_get F hx)
      have hx2 := H.out.inv.at_ _ _ hx
      rw [show n - 1 + 1 = n by omega] at hx2
      have e1 : (n : Int) - 1 = (n - 1 : Nat) := by omega
      have hn1 : n - 1 < N := by omega
      have hl := low_le n h0
      have hcx : c + x ≤ 8192 ∧ k ≤ 8192 := by have := HD.out; have := HK.out; have := HC.out q; have := HC.out (n - low n); omega
      have HX := Lib.hid hx2
      have HL := Lib.hid (fun X => lowest_any n X h0 (by omega))
      have HPS := Lib.hid (pcs_step h0)
      have e2 : (n : Int) - (low n : Nat) = (n - low n : Nat) := by omega
      generalize hlo : low n = lo at *
      clear hx hx2 hlo
      go_wp2_with (go_at_call 80; (with_reducible refine (HL.out _).mono ?_); rintro e w1 ⟨rfl, rfl⟩)
      go_roundw
      case rel => exact ⟨c + x, k + 1, n - lo, by omega, by go_num, by go_num, by go_num, Lib.hid (by have := HD.out; have := HX.out; omega), Lib.hid (by have := HP.out; have := HPS.out; omega), Lib.hid (by have := HK.out; omega), by trivial⟩
      case measure => simp [intOf]; omega
    · have h0z : ¬ (0 : Int) < n := by omega
      obtain rfl : n = 0 := by omega
      go_wp2
      go_ret2
      have e1 := HD.out
      have e2 := HP.out
      rw [show dc al 0 = 0 from rfl, Nat.add_zero] at e1
      rw [pcs_zero, Nat.add_zero] at e2
      rw [e1, e2]
      exact ⟨rfl, rfl⟩

set_option maxRecDepth 100000 in
set_option maxHeartbeats 1600000 in
theorem dadd_any (h : DpM w b o N al bs F) {q : Nat} (hq : q < N) (ha : al q = true) (al' : Nat → Bool) (hA : ∀ x, al' x = (al x && decide (x ≠ q))) :
    Calls Tryz.prog 55 #[.pointer (some ⟨b, o, none⟩), .int .i64 q] w fun x w' => x = .returned (.tuple #[]) ∧ (∃ F', DpM w' b o N al' bs F') ∧ Off [bs] w w' := by
  have H := Lib.hid h
  have hn := h.few
  have y1 := h.ss
  have hne := h.ne
  have HA := Lib.hid hA
  have HQ := Lib.hid ha
  clear h hA ha
  go_enter Tryz.func55, Tryz.ntmps55
  go_wp2
  go_loopw [4] (fun z wr => ∃ (n : Nat) (G : List Nat), n ≤ 2 * N ∧ z = .int .i64 n ∧ Hid (FwA N al q n G) ∧ Hid (EB .i64 3 wr bs (zs G)) ∧ Hid (Off [bs] w wr)) (fun z _ => 2 * N + 1 - (intOf z).toNat)
  case atStart => exact ⟨q + 1, F, by omega, by go_num, Lib.hid (FwA.start H.out.inv q), Lib.hid H.out.sb, Lib.hid (Off.refl _ _)⟩
  case round =>
    obtain ⟨n, G, h1, rfl, HW, HE, HO⟩ := hrel
    have x1 := HO.out.cell y1 (by simp; exact hne)
    by_cases h0 : n ≤ N
    · have h0z : (n : Int) ≤ N := by omega
      have hpos := HW.out.pos
      obtain ⟨x, hx⟩ : ∃ x, G[n - 1]? = some x := ⟨_, List.getElem?_eq_getElem (by rw [HW.out.len]; omega)⟩
      have y2 := HE.out.cell (zs_get G hx)
      have y3 := HE.out.free (n - 1)
      have e1 : (n : Int) - 1 = (n - 1 : Nat) := by omega
      have hn1 : n - 1 < N := by omega
      have hl := low_le n hpos
      have hxx : x ≤ 8193 := by
        have g1 := HW.out.at_ _ _ hx
        have g2 := dc_le al (n - 1 + 1)
        split at g1 <;> omega
      have HL := Lib.hid (fun X => lowest_any n X hpos (by omega))
      have HW2 := Lib.hid (HW.out.step hx)
      have HG := Lib.hid hx
      generalize hlo : low n = lo at *
      clear hx hlo
      go_wp2_with (go_at_call 80; (with_reducible refine (HL.out _).mono ?_); rintro e w1 ⟨rfl, rfl⟩)
      go_roundw
      case rel =>
        refine ⟨n + lo, G.set (n - 1) (x + 1), by omega, by go_num, HW2, Lib.hid ?_, Lib.hid (HO.out.set _ _ (.inl (by simp)))⟩
        rw [← zs_set]
        exact HE.out.set (n - 1) _
      case measure => simp [intOf]; omega
    · have h0z : ¬ (n : Int) ≤ N := by omega
      go_wp2
      go_end0
      exact ⟨rfl, ⟨G, HO.out.cell y1 (by simp; exact hne), HE.out, HW.out.done (by omega) HQ.out HA.out, hn, hne⟩, HO.out⟩
end
/-- shares of places that are all there -/
def DpsL (w : World) (n : Nat) (v : Value) (w' : World) : Prop :=
  ∃ bs, v = .agg #[.slice (some ⟨bs, 0, none⟩) n n] ∧ EB .i64 3 w' bs (zs (List.replicate n 0)) ∧ w.heap.size ≤ bs ∧ Below w.heap.size w w'
noncomputable def dropsD : TypeDesc := (Tryz.prog.underlying 76).get (by kernel_rfl)
set_option maxRecDepth 100000 in
set_option maxHeartbeats 1600000 in
theorem dropsOf_any (w : World) (n : Nat) (hn : n ≤ 8192) :
    Calls Tryz.prog 96 #[.int .i64 n] w fun e w' => ∃ v, e = .returned v ∧ DpsL w n v w' := by
  have hm : ∀ w : World, (Instr.makeSlice 69 (.int .i64 (n : Int)) (.int .i64 (n : Int))).run Tryz.prog w = .ok (.slice (some ⟨w.heap.size, 0, none⟩) n n) (w.alloc (.cells ((zs (List.replicate n 0)).map (Value.int .i64)).toArray 3)) := fun w => by
    have := made_anyP info_intP (by decide) (by decide) under_intsP w n n (by omega) (by omega)
    rw [this, show zs (List.replicate n 0) = zs (layO 0 n) by rw [layO_zero]; simp [zs], ← made_ints]
    rfl
  generalize hG : ((zs (List.replicate n 0)).map (Value.int .i64)).toArray = G at hm
  have HG := Lib.hid hG
  clear hG
  go_enter Tryz.func96, Tryz.ntmps96
  go_wp2
  obtain ⟨o, ho⟩ : ∃ o : Obj, o = .cells #[.slice (some ⟨w.heap.size + 1, 0, none⟩) n n] 76 := ⟨_, rfl⟩
  rw [← ho]
  have f0 : EV 76 ((w.alloc o).alloc (.cells G 3)) w.heap.size [.slice (some ⟨w.heap.size + 1, 0, none⟩) n n] := by
    have := (Below.heap_alloc _ (.cells G 3) w.heap.size (by simp)).trans (heap_alloc_new w o)
    rw [ho] at this ⊢
    exact this
  have f1 : EB .i64 3 ((w.alloc o).alloc (.cells G 3)) (w.heap.size + 1) (zs (List.replicate n 0)) := by
    have := heap_alloc_new (w.alloc o) (.cells G 3)
    rw [World.size_alloc] at this
    show _ = some (Obj.cells _ _ _)
    rw [HG.out]
    exact this
  have f2 : Below w.heap.size w ((w.alloc o).alloc (.cells G 3)) := ((Below.refl _ w).alloc (Nat.le_refl _) _).alloc (by simp) _
  refine bodyPost_ret (results_cell_row (p := 2) (ty := 76) rfl _ _ w.heap.size _ _ _ dropsD rfl f0 (Option.some_get _).symm (by kernel_rfl) (by kernel_rfl)) rfl ?_
  exact ⟨_, rfl, _, rfl, f1, by omega, f2⟩
end Go.Proofs.YtaaiblhedanogaaGreat
