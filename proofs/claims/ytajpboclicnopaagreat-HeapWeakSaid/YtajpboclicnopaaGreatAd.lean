/-
  How many were dropped, in memory: how stretches are made, Add, Ahead. No condition but those typed at each theorem.
-/
import Derived.Test.YtajpboclicnopaaGreatAl
import Derived.Test.YtajpboclicnopaaGreatAf
namespace Go.Proofs.YtajpboclicnopaaGreat
open Go.RowKit
theorem wrapP {x : Int} (h : -9223372036854775808 ≤ x ∧ x ≤ 9223372036854775807) : IntKind.i64.wrap x = x := IntWalk.i64_in _ (by omega)
/-- stretches at a place in memory -/
structure DpM (w : World) (b o N : Nat) (al : Nat → Bool) (z ba bw : Nat) (FA FW : List Nat) : Prop where
  cz : w.cell? ⟨b, o, none⟩ = some (.int .i64 z)
  sa : w.cell? ⟨b, o + 1, none⟩ = some (.slice (some ⟨ba, 0, none⟩) (N / z + 1) (N / z + 1))
  sw : w.cell? ⟨b, o + 2, none⟩ = some (.slice (some ⟨bw, 0, none⟩) (N + 1) (N + 1))
  ab : EB .i64 3 w ba (zs FA)
  wb : EB .i64 3 w bw (zs FW)
  inv : FwI N z al FA FW
  zle : z ≤ 9000
  few : N ≤ 8192
  ne : b ≠ ba ∧ b ≠ bw ∧ ba ≠ bw
section
variable {w w' : World} {b o N : Nat} {al : Nat → Bool} {z ba bw : Nat} {FA FW : List Nat}
theorem DpM.off (h : DpM w b o N al z ba bw FA FW) {S : List Nat} (g : Off S w w') (h1 : b ∉ S) (h2 : ba ∉ S) (h3 : bw ∉ S) : DpM w' b o N al z ba bw FA FW :=
  ⟨g.cell h.cz h1, g.cell h.sa h1, g.cell h.sw h1, h.ab.off g h2, h.wb.off g h3, h.inv, h.zle, h.few, h.ne⟩
theorem DpM.keep (h : DpM w b o N al z ba bw FA FW) (hb : Below w.heap.size w w') : DpM w' b o N al z ba bw FA FW :=
  h.off (Off.of (S := []) hb (Nat.le_refl _)) (by simp) (by simp) (by simp)
set_option maxRecDepth 100000 in
set_option maxHeartbeats 3200000 in
theorem dadd_any (h : DpM w b o N al z ba bw FA FW) {q : Nat} (hq : q < N) (ha : al q = true) (al' : Nat → Bool) (hA : ∀ x, al' x = (al x && decide (x ≠ q))) :
    Calls Tryz.prog 105 #[.pointer (some ⟨b, o, none⟩), .int .i64 q] w fun x w' => x = .returned (.tuple #[]) ∧ (∃ z FA' FW', DpM w' b o N al' z ba bw FA' FW') ∧ Off [ba, bw] w w' := by
  have H := Lib.hid h
  have hn := h.few
  have hz := h.inv.pos
  have hz2 := h.zle
  have c0 := h.cz
  have c1 := h.sa
  have c2 := h.sw
  have hne := h.ne
  have hqz : q / z ≤ q := Nat.div_le_self _ _
  have hNz : N / z ≤ N := Nat.div_le_self _ _
  have hdiv : (q : Int) / (z : Int) = ((q / z : Nat) : Int) := by rw [Int.natCast_ediv]
  have htdiv : (q : Int).tdiv (z : Int) = ((q / z : Nat) : Int) := by rw [Int.tdiv_eq_ediv_of_nonneg (by omega), Int.natCast_ediv]
  have hz0 : ¬ (z : Int) = 0 := by omega
  have hS1 := str_le q z
  have hS2 := str_lt (q := q) hz
  have HA := Lib.hid hA
  have HQ := Lib.hid ha
  have HW0 := Lib.hid (FwW.start h.inv q)
  have HA0 := Lib.hid (FwA.start h.inv q)
  obtain ⟨k, hk⟩ : ∃ k, k = q / z := ⟨_, rfl⟩
  have HK := Lib.hid hk
  rw [← hk] at hqz hdiv htdiv hS1 hS2
  obtain ⟨e, he⟩ : ∃ e, e = k * z + z := ⟨_, rfl⟩
  have hmul : ((k : Int) + 1) * (z : Int) = (e : Int) := by rw [he, Int.add_mul, Int.one_mul]; simp
  have HE := Lib.hid (show e = q / z * z + z by rw [he, hk])
  have hee : e ≤ 20000 := by omega
  obtain ⟨m, hm⟩ : ∃ m, m = N / z + 1 := ⟨_, rfl⟩
  rw [← hm] at c1
  have HM := Lib.hid hm
  have hm2 : m ≤ 9000 := by omega
  obtain ⟨N1, hN1⟩ : ∃ N1, N1 = N + 1 := ⟨_, rfl⟩
  rw [← hN1] at c2
  obtain ⟨lim, hlim⟩ : ∃ lim, lim = if N1 < e then N1 else e := ⟨_, rfl⟩
  have hlm : min (e : Int) (N1 : Int) = (lim : Int) := by rw [hlim]; split <;> omega
  have HL := Lib.hid hlim
  have hl2 : lim ≤ N1 := by rw [hlim]; split <;> omega
  have HN1 := Lib.hid hN1
  have hN2 : N1 ≤ 8193 ∧ N ≤ N1 ∧ q + 1 ≤ N1 := by omega
  obtain ⟨hN3, hN4, hN5⟩ := hN2
  clear h hA ha hk he hm hNz hS1 hS2 hlim hN1
  go_enter Tryz.func105, Tryz.ntmps105
  go_wp2
  go_loopw [5] (fun y wr => ∃ (n : Nat) (G : List Nat), n ≤ N1 ∧ y = .int .i64 n ∧ Hid (FwW N z al q n G) ∧ Hid (EB .i64 3 wr bw (zs G)) ∧ Hid (Off [ba, bw] w wr) ∧ Hid (EB .i64 3 wr ba (zs FA))) (fun y _ => N1 + 1 - (intOf y).toNat)
  case atStart => exact ⟨q + 1, FW, by omega, by go_num, HW0, Lib.hid H.out.wb, Lib.hid (Off.refl _ _), Lib.hid H.out.ab⟩
  case round =>
    obtain ⟨n, G, h1, rfl, HW, HEB, HO, HAB⟩ := hrel
    have x0 := HO.out.cell c0 (by simp; exact ⟨hne.1, hne.2.1⟩)
    have x1 := HO.out.cell c1 (by simp; exact ⟨hne.1, hne.2.1⟩)
    have x2 := HO.out.cell c2 (by simp; exact ⟨hne.1, hne.2.1⟩)
    by_cases h0 : n < lim
    · have h0z : (n : Int) < lim := by omega
      have hnN : n < N1 := by omega
      obtain ⟨x, hx⟩ : ∃ x, G[n]? = some x := ⟨_, List.getElem?_eq_getElem (by rw [HW.out.lw, ← HN1.out]; exact hnN)⟩
      have y2 := HEB.out.cell (zs_get G hx)
      have y3 := HEB.out.free n
      have hxx : x ≤ 8193 := by
        have g1 := HW.out.aw _ _ hx
        have g2 := dc_le al n
        split at g1 <;> omega
      have HW2 := Lib.hid (HW.out.step hx (by rw [← HE.out]; have := HL.out; split at this <;> omega))
      have HG := Lib.hid hx
      clear hx
      go_upto_region 2 with fail
      go_quiet (fail)
      go_wp2
      go_roundw
      case rel =>
        refine ⟨n + 1, G.set n (x + 1), by omega, by go_num, HW2, Lib.hid ?_, Lib.hid ((offN HO.out _).set _ _ (.inl (by simp))), Lib.hid ?_⟩
        · rw [← zs_set]
          exact (show EB .i64 3 (wr.drewN _) bw _ from HEB.out).set n _
        · exact (show EB .i64 3 (wr.drewN _) ba _ from HAB.out).off ((Off.refl [bw] _).set _ _ (.inl (by simp))) (by simp; exact hne.2.2)
      case measure => simp [intOf]; omega
    · have h0z : ¬ (n : Int) < lim := by omega
      go_upto_region 2 with fail
      go_quiet (fail)
      rename_i nq
      obtain ⟨wq, hwq⟩ : ∃ wq, wq = wr.drewN nq := ⟨_, rfl⟩
      have HOq : Hid (Off [ba, bw] w wq) := Lib.hid (hwq ▸ offN HO.out _)
      have HEq : Hid (EB .i64 3 wq bw (zs G)) := Lib.hid (hwq ▸ HEB.out)
      have HAq : Hid (EB .i64 3 wq ba (zs FA)) := Lib.hid (hwq ▸ HAB.out)
      rw [← hwq]
      have HGE := Lib.hid (show e ≤ n ∨ N1 ≤ n by have := HL.out; split at this <;> omega)
      clear hwq x0 x1 x2 HO HEB HAB
      go_wp2
      go_loopw [6] (fun y wx => ∃ (j : Nat) (F : List Nat), j ≤ m ∧ y = .int .i64 j ∧ Hid (FwA N z al q j F) ∧ Hid (EB .i64 3 wx ba (zs F)) ∧ Hid (Off [ba, bw] w wx) ∧ Hid (EB .i64 3 wx bw (zs G))) (fun y _ => m + 1 - (intOf y).toNat)
      case atStart => exact ⟨k + 1, FA, by have := HK.out; have := HM.out; have h9 : q / z ≤ N / z := Nat.div_le_div_right (Nat.le_of_lt hq); omega, by go_num, Lib.hid (HK.out ▸ HA0.out), HAq, HOq, HEq⟩
      case round =>
        clear HOq HEq HAq
        obtain ⟨j, F, h2, rfl, HA2, HEB, HO, HWB⟩ := hrel
        have x1 := HO.out.cell c1 (by simp; exact ⟨hne.1, hne.2.1⟩)
        by_cases h3 : j < m
        · have h3z : (j : Int) < m := by omega
          obtain ⟨x, hx⟩ : ∃ x, F[j]? = some x := ⟨_, List.getElem?_eq_getElem (by rw [HA2.out.la, ← HM.out]; exact h3)⟩
          have y2 := HEB.out.cell (zs_get F hx)
          have y3 := HEB.out.free j
          have hxx : x ≤ 100000000 := by
            have g1 := HA2.out.aa _ _ hx
            have g2 := dc_le al (j * z)
            have g3 : j * z ≤ 9000 * 9000 := Nat.mul_le_mul (by omega) hz2
            split at g1 <;> omega
          have HA3 := Lib.hid (HA2.out.step hx)
          clear hx
          go_wp2
          go_roundw
          case rel =>
            refine ⟨j + 1, F.set j (x + 1), by omega, by go_num, HA3, Lib.hid ?_, Lib.hid (HO.out.set _ _ (.inl (by simp))), Lib.hid ?_⟩
            · rw [← zs_set]
              exact HEB.out.set j _
            · exact HWB.out.off ((Off.refl [ba] _).set _ _ (.inl (by simp))) (by simp; exact Ne.symm hne.2.2)
          case measure => simp [intOf]; omega
        · have h3z : ¬ (j : Int) < m := by omega
          go_wp2
          go_end0
          exact ⟨rfl, ⟨z, F, G, HO.out.cell c0 (by simp; exact ⟨hne.1, hne.2.1⟩), by rw [← HM.out]; exact x1, by rw [← HN1.out]; exact HO.out.cell c2 (by simp; exact ⟨hne.1, hne.2.1⟩), HEB.out, HWB.out, Fw.done HW.out HA2.out (by rw [← HE.out]; have := HGE.out; have := HN1.out; omega) (by have := HM.out; omega) HQ.out HA.out, hz2, hn, hne⟩, HO.out⟩
end
/-- stretches of places that are all there -/
def DpsL (w : World) (n : Nat) (v : Value) (w' : World) : Prop :=
  ∃ z ba bw : Nat, v = .agg #[.int .i64 z, .slice (some ⟨ba, 0, none⟩) (n / z + 1) (n / z + 1), .slice (some ⟨bw, 0, none⟩) (n + 1) (n + 1)] ∧ EB .i64 3 w' ba (zs (List.replicate (n / z + 1) 0)) ∧ EB .i64 3 w' bw (zs (List.replicate (n + 1) 0)) ∧ (1 ≤ z ∧ z ≤ 9000) ∧ (w.heap.size ≤ ba ∧ w.heap.size ≤ bw ∧ ba ≠ bw) ∧ Below w.heap.size w w'
noncomputable def dropsD : TypeDesc := (Tryz.prog.underlying 91).get (by kernel_rfl)
theorem made_zero (m : Nat) (hm : m ≤ 10000) (w : World) : (Instr.makeSlice 87 (.int .i64 (m : Int)) (.int .i64 (m : Int))).run Tryz.prog w = .ok (.slice (some ⟨w.heap.size, 0, none⟩) m m) (w.alloc (.cells ((zs (List.replicate m 0)).map (Value.int .i64)).toArray 3)) := by
  have := made_anyP info_intP (by decide) (by decide) under_intsP w m m (by omega) (by omega)
  rw [this, show zs (List.replicate m 0) = zs (layO 0 m) by rw [layO_zero]; simp [zs], ← made_ints]
  rfl
theorem three (w : World) (a b c : Obj) : (((w.alloc a).alloc b).alloc c).heap[w.heap.size]? = some a ∧ (((w.alloc a).alloc b).alloc c).heap[w.heap.size + 1]? = some b ∧ (((w.alloc a).alloc b).alloc c).heap[w.heap.size + 1 + 1]? = some c ∧ Below w.heap.size w (((w.alloc a).alloc b).alloc c) := by
  refine ⟨?_, ?_, ?_, (((Below.refl _ w).alloc (Nat.le_refl _) _).alloc (by simp) _).alloc (by simp; omega) _⟩
  · exact (Below.heap_alloc _ _ _ (by simp; omega)).trans ((Below.heap_alloc _ _ _ (by simp)).trans (heap_alloc_new w _))
  · have := heap_alloc_new (w.alloc a) b
    rw [World.size_alloc] at this
    exact (Below.heap_alloc _ _ _ (by simp)).trans this
  · have := heap_alloc_new ((w.alloc a).alloc b) c
    rw [World.size_alloc, World.size_alloc] at this
    exact this
theorem drops_end {w X : World} {n z k ba bw : Nat} (hk : k = n / z) (h1 : EB .i64 3 X ba (zs (List.replicate (k + 1) 0))) (h2 : EB .i64 3 X bw (zs (List.replicate (n + 1) 0))) (hz : 1 ≤ z ∧ z ≤ 9000) (hb : w.heap.size < ba ∧ w.heap.size < bw) (hne : ba ≠ bw) (hB : Below w.heap.size w X) :
    ∃ v, Ending.returned (.agg #[.int .i64 z, .slice (some ⟨ba, 0, none⟩) (k + 1) (k + 1), .slice (some ⟨bw, 0, none⟩) (n + 1) (n + 1)]) = .returned v ∧ DpsL w n v X := by
  subst hk
  exact ⟨_, rfl, z, ba, bw, rfl, h1, h2, hz, ⟨by omega, by omega, hne⟩, hB⟩
set_option maxRecDepth 100000 in
set_option maxHeartbeats 1600000 in
theorem dropsOf_any (w : World) (n : Nat) (hn : n ≤ 8192) :
    Calls Tryz.prog 127 #[.int .i64 n] w fun e w' => ∃ v, e = .returned v ∧ DpsL w n v w' := by
  go_enter Tryz.func127, Tryz.ntmps127
  go_wp2
  go_loopw [3] (fun sv wr => ∃ z : Nat, 1 ≤ z ∧ z ≤ n + 1 ∧ sv = .int .i64 z ∧ wr = w.alloc (.cells #[.int .i64 0, .slice none 0 0, .slice none 0 0] 91)) (fun sv _ => n + 2 - (intOf sv).toNat)
  case atStart => exact ⟨1, by omega, by omega, rfl, rfl⟩
  case round =>
    obtain ⟨z, h1, h2, rfl, rfl⟩ := hrel
    obtain ⟨zz, hzz⟩ : ∃ zz, zz = z * z := ⟨_, rfl⟩
    have hmul : (z : Int) * (z : Int) = (zz : Int) := by rw [hzz]; simp
    have hzle : z ≤ zz := by rw [hzz]; exact Nat.le_mul_of_pos_left z h1
    have hzb : zz ≤ 8193 * 8193 := by rw [hzz]; exact Nat.mul_le_mul (by omega) (by omega)
    clear hzz
    by_cases hlt : zz ≤ n
    · have hltz : (zz : Int) ≤ n := by omega
      go_wp2
      go_roundw
      case rel => exact ⟨z + 1, by omega, by omega, by go_num, by trivial⟩
      case measure => simp [intOf]; omega
    · have hltz : ¬ (zz : Int) ≤ n := by omega
      have hdiv : (n : Int) / (z : Int) = ((n / z : Nat) : Int) := by rw [Int.natCast_ediv]
      have htdiv : (n : Int).tdiv (z : Int) = ((n / z : Nat) : Int) := by rw [Int.tdiv_eq_ediv_of_nonneg (by omega), Int.natCast_ediv]
      have hz0 : ¬ (z : Int) = 0 := by omega
      have hnz : n / z ≤ n := Nat.div_le_self _ _
      obtain ⟨k, hk⟩ : ∃ k, k = n / z := ⟨_, rfl⟩
      have HK := Lib.hid hk
      rw [← hk] at hdiv htdiv hnz
      have hm1 : ∀ w : World, (Instr.makeSlice 87 (.int .i64 ((k : Int) + 1)) (.int .i64 ((k : Int) + 1))).run Tryz.prog w = .ok (.slice (some ⟨w.heap.size, 0, none⟩) (k + 1) (k + 1)) (w.alloc (.cells ((zs (List.replicate (k + 1) 0)).map (Value.int .i64)).toArray 3)) := fun w => made_zero (k + 1) (by omega) w
      have hm2 : ∀ w : World, (Instr.makeSlice 87 (.int .i64 ((n : Int) + 1)) (.int .i64 ((n : Int) + 1))).run Tryz.prog w = .ok (.slice (some ⟨w.heap.size, 0, none⟩) (n + 1) (n + 1)) (w.alloc (.cells ((zs (List.replicate (n + 1) 0)).map (Value.int .i64)).toArray 3)) := fun w => made_zero (n + 1) (by omega) w
      generalize hF : ((zs (List.replicate (k + 1) 0)).map (Value.int .i64)).toArray = F at hm1
      generalize hG : ((zs (List.replicate (n + 1) 0)).map (Value.int .i64)).toArray = G at hm2
      have HF := Lib.hid hF
      have HG := Lib.hid hG
      clear hF hG hk
      go_upto_region 4 with fail
      go_region
      · go_wp2_with fail
        obtain ⟨f0, f1, f2, f3⟩ := three w (.cells #[.int .i64 z, .slice (some ⟨w.heap.size + 1, 0, none⟩) (k + 1) (k + 1), .slice (some ⟨w.heap.size + 1 + 1, 0, none⟩) (n + 1) (n + 1)] 91) (.cells F 3) (.cells G 3)
        have g0 : EV 91 (World.drew (((w.alloc (.cells #[.int .i64 z, .slice (some ⟨w.heap.size + 1, 0, none⟩) (k + 1) (k + 1), .slice (some ⟨w.heap.size + 1 + 1, 0, none⟩) (n + 1) (n + 1)] 91)).alloc (.cells F 3)).alloc (.cells G 3))) w.heap.size [.int .i64 z, .slice (some ⟨w.heap.size + 1, 0, none⟩) (k + 1) (k + 1), .slice (some ⟨w.heap.size + 1 + 1, 0, none⟩) (n + 1) (n + 1)] := f0
        refine bodyPost_ret (results_cell_row (p := 2) (ty := 91) rfl _ _ w.heap.size _ _ _ dropsD rfl g0 (Option.some_get _).symm (by kernel_rfl) (by kernel_rfl)) rfl ?_
        exact drops_end HK.out (by show _ = some (Obj.cells _ _ _); rw [HF.out]; exact f1) (by show _ = some (Obj.cells _ _ _); rw [HG.out]; exact f2) (by omega) (by omega) (by omega) f3.drew
      · go_wp2_with fail
        obtain ⟨f0, f1, f2, f3⟩ := three w (.cells #[.int .i64 z, .slice (some ⟨w.heap.size + 1 + 1, 0, none⟩) (k + 1) (k + 1), .slice (some ⟨w.heap.size + 1, 0, none⟩) (n + 1) (n + 1)] 91) (.cells G 3) (.cells F 3)
        have g0 : EV 91 (World.drew (((w.alloc (.cells #[.int .i64 z, .slice (some ⟨w.heap.size + 1 + 1, 0, none⟩) (k + 1) (k + 1), .slice (some ⟨w.heap.size + 1, 0, none⟩) (n + 1) (n + 1)] 91)).alloc (.cells G 3)).alloc (.cells F 3))) w.heap.size [.int .i64 z, .slice (some ⟨w.heap.size + 1 + 1, 0, none⟩) (k + 1) (k + 1), .slice (some ⟨w.heap.size + 1, 0, none⟩) (n + 1) (n + 1)] := f0
        refine bodyPost_ret (results_cell_row (p := 2) (ty := 91) rfl _ _ w.heap.size _ _ _ dropsD rfl g0 (Option.some_get _).symm (by kernel_rfl) (by kernel_rfl)) rfl ?_
        exact drops_end HK.out (by show _ = some (Obj.cells _ _ _); rw [HF.out]; exact f2) (by show _ = some (Obj.cells _ _ _); rw [HG.out]; exact f1) (by omega) (by omega) (by omega) f3.drew
end Go.Proofs.YtajpboclicnopaaGreat
