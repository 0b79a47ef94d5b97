/-
  A list put in order by halves: the plain function, and sort.order that goes by it. No condition but those typed at each theorem.
-/
import Derived.Test.YtomchimjogdkkaaMerge
import Derived.Deep.RegionHeld3
import Derived.Laws.CopyOwn
import Derived.IntWalk
namespace Go.Proofs.Ytomchimjogdkkaa
open Go.RowKit

/-- both halves put in order and made one -/
def ord (ah : Int → Int → Bool) (ps : List Int) : List Int :=
  if ps.length ≤ 1 then ps else mrg ah (ord ah (ps.take (ps.length / 2))) (ord ah (ps.drop (ps.length / 2)))
termination_by ps.length
decreasing_by all_goals (simp; omega)
/-- how many are written -/
def wrt (n : Nat) : Nat := if n ≤ 1 then 0 else wrt (n / 2) + wrt (n - n / 2) + n
theorem wrt_le (k : Nat) : ∀ n, n ≤ 2 ^ k → wrt n ≤ k * n := by
  induction k with
  | zero => intro n h; rw [wrt]; simp at h; simp [h]
  | succ k ih =>
    intro n h
    rw [wrt]
    split
    · omega
    · have h1 := ih (n / 2) (by omega)
      have h2 := ih (n - n / 2) (by omega)
      have h3 : k * (n / 2) + k * (n - n / 2) = k * n := by rw [← Nat.mul_add]; congr 1; omega
      rw [Nat.succ_mul]
      omega
theorem ord_len (ah : Int → Int → Bool) (ps : List Int) : (ord ah ps).length = ps.length := by
  fun_induction ord ah ps with
  | case1 => rfl
  | case2 ps h ih1 ih2 => rw [mrg_len, ih1, ih2]; simp; omega

theorem ord_perm (ah : Int → Int → Bool) (ps : List Int) : (ord ah ps).Perm ps := by
  fun_induction ord ah ps with
  | case1 => exact List.Perm.refl _
  | case2 ps h ih1 ih2 => exact ((mrg_perm ah _ _).trans (ih1.append ih2)).trans (List.take_append_drop _ _ ▸ List.Perm.refl _)

theorem spl_get {L : List Int} {o : Nat} {zs : List Int} (h : o + zs.length ≤ L.length) (j : Nat) : (spl L o zs)[j]? = if j < o then L[j]? else if j < o + zs.length then zs[j - o]? else L[j]? := by
  unfold spl
  have h1 : (L.take o).length = o := by simp; omega
  rw [List.append_assoc, List.getElem?_append, h1, List.getElem?_append]
  by_cases h2 : j < o
  · simp [h2]
  · by_cases h3 : j < o + zs.length
    · simp [h2, h3, show j - o < zs.length by omega]
    · simp [h2, h3, show ¬ j - o < zs.length by omega]
      congr 1
      omega
theorem seg_spl {L : List Int} {o : Nat} {zs : List Int} (h : o + zs.length ≤ L.length) : Seg (spl L o zs) o zs := by
  intro j x e
  have hj : j < zs.length := (List.getElem?_eq_some_iff.1 e).1
  rw [spl_get h]
  simp [show ¬ o + j < o by omega, show o + j < o + zs.length by omega, e]
theorem Seg.behind {L : List Int} {o p : Nat} {zs xs : List Int} (h : o + zs.length ≤ L.length) (hs : Seg L p xs) (hp : o + zs.length ≤ p) : Seg (spl L o zs) p xs := by
  intro j x e
  rw [spl_get h]
  simp [show ¬ p + j < o by omega, show ¬ p + j < o + zs.length by omega, hs j x e]
theorem Seg.before {L : List Int} {o p : Nat} {zs xs : List Int} (h : o + zs.length ≤ L.length) (hs : Seg L p xs) (hp : p + xs.length ≤ o) : Seg (spl L o zs) p xs := by
  intro j x e
  have hj : j < xs.length := (List.getElem?_eq_some_iff.1 e).1
  rw [spl_get h]
  simp [show p + j < o by omega, hs j x e]
theorem Seg.take {L : List Int} {o : Nat} {xs : List Int} (hs : Seg L o xs) (n : Nat) : Seg L o (xs.take n) := by
  intro j x e
  rw [List.getElem?_take] at e
  split at e
  · exact hs j x e
  · cases e
theorem Seg.drop {L : List Int} {o : Nat} {xs : List Int} (hs : Seg L o xs) (n : Nat) : Seg L (o + n) (xs.drop n) := by
  intro j x e
  rw [List.getElem?_drop] at e
  rw [Nat.add_assoc]
  exact hs _ x e
theorem spl3 {L a b c : List Int} {o : Nat} (hc : c.length = a.length + b.length) (h : o + c.length ≤ L.length) : spl (spl (spl L o a) (o + a.length) b) o c = spl L o c := by
  have h1 : o + a.length ≤ L.length := by omega
  have e1 := spl_len h1
  have h2 : o + a.length + b.length ≤ (spl L o a).length := by omega
  have e2 := spl_len h2
  apply List.ext_getElem?
  intro j
  rw [spl_get (by omega), spl_get h, spl_get h2, spl_get h1]
  by_cases q1 : j < o
  · simp [q1, show j < o + a.length by omega]
  · by_cases q2 : j < o + c.length
    · simp [q1, q2]
    · simp [q1, q2, show ¬ j < o + a.length by omega, show ¬ j < o + a.length + b.length by omega]

/-- order is done -/
def Od (ah : Int → Int → Bool) (w : World) (A oa R : Nat) (L RL ps : List Int) (e : Ending) (w' : World) : Prop :=
  e = .returned (.int .i64 (wrt ps.length)) ∧ EB .i64 3 w' A (spl L oa (ord ah ps)) ∧ (∃ RL', RL'.length = RL.length ∧ EB .i64 3 w' R RL') ∧ Off [A, R] w w'

theorem spl_map (L : List Int) (o : Nat) (zs : List Int) : (splice (L.map (Value.int .i64)) o (zs.map (Value.int .i64))) = (spl L o zs).map (Value.int .i64) := by
  simp [splice, spl]
theorem wpList_cp {ops : Array Oper} {rest : List Oper} {op : Oper} {a : Act} {Q : Exit → Act → World → Prop} {w : World} (hgd : op.guard = none) (d s : Operand)
    (ho : op.op = .call { callee := .builtin .copy, args := #[d, s], argTypes := #[27, 27] }) (A oa n ca R ro cr : Nat) (L RL M : List Int)
    (hd : a.eval d = .slice (some ⟨A, oa, none⟩) n ca) (hs : a.eval s = .slice (some ⟨R, ro, none⟩) n cr) (hL : EB .i64 3 w A L) (hR : EB .i64 3 w R RL) (hM : Seg RL ro M) (hn : M.length = n) (hoa : oa + n ≤ L.length) (hRA : R ≠ A)
    (h : ∀ w', EB .i64 3 w' A (spl L oa M) → EB .i64 3 w' R RL → Off [A] w w' → wpList Try.prog ops Q rest (a.put op.dst (goInt n)) w') : wpList Try.prog ops Q (op :: rest) a w := by
  have hsrc : ∀ j v, (M.map (Value.int .i64))[j]? = some v → w.cell? ((⟨R, ro, none⟩ : Addr).add j) = some v := by
    intro j v e
    rw [List.getElem?_map] at e
    cases hx : M[j]? with
    | none => rw [hx] at e; cases e
    | some x =>
      rw [hx] at e
      cases e
      rw [show ((⟨R, ro, none⟩ : Addr).add j) = ⟨R, ro + j, none⟩ by unfold Addr.add; split <;> simp_all]
      exact hR.cell (hM j x hx)
  have hO : ∀ cs, Off [A] w (w.setRow A cs) := fun cs => ⟨rfl, rfl, rfl, by simp, fun k _ hk => setRow_other w A k cs (by simpa using hk)⟩
  refine wpList_copy_own hgd d s 27 27 ho 3 Try.underlying27 (by kernel_rfl) A oa n ca ⟨R, ro, none⟩ n cr hd hs _ 3 hL (M.map (Value.int .i64)) (by simp [hn]) hsrc (by simp; omega) (by intro v hv; simp at hv; obtain ⟨x, _, rfl⟩ := hv; rfl) ?_
  have := h (w.setRow A ((spl L oa M).map (Value.int .i64)).toArray) (setRow_heap w A _ _ 3 _ hL) (hR.off (hO _) (by simpa using hRA)) (hO _)
  simpa [← spl_map, splice, hn] using this

theorem mem_l {k A R : Nat} (h : k ∈ [A]) : k ∈ [A, R] := by simp at h; simp [h]
theorem sl_lo (X : World) (p : Option Addr) (n c h m : Nat) (hm : m ≤ c) (hh : h ≤ m) : (Instr.slice 27 (.slice p n c) none (some (.int .i64 h)) (some (.int .i64 m))).run Try.prog X = .ok (.slice p h m) X := by
  obtain ⟨i0, hi, hz0, hz1, hz2⟩ := info_parts Try.info3
  simp [Instr.slice, run_underlying Try.underlying27, Instr.sliceBounds, Instr.sliceBound, asIntOf, sizeOf, typeInfo, hi, hm, hh]
  cases p <;> simp [Addr.add_zero']
theorem sl_mid (X : World) (A o n c l h m : Nat) (hm : m ≤ c) (hh : h ≤ m) (hl : l ≤ h) (hlm : l < m) : (Instr.slice 27 (.slice (some ⟨A, o, none⟩) n c) (some (.int .i64 l)) (some (.int .i64 h)) (some (.int .i64 m))).run Try.prog X = .ok (.slice (some ⟨A, o + l, none⟩) (h - l) (m - l)) X := by
  obtain ⟨i0, hi, hz0, hz1, hz2⟩ := info_parts Try.info3
  have h3 : ¬ m = l := by omega
  simp [Instr.slice, run_underlying Try.underlying27, Instr.sliceBounds, Instr.sliceBound, asIntOf, sizeOf, typeInfo, hi, hz1, hm, hh, hl, h3, Addr.add_lit]

set_option maxRecDepth 100000 in
set_option maxHeartbeats 6400000 in
theorem order_any (w0 : World) (N A R g : Nat) (lb : Array Value) (ah : Int → Int → Bool) (D : Int → Int → Prop)
    (eg : ∀ args w, (callFunc g args).run Try.prog w = .ok (.enter g args) w) (hA : AH ah D N w0 g lb) (hNA : N ≤ A) (hNR : N ≤ R) (hRA : R ≠ A) :
    ∀ n, ∀ (w : World) (oa ca ro rc : Nat) (L RL ps : List Int), ps.length = n → n ≤ 4096 → Below N w0 w → N ≤ w.heap.size → EB .i64 3 w A L → EB .i64 3 w R RL → Seg L oa ps → (∀ y ∈ ps, ∀ x ∈ ps, D y x) →
      oa + n ≤ L.length → ro + n ≤ RL.length → n ≤ ca → n ≤ rc → ca ≤ 17179869184 → rc ≤ 17179869184 →
      Calls Try.prog 26 #[.slice (some ⟨A, oa, none⟩) n ca, .slice (some ⟨R, ro, none⟩) n rc, .func (.func g) #[] lb] w (Od ah w A oa R L RL ps) := by
  intro n
  induction n using Nat.strongRecOn with
  | ind n IH =>
  intro w oa ca ro rc L RL ps hn hn4 hw0 hN hL hR hseg hD hoa hro hca hrc hcb hrb
  by_cases hsm : n ≤ 1
  · go_enter Try.func26, Try.ntmps26
    go_wp2
    go_ret
    refine ⟨?_, ?_, ⟨RL, rfl, hR⟩, Off.refl _ _⟩
    · rw [hn, wrt]; simp [hsm]
    · rw [ord]
      have : spl L oa ps = L := by
        apply List.ext_getElem?
        intro j
        rw [spl_get (by omega)]
        by_cases q1 : j < oa
        · simp [q1]
        · by_cases q2 : j < oa + ps.length
          · simp [q1, q2]
            have := hseg (j - oa) _ (List.getElem?_eq_getElem (by omega))
            rw [show oa + (j - oa) = j by omega] at this
            rw [this, List.getElem?_eq_getElem (by omega)]
          · simp [q1, q2]
      simp [hn, hsm, this]
      exact hL
  obtain ⟨h, hh⟩ : ∃ h, h = n / 2 := ⟨_, rfl⟩
  have e1 : (n : Int).tdiv 2 = (h : Int) := by rw [hh]; rfl
  have e2 : (n : Int) / 2 = (h : Int) := by omega
  have hh1 : 1 ≤ h ∧ h < n := by omega
  have l1 : (ps.take h).length = h := by simp; omega
  have l2 : (ps.drop h).length = n - h := by simp; omega
  obtain ⟨m, hm⟩ : ∃ m, m = n - h := ⟨_, rfl⟩
  have hm1 : h + m = n := by omega
  have C1 := Lib.hid (fun X (hX : Below N w0 X) (hXN : N ≤ X.heap.size) (a : EB .i64 3 X A L) (b : EB .i64 3 X R RL) => IH h (by omega) X oa h ro h L RL (ps.take h) l1 (by omega) hX hXN a b (hseg.take h) (fun y hy x hx => hD y (List.mem_of_mem_take hy) x (List.mem_of_mem_take hx)) (by omega) (by omega) (Nat.le_refl _) (Nat.le_refl _) (by omega) (by omega))
  have C2 := Lib.hid (fun X L1 RL1 (hX : Below N w0 X) (hXN : N ≤ X.heap.size) (a : EB .i64 3 X A L1) (b : EB .i64 3 X R RL1) (c : Seg L1 (oa + h) (ps.drop h)) (d : L1.length = L.length) (e : RL1.length = RL.length) => IH m (by omega) X (oa + h) m (ro + h) m L1 RL1 (ps.drop h) (by omega) (by omega) hX hXN a b c (fun y hy x hx => hD y (List.mem_of_mem_drop hy) x (List.mem_of_mem_drop hx)) (by omega) (by omega) (Nat.le_refl _) (Nat.le_refl _) (by omega) (by omega))
  clear IH
  have HD := Lib.hid hD
  have HS := Lib.hid hseg
  have HL := Lib.hid hL
  have HR := Lib.hid hR
  have HW0 := Lib.hid hw0
  have HLN := Lib.hid hn
  have HH := Lib.hid hh
  have HM := Lib.hid hm
  clear hD hseg hL hR hw0 hn hh hm
  go_enter Try.func26, Try.ntmps26
  go_upto_region 5 with fail
  have hm' : n - h = m := by omega
  have hmz : (n : Int) - h = m := by omega
  have hmt : ((n : Int) - h).toNat = m := by omega
  have hnm : ¬ m = 0 := by omega
  have lo1 : (ord ah (ps.take h)).length = h := by rw [ord_len]; exact l1
  have lo2 : (ord ah (ps.drop h)).length = m := by rw [ord_len]; omega
  have hwr : wrt n = wrt h + wrt m + n := by rw [wrt]; simp [hsm, ← HH.out, hm']
  have hw1 := wrt_le 12 h (by omega)
  have hw2 := wrt_le 12 m (by omega)
  have hD1 : ∀ y, y ∈ ord ah (ps.drop h) → y ∈ ps := fun y hy => List.mem_of_mem_drop ((ord_perm ah _).mem_iff.1 hy)
  have hD2 : ∀ y, y ∈ ord ah (ps.take h) → y ∈ ps := fun y hy => List.mem_of_mem_take ((ord_perm ah _).mem_iff.1 hy)
  have C3 := Lib.hid (fun X L2 RL2 (hX : Below N w0 X) (hXN : N ≤ X.heap.size) (a : EB .i64 3 X A L2) (b : EB .i64 3 X R RL2) (c : Seg L2 oa (ord ah (ps.take h))) (d : Seg L2 (oa + h) (ord ah (ps.drop h))) (e : RL2.length = RL.length) =>
    merge_any X w0 N R ro n A oa h (oa + h) m g lb RL2 L2 (ord ah (ps.take h)) (ord ah (ps.drop h)) ah D eg hA hX ⟨hNR, hXN⟩ hRA b a c d (fun y hy x hx => HD.out y (hD1 y hy) x (hD2 x hx)) (by omega) (by omega) (by omega) (by omega) (by omega))
  rw [lo1, lo2] at C3
  have HO1 := Lib.hid lo1
  have HO2 := Lib.hid lo2
  have HWR := Lib.hid hwr
  have HL2 := Lib.hid l2
  clear lo1 lo2 hwr hD1 hD2 l2
  have s1 := fun X => sl_lo X (some ⟨A, oa, none⟩) n ca h h (by omega) (by omega)
  have s2 := fun X => sl_mid X A oa n ca h n n (by omega) (by omega) (by omega) (by omega)
  have s3 := fun X => sl_lo X (some ⟨R, ro, none⟩) n rc h h (by omega) (by omega)
  have s4 := fun X => sl_mid X R ro n rc h n n (by omega) (by omega) (by omega) (by omega)
  rw [hm'] at s2 s4
  go_region_held3 (fun _ => True) (exact trivial) (first | fail)
  go_upto_region 6 with fail
  have hin := Lib.hid (show ∀ k ∈ [A, R], N ≤ k by simp [hNA, hNR])
  have hDD := Lib.hid (C1.out w.drew.drew ⟨HW0.out.os, HW0.out.tape, HW0.out.output, HW0.out.size, HW0.out.block⟩ hN HL.out HR.out)
  clear C1
  have K2 := Lib.hid (fun w1 RL1 (h1 : EB .i64 3 w1 A (spl L oa (ord ah (ps.take h)))) (h2 : EB .i64 3 w1 R RL1) (h3 : RL1.length = RL.length) (h4 : Off [A, R] w w1) =>
    C2.out w1 _ RL1 (HW0.out.trans (h4.below hN hin.out)) (Nat.le_trans hN h4.size) h1 h2 (Seg.behind (by have := HO1.out; omega) (HS.out.drop h) (by have := HO1.out; omega)) (spl_len (by have := HO1.out; omega)) h3)
  clear C2
  have hOw : Off [A, R] w w.drew.drew := ⟨rfl, rfl, rfl, Nat.le_refl _, fun _ _ _ => rfl⟩
  have HOW := Lib.hid hOw
  clear hOw
  have L1 := Lib.hid l1
  clear l1
  have hwrap : IntKind.i64.wrap ((wrt h : Int) + (wrt m : Int)) = ((wrt h + wrt m : Nat) : Int) := by
    rw [IntWalk.i64_in _ (by omega)]; simp
  go_region_held3 (fun _ => True) (exact trivial) (first
    | (go_at_call 26; (with_reducible refine hDD.out.mono ?_); rintro e w1 ⟨rfl, hE1, ⟨RL1, hl1, hR1⟩, hO1⟩; rw [L1.out]; have HE1 := Lib.hid hE1; have HR1 := Lib.hid hR1; have HLL1 := Lib.hid hl1; have HOF1 := Lib.hid (HOW.out.trans hO1); clear hE1 hR1 hO1 hl1)
    | (go_at_call 26; (with_reducible refine (K2.out w1 RL1 HE1.out HR1.out HLL1.out HOF1.out).mono ?_); rintro e w2 ⟨rfl, hE2, ⟨RL2, hl2, hR2⟩, hO2⟩; rw [HL2.out, hm']; have HE2 := Lib.hid hE2; have HR2 := Lib.hid hR2; have HLL2 := Lib.hid (hl2.trans HLL1.out); have HOF2 := Lib.hid (HOF1.out.trans hO2); clear hE2 hR2 hO2 hl2))
  have hE2' := HE2.out
  have C3' := Lib.hid (C3.out w2 _ RL2 (HW0.out.trans (HOF2.out.below hN hin.out)) (Nat.le_trans hN HOF2.out.size) HE2.out HR2.out (Seg.before (by rw [spl_len (by have := HO1.out; omega), HO2.out]; omega) (seg_spl (by have := HO1.out; omega)) (by have := HO1.out; omega)) (seg_spl (by rw [spl_len (by have := HO1.out; omega), HO2.out]; omega)) HLL2.out)
  have s5 := fun X => sl_lo X (some ⟨R, ro, none⟩) n rc 0 n (by omega) (by omega)
  have hw12 : wrt h + wrt m ≤ 200000 := by omega
  have hM : (mrg ah (ord ah (ps.take h)) (ord ah (ps.drop h))).length = n := by rw [mrg_len, HO1.out, HO2.out, hm1]
  have HMM := Lib.hid hM
  have hA2 : (spl (spl L oa (ord ah (ps.take h))) (oa + h) (ord ah (ps.drop h))).length = L.length := by
    rw [spl_len (by rw [spl_len (by have := HO1.out; omega), HO2.out]; omega), spl_len (by have := HO1.out; omega)]
  have HS3 := Lib.hid (seg_spl (L := RL2) (o := ro) (zs := mrg ah (ord ah (ps.take h)) (ord ah (ps.drop h))) (by rw [HLL2.out, hM]; omega))
  have HA2 := Lib.hid (show oa + n ≤ (spl (spl L oa (ord ah (ps.take h))) (oa + h) (ord ah (ps.drop h))).length by rw [hA2]; exact hoa)
  clear hM hA2 hE2'
  go_wp2_with (first
    | (go_at_call 31; (with_reducible refine C3'.out.mono ?_); rintro e w3 ⟨rfl, hR3, hA3, hO3⟩; rw [HO1.out, HO2.out, hm1]; have HR3 := Lib.hid hR3; have HA3 := Lib.hid hA3; have HOF3 := Lib.hid (HOF2.out.via hO3 (fun k _ hk => List.mem_cons_of_mem _ hk)); clear hR3 hA3 hO3)
    | (refine wpList_cp rfl (.tmp 51) (.tmp 52) rfl A oa n ca R ro n _ _ _ rfl rfl HA3.out HR3.out HS3.out HMM.out HA2.out hRA ?_; intro w4 hA4 hR4 hO4; have HA4 := Lib.hid hA4; have HR4 := Lib.hid hR4; have HOF4 := Lib.hid (HOF3.out.via hO4 (fun k _ hk => mem_l hk)); clear hA4 hR4 hO4))
  go_ret
  refine ⟨?_, ?_, ⟨_, ?_, HR4.out⟩, HOF4.out⟩
  · have := HWR.out
    rw [HLN.out, this]
    simp
  · have := HA4.out
    rw [show oa + h = oa + (ord ah (ps.take h)).length by rw [HO1.out], spl3 (by rw [mrg_len]) (by have := HMM.out; omega)] at this
    rw [ord, if_neg (by rw [HLN.out]; exact hsm), HLN.out, ← HH.out]
    exact this
  · rw [spl_len (by have := HLL2.out; have := HMM.out; omega)]
    exact HLL2.out
end Go.Proofs.Ytomchimjogdkkaa
