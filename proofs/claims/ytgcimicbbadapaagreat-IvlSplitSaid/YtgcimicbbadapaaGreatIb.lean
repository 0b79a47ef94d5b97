/-
  Looked for by halves among spans in some order; a line's drop. No condition but those typed at each theorem.
-/
import Derived.Test.YtgcimicbbadapaaGreatIl
import Derived.Test.YtgcimicbbadapaaGreatMLook
namespace Go.Proofs.YtgcimicbbadapaaGreat.Iv
open Go.RowKit

/-- an order: what stands ahead of another does not stand behind it; nothing stands ahead of itself; the list is in that order -/
structure Ordd (cf : S3 → S3 → Int) (L : List S3) : Prop where
  asym : ∀ s t, cf s t < 0 → ¬ cf t s < 0
  rise : ∀ (i j : Nat) s t, i < j → L[i]? = some s → L[j]? = some t → cf s t < 0
/-- x's place is among those that are left -/
def Lft (L : List S3) (x : S3) (i j : Nat) : Prop := ∀ m, L[m]? = some x → i ≤ m ∧ m ≤ j
theorem Lft.up {cf : S3 → S3 → Int} {L : List S3} {x s : S3} {i j h : Nat} (hL : Ordd cf L) (H : Lft L x i j) (hs : L[h]? = some s) (hc : cf s x < 0) : Lft L x (h + 1) j := by
  intro m hm
  refine ⟨?_, (H m hm).2⟩
  rcases Nat.lt_trichotomy m h with g | g | g
  · exact absurd hc (hL.asym _ _ (hL.rise m h x s g hm hs))
  · subst g
    rw [hm] at hs
    injection hs with hs
    subst hs
    exact absurd hc (hL.asym _ _ hc)
  · exact g
theorem Lft.down {cf : S3 → S3 → Int} {L : List S3} {x s : S3} {i j h : Nat} (hL : Ordd cf L) (H : Lft L x i j) (hs : L[h]? = some s) (hc : ¬ cf s x < 0) : Lft L x i h := by
  intro m hm
  refine ⟨(H m hm).1, ?_⟩
  rcases Nat.lt_or_ge h m with g | g
  · exact absurd (hL.rise h m s x g hs hm) hc
  · exact g

/-- what the search comes to: the place, whether what stands there is as x is -/
def bsO (cf : S3 → S3 → Int) (L : List S3) (x : S3) (m : Nat) : Bool := !decide (cf (L.getD m (0, 0, 0)) x < 0)
def bsI (cf : S3 → S3 → Int) (L : List S3) (x : S3) : Nat := (lk (bsO cf L x) L.length).1
def bsY (cf : S3 → S3 → Int) (L : List S3) (x : S3) : Bool := decide (bsI cf L x < L.length) && decide (cf (L.getD (bsI cf L x) (0, 0, 0)) x = 0)
theorem bsO_at {cf : S3 → S3 → Int} {L : List S3} {x s : S3} {m : Nat} (h : L[m]? = some s) : bsO cf L x m = !decide (cf s x < 0) := by
  unfold bsO; rw [List.getD_eq_getElem?_getD, h]; rfl

set_option maxRecDepth 100000 in
set_option maxHeartbeats 3200000 in
theorem bsearch_any (w : World) (p : Option Addr) (c : Nat) (L : List S3) (x : S3) (hx : TsS w p L) (hl : L.length ≤ 8192) (g : Nat) (lb : Array Value) (cf : S3 → S3 → Int) (eg : ∀ args w, (callFunc g args).run Tryz.prog w = .ok (.enter g args) w)
    (hA : ∀ X s t, Below w.heap.size w X → Calls Tryz.prog g (#[tv s, tv t] ++ lb) X fun e X' => e = .returned (.int .i64 (cf s t)) ∧ Below X.heap.size X X') (hL : Ordd cf L) :
    Calls Tryz.prog 53 #[.slice p L.length c, tv x, .func (.func g) #[] lb] w fun e w' => (e = .returned (.tuple #[.int .i64 (bsI cf L x : Nat), .bool (bsY cf L x)]) ∧ bsI cf L x ≤ L.length ∧ Lft L x (bsI cf L x) (bsI cf L x)) ∧ Below w.heap.size w w' := by
  have HX := Lib.hid hx
  have HA := Lib.hid hA
  have HL := Lib.hid hL
  obtain ⟨n, en⟩ : ∃ n, n = L.length := ⟨_, rfl⟩
  have EN := Lib.hid en
  obtain ⟨xl, xh, xi⟩ := x
  have H0 : Hid (Lft L (xl, xh, xi) 0 n) := Lib.hid (fun m hm => ⟨Nat.zero_le _, by have := (List.getElem?_eq_some_iff.1 hm).1; omega⟩)
  obtain ⟨r0, hr0⟩ : ∃ r0, r0 = bsI cf L (xl, xh, xi) := ⟨_, rfl⟩
  obtain ⟨y0, hy0⟩ : ∃ y0, y0 = bsY cf L (xl, xh, xi) := ⟨_, rfl⟩
  have HK0 : Hid (∃ k, (lkGo (bsO cf L (xl, xh, xi)) 0 n k).1 = r0) := Lib.hid ⟨0, by rw [hr0, en]; rfl⟩
  have HY0 : Hid (y0 = (decide (r0 < n) && decide (cf (L.getD r0 (0, 0, 0)) (xl, xh, xi) = 0))) := Lib.hid (by rw [hy0, hr0, en]; rfl)
  rw [← hr0, ← hy0]
  clear hr0 hy0
  change Calls _ _ #[_, .agg #[.int .i64 xl, .int .i64 xh, .int .u32 xi], _] w _
  rw [← en] at hl ⊢
  clear hx hA hL en
  go_enter Tryz.func53, Tryz.ntmps53
  have HT := Lib.hid (T1.new w (xl, xh, xi) 34)
  have HB0 := Lib.hid ((Below.refl w.heap.size w).alloc (Nat.le_refl _) (.cells (tvs (xl, xh, xi)).toArray 34))
  go_wp2
  change Hid (T1 (w.alloc (.cells #[.int .i64 xl, .int .i64 xh, .int .u32 xi] 34)) _ _ _) at HT
  change Hid (Below w.heap.size w (w.alloc (.cells #[.int .i64 xl, .int .i64 xh, .int .u32 xi] 34))) at HB0
  have hsz0 : w.heap.size < (w.alloc (.cells #[.int .i64 xl, .int .i64 xh, .int .u32 xi] 34)).heap.size := by simp
  generalize (w.alloc (.cells #[.int .i64 xl, .int .i64 xh, .int .u32 xi] 34)) = W at *
  go_loopw [9, 10] (fun iv jv wr => ∃ i j : Nat, iv = .int .i64 i ∧ jv = .int .i64 j ∧ i ≤ j ∧ j ≤ n ∧ Hid (∃ k, (lkGo (bsO cf L (xl, xh, xi)) i j k).1 = r0) ∧ Hid (Lft L (xl, xh, xi) i j) ∧ Hid (Below W.heap.size W wr)) (fun iv jv _ => (intOf jv).toNat - (intOf iv).toNat)
  case atStart => exact ⟨0, n, rfl, rfl, Nat.zero_le _, Nat.le_refl _, HK0, H0, Lib.hid (Below.refl _ _)⟩
  case round =>
    obtain ⟨i, j, rfl, rfl, hij, hjn, HK, HLF, HB⟩ := hrel
    have HBw := Lib.hid (HB0.out.trans (HB.out.mono (by omega)))
    by_cases hlt : i < j
    · have hltz : (i : Int) < j := by omega
      obtain ⟨h, hh⟩ : ∃ h : Nat, h = (i + j) / 2 := ⟨_, rfl⟩
      have e1 : ((i : Int) + j) / 2 = (h : Int) := by omega
      have hih : i ≤ h ∧ h < j := by omega
      have hhn : h < n := by omega
      obtain ⟨s, hse⟩ : ∃ s, L[h]? = some s := ⟨_, List.getElem?_eq_getElem (by have := EN.out; omega)⟩
      have HSE := Lib.hid hse
      obtain ⟨bb, off, rfl, ht⟩ := (HX.out.keep HBw.out).at hse
      have a0 : ∀ z : Wd (Bw wr), z.w.cell? ⟨bb, off + h * 3, none⟩ = _ := fun z => Bw.cell z ht.c0
      have a1 : ∀ z : Wd (Bw wr), z.w.cell? ⟨bb, off + h * 3 + 1, none⟩ = _ := fun z => Bw.cell z ht.c1
      have a2 : ∀ z : Wd (Bw wr), z.w.cell? ⟨bb, off + h * 3 + 2, none⟩ = _ := fun z => Bw.cell z ht.c2
      have hx' := HT.out.keep HB.out HT.out.lt
      have a3 : ∀ z : Wd (Bw wr), z.w.cell? ⟨w.heap.size, 0, none⟩ = _ := fun z => Bw.cell z hx'.c0
      have a4 : ∀ z : Wd (Bw wr), z.w.cell? ⟨w.heap.size, 1, none⟩ = _ := fun z => Bw.cell z hx'.c1
      have a5 : ∀ z : Wd (Bw wr), z.w.cell? ⟨w.heap.size, 2, none⟩ = _ := fun z => Bw.cell z hx'.c2
      obtain ⟨sl, sh, si⟩ := s
      have HC : Hid (∀ X, Below wr.heap.size wr X → Calls Tryz.prog g (#[.agg #[.int .i64 sl, .int .i64 sh, .int .u32 si], .agg #[.int .i64 xl, .int .i64 xh, .int .u32 xi]] ++ lb) X fun e X' => e = .returned (.int .i64 (cf (sl, sh, si) (xl, xh, xi))) ∧ Below X.heap.size X X') := Lib.hid (fun X hb => HA.out X (sl, sh, si) (xl, xh, xi) (HBw.out.trans (hb.mono HBw.out.size)))
      have inst : Nonempty (Wd (Bw wr)) := ⟨⟨wr, Below.refl _ _⟩⟩
      obtain ⟨y, hy⟩ : ∃ y, y = cf (sl, sh, si) (xl, xh, xi) := ⟨_, rfl⟩
      rw [← hy] at HC
      have HY := Lib.hid hy
      have HH := Lib.hid (show i + (j - i) / 2 = h by omega)
      clear hse ht hx' hh hy
      go_upto_region 5 with fail
      refine wp_region_wd (Bw wr) (by kernel_rfl) (by kernel_rfl) ((Below.refl _ wr).drew) ?_
      repeat (first
        | go_big_quiet_step (first | (go_at_fn g; exact calls_wd (fun _ _ h hb => h.keep hb) _ (HC.out _ (Wd.h _))))
        | quiet_step (first | (go_at_fn g; exact calls_wd (fun _ _ h hb => h.keep hb) _ (HC.out _ (Wd.h _)))))
      refine wpQuiet_nil ?_
      rintro _ ⟨z, rfl⟩
      have HB2 := Lib.hid (HB.out.trans (z.h.mono HB.out.size))
      by_cases hc : y < 0
      · go_wp2
        go_roundw
        case rel => exact ⟨h + 1, j, by go_num, rfl, by omega, hjn, Lib.hid (by obtain ⟨k, hk⟩ := HK.out; rw [lkGo_no _ _ hlt (by rw [HH.out, bsO_at HSE.out, ← HY.out]; simpa using hc), HH.out] at hk; exact ⟨_, hk⟩), Lib.hid (Lft.up HL.out HLF.out HSE.out (by rw [← HY.out]; exact hc)), HB2⟩
        case measure => simp [intOf]; omega
      · go_wp2
        go_roundw
        case rel => exact ⟨i, h, rfl, by go_num, by omega, by omega, Lib.hid (by obtain ⟨k, hk⟩ := HK.out; rw [lkGo_yes _ _ hlt (by rw [HH.out, bsO_at HSE.out, ← HY.out]; simpa using hc), HH.out] at hk; exact ⟨_, hk⟩), Lib.hid (Lft.down HL.out HLF.out HSE.out (by rw [← HY.out]; exact hc)), HB2⟩
        case measure => simp [intOf]; omega
    · have hltz : ¬ (i : Int) < j := by omega
      obtain rfl : i = j := by omega
      obtain rfl : i = r0 := by obtain ⟨k, hk⟩ := HK.out; rw [lkGo_end _ _ hlt] at hk; exact hk
      by_cases hin : i < n
      · have hinz : (i : Int) < n := by omega
        obtain ⟨s, hse⟩ : ∃ s, L[i]? = some s := ⟨_, List.getElem?_eq_getElem (by have := EN.out; omega)⟩
        have HSE := Lib.hid hse
        obtain ⟨bb, off, rfl, ht⟩ := (HX.out.keep HBw.out).at hse
        have a0 : ∀ z : Wd (Bw wr), z.w.cell? ⟨bb, off + i * 3, none⟩ = _ := fun z => Bw.cell z ht.c0
        have a1 : ∀ z : Wd (Bw wr), z.w.cell? ⟨bb, off + i * 3 + 1, none⟩ = _ := fun z => Bw.cell z ht.c1
        have a2 : ∀ z : Wd (Bw wr), z.w.cell? ⟨bb, off + i * 3 + 2, none⟩ = _ := fun z => Bw.cell z ht.c2
        have hx' := HT.out.keep HB.out HT.out.lt
        have a3 : ∀ z : Wd (Bw wr), z.w.cell? ⟨w.heap.size, 0, none⟩ = _ := fun z => Bw.cell z hx'.c0
        have a4 : ∀ z : Wd (Bw wr), z.w.cell? ⟨w.heap.size, 1, none⟩ = _ := fun z => Bw.cell z hx'.c1
        have a5 : ∀ z : Wd (Bw wr), z.w.cell? ⟨w.heap.size, 2, none⟩ = _ := fun z => Bw.cell z hx'.c2
        obtain ⟨sl, sh, si⟩ := s
        have HC : Hid (∀ X, Below wr.heap.size wr X → Calls Tryz.prog g (#[.agg #[.int .i64 sl, .int .i64 sh, .int .u32 si], .agg #[.int .i64 xl, .int .i64 xh, .int .u32 xi]] ++ lb) X fun e X' => e = .returned (.int .i64 (cf (sl, sh, si) (xl, xh, xi))) ∧ Below X.heap.size X X') := Lib.hid (fun X hb => HA.out X (sl, sh, si) (xl, xh, xi) (HBw.out.trans (hb.mono HBw.out.size)))
        have inst : Nonempty (Wd (Bw wr)) := ⟨⟨wr, Below.refl _ _⟩⟩
        obtain ⟨y, hy⟩ : ∃ y, y = cf (sl, sh, si) (xl, xh, xi) := ⟨_, rfl⟩
        rw [← hy] at HC
        have HYY : Hid (y0 = decide (y = 0)) := Lib.hid (by rw [HY0.out, List.getD_eq_getElem?_getD, hse, hy]; simp [hin])
        clear hse ht hx' hy
        go_upto_region 8 with fail
        refine wp_region_wd (Bw wr) (by kernel_rfl) (by kernel_rfl) ((Below.refl _ wr).drew) ?_
        repeat (first
          | go_big_quiet_step (first | (go_at_fn g; exact calls_wd (fun _ _ h hb => h.keep hb) _ (HC.out _ (Wd.h _))))
          | quiet_step (first | (go_at_fn g; exact calls_wd (fun _ _ h hb => h.keep hb) _ (HC.out _ (Wd.h _)))))
        refine wpQuiet_nil ?_
        rintro _ ⟨z, rfl⟩
        have HB2 := Lib.hid (HBw.out.trans (z.h.mono HBw.out.size))
        go_wp2
        go_ret2
        exact ⟨⟨by rw [HYY.out]; rfl, HLF.out⟩, HB2.out⟩
      · have hinz : ¬ (i : Int) < n := by omega
        have inst : Nonempty (Wd (Bw wr)) := ⟨⟨wr, Below.refl _ _⟩⟩
        go_upto_region 8 with fail
        refine wp_region_wd (Bw wr) (by kernel_rfl) (by kernel_rfl) ((Below.refl _ wr).drew) ?_
        repeat (first | go_big_quiet_step (fail) | quiet_step (fail))
        refine wpQuiet_nil ?_
        rintro _ ⟨z, rfl⟩
        have HB2 := Lib.hid (HBw.out.trans (z.h.mono HBw.out.size))
        go_wp2
        go_ret2
        exact ⟨⟨by rw [HY0.out]; simp [hin], HLF.out⟩, HB2.out⟩
end Go.Proofs.YtgcimicbbadapaaGreat.Iv
