/-
  Layer 11's sameIDs, the document's answers Has and Count, the law's asked over any tree. No condition but those typed at each theorem.
-/
import Derived.Test.YtfcpfffgodljeaaGreatMP
import Derived.Test.YtfcpfffgodljeaaGreatMQ
namespace Go.Proofs.YtfcpfffgodljeaaGreat.Ca
open Go.RowKit

set_option maxRecDepth 100000 in
set_option maxHeartbeats 3200000 in
theorem sameIDs_any (w : World) (p q : Option Addr) (ca cb : Nat) (xs ys : List Int) (hx : NS w p .u32 xs) (hy : NS w q .u32 ys) (hn : xs.length ≤ 8192) :
    Calls Tryz.prog 36 #[.slice p xs.length ca, .slice q ys.length cb] w fun e w' => e = .returned (.bool (decide (xs = ys))) ∧ Below w.heap.size w w' := by
  by_cases hlen : xs.length = ys.length
  · have HX := Lib.hid hx
    have HY := Lib.hid hy
    obtain ⟨d, hd⟩ : ∃ d, d = xs.length := ⟨_, rfl⟩
    have HD := Lib.hid hd
    have HD2 := Lib.hid (hd.trans hlen)
    rw [← hlen, ← hd]
    rw [← hd] at hn
    clear hx hy hlen hd
    go_enter Tryz.func36, Tryz.ntmps36
    go_wp2
    go_loopw [13] (fun i wr => ∃ k : Nat, k ≤ d ∧ i = .int .i64 k ∧ Hid (xs.take k = ys.take k) ∧ Hid (Below w.heap.size w wr)) (fun i _ => d - (intOf i).toNat)
    case atStart => exact ⟨0, Nat.zero_le _, rfl, Lib.hid rfl, Lib.hid (Below.refl _ _)⟩
    case round =>
      obtain ⟨k, hk, rfl, HT, HB⟩ := hrel
      by_cases hlt : k < d
      · have hltz : (k : Int) < d := by omega
        obtain ⟨x, hxe⟩ : ∃ x, xs[k]? = some x := ⟨_, List.getElem?_eq_getElem (by have := HD.out; omega)⟩
        obtain ⟨y, hye⟩ : ∃ y, ys[k]? = some y := ⟨_, List.getElem?_eq_getElem (by have := HD2.out; omega)⟩
        rcases HX.out with h0 | ⟨b1, o1, rfl, h1⟩
        · rw [h0] at hxe; simp at hxe
        · rcases HY.out with h0 | ⟨b2, o2, rfl, h2⟩
          · rw [h0] at hye; simp at hye
          · have cx : wr.cell? ⟨b1, o1 + k, none⟩ = some (.int .u32 x) := (HB.out.cell (World.block_lt_of_cell? w _ (h1 k x hxe))).trans (h1 k x hxe)
            have cy : wr.cell? ⟨b2, o2 + k, none⟩ = some (.int .u32 y) := (HB.out.cell (World.block_lt_of_cell? w _ (h2 k y hye))).trans (h2 k y hye)
            have HXE := Lib.hid hxe
            have HYE := Lib.hid hye
            clear hxe hye h1 h2
            go_upto_region 6 with fail
            go_quiet (fail)
            by_cases hxy : x = y
            · go_wp2
              go_roundw
              case rel =>
                refine ⟨k + 1, by omega, by go_num, Lib.hid ?_, Lib.hid (drewB HB.out)⟩
                rw [List.take_add_one, List.take_add_one, HT.out, HXE.out, HYE.out, hxy]
              case measure => simp [intOf]; omega
            · go_wp2
              go_ret
              refine ⟨retB ?_, drewB HB.out⟩
              simp
              intro e
              have h1 := HXE.out
              rw [e, HYE.out] at h1
              exact hxy (Option.some.inj h1).symm
      · obtain rfl : k = d := by omega
        have hltz : ¬ (k : Int) < k := by omega
        go_wp2
        go_ret
        refine ⟨retB ?_, HB.out⟩
        have h1 := HT.out
        rw [List.take_of_length_le (by have := HD.out; omega), List.take_of_length_le (by have := HD2.out; omega)] at h1
        simp [h1]
  · have hne : ¬ (xs.length : Int) = ys.length := by omega
    have hne2 : xs ≠ ys := fun e => hlen (by rw [e])
    have HNE := Lib.hid hne2
    clear hx hy hlen hne2
    generalize hd : xs.length = d at *
    generalize he : ys.length = d' at *
    clear hd he
    go_enter Tryz.func36, Tryz.ntmps36
    go_wp2
    go_ret
    exact ⟨retB (by simpa using HNE.out), Below.refl _ _⟩

set_option maxRecDepth 100000 in
set_option maxHeartbeats 1600000 in
theorem RHas11 (w : World) (p : Option Addr) (c : Nat) (L : List S3) (b : B5) (hx : TsS w p L) (hl : L.length ≤ 8192) :
    Calls Tryz.prog 55 #[.slice p L.length c, bv b] w fun e w' => ∃ v, e = .returned v ∧ w'.ownsRow w.heap.size 32 1 v (hsS L b.1).length ((hsS L b.1).map (Value.int .u32)) ∧ Below w.heap.size w w' := by
  obtain ⟨W, hW⟩ : ∃ W, W = w.alloc (.cells (bvs b).toArray 42) := ⟨_, rfl⟩
  have hWN := X1.new w b 42
  rw [← hW] at hWN
  have HWB := Lib.hid (show Below w.heap.size w W by rw [hW]; exact (Below.refl _ w).alloc (Nat.le_refl _) _)
  have HR := Lib.hid (RHas W p c L b (hx.keep HWB.out) hl)
  have m0 := hWN.c0
  have m1 := hWN.c1
  have m2 := hWN.c2
  have m3 := hWN.c3
  have m4 := hWN.c4
  simp only [Nat.zero_add] at m0 m1 m2 m3 m4
  have HW1 := Lib.hid hW
  clear hW hWN hx
  obtain ⟨⟨x1, x2, y1, y2⟩, bi⟩ := b
  unfold bv at *
  simp only at *
  generalize hsS L (x1, x2, y1, y2) = Z at *
  generalize L.length = l at *
  go_enter Tryz.func55, Tryz.ntmps55
  go_upto_block 0 with fail
  rw [show w.alloc (.cells #[.int .i64 x1, .int .i64 x2, .int .i64 y1, .int .i64 y2, .int .u32 bi] 42) = W from HW1.out.symm]
  go_wp2_with (go_at_call 41; (with_reducible refine HR.out.mono ?_); rintro e w1 ⟨v, rfl, hr, hb⟩; have HR1 := Lib.hid hr; have HB := Lib.hid (HWB.out.trans (hb.mono HWB.out.size)); clear hr hb)
  go_ret
  exact ⟨_, rfl, row_at HR1.out (fun q e => ⟨rfl, Nat.le_trans HWB.out.size (HR1.out.lt q e).1⟩), HB.out⟩

set_option maxRecDepth 100000 in
set_option maxHeartbeats 6400000 in
theorem corner_any (w : World) (p : Option Addr) (c : Nat) (L : List S3) (x y : Int) (wide high : Bool) (hx : TsS w p L) (hl : L.length ≤ 8192) :
    Calls Tryz.prog 87 #[.slice p L.length c, .int .i64 x, .int .i64 y, .bool wide, .bool high] w fun e w' => e = .returned (.int .i64 (cr L x y wide high : Nat)) ∧ Below w.heap.size w w' := by
  have HX := Lib.hid hx
  obtain ⟨d, hd⟩ : ∃ d, d = L.length := ⟨_, rfl⟩
  have HD := Lib.hid hd
  rw [← hd] at hl ⊢
  clear hd hx
  go_enter Tryz.func87, Tryz.ntmps87
  go_wp2
  go_loopw [11, 12] (fun v11 v12 wr => ∃ k : Nat, k ≤ d ∧ v12 = .int .i64 k ∧ v11 = .int .i64 (cr (L.take k) x y wide high : Nat) ∧ Hid (Below w.heap.size w wr)) (fun _ v _ => d - (intOf v).toNat)
  case atStart => exact ⟨0, Nat.zero_le _, rfl, rfl, Lib.hid (Below.refl _ _)⟩
  case round =>
    obtain ⟨k, hk, rfl, rfl, HB⟩ := hrel
    by_cases hlt : k < d
    · have hltz : (k : Int) < d := by omega
      obtain ⟨s, hse⟩ : ∃ s, L[k]? = some s := ⟨_, List.getElem?_eq_getElem (by have := HD.out; omega)⟩
      obtain ⟨b, off, rfl, h1⟩ := (HX.out.keep HB.out).at hse
      have n0 := h1.c0
      have n1 := h1.c1
      have HC := Lib.hid (show cr (L.take (k + 1)) x y wide high = cr (L.take k) x y wide high + (if crB x y wide high s then 1 else 0) by rw [List.take_add_one, hse]; exact cr_snoc _ _ _ _ _ _)
      have hcl := cr_len (L.take k) x y wide high
      rw [List.length_take] at hcl
      obtain ⟨px, py, pi⟩ := s
      simp only at n0 n1
      clear hse h1
      generalize cr (L.take k) x y wide high = cn at *
      by_cases h1 : px < x
      · have h1l : px ≤ x := by omega
        cases wide with
        | true =>
          by_cases h3 : py < y
          · have h3l : py ≤ y := by omega
            cases high with
            | true =>
              have HE := Lib.hid (HC.out.trans (by rw [if_pos (by simp [crB, h1l, h3l])]))
              go_wp2
              go_roundw
              case rel => exact ⟨k + 1, by omega, by go_num, by rw [HE.out]; go_num, HB⟩
              case measure => simp [intOf]; omega
            | false =>
              have HE := Lib.hid (HC.out.trans (by rw [if_pos (by simp [crB, h1l, h3])]))
              go_wp2
              go_roundw
              case rel => exact ⟨k + 1, by omega, by go_num, by rw [HE.out]; go_num, HB⟩
              case measure => simp [intOf]; omega
          · cases high with
            | false =>
              have HE := Lib.hid (HC.out.trans (by rw [if_neg (by simp [crB, h1l, h3]), Nat.add_zero]))
              go_wp2
              go_roundw
              case rel => exact ⟨k + 1, by omega, by go_num, by rw [HE.out], HB⟩
              case measure => simp [intOf]; omega
            | true =>
              by_cases h4 : py = y
              · have h4l : py ≤ y := by omega
                have HE := Lib.hid (HC.out.trans (by rw [if_pos (by simp [crB, h1l, h4l])]))
                go_wp2
                go_roundw
                case rel => exact ⟨k + 1, by omega, by go_num, by rw [HE.out]; go_num, HB⟩
                case measure => simp [intOf]; omega
              · have h4l : ¬ py ≤ y := by omega
                have HE := Lib.hid (HC.out.trans (by rw [if_neg (by simp [crB, h1l, h4l]), Nat.add_zero]))
                go_wp2
                go_roundw
                case rel => exact ⟨k + 1, by omega, by go_num, by rw [HE.out], HB⟩
                case measure => simp [intOf]; omega
        | false =>
          by_cases h3 : py < y
          · have h3l : py ≤ y := by omega
            cases high with
            | true =>
              have HE := Lib.hid (HC.out.trans (by rw [if_pos (by simp [crB, h1, h3l])]))
              go_wp2
              go_roundw
              case rel => exact ⟨k + 1, by omega, by go_num, by rw [HE.out]; go_num, HB⟩
              case measure => simp [intOf]; omega
            | false =>
              have HE := Lib.hid (HC.out.trans (by rw [if_pos (by simp [crB, h1, h3])]))
              go_wp2
              go_roundw
              case rel => exact ⟨k + 1, by omega, by go_num, by rw [HE.out]; go_num, HB⟩
              case measure => simp [intOf]; omega
          · cases high with
            | false =>
              have HE := Lib.hid (HC.out.trans (by rw [if_neg (by simp [crB, h1, h3]), Nat.add_zero]))
              go_wp2
              go_roundw
              case rel => exact ⟨k + 1, by omega, by go_num, by rw [HE.out], HB⟩
              case measure => simp [intOf]; omega
            | true =>
              by_cases h4 : py = y
              · have h4l : py ≤ y := by omega
                have HE := Lib.hid (HC.out.trans (by rw [if_pos (by simp [crB, h1, h4l])]))
                go_wp2
                go_roundw
                case rel => exact ⟨k + 1, by omega, by go_num, by rw [HE.out]; go_num, HB⟩
                case measure => simp [intOf]; omega
              · have h4l : ¬ py ≤ y := by omega
                have HE := Lib.hid (HC.out.trans (by rw [if_neg (by simp [crB, h1, h4l]), Nat.add_zero]))
                go_wp2
                go_roundw
                case rel => exact ⟨k + 1, by omega, by go_num, by rw [HE.out], HB⟩
                case measure => simp [intOf]; omega
      · cases wide with
        | false =>
          have HE := Lib.hid (HC.out.trans (by rw [if_neg (by simp [crB, h1]), Nat.add_zero]))
          go_wp2
          go_roundw
          case rel => exact ⟨k + 1, by omega, by go_num, by rw [HE.out], HB⟩
          case measure => simp [intOf]; omega
        | true =>
          by_cases h2 : px = x
          · have h2l : px ≤ x := by omega
            by_cases h3 : py < y
            · have h3l : py ≤ y := by omega
              cases high with
              | true =>
                have HE := Lib.hid (HC.out.trans (by rw [if_pos (by simp [crB, h2l, h3l])]))
                go_wp2
                go_roundw
                case rel => exact ⟨k + 1, by omega, by go_num, by rw [HE.out]; go_num, HB⟩
                case measure => simp [intOf]; omega
              | false =>
                have HE := Lib.hid (HC.out.trans (by rw [if_pos (by simp [crB, h2l, h3])]))
                go_wp2
                go_roundw
                case rel => exact ⟨k + 1, by omega, by go_num, by rw [HE.out]; go_num, HB⟩
                case measure => simp [intOf]; omega
            · cases high with
              | false =>
                have HE := Lib.hid (HC.out.trans (by rw [if_neg (by simp [crB, h2l, h3]), Nat.add_zero]))
                go_wp2
                go_roundw
                case rel => exact ⟨k + 1, by omega, by go_num, by rw [HE.out], HB⟩
                case measure => simp [intOf]; omega
              | true =>
                by_cases h4 : py = y
                · have h4l : py ≤ y := by omega
                  have HE := Lib.hid (HC.out.trans (by rw [if_pos (by simp [crB, h2l, h4l])]))
                  go_wp2
                  go_roundw
                  case rel => exact ⟨k + 1, by omega, by go_num, by rw [HE.out]; go_num, HB⟩
                  case measure => simp [intOf]; omega
                · have h4l : ¬ py ≤ y := by omega
                  have HE := Lib.hid (HC.out.trans (by rw [if_neg (by simp [crB, h2l, h4l]), Nat.add_zero]))
                  go_wp2
                  go_roundw
                  case rel => exact ⟨k + 1, by omega, by go_num, by rw [HE.out], HB⟩
                  case measure => simp [intOf]; omega
          · have h2l : ¬ px ≤ x := by omega
            have HE := Lib.hid (HC.out.trans (by rw [if_neg (by simp [crB, h2l]), Nat.add_zero]))
            go_wp2
            go_roundw
            case rel => exact ⟨k + 1, by omega, by go_num, by rw [HE.out], HB⟩
            case measure => simp [intOf]; omega
    · obtain rfl : k = d := by omega
      have hltz : ¬ (k : Int) < k := by omega
      have hcr : cr (L.take k) x y wide high = cr L x y wide high := by rw [List.take_of_length_le (by have := HD.out; omega)]
      rw [hcr]
      go_wp2
      go_ret
      exact ⟨rfl, HB.out⟩

set_option maxRecDepth 100000 in
set_option maxHeartbeats 6400000 in
theorem RCount (w : World) (p : Option Addr) (c : Nat) (L : List S3) (b : B5) (hx : TsS w p L) (hl : L.length ≤ 8192) :
    Calls Tryz.prog 56 #[.slice p L.length c, bv b] w fun e w' => e = .returned (.int .i64 (hsS L b.1).length) ∧ Below w.heap.size w w' := by
  obtain ⟨W, hW⟩ : ∃ W, W = w.alloc (.cells (bvs b).toArray 42) := ⟨_, rfl⟩
  have hWN := X1.new w b 42
  rw [← hW] at hWN
  have HWB := Lib.hid (show Below w.heap.size w W by rw [hW]; exact (Below.refl _ w).alloc (Nat.le_refl _) _)
  have HWN := Lib.hid hWN
  have HLT := Lib.hid hWN.lt
  have HCO := Lib.hid (fun X x y wide high (hX : Below w.heap.size w X) => corner_any X p c L x y wide high (hx.keep hX) hl)
  have hcl := cr_len L
  have m0 := hWN.c0
  have m1 := hWN.c1
  have m2 := hWN.c2
  have m3 := hWN.c3
  simp only [Nat.zero_add] at m0 m1 m2 m3
  have HW1 := Lib.hid hW
  obtain ⟨⟨x1, x2, y1, y2⟩, bi⟩ := b
  have HCR := Lib.hid (fun hx hy => hs_cr L (x1 := x1) (x2 := x2) (y1 := y1) (y2 := y2) hx hy)
  have HNO := Lib.hid (fun h => hs_none L (x1 := x1) (x2 := x2) (y1 := y1) (y2 := y2) h)
  clear hW hWN hx
  unfold bv at *
  simp only at *
  generalize hsS L (x1, x2, y1, y2) = Z at *
  have h22 := hcl x2 y2 true true
  have h12 := hcl x1 y2 false true
  have h21 := hcl x2 y1 true false
  have h11 := hcl x1 y1 false false
  clear hcl
  have HC22 := Lib.hid (fun X hX => HCO.out X x2 y2 true true hX)
  have HC12 := Lib.hid (fun X hX => HCO.out X x1 y2 false true hX)
  have HC21 := Lib.hid (fun X hX => HCO.out X x2 y1 true false hX)
  have HC11 := Lib.hid (fun X hX => HCO.out X x1 y1 false false hX)
  clear HCO
  generalize cr L x2 y2 true true = n22 at *
  generalize cr L x1 y2 false true = n12 at *
  generalize cr L x2 y1 true false = n21 at *
  generalize cr L x1 y1 false false = n11 at *
  generalize L.length = l at *
  by_cases h1 : x1 ≤ x2
  · have h1' : ¬ x2 < x1 := by omega
    by_cases h2 : y1 ≤ y2
    · have h2' : ¬ y2 < y1 := by omega
      have hz := HCR.out h1 h2
      go_enter Tryz.func56, Tryz.ntmps56
      go_upto_block 0 with fail
      rw [show w.alloc (.cells #[.int .i64 x1, .int .i64 x2, .int .i64 y1, .int .i64 y2, .int .u32 bi] 42) = W from HW1.out.symm]
      go_upto_region 3 with fail
      have inst : Nonempty (Wd (Bw W)) := ⟨⟨W, Below.refl _ _⟩⟩
      have a0 : ∀ z : Wd (Bw W), z.w.cell? ⟨w.heap.size, 0, none⟩ = some (.int .i64 x1) := fun z => (HWN.out.keep z.h HLT.out).c0
      have a1 : ∀ z : Wd (Bw W), z.w.cell? ⟨w.heap.size, 1, none⟩ = some (.int .i64 x2) := fun z => by have := (HWN.out.keep z.h HLT.out).c1; simpa using this
      have a2 : ∀ z : Wd (Bw W), z.w.cell? ⟨w.heap.size, 2, none⟩ = some (.int .i64 y1) := fun z => by have := (HWN.out.keep z.h HLT.out).c2; simpa using this
      have a3 : ∀ z : Wd (Bw W), z.w.cell? ⟨w.heap.size, 3, none⟩ = some (.int .i64 y2) := fun z => by have := (HWN.out.keep z.h HLT.out).c3; simpa using this
      have HA := Lib.hid (fun z : Wd (Bw W) => HC22.out z.w (HWB.out.trans (z.h.mono HWB.out.size)))
      have HB2 := Lib.hid (fun z : Wd (Bw W) => HC12.out z.w (HWB.out.trans (z.h.mono HWB.out.size)))
      have HC2 := Lib.hid (fun z : Wd (Bw W) => HC21.out z.w (HWB.out.trans (z.h.mono HWB.out.size)))
      have HD2 := Lib.hid (fun z : Wd (Bw W) => HC11.out z.w (HWB.out.trans (z.h.mono HWB.out.size)))
      refine wp_region_wd (Bw W) (by kernel_rfl) (by kernel_rfl) ((Below.refl _ W).drew) ?_
      repeat (first
        | go_big_quiet_step (first | (go_at_call 87; with_reducible exact calls_wd (fun _ _ h hb => h.keep hb) _ (HA.out _)) | (go_at_call 87; with_reducible exact calls_wd (fun _ _ h hb => h.keep hb) _ (HB2.out _)) | (go_at_call 87; with_reducible exact calls_wd (fun _ _ h hb => h.keep hb) _ (HC2.out _)) | (go_at_call 87; with_reducible exact calls_wd (fun _ _ h hb => h.keep hb) _ (HD2.out _)))
        | quiet_step (fail))
      refine wpQuiet_nil ?_
      rintro _ ⟨z, rfl⟩
      go_wp2
      go_ret
      refine ⟨?_, HWB.out.trans (z.h.mono HWB.out.size)⟩
      rw [hz]
      rfl
    · have h2' : y2 < y1 := by omega
      have hz := HNO.out (fun h => h2 h.2)
      subst hz
      go_enter Tryz.func56, Tryz.ntmps56
      go_upto_block 0 with fail
      rw [show w.alloc (.cells #[.int .i64 x1, .int .i64 x2, .int .i64 y1, .int .i64 y2, .int .u32 bi] 42) = W from HW1.out.symm]
      go_wp2
      go_ret
      exact ⟨rfl, HWB.out⟩
  · have h1' : x2 < x1 := by omega
    have hz := HNO.out (fun h => h1 h.1)
    subst hz
    go_enter Tryz.func56, Tryz.ntmps56
    go_upto_block 0 with fail
    rw [show w.alloc (.cells #[.int .i64 x1, .int .i64 x2, .int .i64 y1, .int .i64 y2, .int .u32 bi] 42) = W from HW1.out.symm]
    go_wp2
    go_ret
    exact ⟨rfl, HWB.out⟩

section
variable {TS : World → Value → Nat → List Nat → List S3 → Prop} {X X' : World} {v : Value} {n : Nat} {S : List Nat} {A : List S3}
set_option maxRecDepth 100000 in
set_option maxHeartbeats 6400000 in
theorem asked_any (C : CascC TS) (h : TS X v n S A) (p q : Option Addr) (c d : Nat) (L : List S3) (xs : List B5) (hL : TsS X p L) (hx : BsS X q xs) (hw : ∀ x ∈ xs, Wf5 x) (hl : L.length ≤ 8192) (hxl : xs.length ≤ 8192) (hp : A.Perm L) :
    Calls Tryz.prog 31 #[v, .slice p L.length c, .slice q xs.length d] X fun e X' => e = .returned (.bool true) ∧ Below X.heap.size X X' := by
  have HN := Lib.hid (fun Y (hb : Below X.heap.size X Y) => by have := C.len (C.bel h hb); rw [hp.length_eq] at this; exact this)
  have HRH := Lib.hid (fun Y b (hb : Below X.heap.size X Y) => RHas11 Y p c L b (hL.keep hb) hl)
  have HRC := Lib.hid (fun Y b (hb : Below X.heap.size X Y) => RCount Y p c L b (hL.keep hb) hl)
  have HRE := Lib.hid (fun Y (b : B5) (hb : Below X.heap.size X Y) (hw : Wf5 b) => by have := C.report b (C.bel h hb) hw; rw [hsS_perm hp] at this; exact this)
  have HCO := Lib.hid (fun Y (b : B5) (hb : Below X.heap.size X Y) (hw : Wf5 b) => by have := C.count b (C.bel h hb) hw; rw [hsS_perm hp] at this; exact this)
  have HF := Lib.hid (show ∀ z, (hsS L z).length ≤ 8192 from fun z => Nat.le_trans (hsS_len L z) hl)
  have HX := Lib.hid hx
  have HW := Lib.hid hw
  obtain ⟨m, hm⟩ : ∃ m, m = xs.length := ⟨_, rfl⟩
  have HM := Lib.hid hm
  rw [← hm] at hxl ⊢
  clear h hL hx hw hm hp
  generalize hll : L.length = l at *
  clear hll
  go_enter Tryz.func31, Tryz.ntmps31
  go_wp2
  go_loopw [15] (fun i wr => ∃ k : Nat, k ≤ m ∧ i = .int .i64 k ∧ Hid (Below X.heap.size X wr)) (fun i _ => m - (intOf i).toNat)
  case atStart => exact ⟨0, Nat.zero_le _, rfl, Lib.hid (Below.refl _ _)⟩
  case round =>
    obtain ⟨k, hk, rfl, HB⟩ := hrel
    by_cases hlt : k < m
    · have hltz : (k : Int) < m := by omega
      obtain ⟨b, hbe⟩ : ∃ b, xs[k]? = some b := ⟨_, List.getElem?_eq_getElem (by have := HM.out; omega)⟩
      obtain ⟨bb, off, rfl, h1⟩ := (HX.out.keep HB.out).at hbe
      have HWB := Lib.hid (HW.out b (List.mem_of_getElem? hbe))
      have n0 := h1.c0
      have n1 := h1.c1
      have n2 := h1.c2
      have n3 := h1.c3
      have n4 := h1.c4
      obtain ⟨W, hW⟩ : ∃ W, W = wr.alloc (.cells (bvs b).toArray 42) := ⟨_, rfl⟩
      have HN1 := Lib.hid (show X1 W wr.heap.size 0 b by rw [hW]; exact X1.new wr b _)
      have HBW := Lib.hid (show Below X.heap.size X W by rw [hW]; exact HB.out.alloc HB.out.size _)
      have HLT := Lib.hid HN1.out.lt
      have HS1 := Lib.hid (fun Y (h : Below X.heap.size X Y) => HRE.out Y b h HWB.out)
      have HS2 := Lib.hid (fun Y (h : Below X.heap.size X Y) => HCO.out Y b h HWB.out)
      have HS3 := Lib.hid (fun Y (h : Below X.heap.size X Y) => HRH.out Y b h)
      have HS4 := Lib.hid (fun Y (h : Below X.heap.size X Y) => HRC.out Y b h)
      have HI : Hid (∀ X q1 c1 q2 c2, NS X q1 .u32 (hsS L b.1) → NS X q2 .u32 (hsS L b.1) → Calls Tryz.prog 36 #[.slice q1 (hsS L b.1).length c1, .slice q2 (hsS L b.1).length c2] X fun e w' => e = .returned (.bool true) ∧ Below X.heap.size X w') := Lib.hid (fun X q1 c1 q2 c2 h1 h2 => by
        refine (sameIDs_any X q1 q2 c1 c2 _ _ h1 h2 (HF.out _)).mono ?_
        rintro e w' ⟨rfl, hb⟩
        exact ⟨by simp, hb⟩)
      clear hbe h1 HB
      obtain ⟨⟨x1, x2, y1, y2⟩, bi⟩ := b
      unfold bvs at hW
      unfold bv at HS1 HS2 HS3 HS4
      simp only at n0 n1 n2 n3 n4 HS1 HS2 HS3 HS4 HI
      have HW1 := Lib.hid hW
      clear hW
      generalize hsS L (x1, x2, y1, y2) = Z at *
      have HRU := Lib.hid (show ∀ (Y : World) r, RL Y r Z → ∃ q c, r = .slice q Z.length c ∧ NS Y q .u32 Z from fun Y r h => by obtain ⟨q, c, h1, h2, -⟩ := h; exact ⟨q, c, h1, h2⟩)
      generalize hzl : Z.length = zl at *
      clear hzl
      have m0 := HN1.out.c0
      have m1 := HN1.out.c1
      have m2 := HN1.out.c2
      have m3 := HN1.out.c3
      have m4 := HN1.out.c4
      simp only [Nat.zero_add] at m0 m1 m2 m3 m4
      go_upto_region 4 with fail
      rw [← HW1.out]
      clear HW1 n0 n1 n2 n3 n4
      go_wp2_with (first
        | (go_at_call 34; (with_reducible refine (HS1.out _ HBW.out).mono ?_); rintro e w5 ⟨⟨r, t, rfl, hr, -, -⟩, hb⟩; obtain ⟨q1, c1, rfl, hq⟩ := HRU.out _ _ hr; have HQ1 := Lib.hid hq; have HN1 := Lib.hid (HN1.out.keep hb HLT.out); have HLT := Lib.hid HN1.out.lt; have k0 := HN1.out.c0; have k1 := HN1.out.c1; have k2 := HN1.out.c2; have k3 := HN1.out.c3; have k4 := HN1.out.c4; simp only [Nat.zero_add] at k0 k1 k2 k3 k4; have HB := Lib.hid (HBW.out.trans (hb.mono HBW.out.size)); clear hr hb hq)
        | (go_at_call 35; (with_reducible refine (HS2.out _ HB.out).mono ?_); rintro e w6 ⟨⟨t2, rfl, -⟩, hb⟩; have HQ1 := Lib.hid (HQ1.out.keep hb); have HN1 := Lib.hid (HN1.out.keep hb HLT.out); have HLT := Lib.hid HN1.out.lt; have k0 := HN1.out.c0; have k1 := HN1.out.c1; have k2 := HN1.out.c2; have k3 := HN1.out.c3; have k4 := HN1.out.c4; simp only [Nat.zero_add] at k0 k1 k2 k3 k4; have HB := Lib.hid (HB.out.trans (hb.mono HB.out.size)); clear hb)
        | (go_at_call 55; (with_reducible refine (HS3.out _ HB.out).mono ?_); rintro e w7 ⟨r, rfl, hr, hb⟩; obtain ⟨-, q2, cq2, rfl, hq, -⟩ := row_u hr; have HQ2 := Lib.hid hq; have HQ1 := Lib.hid (HQ1.out.keep hb); have HN1 := Lib.hid (HN1.out.keep hb HLT.out); have HLT := Lib.hid HN1.out.lt; have k0 := HN1.out.c0; have k1 := HN1.out.c1; have k2 := HN1.out.c2; have k3 := HN1.out.c3; have k4 := HN1.out.c4; simp only [Nat.zero_add] at k0 k1 k2 k3 k4; have HB := Lib.hid (HB.out.trans (hb.mono HB.out.size)); clear hr hb hq)
        | (go_at_call 36; (with_reducible refine (HI.out _ _ _ _ _ HQ1.out HQ2.out).mono ?_); rintro e w8 ⟨rfl, hb⟩; have HN1 := Lib.hid (HN1.out.keep hb HLT.out); have HLT := Lib.hid HN1.out.lt; have k0 := HN1.out.c0; have k1 := HN1.out.c1; have k2 := HN1.out.c2; have k3 := HN1.out.c3; have k4 := HN1.out.c4; simp only [Nat.zero_add] at k0 k1 k2 k3 k4; have HB := Lib.hid (HB.out.trans (hb.mono HB.out.size)); clear hb)
        | (go_at_call 56; (with_reducible refine (HS4.out _ HB.out).mono ?_); rintro e w9 ⟨rfl, hb⟩; have HB := Lib.hid (HB.out.trans (hb.mono HB.out.size)); clear hb))
      go_roundw
      case rel => exact ⟨k + 1, by omega, by go_num, HB⟩
      case measure => simp [intOf]; omega
    · have hltz : ¬ (k : Int) < m := by omega
      go_wp2_with (go_at_call 30; (with_reducible refine (HN.out _ HB.out).mono ?_); rintro e w1 ⟨rfl, hb⟩; have HB1 := Lib.hid (HB.out.trans (hb.mono HB.out.size)); clear hb)
      go_ret
      exact ⟨rfl, HB1.out⟩
end
end Go.Proofs.YtfcpfffgodljeaaGreat.Ca
/-
  The examples of layer 11's statements hold (awake), over any tree. No condition but those typed at each theorem.
-/
namespace Go.Proofs.YtfcpfffgodljeaaGreat.Ca
open Go.RowKit

def L0 : List S3 := [(0, 0, 1), (2, 5, 2), (2, 1, 3), (7, 3, 4)]
def L1 : List S3 := [(0, 0, 1), (2, 5, 2), (7, 3, 4)]
theorem rg0 : Rg L0 := by decide
theorem dr0 : drp L0 (2, 1, 3) = L1 := by decide
theorem wf0 : ∀ s ∈ L0, Wf3 s := by
  intro s hs
  simp [L0] at hs
  rcases hs with rfl | rfl | rfl | rfl <;> exact ⟨rfl, rfl, rfl⟩
/-- sameIDs with a list written beside -/
theorem same_new {X : World} {q : Option Addr} (c : Nat) (t : TypeId) (xs : List Int) (h : NS X q .u32 xs) (hl : xs.length ≤ 8192) :
    Calls Tryz.prog 36 #[.slice q xs.length c, .slice (some ⟨X.heap.size, 0, none⟩) xs.length xs.length] (X.alloc (.cells (xs.map (Value.int .u32)).toArray t)) fun e X' => e = .returned (.bool true) ∧ Below X.heap.size X X' := by
  have hb := (Below.refl _ X).alloc (Nat.le_refl _) (.cells (xs.map (Value.int .u32)).toArray t)
  refine (sameIDs_any _ q (some ⟨X.heap.size, 0, none⟩) c _ xs xs (h.keep hb) ((EB.new .u32 t X xs).eq (List.append_nil xs).symm).ns hl).mono ?_
  rintro e w' ⟨rfl, h2⟩
  exact ⟨by simp, hb.trans (h2.mono (by simp))⟩

set_option maxRecDepth 100000 in
set_option maxHeartbeats 6400000 in
theorem awake_any {TS : World → Value → Nat → List Nat → List S3 → Prop} (C : CascC TS) (w : World) : Calls Tryz.prog 28 #[] w fun e w' => e = .returned (.bool true) ∧ Below w.heap.size w w' := by
  have HBU : Hid (Calls Tryz.prog 29 #[.slice (some ⟨w.heap.size, 0, none⟩) 4 4] (w.alloc (.cells (flatT L0).toArray 34)) (Built TS (w.alloc (.cells (flatT L0).toArray 34)) L0)) := Lib.hid (C.build _ (some ⟨w.heap.size, 0, none⟩) 4 L0 (.inr ⟨_, 0, rfl, Ts.new w L0 _⟩) (by decide) (by decide) (fun h => by cases h) wf0)
  have hB0 := (Below.refl _ w).alloc (Nat.le_refl _) (.cells (flatT L0).toArray 34)
  have HB0 := Lib.hid hB0
  have HC1 : Hid (∀ X v n S, TS X v n S L0 → Calls Tryz.prog 35 #[v, bv ((0, 7, 0, 3), 0)] X fun e X' => (∃ t : Nat, e = .returned (.tuple #[.int .i64 3, .int .i64 t])) ∧ Below X.heap.size X X') := Lib.hid (fun X v n S h => by
    refine (C.count ((0, 7, 0, 3), 0) h ⟨⟨rfl, rfl, rfl, rfl⟩, rfl⟩).mono ?_
    rintro e w' ⟨⟨t, rfl, -⟩, hb⟩
    exact ⟨⟨t, rfl⟩, hb⟩)
  have HS1 : Hid (∀ X v n S, TS X v n S L0 → Calls Tryz.prog 34 #[v, bv ((0, 2, 1, 5), 0)] X fun e X' => (∃ q c, ∃ t : Nat, e = .returned (.tuple #[.slice q 2 c, .int .i64 t]) ∧ NS X' q .u32 [2, 3]) ∧ Below X.heap.size X X') := Lib.hid (fun X v n S h => by
    refine (C.report ((0, 2, 1, 5), 0) h ⟨⟨rfl, rfl, rfl, rfl⟩, rfl⟩).mono ?_
    rintro e w' ⟨⟨r, t, rfl, ⟨q, c, rfl, hq, -⟩, -, -⟩, hb⟩
    have e : hsS L0 (0, 2, 1, 5) = [2, 3] := by decide
    simp only at hq ⊢
    rw [e] at hq ⊢
    exact ⟨⟨q, c, t, rfl, hq⟩, hb⟩)
  have HS4 : Hid (∀ X v n S, TS X v n S L1 → Calls Tryz.prog 34 #[v, bv ((0, 2, 1, 5), 0)] X fun e X' => (∃ q c, ∃ t : Nat, e = .returned (.tuple #[.slice q 1 c, .int .i64 t]) ∧ NS X' q .u32 [2]) ∧ Below X.heap.size X X') := Lib.hid (fun X v n S h => by
    refine (C.report ((0, 2, 1, 5), 0) h ⟨⟨rfl, rfl, rfl, rfl⟩, rfl⟩).mono ?_
    rintro e w' ⟨⟨r, t, rfl, ⟨q, c, rfl, hq, -⟩, -, -⟩, hb⟩
    have e : hsS L1 (0, 2, 1, 5) = [2] := by decide
    simp only at hq ⊢
    rw [e] at hq ⊢
    exact ⟨⟨q, c, t, rfl, hq⟩, hb⟩)
  have HE2 := Lib.hid (fun X q c (h : NS X q .u32 [2, 3]) => same_new c 32 [2, 3] h (by decide))
  have HE1 := Lib.hid (fun X q c (h : NS X q .u32 [2]) => same_new c 32 [2] h (by decide))
  have HDR := Lib.hid (fun X v n S (h : TS X v n S L0) => C.drop (2, 1, 3) h ⟨rfl, rfl, rfl⟩)
  rw [dr0] at HDR
  have ht : decide (((2, 1, 3) : S3) ∈ L0) = true := by decide
  rw [ht] at HDR
  have hfl : (flatT L0).toArray = #[.int .i64 0, .int .i64 0, .int .u32 1, .int .i64 2, .int .i64 5, .int .u32 2, .int .i64 2, .int .i64 1, .int .u32 3, .int .i64 7, .int .i64 3, .int .u32 4] := rfl
  rw [hfl] at HBU HB0
  simp only [List.map_cons, List.map_nil, List.length_cons, List.length_nil, Nat.zero_add, Nat.reduceAdd] at HE1 HE2
  unfold tv at HDR
  unfold bv at HC1 HS1 HS4
  clear hB0 ht hfl
  go_enter Tryz.func28, Tryz.ntmps28
  go_upto_region 2 with (go_at_call 29; (with_reducible refine HBU.out.mono ?_); rintro e w1 ⟨hb, hor⟩; rcases hor with ⟨-, v, S, rfl, hT, hS⟩ | ⟨hn, -⟩; rotate_left; (exact absurd rg0 hn); have HT := Lib.hid hT; have HB := Lib.hid (HB0.out.trans (hb.mono HB0.out.size)); have HSS := Lib.hid (show ∀ k ∈ S, w.heap.size ≤ k from fun k hk => Nat.le_trans HB0.out.size (hS k hk)); clear hb hT hS)
  have HSL := Lib.hid (C.lies HT.out)
  obtain ⟨W, hW⟩ : ∃ W, W = w1.alloc (.cells (bvs ((0, 2, 1, 5), 0)).toArray 42) := ⟨_, rfl⟩
  have HN := Lib.hid (show X1 W w1.heap.size 0 ((0, 2, 1, 5), 0) by rw [hW]; exact X1.new w1 ((0, 2, 1, 5), 0) _)
  have HTW := Lib.hid (show TS W v _ S L0 by rw [hW]; exact C.bel HT.out ((Below.refl _ w1).alloc (Nat.le_refl _) _))
  have HBW := Lib.hid (show Below w.heap.size w W by rw [hW]; exact HB.out.alloc HB.out.size _)
  have HW1 := Lib.hid (show w1.alloc (.cells #[.int .i64 0, .int .i64 2, .int .i64 1, .int .i64 5, .int .u32 0] 42) = W from hW.symm)
  have HLT := Lib.hid HN.out.lt
  clear hW HT HB
  have HT := HTW
  have HB := HBW
  clear HTW HBW
  go_upto_region 3 with fail
  rw [HW1.out]
  clear HW1
  have k0 := HN.out.c0
  have k1 := HN.out.c1
  have k2 := HN.out.c2
  have k3 := HN.out.c3
  have k4 := HN.out.c4
  simp only [Nat.zero_add] at k0 k1 k2 k3 k4
  go_wp2_with (first
    | (go_at_call 34; (with_reducible refine (HS1.out _ _ _ _ HT.out).mono ?_); rintro e w2 ⟨⟨q1, c1, t1, rfl, hq⟩, hb⟩; have HQ1 := Lib.hid hq; have HN := Lib.hid (HN.out.keep hb HLT.out); have HLT := Lib.hid HN.out.lt; have k0 := HN.out.c0; have k1 := HN.out.c1; have k2 := HN.out.c2; have k3 := HN.out.c3; have k4 := HN.out.c4; simp only [Nat.zero_add] at k0 k1 k2 k3 k4; have HT := Lib.hid (C.bel HT.out hb); have HB := Lib.hid (HB.out.trans (hb.mono HB.out.size)); clear hb hq)
    | (go_at_call 35; (with_reducible refine (HC1.out _ _ _ _ HT.out).mono ?_); rintro e w3 ⟨⟨t2, rfl⟩, hb⟩; have HQ1 := Lib.hid (HQ1.out.keep hb); have HN := Lib.hid (HN.out.keep hb HLT.out); have HLT := Lib.hid HN.out.lt; have k0 := HN.out.c0; have k1 := HN.out.c1; have k2 := HN.out.c2; have k3 := HN.out.c3; have k4 := HN.out.c4; simp only [Nat.zero_add] at k0 k1 k2 k3 k4; have HT := Lib.hid (C.bel HT.out hb); have HB := Lib.hid (HB.out.trans (hb.mono HB.out.size)); clear hb)
    | (go_at_call 36; (with_reducible refine (HE2.out _ _ _ HQ1.out).mono ?_); rintro e w4 ⟨rfl, hb⟩; have HN := Lib.hid (HN.out.keep hb HLT.out); have HLT := Lib.hid HN.out.lt; have k0 := HN.out.c0; have k1 := HN.out.c1; have k2 := HN.out.c2; have k3 := HN.out.c3; have k4 := HN.out.c4; simp only [Nat.zero_add] at k0 k1 k2 k3 k4; have HT := Lib.hid (C.bel HT.out hb); have HB := Lib.hid (HB.out.trans (hb.mono HB.out.size)); clear hb)
    | (go_at_call 32; (with_reducible refine (HDR.out _ _ _ _ HT.out).mono ?_); rintro e w6 ⟨rfl, S2, hT, hO, hS2⟩; have HN := Lib.hid (HN.out.off hO (fun h => by have := HSL.out _ h; omega)); have HLT := Lib.hid HN.out.lt; have k0 := HN.out.c0; have k1 := HN.out.c1; have k2 := HN.out.c2; have k3 := HN.out.c3; have k4 := HN.out.c4; simp only [Nat.zero_add] at k0 k1 k2 k3 k4; have HT := Lib.hid hT; have HB3 := Lib.hid (HB.out.trans (hO.below (N := w.heap.size) HB.out.size HSS.out)); have HB := HB3; clear hT hO hS2)
    | (go_at_call 34; (with_reducible refine (HS4.out _ _ _ _ HT.out).mono ?_); rintro e w7 ⟨⟨q5, c5, t5, rfl, hq⟩, hb⟩; have HQ5 := Lib.hid hq; have HB := Lib.hid (HB.out.trans (hb.mono HB.out.size)); clear hb hq)
    | (go_at_call 36; (with_reducible refine (HE1.out _ _ _ HQ5.out).mono ?_); rintro e w8 ⟨rfl, hb⟩; have HB := Lib.hid (HB.out.trans (hb.mono HB.out.size)); clear hb))
  go_ret
  exact ⟨rfl, HB.out⟩
end Go.Proofs.YtfcpfffgodljeaaGreat.Ca
