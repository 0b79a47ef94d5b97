/-
  gridironlow's Nodes: whether two lists of nodes are the same. No condition but those typed at each theorem.
-/
import Derived.Test.YtjobfpnlpfjoeaaPool2
namespace Go.Proofs.Ytjobfpnlpfjoeaa
open Go.RowKit

instance ndEq : DecidableEq Nd := fun a b => by unfold Nd at a b; infer_instance
theorem stood34 : Try.prog.stoodInHeld 36 = false := by kernel_rfl
set_option maxRecDepth 100000 in
set_option maxHeartbeats 1600000 in
theorem neN (X : World) (k l r f t a m k' l' r' f' t' a' m' : Int) :
    (binOp .neq 36 (.agg #[.int .u8 k, .int .i64 l, .int .i64 r, .int .i64 f, .int .i64 t, .int .i64 a, .int .i64 m]) (.agg #[.int .u8 k', .int .i64 l', .int .i64 r', .int .i64 f', .int .i64 t', .int .i64 a', .int .i64 m'])).run Try.prog X
      = .ok (.bool (!decide ((k, l, r, f, t, a, m) = (k', l', r', f', t', a', m')))) X := by
  rw [run_neq_struct, run_equalIn_agg (ht := by kernel_rfl) (hp := stood34)]
  simp [go_sem, Program.fieldsOf, Op.eqFields]
  by_cases h0 : k = k'
  · by_cases h1 : l = l'
    · by_cases h2 : r = r'
      · by_cases h3 : f = f'
        · by_cases h4 : t = t'
          · by_cases h5 : a = a'
            · by_cases h6 : m = m'
              · simp [h0, h1, h2, h3, h4, h5, h6]
              · simp [h0, h1, h2, h3, h4, h5, h6]
            · simp [h0, h1, h2, h3, h4, h5]
          · simp [h0, h1, h2, h3, h4]
        · simp [h0, h1, h2, h3]
      · simp [h0, h1, h2]
    · simp [h0, h1]
  · simp [h0]

set_option maxRecDepth 100000 in
set_option maxHeartbeats 3200000 in
theorem nodes_some (w : World) (a oa ca b ob cb : Nat) (xs ys : List Nd) (hx : Nds w a oa xs) (hy : Nds w b ob ys) (hn : xs.length ≤ 8192 ∧ ys.length ≤ 8192) :
    Calls Try.prog 15 #[.slice (some ⟨a, oa, none⟩) xs.length ca, .slice (some ⟨b, ob, none⟩) ys.length cb] w fun e w' => e = .returned (.bool (decide (xs = ys))) ∧ Below w.heap.size w w' := by
  have HX := Lib.hid hx
  have HY := Lib.hid hy
  clear hx hy
  obtain ⟨la, hla⟩ : ∃ n, n = xs.length := ⟨_, rfl⟩
  obtain ⟨lb, hlb⟩ : ∃ n, n = ys.length := ⟨_, rfl⟩
  rw [← hla, ← hlb] at hn
  rw [← hla, ← hlb]
  have HLA := Lib.hid hla
  have HLB := Lib.hid hlb
  clear hla hlb
  go_enter Try.func15, Try.ntmps15
  go_wp2
  go_loopw [5] (fun i wr => ∃ k : Nat, k ≤ la ∧ k ≤ lb ∧ i = .int .i64 k ∧ Hid (xs.take k = ys.take k) ∧ Hid (Below w.heap.size w wr)) (fun i _ => la - (intOf i).toNat)
  case atStart => exact ⟨0, Nat.zero_le _, Nat.zero_le _, rfl, Lib.hid rfl, Lib.hid (Below.refl _ _)⟩
  case round =>
    obtain ⟨k, hka, hkb, rfl, HT, HB⟩ := hrel
    by_cases h1 : k < la
    · have h1z : (k : Int) < la := by omega
      by_cases h2 : k < lb
      · have h2z : (k : Int) < lb := by omega
        obtain ⟨x, hxe⟩ : ∃ x, xs[k]? = some x := ⟨_, List.getElem?_eq_getElem (by have := HLA.out; omega)⟩
        obtain ⟨y, hye⟩ : ∃ x, ys[k]? = some x := ⟨_, List.getElem?_eq_getElem (by have := HLB.out; omega)⟩
        have m1 := HX.out k x hxe
        have m2 := HY.out k y hye
        have n1 := m1.keep HB.out m1.lt
        have n2 := m2.keep HB.out m2.lt
        have x0 := fun s : Wd (Bw wr) => (n1.keep s.h n1.lt).c0
        have y0 := fun s : Wd (Bw wr) => (n2.keep s.h n2.lt).c0
        have x1 := fun s : Wd (Bw wr) => (n1.keep s.h n1.lt).c1
        have y1 := fun s : Wd (Bw wr) => (n2.keep s.h n2.lt).c1
        have x2 := fun s : Wd (Bw wr) => (n1.keep s.h n1.lt).c2
        have y2 := fun s : Wd (Bw wr) => (n2.keep s.h n2.lt).c2
        have x3 := fun s : Wd (Bw wr) => (n1.keep s.h n1.lt).c3
        have y3 := fun s : Wd (Bw wr) => (n2.keep s.h n2.lt).c3
        have x4 := fun s : Wd (Bw wr) => (n1.keep s.h n1.lt).c4
        have y4 := fun s : Wd (Bw wr) => (n2.keep s.h n2.lt).c4
        have x5 := fun s : Wd (Bw wr) => (n1.keep s.h n1.lt).c5
        have y5 := fun s : Wd (Bw wr) => (n2.keep s.h n2.lt).c5
        have x6 := fun s : Wd (Bw wr) => (n1.keep s.h n1.lt).c6
        have y6 := fun s : Wd (Bw wr) => (n2.keep s.h n2.lt).c6
        have HXE := Lib.hid hxe
        have HYE := Lib.hid hye
        clear hxe hye m1 m2 n1 n2
        have inst : Nonempty (Wd (Bw wr)) := ⟨⟨wr, Below.refl _ _⟩⟩
        by_cases hxy : x = y
        · subst hxy
          obtain ⟨k1, l, r, f, t, q, m⟩ := x
          simp only at x0 x1 x2 x3 x4 x5 x6 y0 y1 y2 y3 y4 y5 y6
          go_upto_region 4 with fail
          refine wp_region_wd (Bw wr) (by kernel_rfl) (by kernel_rfl) ((Below.refl _ wr).drew) ?_
          repeat (first | go_big_quiet_step (fail) | quiet_step (fail))
          refine wpQuiet_nil ?_
          rintro _ ⟨s, rfl⟩
          have HS := Lib.hid (HB.out.trans (s.h.mono HB.out.size))
          clear x0 x1 x2 x3 x4 x5 x6 y0 y1 y2 y3 y4 y5 y6
          go_wp2
          go_roundw
          case rel => exact ⟨k + 1, by omega, by omega, by go_num, Lib.hid (by rw [List.take_add_one, List.take_add_one, HT.out, HXE.out, HYE.out]), HS⟩
          case measure => simp [intOf]; omega
        · have hne : ¬ xs = ys := fun e => hxy (by have h5 := HXE.out; rw [e, HYE.out] at h5; exact (Option.some.inj h5).symm)
          obtain ⟨k1, l, r, f, t, q, m⟩ := x
          obtain ⟨k1', l', r', f', t', q', m'⟩ := y
          simp only at x0 x1 x2 x3 x4 x5 x6 y0 y1 y2 y3 y4 y5 y6
          have hN : ∀ X, (binOp .neq 36 (.agg #[.int .u8 k1, .int .i64 l, .int .i64 r, .int .i64 f, .int .i64 t, .int .i64 q, .int .i64 m]) (.agg #[.int .u8 k1', .int .i64 l', .int .i64 r', .int .i64 f', .int .i64 t', .int .i64 q', .int .i64 m'])).run Try.prog X = .ok (.bool true) X := fun X => by
            rw [neN, decide_eq_false hxy]
            rfl
          have HNE := Lib.hid hne
          clear hxy hne
          go_upto_region 4 with fail
          refine wp_region_wd (Bw wr) (by kernel_rfl) (by kernel_rfl) ((Below.refl _ wr).drew) ?_
          repeat (first | go_big_quiet_step (fail) | quiet_step (fail))
          refine wpQuiet_nil ?_
          rintro _ ⟨s, rfl⟩
          have HS := Lib.hid (HB.out.trans (s.h.mono HB.out.size))
          clear x0 x1 x2 x3 x4 x5 x6 y0 y1 y2 y3 y4 y5 y6
          go_wp2
          go_ret
          exact ⟨retb (by simp [HNE.out]), HS.out⟩
      · have h2z : ¬ (k : Int) < lb := by omega
        go_wp2
        go_ret
        refine ⟨retb ?_, HB.out⟩
        have hne : ¬ xs = ys := fun e => by have h3 := HLA.out; have h4 := HLB.out; rw [e] at h3; omega
        simp [hne]
        omega
    · have h1z : ¬ (k : Int) < la := by omega
      go_wp2
      go_ret
      refine ⟨retb ?_, HB.out⟩
      have h3 := HLA.out
      have h4 := HLB.out
      have h5 := HT.out
      rw [List.take_of_length_le (by omega)] at h5
      by_cases h6 : la = lb
      · rw [List.take_of_length_le (by omega)] at h5
        simp [h5, h6]
      · have hne : ¬ xs = ys := fun e => by rw [e] at h3; omega
        simp [hne]
        omega

set_option maxRecDepth 100000 in
theorem nodes_any (w : World) (p q : Option Addr) (ca cb : Nat) (xs ys : List Nd) (hx : NdS w p xs) (hy : NdS w q ys) (hn : xs.length ≤ 8192 ∧ ys.length ≤ 8192) :
    Calls Try.prog 15 #[.slice p xs.length ca, .slice q ys.length cb] w fun e w' => e = .returned (.bool (decide (xs = ys))) ∧ Below w.heap.size w w' := by
  rcases hx with rfl | ⟨a, oa, rfl, h1⟩
  · go_enter Try.func15, Try.ntmps15
    go_wp2
    go_loopw [5] (fun i wr => i = .int .i64 0 ∧ wr = w) (fun _ _ => 0)
    case atStart => exact ⟨rfl, rfl⟩
    case round =>
      obtain ⟨rfl, rfl⟩ := hrel
      go_wp2
      go_ret
      refine ⟨retb ?_, Below.refl _ _⟩
      cases ys <;> simp <;> omega
  · rcases hy with rfl | ⟨b, ob, rfl, h2⟩
    · go_enter Try.func15, Try.ntmps15
      go_wp2
      go_loopw [5] (fun i wr => i = .int .i64 0 ∧ wr = w) (fun _ _ => 0)
      case atStart => exact ⟨rfl, rfl⟩
      case round =>
        obtain ⟨rfl, rfl⟩ := hrel
        by_cases h0 : 0 < xs.length
        · go_wp2
          go_ret
          refine ⟨retb ?_, Below.refl _ _⟩
          cases xs <;> simp at h0 ⊢
          omega
        · go_wp2
          go_ret
          refine ⟨retb ?_, Below.refl _ _⟩
          cases xs <;> simp at h0 ⊢
    · exact nodes_some w a oa ca b ob cb xs ys h1 h2 hn
end Go.Proofs.Ytjobfpnlpfjoeaa
