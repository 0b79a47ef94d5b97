/-
  Whether two lists of numbers are the same: gridironlow's Ints. No condition but those typed at each theorem.
-/
import Derived.Test.YtjobfpnlpfjoeaaMem
namespace Go.Proofs.Ytjobfpnlpfjoeaa
open Go.RowKit

/-- from this place on these numbers lie -/
def Ns (w : World) (b off : Nat) (k : IntKind) (xs : List Int) : Prop := ∀ j x, xs[j]? = some x → w.cell? ⟨b, off + j, none⟩ = some (.int k x)
/-- a slice's first place, and the numbers that it has -/
def NS (w : World) (p : Option Addr) (k : IntKind) (xs : List Int) : Prop := xs = [] ∨ ∃ b off, p = some ⟨b, off, none⟩ ∧ Ns w b off k xs
theorem Ns.keep {w w' : World} {b off : Nat} {k : IntKind} {xs : List Int} (h : Ns w b off k xs) (hb : Below w.heap.size w w') : Ns w' b off k xs :=
  fun j x e => (hb.cell (World.block_lt_of_cell? w _ (h j x e))).trans (h j x e)
theorem NS.keep {w w' : World} {p : Option Addr} {k : IntKind} {xs : List Int} (h : NS w p k xs) (hb : Below w.heap.size w w') : NS w' p k xs := by
  rcases h with h | ⟨b, off, rfl, h⟩
  · exact .inl h
  · exact .inr ⟨b, off, rfl, h.keep hb⟩
theorem EB.ns {k : IntKind} {t : TypeId} {w : World} {A : Nat} {L r : List Int} (h : EB k t w A (L ++ r)) : NS w (some ⟨A, 0, none⟩) k L :=
  .inr ⟨A, 0, rfl, fun j x e => h.cell (by rw [Nat.zero_add, List.getElem?_append_left (List.getElem?_eq_some_iff.1 e).1]; exact e)⟩

set_option maxRecDepth 100000 in
set_option maxHeartbeats 1600000 in
theorem ints_some (w : World) (a oa ca b ob cb : Nat) (xs ys : List Int) (hx : Ns w a oa .i64 xs) (hy : Ns w b ob .i64 ys) (hn : xs.length ≤ 8192 ∧ ys.length ≤ 8192) :
    Calls Try.prog 12 #[.slice (some ⟨a, oa, none⟩) xs.length ca, .slice (some ⟨b, ob, none⟩) ys.length cb] w fun e w' => e = .returned (.bool (decide (xs = ys))) ∧ Below w.heap.size w w' := by
  have HX := Lib.hid hx
  have HY := Lib.hid hy
  clear hx hy
  obtain ⟨la, hla⟩ : ∃ n, n = xs.length := ⟨_, rfl⟩
  obtain ⟨lb, hlb⟩ : ∃ n, n = ys.length := ⟨_, rfl⟩
  rw [← hla, ← hlb] at hn
  rw [← hla, ← hlb]
  have HLA := Lib.hid hla
  have HLB := Lib.hid hlb
  clear hla hlb
  go_enter Try.func12, Try.ntmps12
  go_wp2
  go_loopw [5] (fun i wr => ∃ k : Nat, k ≤ la ∧ k ≤ lb ∧ i = .int .i64 k ∧ Hid (xs.take k = ys.take k) ∧ Hid (Below w.heap.size w wr)) (fun i _ => la - (intOf i).toNat)
  case atStart => exact ⟨0, Nat.zero_le _, Nat.zero_le _, rfl, Lib.hid rfl, Lib.hid (Below.refl _ _)⟩
  case round =>
    obtain ⟨k, hka, hkb, rfl, HT, HB⟩ := hrel
    by_cases h1 : k < la
    · have h1z : (k : Int) < la := by omega
      by_cases h2 : k < lb
      · have h2z : (k : Int) < lb := by omega
        obtain ⟨x, hxe⟩ : ∃ x, xs[k]? = some x := ⟨_, List.getElem?_eq_getElem (by have := HLA.out; omega)⟩
        obtain ⟨y, hye⟩ : ∃ x, ys[k]? = some x := ⟨_, List.getElem?_eq_getElem (by have := HLB.out; omega)⟩
        have c1 : ∀ s : Wd (Bw wr), s.w.cell? ⟨a, oa + k, none⟩ = some (.int .i64 x) := fun s => Bw.cell s ((HX.out _ _ hxe) ▸ HB.out.cell (World.block_lt_of_cell? w _ (HX.out _ _ hxe)))
        have c2 : ∀ s : Wd (Bw wr), s.w.cell? ⟨b, ob + k, none⟩ = some (.int .i64 y) := fun s => Bw.cell s ((HY.out _ _ hye) ▸ HB.out.cell (World.block_lt_of_cell? w _ (HY.out _ _ hye)))
        have inst : Nonempty (Wd (Bw wr)) := ⟨⟨wr, Below.refl _ _⟩⟩
        have HXE := Lib.hid hxe
        have HYE := Lib.hid hye
        clear hxe hye
        go_upto_region 4 with fail
        refine wp_region_wd (Bw wr) (by kernel_rfl) (by kernel_rfl) ((Below.refl _ wr).drew) ?_
        repeat (first | go_big_quiet_step (fail) | quiet_step (fail))
        refine wpQuiet_nil ?_
        rintro _ ⟨s, rfl⟩
        have HS := Lib.hid (HB.out.trans (s.h.mono HB.out.size))
        clear c1 c2
        by_cases hxy : x = y
        · go_wp2
          go_roundw
          case rel => exact ⟨k + 1, by omega, by omega, by go_num, Lib.hid (by rw [List.take_add_one, List.take_add_one, HT.out, HXE.out, HYE.out, hxy]), HS⟩
          case measure => simp [intOf]; omega
        · go_wp2
          go_ret
          refine ⟨retb ?_, HS.out⟩
          have hne : ¬ xs = ys := fun e => hxy (by have h5 := HXE.out; rw [e, HYE.out] at h5; exact (Option.some.inj h5).symm)
          simp [hne]
      · have h2z : ¬ (k : Int) < lb := by omega
        go_wp2
        go_ret
        refine ⟨retb ?_, HB.out⟩
        have hne : ¬ xs = ys := fun e => by have h3 := HLA.out; have h4 := HLB.out; rw [e] at h3; omega
        simp [hne]
        omega
    · have h1z : ¬ (k : Int) < la := by omega
      go_wp2
      go_ret
      refine ⟨retb ?_, HB.out⟩
      have h3 := HLA.out
      have h4 := HLB.out
      have h5 := HT.out
      rw [List.take_of_length_le (by omega)] at h5
      by_cases h6 : la = lb
      · rw [List.take_of_length_le (by omega)] at h5
        simp [h5, h6]
      · have hne : ¬ xs = ys := fun e => by rw [e] at h3; omega
        simp [hne]
        omega

set_option maxRecDepth 100000 in
theorem ints_any (w : World) (p q : Option Addr) (ca cb : Nat) (xs ys : List Int) (hx : NS w p .i64 xs) (hy : NS w q .i64 ys) (hn : xs.length ≤ 8192 ∧ ys.length ≤ 8192) :
    Calls Try.prog 12 #[.slice p xs.length ca, .slice q ys.length cb] w fun e w' => e = .returned (.bool (decide (xs = ys))) ∧ Below w.heap.size w w' := by
  rcases hx with rfl | ⟨a, oa, rfl, h1⟩
  · go_enter Try.func12, Try.ntmps12
    go_wp2
    go_loopw [5] (fun i wr => i = .int .i64 0 ∧ wr = w) (fun _ _ => 0)
    case atStart => exact ⟨rfl, rfl⟩
    case round =>
      obtain ⟨rfl, rfl⟩ := hrel
      go_wp2
      go_ret
      refine ⟨retb ?_, Below.refl _ _⟩
      cases ys <;> simp <;> omega
  · rcases hy with rfl | ⟨b, ob, rfl, h2⟩
    · go_enter Try.func12, Try.ntmps12
      go_wp2
      go_loopw [5] (fun i wr => i = .int .i64 0 ∧ wr = w) (fun _ _ => 0)
      case atStart => exact ⟨rfl, rfl⟩
      case round =>
        obtain ⟨rfl, rfl⟩ := hrel
        by_cases h0 : 0 < xs.length
        · go_wp2
          go_ret
          refine ⟨retb ?_, Below.refl _ _⟩
          cases xs <;> simp at h0 ⊢
          omega
        · go_wp2
          go_ret
          refine ⟨retb ?_, Below.refl _ _⟩
          cases xs <;> simp at h0 ⊢
    · exact ints_some w a oa ca b ob cb xs ys h1 h2 hn

end Go.Proofs.Ytjobfpnlpfjoeaa
