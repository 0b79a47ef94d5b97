/-
  What is asked of a tree of spans, whatever it is made of; the law's stabs, asked and examples over any such tree. No condition but those typed at each theorem.
-/
import Derived.Test.YtgcimicbbadapaaSref9
import Derived.Test.YtgcimicbbadapaaMLook
import Derived.Test.YtgcimicbbadapaaTold
namespace Go.Proofs.Ytgcimicbbadapaa
open Go.RowKit

/-- what Build hands back: a tree, and no error; or an error, and a tree of nothing -/
def Built (TS : World → Value → Nat → List Nat → List S3 → Prop) (w : World) (L : List S3) (e : Ending) (w' : World) : Prop :=
  Below w.heap.size w w' ∧ ((Rg L ∧ ∃ v S, e = .returned (.tuple #[v, .int .i64 0]) ∧ TS w' v L.length S L ∧ ∀ k ∈ S, w.heap.size ≤ k) ∨ (¬ Rg L ∧ ∃ v S, e = .returned (.tuple #[v, .int .i64 2]) ∧ TS w' v 0 S [] ∧ ∀ k ∈ S, w.heap.size ≤ k))
/-- TS X v n S A: v is a tree that was built of n spans, those of A are there, the blocks S are its own -/
structure SegC (TS : World → Value → Nat → List Nat → List S3 → Prop) : Prop where
  keep : ∀ {X X' v n S A T}, TS X v n S A → Off T X X' → (∀ k ∈ S, k ∉ T) → TS X' v n S A
  lies : ∀ {X v n S A}, TS X v n S A → ∀ k ∈ S, k < X.heap.size
  build : ∀ (w : World) (p : Option Addr) (c : Nat) (L : List S3), TsS w p L → L.length ≤ 400 → L.length ≤ c → (∀ s ∈ L, Wf3 s) → Calls Try.prog 11 #[.slice p L.length c] w (Built TS w L)
  len : ∀ {X v n S A}, TS X v n S A → Calls Try.prog 13 #[v] X fun e X' => e = .returned (.int .i64 A.length) ∧ Below X.heap.size X X'
  weight : ∀ {X v n S A}, TS X v n S A → Calls Try.prog 14 #[v] X fun e X' => (∃ m : Nat, e = .returned (.int .i64 m) ∧ A.length ≤ m ∧ m ≤ A.length * (2 * lgN (4 * n + 4))) ∧ Below X.heap.size X X'
  stab : ∀ {X v n S A} (x : Int), TS X v n S A → (Lit.int .i64 x).wf = true → Calls Try.prog 19 #[v, .int .i64 x] X fun e X' => (∃ r, ∃ t : Nat, e = .returned (.tuple #[r, .int .i64 t]) ∧ TL X' r (stb A x).length (stb A x) ∧ (stb A x).length ≤ t ∧ t ≤ (stb A x).length + (2 * lgN (4 * n + 4) + 2)) ∧ Below X.heap.size X X'
  count : ∀ {X v n S A} (x : Int), TS X v n S A → (Lit.int .i64 x).wf = true → Calls Try.prog 20 #[v, .int .i64 x] X fun e X' => (∃ t : Nat, e = .returned (.tuple #[.int .i64 (stb A x).length, .int .i64 t]) ∧ t ≤ 2 * lgN (4 * n + 4) + 2) ∧ Below X.heap.size X X'
  drop : ∀ {X v n S A} (s : S3), TS X v n S A → Wf3 s → Calls Try.prog 17 #[v, tv s] X fun e X' => e = .returned (.bool (decide (s ∈ A))) ∧ ∃ S', TS X' v n S' (drp A s) ∧ Off S X X' ∧ ∀ k ∈ S', k ∈ S ∨ X.heap.size ≤ k
  few : ∀ {X v n S A}, TS X v n S A → A.length ≤ n ∧ n ≤ 400 ∧ Rg A
section
variable {TS : World → Value → Nat → List Nat → List S3 → Prop} {X X' : World} {v : Value} {n : Nat} {S : List Nat} {A : List S3}
theorem SegC.bel (C : SegC TS) (h : TS X v n S A) (hb : Below X.heap.size X X') : TS X' v n S A := C.keep h (Off.of (S := []) hb (Nat.le_refl _)) (by simp)

set_option maxRecDepth 100000 in
set_option maxHeartbeats 1600000 in
theorem stabs_any (C : SegC TS) (h : TS X v n S A) (x : Int) (hx : (Lit.int .i64 x).wf = true) (p : Option Addr) (c : Nat) (hw : NS X p .u32 (stb A x)) :
    Calls Try.prog 25 #[v, .int .i64 x, .slice p (stb A x).length c] X fun e X' => e = .returned (.bool true) ∧ Below X.heap.size X X' := by
  have hf := C.few h
  have HS := Lib.hid (C.stab x h hx)
  have HC := Lib.hid (fun X' (hb : Below X.heap.size X X') => C.count x (C.bel h hb) hx)
  have hl := stb_len A x
  have HW := Lib.hid hw
  have HI : Hid (∀ Y q cq, NS Y q .u32 (stb A x) → NS Y p .u32 (stb A x) → Calls Try.prog 21 #[.slice q (stb A x).length cq, .slice p (stb A x).length c] Y fun e w' => e = .returned (.bool true) ∧ Below Y.heap.size Y w') := Lib.hid (fun Y q cq h1 h2 => by
    refine (SameIDs_any Y q p cq c _ _ h1 h2 (by omega)).mono ?_
    rintro e w' ⟨rfl, hb⟩
    exact ⟨by simp, hb⟩)
  clear h hx hw
  generalize stb A x = L at *
  generalize hm : L.length = m at *
  clear hm
  go_enter Try.func25, Try.ntmps25
  go_wp2_with (first
    | (go_at_call 19; (with_reducible refine HS.out.mono ?_); rintro e w1 ⟨⟨r, t, rfl, hr, -, -⟩, hb⟩; obtain ⟨-, q, cq, rfl, hq, -⟩ := hr.u; have HQ := Lib.hid hq; have HB := Lib.hid hb; clear hr hb hq)
    | (go_at_call 20; (with_reducible refine (HC.out _ HB.out).mono ?_); rintro e w2 ⟨⟨t2, rfl, -⟩, hb⟩; have HQ := Lib.hid (HQ.out.keep hb); have HB := Lib.hid (HB.out.trans (hb.mono HB.out.size)); clear hb)
    | (go_at_call 21; (with_reducible refine (HI.out _ _ _ HQ.out (HW.out.keep HB.out)).mono ?_); rintro e w3 ⟨rfl, hb⟩; have HB := Lib.hid (HB.out.trans (hb.mono HB.out.size)); clear hb))
  go_ret
  exact ⟨rfl, HB.out⟩

set_option maxRecDepth 100000 in
set_option maxHeartbeats 3200000 in
theorem asked_any (C : SegC TS) (h : TS X v n S A) (p q : Option Addr) (c d : Nat) (L : List S3) (xs : List Int) (hL : TsS X p L) (hx : NS X q .i64 xs) (hw : ∀ x ∈ xs, (Lit.int .i64 x).wf = true) (hl : L.length ≤ 8192) (hxl : xs.length ≤ 8192) (hAL : A.length = L.length) (hst : ∀ x, stb A x = stb L x) :
    Calls Try.prog 15 #[v, .slice p L.length c, .slice q xs.length d] X fun e X' => e = .returned (.bool true) ∧ Below X.heap.size X X' := by
  have HN := Lib.hid (C.len h)
  rw [hAL] at HN
  have HST := Lib.hid (fun Y x (hb : Below X.heap.size X Y) => RStab Y p c L x (hL.keep hb) hl)
  have HSB : Hid (∀ Y x p' c', Below X.heap.size X Y → (Lit.int .i64 x).wf = true → NS Y p' .u32 (stb L x) → Calls Try.prog 25 #[v, .int .i64 x, .slice p' (stb L x).length c'] Y fun e X' => e = .returned (.bool true) ∧ Below Y.heap.size Y X') := Lib.hid (fun Y x p' c' hb hx hn => by
    have := stabs_any C (C.bel h hb) x hx p' c' (by rw [hst]; exact hn)
    rw [hst] at this
    exact this)
  have HX := Lib.hid hx
  have HW := Lib.hid hw
  obtain ⟨m, hm⟩ : ∃ m, m = xs.length := ⟨_, rfl⟩
  have HM := Lib.hid hm
  rw [← hm] at hxl ⊢
  clear h hL hx hw hm hAL hst
  generalize hll : L.length = l at *
  clear hll
  go_enter Try.func15, Try.ntmps15
  go_wp2_with (go_at_call 13; (with_reducible refine HN.out.mono ?_); rintro e w1 ⟨rfl, hb⟩; have HB := Lib.hid hb; clear hb)
  go_loopw [17] (fun i wr => ∃ k : Nat, k ≤ m ∧ i = .int .i64 k ∧ Hid (Below X.heap.size X wr)) (fun i _ => m - (intOf i).toNat)
  case atStart => exact ⟨0, Nat.zero_le _, rfl, HB⟩
  case round =>
    clear HN
    obtain ⟨k, hk, rfl, HB⟩ := hrel
    by_cases hlt : k < m
    · have hltz : (k : Int) < m := by omega
      obtain ⟨x, hxe⟩ : ∃ x, xs[k]? = some x := ⟨_, List.getElem?_eq_getElem (by have := HM.out; omega)⟩
      rcases HX.out.keep HB.out with h0 | ⟨b, off, rfl, h1⟩
      · rw [h0] at hxe; simp at hxe
      · have cx := h1 k x hxe
        have hwx := HW.out x (List.mem_of_getElem? hxe)
        have HWX := Lib.hid hwx
        clear h1 hxe hwx
        go_wp2_with (first
          | (go_at_call 31; (with_reducible refine (HST.out _ x HB.out).mono ?_); rintro e w2 ⟨r, rfl, hr, hb⟩; obtain ⟨-, q2, cq, rfl, hq, -⟩ := row_u hr; have HQ := Lib.hid hq; have HB2 := Lib.hid (HB.out.trans (hb.mono HB.out.size)); clear hr hb hq)
          | (go_at_call 25; (with_reducible refine (HSB.out _ x _ _ HB2.out HWX.out HQ.out).mono ?_); rintro e w3 ⟨rfl, hb⟩; have HB3 := Lib.hid (HB2.out.trans (hb.mono HB2.out.size)); clear hb))
        go_roundw
        case rel => exact ⟨k + 1, by omega, by go_num, HB3⟩
        case measure => simp [intOf]; omega
    · have hltz : ¬ (k : Int) < m := by omega
      go_wp2
      go_ret
      exact ⟨rfl, HB.out⟩
end
end Go.Proofs.Ytgcimicbbadapaa
