/-
  The closures that tell which of two places stands ahead. No condition but those typed at each theorem.
-/
import Derived.Test.YtomchimjogdkkaaWd
import Derived.Deep.DeepCutAuto
namespace Go.Proofs.Ytomchimjogdkkaa
open Go.RowKit

/-- the worlds in which all that lay in w lies as it did -/
def Bw (w : World) (X : World) : Prop := Below w.heap.size w X
theorem Bw.keep {w X w' : World} (h : Bw w X) (hb : Below X.heap.size X w') : Bw w w' := h.trans (hb.mono h.size)
theorem Bw.cell {w : World} (s : Wd (Bw w)) {a : Addr} {v : Value} (h : w.cell? a = some v) : s.w.cell? a = some v :=
  (Below.cell s.h (World.block_lt_of_cell? w a h)).trans h

set_option maxRecDepth 100000 in
set_option maxHeartbeats 800000 in
theorem ord1_any (w : World) (B b off cap : Nat) (ks : List (Int × Int)) (hbox : w.cell? ⟨B, 0, none⟩ = some (.slice (some ⟨b, off, none⟩) ks.length cap)) (hks : Ks w b off ks)
    (p q : Nat) (k j : Int × Int) (hp : ks[p]? = some k) (hq : ks[q]? = some j) :
    Calls Try.prog 23 #[.int .i64 p, .int .i64 q, .pointer (some ⟨B, 0, none⟩)] w fun e w' => e = .returned (.bool (kl k j)) ∧ Below w.heap.size w w' := by
  have hpl : p < ks.length := (List.getElem?_eq_some_iff.1 hp).1
  have hql : q < ks.length := (List.getElem?_eq_some_iff.1 hq).1
  have c0 : ∀ s : Wd (Bw w), s.w.cell? ⟨B, 0, none⟩ = some (.slice (some ⟨b, off, none⟩) ks.length cap) := fun s => Bw.cell s hbox
  have c1 : ∀ s : Wd (Bw w), s.w.cell? ⟨b, off + p * 2, none⟩ = some (.int .i64 k.1) := fun s => Bw.cell s (hks p k hp).1
  have c2 : ∀ s : Wd (Bw w), s.w.cell? ⟨b, off + p * 2 + 1, none⟩ = some (.int .u32 k.2) := fun s => Bw.cell s (hks p k hp).2
  have c3 : ∀ s : Wd (Bw w), s.w.cell? ⟨b, off + q * 2, none⟩ = some (.int .i64 j.1) := fun s => Bw.cell s (hks q j hq).1
  have c4 : ∀ s : Wd (Bw w), s.w.cell? ⟨b, off + q * 2 + 1, none⟩ = some (.int .u32 j.2) := fun s => Bw.cell s (hks q j hq).2
  have hB : ∀ k j w, Calls Try.prog 24 #[.agg #[.int .i64 k.1, .int .u32 k.2], .agg #[.int .i64 j.1, .int .u32 j.2]] w fun e w' => e = .returned (.bool (kl k j)) ∧ Below w.heap.size w w' := before_any
  have HB := Lib.hid hB
  clear hB
  have inst : Nonempty (Wd (Bw w)) := ⟨⟨w, Below.refl _ _⟩⟩
  clear hbox hks hp hq
  go_enter Try.func23, Try.ntmps23
  go_upto_region 1 with fail
  refine wp_region_wd (Bw w) (by kernel_rfl) (by kernel_rfl) ((Below.refl _ w).drew) ?_
  repeat (first
    | go_big_quiet_step (first | (go_at_call 24; with_reducible exact calls_wd (fun _ _ h hb => h.keep hb) _ (HB.out k j _)))
    | quiet_step (first | (go_at_call 24; with_reducible exact calls_wd (fun _ _ h hb => h.keep hb) _ (HB.out k j _))))
  refine wpQuiet_nil ?_
  rintro _ ⟨s, rfl⟩
  go_wp2
  go_ret
  exact ⟨rfl, s.h⟩

set_option maxRecDepth 100000 in
set_option maxHeartbeats 800000 in
theorem mer1_any (w : World) (A B a b offa offb capa capb : Nat) (xs ys : List (Int × Int)) (hl : xs.length + ys.length ≤ 17179869184)
    (hboxa : w.cell? ⟨A, 0, none⟩ = some (.slice (some ⟨a, offa, none⟩) xs.length capa)) (hxs : Ks w a offa xs)
    (hboxb : w.cell? ⟨B, 0, none⟩ = some (.slice (some ⟨b, offb, none⟩) ys.length capb)) (hys : Ks w b offb ys)
    (p q : Nat) (k j : Int × Int) (hp : ys[p]? = some k) (hq : xs[q]? = some j) :
    Calls Try.prog 30 #[.int .i64 ((xs.length : Int) + p), .int .i64 q, .pointer (some ⟨B, 0, none⟩), .pointer (some ⟨A, 0, none⟩)] w fun e w' => e = .returned (.bool (kl k j)) ∧ Below w.heap.size w w' := by
  have hpl : p < ys.length := (List.getElem?_eq_some_iff.1 hp).1
  have hql : q < xs.length := (List.getElem?_eq_some_iff.1 hq).1
  have c0 : ∀ s : Wd (Bw w), s.w.cell? ⟨B, 0, none⟩ = some (.slice (some ⟨b, offb, none⟩) ys.length capb) := fun s => Bw.cell s hboxb
  have c0' : ∀ s : Wd (Bw w), s.w.cell? ⟨A, 0, none⟩ = some (.slice (some ⟨a, offa, none⟩) xs.length capa) := fun s => Bw.cell s hboxa
  have c1 : ∀ s : Wd (Bw w), s.w.cell? ⟨b, offb + p * 2, none⟩ = some (.int .i64 k.1) := fun s => Bw.cell s (hys p k hp).1
  have c2 : ∀ s : Wd (Bw w), s.w.cell? ⟨b, offb + p * 2 + 1, none⟩ = some (.int .u32 k.2) := fun s => Bw.cell s (hys p k hp).2
  have c3 : ∀ s : Wd (Bw w), s.w.cell? ⟨a, offa + q * 2, none⟩ = some (.int .i64 j.1) := fun s => Bw.cell s (hxs q j hq).1
  have c4 : ∀ s : Wd (Bw w), s.w.cell? ⟨a, offa + q * 2 + 1, none⟩ = some (.int .u32 j.2) := fun s => Bw.cell s (hxs q j hq).2
  have hB : ∀ k j w, Calls Try.prog 24 #[.agg #[.int .i64 k.1, .int .u32 k.2], .agg #[.int .i64 j.1, .int .u32 j.2]] w fun e w' => e = .returned (.bool (kl k j)) ∧ Below w.heap.size w w' := before_any
  have HB := Lib.hid hB
  clear hB
  have inst : Nonempty (Wd (Bw w)) := ⟨⟨w, Below.refl _ _⟩⟩
  clear hboxa hboxb hxs hys hp hq
  have hsub : (xs.length : Int) + p - xs.length = p := by omega
  go_enter Try.func30, Try.ntmps30
  go_upto_region 1 with fail
  refine wp_region_wd (Bw w) (by kernel_rfl) (by kernel_rfl) ((Below.refl _ w).drew) ?_
  repeat (first
    | go_big_quiet_step (first | (go_at_call 24; with_reducible exact calls_wd (fun _ _ h hb => h.keep hb) _ (HB.out k j _)))
    | quiet_step (first | (go_at_call 24; with_reducible exact calls_wd (fun _ _ h hb => h.keep hb) _ (HB.out k j _))))
  refine wpQuiet_nil ?_
  rintro _ ⟨s, rfl⟩
  go_wp2
  go_ret
  exact ⟨rfl, s.h⟩
end Go.Proofs.Ytomchimjogdkkaa
