/-
  Which place comes next: the closure of merge. No condition but those typed at each theorem.
-/
import Derived.Test.YtomchimjogdkkaaMem
namespace Go.Proofs.Ytomchimjogdkkaa
open Go.RowKit

/-- a variable of its own that holds a list of places -/
def BX (w : World) (F : Nat) (v : Value) : Prop := w.heap[F]? = some (.cells #[v] 27 (0, 0))
theorem BX.cell {w : World} {F : Nat} {v : Value} (h : BX w F v) : w.cell? ⟨F, 0, none⟩ = some v := cell_of_one h
theorem BX.free {w : World} {F : Nat} {v : Value} (h : BX w F v) : w.frozen? ⟨F, 0, none⟩ = false := free_of_one h
theorem BX.set {w : World} {F : Nat} {v : Value} (h : BX w F v) (u : Value) : BX (w.setCell ⟨F, 0, none⟩ u) F u := one_setCell h
theorem BX.keep {w w' : World} {F : Nat} {v : Value} (h : BX w F v) (hb : Below w.heap.size w w') : BX w' F v := (hb.block F (lt_of_block h)).trans h

/-- a first place was taken of the list that stands in S -/
def Tk (w : World) (S A ob nb cb : Nat) (w' : World) : Prop := ∃ X o, Below w.heap.size w X ∧ (0 < nb → o = ob + 1) ∧ w' = X.setCell ⟨S, 0, none⟩ (.slice (some ⟨A, o, none⟩) nb (cb - 1))

set_option maxRecDepth 100000 in
set_option maxHeartbeats 1600000 in
/-- the second list's first place comes -/
theorem next_snd (w : World) (F S H A oa na ca ob nb cb g : Nat) (lb : Array Value) (L : List Int) (x y : Int)
    (eg : ∀ args w, (callFunc g args).run Try.prog w = .ok (.enter g args) w)
    (hF : BX w F (.slice (some ⟨A, oa, none⟩) na ca)) (hS : BX w S (.slice (some ⟨A, ob, none⟩) (nb + 1) cb)) (hH : w.cell? ⟨H, 0, none⟩ = some (.func (.func g) #[] lb))
    (hL : EB .i64 3 w A L) (hy : L[ob]? = some y) (hcb : nb + 1 ≤ cb) (hbig : cb ≤ 17179869184 ∧ na ≤ 17179869184)
    (hx : 0 < na → L[oa]? = some x ∧ ∀ X, Below w.heap.size w X → Calls Try.prog g (#[.int .i64 y, .int .i64 x] ++ lb) X fun e w' => e = .returned (.bool true) ∧ Below X.heap.size X w') :
    Calls Try.prog 37 #[.pointer (some ⟨F, 0, none⟩), .pointer (some ⟨S, 0, none⟩), .pointer (some ⟨H, 0, none⟩)] w fun e w' => e = .returned (.int .i64 y) ∧ Tk w S A ob nb cb w' := by
  have c0 : ∀ s : Wd (Bw w), s.w.cell? ⟨F, 0, none⟩ = _ := fun s => Bw.cell s hF.cell
  have c1 : ∀ s : Wd (Bw w), s.w.cell? ⟨S, 0, none⟩ = _ := fun s => Bw.cell s hS.cell
  have c2 : ∀ s : Wd (Bw w), s.w.cell? ⟨H, 0, none⟩ = _ := fun s => Bw.cell s hH
  have c3 : ∀ s : Wd (Bw w), s.w.cell? ⟨A, ob, none⟩ = _ := fun s => Bw.cell s (hL.cell hy)
  have inst : Nonempty (Wd (Bw w)) := ⟨⟨w, Below.refl _ _⟩⟩
  go_enter Try.func37, Try.ntmps37
  go_upto_region 2 with fail
  by_cases h0 : na = 0
  · subst h0
    refine wp_region_wd (Bw w) (by kernel_rfl) (by kernel_rfl) ((Below.refl _ w).drew) ?_
    repeat (first
      | go_big_quiet_step (fail)
      | quiet_step (fail))
    refine wpQuiet_nil ?_
    rintro _ ⟨s, rfl⟩
    have hS' := (hS.keep s.h).free
    have d1 := c1 s
    have d3 := c3 s
    go_wp2 <;> go_ret <;> first
      | exact ⟨rfl, s.w, ob + 1, s.h, fun _ => rfl, rfl⟩
      | exact ⟨rfl, s.w, ob, s.h, fun h => by omega, rfl⟩
  · obtain ⟨hxl, hc⟩ := hx (by omega)
    have c4 : ∀ s : Wd (Bw w), s.w.cell? ⟨A, oa, none⟩ = _ := fun s => Bw.cell s (hL.cell hxl)
    have h0' : 0 < na := by omega
    have HC := Lib.hid hc
    clear hc hx
    refine wp_region_wd (Bw w) (by kernel_rfl) (by kernel_rfl) ((Below.refl _ w).drew) ?_
    repeat (first
      | go_big_quiet_step (first | (go_at_fn g; exact calls_wd (fun _ _ h hb => h.keep hb) _ (HC.out _ (Wd.h _))))
      | quiet_step (first | (go_at_fn g; exact calls_wd (fun _ _ h hb => h.keep hb) _ (HC.out _ (Wd.h _)))))
    refine wpQuiet_nil ?_
    rintro _ ⟨s, rfl⟩
    have hS' := (hS.keep s.h).free
    have d1 := c1 s
    have d3 := c3 s
    go_wp2 <;> go_ret <;> first
      | exact ⟨rfl, s.w, ob + 1, s.h, fun _ => rfl, rfl⟩
      | exact ⟨rfl, s.w, ob, s.h, fun h => by omega, rfl⟩

set_option maxRecDepth 100000 in
set_option maxHeartbeats 1600000 in
/-- the first list's first place comes -/
theorem next_fst (w : World) (F S H A oa na ca ob nb cb g : Nat) (lb : Array Value) (L : List Int) (x y : Int)
    (eg : ∀ args w, (callFunc g args).run Try.prog w = .ok (.enter g args) w)
    (hF : BX w F (.slice (some ⟨A, oa, none⟩) (na + 1) ca)) (hS : BX w S (.slice (some ⟨A, ob, none⟩) nb cb)) (hH : w.cell? ⟨H, 0, none⟩ = some (.func (.func g) #[] lb))
    (hL : EB .i64 3 w A L) (hx : L[oa]? = some x) (hca : na + 1 ≤ ca) (hbig : ca ≤ 17179869184 ∧ nb ≤ 17179869184)
    (hy : 0 < nb → L[ob]? = some y ∧ ∀ X, Below w.heap.size w X → Calls Try.prog g (#[.int .i64 y, .int .i64 x] ++ lb) X fun e w' => e = .returned (.bool false) ∧ Below X.heap.size X w') :
    Calls Try.prog 37 #[.pointer (some ⟨F, 0, none⟩), .pointer (some ⟨S, 0, none⟩), .pointer (some ⟨H, 0, none⟩)] w fun e w' => e = .returned (.int .i64 x) ∧ Tk w F A oa na ca w' := by
  have c0 : ∀ s : Wd (Bw w), s.w.cell? ⟨F, 0, none⟩ = _ := fun s => Bw.cell s hF.cell
  have c1 : ∀ s : Wd (Bw w), s.w.cell? ⟨S, 0, none⟩ = _ := fun s => Bw.cell s hS.cell
  have c2 : ∀ s : Wd (Bw w), s.w.cell? ⟨H, 0, none⟩ = _ := fun s => Bw.cell s hH
  have c3 : ∀ s : Wd (Bw w), s.w.cell? ⟨A, oa, none⟩ = _ := fun s => Bw.cell s (hL.cell hx)
  have inst : Nonempty (Wd (Bw w)) := ⟨⟨w, Below.refl _ _⟩⟩
  go_enter Try.func37, Try.ntmps37
  go_upto_region 2 with fail
  by_cases h0 : nb = 0
  · subst h0
    refine wp_region_wd (Bw w) (by kernel_rfl) (by kernel_rfl) ((Below.refl _ w).drew) ?_
    repeat (first
      | go_big_quiet_step (fail)
      | quiet_step (fail))
    refine wpQuiet_nil ?_
    rintro _ ⟨s, rfl⟩
    have hS' := (hF.keep s.h).free
    have d1 := c0 s
    have d3 := c3 s
    go_wp2 <;> go_ret <;> first
      | exact ⟨rfl, s.w, oa + 1, s.h, fun _ => rfl, rfl⟩
      | exact ⟨rfl, s.w, oa, s.h, fun h => by omega, rfl⟩
  · obtain ⟨hxl, hc⟩ := hy (by omega)
    have c4 : ∀ s : Wd (Bw w), s.w.cell? ⟨A, ob, none⟩ = _ := fun s => Bw.cell s (hL.cell hxl)
    have h0' : 0 < nb := by omega
    have HC := Lib.hid hc
    clear hc hy
    refine wp_region_wd (Bw w) (by kernel_rfl) (by kernel_rfl) ((Below.refl _ w).drew) ?_
    repeat (first
      | go_big_quiet_step (first | (go_at_fn g; exact calls_wd (fun _ _ h hb => h.keep hb) _ (HC.out _ (Wd.h _))))
      | quiet_step (first | (go_at_fn g; exact calls_wd (fun _ _ h hb => h.keep hb) _ (HC.out _ (Wd.h _)))))
    refine wpQuiet_nil ?_
    rintro _ ⟨s, rfl⟩
    have hS' := (hF.keep s.h).free
    have d1 := c0 s
    have d3 := c3 s
    go_wp2 <;> go_ret <;> first
      | exact ⟨rfl, s.w, oa + 1, s.h, fun _ => rfl, rfl⟩
      | exact ⟨rfl, s.w, oa, s.h, fun h => by omega, rfl⟩
end Go.Proofs.Ytomchimjogdkkaa
