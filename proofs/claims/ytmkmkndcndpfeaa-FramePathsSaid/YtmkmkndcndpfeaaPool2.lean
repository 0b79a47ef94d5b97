/-
  A pool's Len, Get, Nodes, Roots; pool.Right. No condition but those typed at each theorem.
-/
import Derived.Test.YtmkmkndcndpfeaaNodes
namespace Go.Proofs.Ytmkmkndcndpfeaa
open Go.RowKit

set_option maxRecDepth 100000 in
theorem Nodes_nil (w : World) : Calls Try.prog 40 #[.pointer none] w fun e w' => e = .returned (.slice none 0 0) ∧ w' = w := by
  go_enter Try.func40, Try.ntmps40
  go_wp2_with (go_at_call 53; (with_reducible refine (made_nil _).mono ?_); rintro e w1 ⟨rfl, rfl⟩)
  go_ret
  exact ⟨rfl, rfl⟩
set_option maxRecDepth 100000 in
theorem Nodes_any (w : World) (P : Nat) (v1 v2 : Value) (most : Int) (N : List Nd) (h : PO w P v1 v2 most N) (hl : N.length ≤ 8192) :
    Calls Try.prog 40 #[.pointer (some ⟨P, 0, none⟩)] w fun e w' => ∃ v, e = .returned v ∧ w'.ownsRow w.heap.size 50 7 v N.length (flatN N) ∧ Below w.heap.size w w' := by
  obtain ⟨-, p1, c1, rfl, hN, hp, -⟩ := row_nds h.ns
  have HM := Lib.hid (made_yes w P _ v2 most N h)
  have HC := Lib.hid (Clone_any w p1 c1 N hN (fun e => (hp e).1) hl)
  have k2 := h.c2
  clear h hN hp hl
  generalize N.length = d at *
  go_enter Try.func40, Try.ntmps40
  go_wp2_with (first
    | (go_at_call 53; (with_reducible refine HM.out.mono ?_); rintro e w1 ⟨rfl, rfl⟩)
    | (go_at_call 54; (with_reducible refine HC.out.mono ?_); rintro e w2 ⟨v, rfl, h1, h2⟩; have H1 := Lib.hid h1; have H2 := Lib.hid h2; clear h1 h2))
  go_ret
  exact ⟨_, rfl, H1.out, H2.out⟩

end Go.Proofs.Ytmkmkndcndpfeaa
