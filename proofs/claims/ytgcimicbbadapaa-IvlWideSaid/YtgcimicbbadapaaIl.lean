/-
  A line in memory: its spans, and who of them is there. No condition but those typed at each theorem.
-/
import Derived.Test.YtgcimicbbadapaaAl
import Derived.Test.YtgcimicbbadapaaIp
import Derived.Test.YtgcimicbbadapaaMGen
namespace Go.Proofs.Ytgcimicbbadapaa.Iv
open Go.RowKit

/-- a line: its spans, its runs, of each place the run that has it; those of A are there -/
structure LnM (w : World) (b o : Nat) (SP A : List S3) (p : Option Addr) (c br bo : Nat) (R : List (Nat × Nat)) (O : List Nat) : Prop where
  sp : w.cell? ⟨b, o, none⟩ = some (.slice p SP.length c)
  rs : w.cell? ⟨b, o + 1, none⟩ = some (.slice (some ⟨br, 0, none⟩) (SP.length + 1) (SP.length + 1))
  os : w.cell? ⟨b, o + 2, none⟩ = some (.slice (some ⟨bo, 0, none⟩) (SP.length + 1) (SP.length + 1))
  ts : TsS w p SP
  room : SP.length ≤ c
  rb : EV 162 w br (flatR R)
  ob : EB .i64 3 w bo (zs O)
  inv : RnI SP.length (alA SP A) R O
  few : SP.length ≤ 8192
  ne : b ≠ br ∧ b ≠ bo ∧ br ≠ bo ∧ ∀ x off, p = some ⟨x, off, none⟩ → x ≠ br ∧ x ≠ bo
section
variable {w w' : World} {b o : Nat} {SP A : List S3} {p : Option Addr} {c br bo : Nat} {R : List (Nat × Nat)} {O : List Nat}
theorem LnM.off (h : LnM w b o SP A p c br bo R O) {S : List Nat} (g : Off S w w') (h1 : b ∉ S) (h2 : br ∉ S) (h3 : bo ∉ S) (h4 : ∀ x off, p = some ⟨x, off, none⟩ → SP ≠ [] → x ∉ S) : LnM w' b o SP A p c br bo R O :=
  ⟨g.cell h.sp h1, g.cell h.rs h1, g.cell h.os h1, h.ts.off g h4, h.room, h.rb.off g h2, h.ob.off g h3, h.inv, h.few, h.ne⟩
theorem LnM.keep (h : LnM w b o SP A p c br bo R O) (hb : Below w.heap.size w w') : LnM w' b o SP A p c br bo R O :=
  h.off (Off.of (S := []) hb (Nat.le_refl _)) (by simp) (by simp) (by simp) (fun _ _ _ _ => by simp)
theorem LnM.rn (h : LnM w b o SP A p c br bo R O) : RnM w b (o + 1) SP.length (alA SP A) br bo R O :=
  ⟨h.rs, h.os, h.rb, h.ob, h.inv, h.few, h.ne.1, h.ne.2.1, h.ne.2.2.1⟩

set_option maxRecDepth 100000 in
theorem end_any (h : LnM w b o SP A p c br bo R O) :
    Calls Try.prog 44 #[.pointer (some ⟨b, o, none⟩)] w fun x w' => x = .returned (.int .i64 SP.length) ∧ w' = w := by
  have c1 := h.sp
  generalize SP.length = n at *
  clear h
  go_enter Try.func44, Try.ntmps44
  go_wp2
  go_ret
  exact ⟨rfl, rfl⟩
end
end Go.Proofs.Ytgcimicbbadapaa.Iv
