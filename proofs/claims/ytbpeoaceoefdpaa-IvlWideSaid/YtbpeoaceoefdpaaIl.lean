/-
  A line in memory: behind, there, end. No condition but those typed at each theorem.
-/
import Derived.Test.YtbpeoaceoefdpaaIm
import Derived.Test.YtbpeoaceoefdpaaIp
import Derived.Test.YtbpeoaceoefdpaaMGen
namespace Go.Proofs.Ytbpeoaceoefdpaa.Iv
open Go.RowKit

def zs (O : List Nat) : List Int := O.map (fun x : Nat => (x : Int))
theorem zs_get (O : List Nat) {p r : Nat} (h : O[p]? = some r) : (zs O)[p]? = some (r : Int) := by simp [zs, h]
theorem zs_set (O : List Nat) (p k : Nat) : (zs O).set p (k : Int) = zs (O.set p k) := by simp [zs]
theorem zs_len (O : List Nat) : (zs O).length = O.length := by simp [zs]
/-- runs, cell by cell -/
def flatR (R : List (Nat × Nat)) : List Value := R.flatMap (fun r => [.int .i64 r.1, .int .i64 r.2])
theorem flatR_len (R : List (Nat × Nat)) : (flatR R).length = R.length * 2 := by
  induction R with
  | nil => rfl
  | cons a R ih => simp only [flatR, List.flatMap_cons, List.length_append, List.length_cons, List.length_nil] at ih ⊢; omega
theorem flatR_get (R : List (Nat × Nat)) {k f e : Nat} (h : R[k]? = some (f, e)) : (flatR R)[k * 2]? = some (.int .i64 f) ∧ (flatR R)[k * 2 + 1]? = some (.int .i64 e) := by
  induction R generalizing k with
  | nil => simp at h
  | cons a R ih =>
    cases k with
    | zero => simp at h; subst h; simp [flatR]
    | succ k =>
      have := ih (k := k) (by simpa using h)
      rw [show (k + 1) * 2 = k * 2 + 1 + 1 by omega, show k * 2 + 1 + 1 + 1 = (k * 2 + 1) + 1 + 1 by omega]
      simpa [flatR] using this
theorem flatR_set (R : List (Nat × Nat)) (k f e : Nat) : ((flatR R).set (k * 2) (.int .i64 f)).set (k * 2 + 1) (.int .i64 e) = flatR (R.set k (f, e)) := by
  induction R generalizing k with
  | nil => simp [flatR]
  | cons a R ih =>
    cases k with
    | zero => simp [flatR]
    | succ k =>
      have := ih k
      rw [show (k + 1) * 2 = k * 2 + 1 + 1 by omega, show k * 2 + 1 + 1 + 1 = (k * 2 + 1) + 1 + 1 by omega]
      simp only [flatR, List.flatMap_cons, List.cons_append, List.nil_append, List.set_cons_succ] at this ⊢
      rw [this]
theorem offN {S : List Nat} {w X : World} (h : Off S w X) (n : Nat) : Off S w (X.drewN n) := ⟨h.os, h.tape, h.output, h.size, h.block⟩
/-- a line: its spans, its runs, of each place the run that has it; those of A are there -/
structure LnM (w : World) (b o : Nat) (SP A : List S3) (p : Option Addr) (c br bo : Nat) (R : List (Nat × Nat)) (O : List Nat) : Prop where
  sp : w.cell? ⟨b, o, none⟩ = some (.slice p SP.length c)
  rs : w.cell? ⟨b, o + 1, none⟩ = some (.slice (some ⟨br, 0, none⟩) (SP.length + 1) (SP.length + 1))
  os : w.cell? ⟨b, o + 2, none⟩ = some (.slice (some ⟨bo, 0, none⟩) (SP.length + 1) (SP.length + 1))
  ts : TsS w p SP
  room : SP.length ≤ c
  rb : EV 154 w br (flatR R)
  ob : EB .i64 3 w bo (zs O)
  inv : LnI SP.length (alA SP A) R O
  few : SP.length ≤ 8192
  ne : b ≠ br ∧ b ≠ bo ∧ br ≠ bo ∧ ∀ x off, p = some ⟨x, off, none⟩ → x ≠ br ∧ x ≠ bo
section
variable {w w' : World} {b o : Nat} {SP A : List S3} {p : Option Addr} {c br bo : Nat} {R : List (Nat × Nat)} {O : List Nat}
theorem LnM.off (h : LnM w b o SP A p c br bo R O) {S : List Nat} (g : Off S w w') (h1 : b ∉ S) (h2 : br ∉ S) (h3 : bo ∉ S) (h4 : ∀ x off, p = some ⟨x, off, none⟩ → SP ≠ [] → x ∉ S) : LnM w' b o SP A p c br bo R O :=
  ⟨g.cell h.sp h1, g.cell h.rs h1, g.cell h.os h1, h.ts.off g h4, h.room, h.rb.off g h2, h.ob.off g h3, h.inv, h.few, h.ne⟩
theorem LnM.keep (h : LnM w b o SP A p c br bo R O) (hb : Below w.heap.size w w') : LnM w' b o SP A p c br bo R O :=
  h.off (Off.of (S := []) hb (Nat.le_refl _)) (by simp) (by simp) (by simp) (fun _ _ _ _ => by simp)
/-- a run's cells -/
theorem LnM.cr (h : LnM w b o SP A p c br bo R O) {k f e : Nat} (hk : R[k]? = some (f, e)) : w.cell? ⟨br, k * 2, none⟩ = some (.int .i64 f) ∧ w.cell? ⟨br, k * 2 + 1, none⟩ = some (.int .i64 e) :=
  ⟨h.rb.cell (flatR_get R hk).1, h.rb.cell (flatR_get R hk).2⟩
theorem LnM.co (h : LnM w b o SP A p c br bo R O) {q r : Nat} (hq : O[q]? = some r) : w.cell? ⟨bo, q, none⟩ = some (.int .i64 r) := h.ob.cell (zs_get O hq)

set_option maxRecDepth 100000 in
set_option maxHeartbeats 800000 in
theorem behind_any (h : LnM w b o SP A p c br bo R O) {q r f e : Nat} (hq : q ≤ SP.length) (h1 : O[q]? = some r) (h2 : R[r]? = some (f, e)) :
    Calls Try.prog 74 #[.pointer (some ⟨b, o, none⟩), .int .i64 q] w fun x w' => x = .returned (.int .i64 e) ∧ Below w.heap.size w w' := by
  have c1 := h.rs
  have c2 := h.os
  have c3 := h.co h1
  have c4 := (h.cr h2).2
  have hr : r < SP.length + 1 := by have := (List.getElem?_eq_some_iff.1 h2).1; rw [h.inv.lenR] at this; exact this
  have hn := h.few
  generalize SP.length = n at *
  clear h h1 h2
  go_enter Try.func74, Try.ntmps74
  go_upto_region 1 with fail
  go_quiet (fail)
  go_wp2
  go_ret
  exact ⟨rfl, drewB (Below.refl _ _)⟩


set_option maxRecDepth 100000 in
theorem end_any (h : LnM w b o SP A p c br bo R O) :
    Calls Try.prog 46 #[.pointer (some ⟨b, o, none⟩)] w fun x w' => x = .returned (.int .i64 SP.length) ∧ w' = w := by
  have c1 := h.sp
  generalize SP.length = n at *
  clear h
  go_enter Try.func46, Try.ntmps46
  go_wp2
  go_ret
  exact ⟨rfl, rfl⟩

end
end Go.Proofs.Ytbpeoaceoefdpaa.Iv
