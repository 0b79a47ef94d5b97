/-
  The document's within, apart, parent, and its nodes. No condition but those typed at each theorem.
-/
import Derived.Test.YtmkmkndcndpfeaaFr
namespace Go.Proofs.Ytmkmkndcndpfeaa
open Go.RowKit

set_option maxRecDepth 100000 in
theorem RWithin (w : World) (n : Nd) (x y : Int) : Calls Try.prog 34 #[nv n, .int .i64 x, .int .i64 y] w fun e w' => e = .returned (.bool (inB n x y)) ∧ Below w.heap.size w w' := by
  obtain ⟨k, l, r, f, t, a, q⟩ := n
  unfold nv inB nf nt
  dsimp only
  by_cases h1 : x ≤ f
  · by_cases h2 : t ≤ y
    · go_enter Try.func34, Try.ntmps34
      go_wp2
      go_ret
      exact ⟨retb (by first | (simp; done) | (simp; omega)), (Below.refl _ w).alloc (Nat.le_refl _) _⟩
    · go_enter Try.func34, Try.ntmps34
      go_wp2
      go_ret
      exact ⟨retb (by first | (simp; done) | (simp; omega)), (Below.refl _ w).alloc (Nat.le_refl _) _⟩
  · go_enter Try.func34, Try.ntmps34
    go_wp2
    go_ret
    exact ⟨retb (by first | (simp; done) | (simp; omega)), (Below.refl _ w).alloc (Nat.le_refl _) _⟩
set_option maxRecDepth 100000 in
theorem RApart (w : World) (n : Nd) (x y : Int) : Calls Try.prog 46 #[nv n, .int .i64 x, .int .i64 y] w fun e w' => e = .returned (.bool (outB n x y)) ∧ Below w.heap.size w w' := by
  obtain ⟨k, l, r, f, t, a, q⟩ := n
  unfold nv outB nf nt
  dsimp only
  by_cases h1 : t ≤ x
  · go_enter Try.func46, Try.ntmps46
    go_wp2
    go_ret
    exact ⟨retb (by first | (simp; done) | (simp; omega)), (Below.refl _ w).alloc (Nat.le_refl _) _⟩
  · by_cases h2 : y ≤ f
    · go_enter Try.func46, Try.ntmps46
      go_wp2
      go_ret
      exact ⟨retb (by first | (simp; done) | (simp; omega)), (Below.refl _ w).alloc (Nat.le_refl _) _⟩
    · go_enter Try.func46, Try.ntmps46
      go_wp2
      go_ret
      exact ⟨retb (by first | (simp; done) | (simp; omega)), (Below.refl _ w).alloc (Nat.le_refl _) _⟩

set_option maxRecDepth 100000 in
set_option maxHeartbeats 1600000 in
theorem RParent (w : World) (p : Option Addr) (c : Nat) (L : List Nd) (k : Int) (hx : NdS w p L) (hl : L.length ≤ 8192) :
    Calls Try.prog 33 #[.slice p L.length c, .int .i64 k] w fun e w' => e = .returned (.int .i64 (parZ L k)) ∧ w' = w := by
  have HX := Lib.hid hx
  have HPT := Lib.hid (fun i n => par_take (L := L) (k := k) (i := i) (n := n))
  have HPN := Lib.hid (par_none (L := L) (k := k))
  generalize parZ L k = res at *
  obtain ⟨z, hz⟩ : ∃ z, z = L.length := ⟨_, rfl⟩
  have HZ := Lib.hid hz
  rw [← hz] at hl
  rw [← hz]
  clear hx hz
  go_enter Try.func33, Try.ntmps33
  go_wp2
  go_loopw [5] (fun v wr => ∃ i : Nat, i ≤ z ∧ v = .int .i64 i ∧ Hid (∀ m ∈ L.take i, hasKid m k = false) ∧ wr = w) (fun v _ => z - (intOf v).toNat)
  case atStart => exact ⟨0, Nat.zero_le _, rfl, Lib.hid (by simp), rfl⟩
  case round =>
    obtain ⟨i, hi, rfl, HT, rfl⟩ := hrel
    by_cases hlt : i < z
    · have hltz : (i : Int) < z := by omega
      obtain ⟨n, hn⟩ : ∃ n, L[i]? = some n := ⟨_, List.getElem?_eq_getElem (by have := HZ.out; omega)⟩
      obtain ⟨b, off, rfl, hn1⟩ := HX.out.at hn
      have n1 := hn1.c1
      have n2 := hn1.c2
      have HPT2 := Lib.hid (HPT.out i n HT.out hn)
      have HT2 : Hid (hasKid n k = false → ∀ m ∈ L.take (i + 1), hasKid m k = false) := Lib.hid (fun h m hm => by
        rw [List.take_add_one, hn] at hm
        rcases List.mem_append.1 hm with hm | hm
        · exact HT.out m hm
        · simp at hm
          subst hm
          exact h)
      clear hn hn1 HPT HPN HT
      obtain ⟨kk, l, r, f, t, a, q⟩ := n
      simp only at n1 n2
      by_cases h1 : l = k
      · subst h1
        go_wp2
        go_ret
        exact ⟨by rw [HPT2.out (by simp [hasKid, nl, nr])]; rfl, rfl⟩
      · by_cases h2 : r = k
        · subst h2
          go_wp2
          go_ret
          exact ⟨by rw [HPT2.out (by simp [hasKid, nl, nr])]; rfl, rfl⟩
        · have HT3 := Lib.hid (HT2.out (by simp [hasKid, nl, nr, h1, h2]))
          have q1 : (l == k) = false := by simpa using h1
          have q2 : (r == k) = false := by simpa using h2
          clear HT2 HPT2
          go_wp2
          go_roundw
          case rel => exact ⟨i + 1, by omega, by go_num, HT3, by trivial⟩
          case measure => simp [intOf]; omega
    · have hltz : ¬ (i : Int) < z := by omega
      go_wp2
      go_ret
      refine ⟨?_, rfl⟩
      have := HT.out
      rw [List.take_of_length_le (by have := HZ.out; omega)] at this
      rw [HPN.out this]
      rfl

/-- the nodes over so many leaves from f on, none of none -/
def ndT (b f m : Nat) : List Nd := if m = 0 then [] else nds b f (tr m)
theorem ndT_two {b f m a c z : Nat} (h : 2 ≤ m) (ha : a = m - m / 2) (hc : c = m / 2) (hz : z + 1 = 2 * a) : ndT b f m = ndT b f a ++ ndT (b + z) (f + a) c ++ [(2, ((b + z : Nat) : Int) - 1, ((b + (z + (2 * c - 1)) : Nat) : Int) - 1, (f : Int), ((f + m : Nat) : Int), 0, 0)] := by
  unfold ndT
  rw [if_neg (by omega), if_neg (by omega), if_neg (by omega), tr_two h, ← ha, ← hc, nds]
  have l1 : lv (tr a) = a := lv_tr (by omega)
  have l2 : lv (tr c) = c := lv_tr (by omega)
  have s1 : sz (tr a) = z := by unfold sz; rw [l1]; omega
  rw [s1, l1, l2]
  congr 4
  · unfold rt; rw [l1]; omega
  · congr 1
    · unfold rt; rw [l2]; omega
    · congr 2
      omega
theorem ndT_len (b f m : Nat) : (ndT b f m).length = 2 * m - 1 := by
  unfold ndT
  split
  · subst_vars; rfl
  · rw [nds_len, sz, lv_tr (by omega)]
theorem ndT_all (n : Nat) : ndT 0 0 n = ndN n := rfl
end Go.Proofs.Ytmkmkndcndpfeaa
