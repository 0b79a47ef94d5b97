/-
  What the laws of this layer share: Pick, ranged, made. No condition but those typed at each theorem.
-/
import Derived.Test.YtmkmkndcndpfeaaFask
import Derived.Test.YtmkmkndcndpfeaaFnodes
import Derived.Test.YtmkmkndcndpfeaaSame
namespace Go.Proofs.Ytmkmkndcndpfeaa
open Go.RowKit

theorem row_shape {w : World} {base n : Nat} {e : TypeId} {size : Nat} {v : Value} {xs : List Value} (h : w.ownsRow base e size v n xs) : ∃ p c, v = .slice p n c := by
  rcases h.2 with ⟨rfl, h2⟩ | ⟨g, cap, cur, rfl, _⟩
  · exact ⟨none, 0, by rw [h2]⟩
  · exact ⟨some ⟨g, 0, none⟩, cap, rfl⟩
theorem tmod_bound {a n : Int} (hn : 1 ≤ n) : -n < Int.tmod a n ∧ Int.tmod a n < n := by
  have h1 := Int.tmod_lt_of_pos a (show 0 < n by omega)
  have h2 : (Int.tmod a n).natAbs = a.natAbs % n.natAbs := Int.natAbs_tmod a n
  have h3 : a.natAbs % n.natAbs < n.natAbs := Nat.mod_lt _ (by omega)
  omega
set_option maxRecDepth 100000 in
theorem Pick_any (w : World) (a : Int) (n : Nat) (hn : 1 ≤ n) (hm : n ≤ 100000) :
    Calls Try.prog 26 #[.int .i64 a, .int .i64 n] w fun e w' => ∃ r : Nat, e = .returned (.int .i64 r) ∧ r < n ∧ w' = w := by
  have h1 : ¬ (n : Int) < 1 := by omega
  have h0 : ¬ (n : Int) = 0 := by omega
  have hb := tmod_bound (a := a) (n := n) (by omega)
  obtain ⟨x, hx⟩ : ∃ x : Int, x = Int.tmod a n := ⟨_, rfl⟩
  rw [← hx] at hb
  have hx2 : Int.tmod a n = x := hx.symm
  obtain ⟨y, hy⟩ : ∃ y : Nat, x + n = (y : Int) := ⟨(x + n).toNat, by omega⟩
  obtain ⟨r, hr⟩ : ∃ r : Nat, Int.tmod (y : Int) n = (r : Int) := ⟨y % n, rfl⟩
  have hrn : r < n := by
    have := (tmod_bound (a := (y : Int)) (n := n) (by omega)).2
    rw [hr] at this
    omega
  have hyb : (y : Int) ≤ 1000000 := by omega
  have HB := Lib.hid hb
  clear hx hb
  go_enter Try.func26, Try.ntmps26
  go_wp2
  go_ret
  exact ⟨r, rfl, hrn, rfl⟩
set_option maxRecDepth 100000 in
theorem ranged_any (w : World) (n : Nat) (a b : Int) (hm : n ≤ 1500) :
    Calls Try.prog 25 #[.int .i64 n, .int .i64 a, .int .i64 b] w fun e w' => ∃ x y : Nat, e = .returned (.tuple #[.int .i64 x, .int .i64 y]) ∧ x ≤ y ∧ y ≤ n ∧ w' = w := by
  have HP : Hid (∀ X a, Calls Try.prog 26 #[.int .i64 a, .int .i64 ((n + 1 : Nat) : Int)] X fun e w' => ∃ r : Nat, e = .returned (.int .i64 r) ∧ r < n + 1 ∧ w' = X) := Lib.hid (fun X a => Pick_any X a (n + 1) (by omega) (by omega))
  have h1 : (n : Int) + 1 = ((n + 1 : Nat) : Int) := by omega
  obtain ⟨n1, hn1⟩ : ∃ n1, n1 = n + 1 := ⟨_, rfl⟩
  rw [← hn1] at h1 HP
  have HN := Lib.hid hn1
  clear hn1
  go_enter Try.func25, Try.ntmps25
  go_wp2_with (first
    | (go_at_call 26; (with_reducible refine (HP.out _ a).mono ?_); rintro e w1 ⟨x, rfl, hx, rfl⟩)
    | (go_at_call 26; (with_reducible refine (HP.out _ b).mono ?_); rintro e w1 ⟨y, rfl, hy, rfl⟩))
  all_goals (have hn := HN.out)
  all_goals go_ret2
  all_goals first
    | exact ⟨x, y, rfl, by omega, by omega, rfl⟩
    | exact ⟨y, x, rfl, by omega, by omega, rfl⟩
    | exact ⟨x, x, rfl, by omega, by omega, rfl⟩
    | exact ⟨y, y, rfl, by omega, by omega, rfl⟩
set_option maxRecDepth 100000 in
set_option maxHeartbeats 1600000 in
theorem made_any (w : World) (n : Nat) (hn : n ≤ 1500) :
    Calls Try.prog 21 #[.int .i64 n] w fun e w' => ∃ v bl, e = .returned (.tuple #[.pointer (some ⟨w.heap.size, 0, none⟩), v, .bool true]) ∧ FS w' w.heap.size n bl ∧ (∀ k ∈ bl, w.heap.size ≤ k) ∧ Below w.heap.size w w' ∧
      w'.ownsRow w.heap.size 50 7 v (ndN n).length (flatN (ndN n)) ∧ ∀ k, v.ownBlock = some k → k ∉ bl := by
  have HN := Lib.hid (FNew_any w n (by omega))
  have HND := Lib.hid (fun X (hX : FR X w.heap.size n 0 (.pointer none)) => FNodes_any X w.heap.size n [w.heap.size] (.inl ⟨hX, rfl⟩) hn)
  have HL := Lib.hid (fun X d pp (hX : FR X w.heap.size n d pp) => Leaves_any X w.heap.size n d pp hX)
  have hlen := ndN_len n
  obtain ⟨z, hz⟩ : ∃ z, z = (ndN n).length := ⟨_, rfl⟩
  rw [← hz] at hlen ⊢
  have HZ := Lib.hid hz
  clear hz
  by_cases h0 : n = 0
  · subst h0
    obtain rfl : z = 0 := by omega
    have HN : Hid (Calls Try.prog 10 #[.int .i64 0] w fun e w' => e = .returned (.tuple #[.pointer (some ⟨w.heap.size, 0, none⟩), .int .i64 0]) ∧ FR w' w.heap.size 0 0 (.pointer none) ∧ Below w.heap.size w w') := HN
    have HL : Hid (∀ X d pp, FR X w.heap.size 0 d pp → Calls Try.prog 17 #[.pointer (some ⟨w.heap.size, 0, none⟩)] X fun e w' => e = .returned (.int .i64 0) ∧ w' = X) := HL
    clear hlen hn
    go_enter Try.func21, Try.ntmps21
    go_wp2_with (first
      | (go_at_call 10; (with_reducible refine HN.out.mono ?_); rintro e w1 ⟨rfl, hF, hB⟩; have HF1 := Lib.hid hF; have HB1 := Lib.hid hB; clear hF hB)
      | (go_at_call 20; (with_reducible refine (HND.out _ HF1.out).mono ?_); rintro e w2 ⟨v, rfl, bl', hFS, hO, hbl, hrow, hnot⟩; rw [← HZ.out] at hrow; obtain ⟨p, c, rfl⟩ := row_shape hrow; obtain ⟨d, pp, hfr⟩ := hFS.fr; have H1 := Lib.hid hFS; have H2 := Lib.hid hO; have H3 := Lib.hid hbl; have H4 := Lib.hid hrow; have H5 := Lib.hid hnot; have H6 := Lib.hid hfr; clear hFS hO hbl hrow hnot hfr)
      | (go_at_call 17; (with_reducible refine (HL.out _ _ _ H6.out).mono ?_); rintro e w3 ⟨rfl, rfl⟩))
    refine bodyPost_ret (v := .tuple #[.pointer (some ⟨w.heap.size, 0, none⟩), .slice p 0 c, .bool true]) ?_ rfl ⟨_, bl', rfl, H1.out, ?_, ?_, row_base H4.out HB1.out.size, H5.out⟩
    · simp [results, Try.f21, go_sem]
    · intro k hk
      have h1 := HB1.out.size
      rcases H3.out k hk with h2 | h2
      · simp at h2; omega
      · omega
    · exact HB1.out.trans (H2.out.below HB1.out.size (by simp)|>.mono (Nat.le_refl _))
  · have h1 : ¬ (2 * (n : Int) - 1 < 0) := by omega
    have h2 : ((z : Int) == 2 * (n : Int) - 1) = true := by simp; omega
    clear hlen
    go_enter Try.func21, Try.ntmps21
    go_wp2_with (first
      | (go_at_call 10; (with_reducible refine HN.out.mono ?_); rintro e w1 ⟨rfl, hF, hB⟩; have HF1 := Lib.hid hF; have HB1 := Lib.hid hB; clear hF hB)
      | (go_at_call 20; (with_reducible refine (HND.out _ HF1.out).mono ?_); rintro e w2 ⟨v, rfl, bl', hFS, hO, hbl, hrow, hnot⟩; rw [← HZ.out] at hrow; obtain ⟨p, c, rfl⟩ := row_shape hrow; obtain ⟨d, pp, hfr⟩ := hFS.fr; have H1 := Lib.hid hFS; have H2 := Lib.hid hO; have H3 := Lib.hid hbl; have H4 := Lib.hid hrow; have H5 := Lib.hid hnot; have H6 := Lib.hid hfr; clear hFS hO hbl hrow hnot hfr)
      | (go_at_call 17; (with_reducible refine (HL.out _ _ _ H6.out).mono ?_); rintro e w3 ⟨rfl, rfl⟩))
    refine bodyPost_ret (v := .tuple #[.pointer (some ⟨w.heap.size, 0, none⟩), .slice p z c, .bool true]) ?_ rfl ⟨_, bl', rfl, H1.out, ?_, ?_, row_base H4.out HB1.out.size, H5.out⟩
    · simp [results, Try.f21, go_sem]
    · intro k hk
      have h1 := HB1.out.size
      rcases H3.out k hk with h2 | h2
      · simp at h2; omega
      · omega
    · exact HB1.out.trans (H2.out.below HB1.out.size (by simp)|>.mono (Nat.le_refl _))
end Go.Proofs.Ytmkmkndcndpfeaa
