/-
  The document's Order and Merge. No condition but those typed at each theorem.
-/
import Derived.Test.YtomchimjogdkkaaRefP
import Derived.Test.YtomchimjogdkkaaApp
namespace Go.Proofs.Ytomchimjogdkkaa
open Go.RowKit

/-- these places, so many keys written, and no error -/
def RTold (w : World) (L : List Int) (n c : Nat) (e : Ending) (w' : World) : Prop :=
  ∃ v, e = .returned (.tuple #[v, .int .i64 n, .int .i64 0]) ∧ w'.ownsRow w.heap.size 3 1 v c (L.map (Value.int .i64)) ∧ Below w.heap.size w w'

set_option maxRecDepth 100000 in
set_option maxHeartbeats 1600000 in
theorem RefOrder_any (w : World) (p : Option Addr) (cap : Nat) (ks : List (Int × Int)) (hk : KS w p ks) (hn : ks.length ≤ 8192) :
    Calls Try.prog 13 #[.slice p ks.length cap] w (RTold w (srt ks) (wrt ks.length) ks.length) := by
  have C1 := Lib.hid (Places_any w p cap ks hk hn)
  have C2 := Lib.hid (fun X => rwritten_any (ks.length + 1) ks.length X (by omega) hn)
  obtain ⟨n, hnn⟩ : ∃ n, n = ks.length := ⟨_, rfl⟩
  rw [← hnn] at hn C1 C2
  rw [← hnn]
  clear hnn hk
  have hnz : ¬ (17179869184 : Int) < n := by omega
  go_enter Try.func13, Try.ntmps13
  go_wp2_with (first
    | (go_at_call 27; (with_reducible refine C1.out.mono ?_); rintro e w1 ⟨v, rfl, hown, hb⟩; have HO := Lib.hid hown; have HB := Lib.hid hb; clear hown hb)
    | (go_at_call 28; (with_reducible refine (C2.out _).mono ?_); rintro e w2 ⟨rfl, rfl⟩))
  go_ret3
  exact ⟨_, rfl, HO.out, HB.out⟩

theorem row_base {w : World} {base b2 n : Nat} {e : TypeId} {size : Nat} {v : Value} {xs : List Value} (h : w.ownsRow base e size v n xs) (hb : b2 ≤ base) : w.ownsRow b2 e size v n xs := by
  obtain ⟨h1, h2⟩ := h
  refine ⟨h1, ?_⟩
  rcases h2 with h2 | ⟨q, cap, cur, hv, hq, hr⟩
  · exact .inl h2
  · exact .inr ⟨q, cap, cur, hv, Nat.le_trans hb hq, hr⟩

set_option maxRecDepth 100000 in
set_option maxHeartbeats 3200000 in
theorem RefMerge_any (w : World) (p q : Option Addr) (ca cb : Nat) (xs ys : List (Int × Int)) (hx : KS w p xs) (hy : KS w q ys) (hp : p = none → ca = 0) (hq : q = none → cb = 0) (hn : xs.length ≤ 4000 ∧ ys.length ≤ 4000) :
    Calls Try.prog 16 #[.slice p xs.length ca, .slice q ys.length cb] w (if (risD xs && risD ys) = true then RTold w (srt (xs ++ ys)) (xs.length + ys.length) (xs.length + ys.length) else Bad w 2) := by
  have C1 := Lib.hid (rrise_any w p ca xs hx (by omega))
  have C2 := Lib.hid (fun X (h : KS X q ys) => rrise_any X q cb ys h (by omega))
  have C3 := Lib.hid (fun X p c (h : KS X p (xs ++ ys)) => Places_any X p c (xs ++ ys) h (by simp; omega))
  obtain ⟨la, hla⟩ : ∃ n, n = xs.length := ⟨_, rfl⟩
  obtain ⟨lb, hlb⟩ : ∃ n, n = ys.length := ⟨_, rfl⟩
  have hlen : (xs ++ ys).length = la + lb := by simp [hla, hlb]
  have HLN := Lib.hid hlen
  have HLA := Lib.hid hla
  have HLB := Lib.hid hlb
  have HX := Lib.hid hx
  have HY := Lib.hid hy
  rw [hlen] at C3
  rw [← hla] at C1
  rw [← hlb] at C2
  rw [← hla, ← hlb] at hn
  rw [← hla, ← hlb]
  clear hlen hx hy hla hlb
  have hnz : ¬ (17179869184 : Int) < (la : Int) + lb := by omega
  obtain ⟨r1, hr1⟩ : ∃ r, r = risD xs := ⟨_, rfl⟩
  obtain ⟨r2, hr2⟩ : ∃ r, r = risD ys := ⟨_, rfl⟩
  rw [← hr1] at C1
  rw [← hr2] at C2
  rw [← hr1, ← hr2]
  clear hr1 hr2
  cases r1
  · go_enter Try.func16, Try.ntmps16
    go_wp2_with (go_at_call 32; (with_reducible refine C1.out.mono ?_); rintro e w1 ⟨rfl, hb⟩; have HB := Lib.hid hb; clear hb)
    go_ret3
    exact ⟨rfl, HB.out⟩
  · cases r2
    · go_enter Try.func16, Try.ntmps16
      go_wp2_with (first
        | (go_at_call 32; (with_reducible refine C1.out.mono ?_); rintro e w1 ⟨rfl, hb⟩; have HY1 := Lib.hid (HY.out.keep hb); have HB := Lib.hid hb; clear hb)
        | (go_at_call 32; (with_reducible refine (C2.out w1 HY1.out).mono ?_); rintro e w2 ⟨rfl, hb⟩; have HB2 := Lib.hid (HB.out.trans (hb.mono HB.out.size)); clear hb))
      go_ret3
      exact ⟨rfl, HB2.out⟩
    · go_enter Try.func16, Try.ntmps16
      go_upto_region 5 with (first
        | (go_at_call 32; (with_reducible refine C1.out.mono ?_); rintro e w1 ⟨rfl, hb⟩; have HX1 := Lib.hid (HX.out.keep hb); have HY1 := Lib.hid (HY.out.keep hb); have HB := Lib.hid hb; clear hb)
        | (go_at_call 32; (with_reducible refine (C2.out w1 HY1.out).mono ?_); rintro e w2 ⟨rfl, hb⟩; have HX2 := Lib.hid (HX1.out.keep hb); have HY2 := Lib.hid (HY1.out.keep hb); have HB2 := Lib.hid (HB.out.trans (hb.mono HB.out.size)); clear hb))
      have hO := World.ownsRow_made (base := w2.heap.size) (e := 40) (size := 2) w2 #[] 0 (Nat.le_refl _) (by simp [maxLen]) rfl
      have HO := Lib.hid hO
      have hA := (Below.refl w2.heap.size w2).alloc (Nat.le_refl _) (.cells #[] 40)
      have HA := Lib.hid hA
      have HX3 := Lib.hid (HX2.out.keep hA)
      have ex : ∀ c, Value.slice p xs.length c = .slice p la c := fun c => by rw [← HLA.out]
      have ey : ∀ c, Value.slice q ys.length c = .slice q lb c := fun c => by rw [← HLB.out]
      have HEX := Lib.hid ex
      have HEY := Lib.hid ey
      have hn1 : ys.length ≤ 4000 := by have := HLB.out; omega
      have hn2 : xs.length ≤ 4000 := by have := HLA.out; omega
      have HN1 := Lib.hid hn1
      have HN2 := Lib.hid hn2
      clear hO hA ex ey hn1 hn2
      go_upto_region 6 with (first
        | (at_builtin; refine wpList_appK rfl (.tmp 22) (.tmp 23) rfl w2.heap.size 0 (.slice (some ⟨w2.heap.size, 0, none⟩) 0 0) [] xs p ca rfl (HEX.out ca).symm HO.out HX3.out (fun _ h => hp h) (by have := HN2.out; omega) (by simp) ?_; intro v3 w3 h1 h2; have hB3 := HA.out.grown h2 (by simp) (fun k hk => by simp [Value.ownBlock] at hk; omega); rw [List.nil_append, Nat.zero_add] at h1; have H1 := Lib.hid h1; have HB3 := Lib.hid hB3; have HY3 := Lib.hid (HY2.out.keep hB3); clear h1 h2 hB3)
        | (at_builtin; refine wpList_appK rfl (.tmp 24) (.tmp 25) rfl w2.heap.size xs.length v3 xs ys q cb rfl (HEY.out cb).symm H1.out HY3.out (fun _ h => hq h) (by have := HN1.out; have := HN2.out; omega) HB3.out.size ?_; intro v4 w4 h1 h2; have hB4 := HB3.out.grown h2 HB3.out.size (own_ge' H1.out); obtain ⟨p4, c4, rfl, -, hK4, -⟩ := KS.own h1; rw [HLN.out]; have HB4 := Lib.hid (HB2.out.trans (hB4.mono HB2.out.size)); have HK4 := Lib.hid hK4; clear h1 h2 hB4 hK4))
      go_wp2_with (go_at_call 27; (with_reducible refine (C3.out w4 _ _ HK4.out).mono ?_); rintro e w5 ⟨v5, rfl, hown, hb⟩; have HW5 := Lib.hid (row_base hown HB4.out.size); have HB5 := Lib.hid (HB4.out.trans (hb.mono HB4.out.size)); clear hown hb)
      go_ret3
      exact ⟨_, by go_num, HW5.out, HB5.out⟩
end Go.Proofs.Ytomchimjogdkkaa
