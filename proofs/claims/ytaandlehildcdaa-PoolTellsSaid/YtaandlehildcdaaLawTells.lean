/-
  PoolTells: what may be put, where it stands, what is told of a pool, and of nodes in a list, is as the document defines. For any room, any nodes, any place; no condition.
-/
import Derived.Test.YtaandlehildcdaaRefD
import Derived.Test.YtaandlehildcdaaEqN
namespace Go.Proofs.Ytaandlehildcdaa
open Go.ChangeShapes Go.WideShapes Go.ChangeAt Go.RowKit Go.Joins

theorem nodes_le {H : Type} {enc : TypeId × Value → H} {W : World} {d : DataW H} {p : List MemPlace} {q : Option Addr} {len cap : Nat}
    (h : DataW.Trod enc Try.prog W 0 (fun _ => true) true 22 (.slice q len cap) d p) : len ≤ cap := by
  obtain ⟨fuel, hf⟩ := h
  rcases Go.Deep.open_slice Try.underlying22 hf with ⟨hcs, _⟩ | ⟨a, len', cap', m, n, D, Pl, hcs, hb, hl, hm, hmm, hx, hi⟩
  · simp [Value.cells] at hcs
    obtain ⟨rfl, rfl, rfl⟩ := hcs
    exact Nat.le_refl _
  · simp [Value.cells] at hcs
    obtain ⟨rfl, rfl, rfl⟩ := hcs
    exact hl
/-- the pool, and the document's list beside it -/
def HV (w X : World) (P : Nat) (most : Int) (N : List Nd) (q : Option Addr) (c : Nat) : Prop :=
  ∃ v1 v2, PO X P v1 v2 most N ∧ Below w.heap.size w X ∧ (∀ k ∈ pbl P v1 v2, w.heap.size ≤ k) ∧ NdS X q N ∧ (q = none → c = 0) ∧ (∀ b o, q = some ⟨b, o, none⟩ → N ≠ [] → b ∉ pbl P v1 v2) ∧ (N.length : Int) ≤ most
theorem put_eq {N : List Nd} {most : Int} (h : (N.length : Int) ≤ most) (n : Nd) : rput N most n = putN N most n := by
  unfold rput putN
  by_cases h1 : (N.length : Int) = most
  · rw [if_pos h1, if_pos (show most ≤ (N.length : Int) by omega)]
  · rw [if_neg h1, if_neg (show ¬ most ≤ (N.length : Int) by omega)]
theorem put_most {N : List Nd} {most : Int} (h : (N.length : Int) ≤ most) (n : Nd) : ((putN N most n).1.length : Int) ≤ most := by
  unfold putN
  split
  · split
    · exact h
    · rename_i h1
      show ((N ++ [n]).length : Int) ≤ most
      rw [List.length_append, List.length_singleton]
      omega
  · exact h
section
variable {w X w' : World} {P : Nat} {most : Int} {N : List Nd} {q : Option Addr} {c : Nat}
theorem HV.pk (h : HV w X P most N q c) : PK w X P most N := by
  obtain ⟨v1, v2, h1, h2, h3, -⟩ := h
  exact ⟨v1, v2, h1, h2, h3⟩
theorem HV.nd (h : HV w X P most N q c) : NdS X q N := by
  obtain ⟨v1, v2, -, -, -, h4, -⟩ := h
  exact h4
theorem HV.nil (h : HV w X P most N q c) : q = none → c = 0 := by
  obtain ⟨v1, v2, -, -, -, -, h5, -⟩ := h
  exact h5
theorem HV.below (h : HV w X P most N q c) : Below w.heap.size w X := h.pk.below
theorem HV.keep (h : HV w X P most N q c) (hb : Below X.heap.size X w') : HV w w' P most N q c := by
  obtain ⟨v1, v2, h1, h2, h3, h4, h5, h6, h7⟩ := h
  exact ⟨v1, v2, h1.keep hb, h2.trans (hb.mono h2.size), h3, h4.keep hb, h5, h6, h7⟩
/-- the pool has put n, the document's list has not -/
def HM (w X : World) (P : Nat) (most : Int) (N N' : List Nd) (q : Option Addr) (c : Nat) : Prop :=
  ∃ v1 v2, PO X P v1 v2 most N' ∧ Below w.heap.size w X ∧ (∀ k ∈ pbl P v1 v2, w.heap.size ≤ k) ∧ NdS X q N ∧ (q = none → c = 0) ∧ (∀ b o, q = some ⟨b, o, none⟩ → N ≠ [] → b ∉ pbl P v1 v2) ∧ (N.length : Int) ≤ most
theorem HV.put (h : HV w X P most N q c) (n : Nd) (hN : N.length ≤ 8000) :
    Calls Try.prog 17 #[.pointer (some ⟨P, 0, none⟩), nv n] X fun e w' => e = .returned (told (putN N most n)) ∧ HM w w' P most N (putN N most n).1 q c := by
  obtain ⟨v1, v2, h1, h2, h3, h4, h5, h6, h7⟩ := h
  refine (Put_any X P v1 v2 most N n h1 hN).mono ?_
  rintro e w' ⟨u1, u2, rfl, hP', hO', hW'⟩
  refine ⟨rfl, u1, u2, hP', h2.trans (hO'.below h2.size h3), fun k hk => (hW' k hk).elim (h3 k) (fun h => Nat.le_trans h2.size h), h4.off hO' h6, h5, fun b o e h0 hm => ?_, h7⟩
  rcases hW' b hm with h | h
  · exact h6 b o e h0 h
  · subst e
    have := h4.lt h0
    omega
theorem HM.rput {N' : List Nd} (h : HM w X P most N N' q c) (n : Nd) (hN : N.length ≤ 8000) (hp : N' = (putN N most n).1) :
    Calls Try.prog 18 #[.slice q N.length c, .int .i64 most, nv n] X fun e w' => ∃ q' c', e = .returned (.tuple #[.slice q' (putN N most n).1.length c', .int .i64 (putN N most n).2.1, .int .i64 (putN N most n).2.2]) ∧ HV w w' P most (putN N most n).1 q' c' := by
  obtain ⟨v1, v2, h1, h2, h3, h4, h5, h6, h7⟩ := h
  subst hp
  have hr := RPut X q c N most n h4 h5 hN
  rw [put_eq h7] at hr
  refine hr.mono ?_
  rintro e w' ⟨q', c', rfl, g1, g2, g3, g4⟩
  refine ⟨q', c', rfl, v1, v2, h1.keep g4, h2.trans (g4.mono h2.size), h3, g1, g2, fun b o e h0 hm => ?_, put_most h7 n⟩
  rcases g3 with ⟨rfl, g3⟩ | g3
  · rw [g3] at h0
    exact h6 b o e h0 hm
  · have := g3 b o e
    have := h1.lt b hm
    omega
theorem HV.putbox (h : HV w X P most N q c) (n : Nd) (hN : N.length ≤ 8000) :
    Calls Try.prog 17 #[.pointer (some ⟨P, 0, none⟩), nv n] (X.alloc (.cells (nvs n).toArray 34)) fun e w' => e = .returned (told (putN N most n)) ∧ HM w w' P most N (putN N most n).1 q c ∧ N1 w' X.heap.size 0 n := by
  obtain ⟨v1, v2, h1, h2, h3, h4, h5, h6, h7⟩ := h
  have hb : Below X.heap.size X (X.alloc (.cells (nvs n).toArray 34)) := (Below.refl _ X).alloc (Nat.le_refl _) _
  refine (Put_any _ P v1 v2 most N n (h1.keep hb) hN).mono ?_
  rintro e w' ⟨u1, u2, rfl, hP', hO', hW'⟩
  have h2' := h2.trans (hb.mono h2.size)
  refine ⟨rfl, ⟨u1, u2, hP', h2'.trans (hO'.below h2'.size h3), fun k hk => (hW' k hk).elim (h3 k) (fun h => Nat.le_trans h2'.size h), (h4.keep hb).off hO' h6, h5, fun b o e h0 hm => ?_, h7⟩, ?_⟩
  · rcases hW' b hm with h | h
    · exact h6 b o e h0 h
    · subst e
      have := h4.lt h0
      simp at h
      omega
  · exact (N1.new X n _).off hO' (fun hm => by have := h1.lt _ hm; omega)
theorem HV.get (h : HV w X P most N q c) {j : Nat} {n : Nd} (hn : N[j]? = some n) :
    Calls Try.prog 19 #[.pointer (some ⟨P, 0, none⟩), .int .i64 j] X fun e w' => e = .returned (nod n true) ∧ Below X.heap.size X w' := by
  obtain ⟨v1, v2, h1, -⟩ := h
  exact Get_any X P v1 v2 most N j n h1 hn
theorem HV.getnot (h : HV w X P most N q c) {i : Int} (hi : ¬ (0 ≤ i ∧ i < N.length)) :
    Calls Try.prog 19 #[.pointer (some ⟨P, 0, none⟩), .int .i64 i] X fun e w' => e = .returned (nod (0, 0, 0, 0, 0, 0, 0) false) ∧ Below X.heap.size X w' := by
  obtain ⟨v1, v2, h1, -⟩ := h
  exact Get_not X P v1 v2 most i N h1 hi
theorem HM.keep {N' : List Nd} (h : HM w X P most N N' q c) (hb : Below X.heap.size X w') : HM w w' P most N N' q c := by
  obtain ⟨v1, v2, h1, h2, h3, h4, h5, h6, h7⟩ := h
  exact ⟨v1, v2, h1.keep hb, h2.trans (hb.mono h2.size), h3, h4.keep hb, h5, h6, h7⟩
theorem HV.new (hB : Below w.heap.size w X) (hP : PO w' X.heap.size (.slice none 0 0) (.slice none 0 0) most []) (hb : Below X.heap.size X w') (hm : 0 ≤ most) : HV w w' X.heap.size most [] none 0 := by
  refine ⟨_, _, hP, hB.trans (hb.mono hB.size), fun q hq => ?_, .inl rfl, fun _ => rfl, (fun b o e => by cases e), hm⟩
  simp [pbl, Value.ownBlock] at hq
  have := hB.size
  omega
end

set_option maxRecDepth 100000 in
set_option maxHeartbeats 12800000 in
theorem tells_walk (most : Int) (p : Option Addr) (cap : Nat) (ns : List Nd) (i : Int) (w : World) (hx : NdS w p ns) (hp : p = none → cap = 0) (hc : ns.length ≤ cap) :
    Calls Try.prog 3 #[.int .i64 most, .slice p ns.length cap, .int .i64 i] w fun e w' => e = .returned (.bool true) ∧ Below w.heap.size w w' := by
  by_cases hbig : 60 < ns.length
  · have hbz : (60 : Int) < ns.length := by omega
    clear hx hp hc
    go_enter Try.func3, Try.ntmps3
    go_wp2_with (go_at_call 9; (with_reducible refine (awake_any _).mono ?_); rintro e w1 ⟨rfl, hb⟩)
    go_ret
    exact ⟨rfl, hb⟩
  have HX := Lib.hid hx
  have HCN : Hid (Calls Try.prog 10 #[.slice p ns.length cap] w fun e w' => ∃ p4 c4, e = .returned (.slice p4 ns.length c4) ∧ NdS w' p4 ns ∧ Below w.heap.size w w') := Lib.hid (by
    refine (CopyNodes_any w p cap ns hx hp (by omega)).mono ?_
    rintro e w' ⟨v, rfl, hR, hb⟩
    obtain ⟨-, p4, c4, rfl, hNd, -⟩ := row_nds hR
    exact ⟨p4, c4, rfl, hNd, hb⟩)
  have HPH := Lib.hid (fun X q c (hq : NdS X q ns) => PHeight X q c ns i hq (by omega))
  have HRH := Lib.hid (fun X (hX : Below w.heap.size w X) => RHeight X p cap ns i (hx.keep hX) (by omega) hc)
  have HPR := Lib.hid (fun X q c (hq : NdS X q ns) => Right_any X q c ns hq (by omega))
  have HRR := Lib.hid (fun X (hX : Below w.heap.size w X) => RRight X p cap ns (hx.keep hX) (by omega) hc)
  have HEN : Hid (∀ (Y : World) q c, NdS Y q ns → Below w.heap.size w Y → Calls Try.prog 15 #[.slice q ns.length c, .slice p ns.length cap] Y fun e w' => e = .returned (.bool true) ∧ Below Y.heap.size Y w') := Lib.hid (fun Y q c h1 h2 => by
    have := nodes_any Y q p c cap ns ns h1 (hx.keep h2) (by omega)
    rw [decide_eq_true rfl] at this
    exact this)
  unfold pair at HPH HRH
  obtain ⟨h1, hh1⟩ : ∃ x, x = (hgt ns i).1 := ⟨_, rfl⟩
  obtain ⟨h2, hh2⟩ : ∃ x, x = (hgt ns i).2 := ⟨_, rfl⟩
  obtain ⟨rt, hrt⟩ : ∃ x, x = rtB ns := ⟨_, rfl⟩
  obtain ⟨m, hm⟩ : ∃ m, m = ns.length := ⟨_, rfl⟩
  have HLN := Lib.hid hm
  rw [← hh1, ← hh2, ← hm] at HPH HRH
  rw [← hrt, ← hm] at HPR HRR
  rw [← hm] at HCN HEN hbig
  rw [← hm]
  have hbz : ¬ (60 : Int) < m := by omega
  clear hx hp hc hh1 hh2 hrt hm
  have hnew : (0 ≤ most ∧ most ≤ 68719476736) ∨ most < 0 ∨ (¬ most < 0 ∧ (68719476736 : Int) < most) := by omega
  rcases hnew with hnew | hnew
  case' inr =>
    have HNEW := Lib.hid (fun X => New_not X most (by omega))
  case' inl =>
    have HNEW := Lib.hid (fun X (hX : Below w.heap.size w X) => New_any X most hnew)
    have HNN := Lib.hid hnew.1
    have hn1 : ¬ most < 0 := by omega
    have hn2 : ¬ (68719476736 : Int) < most := by omega
  case inr =>
    cases rt <;> rcases hnew with hn1 | ⟨hn1, hn2⟩
    all_goals (
      go_enter Try.func3, Try.ntmps3
      go_wp2_with (first
        | (go_at_call 10; (with_reducible refine HCN.out.mono ?_); rintro e w1 ⟨p4, c4, rfl, hNd, hb⟩; have HN4 := Lib.hid hNd; have HB := Lib.hid hb; clear hNd hb)
        | (go_at_call 11; (with_reducible refine (HPH.out _ _ _ HN4.out).mono ?_); rintro e w2 ⟨rfl, hb⟩; have HN4 := Lib.hid (HN4.out.keep hb); have HB := Lib.hid (HB.out.trans (hb.mono HB.out.size)); clear hb)
        | (go_at_call 12; (with_reducible refine (HRH.out _ HB.out).mono ?_); rintro e w3 ⟨rfl, hb⟩; have HN4 := Lib.hid (HN4.out.keep hb); have HB := Lib.hid (HB.out.trans (hb.mono HB.out.size)); clear hb)
        | (go_at_call 13; (with_reducible refine (HPR.out _ _ _ HN4.out).mono ?_); rintro e w4 ⟨rfl, hb⟩; have HN4 := Lib.hid (HN4.out.keep hb); have HB := Lib.hid (HB.out.trans (hb.mono HB.out.size)); clear hb)
        | (go_at_call 14; (with_reducible refine (HRR.out _ HB.out).mono ?_); rintro e w5 ⟨rfl, hb⟩; have HN4 := Lib.hid (HN4.out.keep hb); have HB := Lib.hid (HB.out.trans (hb.mono HB.out.size)); clear hb)
        | (go_at_call 15; (with_reducible refine (HEN.out _ _ _ HN4.out HB.out).mono ?_); rintro e w6 ⟨rfl, hb⟩; have HB := Lib.hid (HB.out.trans (hb.mono HB.out.size)); clear hb)
        | (go_at_call 16; (with_reducible refine (HNEW.out _).mono ?_); rintro e wL ⟨rfl, hL⟩; subst hL)
        | (go_at_call 9; (with_reducible refine (awake_any _).mono ?_); rintro e w9 ⟨rfl, hb⟩; have HB := Lib.hid (HB.out.trans (hb.mono HB.out.size)); clear hb))
      go_ret
      exact ⟨rfl, HB.out⟩)
  cases rt
  all_goals (
    go_enter Try.func3, Try.ntmps3
    go_wp2_with (first
      | (go_at_call 10; (with_reducible refine HCN.out.mono ?_); rintro e w1 ⟨p4, c4, rfl, hNd, hb⟩; have HN4 := Lib.hid hNd; have HB := Lib.hid hb; clear hNd hb)
      | (go_at_call 11; (with_reducible refine (HPH.out _ _ _ HN4.out).mono ?_); rintro e w2 ⟨rfl, hb⟩; have HN4 := Lib.hid (HN4.out.keep hb); have HB := Lib.hid (HB.out.trans (hb.mono HB.out.size)); clear hb)
      | (go_at_call 12; (with_reducible refine (HRH.out _ HB.out).mono ?_); rintro e w3 ⟨rfl, hb⟩; have HN4 := Lib.hid (HN4.out.keep hb); have HB := Lib.hid (HB.out.trans (hb.mono HB.out.size)); clear hb)
      | (go_at_call 13; (with_reducible refine (HPR.out _ _ _ HN4.out).mono ?_); rintro e w4 ⟨rfl, hb⟩; have HN4 := Lib.hid (HN4.out.keep hb); have HB := Lib.hid (HB.out.trans (hb.mono HB.out.size)); clear hb)
      | (go_at_call 14; (with_reducible refine (HRR.out _ HB.out).mono ?_); rintro e w5 ⟨rfl, hb⟩; have HN4 := Lib.hid (HN4.out.keep hb); have HB := Lib.hid (HB.out.trans (hb.mono HB.out.size)); clear hb)
      | (go_at_call 15; (with_reducible refine (HEN.out _ _ _ HN4.out HB.out).mono ?_); rintro e w6 ⟨rfl, hb⟩; have HB := Lib.hid (HB.out.trans (hb.mono HB.out.size)); clear hb)
      | (go_at_call 16; (with_reducible refine (HNEW.out _ HB.out).mono ?_); rintro e w7 ⟨rfl, hP, hb⟩
         have HS := Lib.hid (HV.new HB.out hP hb HNN.out)
         clear hP hb))
    clear HCN HPH HRH HPR HRR HEN HNEW HN4
    go_loopw [13, 91] (fun v j wr => ∃ (k : Nat) (N : List Nd) (q : Option Addr) (c : Nat), k ≤ m ∧ j = .int .i64 k ∧ v = .slice q N.length c ∧ Hid (HV w wr w6.heap.size most N q c) ∧ Hid (N.length ≤ k)) (fun _ j _ => m - (intOf j).toNat)
    case atStart => exact ⟨0, [], none, 0, Nat.zero_le _, rfl, rfl, HS, Lib.hid (Nat.le_refl _)⟩
    case round =>
      clear HS
      obtain ⟨k, N, q, c, hk, rfl, rfl, HS, HNK⟩ := hrel
      by_cases hlt : k < m
      · have hltz : (k : Int) < m := by omega
        obtain ⟨n, hne⟩ : ∃ n, ns[k]? = some n := ⟨_, List.getElem?_eq_getElem (by have := HLN.out; omega)⟩
        obtain ⟨b, off, rfl, g1⟩ := HX.out.at hne
        have g2 := g1.keep HS.out.below g1.lt
        have n0 := g2.c0
        have n1 := g2.c1
        have n2 := g2.c2
        have n3 := g2.c3
        have n4 := g2.c4
        have n5 := g2.c5
        have n6 := g2.c6
        have hNl := HNK.out
        have HPU := Lib.hid (HS.out.putbox n (by omega))
        have HRP := Lib.hid (fun X (hX : HM w X w6.heap.size most N (putN N most n).1 q c) => hX.rput n (by omega) rfl)
        have HPL := Lib.hid (put_len N most n)
        obtain ⟨pn, hpn⟩ : ∃ pn, pn = putN N most n := ⟨_, rfl⟩
        rw [← hpn] at HPU HRP HPL
        clear g1 g2 hne hNl hpn HS
        obtain ⟨N', at', e'⟩ := pn
        obtain ⟨kk, L, R, g, t, a, qq⟩ := n
        simp only at n0 n1 n2 n3 n4 n5 n6
        unfold nv told at HPU
        unfold nvs at HPU
        unfold nv at HRP
        dsimp only at HPU HRP HPL
        go_wp2_with (first
          | (go_at_call 17; (with_reducible refine HPU.out.mono ?_); rintro e w8 ⟨rfl, hM, hB⟩
             have HMM := Lib.hid hM
             have m0 := hB.c0
             have m1 := hB.c1
             have m2 := hB.c2
             have m3 := hB.c3
             have m4 := hB.c4
             have m5 := hB.c5
             have m6 := hB.c6
             simp only [Nat.zero_add] at m1 m2 m3 m4 m5 m6
             clear hM hB)
          | (go_at_call 18; (with_reducible refine (HRP.out _ HMM.out).mono ?_); rintro e w9 ⟨q', c', rfl, hV⟩; have HS9 := Lib.hid hV; clear hV))
        go_roundw
        case rel => exact ⟨k + 1, N', q', c', by omega, by go_num, rfl, HS9, Lib.hid (by have h1 := HPL.out; have h2 := HNK.out; omega)⟩
        case measure => simp [intOf]; omega
      · obtain rfl : k = m := by omega
        have hltz : ¬ (k : Int) < k := by omega
        have hN60 : N.length ≤ 60 := by have := HNK.out; omega
        have HB0 := Lib.hid HS.out.below
        have HNO := Lib.hid (fun Y (hY : Below wr.heap.size wr Y) => (HS.out.keep hY).pk.Nodes (by omega))
        have HRO := Lib.hid (fun Y (hY : Below wr.heap.size wr Y) => (HS.out.keep hY).pk.Roots (by omega))
        have HLE := Lib.hid (fun Y (hY : Below wr.heap.size wr Y) => (HS.out.keep hY).pk.Len)
        have hri : (rootsI N).length ≤ 8000 := by
          have := roots_len HS.out.pk.rt
          unfold rootsI
          rw [List.length_map]
          omega
        have HRQ : Hid (∀ Y, Below wr.heap.size wr Y → Calls Try.prog 24 #[.slice q N.length c] Y fun e w' => ∃ p' c', e = .returned (.slice p' (rootsI N).length c') ∧ NS w' p' .i64 (rootsI N) ∧ Below Y.heap.size Y w') := Lib.hid (fun Y hY => by
          refine (RRoots Y q c N (HS.out.keep hY).nd (by omega)).mono ?_
          rintro e w' ⟨v, rfl, hR, hb⟩
          obtain ⟨p', c', rfl, hNS⟩ := row_ints hR
          exact ⟨p', c', rfl, hNS, hb⟩)
        have HEQ : Hid (∀ Y q2 c2, Below wr.heap.size wr Y → NdS Y q2 N → Calls Try.prog 15 #[.slice q2 N.length c2, .slice q N.length c] Y fun e w' => e = .returned (.bool true) ∧ Below Y.heap.size Y w') := Lib.hid (fun Y q2 c2 hY h1 => by
          have := nodes_any Y q2 q c2 c N N h1 (HS.out.keep hY).nd (by omega)
          rw [decide_eq_true rfl] at this
          exact this)
        have HEI : Hid (∀ Y q2 c2 q3 c3, NS Y q2 .i64 (rootsI N) → NS Y q3 .i64 (rootsI N) → Calls Try.prog 22 #[.slice q2 (rootsI N).length c2, .slice q3 (rootsI N).length c3] Y fun e w' => e = .returned (.bool true) ∧ Below Y.heap.size Y w') := Lib.hid (fun Y q2 c2 q3 c3 h1 h2 => by
          have := ints_any Y q2 q3 c2 c3 (rootsI N) (rootsI N) h1 h2 (by omega)
          rw [decide_eq_true rfl] at this
          exact this)
        have HBW := Lib.hid (Below.refl wr.heap.size wr)
        by_cases hi : 0 ≤ i ∧ i < N.length
        · obtain ⟨hi0, hi1⟩ := hi
          obtain ⟨j, rfl⟩ : ∃ j : Nat, i = j := ⟨i.toNat, by omega⟩
          obtain ⟨n, hne⟩ : ∃ n, N[j]? = some n := ⟨_, List.getElem?_eq_getElem (by omega)⟩
          have HG := Lib.hid (HS.out.get hne)
          obtain ⟨b, off, rfl, g1⟩ := HS.out.nd.at hne
          have HN1 := Lib.hid g1
          have hbl := g1.lt
          clear g1 hne hi0
          obtain ⟨r, hr⟩ : ∃ r, r = (rootsI N).length := ⟨_, rfl⟩
          obtain ⟨d, hd⟩ : ∃ d, d = N.length := ⟨_, rfl⟩
          rw [← hr] at HRO HRQ HEI
          rw [← hd] at HNO HLE HRQ HEQ hi1
          rw [← hd]
          clear hr hd hri HS hN60
          obtain ⟨kk, L, R, g, t, a, qq⟩ := n
          have hN : ∀ X, (binOp .neq 34 (.agg #[.int .u8 kk, .int .i64 L, .int .i64 R, .int .i64 g, .int .i64 t, .int .i64 a, .int .i64 qq]) (.agg #[.int .u8 kk, .int .i64 L, .int .i64 R, .int .i64 g, .int .i64 t, .int .i64 a, .int .i64 qq])).run Try.prog X = .ok (.bool false) X := fun X => by
            rw [neN, decide_eq_true rfl]
            rfl
          unfold nod nv at HG
          dsimp only at HG
          go_upto_region 25 with (go_at_call 19; (with_reducible refine HG.out.mono ?_); rintro e w10 ⟨rfl, hb⟩
                                  have hq := HN1.out.keep hb hbl
                                  have hbl10 := Nat.lt_of_lt_of_le hbl hb.size
                                  have HN10 := Lib.hid hq
                                  have HBW := Lib.hid (HBW.out.trans (hb.mono HBW.out.size))
                                  clear hb hq)
          obtain ⟨wq, hwq⟩ : ∃ x, x = w10.alloc (.cells (nvs (kk, L, R, g, t, a, qq)).toArray 34) := ⟨_, rfl⟩
          have hq := HN10.out.block (w' := wq) (by rw [hwq]; exact Below.heap_alloc _ _ _ hbl10)
          have hB9 : N1 wq w10.heap.size 0 (kk, L, R, g, t, a, qq) := by rw [hwq]; exact N1.new w10 _ _
          have hBW : Below wr.heap.size wr wq := by rw [hwq]; exact HBW.out.alloc HBW.out.size _
          unfold nvs at hwq
          dsimp only at hwq
          rw [← hwq]
          clear hwq
          have n0 := fun s : Wd (Bw wq) => (hq.keep s.h hq.lt).c0
          have n1 := fun s : Wd (Bw wq) => (hq.keep s.h hq.lt).c1
          have n2 := fun s : Wd (Bw wq) => (hq.keep s.h hq.lt).c2
          have n3 := fun s : Wd (Bw wq) => (hq.keep s.h hq.lt).c3
          have n4 := fun s : Wd (Bw wq) => (hq.keep s.h hq.lt).c4
          have n5 := fun s : Wd (Bw wq) => (hq.keep s.h hq.lt).c5
          have n6 := fun s : Wd (Bw wq) => (hq.keep s.h hq.lt).c6
          simp only at n0 n1 n2 n3 n4 n5 n6
          have m0 := fun s : Wd (Bw wq) => (hB9.keep s.h hB9.lt).c0
          have m1 := fun s : Wd (Bw wq) => (hB9.keep s.h hB9.lt).c1
          have m2 := fun s : Wd (Bw wq) => (hB9.keep s.h hB9.lt).c2
          have m3 := fun s : Wd (Bw wq) => (hB9.keep s.h hB9.lt).c3
          have m4 := fun s : Wd (Bw wq) => (hB9.keep s.h hB9.lt).c4
          have m5 := fun s : Wd (Bw wq) => (hB9.keep s.h hB9.lt).c5
          have m6 := fun s : Wd (Bw wq) => (hB9.keep s.h hB9.lt).c6
          simp only [Nat.zero_add] at m0 m1 m2 m3 m4 m5 m6
          have HBQ := Lib.hid hBW
          have hkp : Hid (∀ X w', Bw wq X → Below X.heap.size X w' → Bw wq w') := Lib.hid (fun X w' h hb => Below.trans h (hb.mono (Below.size h)))
          have HLW : Hid (∀ s : Wd (Bw wq), Calls Try.prog 20 #[.pointer (some ⟨w6.heap.size, 0, none⟩)] s.w fun e w' => e = .returned (.int .i64 d) ∧ Below s.w.heap.size s.w w') := Lib.hid (fun s => (HLE.out s.w (HBQ.out.trans (Below.mono s.h HBQ.out.size))).mono (by rintro e w' ⟨rfl, rfl⟩; exact ⟨rfl, Below.refl _ _⟩))
          have inst : Nonempty (Wd (Bw wq)) := ⟨⟨wq, Below.refl _ _⟩⟩
          clear hB9 HBW hBW HLE hq HN10
          refine wp_region_wd (Bw wq) (by kernel_rfl) (by kernel_rfl) ((Below.refl _ wq).drew) ?_
          repeat (first | go_big_quiet_step (first | (go_at_call 20; with_reducible exact calls_wd hkp.out _ (HLW.out _))) | quiet_step (first | (go_at_call 20; with_reducible exact calls_wd hkp.out _ (HLW.out _))))
          refine wpQuiet_nil ?_
          rintro _ ⟨s, rfl⟩
          have HBD := Lib.hid (HBQ.out.trans (Below.mono s.h HBQ.out.size))
          clear n0 n1 n2 n3 n4 n5 n6 m0 m1 m2 m3 m4 m5 m6
          go_wp2_with (first
            | (go_at_call 21; (with_reducible refine (HNO.out _ HBD.out).mono ?_); rintro e w11 ⟨q2, c2, rfl, hNd, -, -, hb⟩; have HN2 := Lib.hid hNd; have HBD := Lib.hid (HBD.out.trans (hb.mono HBD.out.size)); clear hNd hb)
            | (go_at_call 15; (with_reducible refine (HEQ.out _ _ _ HBD.out HN2.out).mono ?_); rintro e w12 ⟨rfl, hb⟩; have HBD := Lib.hid (HBD.out.trans (hb.mono HBD.out.size)); clear hb)
            | (go_at_call 23; (with_reducible refine (HRO.out _ HBD.out).mono ?_); rintro e w13 ⟨q3, c3, rfl, hNS, -, hb⟩; have HR3 := Lib.hid hNS; have HBD := Lib.hid (HBD.out.trans (hb.mono HBD.out.size)); clear hNS hb)
            | (go_at_call 24; (with_reducible refine (HRQ.out _ HBD.out).mono ?_); rintro e w14 ⟨q4, c4', rfl, hNS, hb⟩; have HR4 := Lib.hid hNS; have HR3 := Lib.hid (HR3.out.keep hb); have HBD := Lib.hid (HBD.out.trans (hb.mono HBD.out.size)); clear hNS hb)
            | (go_at_call 22; (with_reducible refine (HEI.out _ _ _ _ _ HR3.out HR4.out).mono ?_); rintro e w15 ⟨rfl, hb⟩; have HBD := Lib.hid (HBD.out.trans (hb.mono HBD.out.size)); clear hb)
            | (go_at_call 9; (with_reducible refine (awake_any _).mono ?_); rintro e w16 ⟨rfl, hb⟩; have HBD := Lib.hid (HBD.out.trans (hb.mono HBD.out.size)); clear hb))
          go_ret
          exact ⟨rfl, HB0.out.trans (HBD.out.mono HB0.out.size)⟩
        · have HG := Lib.hid (HS.out.getnot hi)
          have hi2 : i < 0 ∨ (0 ≤ i ∧ ¬ i < (N.length : Int)) := by omega
          obtain ⟨r, hr⟩ : ∃ r, r = (rootsI N).length := ⟨_, rfl⟩
          obtain ⟨d, hd⟩ : ∃ d, d = N.length := ⟨_, rfl⟩
          rw [← hr] at HRO HRQ HEI
          rw [← hd] at HNO HLE HRQ HEQ hi2
          rw [← hd]
          clear hr hd hri HS hN60 hi
          have hN : ∀ X, (binOp .neq 34 (.agg #[.int .u8 0, .int .i64 0, .int .i64 0, .int .i64 0, .int .i64 0, .int .i64 0, .int .i64 0]) (.agg #[.int .u8 0, .int .i64 0, .int .i64 0, .int .i64 0, .int .i64 0, .int .i64 0, .int .i64 0])).run Try.prog X = .ok (.bool false) X := fun X => by
            rw [neN, decide_eq_true rfl]
            rfl
          unfold nod nv at HG
          dsimp only at HG
          rcases hi2 with hi0 | ⟨hi0, hi1⟩
          all_goals (
            go_upto_region 25 with (go_at_call 19; (with_reducible refine HG.out.mono ?_); rintro e w10 ⟨rfl, hb⟩
                                    have HBW := Lib.hid (HBW.out.trans (hb.mono HBW.out.size))
                                    clear hb)
            try rw [show decide (i < (d : Int)) = false from decide_eq_false (by omega)]
            obtain ⟨wq, hwq⟩ : ∃ x, x = w10.alloc (.cells (nvs (0, 0, 0, 0, 0, 0, 0)).toArray 34) := ⟨_, rfl⟩
            have hB9 : N1 wq w10.heap.size 0 (0, 0, 0, 0, 0, 0, 0) := by rw [hwq]; exact N1.new w10 _ _
            have hBW : Below wr.heap.size wr wq := by rw [hwq]; exact HBW.out.alloc HBW.out.size _
            unfold nvs at hwq
            dsimp only at hwq
            rw [← hwq]
            clear hwq
            have m0 := fun s : Wd (Bw wq) => (hB9.keep s.h hB9.lt).c0
            have m1 := fun s : Wd (Bw wq) => (hB9.keep s.h hB9.lt).c1
            have m2 := fun s : Wd (Bw wq) => (hB9.keep s.h hB9.lt).c2
            have m3 := fun s : Wd (Bw wq) => (hB9.keep s.h hB9.lt).c3
            have m4 := fun s : Wd (Bw wq) => (hB9.keep s.h hB9.lt).c4
            have m5 := fun s : Wd (Bw wq) => (hB9.keep s.h hB9.lt).c5
            have m6 := fun s : Wd (Bw wq) => (hB9.keep s.h hB9.lt).c6
            simp only [Nat.zero_add] at m0 m1 m2 m3 m4 m5 m6
            have HBQ := Lib.hid hBW
            have hkp : Hid (∀ X w', Bw wq X → Below X.heap.size X w' → Bw wq w') := Lib.hid (fun X w' h hb => Below.trans h (hb.mono (Below.size h)))
            have HLW : Hid (∀ s : Wd (Bw wq), Calls Try.prog 20 #[.pointer (some ⟨w6.heap.size, 0, none⟩)] s.w fun e w' => e = .returned (.int .i64 d) ∧ Below s.w.heap.size s.w w') := Lib.hid (fun s => (HLE.out s.w (HBQ.out.trans (Below.mono s.h HBQ.out.size))).mono (by rintro e w' ⟨rfl, rfl⟩; exact ⟨rfl, Below.refl _ _⟩))
            have inst : Nonempty (Wd (Bw wq)) := ⟨⟨wq, Below.refl _ _⟩⟩
            clear hB9 HBW hBW HLE
            refine wp_region_wd (Bw wq) (by kernel_rfl) (by kernel_rfl) ((Below.refl _ wq).drew) ?_
            repeat (first | go_big_quiet_step (first | (go_at_call 20; with_reducible exact calls_wd hkp.out _ (HLW.out _))) | quiet_step (first | (go_at_call 20; with_reducible exact calls_wd hkp.out _ (HLW.out _))))
            refine wpQuiet_nil ?_
            rintro _ ⟨s, rfl⟩
            have HBD := Lib.hid (HBQ.out.trans (Below.mono s.h HBQ.out.size))
            clear m0 m1 m2 m3 m4 m5 m6
            go_wp2_with (first
              | (go_at_call 21; (with_reducible refine (HNO.out _ HBD.out).mono ?_); rintro e w11 ⟨q2, c2, rfl, hNd, -, -, hb⟩; have HN2 := Lib.hid hNd; have HBD := Lib.hid (HBD.out.trans (hb.mono HBD.out.size)); clear hNd hb)
              | (go_at_call 15; (with_reducible refine (HEQ.out _ _ _ HBD.out HN2.out).mono ?_); rintro e w12 ⟨rfl, hb⟩; have HBD := Lib.hid (HBD.out.trans (hb.mono HBD.out.size)); clear hb)
              | (go_at_call 23; (with_reducible refine (HRO.out _ HBD.out).mono ?_); rintro e w13 ⟨q3, c3, rfl, hNS, -, hb⟩; have HR3 := Lib.hid hNS; have HBD := Lib.hid (HBD.out.trans (hb.mono HBD.out.size)); clear hNS hb)
              | (go_at_call 24; (with_reducible refine (HRQ.out _ HBD.out).mono ?_); rintro e w14 ⟨q4, c4', rfl, hNS, hb⟩; have HR4 := Lib.hid hNS; have HR3 := Lib.hid (HR3.out.keep hb); have HBD := Lib.hid (HBD.out.trans (hb.mono HBD.out.size)); clear hNS hb)
              | (go_at_call 22; (with_reducible refine (HEI.out _ _ _ _ _ HR3.out HR4.out).mono ?_); rintro e w15 ⟨rfl, hb⟩; have HBD := Lib.hid (HBD.out.trans (hb.mono HBD.out.size)); clear hb)
              | (go_at_call 9; (with_reducible refine (awake_any _).mono ?_); rintro e w16 ⟨rfl, hb⟩; have HBD := Lib.hid (HBD.out.trans (hb.mono HBD.out.size)); clear hb))
            go_ret
            exact ⟨rfl, HB0.out.trans (HBD.out.mono HB0.out.size)⟩))

set_option maxRecDepth 100000 in
theorem tellslaw_lifted (os : Os) (started : os.Started) (H : Type) (enc : TypeId × Value → H) :
    ReturnsInHanded {} Try.checked os 3 .any (Rows.poolTellsSpec.pre6 enc Try.prog Try.f3 Rows.poolTellsRow.domain false) (Rows.poolTellsSpec.post enc Try.prog Try.f3 false true false false) := by
  refine returnsInHanded_of_change (C := Try.checked) Try.own started (by kernel_rfl) Try.func3
    (ChangeSpec.witness6 (enc := enc) (C := Try.checked) false ⟨#[], #[.int .i64 0, .slice none 0 0, .int .i64 0], []⟩ 8 (by kernel_rfl) (by kernel_rfl) (by kernel_rfl) (by kernel_rfl)) ?_
  intro W base args ds gs before hval0 hW hcnd _
  have hval : ∀ (j : Nat) t v, Try.f3.params[j]? = some t → args[j]? = some v → Value.okWide Try.prog W .any base t v := hval0
  have hW' := hW
  obtain ⟨p, q, hA0, hV, rfl, hfz, hnd⟩ := hW
  have hA : DataW.TrodAll enc Try.prog W 0 (fun _ => true) true Try.f3.params.toList args.toList ds p := hA0
  rw [Try.params3] at hA hval
  obtain ⟨v0, vs0, d0, ds0, p0, q0, hargs, rfl, rfl, h0, r0⟩ := trodAll_cons hA
  obtain ⟨v1, vs1, d1, ds1, p1, q1, rfl, rfl, rfl, h1, r1⟩ := trodAll_cons r0
  obtain ⟨v2, vs2, d2, ds2, p2, q2, rfl, rfl, rfl, h2, r2⟩ := trodAll_cons r1
  obtain ⟨rfl, rfl, rfl⟩ := trodAll_nil r2
  obtain rfl : args = #[v0, v1, v2] := by cases args; simp_all
  obtain ⟨rfl, rfl⟩ := trodVars_none hV
  obtain ⟨a0, rfl, rfl, rfl, w0⟩ := open_int Try.underlying3 (hval 0 3 v0 rfl rfl) h0
  obtain ⟨a1, len1, cap1, rfl⟩ := okWide_slice Try.underlying22 (hval 1 22 v1 rfl rfl)
  obtain ⟨xs1, rfl, hx1, hp1⟩ := open_nodes h1
  obtain ⟨a2, rfl, rfl, rfl, w2⟩ := open_int Try.underlying3 (hval 2 3 v2 rfl rfl) h2
  clear hA0 hval0
  simp only [List.append_nil] at hW'
  have hlt : ∀ x ∈ p1, x.block < W.heap.size := fun x hx => by simpa using hW'.lt x (by simpa using hx)
  refine (tells_walk _ _ _ _ _ W hx1 hp1 (nodes_le h1)).mono fun e W' ⟨he, hb⟩ => ?_
  subst he
  have hR : DataW.TrodAll enc Try.prog W' 0 (fun b => decide (b < W.heap.size)) true _ _ _ _ := (trodAll_cons_mk (shut_int Try.underlying3 w0) (trodAll_cons_mk (Below.trod Try.laidOut (by kernel_rfl) (of_decide_eq_true (by kernel_rfl)) h1 hb (fun x hx => hlt x (by simp [hx]))) (trodAll_cons_mk (shut_int Try.underlying3 w2) trodAll_mk0)))
  simp only [List.append_nil] at hR
  exact ⟨_, rfl, law_post hW' (trodAll_cons_mk (shut_bool Try.underlying4 _) trodAll_mk0) hR rfl hb⟩

theorem tellslaw_holds : Rows.PoolTellsSaid :=
  OpenClaim.holds_of_wide 3 Try.f3 rfl rfl rfl rfl rfl rfl rfl ⟨rfl, rfl, rfl, rfl, rfl⟩ rfl rfl rfl rfl rfl (by kernel_rfl) Try.func3 (by kernel_rfl)
    (of_decide_eq_true (by kernel_rfl)) (by unfold Func.isWrapper; first | (rw [if_pos (by decide +kernel)]; kernel_rfl) | (rw [if_neg (by decide +kernel)]; exact ⟨rfl, rfl⟩))
    (fun os started H enc _ => tellslaw_lifted os started H enc)
end Go.Proofs.Ytaandlehildcdaa
