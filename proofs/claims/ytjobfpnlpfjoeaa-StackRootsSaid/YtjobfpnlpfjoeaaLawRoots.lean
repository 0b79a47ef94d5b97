/-
  StackRoots: walks from all roots enter each node, once, for any list of nodes, those that may be put. No condition.
-/
import Derived.Test.YtjobfpnlpfjoeaaLawOrder
import Derived.Test.YtjobfpnlpfjoeaaApart
import Derived.Test.YtjobfpnlpfjoeaaPk
namespace Go.Proofs.Ytjobfpnlpfjoeaa
open Go.ChangeShapes Go.WideShapes Go.ChangeAt Go.RowKit Go.Joins

/-- all that is below the first j roots -/
def vis (N : List Nd) (j : Nat) : List Nat := ((rootsL N).take j).flatMap (below N)
theorem vis_succ {N : List Nd} {j r : Nat} (e : (rootsL N)[j]? = some r) : vis N (j + 1) = vis N j ++ below N r := by
  unfold vis
  rw [List.take_add_one, e, List.flatMap_append]
  simp
theorem vis_part (N : List Nd) (j : Nat) : ∃ R, (rootsL N).flatMap (below N) = vis N j ++ R :=
  ⟨((rootsL N).drop j).flatMap (below N), by unfold vis; rw [← List.flatMap_append, List.take_append_drop]⟩
theorem vis_nodup {N : List Nd} (hR : Rt N) (j : Nat) : (vis N j).Nodup := by
  obtain ⟨R, h⟩ := vis_part N j
  have h1 := (forest hR).nodup_iff.2 List.nodup_range
  rw [h] at h1
  exact (List.nodup_append.1 h1).1
theorem vis_all {N : List Nd} (hR : Rt N) {j : Nat} (h : j = (rootsL N).length) : (vis N j).Perm (List.range N.length) := by
  unfold vis
  rw [h, List.take_length]
  exact forest hR
/-- places as numbers -/
def zs (O : List Nat) : List Int := O.map (fun (o : Nat) => (o : Int))
theorem zs_len (O : List Nat) : (zs O).length = O.length := by simp [zs]
theorem zs_snoc (O : List Nat) (k : Nat) : zs (O ++ [k]) = zs O ++ [(k : Int)] := by simp [zs]
theorem zs_nat (xs : List Int) (h : ∀ x ∈ xs, 0 ≤ x) : zs (xs.map Int.toNat) = xs := by
  unfold zs
  rw [List.map_map]
  conv => rhs; rw [← List.map_id xs]
  refine List.map_congr_left (fun x hx => ?_)
  have := h x hx
  show ((x.toNat : Nat) : Int) = x
  omega
theorem zs_get {O : List Nat} {j r : Nat} (e : O[j]? = some r) : (zs O)[j]? = some (r : Int) := by simp [zs, e]
theorem rootsI_zs (N : List Nd) : rootsI N = zs (rootsL N) := rfl
theorem NS.ltF {w : World} {k : IntKind} {xs : List Int} {b off : Nat} (h : NS w (some ⟨b, off, none⟩) k xs) (h0 : xs ≠ []) : b < w.heap.size := by
  rcases h with h | ⟨b2, off2, e, h⟩
  · exact absurd h h0
  · cases e
    cases xs with
    | nil => exact absurd rfl h0
    | cons x xs => exact World.block_lt_of_cell? w _ (h 0 x rfl)
theorem NS.offF {w w' : World} {p : Option Addr} {k : IntKind} {xs : List Int} {S : List Nat} (h : NS w p k xs) (g : Off S w w') (hS : ∀ b off, p = some ⟨b, off, none⟩ → xs ≠ [] → b ∉ S) : NS w' p k xs := by
  by_cases h0 : xs = []
  · exact .inl h0
  rcases h with h | ⟨b, off, rfl, h⟩
  · exact .inl h
  · exact .inr ⟨b, off, rfl, fun j x e => g.cell (h j x e) (hS b off rfl h0)⟩
/-- which of n places are among these -/
def sn (n : Nat) (V : List Nat) : List Value := (List.range n).map (fun (i : Nat) => Value.bool (decide (i ∈ V)))
theorem sn_get {n : Nat} (V : List Nat) {i : Nat} (h : i < n) : (sn n V)[i]? = some (.bool (decide (i ∈ V))) := by simp [sn, h]
theorem sn_len (n : Nat) (V : List Nat) : (sn n V).length = n := by simp [sn]
theorem sn_nil (n : Nat) : sn n [] = List.replicate n (.bool false) := by
  apply List.ext_getElem?
  intro i
  by_cases hi : i < n
  · rw [sn_get _ hi, List.getElem?_replicate, if_pos hi]
    simp
  · rw [List.getElem?_eq_none (by rw [sn_len]; omega), List.getElem?_eq_none (by simp; omega)]
theorem sn_set {n : Nat} (V : List Nat) {k : Nat} (h : k < n) : (sn n V).set k (.bool true) = sn n (V ++ [k]) := by
  apply List.ext_getElem?
  intro i
  by_cases hi : i < n
  · rw [sn_get _ hi]
    by_cases e : k = i
    · subst e
      rw [List.getElem?_set_self (by rw [sn_len]; exact h)]
      simp
    · rw [List.getElem?_set_ne e, sn_get _ hi]
      have : ¬ i = k := fun h => e h.symm
      simp [this]
  · rw [List.getElem?_eq_none (by rw [List.length_set, sn_len]; omega), List.getElem?_eq_none (by rw [sn_len]; omega)]
/-- the whole walk is what is below -/
theorem all_below {N : List Nd} (hR : Rt N) : ∀ (m : Nat) (i : Int), i.toNat ≤ m → 0 ≤ i → i < N.length → all N i = zs (below N i.toNat) := by
  intro m
  induction m with
  | zero =>
    intro i h1 h0 h2
    have e : N[i.toNat]? = some (N[i.toNat]'(by omega)) := List.getElem?_eq_getElem _
    have hk : ksL (N[i.toNat]'(by omega)) = [] := by
      cases hk : ksL (N[i.toNat]'(by omega)) with
      | nil => rfl
      | cons x xs =>
        have := hR.kid e (x := x) (by rw [hk]; simp)
        omega
    rw [all_at hR e, below_kids hR e, hk]
    simp [zs]
    omega
  | succ m ih =>
    intro i h1 h0 h2
    have e : N[i.toNat]? = some (N[i.toNat]'(by omega)) := List.getElem?_eq_getElem _
    rw [all_at hR e, below_kids hR e]
    unfold zs
    rw [List.map_cons, List.map_flatMap, show ((i.toNat : Nat) : Int) = i from Int.toNat_of_nonneg h0]
    congr 1
    refine flatMap_congr' fun x hx => ?_
    have h3 := hR.kid e hx
    exact ih x (by omega) h3.1 (by omega)
/-- the walk below the root number j: what it enters next was not seen -/
theorem vis_next {N : List Nd} (hR : Rt N) {j r t k : Nat} (e : (rootsL N)[j]? = some r) (hk : (below N r)[t]? = some k) : k ∉ vis N j ++ (below N r).take t ∧ k < N.length := by
  have h1 := vis_nodup hR (j + 1)
  rw [vis_succ e] at h1
  obtain ⟨h2, h3⟩ := List.getElem?_eq_some_iff.1 hk
  have h4 : below N r = (below N r).take t ++ k :: (below N r).drop (t + 1) := by
    conv => lhs; rw [← List.take_append_drop t (below N r), List.drop_eq_getElem_cons h2, h3]
  constructor
  · intro hm
    rw [h4, ← List.append_assoc] at h1
    exact (List.nodup_append.1 h1).2.2 k hm k List.mem_cons_self rfl
  · have hr := (mem_rootsL.1 (List.mem_of_getElem? e)).1
    have := (below_once hR hr).2.1 k (List.mem_of_getElem? hk)
    omega
/-- the pool holds what could be put of the first so many -/
def O3 (w X : World) (P k : Nat) : Prop := ∃ N, PK w X P 300 N ∧ N.length ≤ k
/-- which have been seen; the rest of memory as it was -/
def SV (wq X : World) (gb n : Nat) (V : List Nat) : Prop := EV 4 X gb (sn n V) ∧ Off [gb] wq X
theorem SV.keep {wq X w' : World} {gb n : Nat} {V : List Nat} (h : SV wq X gb n V) (hb : Below X.heap.size X w') : SV wq w' gb n V := ⟨h.1.keep hb h.1.lt, h.2.bel hb⟩
theorem SV.set {wq X : World} {gb n k : Nat} {V : List Nat} (h : SV wq X gb n V) (hk : k < n) : SV wq (X.setCell ⟨gb, k, none⟩ (.bool true)) gb n (V ++ [k]) := ⟨by rw [← sn_set V hk]; exact h.1.set k _, h.2.set _ _ (.inl (by simp))⟩
theorem EV.made (w : World) (n : Nat) : EV 4 (w.alloc (.cells (madeCells #[.bool false] n) 4)) w.heap.size (sn n []) := by
  have h : (madeCells #[.bool false] n) = (List.replicate n (Value.bool false)).toArray := by
    apply Array.ext
    · simp [size_madeCells]
    · intro i h1 h2
      simp [madeCells, Nat.mod_one]
  have h2 := heap_alloc_new w (.cells (madeCells #[.bool false] n) 4)
  unfold EV
  rw [h2, sn_nil, h]

set_option maxRecDepth 100000 in
set_option maxHeartbeats 12800000 in
theorem roots_walk (w : World) (p : Option Addr) (cap : Nat) (ns : List Nd) (hx : NdS w p ns) :
    Calls Try.prog 5 #[.slice p ns.length cap] w fun e w' => e = .returned (.bool true) ∧ Below w.heap.size w w' := by
  have HX := Lib.hid hx
  have HAW := Lib.hid awake_any
  have HNEW := Lib.hid (New_pk w w 300 (Below.refl _ _) (by decide))
  obtain ⟨m, hm⟩ : ∃ m, m = ns.length := ⟨_, rfl⟩
  have HM := Lib.hid hm
  rw [← hm]
  clear hx hm
  go_enter Try.func5, Try.ntmps5
  go_wp2_with (go_at_call 17; (with_reducible refine HNEW.out.mono ?_); rintro e w1 ⟨rfl, hP⟩; have HS := Lib.hid (show O3 w w1 w.heap.size 0 from ⟨[], hP, Nat.le_refl _⟩); clear hP)
  go_loopw [5] (fun i wr => ∃ k : Nat, k ≤ m ∧ k ≤ 300 ∧ i = .int .i64 k ∧ Hid (O3 w wr w.heap.size k)) (fun i _ => m - (intOf i).toNat)
  case atStart => exact ⟨0, Nat.zero_le _, Nat.zero_le _, rfl, HS⟩
  case round =>
    clear HS HNEW
    obtain ⟨k, hk, hk2, rfl, HS⟩ := hrel
    by_cases hgo : k < m ∧ k < 300
    · obtain ⟨hlt, hlt2⟩ := hgo
      have hltz : (k : Int) < m := by omega
      have hltz2 : (k : Int) < 300 := by omega
      obtain ⟨n, hne⟩ : ∃ n, ns[k]? = some n := ⟨_, List.getElem?_eq_getElem (by have := HM.out; omega)⟩
      obtain ⟨b, off, rfl, h1⟩ := HX.out.at hne
      obtain ⟨N, hP, hN⟩ := HS.out
      have h2 := h1.keep hP.below h1.lt
      have n0 := h2.c0
      have n1 := h2.c1
      have n2 := h2.c2
      have n3 := h2.c3
      have n4 := h2.c4
      have n5 := h2.c5
      have n6 := h2.c6
      have hC := hP.put n (by omega)
      have hlen := put_len N 300 n
      have HC := Lib.hid hC
      have HLEN := Lib.hid (show (putN N 300 n).1.length ≤ k + 1 by omega)
      obtain ⟨pn, hpn⟩ : ∃ pn, pn = putN N 300 n := ⟨_, rfl⟩
      rw [← hpn] at HC HLEN
      clear h1 h2 hne hP hN hC hlen HS hpn
      obtain ⟨N', at', e'⟩ := pn
      obtain ⟨kk, L, R, g, t, a, q⟩ := n
      simp only at n0 n1 n2 n3 n4 n5 n6
      unfold nv told at HC
      dsimp only at HC HLEN
      go_wp2_with (go_at_call 18; (with_reducible refine HC.out.mono ?_); rintro e w3 ⟨rfl, hP⟩; have HS := Lib.hid (show O3 w w3 w.heap.size (k + 1) from ⟨N', hP, HLEN.out⟩); clear hP)
      go_roundw
      case rel => exact ⟨k + 1, by omega, by omega, by go_num, HS⟩
      case measure => simp [intOf]; omega
    · obtain ⟨N, hP, hN⟩ := HS.out
      have htests : ¬ (k : Int) < m ∨ ((k : Int) < m ∧ ¬ (k : Int) < 300) := by omega
      have hn5 : N.length ≤ 300 := by omega
      obtain ⟨wr0, hwr0⟩ : ∃ x, x = wr := ⟨_, rfl⟩
      rw [← hwr0] at hP
      rw [← hwr0]
      clear hwr0 HS hgo HX HM hN
      have HRT := Lib.hid hP.rt
      have HB := Lib.hid hP.below
      have HNO := Lib.hid (fun Y (hY : Below wr0.heap.size wr0 Y) => (hP.keep hY).Nodes (by omega))
      have HRO := Lib.hid (fun Y (hY : Below wr0.heap.size wr0 Y) => (hP.keep hY).Roots (by omega))
      have HBW := Lib.hid (Below.refl wr0.heap.size wr0)
      have hroots := roots_len HRT.out
      have HAL : Hid (∀ X q c (j : Nat) ro, NdS X q N → (rootsL N)[j]? = some ro → Calls Try.prog 10 #[.slice q N.length c, .int .i64 (ro : Nat)] X (TA X (zs (below N ro)) 0)) := Lib.hid (fun X q c j ro hX hro => by
        have h1 := (mem_rootsL.1 (List.mem_of_getElem? hro)).1
        have h2 := All_any X q c N (ro : Int) hX (by omega)
        rw [chk_yes HRT.out (by omega) (by omega), allR_yes HRT.out (by omega) (by omega), bl_yes (by omega)] at h2
        have h3 := all_below HRT.out ro (ro : Int) (by omega) (by omega) (by omega)
        unfold all at h3
        rw [h3] at h2
        exact h2)
      obtain ⟨n, hn⟩ : ∃ n, n = N.length := ⟨_, rfl⟩
      obtain ⟨r, hr⟩ : ∃ r, r = (rootsI N).length := ⟨_, rfl⟩
      have hr2 : r = (rootsL N).length := by rw [hr]; unfold rootsI; rw [List.length_map]
      rw [← hn] at HNO HAL hn5 hroots
      rw [← hr] at HRO
      rw [← hr2] at hroots
      have HN := Lib.hid hn
      have HR2 := Lib.hid hr2
      have hr5 : r ≤ 300 := by omega
      have hmk : ∀ w : World, (Instr.makeSlice 44 (.int .i64 n) (.int .i64 n)).run Try.prog w = .ok (.slice (some ⟨w.heap.size, 0, none⟩) n n) (w.alloc (.cells (madeCells #[.bool false] n) 4)) := fun w => mkB w n n (Nat.le_refl _) (by omega)
      clear hP hn hr hr2 hroots
      rcases htests with ht | ⟨ht, ht2⟩
      all_goals go_wp2_with (first
        | (go_at_call 19; (with_reducible refine (HNO.out _ HBW.out).mono ?_); rintro e w2 ⟨qa, ca, rfl, hNd, -, -, hb⟩; have HNA := Lib.hid hNd; have HBW := Lib.hid (HBW.out.trans (hb.mono HBW.out.size)); clear hNd hb)
        | (go_at_call 20; (with_reducible refine (HRO.out _ (HBW.out.alloc HBW.out.size (.cells (madeCells #[.bool false] n) 4))).mono ?_); rintro e w6 ⟨p6, c6, rfl, hNS, hRow, hb⟩
           have HN6 := Lib.hid hNS
           have HG6 := Lib.hid (own_geB hRow)
           have HSV := Lib.hid (show SV w6 w6 w2.heap.size n [] from ⟨(EV.made w2 n).keep hb (by simp), Off.refl _ _⟩)
           have HNA0 := HNA
           have HNA := Lib.hid ((HNA.out.keep ((Below.refl _ w2).alloc (Nat.le_refl _) (.cells (madeCells #[.bool false] n) 4))).keep hb)
           have HG2 := Lib.hid HBW.out.size
           have HNB := Lib.hid (show ∀ b off, qa = some ⟨b, off, none⟩ → N ≠ [] → b ∉ [w2.heap.size] from fun b off e h0 => by have h := HNA0.out; rw [e] at h; have := h.lt h0; simp; omega)
           have HBW := Lib.hid ((HBW.out.alloc HBW.out.size (.cells (madeCells #[.bool false] n) 4)).trans (hb.mono (Nat.le_trans HBW.out.size (by simp))))
           have HZ6 := Lib.hid (show w2.heap.size < w6.heap.size from Nat.lt_of_lt_of_le (by simp) hb.size)
           clear hNS hRow hb))
      all_goals (
        have HBX := HB
        clear HNO HRO hmk
        have HPL : Hid (∀ b off, p6 = some ⟨b, off, none⟩ → rootsI N ≠ [] → b ∉ [w2.heap.size]) := Lib.hid (fun b off e _ => by have := HG6.out b (by rw [e]; rfl); simp at this ⊢; omega)
        have HQ6 : Hid (∀ b off, qa = some ⟨b, off, none⟩ → N ≠ [] → b ∉ [w2.heap.size]) := HNB
        go_loopw [8, 49] (fun v8 v49 wx => ∃ j : Nat, j ≤ r ∧ v49 = .int .i64 j ∧ v8 = .int .i64 (vis N j).length ∧ Hid (SV w6 wx w2.heap.size n (vis N j))) (fun _ i _ => r - (intOf i).toNat)
        case atStart => exact ⟨0, Nat.zero_le _, rfl, rfl, HSV⟩
        case round =>
          clear HSV
          obtain ⟨j, hj, rfl, rfl, HS⟩ := hrel
          by_cases hjr : j < r
          · have hjj : (j : Int) < r := by omega
            obtain ⟨ro, hro⟩ : ∃ ro, (rootsL N)[j]? = some ro := ⟨_, List.getElem?_eq_getElem (by have := HR2.out; omega)⟩
            have hNS' := HN6.out.offF HS.out.2 HPL.out
            rcases hNS' with h0 | ⟨b6, off6, rfl, hc6⟩
            · have := zs_get hro
              rw [rootsI_zs] at h0
              rw [h0] at this
              simp at this
            · have cx := hc6 j (ro : Int) (zs_get hro)
              have HRO2 := Lib.hid hro
              have HA := Lib.hid (HAL.out wr qa ca j ro (HNA.out.off HS.out.2 HQ6.out) hro)
              have hbl := (below_once HRT.out (mem_rootsL.1 (List.mem_of_getElem? hro)).1).2.2
              have hron := (mem_rootsL.1 (List.mem_of_getElem? hro)).1
              obtain ⟨bl, hblw⟩ : ∃ l, l = (below N ro).length := ⟨_, rfl⟩
              have HBL := Lib.hid hblw
              have hbl3 : bl ≤ 300 := by have := HN.out; omega
              obtain ⟨vl, hvl⟩ : ∃ l, l = (vis N j).length := ⟨_, rfl⟩
              have HVL := Lib.hid hvl
              have hvn := (vis_nodup HRT.out (j + 1))
              have hv3 : vl + bl ≤ 300 := by
                have h1 := (vis_part N (j + 1))
                obtain ⟨R, hv⟩ := h1
                have h2 := (forest HRT.out).length_eq
                rw [hv, List.length_append, vis_succ hro, List.length_append, List.length_range] at h2
                have := HN.out
                omega
              rw [← hvl]
              clear hc6 hro hbl hron hblw hvl hvn
              have HTA : Hid (∀ (X : World) v, X.ownsRow wr.heap.size 3 1 v (zs (below N ro)).length ((zs (below N ro)).map (Value.int .i64)) → ∃ q cq, v = .slice q bl cq ∧ NS X q .i64 (zs (below N ro)) ∧ ∀ b o, q = some ⟨b, o, none⟩ → wr.heap.size ≤ b) := Lib.hid (fun X v h => by
                obtain ⟨q, cq, e, h2⟩ := row_ints h
                rw [zs_len, ← HBL.out] at e
                exact ⟨q, cq, e, h2, fun b o e2 => own_geB h b (by rw [e, e2]; rfl)⟩)
              go_wp2_with (go_at_call 10; (with_reducible refine HA.out.mono ?_); rintro e w7 ⟨v, rfl, hr, hb⟩; obtain ⟨q7, c7, rfl, hq, hq2⟩ := HTA.out w7 v hr; have HQ7 := Lib.hid hq; have HQB := Lib.hid hq2; have HS7 := Lib.hid (HS.out.keep hb); clear hr hb hq hq2)
              have HGL := Lib.hid HS.out.1.lt
              have HT0 := Lib.hid (show SV w6 w7 w2.heap.size n (vis N j ++ (below N ro).take 0) from by rw [List.take_zero, List.append_nil]; exact HS7.out)
              clear HA HTA HS7 HS
              go_loopw [8, 63] (fun v8 v63 wz => ∃ tt : Nat, tt ≤ bl ∧ v63 = .int .i64 tt ∧ v8 = .int .i64 ((vl : Int) + tt) ∧ Hid (SV w6 wz w2.heap.size n (vis N j ++ (below N ro).take tt)) ∧ Hid (NS wz q7 .i64 (zs (below N ro)))) (fun _ v63 _ => bl - (intOf v63).toNat)
              case atStart => exact ⟨0, Nat.zero_le _, rfl, by simp, HT0, HQ7⟩
              case round =>
                clear HT0 HQ7
                obtain ⟨tt, ht, rfl, rfl, HS, HQ7⟩ := hrel
                by_cases htl : tt < bl
                · have htz : (tt : Int) < bl := by omega
                  obtain ⟨k, hke⟩ : ∃ k, (below N ro)[tt]? = some k := ⟨_, List.getElem?_eq_getElem (by have := HBL.out; omega)⟩
                  obtain ⟨hkv, hkn⟩ := vis_next HRT.out HRO2.out hke
                  rw [← HN.out] at hkn
                  have hQ7 := HQ7.out
                  rcases hQ7 with h0 | ⟨b7, o7, rfl, hc7⟩
                  · have h9 := zs_get hke
                    rw [h0] at h9
                    simp at h9
                  · have ck := hc7 tt (k : Int) (zs_get hke)
                    have cs := HS.out.1.cell (sn_get (n := n) (vis N j ++ (below N ro).take tt) hkn)
                    rw [decide_eq_false hkv] at cs
                    have fs := HS.out.1.free k
                    have hkz : ¬ (n : Int) ≤ k := by omega
                    have hkz2 : (k : Int) < n := by omega
                    have hb7 : b7 ≠ w2.heap.size := by have := HQB.out b7 o7 rfl; have := HGL.out; omega
                    have HTK := Lib.hid (show (below N ro).take (tt + 1) = (below N ro).take tt ++ [k] by rw [List.take_add_one, hke]; rfl)
                    have HSS := Lib.hid (HS.out.set hkn)
                    have HQS := Lib.hid (HQ7.out.offF ((Off.refl [w2.heap.size] wr).set ⟨w2.heap.size, k, none⟩ (.bool true) (.inl (by simp))) (fun b off e _ => by cases e; simpa using hb7))
                    have hvt : vl + tt ≤ 300 := by omega
                    clear hc7 hke hkv HS HQ7 hb7
                    go_wp2
                    go_roundw
                    case rel => exact ⟨tt + 1, by omega, by go_num, by go_num, by rw [HTK.out, ← List.append_assoc]; exact HSS, HQS⟩
                    case measure => simp [intOf]; omega
                · obtain rfl : tt = bl := by omega
                  have htz : ¬ (tt : Int) < tt := by omega
                  have HSE := Lib.hid (show SV w6 wr w2.heap.size n (vis N (j + 1)) by rw [vis_succ HRO2.out]; have := HS.out; rwa [HBL.out, List.take_length] at this)
                  have HVE := Lib.hid (show (vis N (j + 1)).length = vl + tt by rw [vis_succ HRO2.out, List.length_append, ← HVL.out, ← HBL.out])
                  clear HS HQ7
                  go_wp2
                  go_roundw
                  case rel => exact ⟨j + 1, by omega, by go_num, by rw [HVE.out]; simp, HSE⟩
                  case measure => simp [intOf]; omega
          · obtain rfl : j = r := by omega
            have hjj : ¬ (j : Int) < j := by omega
            have hvp := (vis_all HRT.out HR2.out).length_eq
            rw [List.length_range, ← HN.out] at hvp
            rw [hvp]
            have HBWr := Lib.hid (HBW.out.trans (HS.out.2.below (N := wr0.heap.size) (Nat.le_trans HG2.out (Nat.le_of_lt HZ6.out)) (by simp; exact HG2.out)))
            clear hvp HS
            go_wp2_with (go_at_call 8; (with_reducible refine (HAW.out _).mono ?_); rintro e w9 ⟨rfl, hb⟩; have HBWr := Lib.hid (HBWr.out.trans (hb.mono HBWr.out.size)); clear hb)
            go_ret
            exact ⟨rfl, HBX.out.trans (HBWr.out.mono HBX.out.size)⟩)

/- the row -/
set_option maxRecDepth 100000 in
theorem rootslaw_lifted (os : Os) (started : os.Started) (H : Type) (enc : TypeId × Value → H) :
    ReturnsInHanded {} Try.checked os 5 .any (Rows.stackRootsSpec.pre6 enc Try.prog Try.f5 Rows.stackRootsRow.domain false) (Rows.stackRootsSpec.post enc Try.prog Try.f5 false true false false) := by
  refine returnsInHanded_of_change (C := Try.checked) Try.own started (by kernel_rfl) Try.func5
    (ChangeSpec.witness6 (enc := enc) (C := Try.checked) false ⟨#[], #[.slice none 0 0], []⟩ 8 (by kernel_rfl) (by kernel_rfl) (by kernel_rfl) (by kernel_rfl)) ?_
  intro W base args ds gs before hval0 hW hcnd _
  have hval : ∀ (j : Nat) t v, Try.f5.params[j]? = some t → args[j]? = some v → Value.okWide Try.prog W .any base t v := hval0
  have hW' := hW
  obtain ⟨p, q, hA0, hV, rfl, hfz, hnd⟩ := hW
  have hA : DataW.TrodAll enc Try.prog W 0 (fun _ => true) true Try.f5.params.toList args.toList ds p := hA0
  rw [Try.params5] at hA hval
  obtain ⟨v0, vs0, d0, ds0, p0, q0, hargs, rfl, rfl, h0, r0⟩ := trodAll_cons hA
  obtain ⟨rfl, rfl, rfl⟩ := trodAll_nil r0
  obtain rfl : args = #[v0] := by cases args; simp_all
  obtain ⟨rfl, rfl⟩ := trodVars_none hV
  obtain ⟨a0, len0, cap0, rfl⟩ := okWide_slice Try.underlying22 (hval 0 22 v0 rfl rfl)
  obtain ⟨xs0, rfl, hx0, hp0⟩ := open_nodes h0
  clear hA0 hval0
  simp only [List.append_nil] at hW'
  have hlt : ∀ x ∈ p0, x.block < W.heap.size := fun x hx => by simpa using hW'.lt x (by simpa using hx)
  refine (roots_walk W _ _ _ hx0).mono fun e W' ⟨he, hb⟩ => ?_
  subst he
  have hR : DataW.TrodAll enc Try.prog W' 0 (fun b => decide (b < W.heap.size)) true _ _ _ _ := (trodAll_cons_mk (Below.trod Try.laidOut (by kernel_rfl) (of_decide_eq_true (by kernel_rfl)) h0 hb (fun x hx => hlt x (by simp [hx]))) trodAll_mk0)
  simp only [List.append_nil] at hR
  exact ⟨_, rfl, law_post hW' (trodAll_cons_mk (shut_bool Try.underlying4 _) trodAll_mk0) hR rfl hb⟩

theorem rootslaw_holds : Rows.StackRootsSaid :=
  OpenClaim.holds_of_wide 5 Try.f5 rfl rfl rfl rfl rfl rfl rfl ⟨rfl, rfl, rfl, rfl, rfl⟩ rfl rfl rfl rfl rfl (by kernel_rfl) Try.func5 (by kernel_rfl)
    (of_decide_eq_true (by kernel_rfl)) (by unfold Func.isWrapper; first | (rw [if_pos (by decide +kernel)]; kernel_rfl) | (rw [if_neg (by decide +kernel)]; exact ⟨rfl, rfl⟩))
    (fun os started H enc _ => rootslaw_lifted os started H enc)
end Go.Proofs.Ytjobfpnlpfjoeaa
