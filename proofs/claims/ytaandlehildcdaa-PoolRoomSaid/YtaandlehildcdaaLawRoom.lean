/-
  PoolRoom: as many nodes as there is room for are put, and not one more; what may not be put is told ahead of that; who was not made by New tells ErrNil. For every byte; no condition.
-/
import Derived.Test.YtaandlehildcdaaLift
namespace Go.Proofs.Ytaandlehildcdaa
open Go.ChangeShapes Go.WideShapes Go.ChangeAt Go.RowKit Go.Joins

theorem may_leafN (N : List Nd) : mayB N leafN = true := by simp [mayB, leafN, nk, nl, nr]
theorem put_leaf {k m : Nat} (h : k < m) : putN (List.replicate k leafN) m leafN = (List.replicate (k + 1) leafN, (k : Int), 0) := by
  unfold putN
  rw [if_pos (may_leafN _), List.length_replicate, if_neg (by omega), ← List.replicate_succ']
theorem put_full (m : Nat) : putN (List.replicate m leafN) m leafN = (List.replicate m leafN, 0, 5) := by
  unfold putN
  rw [if_pos (may_leafN _), List.length_replicate, if_pos rfl]
theorem put_wrong (m : Nat) : putN (List.replicate m leafN) m (innerN m (-1)) = (List.replicate m leafN, 0, 50) := by
  unfold putN
  rw [if_neg]
  simp [mayB, innerN, nk, nl, nr, freeB]
theorem kids_leaves (m : Nat) : kidsN (List.replicate m leafN) = 0 := by
  unfold kidsN
  rw [List.map_replicate, show (ksL leafN).length = 0 from rfl]
  simp
theorem rt_leaves (m : Nat) : Rt (List.replicate m leafN) := by
  induction m with
  | zero => exact Rt.nil
  | succ m ih => rw [List.replicate_succ']; exact ih.snoc (may_leafN _)
theorem roots_leaves (m : Nat) : (rootsI (List.replicate m leafN)).length = m := by
  have := roots_len (rt_leaves m)
  rw [kids_leaves, List.length_replicate] at this
  unfold rootsI
  rw [List.length_map]
  omega
/-- the pool holds so many leaves -/
def RK (w wr : World) (m k : Nat) : Prop := ∃ v1 v2, PO wr w.heap.size v1 v2 m (List.replicate k leafN) ∧ Below w.heap.size w wr ∧ ∀ q ∈ pbl w.heap.size v1 v2, w.heap.size ≤ q
theorem RK.off {w X w' : World} {m k : Nat} (h : RK w X m k) (hO : Off [] X w') : RK w w' m k := by
  obtain ⟨v1, v2, hP, hB, hQ⟩ := h
  exact ⟨v1, v2, hP.off hO (by simp), hB.trans (hO.below hB.size (by simp)), hQ⟩
theorem RK.keep {w X w' : World} {m k : Nat} (h : RK w X m k) (hO : Below X.heap.size X w') : RK w w' m k := h.off (Off.of hO (Nat.le_refl _))
theorem RK.put {w X : World} {m k k' : Nat} {n : Nd} {r : Int × Int} (h : RK w X m k) (hm : m ≤ 200) (hk : k ≤ m) (hp : putN (List.replicate k leafN) m n = (List.replicate k' leafN, r)) :
    Calls Try.prog 17 #[.pointer (some ⟨w.heap.size, 0, none⟩), nv n] X fun e w' => e = .returned (.tuple #[.int .i64 r.1, .int .i64 r.2]) ∧ RK w w' m k' := by
  obtain ⟨v1, v2, hP, hB, hQ⟩ := h
  have := Put_any X w.heap.size v1 v2 m (List.replicate k leafN) n hP (by rw [List.length_replicate]; omega)
  rw [hp] at this
  refine this.mono ?_
  rintro e w' ⟨u1, u2, rfl, hP', hO', hW'⟩
  exact ⟨rfl, u1, u2, hP', hB.trans (hO'.below hB.size hQ), fun q hq => (hW' q hq).elim (hQ q) (fun h => Nat.le_trans hB.size h)⟩

set_option maxRecDepth 100000 in
set_option maxHeartbeats 6400000 in
theorem room_walk (a : Int) (w : World) (ha : 0 ≤ a ∧ a ≤ 255) :
    Calls Try.prog 7 #[.int .u8 a] w fun e w' => e = .returned (.bool true) ∧ Below w.heap.size w w' := by
  obtain ⟨a', rfl⟩ : ∃ a' : Nat, a = a' := ⟨a.toNat, by omega⟩
  obtain ⟨m, hz, hm2⟩ : ∃ m : Nat, (a' : Int) % 201 = m ∧ m ≤ 200 := ⟨a' % 201, by omega, by omega⟩
  have ha2 : a' ≤ 255 := by omega
  have HNEW := Lib.hid (New_any w m (by omega))
  have HPL : Hid (∀ X k, k < m → RK w X m k → Calls Try.prog 17 #[.pointer (some ⟨w.heap.size, 0, none⟩), nv leafN] X fun e w' => e = .returned (.tuple #[.int .i64 k, .int .i64 0]) ∧ RK w w' m (k + 1)) := Lib.hid (fun X k hk h => h.put hm2 (by omega) (put_leaf hk))
  have HPF : Hid (∀ X, RK w X m m → Calls Try.prog 17 #[.pointer (some ⟨w.heap.size, 0, none⟩), nv leafN] X fun e w' => e = .returned (.tuple #[.int .i64 0, .int .i64 5]) ∧ RK w w' m m) := Lib.hid (fun X h => h.put hm2 (by omega) (put_full m))
  have HPW : Hid (∀ X, RK w X m m → Calls Try.prog 17 #[.pointer (some ⟨w.heap.size, 0, none⟩), nv (innerN m (-1))] X fun e w' => e = .returned (.tuple #[.int .i64 0, .int .i64 50]) ∧ RK w w' m m) := Lib.hid (fun X h => h.put hm2 (by omega) (put_wrong m))
  have HPN : Hid (∀ X, Calls Try.prog 17 #[.pointer none, nv leafN] X fun e w' => e = .returned (.tuple #[.int .i64 0, .int .i64 1]) ∧ Below X.heap.size X w') := Lib.hid (fun X => Put_nil X leafN)
  have HPX : Hid (∀ X P, X.cell? ⟨P, 0, none⟩ = some (.pointer none) → Calls Try.prog 17 #[.pointer (some ⟨P, 0, none⟩), nv (innerN (-1) (-1))] X fun e w' => e = .returned (.tuple #[.int .i64 0, .int .i64 1]) ∧ Below X.heap.size X w') := Lib.hid (fun X P h => Put_not X P _ h)
  have HLN : Hid (∀ X, RK w X m m → Calls Try.prog 20 #[.pointer (some ⟨w.heap.size, 0, none⟩)] X fun e w' => e = .returned (.int .i64 m) ∧ w' = X) := Lib.hid (fun X h => by
    obtain ⟨v1, v2, hP, -⟩ := h
    have := Len_any X _ v1 v2 m _ hP
    rw [List.length_replicate] at this
    exact this)
  have HRT : Hid (∀ X, RK w X m m → Calls Try.prog 23 #[.pointer (some ⟨w.heap.size, 0, none⟩)] X fun e w' => ∃ p c, e = .returned (.slice p m c) ∧ Below X.heap.size X w') := Lib.hid (fun X h => by
    obtain ⟨v1, v2, hP, -⟩ := h
    refine (Roots_any X _ v1 v2 m _ hP (by rw [List.length_replicate]; omega)).mono ?_
    rintro e w' ⟨v, rfl, hR, hb⟩
    obtain ⟨p, c, rfl, -⟩ := row_ints hR
    rw [roots_leaves]
    exact ⟨p, c, rfl, hb⟩)
  clear ha
  unfold nv at HPL HPF HPW HPN HPX
  unfold leafN at HPL HPF HPN
  unfold innerN at HPW HPX
  go_enter Try.func7, Try.ntmps7
  go_wp2_with (go_at_call 16; (with_reducible refine HNEW.out.mono ?_); rintro e w1 ⟨rfl, hP, hB⟩; have HK := Lib.hid (show RK w w1 m 0 from ⟨_, _, hP, hB, fun q hq => by simp [pbl, Value.ownBlock] at hq; omega⟩); clear hP hB)
  go_loopw [29] (fun i wr => ∃ k : Nat, k ≤ m ∧ i = .int .i64 k ∧ Hid (RK w wr m k)) (fun i _ => m - (intOf i).toNat)
  case atStart => exact ⟨0, Nat.zero_le _, rfl, HK⟩
  case round =>
    clear HK HNEW
    obtain ⟨k, hk, rfl, HK⟩ := hrel
    by_cases hlt : k < m
    · have hltz : (k : Int) < m := by omega
      clear HPF HPW HPN HPX HLN HRT
      go_wp2_with (first
        | (go_at_call 26; (with_reducible refine (leaf_any _).mono ?_); rintro e w2 ⟨rfl, hO⟩; unfold nv leafN; have HK := Lib.hid (HK.out.off hO); clear hO)
        | (go_at_call 17; (with_reducible refine (HPL.out _ _ hlt HK.out).mono ?_); rintro e w3 ⟨rfl, hK⟩; have HK := Lib.hid hK; clear hK))
      go_roundw
      case rel => exact ⟨k + 1, by omega, by go_num, HK⟩
      case measure => simp [intOf]; omega
    · obtain rfl : k = m := by omega
      have hltz : ¬ (k : Int) < k := by omega
      clear HPL
      go_wp2_with (first
        | (go_at_call 26; (with_reducible refine (leaf_any _).mono ?_); rintro e w2 ⟨rfl, hO⟩; unfold nv leafN; have HK := Lib.hid (HK.out.off hO); clear hO)
        | (go_at_call 27; (with_reducible refine (inner_any (w3.alloc (.cells #[.pointer none, .int .i64 0, .slice none 0 0, .slice none 0 0] 52)) _ _).mono ?_); rintro e w4 ⟨rfl, hO⟩; unfold nv innerN
           have hc : w4.cell? ⟨w3.heap.size, 0, none⟩ = some (.pointer none) := hO.cell ((World.cell?_alloc_new (w := w3) _ _ 0).trans rfl) (by simp)
           have HC := Lib.hid hc
           have HK := Lib.hid ((HK.out.off ((Off.refl _ w3).all _)).off hO)
           clear hO hc)
        | (go_at_call 27; (with_reducible refine (inner_any _ _ _).mono ?_); rintro e w2 ⟨rfl, hO⟩; unfold nv innerN; have HK := Lib.hid (HK.out.off hO); clear hO)
        | (go_at_call 17; (with_reducible refine (HPF.out _ HK.out).mono ?_); rintro e w3 ⟨rfl, hK⟩; have HK := Lib.hid hK; clear hK)
        | (go_at_call 17; (with_reducible refine (HPW.out _ HK.out).mono ?_); rintro e w3 ⟨rfl, hK⟩; have HK := Lib.hid hK; clear hK)
        | (go_at_call 17; (with_reducible refine (HPN.out _).mono ?_); rintro e w3 ⟨rfl, hb⟩; have HK := Lib.hid (HK.out.keep hb); clear hb)
        | (go_at_call 17; (with_reducible refine (HPX.out _ _ HC.out).mono ?_); rintro e w5 ⟨rfl, hb⟩; have HK := Lib.hid (HK.out.keep hb); clear hb)
        | (go_at_call 19; (with_reducible refine (Get_nil _).mono ?_); rintro e w6 ⟨rfl, hb⟩; unfold nod nv; have HK := Lib.hid ((HK.out.keep hb).off ((Off.refl _ w6).all (.cells #[.int .u8 0, .int .i64 0, .int .i64 0, .int .i64 0, .int .i64 0, .int .i64 0, .int .i64 0] 34))); clear hb)
        | (go_at_call 20; (with_reducible refine (Len_nil _).mono ?_); rintro e w7 ⟨rfl, rfl⟩)
        | (go_at_call 23; (with_reducible refine (Roots_nil _).mono ?_); rintro e w7 ⟨rfl, rfl⟩)
        | (go_at_call 21; (with_reducible refine (Nodes_nil _).mono ?_); rintro e w7 ⟨rfl, rfl⟩)
        | (go_at_call 20; (with_reducible refine (HLN.out _ HK.out).mono ?_); rintro e w7 ⟨rfl, rfl⟩)
        | (go_at_call 23; (with_reducible refine (HRT.out _ HK.out).mono ?_); rintro e w8 ⟨p8, c8, rfl, hb⟩; have HK := Lib.hid (HK.out.keep hb); clear hb)
        | (go_at_call 9; (with_reducible refine (awake_any _).mono ?_); rintro e w9 ⟨rfl, hb⟩; have HK := Lib.hid (HK.out.keep hb); clear hb))
      go_ret
      obtain ⟨_, _, _, hB, _⟩ := HK.out
      exact ⟨rfl, hB⟩
set_option maxRecDepth 100000 in
theorem roomlaw_lifted (os : Os) (started : os.Started) (H : Type) (enc : TypeId × Value → H) :
    ReturnsInHanded {} Try.checked os 7 .any (Rows.poolRoomSpec.pre6 enc Try.prog Try.f7 Rows.poolRoomRow.domain false) (Rows.poolRoomSpec.post enc Try.prog Try.f7 false true false false) := by
  refine returnsInHanded_of_change (C := Try.checked) Try.own started (by kernel_rfl) Try.func7
    (ChangeSpec.witness6 (enc := enc) (C := Try.checked) false ⟨#[], #[.int .u8 0], []⟩ 8 (by kernel_rfl) (by kernel_rfl) (by kernel_rfl) (by kernel_rfl)) ?_
  intro W base args ds gs before hval0 hW hcnd _
  have hval : ∀ (j : Nat) t v, Try.f7.params[j]? = some t → args[j]? = some v → Value.okWide Try.prog W .any base t v := hval0
  have hW' := hW
  obtain ⟨p, q, hA0, hV, rfl, hfz, hnd⟩ := hW
  have hA : DataW.TrodAll enc Try.prog W 0 (fun _ => true) true Try.f7.params.toList args.toList ds p := hA0
  rw [Try.params7] at hA hval
  obtain ⟨v0, vs0, d0, ds0, p0, q0, hargs, rfl, rfl, h0, r0⟩ := trodAll_cons hA
  obtain ⟨rfl, rfl, rfl⟩ := trodAll_nil r0
  obtain rfl : args = #[v0] := by cases args; simp_all
  obtain ⟨rfl, rfl⟩ := trodVars_none hV
  obtain ⟨a0, rfl, rfl, rfl, w0⟩ := open_int Try.underlying5 (hval 0 5 v0 rfl rfl) h0
  clear hA0 hval0
  simp only [List.append_nil] at hW'
  refine (room_walk _ W (by simpa [Lit.wf, show IntKind.u8.min = 0 from rfl, show IntKind.u8.max = 255 from rfl] using w0)).mono fun e W' ⟨he, hb⟩ => ?_
  subst he
  have hR : DataW.TrodAll enc Try.prog W' 0 (fun b => decide (b < W.heap.size)) true _ _ _ _ := (trodAll_cons_mk (shut_int Try.underlying5 w0) trodAll_mk0)
  simp only [List.append_nil] at hR
  exact ⟨_, rfl, law_post hW' (trodAll_cons_mk (shut_bool Try.underlying4 _) trodAll_mk0) hR rfl hb⟩

theorem roomlaw_holds : Rows.PoolRoomSaid :=
  OpenClaim.holds_of_wide 7 Try.f7 rfl rfl rfl rfl rfl rfl rfl ⟨rfl, rfl, rfl, rfl, rfl⟩ rfl rfl rfl rfl rfl (by kernel_rfl) Try.func7 (by kernel_rfl)
    (of_decide_eq_true (by kernel_rfl)) (by unfold Func.isWrapper; first | (rw [if_pos (by decide +kernel)]; kernel_rfl) | (rw [if_neg (by decide +kernel)]; exact ⟨rfl, rfl⟩))
    (fun os started H enc _ => roomlaw_lifted os started H enc)
end Go.Proofs.Ytaandlehildcdaa
