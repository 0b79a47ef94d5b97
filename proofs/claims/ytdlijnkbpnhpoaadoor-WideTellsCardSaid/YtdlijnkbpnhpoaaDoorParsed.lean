/-
  What wide.Parse tells, for every text of at most 2^47 bytes.
-/
import Derived.Test.YtdlijnkbpnhpoaaDoorPut
namespace Go.Proofs.YtdlijnkbpnhpoaaDoor
open Go.RowKit

def val (l : List UInt8) : Nat := l.foldl (fun n c => n * 10 + (c.toNat - 48)) 0
theorem val_snoc (l : List UInt8) (c : UInt8) : val (l ++ [c]) = val l * 10 + (c.toNat - 48) := by unfold val; simp [List.foldl_append]
theorem val_le (l m : List UInt8) : val l ≤ val (l ++ m) := by
  induction m generalizing l with
  | nil => simp
  | cons c m ih =>
    have := ih (l ++ [c])
    rw [List.append_assoc, List.singleton_append, val_snoc] at this
    omega
def parR (l : List UInt8) : Nat := if wfS l = true ∧ val l < B128 then val l else 0
def parE (l : List UInt8) : Int := if wfS l = true ∧ val l < B128 then 0 else 10
theorem par_bad (l : List UInt8) (h : wfS l = false) : parR l = 0 ∧ parE l = 10 := by unfold parR parE; simp [h]
theorem par_big (l : List UInt8) (h : ¬ val l < B128) : parR l = 0 ∧ parE l = 10 := by unfold parR parE; simp [h]
theorem par_ok (l : List UInt8) (h : wfS l = true) (h2 : val l < B128) : parR l = val l ∧ parE l = 0 := by unfold parR parE; simp [h, h2]
theorem wfS_digit (s : ByteArray) (k : Nat) (hk : k < s.size) (h : wfS s.data.toList = true) : 48 ≤ (s[k].toNat : Int) ∧ (s[k].toNat : Int) ≤ 57 := by
  have h1 : s.data.toList.all digB = true := by unfold wfS at h; rw [Bool.and_eq_true] at h; exact h.2
  have hm : s[k] ∈ s.data.toList := List.getElem_mem (l := s.data.toList) (n := k) (by simpa using hk)
  have := List.all_eq_true.1 h1 _ hm
  unfold digB at this; simp at this; omega

set_option maxRecDepth 100000 in
set_option maxHeartbeats 1000000 in
theorem parse_any (s : ByteArray) (w : World) (hs : s.size ≤ 140737488355328) :
    Calls Tryd.prog 17 #[.string s] w fun e w' => e = .returned (.tuple #[.agg #[.int .u64 (hi (parR s.data.toList)), .int .u64 (lo (parR s.data.toList))], .int .i64 (parE s.data.toList)]) ∧ Below w.heap.size w w' := by
  cases hwf : wfS s.data.toList with
  | false =>
    have HP := Lib.hid (par_bad _ hwf)
    have HW := Lib.hid hwf
    clear hwf
    go_enter Tryd.func17, Tryd.ntmps17
    go_wp2_with fail
    refine (wf_any s _ hs).mono ?_
    rw [HW.out]
    rintro e w' ⟨rfl, rfl⟩
    go_wp2
    refine bodyPost_ret (v := .tuple #[.agg #[.int .u64 0, .int .u64 0], .int .i64 10]) (by simp [results, Tryd.results17, go_sem]) rfl ⟨by rw [HP.out.1, HP.out.2, hi_zero, lo_zero], ?_⟩
    exact (Below.refl _ _).alloc (Nat.le_refl _) _
  | true =>
    have HW := Lib.hid hwf
    clear hwf
    go_enter Tryd.func17, Tryd.ntmps17
    go_wp2_with fail
    refine (wf_any s _ hs).mono ?_
    rw [HW.out]
    rintro e w' ⟨rfl, rfl⟩
    go_wp2
    go_loopw [14, 5, 6, 7] (fun i _ _ _ wr => ∃ k : Nat, k ≤ s.size ∧ i = .int .i64 k ∧ val (s.data.toList.take k) < B128 ∧ wr.cell? ⟨w.heap.size + 1, 0, none⟩ = some (.int .u64 (hi (val (s.data.toList.take k)))) ∧ wr.cell? ⟨w.heap.size + 1, 1, none⟩ = some (.int .u64 (lo (val (s.data.toList.take k)))) ∧ wr.frozen? ⟨w.heap.size + 1, 0, none⟩ = false ∧ wr.frozen? ⟨w.heap.size + 1, 1, none⟩ = false ∧ wr.cell? ⟨w.heap.size, 0, none⟩ = some (.int .u64 0) ∧ wr.cell? ⟨w.heap.size, 1, none⟩ = some (.int .u64 0) ∧ wr.frozen? ⟨w.heap.size, 0, none⟩ = false ∧ wr.frozen? ⟨w.heap.size, 1, none⟩ = false ∧ Below w.heap.size w wr ∧ w.heap.size + 2 ≤ wr.heap.size) (fun i _ _ _ _ => s.size - (intOf i).toNat)
    case atStart =>
      refine ⟨0, Nat.zero_le _, rfl, by simp [val, B128], ?_, ?_, newf _ _ _ _ (by simp), newf _ _ _ _ (by simp), allc (new0 _ _ _ rfl), allc (new1 _ _ _ rfl), allf (new0 _ _ _ rfl) (newf _ _ _ _ rfl), allf (new1 _ _ _ rfl) (newf _ _ _ _ rfl), ((Below.refl _ _).alloc (Nat.le_refl _) _).alloc (by simp) _, by simp⟩
      · rw [List.take_zero, show val [] = 0 from rfl, hi_zero]; exact new0 _ _ _ (by simp)
      · rw [List.take_zero, show val [] = 0 from rfl, lo_zero]; exact new1 _ _ _ (by simp)
    case round =>
      obtain ⟨k, hk, rfl, hv, c0, c1, f0, f1, r0, r1, q0, q1, hB, hsz⟩ := hrel
      by_cases hlt : k < s.size
      · obtain ⟨d0, d1⟩ := wfS_digit s k hlt HW.out
        have HV := Lib.hid hv
        have HN : Hid (val (s.data.toList.take (k + 1)) = val (s.data.toList.take k) * 10 + ((s[k].toNat : Int) - 48).toNat) := by
          unfold Hid; rw [take_snoc s k hlt, val_snoc]; congr 1; omega
        generalize hvv : val (s.data.toList.take k) = v at *
        have HVV := Lib.hid hvv
        clear hv hvv
        obtain ⟨d, hd⟩ : ∃ d : Int, d = (s[k].toNat : Int) - 48 := ⟨_, rfl⟩
        have hd0 : 0 ≤ d := by omega
        have hd9 : d ≤ 9 := by omega
        have hw8 : IntKind.u8.wrap ((s[k].toNat : Int) - 48) = d := by rw [IntWalk.u8_in _ (by omega), hd]
        rw [← hd] at HN
        have HD := Lib.hid hd
        clear hd
        go_upto_region 7 with fail
        go_cut [6, 7] (fun s6 s7 wx => s7 = .bool (putK v d.toNat) ∧ ∃ g : Nat, s6 = .pointer (some ⟨g, 0, none⟩) ∧ wr.heap.size ≤ g ∧ wx.cell? ⟨g, 0, none⟩ = some (.int .u64 (hi (putR v d.toNat))) ∧ wx.cell? ⟨g, 1, none⟩ = some (.int .u64 (lo (putR v d.toNat))) ∧ Below wr.heap.size wr wx)
        case first =>
          clear r0 r1 q0 q1 f0 f1 hB
          go_region_held3 (fun w' => w'.cell? ⟨w.heap.size + 1, 0, none⟩ = some (.int .u64 (hi v)) ∧ w'.cell? ⟨w.heap.size + 1, 1, none⟩ = some (.int .u64 (lo v))) (first | exact ⟨setc (by dsimp only; omega) (setc (by dsimp only; omega) k1), setc (by dsimp only; omega) (setc (by dsimp only; omega) k2)⟩ | go_keep)
            (first
              | (go_at_call 35; refine (put_any v d _ HV.out hd0 hd9).mono ?_; rintro e w2 ⟨rfl, hb2⟩; have k1 := keepc hb2 (p := ⟨w.heap.size + 1, 0, none⟩) (v := .int .u64 (hi v)) (by first | exact c0 | exact allc c0); have k2 := keepc hb2 (p := ⟨w.heap.size + 1, 1, none⟩) (v := .int .u64 (lo v)) (by first | exact c1 | exact allc c1); have hz2 : wr.heap.size ≤ w2.heap.size := Nat.le_trans (by simp) hb2.size;
                  (try (have z0 := keepc hb2 (p := ⟨wr.heap.size, 0, none⟩) (v := .int .u64 0) (new0 _ _ _ (by simp)); have z1 := keepc hb2 (p := ⟨wr.heap.size, 1, none⟩) (v := .int .u64 0) (new1 _ _ _ (by simp)); have z2 := keepf hb2 (p := ⟨wr.heap.size, 0, none⟩) (v := .int .u64 0) (new0 _ _ _ (by simp)) (newf _ _ _ _ (by simp)); have z3 := keepf hb2 (p := ⟨wr.heap.size, 1, none⟩) (v := .int .u64 0) (new1 _ _ _ (by simp)) (newf _ _ _ _ (by simp))))))
          all_goals (go_wp2_with fail; go_meet)
          all_goals first
            | exact ⟨rfl, w2.heap.size, rfl, by omega, new0 _ _ _ rfl, new1 _ _ _ rfl, (((Below.refl _ _).drew).trans (show Below wr.heap.size wr.drew w2 from hb2)).alloc hz2 _⟩
            | exact ⟨rfl, wr.heap.size, rfl, Nat.le_refl _, set20 z0, set21 z1, (((((Below.refl _ _).alloc (Nat.le_refl _) _).drew).trans (hb2.mono (by simp))).setCell (p := ⟨wr.heap.size, 0, none⟩) (Nat.le_refl _) _).setCell (p := ⟨wr.heap.size, 1, none⟩) (Nat.le_refl _) _⟩
            | exact ⟨rfl, wr.heap.size, rfl, Nat.le_refl _, set20 z0, set21 z1, (((((Below.refl _ _).drew).alloc (Nat.le_refl _) _).trans (hb2.mono (by simp))).setCell (p := ⟨wr.heap.size, 0, none⟩) (Nat.le_refl _) _).setCell (p := ⟨wr.heap.size, 1, none⟩) (Nat.le_refl _) _⟩
        case rest =>
          obtain ⟨rfl, g, rfl, hg, g0, g1, hBx⟩ := hcut
          have a0 := keepc hBx c0
          have a1 := keepc hBx c1
          have a2 := keepf hBx c0 f0
          have a3 := keepf hBx c1 f1
          have b0 := keepc hBx r0
          have b1 := keepc hBx r1
          have b2 := keepf hBx r0 q0
          have b3 := keepf hBx r1 q1
          have hBw := hB.trans (hBx.mono (by omega))
          have hszc := hBx.size
          clear c0 c1 f0 f1 r0 r1 q0 q1 hB hBx hw8
          cases hK : putK v d.toNat with
          | false =>
            have HP := Lib.hid (par_big s.data.toList (fun hlt2 => by
              have h1 := val_le (s.data.toList.take (k + 1)) (s.data.toList.drop (k + 1))
              rw [List.take_append_drop, HN.out] at h1
              have h2 := of_decide_eq_false hK
              omega))
            clear hK
            go_wp2
            refine bodyPost_ret (v := .tuple #[.agg #[.int .u64 0, .int .u64 0], .int .i64 10]) (by simp [results, Tryd.results17, go_sem, *]) rfl ⟨by rw [HP.out.1, HP.out.2, hi_zero, lo_zero], ?_⟩
            exact (hBw.setCell (p := ⟨w.heap.size, 0, none⟩) (Nat.le_refl _) _).setCell (p := ⟨w.heap.size, 1, none⟩) (Nat.le_refl _) _
          | true =>
            have hfit := of_decide_eq_true hK
            have hr : putR v d.toNat = val (s.data.toList.take (k + 1)) := by rw [HN.out, putR, if_pos hfit]
            have HF : Hid (val (s.data.toList.take (k + 1)) < B128) := by unfold Hid; rw [HN.out]; exact hfit
            rw [hr] at g0 g1
            clear hK hr hfit HN HV HVV
            have hne : w.heap.size + 1 ≠ w.heap.size := by omega
            obtain ⟨v', hv'⟩ : ∃ v', v' = val (s.data.toList.take (k + 1)) := ⟨_, rfl⟩
            rw [← hv'] at g0 g1 HF
            have HV' := Lib.hid hv'
            clear hv'
            go_wp2
            refine ⟨⟨k + 1, by omega, by go_num, ?_⟩, by simp [intOf]; omega⟩
            rw [← HV'.out]
            refine ⟨HF.out, set20 a0, set21 a1, by simp [World.frozen?_setCell, a2], by simp [World.frozen?_setCell, a3], setc hne (setc hne b0), setc hne (setc hne b1), by simp [World.frozen?_setCell, b2], by simp [World.frozen?_setCell, b3], (hBw.setCell (p := ⟨w.heap.size + 1, 0, none⟩) (Nat.le_succ _) _).setCell (p := ⟨w.heap.size + 1, 1, none⟩) (Nat.le_succ _) _, by simp; omega⟩
      · obtain rfl : k = s.size := by omega
        have hfull : s.data.toList.take s.size = s.data.toList := List.take_of_length_le (by simp)
        rw [hfull] at hv c0 c1
        have HP := Lib.hid (par_ok _ HW.out hv)
        clear hv hfull
        generalize val s.data.toList = v at *
        go_wp2
        have s0 := set20 (x := .int .u64 (hi v)) (y := .int .u64 (lo v)) r0
        have s1 := set21 (x := .int .u64 (hi v)) (y := .int .u64 (lo v)) r1
        refine bodyPost_ret (v := .tuple #[.agg #[.int .u64 (hi v), .int .u64 (lo v)], .int .i64 0]) (by simp [results, Tryd.results17, go_sem, s0, s1]) rfl ⟨by rw [HP.out.1, HP.out.2], ?_⟩
        exact (hB.setCell (p := ⟨w.heap.size, 0, none⟩) (Nat.le_refl _) _).setCell (p := ⟨w.heap.size, 1, none⟩) (Nat.le_refl _) _
end Go.Proofs.YtdlijnkbpnhpoaaDoor
