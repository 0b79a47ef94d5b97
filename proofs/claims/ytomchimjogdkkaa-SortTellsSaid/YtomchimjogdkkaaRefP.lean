/-
  The document's places of keys, in order, are those that putting in order by halves tells. No condition but those typed at each theorem.
-/
import Derived.Test.YtomchimjogdkkaaRefB
import Derived.Deep.CutBlock
namespace Go.Proofs.Ytomchimjogdkkaa
open Go.RowKit

theorem Try.info3' : (Try.prog.info? 3).map (fun i => (i.zero, i.size, i.bytes)) = some (some (.int .i64 0), 1, 8) := by kernel_rfl

set_option maxRecDepth 100000 in
set_option maxHeartbeats 6400000 in
theorem Places_any (w : World) (p0 : Option Addr) (cap0 : Nat) (ks : List (Int × Int)) (hk : KS w p0 ks) (hn : ks.length ≤ 8192) :
    Calls Try.prog 27 #[.slice p0 ks.length cap0] w fun e w' => ∃ v, e = .returned v ∧ w'.ownsRow w.heap.size 3 1 v ks.length ((srt ks).map (Value.int .i64)) ∧ Below w.heap.size w w' := by
  have hkk : 0 < ks.length → ∃ b off, p0 = some ⟨b, off, none⟩ ∧ Ks w b off ks := by
    intro h
    rcases hk with rfl | ⟨b, off, h1, h2, -⟩
    · simp at h
    · exact ⟨b, off, h1, h2⟩
  have HKK := Lib.hid hkk
  have hB : ∀ k j w, Calls Try.prog 36 #[.agg #[.int .i64 k.1, .int .u32 k.2], .agg #[.int .i64 j.1, .int .u32 j.2]] w fun e w' => e = .returned (.bool (kl k j)) ∧ Below w.heap.size w w' := rahead_any
  have HB36 := Lib.hid hB
  obtain ⟨n, hnn⟩ : ∃ n, n = ks.length := ⟨_, rfl⟩
  have HN := Lib.hid hnn
  rw [← hnn] at hn
  rw [← hnn]
  clear hkk hB hk hnn
  go_enter Try.func27, Try.ntmps27
  go_wp2
  go_loopw [3, 4] (fun v3 v4 wr => ∃ (i : Nat) (L : List Int), v4 = .int .i64 i ∧ i ≤ n ∧ L.length = i ∧ Hid (wr.ownsRow w.heap.size 3 1 v3 i (L.map (Value.int .i64))) ∧ Hid (L.Perm (upto i) ∧ L.Pairwise (lp ks)) ∧ Hid (Below w.heap.size w wr)) (fun _ v4 _ => n - (intOf v4).toNat)
  case atStart => exact ⟨0, [], rfl, Nat.zero_le _, rfl, Lib.hid ⟨rfl, .inl ⟨rfl, rfl⟩⟩, Lib.hid ⟨List.Perm.refl _, List.Pairwise.nil⟩, Lib.hid (Below.refl _ _)⟩
  case round =>
    obtain ⟨i, L, rfl, hi, hLl, HR, HL, HB⟩ := hrel
    by_cases hlt : i < n
    · have hltz : (i : Int) < n := by omega
      have hoA := HR.out.alloc (.cells #[.int .i64 i] 3)
      have HOA := Lib.hid hoA
      have hsz : w.heap.size ≤ wr.heap.size := HB.out.size
      clear hoA
      go_upto_region 6 with (at_builtin; refine wpList_oneB rfl (.tmp 12) (.tmp 14) 27 3 .i64 (.int .i64 0) 8 Try.underlying27 Try.info3' rfl (by decide) rfl w.heap.size _ i L wr.heap.size i rfl rfl (by simp) HOA.out (by omega) (by simp <;> omega) ?_; intro g cap w1 h1 h2 h3; have HG1 := Lib.hid h1; have HG2 := Lib.hid h2; have HG3 := Lib.hid (HB.out.grown ((World.grownBy_alloc wr _ _).trans h3) HB.out.size (own_ge' HR.out)); clear h1 h2 h3)
      go_wp2_with fail
      go_loopw [5] (fun v5 wr => ∃ (k : Nat) (A B : List Int), v5 = .int .i64 k ∧ k ≤ i ∧ A.length = k ∧ Hid (RB .i64 3 wr g cap (A ++ (i : Int) :: B)) ∧ Hid (PLI ks i L A B) ∧ Hid (Below w.heap.size w wr)) (fun v5 _ => (intOf v5).toNat)
      case atStart => exact ⟨i, L, [], rfl, Nat.le_refl _, hLl, HG2, Lib.hid ⟨by simp, fun b hb => by cases hb⟩, HG3⟩
      case round =>
        clear HG2 HG3 HR HB HOA hsz
        obtain ⟨k, A, B, rfl, hki, hAl, HRB, HPL, HB⟩ := hrel
        have hlen : (A ++ (i : Int) :: B).length = i + 1 := by
          have := congrArg List.length HPL.out.all
          simp at this ⊢
          omega
        by_cases hk0 : 0 < k
        · have hk0z : (0 : Int) < k := by omega
          obtain ⟨A0, p, rfl⟩ : ∃ A0 p, A = A0 ++ [p] := by
            rcases List.eq_nil_or_concat A with h | ⟨A0, p, h⟩
            · subst h; simp at hAl; omega
            · exact ⟨A0, p, by simpa using h⟩
          have hpm : p ∈ upto i := HL.out.1.mem_iff.1 (by rw [← HPL.out.all]; simp)
          have hpb := mem_upto hpm
          obtain ⟨pn, rfl⟩ : ∃ pn : Nat, p = (pn : Int) := ⟨p.toNat, by omega⟩
          obtain ⟨b, off, rfl, hks⟩ := HKK.out (by have := HN.out; omega)
          have hA0 : A0.length + 1 = k := by simpa using hAl
          obtain ⟨x, hx⟩ : ∃ x, x = ks.getD i (0, 0) := ⟨_, rfl⟩
          obtain ⟨y, hy⟩ : ∃ y, y = ks.getD pn (0, 0) := ⟨_, rfl⟩
          have hil : i < ks.length := by have := HN.out; omega
          have hpl : pn < ks.length := by omega
          have ex : ks[i]? = some x := by rw [hx]; simp [List.getElem?_eq_getElem hil]
          have ey : ks[pn]? = some y := by rw [hy]; simp [List.getElem?_eq_getElem hpl]
          have c1 : ∀ s : Wd (Bw wr), s.w.cell? ⟨b, off + i * 2, none⟩ = some (.int .i64 x.1) := fun s => Bw.cell s (((hks _ _ ex).1 ▸ HB.out.cell (World.block_lt_of_cell? w _ (hks _ _ ex).1)))
          have c2 : ∀ s : Wd (Bw wr), s.w.cell? ⟨b, off + i * 2 + 1, none⟩ = some (.int .u32 x.2) := fun s => Bw.cell s (((hks _ _ ex).2 ▸ HB.out.cell (World.block_lt_of_cell? w _ (hks _ _ ex).2)))
          have c3 : ∀ s : Wd (Bw wr), s.w.cell? ⟨b, off + pn * 2, none⟩ = some (.int .i64 y.1) := fun s => Bw.cell s (((hks _ _ ey).1 ▸ HB.out.cell (World.block_lt_of_cell? w _ (hks _ _ ey).1)))
          have c4 : ∀ s : Wd (Bw wr), s.w.cell? ⟨b, off + pn * 2 + 1, none⟩ = some (.int .u32 y.2) := fun s => Bw.cell s (((hks _ _ ey).2 ▸ HB.out.cell (World.block_lt_of_cell? w _ (hks _ _ ey).2)))
          have r1 := HRB.out.cell (i := k) (x := i) (by subst hA0; simp)
          have r2 := HRB.out.cell (i := k - 1) (x := pn) (by subst hA0; simp)
          have c5 : ∀ s : Wd (Bw wr), s.w.cell? ⟨g, k, none⟩ = some (.int .i64 i) := fun s => Bw.cell s r1
          have c6 : ∀ s : Wd (Bw wr), s.w.cell? ⟨g, k - 1, none⟩ = some (.int .i64 pn) := fun s => Bw.cell s r2
          have inst : Nonempty (Wd (Bw wr)) := ⟨⟨wr, Below.refl _ _⟩⟩
          have hsub : ((k : Int) - 1) = ((k - 1 : Nat) : Int) := by omega
          have hpin : pn < n := by omega
          have hk1i : k - 1 < i + 1 := by omega
          obtain ⟨q, hq⟩ : ∃ q, q = kl x y := ⟨_, rfl⟩
          have hc : ∀ X, Calls Try.prog 36 #[.agg #[.int .i64 x.1, .int .u32 x.2], .agg #[.int .i64 y.1, .int .u32 y.2]] X fun e w' => e = .returned (.bool q) ∧ Below X.heap.size X w' := by rw [hq]; exact HB36.out x y
          have hlp : q = true → lp ks i pn := fun h => .inl (by simp only [Int.toNat_natCast]; rw [← hx, ← hy, ← hq, h])
          have hlp2 : q = false → lp ks pn i := fun h => lp_of_not (by unfold ahK; simp only [Int.toNat_natCast]; rw [← hx, ← hy, ← hq, h]) hpb.2
          have HC := Lib.hid hc
          have HLP := Lib.hid hlp
          have HLP2 := Lib.hid hlp2
          have HA0 := Lib.hid hA0
          clear hx hy ex ey hil hpl hpm hpb hks hc hq hlp hlp2 hA0 r1 r2 hlen hAl
          go_upto_region 7 with fail
          have hsw : IntKind.i64.wrap ((k : Int) - 1) = ((k - 1 : Nat) : Int) := by rw [IntWalk.i64_in _ (by omega)]; exact hsub
          refine wp_region_wd (Bw wr) (by kernel_rfl) (by kernel_rfl) ((Below.refl _ wr).drew) ?_
          repeat (first
            | go_big_quiet_step (first | (go_at_call 36; with_reducible exact calls_wd (fun _ _ h hb => h.keep hb) _ (HC.out _)))
            | quiet_step (first | (go_at_call 36; with_reducible exact calls_wd (fun _ _ h hb => h.keep hb) _ (HC.out _))))
          refine wpQuiet_nil ?_
          rintro _ ⟨s, rfl⟩
          have HS := Lib.hid (HB.out.trans (s.h.mono HB.out.size))
          have HRB2 := Lib.hid (HRB.out.keep s.h HRB.out.lt)
          generalize s.w = w2 at *
          clear c1 c2 c3 c4 c5 c6 s inst HRB HB hsw
          cases q
          · have HD := Lib.hid (HPL.out.done HL.out (fun a ha => by
              have h1 := HLP2.out (by trivial)
              rcases List.mem_append.1 ha with h2 | h2
              · have h3 := HL.out.2
                rw [← HPL.out.all, List.append_assoc, List.pairwise_append] at h3
                exact lp_trans (h3.2.2 a h2 pn (by simp)) h1
              · simp at h2; subst h2; exact h1))
            have hl2 : (A0 ++ [(pn : Int)] ++ (i : Int) :: B).length = i + 1 := by
              have := congrArg List.length HPL.out.all
              simp at this ⊢
              omega
            go_wp2
            go_roundw
            case rel => exact ⟨i + 1, _, by go_num, by omega, hl2, Lib.hid (HRB2.out.own HG1.out hl2.symm), HD, HS⟩
            case measure => simp [intOf]; omega
          · have f1 := HRB2.out.free k
            have f2 := HRB2.out.free (k - 1)
            have r1 := HRB2.out.cell (i := k) (x := i) (by have := HA0.out; subst this; simp)
            have r2 := HRB2.out.cell (i := k - 1) (x := pn) (by have := HA0.out; subst this; simp)
            have hw := ((HRB2.out.set k pn).set (k - 1) i).eq (swap_list A0 B pn i k HA0.out)
            have HW := Lib.hid hw
            have HS2 := Lib.hid ((HS.out.setCell (p := ⟨g, k, none⟩) HG1.out (.int .i64 pn)).setCell (p := ⟨g, k - 1, none⟩) HG1.out (.int .i64 i)).drew
            have hn1 : ¬ k - 1 = k := by omega
            have hn2 : ¬ k = k - 1 := by omega
            clear hw
            go_upto_region 9 with fail
            have hsw : IntKind.i64.wrap ((k : Int) - 1) = ((k - 1 : Nat) : Int) := by rw [IntWalk.i64_in _ (by omega)]; exact hsub
            go_region
            all_goals clear hsw
            all_goals go_wp2
            all_goals go_roundw
            case rel => exact ⟨k - 1, A0, pn :: B, by go_num, by omega, by have := HA0.out; omega, Lib.hid HW.out.drew, Lib.hid (HPL.out.step (HLP.out (by trivial))), HS2⟩
            case measure => simp [intOf]; omega
        · have hk0z : ¬ (0 : Int) < k := by omega
          have inst : Nonempty (Wd (Bw wr)) := ⟨⟨wr, Below.refl _ _⟩⟩
          obtain rfl : A = [] := List.length_eq_zero_iff.1 (by omega)
          have HD := Lib.hid (HPL.out.done HL.out (fun a ha => by cases ha))
          go_upto_region 7 with fail
          refine wp_region_wd (Bw wr) (by kernel_rfl) (by kernel_rfl) ((Below.refl _ wr).drew) ?_
          repeat (first | go_big_quiet_step (fail) | quiet_step (fail))
          refine wpQuiet_nil ?_
          rintro _ ⟨s, rfl⟩
          have HS := Lib.hid (HB.out.trans (s.h.mono HB.out.size))
          have HRB2 := Lib.hid (HRB.out.keep s.h HRB.out.lt)
          go_wp2
          go_roundw
          case rel => exact ⟨i + 1, _, by go_num, by omega, hlen, Lib.hid (HRB2.out.own HG1.out hlen.symm), HD, HS⟩
          case measure => simp [intOf]; omega
    · have hltz : ¬ (i : Int) < n := by omega
      obtain rfl : i = n := by omega
      go_wp2
      go_ret
      have e : srt ks = L := pw_unique ((srt_perm ks).trans (by rw [← HN.out]; exact HL.out.1.symm)) (srt_pw ks) HL.out.2
      exact ⟨_, rfl, by rw [e]; exact HR.out, HB.out⟩
end Go.Proofs.Ytomchimjogdkkaa
