/-
  The document's list of each number once is that of sort.Once. No condition but those typed at each theorem.
-/
import Derived.Test.YtomchimjogdkkaaRefB
import Derived.Test.YtomchimjogdkkaaOnceMath
import Derived.Deep.CutBlock
namespace Go.Proofs.Ytomchimjogdkkaa
open Go.RowKit

/-- of the first i numbers each once, rising -/
structure OL (xs : List Int) (i : Nat) (L : List Int) : Prop where
  up : L.Pairwise (· < ·)
  mem : ∀ x, x ∈ L ↔ x ∈ xs.take i
theorem OL.start (xs : List Int) : OL xs 0 [] := ⟨List.Pairwise.nil, fun x => by simp⟩
theorem OL.fin {xs : List Int} {i : Nat} {L : List Int} (h : OL xs i L) (hi : xs.length ≤ i) : onceL xs = L := onceL_of xs L h.up (fun x => by rw [h.mem, List.take_of_length_le hi])
theorem OL.same {xs : List Int} {i : Nat} {L : List Int} {x : Int} (h : OL xs i L) (hx : xs[i]? = some x) (hm : x ∈ L) : OL xs (i + 1) L := by
  refine ⟨h.up, fun y => ?_⟩
  rw [h.mem, List.take_add_one, hx]
  simp only [Option.toList_some, List.mem_append, List.mem_singleton]
  constructor
  · exact .inl
  · rintro (h1 | h1)
    · exact h1
    · subst h1; exact (h.mem _).1 hm
theorem OL.ins {xs : List Int} {i k : Nat} {L : List Int} {x : Int} (h : OL xs i L) (hx : xs[i]? = some x) (h1 : ∀ j y, j < k → L[j]? = some y → y < x) (h2 : k = L.length ∨ ∃ y, L[k]? = some y ∧ x < y) : OL xs (i + 1) (L.take k ++ x :: L.drop k) := by
  have hu := h.up
  have hs := List.take_append_drop k L
  refine ⟨?_, fun y => ?_⟩
  · have hu' := hu
    rw [← hs, List.pairwise_append] at hu'
    rw [List.pairwise_append]
    have hd : ∀ y ∈ L.drop k, x < y := by
      intro y hy
      rcases h2 with h2 | ⟨z, h3, h4⟩
      · subst h2; simp at hy
      · obtain ⟨hk, hz⟩ := List.getElem?_eq_some_iff.1 h3
        rw [List.drop_eq_getElem_cons hk] at hy
        rcases List.mem_cons.1 hy with e | e
        · rw [e, hz]; exact h4
        · have h5 := hu'.2.1
          rw [List.drop_eq_getElem_cons hk] at h5
          have := (List.pairwise_cons.1 h5).1 y e
          rw [hz] at this
          omega
    have ht : ∀ y ∈ L.take k, y < x := by
      intro y hy
      obtain ⟨j, hj⟩ := List.mem_iff_getElem?.1 hy
      rw [List.getElem?_take] at hj
      split at hj
      · exact h1 j y (by assumption) hj
      · cases hj
    refine ⟨hu'.1, List.pairwise_cons.2 ⟨hd, hu'.2.1⟩, fun a ha b hb => ?_⟩
    rcases List.mem_cons.1 hb with e | e
    · subst e; exact ht a ha
    · exact hu'.2.2 a ha b e
  · rw [List.take_add_one, hx]
    have h3 := h.mem y
    rw [← hs] at h3
    simp only [List.mem_append, List.mem_cons, Option.toList_some] at h3 ⊢
    rw [← h3]
    simp only [List.not_mem_nil, or_false]
    exact ⟨fun h => h.elim (fun h => .inl (.inl h)) (fun h => h.elim .inr (fun h => .inl (.inr h))), fun h => h.elim (fun h => h.elim .inl (fun h => .inr (.inr h))) (fun h => .inr (.inl h))⟩
theorem shift_list (L : List Int) (j : Nat) (z y : Int) (hj : 1 ≤ j) (hy : L[j - 1]? = some y) : (L.take j ++ z :: L.drop j).set j y = L.take (j - 1) ++ y :: L.drop (j - 1) := by
  obtain ⟨hl, he⟩ := List.getElem?_eq_some_iff.1 hy
  have hlen : (L.take j).length = j := by simp; omega
  have e1 : L.take j = L.take (j - 1) ++ [y] := by
    have := List.take_succ_eq_append_getElem hl
    rw [show j - 1 + 1 = j by omega, he] at this
    exact this
  have e2 : L.drop (j - 1) = y :: L.drop j := by
    have := List.drop_eq_getElem_cons hl
    rw [show j - 1 + 1 = j by omega, he] at this
    exact this
  rw [List.set_append_right _ _ (by omega), hlen, Nat.sub_self, List.set_cons_zero, e2, e1]
  simp
theorem put_list (L : List Int) (k : Nat) (z x : Int) (hk : k ≤ L.length) : (L.take k ++ z :: L.drop k).set k x = L.take k ++ x :: L.drop k := by
  have hlen : (L.take k).length = k := by simp; omega
  rw [List.set_append_right _ _ (by omega), hlen, Nat.sub_self, List.set_cons_zero]
theorem Try.info38' : (Try.prog.info? 38).map (fun i => (i.zero, i.size, i.bytes)) = some (some (.int .u32 0), 1, 4) := by kernel_rfl
theorem RB.nsc {w : World} {g cap : Nat} {L : List Int} (h : RB .u32 38 w g cap L) {w' : World} (hb : Below w.heap.size w w') {i : Nat} {x : Int} (e : L[i]? = some x) : w'.cell? ⟨g, i, none⟩ = some (.int .u32 x) := (h.keep hb h.lt).cell e
theorem row_below {w w' : World} {base n : Nat} {e : TypeId} {size : Nat} {v : Value} {xs : List Value} (h : w.ownsRow base e size v n xs) (hb : Below w.heap.size w w') : w'.ownsRow base e size v n xs := by
  obtain ⟨h1, h2⟩ := h
  refine ⟨h1, ?_⟩
  rcases h2 with h2 | ⟨q, cap, cur, hv, hb2, hg, hr⟩
  · exact .inl h2
  · exact .inr ⟨q, cap, cur, hv, hb2, (hb.block q (lt_of_block hg)).trans hg, hr⟩

set_option maxRecDepth 100000 in
set_option maxHeartbeats 6400000 in
theorem RefOnce_any (w : World) (p0 : Option Addr) (cap0 : Nat) (xs : List Int) (hx : NS w p0 .u32 xs) (hn : xs.length ≤ 8192) :
    Calls Try.prog 19 #[.slice p0 xs.length cap0] w fun e w' => ∃ v, e = .returned v ∧ w'.ownsRow w.heap.size 38 1 v (onceL xs).length ((onceL xs).map (Value.int .u32)) ∧ Below w.heap.size w w' := by
  have hcell : ∀ k x, xs[k]? = some x → ∃ b off, p0 = some ⟨b, off, none⟩ ∧ w.cell? ⟨b, off + k, none⟩ = some (.int .u32 x) := by
    intro k x e
    rcases hx with rfl | ⟨b, off, h1, h2⟩
    · simp at e
    · exact ⟨b, off, h1, h2 k x e⟩
  have HX := Lib.hid hcell
  obtain ⟨n, hnn⟩ : ∃ n, n = xs.length := ⟨_, rfl⟩
  have HN := Lib.hid hnn
  rw [← hnn] at hn
  rw [← hnn]
  clear hcell hx hnn
  go_enter Try.func19, Try.ntmps19
  go_wp2
  go_loopw [3, 4] (fun v3 v4 wr => ∃ (i m : Nat) (L : List Int), v4 = .int .i64 i ∧ i ≤ n ∧ m ≤ i ∧ Hid (m = L.length) ∧ Hid (wr.ownsRow w.heap.size 38 1 v3 m (L.map (Value.int .u32))) ∧ Hid (OL xs i L) ∧ Hid (Below w.heap.size w wr)) (fun _ v4 _ => n - (intOf v4).toNat)
  case atStart => exact ⟨0, 0, [], rfl, Nat.zero_le _, Nat.le_refl _, Lib.hid rfl, Lib.hid ⟨rfl, .inl ⟨rfl, rfl⟩⟩, Lib.hid (OL.start xs), Lib.hid (Below.refl _ _)⟩
  case round =>
    obtain ⟨i, m, L, rfl, hi, hmi, HM, HR, HL, HB⟩ := hrel
    obtain ⟨q, c2, rfl⟩ : ∃ q c2, u3 = .slice q m c2 := by
      rcases HR.out.2 with ⟨h1, h2⟩ | ⟨g, cap, cur, h1, -⟩
      · exact ⟨none, 0, by rw [h1, h2]⟩
      · exact ⟨_, _, h1⟩
    by_cases hlt : i < n
    · have hltz : (i : Int) < n := by omega
      obtain ⟨x, hxe⟩ : ∃ x, xs[i]? = some x := ⟨_, List.getElem?_eq_getElem (by have := HN.out; omega)⟩
      obtain ⟨b, off, rfl, hcx⟩ := HX.out i x hxe
      have HXE := Lib.hid hxe
      have HCX := Lib.hid hcx
      clear hxe hcx
      go_upto_block 2 with fail
      go_cut [5] (fun v5 wx => ∃ k : Nat, v5 = .int .i64 k ∧ k ≤ m ∧ Hid (∀ j y, j < k → L[j]? = some y → y < x) ∧ Hid (k = m ∨ ∃ y, L[k]? = some y ∧ x ≤ y) ∧ Hid (wx.ownsRow w.heap.size 38 1 (.slice q m c2) m (L.map (Value.int .u32))) ∧ Hid (Below w.heap.size w wx))
      case first =>
        go_wp2_with fail
        go_loopw [5] (fun v5 wr => ∃ k : Nat, v5 = .int .i64 k ∧ k ≤ m ∧ Hid (∀ j y, j < k → L[j]? = some y → y < x) ∧ Hid (wr.ownsRow w.heap.size 38 1 (.slice q m c2) m (L.map (Value.int .u32))) ∧ Hid (Below w.heap.size w wr)) (fun v5 _ => m - (intOf v5).toNat)
        case atStart => exact ⟨0, rfl, Nat.zero_le _, Lib.hid (fun j y hj => by omega), HR, HB⟩
        case round =>
          clear HR HB
          obtain ⟨k, rfl, hkm, HU, HR, HB⟩ := hrel
          have inst : Nonempty (Wd (Bw wr)) := ⟨⟨wr, Below.refl _ _⟩⟩
          by_cases hk : k < m
          · have hkz : (k : Int) < m := by omega
            obtain ⟨y, hye⟩ : ∃ y, L[k]? = some y := ⟨_, List.getElem?_eq_getElem (by have := HM.out; omega)⟩
            obtain ⟨g, cap, hv, hgb, hRB⟩ := rb_of HR.out (by omega)
            cases hv
            have r1 := hRB.cell hye
            have r2 : wr.cell? ⟨b, off + i, none⟩ = some (.int .u32 x) := (HB.out.cell (World.block_lt_of_cell? w _ HCX.out)).trans HCX.out
            have e1 : ∀ s : Wd (Bw wr), s.w.cell? ⟨g, k, none⟩ = some (.int .u32 y) := fun s => Bw.cell s r1
            have e2 : ∀ s : Wd (Bw wr), s.w.cell? ⟨b, off + i, none⟩ = some (.int .u32 x) := fun s => Bw.cell s r2
            have HYE := Lib.hid hye
            clear hye hgb hRB r1 r2
            go_upto_region 6 with fail
            refine wp_region_wd (Bw wr) (by kernel_rfl) (by kernel_rfl) ((Below.refl _ wr).drew) ?_
            repeat (first | go_big_quiet_step (fail) | quiet_step (fail))
            refine wpQuiet_nil ?_
            rintro _ ⟨s, rfl⟩
            have HS := Lib.hid (HB.out.trans (s.h.mono HB.out.size))
            have HR2 := Lib.hid (row_below HR.out s.h)
            generalize s.w = w2 at *
            clear e1 e2 s inst
            by_cases hyx : y < x
            · go_wp2
              go_roundw
              case rel => exact ⟨k + 1, by go_num, by omega, Lib.hid (fun j z hj hz => by
                by_cases e : j = k
                · subst e; rw [HYE.out] at hz; cases hz; exact hyx
                · exact HU.out j z (by omega) hz), HR2, HS⟩
              case measure => simp [intOf]; omega
            · go_wp2_with fail
              go_meet
              exact ⟨k, rfl, hkm, HU, Lib.hid (.inr ⟨y, HYE.out, by omega⟩), HR2, HS⟩
          · have hkz : ¬ (k : Int) < m := by omega
            go_upto_region 6 with fail
            refine wp_region_wd (Bw wr) (by kernel_rfl) (by kernel_rfl) ((Below.refl _ wr).drew) ?_
            repeat (first | go_big_quiet_step (fail) | quiet_step (fail))
            refine wpQuiet_nil ?_
            rintro _ ⟨s, rfl⟩
            have HS := Lib.hid (HB.out.trans (s.h.mono HB.out.size))
            have HR2 := Lib.hid (row_below HR.out s.h)
            generalize s.w = w2 at *
            go_wp2_with fail
            go_meet
            exact ⟨k, rfl, hkm, HU, Lib.hid (.inl (by omega)), HR2, HS⟩
      case rest =>
        clear HR HB
        obtain ⟨k, rfl, hkm, HU, HK, HR, HB⟩ := hcut
        go_upto_region 8 with fail
        go_cut [44] (fun v44 wx => ∃ t : Bool, v44 = .bool t ∧ Hid (t = true → L[k]? = some x) ∧ Hid (t = false → k = m ∨ ∃ y, L[k]? = some y ∧ x < y) ∧ Hid (wx.ownsRow w.heap.size 38 1 (.slice q m c2) m (L.map (Value.int .u32))) ∧ Hid (Below w.heap.size w wx))
        case first =>
          have inst : Nonempty (Wd (Bw wc)) := ⟨⟨wc, Below.refl _ _⟩⟩
          by_cases hk : k < m
          · have hkz : (k : Int) < m := by omega
            obtain ⟨y, hye⟩ : ∃ y, L[k]? = some y := ⟨_, List.getElem?_eq_getElem (by have := HM.out; omega)⟩
            obtain ⟨g, cap, hv, hgb, hRB⟩ := rb_of HR.out (by omega)
            cases hv
            have r1 := hRB.cell hye
            have r2 : wc.cell? ⟨b, off + i, none⟩ = some (.int .u32 x) := (HB.out.cell (World.block_lt_of_cell? w _ HCX.out)).trans HCX.out
            have e1 : ∀ s : Wd (Bw wc), s.w.cell? ⟨g, k, none⟩ = some (.int .u32 y) := fun s => Bw.cell s r1
            have e2 : ∀ s : Wd (Bw wc), s.w.cell? ⟨b, off + i, none⟩ = some (.int .u32 x) := fun s => Bw.cell s r2
            have HYE := Lib.hid hye
            clear hye hgb hRB r1 r2
            refine wp_region_wd (Bw wc) (by kernel_rfl) (by kernel_rfl) ((Below.refl _ wc).drew) ?_
            repeat (first | go_big_quiet_step (fail) | quiet_step (fail))
            refine wpQuiet_nil ?_
            rintro _ ⟨s, rfl⟩
            have HS := Lib.hid (HB.out.trans (s.h.mono HB.out.size))
            have HR2 := Lib.hid (row_below HR.out s.h)
            generalize s.w = w2 at *
            clear e1 e2 s inst
            by_cases hyx : y = x
            · go_wp2_with fail
              go_meet
              exact ⟨true, by simp [hyx], Lib.hid (fun _ => by rw [HYE.out, hyx]), Lib.hid (fun h => by cases h), HR2, HS⟩
            · go_wp2_with fail
              go_meet
              refine ⟨false, by simp [hyx], Lib.hid (fun h => by cases h), Lib.hid (fun _ => .inr ⟨y, HYE.out, ?_⟩), HR2, HS⟩
              rcases HK.out with h1 | ⟨y2, h1, h2⟩
              · omega
              · rw [HYE.out] at h1; cases h1; omega
          · have hkz : ¬ (k : Int) < m := by omega
            refine wp_region_wd (Bw wc) (by kernel_rfl) (by kernel_rfl) ((Below.refl _ wc).drew) ?_
            repeat (first | go_big_quiet_step (fail) | quiet_step (fail))
            refine wpQuiet_nil ?_
            rintro _ ⟨s, rfl⟩
            have HS := Lib.hid (HB.out.trans (s.h.mono HB.out.size))
            have HR2 := Lib.hid (row_below HR.out s.h)
            generalize s.w = w2 at *
            go_wp2_with fail
            go_meet
            exact ⟨false, rfl, Lib.hid (fun h => by cases h), Lib.hid (fun _ => .inl (by omega)), HR2, HS⟩
        case rest =>
          clear HR HB HK
          obtain ⟨t, rfl, HT, HF, HR, HB⟩ := hcut
          cases t
          · have hins := HF.out rfl
            have HI := Lib.hid hins
            have hoA := HR.out.alloc (.cells #[.int .u32 0] 38)
            have HOA := Lib.hid hoA
            have hsz : w.heap.size ≤ wc.heap.size := HB.out.size
            clear hoA hins HF HT
            go_upto_region 10 with (at_builtin; refine wpList_oneB rfl (.tmp 45) (.tmp 46) 23 38 .u32 (.int .u32 0) 4 Try.underlying23 Try.info38' rfl (by decide) rfl w.heap.size _ m L wc.heap.size 0 rfl rfl (by simp) HOA.out (by omega) (by simp <;> omega) ?_; intro g cap w1 h1 h2 h3; have HG1 := Lib.hid h1; have HG2 := Lib.hid h2; have HG3 := Lib.hid (HB.out.grown ((World.grownBy_alloc wc _ _).trans h3) HB.out.size (own_ge' HR.out)); clear h1 h2 h3)
            clear HR HB HOA hsz
            go_wp2_with fail
            go_loopw [6] (fun v6 wr => ∃ (j : Nat) (z : Int), v6 = .int .i64 j ∧ k ≤ j ∧ j ≤ m ∧ Hid (RB .u32 38 wr g cap (L.take j ++ z :: L.drop j)) ∧ Hid (Below w.heap.size w wr)) (fun v6 _ => (intOf v6).toNat)
            case atStart => exact ⟨m, 0, by go_num, hkm, Nat.le_refl _, Lib.hid (HG2.out.eq (by rw [List.take_of_length_le (by have := HM.out; omega), List.drop_of_length_le (by have := HM.out; omega)])), HG3⟩
            case round =>
              clear HG2 HG3
              obtain ⟨j, z, rfl, hkj, hjm, HRB, HB⟩ := hrel
              by_cases hj : k < j
              · have hjz : (k : Int) < j := by omega
                obtain ⟨y, hye⟩ : ∃ y, L[j - 1]? = some y := ⟨_, List.getElem?_eq_getElem (by have := HM.out; omega)⟩
                have hjl : j ≤ L.length := by have := HM.out; omega
                have r1 := HRB.out.cell (i := j - 1) (x := y) (by rw [List.getElem?_append_left (by simp; omega), List.getElem?_take, if_pos (by omega)]; exact hye)
                have r2 := HRB.out.cell (i := j) (x := z) (by rw [List.getElem?_append_right (by rw [List.length_take]; omega)]; simp [Nat.min_eq_left hjl])
                have f1 := HRB.out.free j
                have H1 := Lib.hid ((HRB.out.set j y).eq (shift_list L j z y (by omega) hye))
                have H2 := Lib.hid (HB.out.setCell (p := ⟨g, j, none⟩) HG1.out (.int .u32 y))
                have hsub : ((j : Int) - 1) = ((j - 1 : Nat) : Int) := by omega
                have hj1 : j - 1 < m + 1 := by omega
                have hj2 : j < m + 1 := by omega
                clear hye hjl
                go_wp2
                go_roundw
                case rel => exact ⟨j - 1, y, by go_num, by omega, by omega, H1, H2⟩
                case measure => simp [intOf]; omega
              · have hjz : ¬ (k : Int) < j := by omega
                obtain rfl : j = k := by omega
                have hjl : j ≤ L.length := by have := HM.out; omega
                have r2 := HRB.out.cell (i := j) (x := z) (by rw [List.getElem?_append_right (by rw [List.length_take]; omega)]; simp [Nat.min_eq_left hjl])
                have f1 := HRB.out.free j
                have hcx : wr.cell? ⟨b, off + i, none⟩ = some (.int .u32 x) := (HB.out.cell (World.block_lt_of_cell? w _ HCX.out)).trans HCX.out
                have h1 := (HRB.out.set j x).eq (put_list L j z x hjl)
                have hlen : (L.take j ++ x :: L.drop j).length = m + 1 := by have := HM.out; simp; omega
                have H1 := Lib.hid (h1.own HG1.out hlen.symm)
                have H2 := Lib.hid (HB.out.setCell (p := ⟨g, j, none⟩) HG1.out (.int .u32 x))
                have HLN := Lib.hid hlen
                have hj2 : j < m + 1 := by omega
                have HOL := Lib.hid (HL.out.ins HXE.out HU.out (by have := HM.out; exact HI.out.imp (fun h => by omega) id))
                clear h1 hlen hjl
                go_wp2
                go_roundw
                case rel => exact ⟨i + 1, m + 1, _, by go_num, by omega, by omega, Lib.hid HLN.out.symm, H1, HOL, H2⟩
                case measure => simp [intOf]; omega
          · have hmem : x ∈ L := List.mem_of_getElem? (HT.out rfl)
            have HOL := Lib.hid (HL.out.same HXE.out hmem)
            clear hmem
            go_wp2
            go_roundw
            case rel => exact ⟨i + 1, m, L, by go_num, by omega, by omega, HM, HR, HOL, HB⟩
            case measure => simp [intOf]; omega
    · have hltz : ¬ (i : Int) < n := by omega
      go_wp2
      go_ret
      have e := HL.out.fin (by have := HN.out; omega)
      exact ⟨_, rfl, by rw [e, ← HM.out]; exact HR.out, HB.out⟩
end Go.Proofs.Ytomchimjogdkkaa
