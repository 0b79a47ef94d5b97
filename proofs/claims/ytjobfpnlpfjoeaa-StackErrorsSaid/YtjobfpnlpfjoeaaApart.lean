/-
  Lists that lie in blocks of their own lie apart: gridironlow's Apart. No condition but those typed at each theorem.
-/
import Derived.Test.YtjobfpnlpfjoeaaEqN
import Derived.Deep.AppendLies
import Derived.Deep.RegionLaw
import Derived.Deep.CutBlock
namespace Go.Proofs.Ytjobfpnlpfjoeaa
open Go.RowKit

theorem Try.info25 : (Try.prog.info? 25).map (fun i => (i.zero, i.size, i.bytes)) = some (some (.slice none 0 0), 1, 24) := by kernel_rfl
/-- the block A holds these things, and may be written -/
def EV (t : TypeId) (w : World) (A : Nat) (L : List Value) : Prop := w.heap[A]? = some (.cells L.toArray t (0, 0))
section
variable {t : TypeId} {w w' : World} {A : Nat} {L : List Value}
theorem EV.lt (h : EV t w A L) : A < w.heap.size := lt_of_block h
theorem EV.cell (h : EV t w A L) {i : Nat} {x : Value} (e : L[i]? = some x) : w.cell? ⟨A, i, none⟩ = some x := by
  simp [World.cell?, show w.heap[A]? = _ from h, e]
theorem EV.free (h : EV t w A L) (i : Nat) : w.frozen? ⟨A, i, none⟩ = false := by
  simp [World.frozen?, show w.heap[A]? = _ from h]
theorem EV.set (h : EV t w A L) (i : Nat) (x : Value) : EV t (w.setCell ⟨A, i, none⟩ x) A (L.set i x) := by
  unfold EV
  rw [heap_setCell_same _ _ _ _ _ _ h]
  simp
theorem EV.all (h : EV t w A L) (o : Obj) : EV t (w.alloc o) A L := by
  unfold EV
  rw [Below.heap_alloc _ _ _ h.lt]
  exact h
theorem EV.keep {N : Nat} (h : EV t w A L) (hb : Below N w w') (hN : A < N) : EV t w' A L := (hb.block A hN).trans h
theorem EV.off {S : List Nat} (h : EV t w A L) (g : Off S w w') (hS : A ∉ S) : EV t w' A L := (g.block A h.lt hS).trans h
theorem EV.grown {o : Option Nat} (h : EV t w A L) (g : w.grownBy w' o) (ho : some A ≠ o) : EV t w' A L := (g.block A h.lt ho).trans h
end
/-- a row of one's own, as a whole block -/
theorem row_whole {w : World} {base n : Nat} {e : TypeId} {size : Nat} {v : Value} {xs : List Value} (h : w.ownsRow base e size v n xs) (hn : 0 < n) : ∃ g c L, v = .slice (some ⟨g, 0, none⟩) n c ∧ base ≤ g ∧ EV e w g L ∧ L.length = c * size ∧ n ≤ c ∧ c ≤ maxLen := by
  obtain ⟨h1, h2⟩ := h
  rcases h2 with ⟨rfl, h2⟩ | ⟨q, cap, cur, hv, hb, hg, hnc, hcm, hcs, htk⟩
  · omega
  · exact ⟨q, cap, cur.toList, hv, hb, by simpa [EV] using hg, by simpa using hcs, hnc, hcm⟩
/-- these lists: a block and how many numbers it has; up to k they are written full -/
def BK (w : World) (bs : List (Nat × Nat)) (k : Nat) : Prop := ∀ j b, bs[j]? = some b → ∃ L : List Value, L.length = b.2 ∧ EV 3 w b.1 L ∧ (j < k → L = List.replicate b.2 (.int .i64 (-7 - (j : Int))))
def wv (b : Nat × Nat) : Value := .slice (some ⟨b.1, 0, none⟩) b.2 b.2
theorem wv_one (bs : List (Nat × Nat)) : ∀ u ∈ bs.map wv, u.oneCell' = true := by
  intro u hu
  simp at hu
  obtain ⟨a, b, _, rfl⟩ := hu
  rfl
theorem Off.grown {S : List Nat} {w X w' : World} {o : Option Nat} (h : Off S w X) (g : X.grownBy w' o) (ho : ∀ k, o = some k → w.heap.size ≤ k) : Off S w w' :=
  ⟨g.os.trans h.os, g.tape.trans h.tape, g.output.trans h.output, Nat.le_trans h.size g.size, fun k hk hS => (g.block k (Nat.lt_of_lt_of_le hk h.size) (fun e => by have := ho k e.symm; omega)).trans (h.block k hk hS)⟩
theorem row_off {w X : World} {base n : Nat} {e : TypeId} {size : Nat} {v : Value} {xs : List Value} {S : List Nat} (h : w.ownsRow base e size v n xs) (g : Off S w X) (hS : ∀ k ∈ S, k < base) : X.ownsRow base e size v n xs := by
  obtain ⟨h1, h2⟩ := h
  refine ⟨h1, ?_⟩
  rcases h2 with h2 | ⟨q, cap, cur, hv, hb, hg, hr⟩
  · exact .inl h2
  · exact .inr ⟨q, cap, cur, hv, hb, (g.block q (lt_of_block hg) (fun e => by have := hS q e; omega)).trans hg, hr⟩
theorem row_cell {w : World} {base n : Nat} {e : TypeId} {v : Value} {xs : List Value} (h : w.ownsRow base e 1 v n xs) {j : Nat} {u : Value} (hj : xs[j]? = some u) : ∃ g cap, v = .slice (some ⟨g, 0, none⟩) n cap ∧ base ≤ g ∧ w.cell? ⟨g, j, none⟩ = some u := by
  obtain ⟨h1, h2⟩ := h
  have hjn := (List.getElem?_eq_some_iff.1 hj).1
  rcases h2 with ⟨rfl, rfl⟩ | ⟨g, cap, cur, rfl, hb, hg, hnc, hcm, hcs, htk⟩
  · omega
  · refine ⟨g, cap, rfl, hb, ?_⟩
    rw [← htk, List.getElem?_take] at hj
    split at hj
    · simp [World.cell?, hg]
      simpa using hj
    · cases hj
theorem own_geB {w : World} {base n : Nat} {e : TypeId} {size : Nat} {v : Value} {xs : List Value} (h : w.ownsRow base e size v n xs) : ∀ k, v.ownBlock = some k → base ≤ k := by
  intro k hk
  rcases h.2 with ⟨rfl, _⟩ | ⟨g, cap, cur, rfl, hb, _⟩
  · cases hk
  · simp [Value.ownBlock] at hk; omega
theorem BK.grown {X w' : World} {bs : List (Nat × Nat)} {k N : Nat} {o : Option Nat} (h : BK X bs k) (g : X.grownBy w' o) (ho : ∀ k, o = some k → N ≤ k) (hb : ∀ b ∈ bs, b.1 < N) : BK w' bs k := fun j b e => by
  obtain ⟨L, h1, h2, h3⟩ := h j b e
  exact ⟨L, h1, h2.grown g (fun e2 => by have := ho _ e2.symm; have := hb b (List.mem_of_getElem? e); omega), h3⟩
theorem BK.next {X w' : World} {bs : List (Nat × Nat)} {k : Nat} {A c : Nat} {L : List Value} (h : BK X bs k) (hnd : (bs.map (·.1)).Nodup) (hk : bs[k]? = some (A, c)) (g : Off [A] X w') (hE : EV 3 w' A L) (hl : L.length = c) (hL : L = List.replicate c (.int .i64 (-7 - (k : Int)))) : BK w' bs (k + 1) := fun j b e => by
  obtain ⟨L1, h1, h2, h3⟩ := h j b e
  by_cases hj : j = k
  · subst hj
    rw [hk] at e
    cases e
    exact ⟨L, hl, hE, fun _ => hL⟩
  · refine ⟨L1, h1, h2.off g ?_, fun h4 => h3 (by omega)⟩
    intro hm
    simp at hm
    obtain ⟨hjl, hje⟩ := List.getElem?_eq_some_iff.1 e
    obtain ⟨hkl, hke⟩ := List.getElem?_eq_some_iff.1 hk
    have h5 : (bs.map (·.1))[j]? = some A := by rw [List.getElem?_map, e]; simp [hm]
    have h6 : (bs.map (·.1))[k]? = some A := by rw [List.getElem?_map, hk]; rfl
    exact hj ((List.getElem?_inj (by simpa using hjl) hnd).1 (h5.trans h6.symm))
theorem step_appW {ops : Array Oper} {o : Oper} {a : Act} {w : World} {K : Act → World → Prop} {Q : Exit → Act → World → Prop} {E : Prop} (hgd : o.guard = none) (s x : Operand)
    (ho : o.op = .call { callee := .builtin .append, args := #[s, x], argTypes := #[58, 58] }) (base k : Nat) (v : Value) (b : Nat × Nat) (bs : List (Nat × Nat)) (B : Nat)
    (hs : a.eval s = v) (hx : a.eval x = .slice (some ⟨B, 0, none⟩) 1 1) (hc : w.cell? ⟨B, 0, none⟩ = some (wv b)) (hown : w.ownsRow base 25 1 v k (bs.map wv)) (hk : k ≤ 1000) (hb : base ≤ w.heap.size)
    (h : ∀ g cap w', w'.ownsRow base 25 1 (.slice (some ⟨g, 0, none⟩) (k + 1) cap) (k + 1) ((bs ++ [b]).map wv) → w.grownBy w' v.ownBlock → K (a.put o.dst (.slice (some ⟨g, 0, none⟩) (k + 1) cap)) w') :
    if Region.wanted o (yielded ops a.tmps) = true then Oper.wp Try.prog o a w K Q else E := by
  obtain ⟨i0, hi, hz0, hz1, hz2⟩ := info_parts Try.info25
  have hmx : maxLen = 9223372036854775807 := rfl
  refine step_append_lies w hgd s x 58 ho base 25 i0 (.slice none 0 0) 1 24 Try.underlying58 hi hz0 hz1 hz2 rfl (by decide) v k (bs.map wv) hs hown ⟨B, 0, none⟩ 1 1 [wv b] hx rfl ?_ ?_ (by omega) (by omega) (by omega) hb w.heap.size rfl ?_
  · intro j u hu
    cases j with
    | zero => simp at hu; subst hu; rw [Addr.add_zero']; exact hc
    | succ j => simp at hu
  · intro u hu
    simp at hu
    subst hu
    rfl
  · intro g cap w' h1 h2 _ _
    exact h g cap w' (by rw [List.map_append]; exact h1) h2
theorem rep_set (c i : Nat) (x : Value) (L : List Value) (hl : L.length = c) (hi : i < c) (hL : L.take i = List.replicate i x) : (L.set i x).take (i + 1) = List.replicate (i + 1) x := by
  rw [List.take_succ_eq_append_getElem (by simp; omega), List.take_set_of_le (by omega), hL, List.replicate_succ']
  simp

set_option maxRecDepth 100000 in
set_option maxHeartbeats 6400000 in
theorem apart_any (w : World) (S : Nat) (bs : List (Nat × Nat)) (ls : List (Nat × Nat × Nat)) (hnd : (bs.map (·.1)).Nodup) (hlen : ls.length = bs.length)
    (hls : ∀ j b l, bs[j]? = some b → ls[j]? = some l → l.1 = b.1 ∧ l.2.2 = b.2 ∧ l.2.1 ≤ b.2 ∧ w.cell? ⟨S, j, none⟩ = some (.slice (some ⟨b.1, 0, none⟩) l.2.1 b.2))
    (hSb : S ∉ bs.map (·.1)) (hbk : BK w bs 0) (hn : bs.length ≤ 1000) (hc : ∀ b ∈ bs, b.2 ≤ 9223372036854775807) :
    Calls Try.prog 21 #[.slice (some ⟨S, 0, none⟩) bs.length bs.length] w fun e w' => e = .returned (.bool true) ∧ Off (bs.map (·.1)) w w' := by
  obtain ⟨i0, hi, hz0, hz1, hz2⟩ := info_parts Try.info25
  have hmx : maxLen = 9223372036854775807 := rfl
  obtain ⟨n, hnn⟩ : ∃ n, n = bs.length := ⟨_, rfl⟩
  have HN := Lib.hid hnn
  have HLS := Lib.hid hls
  have HSB := Lib.hid hSb
  have HBK := Lib.hid hbk
  have HND := Lib.hid hnd
  have HC := Lib.hid hc
  have HAL := Lib.hid (show ∀ b ∈ bs, b.1 < w.heap.size from fun b hb => by
    obtain ⟨j, hj⟩ := List.mem_iff_getElem?.1 hb
    obtain ⟨L, _, h2, _⟩ := hbk j b hj
    exact h2.lt)
  have HLN := Lib.hid hlen
  rw [← hnn] at hn
  rw [← hnn]
  clear hnd hlen hls hSb hbk hc hnn
  go_enter Try.func21, Try.ntmps21
  go_upto_block 0 with fail
  go_cut [3] (fun v3 wx => Hid (wx.ownsRow w.heap.size 25 1 v3 n (bs.map wv)) ∧ Hid (BK wx bs n) ∧ Hid (Off (bs.map (·.1)) w wx))
  case first =>
    go_wp2_with fail
    go_loopw [3, 4] (fun v3 v4 wr => ∃ k : Nat, k ≤ n ∧ v4 = .int .i64 k ∧ Hid (wr.ownsRow w.heap.size 25 1 v3 k ((bs.take k).map wv)) ∧ Hid (BK wr bs k) ∧ Hid (Off (bs.map (·.1)) w wr)) (fun _ v4 _ => n - (intOf v4).toNat)
    case atStart => exact ⟨0, Nat.zero_le _, rfl, Lib.hid ⟨rfl, .inl ⟨rfl, rfl⟩⟩, HBK, Lib.hid (Off.refl _ _)⟩
    case round =>
      rename_i v3 v4
      clear HBK
      obtain ⟨k, hk, rfl, HR, HBK, HO⟩ := hrel
      by_cases hlt : k < n
      · have hltz : (k : Int) < n := by omega
        obtain ⟨b, hbe⟩ : ∃ b, bs[k]? = some b := ⟨_, List.getElem?_eq_getElem (by have := HN.out; omega)⟩
        obtain ⟨l, hle⟩ : ∃ l, ls[k]? = some l := ⟨_, List.getElem?_eq_getElem (by have := HN.out; have := HLN.out; omega)⟩
        obtain ⟨e1, e2, e3, e4⟩ := HLS.out k b l hbe hle
        obtain ⟨A, c⟩ := b
        obtain ⟨lA, ln, lc⟩ := l
        simp only at e1 e2 e3 e4
        subst e1 e2
        have hcS : wr.cell? ⟨S, k, none⟩ = some (.slice (some ⟨lA, 0, none⟩) ln lc) := HO.out.cell e4 HSB.out
        have hcb := HC.out _ (List.mem_of_getElem? hbe)
        have hmA : lA ∈ bs.map (·.1) := List.mem_map.2 ⟨_, List.mem_of_getElem? hbe, rfl⟩
        simp only at hcb
        obtain ⟨L, hLl, hE, -⟩ := HBK.out k _ hbe
        have HBE := Lib.hid hbe
        have HMA := Lib.hid hmA
        have hss : ∀ X, (Instr.slice 25 (.slice (some ⟨lA, 0, none⟩) ln lc) none (some (.int .i64 lc)) none).run Try.prog X = .ok (.slice (some ⟨lA, 0, none⟩) lc lc) X := by
          intro X
          obtain ⟨j0, hj, hy0, hy1, hy2⟩ := info_parts Try.info3
          simp [Instr.slice, run_underlying Try.underlying25, Instr.sliceBounds, Instr.sliceBound, asIntOf, sizeOf, typeInfo, hj, Addr.add_zero']
        clear hbe hle e4 hmA
        go_upto_region 5 with fail
        go_cut [3] (fun v3 wx => ∃ g cap, v3 = .slice (some ⟨g, 0, none⟩) (k + 1) cap ∧ Hid (wx.ownsRow w.heap.size 25 1 (.slice (some ⟨g, 0, none⟩) (k + 1) cap) (k + 1) ((bs.take (k + 1)).map wv)) ∧ Hid (BK wx bs k) ∧ Hid (Off (bs.map (·.1)) w wx))
        case first =>
          have hoA := HR.out.alloc (.cells #[.slice (some ⟨lA, 0, none⟩) lc lc] 25)
          have HOA := Lib.hid hoA
          have hsz : w.heap.size ≤ wr.heap.size := HO.out.size
          clear hoA
          go_region_law (refine step_appW rfl (.tmp 14) (.tmp 25) rfl w.heap.size k u3 (lA, lc) (bs.take k) wr.heap.size (by simp [Act.eval]) (by simp [Act.eval]) (by simp [wv]) (by exact HOA.out) (by omega) (by simp <;> omega) ?_; intro g cap w' h1 h2; have HG1 := Lib.hid h1; have HG2 := Lib.hid (grown_drew ((World.grownBy_alloc wr.drew _ _).trans h2)); clear h1 h2)
          all_goals go_wp2_with fail
          all_goals go_meet
          all_goals (
            have ht : bs.take (k + 1) = bs.take k ++ [(lA, lc)] := by rw [List.take_add_one, HBE.out]; rfl
            rw [ht]
            exact ⟨g, cap, rfl, HG1, Lib.hid (HBK.out.grown HG2.out (own_geB HR.out) HAL.out), Lib.hid (HO.out.grown HG2.out (own_geB HR.out))⟩)
        case rest =>
          obtain ⟨g, cap, rfl, HR2, HBK2, HO2⟩ := hcut
          clear HR HBK HO hcS hE hss
          have hrc := row_cell HR2.out (j := k) (u := wv (lA, lc)) (by rw [List.getElem?_map, List.getElem?_take, if_pos (by omega), HBE.out]; rfl)
          obtain ⟨g1, cap1, hv, hgb, hgc⟩ := hrc
          cases hv
          have hAlt := HAL.out _ (List.mem_of_getElem? HBE.out)
          have hgA : g ∉ [lA] := by simp; simp at hAlt; omega
          obtain ⟨L, hLl, hE, -⟩ := HBK2.out k _ HBE.out
          have HE := Lib.hid hE
          have HGC := Lib.hid hgc
          clear hE hgc hgb
          go_wp2_with fail
          go_loopw [5] (fun v5 wr2 => ∃ (i : Nat) (L : List Value), v5 = .int .i64 i ∧ i ≤ lc ∧ L.length = lc ∧ Hid (EV 3 wr2 lA L) ∧ Hid (L.take i = List.replicate i (.int .i64 (-7 - (k : Int)))) ∧ Hid (Off [lA] wc wr2)) (fun v5 _ => lc - (intOf v5).toNat)
          case atStart => exact ⟨0, L, rfl, Nat.zero_le _, hLl, HE, Lib.hid rfl, Lib.hid (Off.refl _ _)⟩
          case round =>
            clear HE hLl L
            obtain ⟨i, L, rfl, hi1, hLl, HE, HL, HO3⟩ := hrel
            have hcg : wr.cell? ⟨g, k, none⟩ = some (.slice (some ⟨lA, 0, none⟩) lc lc) := HO3.out.cell HGC.out hgA
            by_cases hil : i < lc
            · have hilz : (i : Int) < lc := by omega
              obtain ⟨x, hx⟩ : ∃ x, L[i]? = some x := ⟨_, List.getElem?_eq_getElem (by omega)⟩
              have hcA := HE.out.cell hx
              have hfA := HE.out.free i
              have h1 := HE.out.set i (.int .i64 (-7 - (k : Int)))
              have h2 := HO3.out.set ⟨lA, i, none⟩ (.int .i64 (-7 - (k : Int))) (.inl (by simp))
              have H1 := Lib.hid h1
              have H2 := Lib.hid h2
              have H3 := Lib.hid (rep_set lc i (.int .i64 (-7 - (k : Int))) L hLl hil HL.out)
              have hLs : (L.set i (.int .i64 (-7 - (k : Int)))).length = lc := by simpa using hLl
              clear h1 h2 hx
              go_wp2
              go_roundw
              case rel => exact ⟨i + 1, _, by go_num, by omega, hLs, H1, H3, H2⟩
              case measure => simp [intOf]; omega
            · have hilz : ¬ (i : Int) < lc := by omega
              have hLr : L = List.replicate lc (.int .i64 (-7 - (k : Int))) := by
                have := HL.out
                rw [List.take_of_length_le (by omega), show i = lc by omega] at this
                exact this
              have HLR := Lib.hid hLr
              clear hLr
              go_wp2
              go_roundw
              case rel => exact ⟨k + 1, by omega, by go_num, Lib.hid (row_off HR2.out HO3.out (by simpa using hAlt)), Lib.hid (HBK2.out.next HND.out HBE.out HO3.out HE.out hLl HLR.out), Lib.hid (HO2.out.trans (HO3.out.mono (fun q _ hq => by simp at hq; subst hq; exact HMA.out)))⟩
              case measure => simp [intOf]; omega
      · have hltz : ¬ (k : Int) < n := by omega
        obtain rfl : k = n := by omega
        go_wp2_with fail
        go_meet
        rw [List.take_of_length_le (by have := HN.out; omega)] at HR
        exact ⟨HR, HBK, HO⟩
  case rest =>
    obtain ⟨HR, HBK2, HO⟩ := hcut
    clear HBK
    go_wp2_with fail
    go_loopw [6] (fun v6 wr => ∃ k : Nat, k ≤ n ∧ v6 = .int .i64 k ∧ wr = wc) (fun v6 _ => n - (intOf v6).toNat)
    case atStart => exact ⟨0, Nat.zero_le _, rfl, rfl⟩
    case round =>
      obtain ⟨k, hk, rfl, rfl⟩ := hrel
      have hvl : ∃ q c2, u3 = .slice q n c2 := by
        rcases HR.out.2 with ⟨h1, h2⟩ | ⟨g, cap, cur, h1, -⟩
        · exact ⟨none, 0, by rw [h1, h2]⟩
        · exact ⟨_, _, h1⟩
      obtain ⟨q, c2, rfl⟩ := hvl
      by_cases hlt : k < n
      · have hltz : (k : Int) < n := by omega
        obtain ⟨b, hbe⟩ : ∃ b, bs[k]? = some b := ⟨_, List.getElem?_eq_getElem (by have := HN.out; omega)⟩
        obtain ⟨A, c⟩ := b
        obtain ⟨g, cap, hv, -, hgc⟩ := row_cell HR.out (j := k) (u := wv (A, c)) (by rw [List.getElem?_map, hbe]; rfl)
        cases hv
        obtain ⟨L, hLl, hE, hL⟩ := HBK2.out k _ hbe
        have hL2 := hL hlt
        have hcb := HC.out _ (List.mem_of_getElem? hbe)
        simp only at hcb hLl hL2
        subst hL2
        have HE := Lib.hid hE
        unfold wv at hgc
        simp only at hgc
        clear hL hE hbe
        go_wp2_with fail
        go_loopw [7] (fun v7 wx => ∃ i : Nat, i ≤ c ∧ v7 = .int .i64 i ∧ wx = wr) (fun v7 _ => c - (intOf v7).toNat)
        case atStart => exact ⟨0, Nat.zero_le _, rfl, rfl⟩
        case round =>
          obtain ⟨i, hi1, rfl, rfl⟩ := hrel
          by_cases hil : i < c
          · have hilz : (i : Int) < c := by omega
            have hcA := HE.out.cell (i := i) (x := .int .i64 (-7 - (k : Int))) (by simp [hil])
            go_wp2
            go_roundw
            case rel => exact ⟨i + 1, by omega, by go_num, by trivial⟩
            case measure => simp [intOf]; omega
          · have hilz : ¬ (i : Int) < c := by omega
            go_wp2
            go_roundw
            case rel => exact ⟨k + 1, by omega, by go_num, by trivial⟩
            case measure => simp [intOf]; omega
      · have hltz : ¬ (k : Int) < n := by omega
        go_wp2
        go_ret
        exact ⟨rfl, HO.out⟩
end Go.Proofs.Ytjobfpnlpfjoeaa
