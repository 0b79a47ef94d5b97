/-
  gridironlow's Apart over lists that may be none. No condition but those typed at each theorem.
-/
import Derived.Test.YtjobfpnlpfjoeaaApart
import Derived.Deep.RegionLaw
namespace Go.Proofs.Ytjobfpnlpfjoeaa
open Go.RowKit

/-- a list as it is kept whole; where it lies says nothing, if it has no room -/
def wn (z : Nat → Option Addr) (b : Nat × Nat) : Value := if b.2 = 0 then .slice (z b.1) 0 0 else .slice (some ⟨b.1, 0, none⟩) b.2 b.2
theorem wn_zero (z : Nat → Option Addr) (A : Nat) : wn z (A, 0) = .slice (z A) 0 0 := rfl
theorem wn_pos {z : Nat → Option Addr} {A c : Nat} (h : 0 < c) : wn z (A, c) = .slice (some ⟨A, 0, none⟩) c c := if_neg (by simp; omega)
theorem wn_one (z : Nat → Option Addr) (b : Nat × Nat) : (wn z b).oneCell' = true := by
  unfold wn
  split <;> rfl
/-- the blocks of those that are not none -/
def bo (bs : List (Nat × Nat)) : List Nat := (bs.filter (fun b => decide (0 < b.2))).map (·.1)
theorem mem_bo {bs : List (Nat × Nat)} {A c : Nat} (h : (A, c) ∈ bs) (hc : 0 < c) : A ∈ bo bs := List.mem_map.2 ⟨(A, c), List.mem_filter.2 ⟨h, by simpa using hc⟩, rfl⟩
theorem bo_mem {bs : List (Nat × Nat)} {A : Nat} (h : A ∈ bo bs) : ∃ c, (A, c) ∈ bs ∧ 0 < c := by
  obtain ⟨⟨A', c⟩, h1, rfl⟩ := List.mem_map.1 h
  obtain ⟨h2, h3⟩ := List.mem_filter.1 h1
  exact ⟨c, h2, by simpa using h3⟩
/-- these lists; up to k they are written full -/
def BN (w : World) (bs : List (Nat × Nat)) (k : Nat) : Prop := ∀ j b, bs[j]? = some b → 0 < b.2 → ∃ L : List Value, L.length = b.2 ∧ EV 3 w b.1 L ∧ (j < k → L = List.replicate b.2 (.int .i64 (-7 - (j : Int))))
theorem BN.grown {X w' : World} {bs : List (Nat × Nat)} {k N : Nat} {o : Option Nat} (h : BN X bs k) (g : X.grownBy w' o) (ho : ∀ k, o = some k → N ≤ k) (hb : ∀ b ∈ bo bs, b < N) : BN w' bs k := fun j b e hp => by
  obtain ⟨L, h1, h2, h3⟩ := h j b e hp
  exact ⟨L, h1, h2.grown g (fun e2 => by have := ho _ e2.symm; have := hb b.1 (mem_bo (List.mem_of_getElem? e) hp); omega), h3⟩
theorem BN.next {X w' : World} {bs : List (Nat × Nat)} {k : Nat} {A c : Nat} {L : List Value} (h : BN X bs k) (hnd : ∀ (i j : Nat) (a b : Nat × Nat), bs[i]? = some a → bs[j]? = some b → 0 < a.2 → 0 < b.2 → a.1 = b.1 → i = j) (hk : bs[k]? = some (A, c)) (hc : 0 < c) (g : Off [A] X w') (hE : EV 3 w' A L) (hl : L.length = c) (hL : L = List.replicate c (.int .i64 (-7 - (k : Int)))) : BN w' bs (k + 1) := fun j b e hp => by
  obtain ⟨L1, h1, h2, h3⟩ := h j b e hp
  by_cases hj : j = k
  · subst hj
    rw [hk] at e
    cases e
    exact ⟨L, hl, hE, fun _ => hL⟩
  · refine ⟨L1, h1, h2.off g ?_, fun h4 => h3 (by omega)⟩
    intro hm
    simp at hm
    exact hj (hnd j k b (A, c) e hk hp hc hm)
theorem BN.next0 {X : World} {bs : List (Nat × Nat)} {k : Nat} {A : Nat} (h : BN X bs k) (hk : bs[k]? = some (A, 0)) : BN X bs (k + 1) := fun j b e hp => by
  obtain ⟨L1, h1, h2, h3⟩ := h j b e hp
  refine ⟨L1, h1, h2, fun h4 => h3 ?_⟩
  by_cases hj : j = k
  · subst hj
    rw [hk] at e
    cases e
    simp at hp
  · omega
theorem step_appN {ops : Array Oper} {o : Oper} {a : Act} {w : World} {K : Act → World → Prop} {Q : Exit → Act → World → Prop} {E : Prop} (z : Nat → Option Addr) (hgd : o.guard = none) (s x : Operand)
    (ho : o.op = .call { callee := .builtin .append, args := #[s, x], argTypes := #[58, 58] }) (base k : Nat) (v : Value) (b : Nat × Nat) (bs : List (Nat × Nat)) (B : Nat)
    (hs : a.eval s = v) (hx : a.eval x = .slice (some ⟨B, 0, none⟩) 1 1) (hc : w.cell? ⟨B, 0, none⟩ = some (wn z b)) (hown : w.ownsRow base 25 1 v k (bs.map (wn z))) (hk : k ≤ 1000) (hb : base ≤ w.heap.size)
    (h : ∀ g cap w', w'.ownsRow base 25 1 (.slice (some ⟨g, 0, none⟩) (k + 1) cap) (k + 1) ((bs ++ [b]).map (wn z)) → w.grownBy w' v.ownBlock → K (a.put o.dst (.slice (some ⟨g, 0, none⟩) (k + 1) cap)) w') :
    if Region.wanted o (yielded ops a.tmps) = true then Oper.wp Try.prog o a w K Q else E := by
  obtain ⟨i0, hi, hz0, hz1, hz2⟩ := info_parts Try.info25
  have hmx : maxLen = 9223372036854775807 := rfl
  refine step_append_lies w hgd s x 58 ho base 25 i0 (.slice none 0 0) 1 24 Try.underlying58 hi hz0 hz1 hz2 rfl (by decide) v k (bs.map (wn z)) hs hown ⟨B, 0, none⟩ 1 1 [wn z b] hx rfl ?_ ?_ (by omega) (by omega) (by omega) hb w.heap.size rfl ?_
  · intro j u hu
    cases j with
    | zero => simp at hu; subst hu; rw [Addr.add_zero']; exact hc
    | succ j => simp at hu
  · intro u hu
    simp at hu
    subst hu
    exact wn_one z b
  · intro g cap w' h1 h2 _ _
    exact h g cap w' (by rw [List.map_append]; exact h1) h2
set_option maxRecDepth 100000 in
set_option maxHeartbeats 6400000 in
theorem apart_anyN (z : Nat → Option Addr) (w : World) (S : Nat) (bs : List (Nat × Nat)) (ls : List (Nat × Nat × Nat)) (hnd : ∀ (i j : Nat) (a b : Nat × Nat), bs[i]? = some a → bs[j]? = some b → 0 < a.2 → 0 < b.2 → a.1 = b.1 → i = j) (hlen : ls.length = bs.length)
    (hls : ∀ j b l, bs[j]? = some b → ls[j]? = some l → l.1 = b.1 ∧ l.2.2 = b.2 ∧ l.2.1 ≤ b.2 ∧ w.cell? ⟨S, j, none⟩ = some (if b.2 = 0 then .slice (z b.1) 0 0 else .slice (some ⟨b.1, 0, none⟩) l.2.1 b.2))
    (hSb : S ∉ bo bs) (hbk : BN w bs 0) (hn : bs.length ≤ 1000) (hc : ∀ b ∈ bs, b.2 ≤ 9223372036854775807) :
    Calls Try.prog 21 #[.slice (some ⟨S, 0, none⟩) bs.length bs.length] w fun e w' => e = .returned (.bool true) ∧ Off (bo bs) w w' := by
  obtain ⟨i0, hi, hz0, hz1, hz2⟩ := info_parts Try.info25
  have hmx : maxLen = 9223372036854775807 := rfl
  obtain ⟨n, hnn⟩ : ∃ n, n = bs.length := ⟨_, rfl⟩
  have HN := Lib.hid hnn
  have HLS := Lib.hid hls
  have HSB := Lib.hid hSb
  have HBN := Lib.hid hbk
  have HND := Lib.hid hnd
  have HC := Lib.hid hc
  have HAL := Lib.hid (show ∀ b ∈ bo bs, b < w.heap.size from fun b hb => by
    obtain ⟨c, hb2, hp⟩ := bo_mem hb
    obtain ⟨j, hj⟩ := List.mem_iff_getElem?.1 hb2
    obtain ⟨L, _, h2, _⟩ := hbk j (b, c) hj hp
    exact h2.lt)
  have HLN := Lib.hid hlen
  rw [← hnn] at hn
  rw [← hnn]
  clear hnd hlen hls hSb hbk hc hnn
  go_enter Try.func21, Try.ntmps21
  go_upto_block 0 with fail
  go_cut [3] (fun v3 wx => Hid (wx.ownsRow w.heap.size 25 1 v3 n (bs.map (wn z))) ∧ Hid (BN wx bs n) ∧ Hid (Off (bo bs) w wx))
  case first =>
    go_wp2_with fail
    go_loopw [3, 4] (fun v3 v4 wr => ∃ k : Nat, k ≤ n ∧ v4 = .int .i64 k ∧ Hid (wr.ownsRow w.heap.size 25 1 v3 k ((bs.take k).map (wn z))) ∧ Hid (BN wr bs k) ∧ Hid (Off (bo bs) w wr)) (fun _ v4 _ => n - (intOf v4).toNat)
    case atStart => exact ⟨0, Nat.zero_le _, rfl, Lib.hid ⟨rfl, .inl ⟨rfl, rfl⟩⟩, HBN, Lib.hid (Off.refl _ _)⟩
    case round =>
      rename_i v3 v4
      clear HBN
      obtain ⟨k, hk, rfl, HR, HBN, HO⟩ := hrel
      by_cases hlt : k < n
      · have hltz : (k : Int) < n := by omega
        obtain ⟨b, hbe⟩ : ∃ b, bs[k]? = some b := ⟨_, List.getElem?_eq_getElem (by have := HN.out; omega)⟩
        obtain ⟨l, hle⟩ : ∃ l, ls[k]? = some l := ⟨_, List.getElem?_eq_getElem (by have := HN.out; have := HLN.out; omega)⟩
        obtain ⟨e1, e2, e3, e4⟩ := HLS.out k b l hbe hle
        obtain ⟨A, c⟩ := b
        obtain ⟨lA, ln, lc⟩ := l
        simp only at e1 e2 e3 e4
        subst e1 e2
        by_cases hlc : 0 < lc
        · skip
          have hcS : wr.cell? ⟨S, k, none⟩ = some (.slice (some ⟨lA, 0, none⟩) ln lc) := HO.out.cell (e4.trans (by rw [if_neg (by omega)])) HSB.out
          have hcb := HC.out _ (List.mem_of_getElem? hbe)
          have hmA : lA ∈ bo bs := mem_bo (List.mem_of_getElem? hbe) hlc
          simp only at hcb
          obtain ⟨L, hLl, hE, -⟩ := HBN.out k _ hbe hlc
          have HBE := Lib.hid hbe
          have HMA := Lib.hid hmA
          have hss : ∀ X, (Instr.slice 25 (.slice (some ⟨lA, 0, none⟩) ln lc) none (some (.int .i64 lc)) none).run Try.prog X = .ok (.slice (some ⟨lA, 0, none⟩) lc lc) X := by
            intro X
            obtain ⟨j0, hj, hy0, hy1, hy2⟩ := info_parts Try.info3
            simp [Instr.slice, run_underlying Try.underlying25, Instr.sliceBounds, Instr.sliceBound, asIntOf, sizeOf, typeInfo, hj, Addr.add_zero']
          clear hbe hle e4 hmA
          go_upto_region 5 with fail
          go_cut [3] (fun v3 wx => ∃ g cap, v3 = .slice (some ⟨g, 0, none⟩) (k + 1) cap ∧ Hid (wx.ownsRow w.heap.size 25 1 (.slice (some ⟨g, 0, none⟩) (k + 1) cap) (k + 1) ((bs.take (k + 1)).map (wn z))) ∧ Hid (BN wx bs k) ∧ Hid (Off (bo bs) w wx))
          case first =>
            have hoA := HR.out.alloc (.cells #[.slice (some ⟨lA, 0, none⟩) lc lc] 25)
            have HOA := Lib.hid hoA
            have hsz : w.heap.size ≤ wr.heap.size := HO.out.size
            clear hoA
            go_region_law (refine step_appN z rfl (.tmp 14) (.tmp 25) rfl w.heap.size k u3 (lA, lc) (bs.take k) wr.heap.size (by simp [Act.eval]) (by simp [Act.eval]) (by rw [wn_pos hlc]; simp) (by exact HOA.out) (by omega) (by simp <;> omega) ?_; intro g cap w' h1 h2; have HG1 := Lib.hid h1; have HG2 := Lib.hid (grown_drew ((World.grownBy_alloc wr.drew _ _).trans h2)); clear h1 h2)
            all_goals go_wp2_with fail
            all_goals go_meet
            all_goals (
              have ht : bs.take (k + 1) = bs.take k ++ [(lA, lc)] := by rw [List.take_add_one, HBE.out]; rfl
              rw [ht]
              exact ⟨g, cap, rfl, HG1, Lib.hid (HBN.out.grown HG2.out (own_geB HR.out) HAL.out), Lib.hid (HO.out.grown HG2.out (own_geB HR.out))⟩)
          case rest =>
            obtain ⟨g, cap, rfl, HR2, HBN2, HO2⟩ := hcut
            clear HR HBN HO hcS hE hss
            have hrc := row_cell HR2.out (j := k) (u := wn z (lA, lc)) (by rw [List.getElem?_map, List.getElem?_take, if_pos (by omega), HBE.out]; rfl)
            rw [wn_pos hlc] at hrc
            obtain ⟨g1, cap1, hv, hgb, hgc⟩ := hrc
            cases hv
            have hAlt := HAL.out _ HMA.out
            have hgA : g ∉ [lA] := by simp; omega
            obtain ⟨L, hLl, hE, -⟩ := HBN2.out k _ HBE.out hlc
            have HE := Lib.hid hE
            have HGC := Lib.hid hgc
            clear hE hgc hgb
            go_wp2_with fail
            go_loopw [5] (fun v5 wr2 => ∃ (i : Nat) (L : List Value), v5 = .int .i64 i ∧ i ≤ lc ∧ L.length = lc ∧ Hid (EV 3 wr2 lA L) ∧ Hid (L.take i = List.replicate i (.int .i64 (-7 - (k : Int)))) ∧ Hid (Off [lA] wc wr2)) (fun v5 _ => lc - (intOf v5).toNat)
            case atStart => exact ⟨0, L, rfl, Nat.zero_le _, hLl, HE, Lib.hid rfl, Lib.hid (Off.refl _ _)⟩
            case round =>
              clear HE hLl L
              obtain ⟨i, L, rfl, hi1, hLl, HE, HL, HO3⟩ := hrel
              have hcg : wr.cell? ⟨g, k, none⟩ = some (.slice (some ⟨lA, 0, none⟩) lc lc) := HO3.out.cell HGC.out hgA
              by_cases hil : i < lc
              · have hilz : (i : Int) < lc := by omega
                obtain ⟨x, hx⟩ : ∃ x, L[i]? = some x := ⟨_, List.getElem?_eq_getElem (by omega)⟩
                have hcA := HE.out.cell hx
                have hfA := HE.out.free i
                have h1 := HE.out.set i (.int .i64 (-7 - (k : Int)))
                have h2 := HO3.out.set ⟨lA, i, none⟩ (.int .i64 (-7 - (k : Int))) (.inl (by simp))
                have H1 := Lib.hid h1
                have H2 := Lib.hid h2
                have H3 := Lib.hid (rep_set lc i (.int .i64 (-7 - (k : Int))) L hLl hil HL.out)
                have hLs : (L.set i (.int .i64 (-7 - (k : Int)))).length = lc := by simpa using hLl
                clear h1 h2 hx
                go_wp2
                go_roundw
                case rel => exact ⟨i + 1, _, by go_num, by omega, hLs, H1, H3, H2⟩
                case measure => simp [intOf]; omega
              · have hilz : ¬ (i : Int) < lc := by omega
                have hLr : L = List.replicate lc (.int .i64 (-7 - (k : Int))) := by
                  have := HL.out
                  rw [List.take_of_length_le (by omega), show i = lc by omega] at this
                  exact this
                have HLR := Lib.hid hLr
                clear hLr
                go_wp2
                go_roundw
                case rel => exact ⟨k + 1, by omega, by go_num, Lib.hid (row_off HR2.out HO3.out (by simpa using hAlt)), Lib.hid (HBN2.out.next HND.out HBE.out hlc HO3.out HE.out hLl HLR.out), Lib.hid (HO2.out.trans (HO3.out.mono (fun q _ hq => by simp at hq; subst hq; exact HMA.out)))⟩
                case measure => simp [intOf]; omega
        · obtain rfl : lc = 0 := by omega
          have hcS : wr.cell? ⟨S, k, none⟩ = some (.slice (z lA) 0 0) := HO.out.cell (e4.trans (by rw [if_pos rfl])) HSB.out
          have HBE := Lib.hid hbe
          have hss : ∀ X, (Instr.slice 25 (.slice (z lA) 0 0) none (some (.int .i64 0)) none).run Try.prog X = .ok (.slice (z lA) 0 0) X := fun X => sl_to X (z lA) 0 0 0 (Nat.le_refl _)
          clear hbe hle e4
          go_upto_region 5 with fail
          go_cut [3] (fun v3 wx => ∃ g cap, v3 = .slice (some ⟨g, 0, none⟩) (k + 1) cap ∧ Hid (wx.ownsRow w.heap.size 25 1 (.slice (some ⟨g, 0, none⟩) (k + 1) cap) (k + 1) ((bs.take (k + 1)).map (wn z))) ∧ Hid (BN wx bs k) ∧ Hid (Off (bo bs) w wx))
          case first =>
            have hoA := HR.out.alloc (.cells #[.slice (z lA) 0 0] 25)
            have HOA := Lib.hid hoA
            have hsz : w.heap.size ≤ wr.heap.size := HO.out.size
            clear hoA
            go_region_law (refine step_appN z rfl (.tmp 14) (.tmp 25) rfl w.heap.size k u3 (lA, 0) (bs.take k) wr.heap.size (by simp [Act.eval]) (by simp [Act.eval]) (by rw [wn_zero]; simp) (by exact HOA.out) (by omega) (by simp <;> omega) ?_; intro g cap w' h1 h2; have HG1 := Lib.hid h1; have HG2 := Lib.hid (grown_drew ((World.grownBy_alloc wr.drew _ _).trans h2)); clear h1 h2)
            all_goals go_wp2_with fail
            all_goals go_meet
            all_goals (
              have ht : bs.take (k + 1) = bs.take k ++ [(lA, 0)] := by rw [List.take_add_one, HBE.out]; rfl
              rw [ht]
              exact ⟨g, cap, rfl, HG1, Lib.hid (HBN.out.grown HG2.out (own_geB HR.out) HAL.out), Lib.hid (HO.out.grown HG2.out (own_geB HR.out))⟩)
          case rest =>
            obtain ⟨g, cap, rfl, HR2, HBN2, HO2⟩ := hcut
            clear HR HBN HO hcS hss
            have hrc := row_cell HR2.out (j := k) (u := wn z (lA, 0)) (by rw [List.getElem?_map, List.getElem?_take, if_pos (by omega), HBE.out]; rfl)
            rw [wn_zero] at hrc
            obtain ⟨g1, cap1, hv, hgb, hgc⟩ := hrc
            cases hv
            clear hgb
            go_wp2_with fail
            go_loopw [5] (fun v5 wr2 => v5 = .int .i64 0 ∧ wr2 = wc) (fun _ _ => 0)
            case atStart => exact ⟨rfl, rfl⟩
            case round =>
              obtain ⟨rfl, rfl⟩ := hrel
              go_wp2
              go_roundw
              case rel => exact ⟨k + 1, by omega, by go_num, HR2, Lib.hid (HBN2.out.next0 HBE.out), HO2⟩
              case measure => simp [intOf]; omega
      · have hltz : ¬ (k : Int) < n := by omega
        obtain rfl : k = n := by omega
        go_wp2_with fail
        go_meet
        rw [List.take_of_length_le (by have := HN.out; omega)] at HR
        exact ⟨HR, HBN, HO⟩
  case rest =>
    obtain ⟨HR, HBN2, HO⟩ := hcut
    clear HBN
    go_wp2_with fail
    go_loopw [6] (fun v6 wr => ∃ k : Nat, k ≤ n ∧ v6 = .int .i64 k ∧ wr = wc) (fun v6 _ => n - (intOf v6).toNat)
    case atStart => exact ⟨0, Nat.zero_le _, rfl, rfl⟩
    case round =>
      obtain ⟨k, hk, rfl, rfl⟩ := hrel
      have hvl : ∃ q c2, u3 = .slice q n c2 := by
        rcases HR.out.2 with ⟨h1, h2⟩ | ⟨g, cap, cur, h1, -⟩
        · exact ⟨none, 0, by rw [h1, h2]⟩
        · exact ⟨_, _, h1⟩
      obtain ⟨q, c2, rfl⟩ := hvl
      by_cases hlt : k < n
      · have hltz : (k : Int) < n := by omega
        obtain ⟨b, hbe⟩ : ∃ b, bs[k]? = some b := ⟨_, List.getElem?_eq_getElem (by have := HN.out; omega)⟩
        obtain ⟨A, c⟩ := b
        by_cases hcp : 0 < c
        · skip
          obtain ⟨g, cap, hv, -, hgc⟩ := row_cell HR.out (j := k) (u := wn z (A, c)) (by rw [List.getElem?_map, hbe]; rfl)
          cases hv
          obtain ⟨L, hLl, hE, hL⟩ := HBN2.out k _ hbe hcp
          have hL2 := hL hlt
          have hcb := HC.out _ (List.mem_of_getElem? hbe)
          simp only at hcb hLl hL2
          subst hL2
          have HE := Lib.hid hE
          rw [wn_pos hcp] at hgc
          clear hL hE hbe
          go_wp2_with fail
          go_loopw [7] (fun v7 wx => ∃ i : Nat, i ≤ c ∧ v7 = .int .i64 i ∧ wx = wr) (fun v7 _ => c - (intOf v7).toNat)
          case atStart => exact ⟨0, Nat.zero_le _, rfl, rfl⟩
          case round =>
            obtain ⟨i, hi1, rfl, rfl⟩ := hrel
            by_cases hil : i < c
            · have hilz : (i : Int) < c := by omega
              have hcA := HE.out.cell (i := i) (x := .int .i64 (-7 - (k : Int))) (by simp [hil])
              go_wp2
              go_roundw
              case rel => exact ⟨i + 1, by omega, by go_num, by trivial⟩
              case measure => simp [intOf]; omega
            · have hilz : ¬ (i : Int) < c := by omega
              go_wp2
              go_roundw
              case rel => exact ⟨k + 1, by omega, by go_num, by trivial⟩
              case measure => simp [intOf]; omega
        · obtain rfl : c = 0 := by omega
          obtain ⟨g, cap, hv, -, hgc⟩ := row_cell HR.out (j := k) (u := wn z (A, 0)) (by rw [List.getElem?_map, hbe]; rfl)
          cases hv
          rw [wn_zero] at hgc
          clear hbe
          go_wp2_with fail
          go_loopw [7] (fun v7 wx => v7 = .int .i64 0 ∧ wx = wr) (fun _ _ => 0)
          case atStart => exact ⟨rfl, rfl⟩
          case round =>
            obtain ⟨rfl, rfl⟩ := hrel
            go_wp2
            go_roundw
            case rel => exact ⟨k + 1, by omega, by go_num, by trivial⟩
            case measure => simp [intOf]; omega
      · have hltz : ¬ (k : Int) < n := by omega
        go_wp2
        go_ret
        exact ⟨rfl, HO.out⟩
end Go.Proofs.Ytjobfpnlpfjoeaa
