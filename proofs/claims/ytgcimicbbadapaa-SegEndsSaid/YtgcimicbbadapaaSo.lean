/-
  A tree of spans: over, Count, Stab. No condition but those typed at each theorem.
-/
import Derived.Test.YtgcimicbbadapaaSm
import Derived.Test.YtgcimicbbadapaaTold
namespace Go.Proofs.Ytgcimicbbadapaa
open Go.RowKit Go.Sort

section
variable {X X' : World} {g : Nat} {ev : Value} {eb : List Nat} {gf gn gm : Nat} {E : List Int} {NV : List Value} {NM : List (List Int)} {D : List En} {wt : Int}

set_option maxRecDepth 100000 in
set_option maxHeartbeats 800000 in
theorem over_any (h : SegM X g ev eb gf gn gm E NV NM D wt) (hU : Up E) (hl : E.length ≤ 800) (x : Int) :
    Calls Try.prog 34 #[.pointer (some ⟨g, 0, none⟩), .int .i64 x] X fun e w' => ∃ p c, e = .returned (.tuple #[.slice p (px E x).length c, .int .i64 ((firstP E x).2 + (px E x).length : Nat)]) ∧ NS w' p .i64 (ints (px E x)) ∧ Below X.heap.size X w' := by
  have HS := Lib.hid (slot_any h hU hl x)
  have hfew := px_few hU x (n := 400) (by omega) (by omega)
  have hlg : lgN (4 * 400 + 4) = 11 := by decide
  rw [hlg] at hfew
  have HP : Hid (∀ Y, Below X.heap.size X Y → Calls Try.prog 57 #[.pointer (some ⟨gf, 0, none⟩), .int .i64 (slI E x)] Y fun e w' => ∃ p c er, e = .returned (.tuple #[.slice p (px E x).length c, .int .i64 er]) ∧ NS w' p .i64 (ints (px E x)) ∧ Below Y.heap.size Y w') := Lib.hid (fun Y hb => by
    have hY := (h.bel hb).fr
    rcases slI_range hU x with hx | ⟨hx0, hx⟩
    · rw [hx, show px E x = [] by unfold px; rw [if_pos (by omega)]]
      refine (FPath_bad Y gf (ms E) 0 _ hY (-1) (by omega)).mono ?_
      rintro e w' ⟨rfl, rfl⟩
      exact ⟨none, 0, 2, rfl, .inl rfl, Below.refl _ _⟩
    · obtain ⟨k, hk⟩ : ∃ k : Nat, slI E x = k := ⟨(slI E x).toNat, by omega⟩
      rw [show px E x = pt k (tr (ms E)) 0 0 by unfold px ptF; rw [if_neg (by omega), hk]; rfl, hk]
      refine (FPath_any Y gf (ms E) 0 _ hY k (by omega) (by unfold ms; omega)).mono ?_
      rintro e w' ⟨v, rfl, hr, hb2⟩
      obtain ⟨hn, p, c, rfl, hns, -, -⟩ := row_u hr
      exact ⟨p, c, 0, rfl, hns, hb2⟩)
  have c2 : X.cell? ⟨g, 2, none⟩ = some (.pointer (some ⟨gf, 0, none⟩)) := h.seg.cell (i := 2) rfl
  clear h hU hlg
  generalize slI E x = sv at *
  generalize hpl : px E x = ks at *
  generalize (firstP E x).2 = lk at *
  generalize hkl : ks.length = n at *
  clear hpl hkl
  go_enter Try.func34, Try.ntmps34
  go_wp2_with (first
    | (go_at_call 52; (with_reducible refine HS.out.mono ?_); rintro e w1 ⟨rfl, hb⟩; have c2' := (hb.cell (World.block_lt_of_cell? X _ c2)).trans c2; have HB := Lib.hid hb; clear hb c2)
    | (go_at_call 57; (with_reducible refine (HP.out _ HB.out).mono ?_); rintro e w2 ⟨p, c, er, rfl, hn, hb⟩; have HN := Lib.hid hn; have HB2 := Lib.hid (HB.out.trans (hb.mono HB.out.size)); clear hb hn))
  go_ret2
  refine ⟨p, c, ?_, HN.out, HB2.out⟩
  simp only [Int.natCast_add]
  rfl
set_option maxRecDepth 100000 in
theorem sCount_no (X : World) (x : Int) :
    Calls Try.prog 20 #[.pointer none, .int .i64 x] X fun e w' => e = .returned (.tuple #[.int .i64 0, .int .i64 0]) ∧ w' = X := by
  have HM := Lib.hid (smade_no X)
  go_enter Try.func20, Try.ntmps20
  go_wp2_with (go_at_call 30; (with_reducible refine HM.out.mono ?_); rintro e w1 ⟨rfl, rfl⟩)
  go_ret2
  exact ⟨rfl, rfl⟩
set_option maxRecDepth 100000 in
theorem sStab_no (X : World) (x : Int) :
    Calls Try.prog 19 #[.pointer none, .int .i64 x] X fun e w' => e = .returned (.tuple #[.slice none 0 0, .int .i64 0]) ∧ w' = X := by
  have HM := Lib.hid (smade_no X)
  go_enter Try.func19, Try.ntmps19
  go_wp2_with (go_at_call 30; (with_reducible refine HM.out.mono ?_); rintro e w1 ⟨rfl, rfl⟩)
  go_ret2
  exact ⟨rfl, rfl⟩
theorem tld_le (NM : List (List Int)) (ks : List Nat) (j : Nat) : (tld NM (ks.take j)).length ≤ (tld NM ks).length := by
  conv => rhs; rw [← List.take_append_drop j ks]
  unfold tld
  rw [List.flatMap_append, List.length_append]
  omega
theorem tld_next (NM : List (List Int)) {ks : List Nat} {j k : Nat} (e : ks[j]? = some k) : tld NM (ks.take (j + 1)) = tld NM (ks.take j) ++ nm NM k := by
  have h1 := (List.getElem?_eq_some_iff.1 e)
  rw [List.take_add_one, e]
  exact tld_snoc _ _ _
/-- the names at a node, as the program finds them -/
theorem SegM.names (h : SegM X g ev eb gf gn gm E NV NM D wt) {k : Nat} (hk : k < NV.length) : ∃ p c, X.cell? ⟨gn, k, none⟩ = some (.slice p (nm NM k).length c) ∧ NS X p .u32 (nm NM k) ∧ (p = none → c = 0) := by
  have e := List.getElem?_eq_getElem hk
  obtain ⟨-, p, c, hv, hn, hc, -⟩ := row_u (h.row k _ e)
  exact ⟨p, c, by rw [h.nms.cell e, hv], hn, hc⟩
set_option maxRecDepth 100000 in
set_option maxHeartbeats 1600000 in
theorem sCount_yes (h : SegM X g ev eb gf gn gm E NV NM D wt) (hU : Up E) (hl : E.length ≤ 800) (hN : NM.length = 2 * ms E - 1) (x : Int) (ht : (tld NM (px E x)).length ≤ 400) :
    Calls Try.prog 20 #[.pointer (some ⟨g, 0, none⟩), .int .i64 x] X fun e w' => e = .returned (.tuple #[.int .i64 ((tld NM (px E x)).length : Nat), .int .i64 ((firstP E x).2 + (px E x).length : Nat)]) ∧ Below X.heap.size X w' := by
  have HM := Lib.hid (smade_yes h)
  have HO := Lib.hid (over_any h hU hl x)
  have HX := Lib.hid (fun Y (hb : Below X.heap.size X Y) => h.bel hb)
  have hnl := h.nlen
  have HK := Lib.hid (fun k (hk : k ∈ px E x) => (by have := px_lt hU hk; omega : k < NV.length))
  have HT := Lib.hid (fun j => Nat.le_trans (tld_le NM (px E x) j) ht)
  have HE := Lib.hid (fun j k (e : (px E x)[j]? = some k) => tld_next NM e)
  have hfew := px_few hU x (n := 400) (by omega) (by omega)
  have hlg : lgN (4 * 400 + 4) = 11 := by decide
  rw [hlg] at hfew
  clear h hU hlg hN
  obtain ⟨m, hm⟩ : ∃ m, m = (px E x).length := ⟨_, rfl⟩
  have HF := Lib.hid (show tld NM (px E x) = tld NM ((px E x).take m) by rw [hm, List.take_length])
  rw [HF.out] at ht ⊢
  rw [← hm] at HO hfew ⊢
  have HMM := Lib.hid hm
  clear hm HF
  generalize px E x = ks at *
  generalize (firstP E x).2 = lk at *
  go_enter Try.func20, Try.ntmps20
  go_wp2_with (first
    | (go_at_call 30; (with_reducible refine HM.out.mono ?_); rintro e w1 ⟨rfl, rfl⟩)
    | (go_at_call 34; (with_reducible refine HO.out.mono ?_); rintro e w2 ⟨p, c, rfl, hn, hb⟩; have HN := Lib.hid hn; have HB := Lib.hid hb; clear hb hn))
  go_loopw [8, 22] (fun s i wr => ∃ j : Nat, j ≤ m ∧ i = .int .i64 j ∧ s = .int .i64 ((tld NM (ks.take j)).length : Nat) ∧ wr = w2) (fun _ i _ => m - (intOf i).toNat)
  case atStart => exact ⟨0, Nat.zero_le _, rfl, rfl, rfl⟩
  case round =>
    clear HM HO
    obtain ⟨j, hj, rfl, rfl, rfl⟩ := hrel
    by_cases hlt : j < m
    · have hltz : (j : Int) < m := by omega
      obtain ⟨k, hk⟩ : ∃ k, ks[j]? = some k := ⟨_, List.getElem?_eq_getElem (by have := HMM.out; omega)⟩
      have hkn := HK.out k (List.mem_of_getElem? hk)
      have hknz : (k : Int) < (NV.length : Nat) := by omega
      have hs := HX.out _ HB.out
      have c3 : wr.cell? ⟨g, 3, none⟩ = some (.slice (some ⟨gn, 0, none⟩) NV.length NV.length) := hs.seg.cell (i := 3) rfl
      obtain ⟨pk, ck, ck', -, -⟩ := hs.names hkn
      have he := HE.out j k hk
      have ht1 := HT.out (j + 1)
      rw [he, List.length_append] at ht1
      have HE1 := Lib.hid he
      have hki : (ints ks)[j]? = some (k : Int) := by simp [ints, hk]
      rcases HN.out with h0 | ⟨b, off, rfl, h1⟩
      · rw [h0] at hki; simp at hki
      · have cx := h1 j k hki
        clear h1 hki hs hk he
        generalize hn1 : (tld NM (ks.take j)).length = n1 at *
        generalize hn2 : (nm NM k).length = n2 at *
        have HN1 := Lib.hid hn1
        have HN2 := Lib.hid hn2
        clear hn1 hn2
        generalize NV.length = nn at *
        go_wp2
        go_roundw
        case rel => exact ⟨j + 1, by omega, by go_num, by rw [HE1.out, List.length_append, HN1.out, HN2.out]; go_num, by first | trivial | rfl⟩
        case measure => simp [intOf]; omega
    · have hltz : ¬ (j : Int) < m := by omega
      have hjm : j = m := by omega
      subst hjm
      go_wp2
      go_ret2
      exact ⟨rfl, HB.out⟩
set_option maxRecDepth 100000 in
set_option maxHeartbeats 3200000 in
theorem sStab_yes (h : SegM X g ev eb gf gn gm E NV NM D wt) (hU : Up E) (hl : E.length ≤ 800) (hN : NM.length = 2 * ms E - 1) (x : Int) (ht : (tld NM (px E x)).length ≤ 400) :
    Calls Try.prog 19 #[.pointer (some ⟨g, 0, none⟩), .int .i64 x] X fun e w' => (∃ r, e = .returned (.tuple #[r, .int .i64 ((firstP E x).2 + (px E x).length + (tld NM (px E x)).length : Nat)]) ∧ TL w' r (tld NM (px E x)).length (nsort (tld NM (px E x)))) ∧ Below X.heap.size X w' := by
  have HM := Lib.hid (smade_yes h)
  have HO := Lib.hid (over_any h hU hl x)
  have HX := Lib.hid (fun Y (hb : Below X.heap.size X Y) => h.bel hb)
  have hnl := h.nlen
  have HK := Lib.hid (fun k (hk : k ∈ px E x) => (by have := px_lt hU hk; omega : k < NV.length))
  have HT := Lib.hid (fun j => Nat.le_trans (tld_le NM (px E x) j) ht)
  have HE := Lib.hid (fun j k (e : (px E x)[j]? = some k) => tld_next NM e)
  have hfew := px_few hU x (n := 400) (by omega) (by omega)
  have hlg : lgN (4 * 400 + 4) = 11 := by decide
  rw [hlg] at hfew
  clear h hU hlg hN
  obtain ⟨m, hm⟩ : ∃ m, m = (px E x).length := ⟨_, rfl⟩
  have HF := Lib.hid (show tld NM (px E x) = tld NM ((px E x).take m) by rw [hm, List.take_length])
  rw [HF.out] at ht ⊢
  rw [← hm] at HO hfew ⊢
  have HMM := Lib.hid hm
  clear hm HF
  generalize px E x = ks at *
  generalize (firstP E x).2 = lk at *
  go_enter Try.func19, Try.ntmps19
  go_wp2_with (first
    | (go_at_call 30; (with_reducible refine HM.out.mono ?_); rintro e w1 ⟨rfl, rfl⟩)
    | (go_at_call 34; (with_reducible refine HO.out.mono ?_); rintro e w2 ⟨p, c, rfl, hn, hb⟩; have HN := Lib.hid hn; have HB := Lib.hid hb; clear hb hn))
  go_loopw [8, 22] (fun s i wr => ∃ j : Nat, j ≤ m ∧ i = .int .i64 j ∧ Hid (wr.ownsRow w2.heap.size 32 1 s (tld NM (ks.take j)).length ((tld NM (ks.take j)).map (Value.int .u32))) ∧ Hid (Below w2.heap.size w2 wr)) (fun _ i _ => m - (intOf i).toNat)
  case atStart => exact ⟨0, Nat.zero_le _, rfl, Lib.hid (World.ownsRow_nil _ _ _ _), Lib.hid (Below.refl _ _)⟩
  case round =>
    clear HM HO
    obtain ⟨j, hj, rfl, HA, HR⟩ := hrel
    have HB3 := Lib.hid (HB.out.trans (HR.out.mono HB.out.size))
    by_cases hlt : j < m
    · have hltz : (j : Int) < m := by omega
      obtain ⟨k, hk⟩ : ∃ k, ks[j]? = some k := ⟨_, List.getElem?_eq_getElem (by have := HMM.out; omega)⟩
      have hkn := HK.out k (List.mem_of_getElem? hk)
      have hknz : (k : Int) < (NV.length : Nat) := by omega
      have hs := HX.out _ HB3.out
      have c3 : wr.cell? ⟨g, 3, none⟩ = some (.slice (some ⟨gn, 0, none⟩) NV.length NV.length) := hs.seg.cell (i := 3) rfl
      obtain ⟨pk, ck, ck', hnk, hck⟩ := hs.names hkn
      have HSRC := Lib.hid (hnk.src hck)
      have he := HE.out j k hk
      have ht1 := HT.out (j + 1)
      rw [he, List.length_append] at ht1
      have HE1 := Lib.hid he
      have hki : (ints ks)[j]? = some (k : Int) := by simp [ints, hk]
      rcases HN.out.keep HR.out with h0 | ⟨b, off, rfl, h1⟩
      · rw [h0] at hki; simp at hki
      · have cx := h1 j k hki
        have hsz := HR.out.size
        clear h1 hki hs hk he hnk hck
        generalize hn1 : (tld NM (ks.take j)).length = n1 at *
        generalize hn2 : (nm NM k).length = n2 at *
        have HN1 := Lib.hid hn1
        have HN2 := Lib.hid hn2
        clear hn1 hn2
        generalize NV.length = nn at *
        go_wp2_with (at_builtin; refine wpList_list Try.info32 rfl (by decide) (by decide) Try.underlying41 _ rfl (.tmp 26) (.tmp 33) rfl w2.heap.size _ n1 _ rfl HA.out pk n2 ck ((nm NM k).map (Value.int .u32)) rfl (by rw [List.length_map, HN2.out, Nat.mul_one]) HSRC.out (ints_one _ _) (by omega) hsz ?_; intro v' w' h1 h2 _; rw [← List.map_append, ← HE1.out] at h1; have H1 := Lib.hid h1; have H4 := Lib.hid (HR.out.grown h2 hsz (fun q e => own_geB HA.out q e)); clear h1 h2)
        go_roundw
        case rel => exact ⟨j + 1, by omega, by go_num, Lib.hid (by have := H1.out; rw [show n1 + n2 = (tld NM (ks.take (j + 1))).length by rw [HE1.out, List.length_append, HN1.out, HN2.out]] at this; exact this), H4⟩
        case measure => simp [intOf]; omega
    · have hltz : ¬ (j : Int) < m := by omega
      have hjm : j = m := by omega
      subst hjm
      have hge := own_geB HA.out
      have HTO := Lib.hid (told_any _ _ _ _ HA.out (by omega))
      have ha := HA.out
      obtain ⟨hn, q, cq, rfl, -, -, -⟩ := row_u ha
      have HG := Lib.hid hge
      clear ha hge HA hn
      go_wp2_with (go_at_call 35; (with_reducible refine HTO.out.mono ?_); rintro e w3 ⟨rfl, h3, h4⟩; have H3 := Lib.hid h3; have H4 := Lib.hid h4; clear h3 h4)
      go_ret2
      refine ⟨⟨.slice q _ cq, ?_, H3.out⟩, HB3.out.trans ((H4.out.below HR.out.size (fun k hk => HG.out k (by simpa using hk))).mono HB.out.size)⟩
      simp only [Int.natCast_add]
      rfl
end
end Go.Proofs.Ytgcimicbbadapaa
