/-
  A tree of spans: Build. No condition but those typed at each theorem.
-/
import Derived.Test.YtgcimicbbadapaaSv
import Derived.Test.YtgcimicbbadapaaSr
import Derived.Test.YtgcimicbbadapaaSe
namespace Go.Proofs.Ytgcimicbbadapaa
open Go.RowKit Go.Sort

/-- at how many nodes these stand, all together -/
def wtD (E : List Int) (A : List S3) : Nat := (A.map (fun s => (cs E s).length)).sum
theorem wtD_snoc (E : List Int) (A : List S3) (s : S3) : wtD E (A ++ [s]) = wtD E A + (cs E s).length := by simp [wtD]
theorem wtD_few {E : List Int} (h : Up E) {n : Nat} (hn : E.length ≤ 2 * n) (hn2 : n ≤ 400) (A : List S3) (hA : ∀ s ∈ A, s.1 ∈ E ∧ s.2.1 ∈ E ∧ s.1 ≤ s.2.1) : A.length ≤ wtD E A ∧ wtD E A ≤ A.length * (2 * lgN (4 * n + 4)) := by
  induction A using snoc_rec with
  | h0 => simp [wtD]
  | h1 l a ih =>
    obtain ⟨i1, i2⟩ := ih (fun s hs => hA s (by simp [hs]))
    obtain ⟨h1, h2, h3⟩ := hA a (by simp)
    obtain ⟨k1, k2⟩ := cs_few h h1 h2 h3 hn hn2
    rw [wtD_snoc, List.length_append, Nat.add_mul]
    simp only [List.length_cons, List.length_nil]
    omega
theorem wtD_le {E : List Int} (h : Up E) (hn : E.length ≤ 800) (A : List S3) (hA : ∀ s ∈ A, s.1 ∈ E ∧ s.2.1 ∈ E ∧ s.1 ≤ s.2.1) (hl : A.length ≤ 400) : wtD E A ≤ 8800 := by
  have := (wtD_few h (n := 400) (by omega) (by omega) A hA).2
  rw [show lgN (4 * 400 + 4) = 11 by decide] at this
  omega
theorem SgI.none {E : List Int} (h : Up E) : SgI E (List.replicate (2 * ms E - 1) []) [] := by
  refine ⟨h, by simp, Rg.nil, by simp, by simp, by simp, fun k p i hi => ?_⟩
  have : nm (List.replicate (2 * ms E - 1) ([] : List Int)) k = [] := by
    unfold nm
    rw [List.getD_eq_getElem?_getD, List.getElem?_replicate]
    split <;> rfl
  rw [this] at hi
  simp at hi
theorem SgI.all {E : List Int} {NM : List (List Int)} {D : List En} (h : SgI E NM D) : ∀ s ∈ D.map (·.1), s.1 ∈ E ∧ s.2.1 ∈ E ∧ s.1 ≤ s.2.1 := fun s hs => by
  have h3 := h.rg.1 s hs
  obtain ⟨d, hd, rfl⟩ := List.mem_map.1 hs
  exact ⟨(h.ends d hd).1, (h.ends d hd).2, h3⟩
/-- at g lies a tree over the ends E, of these spans, all of it behind X -/
def TreeAt (X wr : World) (g : Nat) (E : List Int) (A : List S3) : Prop :=
  ∃ ev eb gf gn gm NV NM D, SegM wr g ev eb gf gn gm E NV NM D (wtD E A : Nat) ∧ SgI E NM D ∧ D.map (·.1) = A ∧ ∀ b ∈ bks g eb gf gn gm NV D, X.heap.size ≤ b
theorem TreeAt.bel {X wr w' : World} {g : Nat} {E : List Int} {A : List S3} (h : TreeAt X wr g E A) (hb : Below wr.heap.size wr w') : TreeAt X w' g E A := by
  obtain ⟨ev, eb, gf, gn, gm, NV, NM, D, h1, h2⟩ := h
  exact ⟨ev, eb, gf, gn, gm, NV, NM, D, h1.bel hb, h2⟩
theorem TreeAt.put {X wr : World} {g : Nat} {E : List Int} {A : List S3} (h : TreeAt X wr g E A) (hx : Below X.heap.size X wr) (hl : E.length ≤ 800) (hA : A.length < 400) {s : S3} (hw : Wf3 s) (hr : Rg (A ++ [s])) (h1 : s.1 ∈ E) (h2 : s.2.1 ∈ E) :
    Calls Try.prog 29 #[.pointer (some ⟨g, 0, none⟩), tv s] wr fun e w' => e = .returned (.tuple #[]) ∧ TreeAt X w' g E (A ++ [s]) ∧ Below X.heap.size X w' := by
  obtain ⟨ev, eb, gf, gn, gm, NV, NM, D, hM, hI, hD, hb⟩ := h
  have h3 : s.1 ≤ s.2.1 := hr.1 s (by simp)
  have hf : ∀ d ∈ D, d.1.2.2 ≠ s.2.2 := fun d hd e => by
    have h4 := hr.2
    rw [List.map_append, List.nodup_append] at h4
    exact h4.2.2 d.1.2.2 (List.mem_map.2 ⟨d.1, by rw [← hD]; exact List.mem_map.2 ⟨d, hd, rfl⟩, rfl⟩) s.2.2 (by simp) e
  have hlen : D.length = A.length := by rw [← hD]; simp
  have hwt := wtD_le hI.up hl A (hD ▸ hI.all) (by omega)
  refine (put_any hM hI hl hw h1 h2 h3 hf (by omega) (by omega)).mono ?_
  rintro e w' ⟨rfl, NV', sv, hM', hO, hN⟩
  refine ⟨rfl, ⟨ev, eb, gf, gn, gm, NV', _, _, ?_, hI.put sv h1 h2 h3 hf, by simp [hD], fun b hb' => ?_⟩, hx.trans (hO.below hx.size hb)⟩
  · rw [wtD_snoc, Int.natCast_add]
    exact hM'
  · rcases hN b hb' with h | h
    · exact hb b h
    · exact Nat.le_trans hx.size h
/-- what Build hands back -/
def BuiltG (w : World) (L : List S3) (e : Ending) (w' : World) : Prop :=
  Below w.heap.size w w' ∧ ((Rg L ∧ ∃ g E, e = .returned (.tuple #[.pointer (some ⟨g, 0, none⟩), .int .i64 0]) ∧ TreeAt w w' g E L ∧ E.length ≤ 2 * L.length) ∨ (¬ Rg L ∧ e = .returned (.tuple #[.pointer none, .int .i64 2])))
theorem BuiltG.no {w w' : World} {L : List S3} (hb : Below w.heap.size w w') (h : ¬ Rg L) : BuiltG w L (.returned (.tuple #[.pointer none, .int .i64 2])) w' := ⟨hb, .inr ⟨h, rfl⟩⟩
theorem BuiltG.yes {w w' : World} {L : List S3} (hb : Below w.heap.size w w') (h : Rg L) {g : Nat} {E : List Int} (h1 : TreeAt w w' g E L) (h2 : E.length ≤ 2 * L.length) : BuiltG w L (.returned (.tuple #[.pointer (some ⟨g, 0, none⟩), .int .i64 0])) w' := ⟨hb, .inl ⟨h, g, E, rfl, h1, h2⟩⟩
theorem os_ends {w w1 : World} {q : Option Addr} {c : Nat} {E : List Int} (h : I64.OS w w1 q E) : EndsA w1 w.heap.size (.slice q E.length c) E := by
  refine ⟨q, c, rfl, ?_⟩
  rcases h with ⟨-, h⟩ | ⟨g, rfl, hg, h⟩
  · exact .inl h
  · by_cases h0 : E = []
    · exact .inl h0
    · have hn : Ns w1 g 0 .i64 E := fun j x e => by
        have hj := (List.getElem?_eq_some_iff.1 e).1
        have := (h j (by simpa using hj)).1
        rw [this]
        have e2 : E.toArray[j]! = x := by
          rw [getElem!_pos E.toArray j (by simpa using hj)]
          simpa using (List.getElem?_eq_some_iff.1 e).2
        rw [e2]
      refine .inr ⟨g, rfl, hg, ?_, hn⟩
      cases E with
      | nil => exact absurd rfl h0
      | cons x xs => exact World.block_lt_of_cell? w1 _ (hn 0 x rfl)
theorem mem_endsL {L : List S3} {s : S3} (h : s ∈ L) : s.1 ∈ endsL L ∧ s.2.1 ∈ endsL L := by
  unfold endsL
  exact ⟨List.mem_flatMap.2 ⟨s, h, by simp⟩, List.mem_flatMap.2 ⟨s, h, by simp⟩⟩

set_option maxRecDepth 100000 in
set_option maxHeartbeats 1600000 in
theorem build_any (w : World) (p : Option Addr) (c : Nat) (L : List S3) (hx : TsS w p L) (hl : L.length ≤ 400) (hw : ∀ s ∈ L, Wf3 s) :
    Calls Try.prog 11 #[.slice p L.length c] w (BuiltG w L) := by
  have HR := right_any w p c L hx hl hw
  by_cases hr : Rg L
  · rw [decide_eq_true hr] at HR
    have HR := Lib.hid HR
    obtain ⟨E, hE⟩ : ∃ E, E = I64.onceL (endsL L) := ⟨_, rfl⟩
    have hel : E.length ≤ 2 * L.length := by rw [hE, ← endsL_len]; exact I64.onceL_len _
    have hUp : Up E := up_of (hE ▸ (I64.once_spec (endsL L)).1)
    have HME := Lib.hid (fun s (hs : s ∈ L) => (⟨hE ▸ ((I64.once_spec (endsL L)).2 _).2 (mem_endsL hs).1, hE ▸ ((I64.once_spec (endsL L)).2 _).2 (mem_endsL hs).2⟩ : s.1 ∈ E ∧ s.2.1 ∈ E))
    have HEN := Lib.hid (fun Y (hb : Below w.heap.size w Y) => ends_any Y p c L (hx.keep hb) hl)
    rw [← hE] at HEN
    have HEM := Lib.hid (fun Y ev base (h : EndsA Y base ev E) => empty_any Y ev E base h (by omega))
    have HUP := Lib.hid hUp
    have HX := Lib.hid hx
    have HW := Lib.hid hw
    have HRG := Lib.hid hr
    have HEL := Lib.hid hel
    obtain ⟨d, hd⟩ : ∃ d, d = L.length := ⟨_, rfl⟩
    have HD := Lib.hid hd
    rw [← hd] at hl hel HR HEN ⊢
    have hmax : ¬ (d : Int) > 2147483648 := by omega
    have hle8 : E.length ≤ 800 := by omega
    have HL8 := Lib.hid hle8
    clear hx hw hr hd hE hUp hel hle8
    generalize hel : E.length = el at HEN
    have HEL2 := Lib.hid hel
    clear hel
    go_enter Try.func11, Try.ntmps11
    go_wp2_with (first
      | (go_at_call 26; (with_reducible refine HR.out.mono ?_); rintro e w1 ⟨rfl, hb⟩; have HB1 := Lib.hid hb; clear hb)
      | (go_at_call 28; (with_reducible refine (HEN.out _ HB1.out).mono ?_); rintro e w2 ⟨q, c', rfl, ho, hb⟩; rw [← HEL2.out]; have HE2 := Lib.hid (os_ends (c := c') ho); have HB2 := Lib.hid (HB1.out.trans (hb.mono HB1.out.size)); clear ho hb)
      | (go_at_call 27; (with_reducible refine (HEM.out _ _ _ HE2.out).mono ?_); rintro e w3 ⟨g, eb, gf, gn, gm, NV, rfl, hs, hb, hk⟩; have HB3 := Lib.hid (HB2.out.trans (hb.mono HB2.out.size)); have HT := Lib.hid (show TreeAt w w3 g E [] from ⟨_, eb, gf, gn, gm, NV, _, [], hs, SgI.none HUP.out, rfl, fun b hb' => by rcases hk b hb' with h | h; exact Nat.le_trans HB1.out.size h; exact Nat.le_trans HB2.out.size h⟩); clear hs hb hk))
    go_loopw [18] (fun v wr => ∃ i : Nat, i ≤ d ∧ v = .int .i64 i ∧ Hid (TreeAt w wr g E (L.take i)) ∧ Hid (Below w.heap.size w wr)) (fun v _ => d - (intOf v).toNat)
    case atStart => exact ⟨0, Nat.zero_le _, rfl, Lib.hid (by rw [List.take_zero]; exact HT.out), HB3⟩
    case round =>
      clear HR HEN HEM HB1 HB2 HB3 HT HE2
      obtain ⟨i, hi, rfl, HT, HB⟩ := hrel
      by_cases hlt : i < d
      · have hltz : (i : Int) < d := by omega
        obtain ⟨s, hse⟩ : ∃ s, L[i]? = some s := ⟨_, List.getElem?_eq_getElem (by have := HD.out; omega)⟩
        obtain ⟨b, off, rfl, h1⟩ := (HX.out.keep HB.out).at hse
        have n0 := h1.c0
        have n1 := h1.c1
        have n2 := h1.c2
        have hsm := List.mem_of_getElem? hse
        have htk : L.take (i + 1) = L.take i ++ [s] := by rw [List.take_add_one, hse]; rfl
        have HP := Lib.hid (fun W' (hb : Below wr.heap.size wr W') => (HT.out.bel hb).put (HB.out.trans (hb.mono HB.out.size)) HL8.out (by rw [List.length_take]; have := HD.out; omega) (HW.out s hsm) (htk ▸ HRG.out.sub (List.take_sublist _ _)) (HME.out s hsm).1 (HME.out s hsm).2)
        rw [← htk] at HP
        clear h1 hse hsm htk
        obtain ⟨lo, hi2, id⟩ := s
        have HB1 := Lib.hid (show Below wr.heap.size wr (wr.alloc (.cells #[.int .i64 lo, .int .i64 hi2, .int .u32 id] 34)) from (Below.refl _ wr).alloc (Nat.le_refl _) _)
        simp only [tv] at *
        go_wp2_with (go_at_call 29; (with_reducible refine (HP.out _ HB1.out).mono ?_); rintro e w4 ⟨rfl, ht, hb⟩; have HT2 := Lib.hid ht; have HB2 := Lib.hid hb; clear ht hb)
        go_roundw
        case rel => exact ⟨i + 1, by omega, by go_num, HT2, HB2⟩
        case measure => simp [intOf]; omega
      · have hid : i = d := by omega
        subst hid
        have hltz : ¬ (i : Int) < i := by omega
        go_wp2
        go_ret2
        have ht := HT.out
        rw [List.take_of_length_le (by have := HD.out; omega)] at ht
        exact BuiltG.yes HB.out HRG.out ht HEL.out
  · rw [decide_eq_false hr] at HR
    have HR := Lib.hid HR
    have hmax : ¬ (L.length : Int) > 2147483648 := by omega
    have HRG := Lib.hid hr
    clear hx hw hr
    generalize L.length = d at *
    go_enter Try.func11, Try.ntmps11
    go_wp2_with (go_at_call 26; (with_reducible refine HR.out.mono ?_); rintro e w1 ⟨rfl, hb⟩; have HB1 := Lib.hid hb; clear hb)
    go_ret2
    exact BuiltG.no HB1.out HRG.out
end Go.Proofs.Ytgcimicbbadapaa
