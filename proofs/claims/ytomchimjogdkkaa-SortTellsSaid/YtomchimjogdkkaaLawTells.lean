/-
  SortTells: orders, merges, how many keys are written, and each number once, are exactly as the document defines; what is handed in stays. For any two lists of keys and any list of numbers; no condition.
-/
import Derived.Test.YtomchimjogdkkaaLawOnce
import Derived.Test.YtomchimjogdkkaaRefM
import Derived.Test.YtomchimjogdkkaaRefO
namespace Go.Proofs.Ytomchimjogdkkaa
open Go.ChangeShapes Go.WideShapes Go.ChangeAt Go.RowKit Go.Joins

theorem NSI.own {k : IntKind} {t : TypeId} {w : World} {base n : Nat} {v : Value} {L : List Int} (h : w.ownsRow base t 1 v n (L.map (Value.int k))) : ∃ q c, v = .slice q n c ∧ L.length = n ∧ NS w q k L := by
  have hl : L.length = n := by have := h.1; simpa using this
  rcases Nat.eq_zero_or_pos n with h0 | h0
  · rcases h.2 with ⟨h1, h2⟩ | ⟨g, cap, cur, h1, -⟩
    · exact ⟨none, 0, by rw [h1, h2], hl, .inl (List.length_eq_zero_iff.1 (by omega))⟩
    · exact ⟨_, _, h1, hl, .inl (List.length_eq_zero_iff.1 (by omega))⟩
  · obtain ⟨g, cap, h1, h2, h3⟩ := rb_of h h0
    exact ⟨_, _, h1, hl, .inr ⟨g, 0, rfl, fun j x e => by rw [Nat.zero_add]; exact h3.cell e⟩⟩
/-- what was handed in, and its copies -/
structure TS (ks js : List (Int × Int)) (xs : List Int) (p0 p1 p2 a b c : Option Addr) (X : World) : Prop where
  k0 : KS X p0 ks
  k1 : KS X p1 js
  k2 : NS X p2 .u32 xs
  a0 : KS X a ks
  b0 : KS X b js
  c0 : NS X c .u32 xs
theorem TS.keep {ks js : List (Int × Int)} {xs : List Int} {p0 p1 p2 a b c : Option Addr} {X w' : World} (h : TS ks js xs p0 p1 p2 a b c X) (hb : Below X.heap.size X w') : TS ks js xs p0 p1 p2 a b c w' :=
  ⟨h.k0.keep hb, h.k1.keep hb, h.k2.keep hb, h.a0.keep hb, h.b0.keep hb, h.c0.keep hb⟩

set_option maxRecDepth 100000 in
set_option maxHeartbeats 6400000 in
theorem tells_walk (p0 : Option Addr) (cap0 : Nat) (ks : List (Int × Int)) (p1 : Option Addr) (cap1 : Nat) (js : List (Int × Int)) (p2 : Option Addr) (cap2 : Nat) (xs : List Int) (w : World) (hk : KS w p0 ks) (hj : KS w p1 js) (hx : NS w p2 .u32 xs) (hp0 : p0 = none → cap0 = 0) (hp1 : p1 = none → cap1 = 0) (hp2 : p2 = none → cap2 = 0) :
    Calls Try.prog 3 #[.slice p0 ks.length cap0, .slice p1 js.length cap1, .slice p2 xs.length cap2] w fun e w' => e = .returned (.bool true) ∧ Below w.heap.size w w' := by
  by_cases hb1 : 200 < ks.length
  · have hbz : (200 : Int) < ks.length := by omega
    clear hk hj hx
    go_enter Try.func3, Try.ntmps3
    go_wp2_with (go_at_call 9; (with_reducible refine (awake_any _).mono ?_); rintro e w1 ⟨rfl, hb⟩)
    go_ret
    exact ⟨rfl, hb⟩
  by_cases hb2 : 200 < js.length
  · have hbz : (200 : Int) < js.length := by omega
    have hbz1 : ¬ (200 : Int) < ks.length := by omega
    clear hk hj hx
    go_enter Try.func3, Try.ntmps3
    go_wp2_with (go_at_call 9; (with_reducible refine (awake_any _).mono ?_); rintro e w1 ⟨rfl, hb⟩)
    go_ret
    exact ⟨rfl, hb⟩
  by_cases hb3 : 200 < xs.length
  · have hbz : (200 : Int) < xs.length := by omega
    have hbz1 : ¬ (200 : Int) < ks.length := by omega
    have hbz2 : ¬ (200 : Int) < js.length := by omega
    clear hk hj hx
    go_enter Try.func3, Try.ntmps3
    go_wp2_with (go_at_call 9; (with_reducible refine (awake_any _).mono ?_); rintro e w1 ⟨rfl, hb⟩)
    go_ret
    exact ⟨rfl, hb⟩
  have C10a := Lib.hid (CopyKeys_any w p0 cap0 ks hk (fun _ h => hp0 h) (by omega))
  have C10b := Lib.hid (fun X (h : KS X p1 js) => CopyKeys_any X p1 cap1 js h (fun _ h => hp1 h) (by omega))
  have C11 := Lib.hid (fun X (h : NS X p2 .u32 xs) => CopyNames_any X p2 cap2 xs h hp2 (by omega))
  have C12 := Lib.hid (fun X p c (h : KS X p ks) => Order_any X p c ks h (by omega))
  have C13 := Lib.hid (fun X (h : KS X p0 ks) => RefOrder_any X p0 cap0 ks h (by omega))
  have C14 := Lib.hid (fun X p q c d (h : NS X p .i64 (srt ks)) (h' : NS X q .i64 (srt ks)) => ints_any X p q c d (srt ks) (srt ks) h h' (by rw [srt_len]; omega))
  have C15 := Lib.hid (fun X p q c d (h : KS X p ks) (h' : KS X q js) => Merge_any X p q c d ks js h h' (by omega))
  have C16 := Lib.hid (fun X (h : KS X p0 ks) (h' : KS X p1 js) => RefMerge_any X p0 p1 cap0 cap1 ks js h h' hp0 hp1 (by omega))
  have C14m := Lib.hid (fun X p q c d (h : NS X p .i64 (srt (ks ++ js))) (h' : NS X q .i64 (srt (ks ++ js))) => ints_any X p q c d (srt (ks ++ js)) (srt (ks ++ js)) h h' (by rw [srt_len]; simp; omega))
  have C14n := Lib.hid (fun X => ints_any X none none 0 0 [] [] (.inl rfl) (.inl rfl) (by simp))
  have C18 := Lib.hid (fun X p c (h : NS X p .u32 xs) (hpc : p = none → c = 0) => Once_any X p c xs h (by omega) hpc)
  have C19 := Lib.hid (fun X (h : NS X p2 .u32 xs) => RefOnce_any X p2 cap2 xs h (by omega))
  have C17 := Lib.hid (fun X p q c d (h : NS X p .u32 (onceL xs)) (h' : NS X q .u32 (onceL xs)) => names_any X p q c d (onceL xs) (onceL xs) h h' (by have := onceL_len xs; omega))
  have C17b := Lib.hid (fun X p c (h : NS X p .u32 xs) (h' : NS X p2 .u32 xs) => names_any X p p2 c cap2 xs xs h h' (by omega))
  have C20a := Lib.hid (fun X p c (h : KS X p ks) (h' : KS X p0 ks) => keys_same X p p0 c cap0 ks h h' (by omega))
  have C20b := Lib.hid (fun X p c (h : KS X p js) (h' : KS X p1 js) => keys_same X p p1 c cap1 js h h' (by omega))
  have hsl := srt_len ks
  have hsm : (srt (ks ++ js)).length = ks.length + js.length := by rw [srt_len]; simp
  have hwb := wrt_bound ks.length (by omega)
  have hmg := fun (h : (risD ks && risD js) = true) => mgd_eq (xs := ks) (ys := js) (by simp at h; exact h.1) (by simp at h; exact h.2)
  obtain ⟨la, hla⟩ : ∃ n, n = ks.length := ⟨_, rfl⟩
  obtain ⟨lb, hlb⟩ : ∃ n, n = js.length := ⟨_, rfl⟩
  obtain ⟨m, hm⟩ : ∃ n, n = xs.length := ⟨_, rfl⟩
  obtain ⟨o, ho⟩ : ∃ n, n = (onceL xs).length := ⟨_, rfl⟩
  rw [← hla] at hb1 C10a C12 C13 C15 C16 C20a hsl hsm hwb
  rw [← hlb] at hb2 C10b C15 C16 C20b hsm
  rw [← hm] at hb3 C11 C18 C19 C17b
  rw [← ho] at C18 C19 C17
  rw [hsl] at C14
  rw [hsm] at C14m
  simp only [decide_true, List.length_nil] at C14 C14m C14n C17 C17b
  rw [← hla, ← hlb, ← hm]
  have HLA := Lib.hid hla
  have HLB := Lib.hid hlb
  have HM := Lib.hid hm
  have HSL := Lib.hid hsl
  have HSM := Lib.hid hsm
  have HJ := Lib.hid hj
  have HX := Lib.hid hx
  have HK := Lib.hid hk
  have hbz1 : ¬ (200 : Int) < la := by omega
  have hbz2 : ¬ (200 : Int) < lb := by omega
  have hbz3 : ¬ (200 : Int) < m := by omega
  have hom : o ≤ 200 := by have := onceL_len xs; omega
  clear hk hj hx hsl hsm hla hlb hm ho hp0 hp1 hp2
  go_enter Try.func3, Try.ntmps3
  go_upto_region 4 with (first
    | (go_at_call 10; (with_reducible refine C10a.out.mono ?_); rintro e w1 ⟨v, rfl, hown, hb⟩; obtain ⟨a, ca, rfl, -, hKa, -⟩ := KS.own hown; rw [← HLA.out]; have HKa := Lib.hid hKa; have HB1 := Lib.hid hb; have HJ1 := Lib.hid (HJ.out.keep hb); clear hown hb hKa)
    | (go_at_call 10; (with_reducible refine (C10b.out w1 HJ1.out).mono ?_); rintro e w2 ⟨v, rfl, hown, hb⟩; obtain ⟨b, cb, rfl, -, hKb, -⟩ := KS.own hown; rw [← HLB.out]; have HKb := Lib.hid hKb; have HKa2 := Lib.hid (HKa.out.keep hb); have HB2 := Lib.hid (HB1.out.trans (hb.mono HB1.out.size)); have HX2 := Lib.hid (HX.out.keep (HB1.out.trans (hb.mono HB1.out.size))); clear hown hb hKb)
    | (go_at_call 11; (with_reducible refine (C11.out w2 HX2.out).mono ?_); rintro e w3 ⟨v, rfl, hown, hb⟩; obtain ⟨c, cc, rfl, -, hKc, hcn, -⟩ := NS.own hown; rw [← HM.out]; have HCN := Lib.hid hcn; have HB := Lib.hid (HB2.out.trans (hb.mono HB2.out.size)); have HT := Lib.hid (TS.mk (HK.out.keep HB.out) (HJ.out.keep HB.out) (HX2.out.keep hb) (HKa2.out.keep hb) (HKb.out.keep hb) hKc : TS ks js xs p0 p1 p2 a b c w3); clear hown hb hKc hcn))
  clear C10a C10b C11 HKa HKb HKa2 HX2 HJ1 HB1 HB2
  go_upto_region 8 with (first
    | (go_at_call 12; (with_reducible refine (C12.out w3 _ _ HT.out.a0).mono ?_); rintro e w4 ⟨A, rfl, -, -, -, ⟨r, -, hE⟩, hb⟩; rw [HSL.out]; have HE := Lib.hid hE.ns; have HT4 := Lib.hid (HT.out.keep hb); have HB4 := Lib.hid (HB.out.trans (hb.mono HB.out.size)); clear hb hE)
    | (go_at_call 13; (with_reducible refine (C13.out w4 HT4.out.k0).mono ?_); rintro e w5 ⟨v, rfl, hown, hb⟩; obtain ⟨q, cq, rfl, -, hN⟩ := NSI.own hown; have HE5 := Lib.hid (HE.out.keep hb); have HN := Lib.hid hN; have HT5 := Lib.hid (HT4.out.keep hb); have HB5 := Lib.hid (HB4.out.trans (hb.mono HB4.out.size)); clear hb hown hN)
    | (go_at_call 14; (with_reducible refine (C14.out w5 _ _ _ _ HE5.out HN.out).mono ?_); rintro e w6 ⟨rfl, hb⟩; have HT6 := Lib.hid (HT5.out.keep hb); have HB6 := Lib.hid (HB5.out.trans (hb.mono HB5.out.size)); clear hb))
  clear C12 C13 C14 HE HE5 HN HT HT4 HT5 HB HB4 HB5
  obtain ⟨rr, hrr⟩ : ∃ r, r = (risD ks && risD js) := ⟨_, rfl⟩
  rw [← hrr] at C15 C16 hmg
  clear hrr
  cases rr
  · simp only [Bool.false_eq_true, if_false] at C15 C16
    clear hmg
    go_wp2_with (first
      | (go_at_call 15; (with_reducible refine (C15.out w6 _ _ _ _ HT6.out.a0 HT6.out.b0).mono ?_); rintro e w7 ⟨rfl, hb⟩; have HT7 := Lib.hid (HT6.out.keep hb); have HB7 := Lib.hid (HB6.out.trans (hb.mono HB6.out.size)); clear hb)
      | (go_at_call 16; (with_reducible refine (C16.out w7 HT7.out.k0 HT7.out.k1).mono ?_); rintro e w8 ⟨rfl, hb⟩; have HT8 := Lib.hid (HT7.out.keep hb); have HB8 := Lib.hid (HB7.out.trans (hb.mono HB7.out.size)); clear hb)
      | (go_at_call 14; (with_reducible refine (C14n.out w8).mono ?_); rintro e w9 ⟨rfl, hb⟩; have HT9 := Lib.hid (HT8.out.keep hb); have HB9 := Lib.hid (HB8.out.trans (hb.mono HB8.out.size)); clear hb)
      | (go_at_call 18; (with_reducible refine (C18.out w9 _ _ HT9.out.c0 HCN.out).mono ?_); rintro e w10 ⟨q10, c10, rfl, hOS, -, hb⟩; have HO10 := Lib.hid hOS.ns; have HT10 := Lib.hid (HT9.out.keep hb); have HB10 := Lib.hid (HB9.out.trans (hb.mono HB9.out.size)); clear hb hOS)
      | (go_at_call 19; (with_reducible refine (C19.out w10 HT10.out.k2).mono ?_); rintro e w11 ⟨v, rfl, hown, hb⟩; obtain ⟨q11, c11, rfl, -, hN⟩ := NSI.own hown; have HO11 := Lib.hid (HO10.out.keep hb); have HN11 := Lib.hid hN; have HT11 := Lib.hid (HT10.out.keep hb); have HB11 := Lib.hid (HB10.out.trans (hb.mono HB10.out.size)); clear hb hown hN)
      | (go_at_call 17; (with_reducible refine (C17.out w11 _ _ _ _ HO11.out HN11.out).mono ?_); rintro e w12 ⟨rfl, hb⟩; have HT12 := Lib.hid (HT11.out.keep hb); have HB12 := Lib.hid (HB11.out.trans (hb.mono HB11.out.size)); clear hb)
      | (go_at_call 20; (with_reducible refine (C20a.out w12 _ _ HT12.out.a0 HT12.out.k0).mono ?_); rintro e w13 ⟨rfl, hb⟩; have HT13 := Lib.hid (HT12.out.keep hb); have HB13 := Lib.hid (HB12.out.trans (hb.mono HB12.out.size)); clear hb)
      | (go_at_call 20; (with_reducible refine (C20b.out w13 _ _ HT13.out.b0 HT13.out.k1).mono ?_); rintro e w14 ⟨rfl, hb⟩; have HT14 := Lib.hid (HT13.out.keep hb); have HB14 := Lib.hid (HB13.out.trans (hb.mono HB13.out.size)); clear hb)
      | (go_at_call 17; (with_reducible refine (C17b.out w14 _ _ HT14.out.c0 HT14.out.k2).mono ?_); rintro e w15 ⟨rfl, hb⟩; have HB15 := Lib.hid (HB14.out.trans (hb.mono HB14.out.size)); clear hb)
      | (go_at_call 9; (with_reducible refine (awake_any w15).mono ?_); rintro e w16 ⟨rfl, hb⟩; have HB16 := Lib.hid (HB15.out.trans (hb.mono HB15.out.size)); clear hb))
    go_ret
    exact ⟨rfl, HB16.out⟩
  · have e := hmg rfl
    simp only [if_true] at C15 C16
    rw [e] at C15
    clear e
    clear hmg
    go_wp2_with (first
      | (go_at_call 15; (with_reducible refine (C15.out w6 _ _ _ _ HT6.out.a0 HT6.out.b0).mono ?_); rintro e w7 ⟨A7, rfl, -, -, -, ⟨r, -, hE⟩, hb⟩; rw [HSM.out]; have HE7 := Lib.hid hE.ns; have HT7 := Lib.hid (HT6.out.keep hb); have HB7 := Lib.hid (HB6.out.trans (hb.mono HB6.out.size)); clear hb hE)
      | (go_at_call 16; (with_reducible refine (C16.out w7 HT7.out.k0 HT7.out.k1).mono ?_); rintro e w8 ⟨v, rfl, hown, hb⟩; obtain ⟨q8, c8, rfl, -, hN⟩ := NSI.own hown; have HE8 := Lib.hid (HE7.out.keep hb); have HN8 := Lib.hid hN; have HT8 := Lib.hid (HT7.out.keep hb); have HB8 := Lib.hid (HB7.out.trans (hb.mono HB7.out.size)); clear hb hown hN)
      | (go_at_call 14; (with_reducible refine (C14m.out w8 _ _ _ _ HE8.out HN8.out).mono ?_); rintro e w9 ⟨rfl, hb⟩; have HT9 := Lib.hid (HT8.out.keep hb); have HB9 := Lib.hid (HB8.out.trans (hb.mono HB8.out.size)); clear hb)
      | (go_at_call 18; (with_reducible refine (C18.out w9 _ _ HT9.out.c0 HCN.out).mono ?_); rintro e w10 ⟨q10, c10, rfl, hOS, -, hb⟩; have HO10 := Lib.hid hOS.ns; have HT10 := Lib.hid (HT9.out.keep hb); have HB10 := Lib.hid (HB9.out.trans (hb.mono HB9.out.size)); clear hb hOS)
      | (go_at_call 19; (with_reducible refine (C19.out w10 HT10.out.k2).mono ?_); rintro e w11 ⟨v, rfl, hown, hb⟩; obtain ⟨q11, c11, rfl, -, hN⟩ := NSI.own hown; have HO11 := Lib.hid (HO10.out.keep hb); have HN11 := Lib.hid hN; have HT11 := Lib.hid (HT10.out.keep hb); have HB11 := Lib.hid (HB10.out.trans (hb.mono HB10.out.size)); clear hb hown hN)
      | (go_at_call 17; (with_reducible refine (C17.out w11 _ _ _ _ HO11.out HN11.out).mono ?_); rintro e w12 ⟨rfl, hb⟩; have HT12 := Lib.hid (HT11.out.keep hb); have HB12 := Lib.hid (HB11.out.trans (hb.mono HB11.out.size)); clear hb)
      | (go_at_call 20; (with_reducible refine (C20a.out w12 _ _ HT12.out.a0 HT12.out.k0).mono ?_); rintro e w13 ⟨rfl, hb⟩; have HT13 := Lib.hid (HT12.out.keep hb); have HB13 := Lib.hid (HB12.out.trans (hb.mono HB12.out.size)); clear hb)
      | (go_at_call 20; (with_reducible refine (C20b.out w13 _ _ HT13.out.b0 HT13.out.k1).mono ?_); rintro e w14 ⟨rfl, hb⟩; have HT14 := Lib.hid (HT13.out.keep hb); have HB14 := Lib.hid (HB13.out.trans (hb.mono HB13.out.size)); clear hb)
      | (go_at_call 17; (with_reducible refine (C17b.out w14 _ _ HT14.out.c0 HT14.out.k2).mono ?_); rintro e w15 ⟨rfl, hb⟩; have HB15 := Lib.hid (HB14.out.trans (hb.mono HB14.out.size)); clear hb)
      | (go_at_call 9; (with_reducible refine (awake_any w15).mono ?_); rintro e w16 ⟨rfl, hb⟩; have HB16 := Lib.hid (HB15.out.trans (hb.mono HB15.out.size)); clear hb))
    go_ret
    exact ⟨rfl, HB16.out⟩

/-- a list of keys that came in: what is more known of it -/
theorem nil_keys {H : Type} {enc : TypeId × Value → H} {W : World} {d : DataW H} {p : List MemPlace} {q : Option Addr} {len cap : Nat}
    (h : DataW.Trod enc Try.prog W 0 (fun _ => true) true 22 (.slice q len cap) d p) : q = none → cap = 0 := by
  obtain ⟨fuel, hf⟩ := h
  rcases Go.Deep.open_slice Try.underlying22 hf with ⟨hcs, _⟩ | ⟨a, len', cap', m, n, D, Pl, hcs, hb, hl, hm, hmm, hx, hi⟩
  · simp [Value.cells] at hcs
    obtain ⟨rfl, rfl, rfl⟩ := hcs
    exact fun _ => rfl
  · simp [Value.cells] at hcs
    obtain ⟨rfl, rfl, rfl⟩ := hcs
    exact fun h => by cases h

set_option maxRecDepth 100000 in
theorem tells_lifted (os : Os) (started : os.Started) (H : Type) (enc : TypeId × Value → H) :
    ReturnsInHanded {} Try.checked os 3 .any (Rows.sortTellsSpec.pre6 enc Try.prog Try.f3 Rows.sortTellsRow.domain false) (Rows.sortTellsSpec.post enc Try.prog Try.f3 false true false false) := by
  refine returnsInHanded_of_change (C := Try.checked) Try.own started (by kernel_rfl) Try.func3
    (ChangeSpec.witness6 (enc := enc) (C := Try.checked) false ⟨#[], #[.slice none 0 0, .slice none 0 0, .slice none 0 0], []⟩ 8 (by kernel_rfl) (by kernel_rfl) (by kernel_rfl) (by kernel_rfl)) ?_
  intro W base args ds gs before hval0 hW hcnd _
  have hval : ∀ (j : Nat) t v, Try.f3.params[j]? = some t → args[j]? = some v → Value.okWide Try.prog W .any base t v := hval0
  have hW' := hW
  obtain ⟨p, q, hA0, hV, rfl, hfz, hnd⟩ := hW
  have hA : DataW.TrodAll enc Try.prog W 0 (fun _ => true) true Try.f3.params.toList args.toList ds p := hA0
  rw [Try.params3] at hA hval
  obtain ⟨v0, vs0, d0, ds0, p0, q0, hargs, rfl, rfl, h0, r0⟩ := trodAll_cons hA
  obtain ⟨v1, vs1, d1, ds1, p1, q1, rfl, rfl, rfl, h1, r1⟩ := trodAll_cons r0
  obtain ⟨v2, vs2, d2, ds2, p2, q2, rfl, rfl, rfl, h2, r2⟩ := trodAll_cons r1
  obtain ⟨rfl, rfl, rfl⟩ := trodAll_nil r2
  obtain rfl : args = #[v0, v1, v2] := by cases args; simp_all
  obtain ⟨rfl, rfl⟩ := trodVars_none hV
  obtain ⟨a0, len0, cap0, rfl⟩ := okWide_slice Try.underlying22 (hval 0 22 v0 rfl rfl)
  have hp0 := nil_keys h0
  obtain ⟨xs0, rfl, hx0, hl0, hm0⟩ := open_keys h0
  obtain ⟨a1, len1, cap1, rfl⟩ := okWide_slice Try.underlying22 (hval 1 22 v1 rfl rfl)
  have hp1 := nil_keys h1
  obtain ⟨xs1, rfl, hx1, hl1, hm1⟩ := open_keys h1
  obtain ⟨a2, len2, cap2, rfl⟩ := okWide_slice Try.underlying23 (hval 2 23 v2 rfl rfl)
  obtain ⟨xs2, rfl, hx2, hl2, hm2, hp2, hw2⟩ := open_nums2 h2
  clear hA0 hval0
  simp only [List.append_nil] at hW'
  have hlt : ∀ x ∈ p0 ++ (p1 ++ p2), x.block < W.heap.size := fun x hx => by simpa using hW'.lt x hx
  refine (tells_walk _ _ _ _ _ _ _ _ _ W hx0 hx1 hx2 hp0 hp1 hp2).mono fun e W' ⟨he, hb⟩ => ?_
  subst he
  have hR := (trodAll_cons_mk (Below.trod Try.laidOut (by kernel_rfl) (of_decide_eq_true (by kernel_rfl)) h0 hb (fun x hx => hlt x (by simp [hx]))) (trodAll_cons_mk (Below.trod Try.laidOut (by kernel_rfl) (of_decide_eq_true (by kernel_rfl)) h1 hb (fun x hx => hlt x (by simp [hx]))) (trodAll_cons_mk (Below.trod Try.laidOut (by kernel_rfl) (of_decide_eq_true (by kernel_rfl)) h2 hb (fun x hx => hlt x (by simp [hx]))) trodAll_mk0)))
  simp only [List.append_nil] at hR
  exact ⟨_, rfl, law_post hW' (trodAll_cons_mk (shut_bool Try.underlying4 _) trodAll_mk0) hR rfl hb⟩

theorem tellslaw_holds : Rows.SortTellsSaid :=
  OpenClaim.holds_of_wide 3 Try.f3 rfl rfl rfl rfl rfl rfl rfl ⟨rfl, rfl, rfl, rfl, rfl⟩ rfl rfl rfl rfl rfl (by kernel_rfl) Try.func3 (by kernel_rfl)
    (of_decide_eq_true (by kernel_rfl)) (by unfold Func.isWrapper; first | (rw [if_pos (by decide +kernel)]; kernel_rfl) | (rw [if_neg (by decide +kernel)]; exact ⟨rfl, rfl⟩))
    (fun os started H enc _ => tells_lifted os started H enc)
end Go.Proofs.Ytomchimjogdkkaa
