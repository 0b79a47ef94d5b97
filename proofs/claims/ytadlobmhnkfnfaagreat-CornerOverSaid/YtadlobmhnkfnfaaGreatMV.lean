/-
  Over is a strict order; over whom something is, over them is something over which nothing is. Maps of maps of names in memory. No condition but those typed at each theorem.
-/
import Derived.Test.YtadlobmhnkfnfaaGreatME
import Derived.Test.YtadlobmhnkfnfaaGreatMM
namespace Go.Proofs.YtadlobmhnkfnfaaGreat.Co
open Go.ChangeShapes Go.WideShapes Go.ChangeAt Go.RowKit Go.Joins
theorem ov_irr (p : S3) : ovB p p = false := by
  unfold ovB
  rw [decide_eq_false (Int.lt_irrefl p.1), decide_eq_false (Int.lt_irrefl p.2.1)]
  simp
theorem ov_trans {p q r : S3} (h : ovB p q = true) (g : ovB q r = true) : ovB p r = true := by
  unfold ovB at h g ⊢
  simp only [Bool.and_eq_true, Bool.or_eq_true, decide_eq_true_eq] at h g ⊢
  omega
theorem ov_asym {p q : S3} (h : ovB p q = true) : ovB q p = false := by
  cases g : ovB q p with
  | false => rfl
  | true =>
    have := ov_trans h g
    rw [ov_irr] at this
    cases this
/-- the names over a point -/
def ovN (L : List S3) (p : S3) : List Int := nmS (fun q => ovB q p) L
theorem top_above (L : List S3) : ∀ (n : Nat) (p : S3), (L.filter (fun q => ovB q p)).length = n → (∃ q ∈ L, ovB q p = true) → ∃ q ∈ L, ovB q p = true ∧ ∀ r ∈ L, ovB r q = false := by
  intro n
  induction n using Nat.strongRecOn with
  | _ n ih =>
    rintro p hn ⟨q, hq, hqp⟩
    by_cases h : ∃ r ∈ L, ovB r q = true
    · have hlt : (L.filter (fun r => ovB r q)).length < n := by
        rw [← hn]
        refine filter_lt (fun r => ovB r p) (fun r => ovB r q) (fun r hr => ov_trans hr hqp) q hqp (ov_irr q) L hq
      obtain ⟨t, ht, h1, h2⟩ := ih _ hlt q rfl h
      exact ⟨t, ht, ov_trans h1 hqp, h2⟩
    · exact ⟨q, hq, hqp, fun r hr => by
        cases g : ovB r q with
        | false => rfl
        | true => exact absurd ⟨r, hr, g⟩ h⟩
theorem mem_ovN {L : List S3} (hL : Rg L) {p q : S3} (hq : q ∈ L) : q.2.2 ∈ ovN L p ↔ ovB q p = true := by
  unfold ovN
  rw [mem_nmS]
  constructor
  · rintro ⟨s, hs, h1, h2⟩
    rwa [← hL.names hs hq h2]
  · exact fun h => ⟨q, hq, h, rfl⟩
theorem mem_unN {L : List S3} (hL : Rg L) {p q : S3} (hq : q ∈ L) : q.2.2 ∈ nmS (ovB p) L ↔ ovB p q = true := by
  rw [mem_nmS]
  constructor
  · rintro ⟨s, hs, h1, h2⟩
    rwa [← hL.names hs hq h2]
  · exact fun h => ⟨q, hq, h, rfl⟩
theorem ovN_nil {L : List S3} {p : S3} : ovN L p = [] ↔ ∀ r ∈ L, ovB r p = false := by
  constructor
  · intro h r hr
    cases g : ovB r p with
    | false => rfl
    | true =>
      have : r.2.2 ∈ ovN L p := mem_nmS.2 ⟨r, hr, g, rfl⟩
      rw [h] at this
      cases this
  · exact fun h => nmS_none h
/-- the outer map's entries: of each name the block of its own map -/
def ovE (L : List S3) (Bs : List Nat) : List (Int × Value) := (L.zip Bs).map (fun p => (p.1.2.2, .map (some p.2)))
/-- in the block ob lies a map of maps: of each point of L the names over it (of M), each with a one -/
structure OvT (w : World) (ob : Nat) (M L : List S3) (Bs : List Nat) : Prop where
  len : Bs.length = L.length
  top : MP Tryz.prog 31 w ob (ovE L Bs)
  each : ∀ (i : Nat) (s : S3) (b : Nat), L[i]? = some s → Bs[i]? = some b → MP Tryz.prog 31 w b (ones (ovN M s))
theorem OvT.off {w w' : World} {ob : Nat} {M L : List S3} {Bs S : List Nat} (h : OvT w ob M L Bs) (g : Off S w w') (ho : ob ∉ S) (hB : ∀ b ∈ Bs, b ∉ S) : OvT w' ob M L Bs :=
  ⟨h.len, h.top.off g ho, fun i s b h1 h2 => (h.each i s b h1 h2).off g (hB b (List.mem_of_getElem? h2))⟩
theorem OvT.keep {w w' : World} {ob : Nat} {M L : List S3} {Bs : List Nat} (h : OvT w ob M L Bs) (g : Below w.heap.size w w') : OvT w' ob M L Bs := h.off (Off.of (S := []) g (Nat.le_refl _)) (by simp) (by simp)
theorem OvT.lt {w : World} {ob : Nat} {M L : List S3} {Bs : List Nat} (h : OvT w ob M L Bs) : ∀ b ∈ Bs, b < w.heap.size := by
  intro b hb
  obtain ⟨i, hi⟩ := List.getElem?_of_mem hb
  have h1 : i < L.length := by rw [← h.len]; exact (List.getElem?_eq_some_iff.1 hi).1
  exact (h.each i _ b (List.getElem?_eq_getElem h1) hi).lt
theorem ovE_snoc {L : List S3} {Bs : List Nat} (h : Bs.length = L.length) (s : S3) (b : Nat) : ovE (L ++ [s]) (Bs ++ [b]) = ovE L Bs ++ [(s.2.2, .map (some b))] := by
  unfold ovE
  rw [List.zip_append h.symm]
  simp
theorem ovE_len {L : List S3} {Bs : List Nat} (h : Bs.length = L.length) : (ovE L Bs).length = L.length := by
  unfold ovE
  rw [List.length_map, List.length_zip, h, Nat.min_self]
theorem ovE_mem {L : List S3} {Bs : List Nat} {i : Nat} {s : S3} {b : Nat} (h1 : L[i]? = some s) (h2 : Bs[i]? = some b) : (s.2.2, Value.map (some b)) ∈ ovE L Bs := by
  refine List.mem_map.2 ⟨(s, b), ?_, rfl⟩
  exact List.mem_of_getElem? (List.getElem?_zip_eq_some.2 ⟨h1, h2⟩)
theorem zeroM3 (w : World) : (zeroValue 48).run Tryz.prog w = .ok (.map none) w := by kernel_rfl
/-- what a map of ones tells of a name -/
theorem ones_at {w : World} {b : Nat} {l : List Int} (h : MP Tryz.prog 31 w b (ones l)) {n : Int} (hw : (Lit.int .u32 n).wf = true) (c : Bool) (hc : n ∈ l ↔ c = true) :
    (Instr.lookup 48 (.map (some b)) (.int .u32 n) false).run Tryz.prog w = .ok (.int .i64 (if c then 1 else 0)) w := by
  cases c with
  | true => exact ones_look h hw (hc.2 rfl)
  | false =>
    refine h.miss Tryz.underlying48 Tryz.underlying31 hw ?_ (zeroI3 w) false
    intro p hp e
    obtain ⟨m, hm, rfl⟩ := List.mem_map.1 hp
    have := hc.1 (e ▸ hm)
    cases this
end Go.Proofs.YtadlobmhnkfnfaaGreat.Co
/-
  CornerOver's map of maps, as the law makes it. No condition but those typed at each theorem.
-/
namespace Go.Proofs.YtadlobmhnkfnfaaGreat.Co
open Go.ChangeShapes Go.WideShapes Go.ChangeAt Go.RowKit Go.Joins
theorem mp_filter {L : List S3} {Bs : List Nat} {k : Nat} {s : S3} (hL : Rg L) (hs : L[k]? = some s) : (ovE (L.take k) Bs).filter (fun p => decide (p.1 ≠ s.2.2)) = ovE (L.take k) Bs := by
  rw [List.filter_eq_self]
  intro p hp
  obtain ⟨⟨t, b⟩, hq, rfl⟩ := List.mem_map.1 hp
  have ht : t ∈ L.take k := (List.of_mem_zip hq).1
  simp only [ne_eq, decide_eq_true_eq]
  intro e
  obtain ⟨i, hi⟩ := List.getElem?_of_mem ht
  rw [List.getElem?_take] at hi
  split at hi
  · rename_i hik
    have hts := hL.names (List.mem_of_getElem? hi) (List.mem_of_getElem? hs) e
    subst hts
    have h1 := (List.getElem?_eq_some_iff.1 hi).1
    have := (List.getElem?_inj h1 hL.once).1 (hi.trans hs.symm)
    omega
  · cases hi
theorem each_snoc {w : World} {L M : List S3} {k nb : Nat} {s : S3} {Bs : List Nat} (hs : L[k]? = some s) (hl : Bs.length = (L.take k).length) (h1 : ∀ (i : Nat) (t : S3) (b : Nat), (L.take k)[i]? = some t → Bs[i]? = some b → MP Tryz.prog 31 w b (ones (ovN M t))) (h2 : MP Tryz.prog 31 w nb (ones (ovN M s))) :
    ∀ (i : Nat) (t : S3) (b : Nat), (L.take (k + 1))[i]? = some t → (Bs ++ [nb])[i]? = some b → MP Tryz.prog 31 w b (ones (ovN M t)) := by
  intro i t b ht hb
  have hk : (L.take k).length = k := by rw [List.length_take]; have := (List.getElem?_eq_some_iff.1 hs).1; omega
  rw [List.take_add_one, hs] at ht
  simp only [Option.toList_some] at ht
  by_cases hi : i < k
  · rw [List.getElem?_append_left (by omega)] at ht hb
    exact h1 i t b ht hb
  · rw [List.getElem?_append_right (by omega)] at ht hb
    rw [hk] at ht
    rw [hl, hk] at hb
    obtain h0 | h0 : i - k = 0 ∨ ∃ j, i - k = j + 1 := by
      cases i - k with
      | zero => exact .inl rfl
      | succ j => exact .inr ⟨j, rfl⟩
    · rw [h0] at ht hb
      simp at ht hb
      subst ht
      subst hb
      exact h2
    · obtain ⟨j, h0⟩ := h0
      rw [h0] at ht
      simp at ht
theorem ov_in {L : List S3} {k nb : Nat} {s : S3} {Bs : List Nat} (hs : L[k]? = some s) (hl : Bs.length = (L.take k).length) : (s.2.2, Value.map (some nb)) ∈ ovE (L.take (k + 1)) (Bs ++ [nb]) := by
  have hk : (L.take k).length = k := by rw [List.length_take]; have := (List.getElem?_eq_some_iff.1 hs).1; omega
  rw [List.take_add_one, hs]
  simp only [Option.toList_some]
  rw [ovE_snoc hl]
  simp
set_option maxRecDepth 100000 in
set_option maxHeartbeats 6400000 in
theorem over_map {TS : World → Value → Nat → List Nat → List S3 → Prop} (C : CornC TS) (w : World) (p : Option Addr) (c : Nat) (L : List S3) {v : Value} {m : Nat} {S : List Nat} (hT : TS w v m S L) (hx : TsS w p L) (hl : L.length ≤ 40) (hw : ∀ s ∈ L, Wf3 s) (hrg : Rg L) :
    Calls Tryz.prog 22 #[v, .slice p L.length c] w fun e w' => ∃ ob Bs, e = .returned (.map (some ob)) ∧ OvT w' ob L L Bs ∧ Below w.heap.size w w' := by
  have HX := Lib.hid hx
  have HWF := Lib.hid hw
  have HRG := Lib.hid hrg
  have HOV := Lib.hid (fun X (s : S3) (hb : Below w.heap.size w X) (hs : Wf3 s) => C.over s (C.bel hT hb) hs)
  have HOL := Lib.hid (show ∀ f, (nmS f L).length ≤ 40 from fun f => Nat.le_trans (nmS_len f L) hl)
  obtain ⟨d, hd⟩ : ∃ d, d = L.length := ⟨_, rfl⟩
  have HD := Lib.hid hd
  rw [← hd] at hl ⊢
  clear hT hx hw hrg hd
  have hmk := @run_makeMap Tryz.prog
  go_enter Tryz.func22, Tryz.ntmps22
  obtain ⟨W, hW⟩ : ∃ W, W = w.alloc (.map #[] 0) := ⟨_, rfl⟩
  have HOT := Lib.hid (show OvT W w.heap.size L (L.take 0) [] by rw [hW]; exact ⟨by simp, MP.made _ _ w, fun i s b h => by simp at h⟩)
  have HB := Lib.hid (show Below w.heap.size w W by rw [hW]; exact (Below.refl _ w).alloc (Nat.le_refl _) _)
  have HOB := Lib.hid (Nat.le_refl w.heap.size)
  have HW := Lib.hid hW.symm
  clear hW
  go_upto_region 2 with fail
  rw [HW.out]
  clear HW hmk
  go_wp2
  obtain ⟨ob, hob⟩ : ∃ ob, ob = w.heap.size := ⟨_, rfl⟩
  have HOT := Lib.hid (show OvT W ob L (L.take 0) [] from hob ▸ HOT.out)
  have HOB := Lib.hid (show w.heap.size ≤ ob from Nat.le_of_eq hob.symm)
  rw [← hob]
  clear hob
  go_loopw [15] (fun v15 wr => ∃ (k : Nat) (Bs : List Nat), k ≤ d ∧ v15 = .int .i64 k ∧ Hid (OvT wr ob L (L.take k) Bs) ∧ Hid (ob ∉ Bs) ∧ Hid (Below w.heap.size w wr)) (fun v _ => d - (intOf v).toNat)
  case atStart => exact ⟨0, [], Nat.zero_le _, rfl, HOT, Lib.hid (by simp), HB⟩
  case round =>
    clear HOT HB
    obtain ⟨k, Bs, hk, rfl, HOT, HNB, HB⟩ := hrel
    by_cases hlt : k < d
    · have hltz : (k : Int) < d := by omega
      obtain ⟨s, hse⟩ : ∃ s, L[k]? = some s := ⟨_, List.getElem?_eq_getElem (by have := HD.out; omega)⟩
      obtain ⟨bb, off, rfl, h1⟩ := (HX.out.keep HB.out).at hse
      have hms := List.mem_of_getElem? hse
      have hwf := HWF.out s hms
      have HSE := Lib.hid hse
      have n0 := h1.c0
      have n1 := h1.c1
      have n2 := h1.c2
      obtain ⟨W4, hW4⟩ : ∃ W4, W4 = wr.alloc (.cells (tvs s).toArray 33) := ⟨_, rfl⟩
      have hN4 : T1 W4 wr.heap.size 0 s := by rw [hW4]; exact T1.new wr s _
      have hb4 : Below wr.heap.size wr W4 := by rw [hW4]; exact (Below.refl _ wr).alloc (Nat.le_refl _) _
      have HN4 := Lib.hid hN4
      have HO4 := Lib.hid (HOT.out.keep hb4)
      have HB4 := Lib.hid (HB.out.trans (hb4.mono HB.out.size))
      have HOVX := Lib.hid (HOV.out W4 s HB4.out hwf)
      have HWS := Lib.hid hwf
      have hzl := HOL.out (fun q => ovB q s)
      have HZ := Lib.hid (show ovN L s = nmS (fun q => ovB q s) L from rfl)
      have HZW := Lib.hid (fun n (h : n ∈ nmS (fun q => ovB q s) L) => nm_wf HWF.out h)
      have HZR := Lib.hid ((nmS_rise HRG.out (fun q => ovB q s)).imp (fun {a b} (h : a < b) => Int.ne_of_lt h) : (nmS (fun q => ovB q s) L).Nodup)
      generalize nmS (fun q => ovB q s) L = Z at *
      have HRL := Lib.hid (show ∀ (Y : World) r, RL Y r Z → ∃ q c, r = .slice q Z.length c ∧ NS Y q .u32 Z from fun Y r h => by obtain ⟨q, c, h1, h2, -⟩ := h; exact ⟨q, c, h1, h2⟩)
      obtain ⟨zl, hze⟩ : ∃ zl, zl = Z.length := ⟨_, rfl⟩
      have HZL := Lib.hid hze
      rw [← hze] at hzl HRL
      have m0 := hN4.c0
      have m1 := hN4.c1
      have m2 := hN4.c2
      simp only [Nat.zero_add] at m0 m1 m2
      obtain ⟨px, py, pi⟩ := s
      unfold tvs at hW4
      unfold tv at HOVX
      simp only at n0 n1 n2 m0 m1 m2 hW4 HOVX
      have HW4 := Lib.hid hW4
      clear h1 hse hms hwf hN4 hW4 hb4 hze
      go_upto_region 5 with fail
      rw [← HW4.out]
      clear HW4 n0 n1 n2
      go_upto_region 6 with (go_at_call 19; (with_reducible refine HOVX.out.mono ?_); rintro e w5 ⟨⟨r5, t5, rfl, h5, -, -⟩, hb⟩; obtain ⟨q5, c5, rfl, hq⟩ := HRL.out _ _ h5; have HQ := Lib.hid hq; have HN5 := Lib.hid (HN4.out.keep hb HN4.out.lt); have HO5 := Lib.hid (HO4.out.keep hb); have HB5 := Lib.hid (HB4.out.trans (hb.mono HB4.out.size)); clear hb h5 hq)
      obtain ⟨Y, hY⟩ : ∃ Y, Y = w5.alloc (.map #[] 0) := ⟨_, rfl⟩
      have hbY : Below w5.heap.size w5 Y := by rw [hY]; exact (Below.refl _ w5).alloc (Nat.le_refl _) _
      have HOY := Lib.hid (HO5.out.keep hbY)
      have HNY := Lib.hid (HN5.out.keep hbY HN5.out.lt)
      have HQY := Lib.hid (HQ.out.keep hbY)
      have HBY := Lib.hid (HB5.out.trans (hbY.mono HB5.out.size))
      have HMY := Lib.hid (show MP Tryz.prog 31 Y w5.heap.size (ones (Z.take 0)) by rw [hY]; exact MP.made _ _ w5)
      have hob5 := HO5.out.top.lt
      have hpb := HN5.out.lt
      have hobr := HOT.out.top.lt
      have hlen := HOT.out.len
      obtain ⟨w6, hput, hM6, hO6⟩ := HOY.out.top.store Tryz.underlying50 Tryz.underlying31 (by rw [ovE_len HOY.out.len, List.length_take]; simp [maxLen]; omega) (.map (some w5.heap.size)) HWS.out.2.2
      rw [mp_filter HRG.out HSE.out] at hM6
      have hM6' : MP Tryz.prog 31 w6 ob (ovE (L.take (k + 1)) (Bs ++ [w5.heap.size])) := by
        rw [List.take_add_one, HSE.out, Option.toList_some, ovE_snoc HOY.out.len]
        exact hM6
      have HM6 := Lib.hid hM6'
      have HE6 := Lib.hid (fun (i : Nat) (t : S3) (b : Nat) h1 h2 => (HOY.out.each i t b h1 h2).off hO6 (fun hin => HNB.out (by rw [List.mem_singleton] at hin; rw [← hin]; exact List.mem_of_getElem? h2)))
      have HMB := Lib.hid (HMY.out.off hO6 (by simp; omega))
      have HN6 := Lib.hid (HNY.out.off hO6 (by simp; omega))
      have HQ6 := Lib.hid (ns_mapped HOY.out.top HQY.out hO6)
      have HB6 := Lib.hid (HBY.out.trans (hO6.below HBY.out.size (fun b hb => by rw [List.mem_singleton.1 hb]; exact HOB.out)))
      have HLT := Lib.hid (HO5.out.lt)
      have HIN := Lib.hid (ov_in (nb := w5.heap.size) HSE.out hlen)
      have HNBW := Lib.hid (show w.heap.size ≤ w5.heap.size ∧ ob < w5.heap.size ∧ wr.heap.size < w5.heap.size from ⟨HB5.out.size, hob5, hpb⟩)
      rw [hY] at hput
      have m2 := HN5.out.c2
      simp only [Nat.zero_add] at m2
      have hmk := @run_makeMap Tryz.prog
      clear hbY hM6 hM6' hO6 HO4 HB4 HOY HNY HQY HBY HMY HO5 HB5 HN5 HQ hob5 hpb hobr HN4 HOVX HRL m0 m1 hY HOT
      go_upto_region 7 with (at_mapUpdate; refine wpList_putR rfl _ _ _ _ rfl _ _ _ rfl rfl rfl hput ?_)
      clear hput hmk m2
      generalize w5.heap.size = nb at *
      generalize wr.heap.size = pb at *
      go_wp2
      go_loopw [31] (fun v31 wz => ∃ j : Nat, j ≤ zl ∧ v31 = .int .i64 j ∧ Hid (MP Tryz.prog 31 wz ob (ovE (L.take (k + 1)) (Bs ++ [nb]))) ∧ Hid (MP Tryz.prog 31 wz nb (ones (Z.take j))) ∧ Hid (∀ (i : Nat) (t : S3) (b : Nat), (L.take k)[i]? = some t → Bs[i]? = some b → MP Tryz.prog 31 wz b (ones (ovN L t))) ∧ Hid (T1 wz pb 0 (px, py, pi)) ∧ Hid (NS wz q5 .u32 Z) ∧ Hid (Below w.heap.size w wz)) (fun i _ => zl - (intOf i).toNat)
      case atStart => exact ⟨0, Nat.zero_le _, rfl, HM6, HMB, HE6, HN6, HQ6, HB6⟩
      case round =>
        clear HM6 HMB HE6 HN6 HQ6 HB6
        obtain ⟨j, hj, rfl, HMP, HMB, HE, HN, HQ, HB2⟩ := hrel
        by_cases hlt2 : j < zl
        · have hltz2 : (j : Int) < zl := by omega
          obtain ⟨n, hne⟩ : ∃ n, Z[j]? = some n := ⟨_, List.getElem?_eq_getElem (by have := HZL.out; omega)⟩
          have hwf := HZW.out n (List.mem_of_getElem? hne)
          have htk : Z.take (j + 1) = Z.take j ++ [n] := by rw [List.take_add_one, hne]; rfl
          have hnd : ((Z.take j) ++ [n]).Nodup := by
            rw [← htk]
            exact (HZR.out : Z.Nodup).sublist (List.take_sublist _ _)
          obtain ⟨hlook2, w12, hput, hM2, hO2⟩ := ones_more HMB.out hnd hwf (by rw [List.length_take]; omega)
          rw [← htk] at hM2
          have hlook1 : (Instr.lookup 50 (.map (some ob)) (.int .u32 pi) false).run Tryz.prog wr = .ok (.map (some nb)) wr := HMP.out.look Tryz.underlying50 Tryz.underlying31 HWS.out.2.2 HIN.out (zeroM3 wr) false
          have HM3 := Lib.hid hM2
          have HMP3 := Lib.hid (HMP.out.off hO2 (by have := HNBW.out; simp; omega))
          have HE3 := Lib.hid (fun (i : Nat) (t : S3) (b : Nat) h1 h2 => (HE.out i t b h1 h2).off hO2 (by have := HLT.out b (List.mem_of_getElem? h2); simp; omega))
          have HN3 := Lib.hid (HN.out.off hO2 (by have := HNBW.out; simp; omega))
          have HQ3 := Lib.hid (ns_mapped HMB.out HQ.out hO2)
          have HB3 := Lib.hid (HB2.out.trans (hO2.below HB2.out.size (fun b hb => by rw [List.mem_singleton.1 hb]; exact HNBW.out.1)))
          have m2 := HN.out.c2
          simp only [Nat.zero_add] at m2
          rcases HQ.out with h0 | ⟨b, off, rfl, h1⟩
          · rw [h0] at hne; simp at hne
          · have cx := h1 j n hne
            clear h1 hne hwf htk hnd hM2 hO2
            go_wp2_with (first
              | (at_lookup; refine wpList_lookR rfl _ _ _ _ rfl _ _ _ rfl rfl hlook1 ?_)
              | (at_lookup; refine wpList_lookR rfl _ _ _ _ rfl _ _ _ rfl rfl hlook2 ?_)
              | (at_mapUpdate; refine wpList_putR rfl _ _ _ _ rfl _ _ _ rfl rfl rfl hput ?_))
            go_roundw
            case rel => exact ⟨j + 1, by omega, by go_num, HMP3, HM3, HE3, HN3, HQ3, HB3⟩
            case measure => simp [intOf]; omega
        · obtain rfl : j = zl := by omega
          have hltz2 : ¬ (j : Int) < j := by omega
          have HOTN := Lib.hid (show OvT wr ob L (L.take (k + 1)) (Bs ++ [nb]) from ⟨by rw [List.length_append, hlen, List.length_take, List.length_take]; have := HD.out; simp; omega, HMP.out, each_snoc HSE.out hlen HE.out (by
            have h := HMB.out
            rw [List.take_of_length_le (by have := HZL.out; omega)] at h
            rw [HZ.out]
            exact h)⟩)
          have HNBN := Lib.hid (show ob ∉ Bs ++ [nb] by
            have := HNBW.out
            rw [List.mem_append, List.mem_singleton]
            exact fun h => h.elim HNB.out (fun e => by omega))
          clear hlen
          go_wp2
          go_roundw
          case rel => exact ⟨k + 1, Bs ++ [nb], by omega, by go_num, HOTN, HNBN, HB2⟩
          case measure => simp [intOf]; omega
    · obtain rfl : k = d := by omega
      have hltz : ¬ (k : Int) < k := by omega
      go_wp2
      go_ret
      exact ⟨ob, rfl, ⟨Bs, by have h := HOT.out; rw [List.take_of_length_le (by have := HD.out; omega)] at h; exact h⟩, HB.out⟩
end Go.Proofs.YtadlobmhnkfnfaaGreat.Co
/-
  CornerOver: a point is over another one just if that is under it; over it is what is over what is over it; nothing is over itself; if anything is over a point, something is over which nothing is; over any tree that tells corners.
-/
namespace Go.Proofs.YtadlobmhnkfnfaaGreat.Co
open Go.ChangeShapes Go.WideShapes Go.ChangeAt Go.RowKit Go.Joins
/-- a point's own map, in whichever world -/
theorem ov_find {L M : List S3} {Bs : List Nat} {ob : Nat} {w : World} (h : OvT w ob M L Bs) {s : S3} (hs : s ∈ L) (hw : Wf3 s) :
    ∃ b, b < w.heap.size ∧ ∀ X, Below w.heap.size w X → (Instr.lookup 50 (.map (some ob)) (.int .u32 s.2.2) false).run Tryz.prog X = .ok (.map (some b)) X ∧ MP Tryz.prog 31 X b (ones (ovN M s)) := by
  obtain ⟨i, hi⟩ := List.getElem?_of_mem hs
  have hb : i < Bs.length := by rw [h.len]; exact (List.getElem?_eq_some_iff.1 hi).1
  have hbi := List.getElem?_eq_getElem hb
  exact ⟨_, h.lt _ (List.mem_of_getElem? hbi), fun X hX => ⟨(h.keep hX).top.look Tryz.underlying50 Tryz.underlying31 hw.2.2 (ovE_mem hi hbi) (zeroM3 X) false, (h.keep hX).each i s _ hi hbi⟩⟩
theorem ones_no {w : World} {b : Nat} {l : List Int} (h : MP Tryz.prog 31 w b (ones l)) {n : Int} (hw : (Lit.int .u32 n).wf = true) (hc : n ∉ l) :
    (Instr.lookup 48 (.map (some b)) (.int .u32 n) false).run Tryz.prog w = .ok (.int .i64 0) w :=
  ones_at h hw false ⟨fun h => absurd h hc, fun h => (by cases h)⟩
/-- what has come of 'top' behind so many points -/
def topB (L : List S3) (s : S3) (j : Nat) : Bool := decide ((ovN L s).length = 0) || (L.take j).any (fun q => ovB q s && decide ((ovN L q).length = 0))
theorem topB_zero (L : List S3) (s : S3) : topB L s 0 = decide ((ovN L s).length = 0) := by simp [topB]
theorem topB_no {L : List S3} {s q : S3} {j : Nat} (hq : L[j]? = some q) (h : ovB q s = false) : topB L s (j + 1) = topB L s j := by
  unfold topB
  rw [List.take_add_one, hq]
  simp [h]
theorem topB_yes {L : List S3} {s q : S3} {j : Nat} (hq : L[j]? = some q) (h : ovB q s = true) : topB L s (j + 1) = (topB L s j || decide ((ovN L q).length = 0)) := by
  unfold topB
  rw [List.take_add_one, hq]
  simp [h, Bool.or_assoc]
theorem topB_all (L : List S3) (s : S3) {j : Nat} (hj : j = L.length) : topB L s j = true := by
  unfold topB
  rw [hj, List.take_length]
  by_cases h : ∃ q ∈ L, ovB q s = true
  · obtain ⟨t, ht, h1, h2⟩ := top_above L _ s rfl h
    have h3 : ovN L t = [] := ovN_nil.2 h2
    have : L.any (fun q => ovB q s && decide ((ovN L q).length = 0)) = true := by
      rw [List.any_eq_true]
      exact ⟨t, ht, by rw [h1, h3]; rfl⟩
    rw [this, Bool.or_true]
  · have h3 : ovN L s = [] := ovN_nil.2 (fun r hr => by
      cases g : ovB r s with
      | false => rfl
      | true => exact absurd ⟨r, hr, g⟩ h)
    rw [h3]
    rfl
theorem ovN_len (L : List S3) (s : S3) : (ovN L s).length ≤ L.length := nmS_len _ L
set_option maxRecDepth 100000 in
set_option maxHeartbeats 12800000 in
theorem over_walk {TS : World → Value → Nat → List Nat → List S3 → Prop} (C : CornC TS) (w : World) (p : Option Addr) (c : Nat) (L : List S3) (hx : TsS w p L) (hc : L.length ≤ c) (hp : p = none → c = 0) (hw : ∀ s ∈ L, Wf3 s) :
    Calls Tryz.prog 6 #[.slice p L.length c] w fun e w' => e = .returned (.bool true) ∧ Below w.heap.size w w' := by
  have HAW := Lib.hid (awake_any C)
  by_cases hbig : L.length ≤ 40
  · have hbz : ¬ (40 : Int) < L.length := by omega
    have HX := Lib.hid hx
    have HWF := Lib.hid hw
    have HBU := Lib.hid (C.build w p c L hx (by omega) hc hp hw)
    have HOM := Lib.hid (fun X v m S (hb : Below w.heap.size w X) (hT : TS X v m S L) (hr : Rg L) => over_map C X p c L hT (hx.keep hb) hbig hw hr)
    obtain ⟨m, hmm⟩ : ∃ m, m = L.length := ⟨_, rfl⟩
    have HM := Lib.hid hmm
    rw [← hmm] at HBU HOM hbz hbig ⊢
    clear hx hc hp hw hmm
    by_cases hrg : Rg L
    · have HRG := Lib.hid hrg
      go_enter Tryz.func6, Tryz.ntmps6
      go_wp2_with (first
        | (go_at_call 10; (with_reducible refine HBU.out.mono ?_); rintro e w1 ⟨hb, hor⟩; rcases hor with ⟨-, v, S, rfl, hT, hS⟩ | ⟨hn', -⟩; rotate_left; (exact absurd hrg hn'); rw [← HM.out] at hT; have HT := Lib.hid hT; have HB1 := Lib.hid hb; clear hb hT hS)
        | (go_at_call 22; (with_reducible refine (HOM.out _ _ _ _ HB1.out HT.out hrg).mono ?_); rintro e w2 ⟨ob, Bs, rfl, hot, hb⟩; have HOT := Lib.hid hot; have HT := Lib.hid (C.bel HT.out hb); have HB2 := Lib.hid (HB1.out.trans (hb.mono HB1.out.size)); clear hb hot))
      clear HBU HOM hrg
      have HXW := Lib.hid (HX.out.keep HB2.out)
      go_loopw [34] (fun v34 wr => ∃ k : Nat, k ≤ m ∧ v34 = .int .i64 k ∧ Hid (Below w2.heap.size w2 wr)) (fun v _ => m - (intOf v).toNat)
      case atStart => exact ⟨0, Nat.zero_le _, rfl, Lib.hid (Below.refl _ _)⟩
      case round =>
        obtain ⟨k, hk, rfl, HB⟩ := hrel
        by_cases hlt : k < m
        · have hltz : (k : Int) < m := by omega
          obtain ⟨s, hse⟩ : ∃ s, L[k]? = some s := ⟨_, List.getElem?_eq_getElem (by have := HM.out; omega)⟩
          obtain ⟨bb, off, rfl, h1⟩ := (HXW.out.keep HB.out).at hse
          have hms := List.mem_of_getElem? hse
          have HWS := Lib.hid (HWF.out s hms)
          have HMS := Lib.hid hms
          obtain ⟨bp, hbl, hbf⟩ := ov_find HOT.out hms HWS.out
          have HBL := Lib.hid hbl
          have HBF := Lib.hid hbf
          have n0 := h1.c0
          have n1 := h1.c1
          have n2 := h1.c2
          obtain ⟨W4, hW4⟩ : ∃ W4, W4 = wr.alloc (.cells (tvs s).toArray 33) := ⟨_, rfl⟩
          have hN4 : T1 W4 wr.heap.size 0 s := by rw [hW4]; exact T1.new wr s _
          have HN4 := Lib.hid hN4
          have HB4 := Lib.hid (show Below w2.heap.size w2 W4 by rw [hW4]; exact HB.out.alloc HB.out.size _)
          have HUN := Lib.hid (C.under s (C.bel HT.out HB4.out) HWS.out)
          have HUW := Lib.hid (fun n (h : n ∈ nmS (ovB s) L) => nm_wf HWF.out h)
          have HUR := Lib.hid ((nmS_rise HRG.out (ovB s)).imp (fun {a b} (h : a < b) => Int.ne_of_lt h) : (nmS (ovB s) L).Nodup)
          have HUM := Lib.hid (fun q (hq : q ∈ L) => mem_unN HRG.out (p := s) hq)
          have hul := nmS_len (ovB s) L
          generalize nmS (ovB s) L = U at *
          have HRL := Lib.hid (show ∀ (Y : World) r, RL Y r U → ∃ q c, r = .slice q U.length c ∧ NS Y q .u32 U from fun Y r h => by obtain ⟨q, c, h1, h2, -⟩ := h; exact ⟨q, c, h1, h2⟩)
          obtain ⟨ul, hue⟩ : ∃ ul, ul = U.length := ⟨_, rfl⟩
          have HUL := Lib.hid hue
          rw [← hue] at hul HRL
          rw [← HM.out] at hul
          have m0 := hN4.c0
          have m1 := hN4.c1
          have m2 := hN4.c2
          simp only [Nat.zero_add] at m0 m1 m2
          have HS := Lib.hid (rfl : s = s)
          obtain ⟨px, py, pi⟩ := s
          unfold tvs at hW4
          unfold tv at HUN
          simp only at n0 n1 n2 m0 m1 m2 hW4 HUN
          have HW4 := Lib.hid hW4
          clear h1 hse hms hN4 hW4 hue hbl hbf
          go_upto_region 10 with fail
          rw [← HW4.out]
          clear HW4 n0 n1 n2
          go_upto_region 11 with (go_at_call 20; (with_reducible refine HUN.out.mono ?_); rintro e w5 ⟨⟨r5, t5, rfl, h5, -, -⟩, hb⟩; obtain ⟨q5, c5, rfl, hq⟩ := HRL.out _ _ h5; have HQ := Lib.hid hq; have HN5 := Lib.hid (HN4.out.keep hb HN4.out.lt); have HB5 := Lib.hid (HB4.out.trans (hb.mono HB4.out.size)); clear hb h5 hq)
          obtain ⟨w6, hw6⟩ : ∃ Y, Y = w5.alloc (.map #[] 0) := ⟨_, rfl⟩
          have hb6 : Below w5.heap.size w5 w6 := by rw [hw6]; exact (Below.refl _ w5).alloc (Nat.le_refl _) _
          have HI0 := Lib.hid (show MP Tryz.prog 31 w6 w5.heap.size (ones (U.take 0)) by rw [hw6]; exact MP.made _ _ w5)
          have HN6 := Lib.hid (HN5.out.keep hb6 HN5.out.lt)
          have HQ6 := Lib.hid (HQ.out.keep hb6)
          have HB6 := Lib.hid (HB5.out.trans (hb6.mono HB5.out.size))
          have HIB := Lib.hid (show w2.heap.size ≤ w5.heap.size ∧ wr.heap.size < w5.heap.size from ⟨HB5.out.size, HN5.out.lt⟩)
          have HW6 := Lib.hid hw6
          have hmk := @run_makeMap Tryz.prog
          clear hb6 hw6 HQ HN5 HB5 HUN HRL HN4 HB4 m0 m1 m2
          go_upto_region 12 with fail
          rw [← HW6.out]
          clear HW6 hmk
          generalize w5.heap.size = ib at *
          generalize wr.heap.size = pb at *
          go_wp2
          go_loopw [47] (fun v47 wz => ∃ j : Nat, j ≤ ul ∧ v47 = .int .i64 j ∧ Hid (MP Tryz.prog 31 wz ib (ones (U.take j))) ∧ Hid (NS wz q5 .u32 U) ∧ Hid (T1 wz pb 0 (px, py, pi)) ∧ Hid (Below w2.heap.size w2 wz)) (fun i _ => ul - (intOf i).toNat)
          case atStart => exact ⟨0, Nat.zero_le _, rfl, HI0, HQ6, HN6, HB6⟩
          case round =>
            clear HI0 HQ6 HN6 HB6 HB
            obtain ⟨j, hj, rfl, HI, HQ, HN, HB⟩ := hrel
            by_cases hlt2 : j < ul
            · have hltz2 : (j : Int) < ul := by omega
              obtain ⟨n, hne⟩ : ∃ n, U[j]? = some n := ⟨_, List.getElem?_eq_getElem (by have := HUL.out; omega)⟩
              have hwf := HUW.out n (List.mem_of_getElem? hne)
              have htk : U.take (j + 1) = U.take j ++ [n] := by rw [List.take_add_one, hne]; rfl
              have hnd : ((U.take j) ++ [n]).Nodup := by
                rw [← htk]
                exact (HUR.out : U.Nodup).sublist (List.take_sublist _ _)
              obtain ⟨hlook, w12, hput, hM2, hO2⟩ := ones_more HI.out hnd hwf (by rw [List.length_take]; omega)
              rw [← htk] at hM2
              have HI3 := Lib.hid hM2
              have HN3 := Lib.hid (HN.out.off hO2 (by have := HIB.out; simp; omega))
              have HQ3 := Lib.hid (ns_mapped HI.out HQ.out hO2)
              have HB3 := Lib.hid (HB.out.trans (hO2.below HB.out.size (fun b hb => by rw [List.mem_singleton.1 hb]; exact HIB.out.1)))
              rcases HQ.out with h0 | ⟨b, off, rfl, h1⟩
              · rw [h0] at hne; simp at hne
              · have cx := h1 j n hne
                clear h1 hne hwf htk hnd hM2 hO2
                go_wp2_with (first
                  | (at_lookup; refine wpList_lookR rfl _ _ _ _ rfl _ _ _ rfl rfl hlook ?_)
                  | (at_mapUpdate; refine wpList_putR rfl _ _ _ _ rfl _ _ _ rfl rfl rfl hput ?_))
                go_roundw
                case rel => exact ⟨j + 1, by omega, by go_num, HI3, HQ3, HN3, HB3⟩
                case measure => simp [intOf]; omega
            · obtain rfl : j = ul := by omega
              have hltz2 : ¬ (j : Int) < j := by omega
              have HIU := Lib.hid (show MP Tryz.prog 31 wr ib (ones U) by
                have h := HI.out
                rw [List.take_of_length_le (by have := HUL.out; omega)] at h
                exact h)
              clear HI HQ
              have hlp := (HBF.out wr HB.out).1
              have hln := fun ty => (HBF.out wr HB.out).2.len Tryz.underlying48 ty
              rw [ones_len] at hln
              have m2 := HN.out.c2
              simp only [Nat.zero_add] at m2 hlp
              have HTZ := Lib.hid (topB_zero L (px, py, pi))
              have hovl := ovN_len L (px, py, pi)
              rw [← HM.out] at hovl
              generalize hnl : (ovN L (px, py, pi)).length = nl at *
              have HNL := Lib.hid hnl
              clear hnl
              generalize wr = wy at *
              go_upto_region 18 with (at_lookup; refine wpList_lookR rfl _ _ _ _ rfl _ _ _ rfl rfl hlp ?_)
              have HT0 := Lib.hid (show ((nl : Int) == 0) = topB L (px, py, pi) 0 by rw [HTZ.out, Bool.eq_iff_iff]; simp)
              clear hlp hln m2 hovl
              have HBY := HB
              have HNY := HN
              have HIY := HIU
              clear HB HN HIU
              go_wp2
              go_loopw [13, 64] (fun v13 v64 wz => ∃ (j2 : Nat) (tp : Bool), j2 ≤ m ∧ v64 = .int .i64 j2 ∧ v13 = .bool tp ∧ Hid (tp = topB L (px, py, pi) j2) ∧ Hid (MP Tryz.prog 31 wz ib (ones U)) ∧ Hid (T1 wz pb 0 (px, py, pi)) ∧ Hid (Below w2.heap.size w2 wz)) (fun _ i _ => m - (intOf i).toNat)
              case atStart => exact ⟨0, _, Nat.zero_le _, rfl, rfl, HT0, HIY, HNY, HBY⟩
              case round =>
                clear HT0 HBY HNY HIY
                obtain ⟨j2, tp, hj2, rfl, rfl, HTP, HI, HN, HB⟩ := hrel
                by_cases hlt3 : j2 < m
                · have hltz3 : (j2 : Int) < m := by omega
                  obtain ⟨q, hqe⟩ : ∃ q, L[j2]? = some q := ⟨_, List.getElem?_eq_getElem (by have := HM.out; omega)⟩
                  have h1 : T1 wr bb (off + j2 * 3) q := by
                    obtain ⟨b2, o2, e2, h1⟩ := (HXW.out.keep HB.out).at hqe
                    cases e2
                    exact h1
                  have HQE := Lib.hid hqe
                  have HMQ := Lib.hid (List.mem_of_getElem? hqe)
                  have HWQ := Lib.hid (HWF.out q HMQ.out)
                  obtain ⟨bq, hbl, hbf⟩ := ov_find HOT.out HMQ.out HWQ.out
                  have HBFQ := Lib.hid hbf
                  have HBLQ := Lib.hid hbl
                  have n0 := h1.c0
                  have n1 := h1.c1
                  have n2 := h1.c2
                  obtain ⟨W7, hW7⟩ : ∃ W7, W7 = wr.alloc (.cells (tvs q).toArray 33) := ⟨_, rfl⟩
                  have hN7 : T1 W7 wr.heap.size 0 q := by rw [hW7]; exact T1.new wr q _
                  have hb7 : Below wr.heap.size wr W7 := by rw [hW7]; exact (Below.refl _ wr).alloc (Nat.le_refl _) _
                  have HQ7 := Lib.hid hN7
                  have HN7 := Lib.hid (HN.out.keep hb7 HN.out.lt)
                  have HI7 := Lib.hid (HI.out.keep hb7)
                  have HB7 := Lib.hid (HB.out.trans (hb7.mono HB.out.size))
                  have hlq := (hbf W7 HB7.out).1
                  have hmq7 := (hbf W7 HB7.out).2
                  have hlp := (HBF.out W7 HB7.out).1
                  have hmp7 := (HBF.out W7 HB7.out).2
                  have m0 := hN7.c0
                  have m1 := hN7.c1
                  have m2 := hN7.c2
                  have p2 := HN7.out.c2
                  simp only [Nat.zero_add] at m0 m1 m2 p2 hlp
                  have hqs : ovB q (px, py, pi) = true ∨ ovB q (px, py, pi) = false := by cases ovB q (px, py, pi) <;> simp
                  have hsq : ovB (px, py, pi) q = true ∨ ovB (px, py, pi) q = false := by cases ovB (px, py, pi) q <;> simp
                  rcases hsq with hsq | hsq
                  · have HSQ := Lib.hid hsq
                    have hin := ones_look HI7.out HWQ.out.2.2 ((HUM.out _ HMQ.out).2 HSQ.out)
                    have hoq := ones_look hmq7 HWS.out.2.2 ((mem_ovN HRG.out HMS.out).2 HSQ.out)
                    have hop := ones_no hmp7 HWQ.out.2.2 (fun h => by have := (mem_ovN HRG.out HMQ.out).1 h; rw [ov_asym HSQ.out] at this; cases this)
                    have HTP2 := Lib.hid (HTP.out.trans (topB_no HQE.out (ov_asym HSQ.out)).symm)
                    obtain ⟨qx, qy, qi⟩ := q
                    unfold tvs at hW7
                    simp only at n0 n1 n2 m0 m1 m2 p2 hW7 hlq hlp hin hoq hop
                    have HW7 := Lib.hid hW7
                    clear h1 hqe hN7 hb7 hW7 hbf hbl hmq7 hmp7 hqs hsq
                    go_upto_region 21 with fail
                    rw [← HW7.out]
                    clear HW7 n0 n1 n2
                    go_wp2_with (first | (at_lookup; refine wpList_lookR rfl _ _ _ _ rfl _ _ _ rfl rfl hlq ?_) | (at_lookup; refine wpList_lookR rfl _ _ _ _ rfl _ _ _ rfl rfl hlp ?_) | (at_lookup; refine wpList_lookR rfl _ _ _ _ rfl _ _ _ rfl rfl hin ?_) | (at_lookup; refine wpList_lookR rfl _ _ _ _ rfl _ _ _ rfl rfl hoq ?_) | (at_lookup; refine wpList_lookR rfl _ _ _ _ rfl _ _ _ rfl rfl hop ?_))
                    go_roundw
                    case rel => exact ⟨j2 + 1, tp, by omega, by go_num, rfl, HTP2, HI7, HN7, HB7⟩
                    case measure => simp [intOf]; omega
                  · have HSQ := Lib.hid hsq
                    rcases hqs with hqs | hqs
                    · have HQS := Lib.hid hqs
                      have hin := ones_no HI7.out HWQ.out.2.2 (fun h => by have := (HUM.out _ HMQ.out).1 h; rw [HSQ.out] at this; cases this)
                      have hoq := ones_no hmq7 HWS.out.2.2 (fun h => by have := (mem_ovN HRG.out HMS.out).1 h; rw [HSQ.out] at this; cases this)
                      have hop := ones_look hmp7 HWQ.out.2.2 ((mem_ovN HRG.out HMQ.out).2 HQS.out)
                      have hlnq := fun ty => hmq7.len Tryz.underlying48 ty
                      rw [ones_len] at hlnq
                      have hnq := ovN_len L q
                      rw [← HM.out] at hnq
                      have HTY := Lib.hid (topB_yes HQE.out HQS.out)
                      have HQN := Lib.hid (rfl : ovN L q = ovN L q)
                      obtain ⟨Q1, hQ1⟩ : ∃ Q1, Q1 = ovN L q := ⟨_, rfl⟩
                      have HQ1 := Lib.hid hQ1
                      rw [← hQ1] at hlnq hnq hmq7 HTY
                      obtain ⟨ql, hql⟩ : ∃ ql, ql = Q1.length := ⟨_, rfl⟩
                      rw [← hql] at hlnq hnq HTY
                      have HTRA := Lib.hid (fun i (h : i ∈ Q1) => show i ∈ ovN L (px, py, pi) from by
                        rw [HQ1.out] at h
                        obtain ⟨t, ht, g1, g2⟩ := mem_nmS.1 h
                        exact mem_nmS.2 ⟨t, ht, ov_trans g1 HQS.out, g2⟩)
                      have HQW := Lib.hid (fun i (h : i ∈ Q1) => nm_wf HWF.out (show i ∈ nmS (fun t => ovB t q) L from by rw [HQ1.out] at h; exact h))
                      have HMQ7 := Lib.hid hmq7
                      have HLTP := Lib.hid (show pb < wr.heap.size ∧ ib < wr.heap.size ∧ w2.heap.size ≤ wr.heap.size from ⟨HN.out.lt, HI.out.lt, HB.out.size⟩)
                      obtain ⟨qx, qy, qi⟩ := q
                      unfold tvs at hW7
                      simp only at n0 n1 n2 m0 m1 m2 p2 hW7 hlq hlp hin hoq hop
                      have HW7 := Lib.hid hW7
                      clear h1 hqe hN7 hb7 hW7 hbf hbl hmq7 hmp7 hqs hsq hQ1 hql
                      go_upto_region 21 with fail
                      rw [← HW7.out]
                      clear HW7 n0 n1 n2
                      generalize wr.heap.size = qb at *
                      have HRI := Lib.hid (show pb < W7.heap.size ∧ ib < W7.heap.size ∧ w2.heap.size ≤ W7.heap.size from ⟨HN7.out.lt, HI7.out.lt, HB7.out.size⟩)
                      cases tp with
                      | true =>
                        have HTP2 := Lib.hid (show true = topB L (px, py, pi) (j2 + 1) by rw [HTY.out, ← HTP.out]; rfl)
                        go_wp2_with (first | (at_lookup; refine wpList_lookR rfl _ _ _ _ rfl _ _ _ rfl rfl hlq ?_) | (at_lookup; refine wpList_lookR rfl _ _ _ _ rfl _ _ _ rfl rfl hlp ?_) | (at_lookup; refine wpList_lookR rfl _ _ _ _ rfl _ _ _ rfl rfl hin ?_) | (at_lookup; refine wpList_lookR rfl _ _ _ _ rfl _ _ _ rfl rfl hoq ?_) | (at_lookup; refine wpList_lookR rfl _ _ _ _ rfl _ _ _ rfl rfl hop ?_) | (at_range; refine wpList_rangeM rfl _ _ rfl Tryz.underlying48 rfl HMQ7.out ?_; intro w8 cnt8 hit8 hb8 hs8))
                        have HIT8 := Lib.hid hit8
                        have HN8 := Lib.hid (HN7.out.keep hb8 HN7.out.lt)
                        have HI8 := Lib.hid (HI7.out.keep hb8)
                        have HB8 := Lib.hid (HB7.out.trans (hb8.mono HB7.out.size))
                        clear hit8 hb8 hs8 hlq hlp hin hoq hop hlnq m0 m1 m2 p2 HTP HTY HQ7 HN7 HI7 HB7 HMQ7 HN HI HB HLTP
                        generalize W7.heap.size = ri at *
                        go_loopw [16] (fun v16 wz => ∃ cnt, Hid (Itr Tryz.prog 31 wz bq ri (ones Q1) cnt) ∧ Hid (T1 wz pb 0 (px, py, pi)) ∧ Hid (MP Tryz.prog 31 wz ib (ones U)) ∧ Hid (Below w2.heap.size w2 wz)) (fun _ wz => wz.rangeLeft bq ri)
                        case atStart => exact ⟨cnt8, HIT8, HN8, HI8, HB8⟩
                        case round =>
                          clear HIT8 HN8 HI8 HB8
                          obtain ⟨cnt, HIT, HN, HI, HB⟩ := hrel
                          go_wp2_with (first | (at_next; refine wpList_nextO rfl _ rfl Tryz.underlying31 (l := Q1) rfl HIT.out ?_ ?_))
                          · go_wp2
                            go_roundw
                            case rel => exact ⟨j2 + 1, _, by omega, by go_num, rfl, HTP2, HI, HN, HB⟩
                            case measure => simp [intOf]; omega
                          · intro i w9 cnt9 hi hit9 hlt9 hof9 hs9 hen9
                            obtain ⟨r1, r2, r3⟩ := HRI.out
                            have hb9 := HB.out.trans (hof9.below HB.out.size (fun b hb => by rw [List.mem_singleton.1 hb]; exact r3))
                            have HN9 := Lib.hid (HN.out.off hof9 (by simp; omega))
                            have HI9 := Lib.hid (HI.out.off hof9 (by simp; omega))
                            have HIT9 := Lib.hid (show Itr Tryz.prog 31 w9 bq ri (ones Q1) cnt9 from hit9)
                            have HL9 := Lib.hid hlt9
                            have hlp9 := (HBF.out w9 hb9).1
                            have hon9 := ones_look (HBF.out w9 hb9).2 (HQW.out i hi) (HTRA.out i hi)
                            have HB9 := Lib.hid hb9
                            have p2 := HN9.out.c2
                            simp only [Nat.zero_add] at p2 hlp9
                            clear r1 r2 r3 hb9 hof9 hs9 hit9 hi hlt9
                            go_wp2_with (first | (at_lookup; refine wpList_lookR rfl _ _ _ _ rfl _ _ _ rfl rfl hlp9 ?_) | (at_lookup; refine wpList_lookR rfl _ _ _ _ rfl _ _ _ rfl rfl hon9 ?_))
                            go_roundw
                            case rel => exact ⟨cnt9, HIT9, HN9, HI9, HB9⟩
                            case measure => rw [HIT9.out.left_eq, HIT.out.left_eq]; exact HL9.out
                      | false =>
                        have HTP2 := Lib.hid (show ((ql : Int) == 0) = topB L (px, py, pi) (j2 + 1) by rw [HTY.out, ← HTP.out, Bool.false_or, Bool.eq_iff_iff]; simp)
                        go_wp2_with (first | (at_lookup; refine wpList_lookR rfl _ _ _ _ rfl _ _ _ rfl rfl hlq ?_) | (at_lookup; refine wpList_lookR rfl _ _ _ _ rfl _ _ _ rfl rfl hlp ?_) | (at_lookup; refine wpList_lookR rfl _ _ _ _ rfl _ _ _ rfl rfl hin ?_) | (at_lookup; refine wpList_lookR rfl _ _ _ _ rfl _ _ _ rfl rfl hoq ?_) | (at_lookup; refine wpList_lookR rfl _ _ _ _ rfl _ _ _ rfl rfl hop ?_) | (at_range; refine wpList_rangeM rfl _ _ rfl Tryz.underlying48 rfl HMQ7.out ?_; intro w8 cnt8 hit8 hb8 hs8))
                        have HIT8 := Lib.hid hit8
                        have HN8 := Lib.hid (HN7.out.keep hb8 HN7.out.lt)
                        have HI8 := Lib.hid (HI7.out.keep hb8)
                        have HB8 := Lib.hid (HB7.out.trans (hb8.mono HB7.out.size))
                        clear hit8 hb8 hs8 hlq hlp hin hoq hop hlnq m0 m1 m2 p2 HTP HTY HQ7 HN7 HI7 HB7 HMQ7 HN HI HB HLTP
                        generalize W7.heap.size = ri at *
                        go_loopw [16] (fun v16 wz => ∃ cnt, Hid (Itr Tryz.prog 31 wz bq ri (ones Q1) cnt) ∧ Hid (T1 wz pb 0 (px, py, pi)) ∧ Hid (MP Tryz.prog 31 wz ib (ones U)) ∧ Hid (Below w2.heap.size w2 wz)) (fun _ wz => wz.rangeLeft bq ri)
                        case atStart => exact ⟨cnt8, HIT8, HN8, HI8, HB8⟩
                        case round =>
                          clear HIT8 HN8 HI8 HB8
                          obtain ⟨cnt, HIT, HN, HI, HB⟩ := hrel
                          go_wp2_with (first | (at_next; refine wpList_nextO rfl _ rfl Tryz.underlying31 (l := Q1) rfl HIT.out ?_ ?_))
                          · go_wp2
                            go_roundw
                            case rel => exact ⟨j2 + 1, _, by omega, by go_num, rfl, HTP2, HI, HN, HB⟩
                            case measure => simp [intOf]; omega
                          · intro i w9 cnt9 hi hit9 hlt9 hof9 hs9 hen9
                            obtain ⟨r1, r2, r3⟩ := HRI.out
                            have hb9 := HB.out.trans (hof9.below HB.out.size (fun b hb => by rw [List.mem_singleton.1 hb]; exact r3))
                            have HN9 := Lib.hid (HN.out.off hof9 (by simp; omega))
                            have HI9 := Lib.hid (HI.out.off hof9 (by simp; omega))
                            have HIT9 := Lib.hid (show Itr Tryz.prog 31 w9 bq ri (ones Q1) cnt9 from hit9)
                            have HL9 := Lib.hid hlt9
                            have hlp9 := (HBF.out w9 hb9).1
                            have hon9 := ones_look (HBF.out w9 hb9).2 (HQW.out i hi) (HTRA.out i hi)
                            have HB9 := Lib.hid hb9
                            have p2 := HN9.out.c2
                            simp only [Nat.zero_add] at p2 hlp9
                            clear r1 r2 r3 hb9 hof9 hs9 hit9 hi hlt9
                            go_wp2_with (first | (at_lookup; refine wpList_lookR rfl _ _ _ _ rfl _ _ _ rfl rfl hlp9 ?_) | (at_lookup; refine wpList_lookR rfl _ _ _ _ rfl _ _ _ rfl rfl hon9 ?_))
                            go_roundw
                            case rel => exact ⟨cnt9, HIT9, HN9, HI9, HB9⟩
                            case measure => rw [HIT9.out.left_eq, HIT.out.left_eq]; exact HL9.out
                    · have HQS := Lib.hid hqs
                      have hin := ones_no HI7.out HWQ.out.2.2 (fun h => by have := (HUM.out _ HMQ.out).1 h; rw [HSQ.out] at this; cases this)
                      have hoq := ones_no hmq7 HWS.out.2.2 (fun h => by have := (mem_ovN HRG.out HMS.out).1 h; rw [HSQ.out] at this; cases this)
                      have hop := ones_no hmp7 HWQ.out.2.2 (fun h => by have := (mem_ovN HRG.out HMQ.out).1 h; rw [HQS.out] at this; cases this)
                      have HTP2 := Lib.hid (HTP.out.trans (topB_no HQE.out HQS.out).symm)
                      obtain ⟨qx, qy, qi⟩ := q
                      unfold tvs at hW7
                      simp only at n0 n1 n2 m0 m1 m2 p2 hW7 hlq hlp hin hoq hop
                      have HW7 := Lib.hid hW7
                      clear h1 hqe hN7 hb7 hW7 hbf hbl hmq7 hmp7 hqs hsq
                      go_upto_region 21 with fail
                      rw [← HW7.out]
                      clear HW7 n0 n1 n2
                      go_wp2_with (first | (at_lookup; refine wpList_lookR rfl _ _ _ _ rfl _ _ _ rfl rfl hlq ?_) | (at_lookup; refine wpList_lookR rfl _ _ _ _ rfl _ _ _ rfl rfl hlp ?_) | (at_lookup; refine wpList_lookR rfl _ _ _ _ rfl _ _ _ rfl rfl hin ?_) | (at_lookup; refine wpList_lookR rfl _ _ _ _ rfl _ _ _ rfl rfl hoq ?_) | (at_lookup; refine wpList_lookR rfl _ _ _ _ rfl _ _ _ rfl rfl hop ?_))
                      go_roundw
                      case rel => exact ⟨j2 + 1, tp, by omega, by go_num, rfl, HTP2, HI7, HN7, HB7⟩
                      case measure => simp [intOf]; omega
                · obtain rfl : j2 = m := by omega
                  have hltz3 : ¬ (j2 : Int) < j2 := by omega
                  obtain rfl : tp = true := HTP.out.trans (topB_all L (px, py, pi) HM.out)
                  have hlp := (HBF.out wr HB.out).1
                  have hpp := ones_no (HBF.out wr HB.out).2 HWS.out.2.2 (fun h => by have := (mem_ovN HRG.out HMS.out).1 h; rw [ov_irr] at this; cases this)
                  have p2 := HN.out.c2
                  simp only [Nat.zero_add] at p2 hlp hpp
                  go_wp2_with (first | (at_lookup; refine wpList_lookR rfl _ _ _ _ rfl _ _ _ rfl rfl hlp ?_) | (at_lookup; refine wpList_lookR rfl _ _ _ _ rfl _ _ _ rfl rfl hpp ?_))
                  go_roundw
                  case rel => exact ⟨k + 1, by omega, by go_num, HB⟩
                  case measure => simp [intOf]; omega
        · obtain rfl : k = m := by omega
          have hltz : ¬ (k : Int) < k := by omega
          have HB := Lib.hid (HB2.out.trans (HB.out.mono HB2.out.size))
          go_wp2_with (go_at_call 9; (with_reducible refine (HAW.out _).mono ?_); rintro e w9 ⟨rfl, hb⟩; have HB := Lib.hid (HB.out.trans (hb.mono HB.out.size)); clear hb)
          go_ret
          exact ⟨rfl, HB.out⟩
    · go_enter Tryz.func6, Tryz.ntmps6
      go_wp2_with (first
        | (go_at_call 10; (with_reducible refine HBU.out.mono ?_); rintro e w1 ⟨hb, hor⟩; rcases hor with ⟨hn, -⟩ | ⟨-, v, S, rfl, -, -⟩; (exact absurd hn hrg); have HB := Lib.hid hb; clear hb)
        | (go_at_call 9; (with_reducible refine (HAW.out _).mono ?_); rintro e w9 ⟨rfl, hb⟩; have HB := Lib.hid (HB.out.trans (hb.mono HB.out.size)); clear hb))
      go_ret
      exact ⟨rfl, HB.out⟩
  · have hbz : (40 : Int) < L.length := by omega
    have HB := Lib.hid (Below.refl w.heap.size w)
    clear hx hc hw hp hbig
    generalize L.length = m at *
    go_enter Tryz.func6, Tryz.ntmps6
    go_wp2_with (go_at_call 9; (with_reducible refine (HAW.out _).mono ?_); rintro e w9 ⟨rfl, hb⟩; have HB := Lib.hid (HB.out.trans (hb.mono HB.out.size)); clear hb)
    go_ret
    exact ⟨rfl, HB.out⟩
end Go.Proofs.YtadlobmhnkfnfaaGreat.Co
