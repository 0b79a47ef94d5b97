/-
  PoolHeight: a leaf is not high; an inner node is by one higher than the higher one of its kids; nobody is as high as there are nodes. For every list of nodes; no condition.
-/
import Derived.Test.YtaandlehildcdaaPk
namespace Go.Proofs.Ytaandlehildcdaa
open Go.ChangeShapes Go.WideShapes Go.ChangeAt Go.RowKit Go.Joins

/-- the heights as far as k, in a block of the law's own -/
def HK (w wr : World) (g m : Nat) (ns : List Nd) (k : Nat) : Prop := EB .i64 3 wr g (hl (ns.take k) ++ List.replicate (m - k) 0) ∧ Below w.heap.size w wr ∧ w.heap.size ≤ g
theorem HK.keep {w X w' : World} {g m : Nat} {ns : List Nd} {k : Nat} (h : HK w X g m ns k) (hb : Below X.heap.size X w') : HK w w' g m ns k :=
  ⟨h.1.keep hb h.1.lt, h.2.1.trans (hb.mono h.2.1.size), h.2.2⟩
theorem HK.set {w X : World} {g m : Nat} {ns : List Nd} {k : Nat} {h : Int} (H : HK w X g m ns k) (hk : k < m) (hm : m = ns.length) (e : (hl ns)[k]? = some h) : HK w (X.setCell ⟨g, k, none⟩ (.int .i64 h)) g m ns (k + 1) := by
  refine ⟨?_, H.2.1.setCell (p := ⟨g, k, none⟩) H.2.2 _, H.2.2⟩
  have hlk : (hl (ns.take k)).length = k := by rw [hl_len, List.length_take]; omega
  have h1 := H.1.set k h
  have h2 : (hl (ns.take k) ++ List.replicate (m - k) 0).set k h = hl (ns.take (k + 1)) ++ List.replicate (m - (k + 1)) 0 := by
    rw [List.set_append_right _ _ (by omega), hlk, Nat.sub_self, show m - k = (m - (k + 1)) + 1 by omega, List.replicate_succ, List.set_cons_zero]
    rw [← hl_take ns (k + 1), List.take_add_one, e, hl_take]
    simp
  rw [h2] at h1
  exact h1
theorem HK.below {w X : World} {g m : Nat} {ns : List Nd} {k : Nat} (H : HK w X g m ns k) : Below w.heap.size w X := H.2.1
theorem HK.cellk {w X : World} {g m : Nat} {ns : List Nd} {k : Nat} (H : HK w X g m ns k) (hk : k < m) (hm : m = ns.length) : ∃ x, X.cell? ⟨g, k, none⟩ = some (.int .i64 x) := by
  have hl1 : k < (hl (ns.take k) ++ List.replicate (m - k) 0).length := by
    rw [List.length_append, hl_len, List.length_take, List.length_replicate]
    omega
  exact ⟨_, H.1.cell (List.getElem?_eq_getElem hl1)⟩
theorem HK.at {w X : World} {g m : Nat} {ns : List Nd} {k j : Nat} {h : Int} (H : HK w X g m ns k) (e : (hl (ns.take k))[j]? = some h) : X.cell? ⟨g, j, none⟩ = some (.int .i64 h) :=
  H.1.cell (by rw [List.getElem?_append_left (List.getElem?_eq_some_iff.1 e).1]; exact e)
/-- as high as the first so many of these kids make it -/
def wnt (H : List Int) (xs : List Int) (t : Nat) : Int := (xs.take t).foldl (hUp H) 0
theorem wnt_step {H xs : List Int} {t : Nat} {x h : Int} (e : xs[t]? = some x) (eh : H[x.toNat]? = some h) : wnt H xs (t + 1) = max (wnt H xs t) (h + 1) := by
  unfold wnt
  rw [List.take_add_one, e, List.foldl_append]
  show hUp H _ x = _
  unfold hUp hOf
  rw [List.getD_eq_getElem?_getD, eh, Option.getD_some]

set_option maxRecDepth 100000 in
set_option maxHeartbeats 6400000 in
theorem height_walk (p : Option Addr) (cap : Nat) (ns : List Nd) (w : World) (hx : NdS w p ns) :
    Calls Try.prog 6 #[.slice p ns.length cap] w fun e w' => e = .returned (.bool true) ∧ Below w.heap.size w w' := by
  by_cases hbig : 300 < ns.length
  · have hbz : (300 : Int) < ns.length := by omega
    clear hx
    go_enter Try.func6, Try.ntmps6
    go_wp2_with (go_at_call 9; (with_reducible refine (awake_any _).mono ?_); rintro e w1 ⟨rfl, hb⟩)
    go_ret
    exact ⟨rfl, hb⟩
  have HX := Lib.hid hx
  have HRI := Lib.hid (Right_any w p cap ns hx (by omega))
  by_cases hrt : rtB ns = false
  · rw [hrt] at HRI
    have hbz : ¬ (300 : Int) < ns.length := by omega
    clear hx HX
    generalize ns.length = m at *
    go_enter Try.func6, Try.ntmps6
    go_wp2_with (first
      | (go_at_call 13; (with_reducible refine HRI.out.mono ?_); rintro e w1 ⟨rfl, hb⟩; have HB := Lib.hid hb; clear hb)
      | (go_at_call 9; (with_reducible refine (awake_any _).mono ?_); rintro e w2 ⟨rfl, hb⟩; have HB := Lib.hid (HB.out.trans (hb.mono HB.out.size)); clear hb))
    go_ret
    exact ⟨rfl, HB.out⟩
  have hrt' : rtB ns = true := by simpa using hrt
  have hR := (rtB_iff ns).1 hrt'
  rw [hrt'] at HRI
  have HRT := Lib.hid hR
  have HHI := Lib.hid (fun X (hX : Below w.heap.size w X) i (hi : i < ns.length) => Height_any X p cap ns i (hx.keep hX) (by omega) hR hi)
  have HHA := Lib.hid (fun X (hX : Below w.heap.size w X) i (hi : ¬ (0 ≤ i ∧ i < (ns.length : Int))) => Height_arg X p cap ns i (hx.keep hX) (by omega) hrt' hi)
  obtain ⟨m, hm⟩ : ∃ m, m = ns.length := ⟨_, rfl⟩
  have HM := Lib.hid hm
  rw [← hm] at hbig HRI HHI HHA
  rw [← hm]
  have hbz : ¬ (300 : Int) < m := by omega
  have hmk : ∀ w : World, (Instr.makeSlice 43 (.int .i64 m) (.int .i64 m)).run Try.prog w = .ok (.slice (some ⟨w.heap.size, 0, none⟩) m m) (w.alloc (.cells (madeCells #[.int .i64 0] m) 3)) := fun w => mkI w m m (Nat.le_refl _) (by omega)
  unfold pair at HHI HHA
  clear hx hm hrt hrt' hR
  go_enter Try.func6, Try.ntmps6
  go_wp2_with (go_at_call 13; (with_reducible refine HRI.out.mono ?_); rintro e w1 ⟨rfl, hb⟩; have HB := Lib.hid hb; clear hb)
  have HS0 : Hid (HK w (w1.alloc (.cells (madeCells #[.int .i64 0] m) 3)) w1.heap.size m ns 0) := Lib.hid ⟨by
    have := EB.made .i64 3 w1 m
    rw [List.take_zero, Nat.sub_zero]
    exact this, HB.out.trans ((Below.refl _ w1).alloc HB.out.size _), HB.out.size⟩
  clear HRI hmk
  go_loopw [29] (fun i wr => ∃ k : Nat, k ≤ m ∧ i = .int .i64 k ∧ Hid (HK w wr w1.heap.size m ns k)) (fun i _ => m - (intOf i).toNat)
  case atStart => exact ⟨0, Nat.zero_le _, rfl, HS0⟩
  case round =>
    clear HS0
    obtain ⟨k, hk, rfl, HS⟩ := hrel
    by_cases hlt : k < m
    · have hltz : (k : Int) < m := by omega
      obtain ⟨n, hne⟩ : ∃ n, ns[k]? = some n := ⟨_, List.getElem?_eq_getElem (by have := HM.out; omega)⟩
      obtain ⟨b, off, rfl, h1⟩ := HX.out.at hne
      have h2 := h1.keep HS.out.2.1 h1.lt
      have n0 := h2.c0
      have n1 := h2.c1
      have n2 := h2.c2
      have n3 := h2.c3
      have n4 := h2.c4
      have n5 := h2.c5
      have n6 := h2.c6
      have HLK := Lib.hid (fun X => lkids_any X n)
      have HKD := Lib.hid (fun x (h : x ∈ ksL n) => HRT.out.kid hne h)
      have HNE := Lib.hid hne
      have HSB := Lib.hid (fun o => HS.out.keep ((Below.refl _ wr).alloc (Nat.le_refl _) o))
      have HBN := Lib.hid (N1.new wr n 34)
      obtain ⟨hgt, hge⟩ : ∃ h, (hl ns)[k]? = some h := ⟨_, List.getElem?_eq_getElem (by rw [hl_len]; have := HM.out; omega)⟩
      have hbd := hl_bound HRT.out k hgt hge
      obtain ⟨hq, rfl⟩ : ∃ hq : Nat, hgt = hq := ⟨hgt.toNat, by omega⟩
      have HGE := Lib.hid hge
      have HCH : Hid (∀ X, Below w.heap.size w X → Calls Try.prog 11 #[.slice (some ⟨b, off, none⟩) m cap, .int .i64 k] X fun e w' => e = .returned (.tuple #[.int .i64 hq, .int .i64 0]) ∧ Below X.heap.size X w') := Lib.hid (fun X hX => by
        refine (HHI.out X hX k hlt).mono ?_
        rintro e w' ⟨h, rfl, h1, h2⟩
        rw [HGE.out] at h1
        cases h1
        exact ⟨rfl, h2⟩)
      have hqk : hq ≤ k := by omega
      clear h1 h2 hne hge hbd HHI
      obtain ⟨kk, L, R, g, t, a, q⟩ := n
      simp only at n0 n1 n2 n3 n4 n5 n6
      unfold nv at HLK
      unfold nvs at HBN
      dsimp only at HLK HBN
      go_wp2_with fail
      with_reducible refine (HCH.out _ (HSB.out _).below).mono ?_
      rintro e w3 ⟨rfl, hb⟩
      have HS3 := Lib.hid ((HSB.out (.cells #[.int .u8 kk, .int .i64 L, .int .i64 R, .int .i64 g, .int .i64 t, .int .i64 a, .int .i64 q] 34)).keep hb)
      have HN3 := Lib.hid (HBN.out.keep hb (by simp))
      obtain ⟨x0, ck⟩ := HS3.out.cellk hlt HM.out
      have fk := HS3.out.1.free k
      have hgl := HS.out.1.lt
      have hne1 : ¬ wr.heap.size = w1.heap.size := by omega
      have hne2 : ¬ w1.heap.size = wr.heap.size := by omega
      have m0 := HN3.out.c0
      have m1 := HN3.out.c1
      have m2 := HN3.out.c2
      have m3 := HN3.out.c3
      have m4 := HN3.out.c4
      have m5 := HN3.out.c5
      have m6 := HN3.out.c6
      simp only [Nat.zero_add] at m0 m1 m2 m3 m4 m5 m6
      clear hb
      have HS4 := Lib.hid (HS3.out.set hlt HM.out HGE.out)
      go_wp2_with fail
      with_reducible refine (HLK.out _).mono ?_
      rintro e w5 ⟨v, rfl, hR, hb⟩
      obtain ⟨p5, c5, rfl, hNS⟩ := row_ints hR
      have HNS := Lib.hid hNS
      have HS5 := Lib.hid (HS4.out.keep hb)
      clear hR hb hNS
      go_wp2_with fail
      clear ck fk m0 m1 m2 m3 m4 m5 m6 n0 n1 n2 n3 n4 n5 n6 HLK HSB HBN HCH HS HS3 HS4 HN3 HX HHA
      have hfin : wnt (hl (ns.take k)) (ksL (kk, L, R, g, t, a, q)) (ksL (kk, L, R, g, t, a, q)).length = (hq : Int) := by
        unfold wnt
        rw [List.take_length]
        have h5 := hl_get HNE.out
        rw [HGE.out] at h5
        exact (Option.some.inj h5).symm
      have HFIN := Lib.hid hfin
      have HKT : Hid (∀ j, j < k → ∃ hj : Nat, (hl (ns.take k))[j]? = some (hj : Int) ∧ hj ≤ 300 ∧ w5.cell? ⟨w1.heap.size, j, none⟩ = some (.int .i64 hj)) := Lib.hid (fun j hj => by
        have e0 : (hl ns)[j]? = some ((hl ns)[j]'(by rw [hl_len]; have := HM.out; omega)) := List.getElem?_eq_getElem _
        have hbd := hl_bound HRT.out j _ e0
        obtain ⟨hn', hne'⟩ : ∃ hn' : Nat, (hl ns)[j]'(by rw [hl_len]; have := HM.out; omega) = hn' := ⟨((hl ns)[j]'(by rw [hl_len]; have := HM.out; omega)).toNat, by omega⟩
        rw [hne'] at e0 hbd
        refine ⟨hn', ?_, by omega, HS5.out.at ?_⟩
        · rw [← hl_take, List.getElem?_take, if_pos hj]
          exact e0
        · rw [← hl_take, List.getElem?_take, if_pos (by omega)]
          exact e0)
      obtain ⟨ks, hks⟩ : ∃ ks, ks = ksL (kk, L, R, g, t, a, q) := ⟨_, rfl⟩
      rw [← hks] at HFIN HNS HKD
      rw [← hks]
      obtain ⟨d, hd⟩ : ∃ d, d = ks.length := ⟨_, rfl⟩
      have HD := Lib.hid hd
      have hd2 : d ≤ 2 := by rw [hd, hks]; exact ksL_len _
      rw [← hd] at HFIN
      rw [← hd]
      clear hd hks hfin
      go_loopw [8, 58] (fun v i wr' => ∃ (z : Nat) (wv : Nat), z ≤ d ∧ i = .int .i64 z ∧ v = .int .i64 wv ∧ wr' = w5 ∧ Hid (wnt (hl (ns.take k)) ks z = wv)) (fun _ i _ => d - (intOf i).toNat)
      case atStart => exact ⟨0, 0, Nat.zero_le _, rfl, rfl, rfl, Lib.hid rfl⟩
      case round =>
        rename_i v i
        obtain ⟨z, wv, hz, rfl, rfl, rfl, HW⟩ := hrel
        by_cases hzl : z < d
        · have hzz : (z : Int) < d := by omega
          obtain ⟨x, hxe⟩ : ∃ x, ks[z]? = some x := ⟨_, List.getElem?_eq_getElem (by have := HD.out; omega)⟩
          obtain ⟨hx0, hxk⟩ := HKD.out x (List.mem_of_getElem? hxe)
          obtain ⟨j, rfl⟩ : ∃ j : Nat, x = j := ⟨x.toNat, by omega⟩
          obtain ⟨hj, hje, hj3, cj⟩ := HKT.out j (by omega)
          rcases HNS.out with h0 | ⟨b6, off6, rfl, hc6⟩
          · rw [h0] at hxe; simp at hxe
          have cx := hc6 z _ hxe
          have hst := wnt_step (H := hl (ns.take k)) hxe (by rw [Int.toNat_natCast]; exact hje)
          rw [HW.out] at hst
          have HST := Lib.hid hst
          have g1 : (j : Int) < (k : Int) := hxk
          have g2 : (j : Int) < m := by omega
          have hsw : IntKind.i64.wrap ((hj : Int) + 1) = ((hj + 1 : Nat) : Int) := by rw [IntWalk.i64_in _ (by omega)]; omega
          clear hxe hje hc6 hst hx0 hxk
          go_wp2
          go_roundw
          case rel =>
            by_cases hc : wv < hj + 1
            · exact ⟨z + 1, hj + 1, by omega, by go_num, by rw [if_pos (by omega)]; rfl, trivial, Lib.hid (by rw [HST.out]; omega)⟩
            · exact ⟨z + 1, wv, by omega, by go_num, by rw [if_neg (by omega)], trivial, Lib.hid (by rw [HST.out]; omega)⟩
          case measure => simp [intOf]; omega
        · obtain rfl : z = d := by omega
          have hzz : ¬ (z : Int) < z := by omega
          have hwq : wv = hq := by have h1 := HW.out; have h2 := HFIN.out; omega
          subst hwq
          go_wp2
          go_roundw
          case rel => exact ⟨k + 1, by omega, by go_num, HS5⟩
          case measure => simp [intOf]; omega
    · have hltz : ¬ (k : Int) < m := by omega
      obtain rfl : k = m := by omega
      have HBB := Lib.hid HS.out.below
      have HH1 := Lib.hid (fun X (hX : Below w.heap.size w X) => HHA.out X hX (-1) (by omega))
      have HH2 := Lib.hid (fun X (hX : Below w.heap.size w X) => HHA.out X hX (k : Int) (by omega))
      have HBL := Lib.hid (EB.new .i64 3 wr [-1, (k : Int)])
      clear HS HHA HHI HX
      go_wp2
      go_loopw [85] (fun i wq => ∃ z : Int, (z = 0 ∨ z = 1 ∨ z = 2) ∧ i = .int .i64 z ∧ Hid (EB .i64 3 wq wr.heap.size [-1, (k : Int)]) ∧ Hid (Below w.heap.size w wq)) (fun i _ => 2 - (intOf i).toNat)
      case atStart => exact ⟨0, .inl rfl, rfl, HBL, Lib.hid (HBB.out.trans ((Below.refl _ wr).alloc HBB.out.size _))⟩
      case round =>
        clear HBL HBB
        obtain ⟨z, hz, rfl, HE, HB⟩ := hrel
        rcases hz with rfl | rfl | rfl
        · have cz := HE.out.cell (i := 0) (x := -1) rfl
          go_wp2_with (go_at_call 11; (with_reducible refine (HH1.out _ HB.out).mono ?_); rintro e w6 ⟨rfl, hb⟩; have HE := Lib.hid (HE.out.keep hb HE.out.lt); have HB := Lib.hid (HB.out.trans (hb.mono HB.out.size)); clear hb)
          go_roundw
          case rel => exact ⟨1, .inr (.inl rfl), by go_num, HE, HB⟩
          case measure => simp [intOf]
        · have cz := HE.out.cell (i := 1) (x := (k : Int)) rfl
          go_wp2_with (go_at_call 11; (with_reducible refine (HH2.out _ HB.out).mono ?_); rintro e w6 ⟨rfl, hb⟩; have HE := Lib.hid (HE.out.keep hb HE.out.lt); have HB := Lib.hid (HB.out.trans (hb.mono HB.out.size)); clear hb)
          go_roundw
          case rel => exact ⟨2, .inr (.inr rfl), by go_num, HE, HB⟩
          case measure => simp [intOf]
        · go_wp2_with (go_at_call 9; (with_reducible refine (awake_any _).mono ?_); rintro e w9 ⟨rfl, hb⟩; have HB := Lib.hid (HB.out.trans (hb.mono HB.out.size)); clear hb)
          go_ret
          exact ⟨rfl, HB.out⟩

set_option maxRecDepth 100000 in
theorem heightlaw_lifted (os : Os) (started : os.Started) (H : Type) (enc : TypeId × Value → H) :
    ReturnsInHanded {} Try.checked os 6 .any (Rows.poolHeightSpec.pre6 enc Try.prog Try.f6 Rows.poolHeightRow.domain false) (Rows.poolHeightSpec.post enc Try.prog Try.f6 false true false false) := by
  refine returnsInHanded_of_change (C := Try.checked) Try.own started (by kernel_rfl) Try.func6
    (ChangeSpec.witness6 (enc := enc) (C := Try.checked) false ⟨#[], #[.slice none 0 0], []⟩ 8 (by kernel_rfl) (by kernel_rfl) (by kernel_rfl) (by kernel_rfl)) ?_
  intro W base args ds gs before hval0 hW hcnd _
  have hval : ∀ (j : Nat) t v, Try.f6.params[j]? = some t → args[j]? = some v → Value.okWide Try.prog W .any base t v := hval0
  have hW' := hW
  obtain ⟨p, q, hA0, hV, rfl, hfz, hnd⟩ := hW
  have hA : DataW.TrodAll enc Try.prog W 0 (fun _ => true) true Try.f6.params.toList args.toList ds p := hA0
  rw [Try.params6] at hA hval
  obtain ⟨v0, vs0, d0, ds0, p0, q0, hargs, rfl, rfl, h0, r0⟩ := trodAll_cons hA
  obtain ⟨rfl, rfl, rfl⟩ := trodAll_nil r0
  obtain rfl : args = #[v0] := by cases args; simp_all
  obtain ⟨rfl, rfl⟩ := trodVars_none hV
  obtain ⟨a0, len0, cap0, rfl⟩ := okWide_slice Try.underlying22 (hval 0 22 v0 rfl rfl)
  obtain ⟨xs0, rfl, hx0, hp0⟩ := open_nodes h0
  clear hA0 hval0
  simp only [List.append_nil] at hW'
  have hlt : ∀ x ∈ p0, x.block < W.heap.size := fun x hx => by simpa using hW'.lt x (by simpa using hx)
  refine (height_walk _ _ _ W hx0).mono fun e W' ⟨he, hb⟩ => ?_
  subst he
  have hR : DataW.TrodAll enc Try.prog W' 0 (fun b => decide (b < W.heap.size)) true _ _ _ _ := (trodAll_cons_mk (Below.trod Try.laidOut (by kernel_rfl) (of_decide_eq_true (by kernel_rfl)) h0 hb (fun x hx => hlt x (by simp [hx]))) trodAll_mk0)
  simp only [List.append_nil] at hR
  exact ⟨_, rfl, law_post hW' (trodAll_cons_mk (shut_bool Try.underlying4 _) trodAll_mk0) hR rfl hb⟩

theorem heightlaw_holds : Rows.PoolHeightSaid :=
  OpenClaim.holds_of_wide 6 Try.f6 rfl rfl rfl rfl rfl rfl rfl ⟨rfl, rfl, rfl, rfl, rfl⟩ rfl rfl rfl rfl rfl (by kernel_rfl) Try.func6 (by kernel_rfl)
    (of_decide_eq_true (by kernel_rfl)) (by unfold Func.isWrapper; first | (rw [if_pos (by decide +kernel)]; kernel_rfl) | (rw [if_neg (by decide +kernel)]; exact ⟨rfl, rfl⟩))
    (fun os started H enc _ => heightlaw_lifted os started H enc)
end Go.Proofs.Ytaandlehildcdaa
