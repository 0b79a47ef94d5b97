/-
  Names in a row, of which some were dropped, in memory (alive.Names): Has, Between, Count, Drop. No condition but those typed at each theorem.
-/
import Derived.Test.YtajpboclicnopaaGreatMBa
import Derived.Test.YtajpboclicnopaaGreatAd
import Derived.Test.YtajpboclicnopaaGreatLt
import Derived.BigQuiet
namespace Go.Proofs.YtajpboclicnopaaGreat.Bd
open Go.RowKit Go.Sort
/-- where a row of names lies -/
structure NmP where
  vn : Value
  br : Nat
  bo : Nat
  ba : Nat
  bw : Nat
/-- the blocks that a drop writes -/
def mbl (P : NmP) : List Nat := [P.br, P.bo, P.ba, P.bw]
/-- a row of the names of SP, of which those of A are there -/
structure NmM (w : World) (b o : Nat) (SP A : List S3) (P : NmP) : Prop where
  cn : w.cell? ⟨b, o, none⟩ = some P.vn
  rn : w.ownsRow 0 32 1 P.vn SP.length ((SP.map (·.2.2)).map (Value.int .u32))
  ru : ∃ R O, RnM w b (o + 1) SP.length (alA SP A) P.br P.bo R O
  dp : ∃ z FA FW, DpM w b (o + 3) SP.length (alA SP A) z P.ba P.bw FA FW
  ne : P.bo ≠ P.ba ∧ P.bo ≠ P.bw
  few : SP.length ≤ 8192
  nd : SP.Nodup
section
variable {w w' : World} {b o : Nat} {SP A : List S3} {P : NmP}
theorem NmM.off (h : NmM w b o SP A P) {S : List Nat} (g : Off S w w') (h1 : b ∉ S) (h2 : ∀ x ∈ mbl P, x ∉ S) (h3 : ∀ k, P.vn.ownBlock = some k → k ∉ S) : NmM w' b o SP A P := by
  obtain ⟨R, O, hr⟩ := h.ru
  obtain ⟨z, FA, FW, hd⟩ := h.dp
  exact ⟨g.cell h.cn h1, row_offS h.rn g h3, ⟨R, O, hr.off g h1 (h2 _ (by simp [mbl])) (h2 _ (by simp [mbl]))⟩, ⟨z, FA, FW, hd.off g h1 (h2 _ (by simp [mbl])) (h2 _ (by simp [mbl]))⟩, h.ne, h.few, h.nd⟩
theorem NmM.keep (h : NmM w b o SP A P) (g : Below w.heap.size w w') : NmM w' b o SP A P :=
  h.off (Off.of (S := []) g (Nat.le_refl _)) (by simp) (by simp) (by simp)
theorem NmM.lt (h : NmM w b o SP A P) : b < w.heap.size ∧ (∀ x ∈ mbl P, x < w.heap.size) ∧ ∀ k, P.vn.ownBlock = some k → k < w.heap.size := by
  obtain ⟨R, O, hr⟩ := h.ru
  obtain ⟨z, FA, FW, hd⟩ := h.dp
  refine ⟨World.block_lt_of_cell? _ _ h.cn, fun x hx => ?_, fun k hk => (row_lt h.rn hk).2⟩
  simp only [mbl, List.mem_cons, List.not_mem_nil, or_false] at hx
  rcases hx with rfl | rfl | rfl | rfl
  · exact hr.rb.lt
  · exact hr.ob.lt
  · exact hd.ab.lt
  · exact hd.wb.lt
/-- blocks that are neither of runs nor of numbers are none that a drop writes -/
theorem NmM.apart (h : NmM w b o SP A P) {x : Nat} {c : Array Value} {t : TypeId} (hx : w.heap[x]? = some (.cells c t (0, 0))) (h1 : t ≠ 189) (h2 : t ≠ 3) : x ∉ mbl P := by
  obtain ⟨R, O, hr⟩ := h.ru
  obtain ⟨z, FA, FW, hd⟩ := h.dp
  simp only [mbl, List.mem_cons, List.not_mem_nil, or_false, not_or]
  exact ⟨types_ne hx hr.rb h1, types_ne hx hr.ob h2, types_ne hx hd.ab h2, types_ne hx hd.wb h2⟩
theorem NmM.own (h : NmM w b o SP A P) : ∀ k, P.vn.ownBlock = some k → k ∉ mbl P := fun k hk => by
  obtain ⟨c, e⟩ := row_type h.rn hk
  exact h.apart e (by decide) (by decide)
theorem NmM.out (h : NmM w b o SP A P) : b ∉ mbl P := by
  obtain ⟨R, O, hr⟩ := h.ru
  obtain ⟨z, FA, FW, hd⟩ := h.dp
  simp only [mbl, List.mem_cons, List.not_mem_nil, or_false, not_or]
  exact ⟨hr.ne.1, hr.ne.2.1, hd.ne.1, hd.ne.2.1⟩
theorem alA_same {A' : List S3} (hA : ∀ s ∈ SP, s ∈ A' ↔ s ∈ A) : alA SP A' = alA SP A := by
  funext q
  cases hq : SP[q]? with
  | none => rw [alA_end (List.getElem?_eq_none_iff.1 hq), alA_end (List.getElem?_eq_none_iff.1 hq)]
  | some s => rw [alA_at hq, alA_at hq]; exact decide_eq_decide.2 (hA s (List.mem_of_getElem? hq))
theorem NmM.same {A' : List S3} (h : NmM w b o SP A P) (hA : ∀ s ∈ SP, s ∈ A' ↔ s ∈ A) : NmM w b o SP A' P := by
  have e := alA_same hA
  obtain ⟨R, O, hr⟩ := h.ru
  obtain ⟨z, FA, FW, hd⟩ := h.dp
  exact ⟨h.cn, h.rn, ⟨R, O, e ▸ hr⟩, ⟨z, FA, FW, e ▸ hd⟩, h.ne, h.few, h.nd⟩
set_option maxRecDepth 100000 in
theorem nhas_any (h : NmM w b o SP A P) {q : Nat} (hq : q ≤ SP.length) :
    Calls Tryz.prog 41 #[.pointer (some ⟨b, o, none⟩), .int .i64 q] w fun e w' => e = .returned (.bool (alA SP A q)) ∧ Below w.heap.size w w' := by
  obtain ⟨R, O, hr⟩ := h.ru
  have HH := Lib.hid (hasP_any hr hq)
  have cn := h.cn
  generalize alA SP A q = al at *
  clear hr h hq
  go_enter Tryz.func41, Tryz.ntmps41
  go_wp2_with (go_at_call 66; (with_reducible refine HH.out.mono ?_); rintro e w2 ⟨rfl, hb⟩; have HB2 := Lib.hid hb; clear hb)
  go_ret
  exact ⟨rfl, HB2.out⟩
/-- the next place is e, ahead of k or not -/
def NX (SP A : List S3) (k q e : Nat) : Prop := q ≤ e ∧ e ≤ SP.length ∧ (e < k → ∃ s, SP[e]? = some s ∧ sg SP A q k = s :: sg SP A (e + 1) k) ∧ (k ≤ e → sg SP A q k = [])
theorem nxt_any (h : NmM w b o SP A P) {k q : Nat} (hq : q ≤ SP.length) (hk : k ≤ SP.length) :
    Calls Tryz.prog 72 #[.pointer (some ⟨b, o + 1, none⟩), .int .i64 q] w fun x w' => (∃ e : Nat, x = .returned (.int .i64 e) ∧ NX SP A k q e) ∧ Below w.heap.size w w' := by
  obtain ⟨R, O, hr⟩ := h.ru
  refine (from_any hr hq).mono ?_
  rintro x w' ⟨⟨e, rfl, h4, h5, h6, h7⟩, hb⟩
  obtain ⟨g1, g2⟩ := sg_next SP A h4 h7 h6 h5 hk
  refine ⟨⟨e, rfl, h4, h5, fun he => ?_, g2⟩, hb⟩
  obtain ⟨s, e1, -, e2⟩ := g1 he
  exact ⟨s, e1, e2⟩
set_option maxRecDepth 100000 in
set_option maxHeartbeats 3200000 in
theorem nbetween_any (h : NmM w b o SP A P) {i j : Nat} (hi : i ≤ SP.length) (hj : j ≤ SP.length) :
    Calls Tryz.prog 45 #[.pointer (some ⟨b, o, none⟩), .int .i64 i, .int .i64 j] w fun e w' => (∃ v, e = .returned v ∧ w'.ownsRow w.heap.size 32 1 v (sg SP A i j).length ((ids (sg SP A i j)).map (Value.int .u32))) ∧ Below w.heap.size w w' := by
  obtain ⟨-, pn, cpn, evn, hnn, -, hcn⟩ := row_u h.rn
  have c0 := h.cn
  rw [evn] at c0
  have HNN := Lib.hid hnn
  have HN := Lib.hid (fun X q (hb : Below w.heap.size w X) (hq : q ≤ SP.length) => nxt_any (h.keep hb) hq hj)
  have HFW := Lib.hid h.few
  have HSL := Lib.hid (sg_len SP A i j)
  obtain ⟨Y, hY⟩ : ∃ Y, Y = sg SP A i j := ⟨_, rfl⟩
  have HY := Lib.hid hY
  rw [← hY]
  rw [← hY] at HSL
  obtain ⟨n, en⟩ : ∃ n, n = SP.length := ⟨_, rfl⟩
  have EN := Lib.hid en
  rw [← en] at hi hj HFW c0 hcn
  clear h hY en hnn evn
  go_enter Tryz.func45, Tryz.ntmps45
  go_wp2_with (go_at_call 72; (with_reducible refine (HN.out _ i (Below.refl _ _) (by rw [← EN.out]; exact hi)).mono ?_); rintro e w2 ⟨⟨e0, rfl, hn0⟩, hb⟩; have HB := Lib.hid hb; have HN0 := Lib.hid hn0; clear hb hn0)
  go_loopw [7, 8] (fun v pl wr => ∃ (e q : Nat) (T : List S3), pl = .int .i64 e ∧ Hid (wr.ownsRow w.heap.size 32 1 v (ids T).length ((ids T).map (Value.int .u32))) ∧ Hid (Below w.heap.size w wr) ∧ Hid (Y = T ++ sg SP A q j) ∧ Hid (NX SP A j q e)) (fun _ pl _ => n - (intOf pl).toNat)
  case atStart => exact ⟨e0, i, [], rfl, Lib.hid (World.ownsRow_nil ..), HB, HY, HN0⟩
  case round =>
    clear HB HN0
    obtain ⟨e, q, T, rfl, HR, HB, HT, HX⟩ := hrel
    obtain ⟨x1, x2, x3, x4⟩ := HX.out
    rw [← EN.out] at x2
    have d0 := (HB.out.cell (World.block_lt_of_cell? _ _ c0)).trans c0
    by_cases hek : e < j
    · have hekz : (e : Int) < j := by omega
      have hen : e < n := by omega
      obtain ⟨s, hs1, hs2⟩ := x3 hek
      have HS2 := Lib.hid hs2
      obtain ⟨lo, yv, id⟩ := s
      obtain ⟨nb, noff, rfl, hc2⟩ : ∃ nb noff, pn = some ⟨nb, noff, none⟩ ∧ wr.cell? ⟨nb, noff + e, none⟩ = some (.int .u32 id) := by
        have hne : (SP.map (·.2.2))[e]? = some id := by rw [List.getElem?_map, hs1]; rfl
        rcases HNN.out.keep HB.out with h0 | ⟨nb, noff, e', h0⟩
        · rw [h0] at hne; simp at hne
        · exact ⟨nb, noff, e', h0 e id hne⟩
      have HTL : Hid (T.length + 1 ≤ n) := Lib.hid (by have := HSL.out; rw [HT.out, hs2, ← EN.out] at this; simp at this; omega)
      have hsz := HB.out.size
      have HFn := HFW.out
      have HN1 : Hid (∀ X, Below w.heap.size w X → Calls Tryz.prog 72 #[.pointer (some ⟨b, o + 1, none⟩), .int .i64 ((e : Int) + 1)] X fun x w' => (∃ e3 : Nat, x = .returned (.int .i64 e3) ∧ NX SP A j (e + 1) e3) ∧ Below X.heap.size X w') := Lib.hid (fun X hb => by have := HN.out X (e + 1) hb (by rw [← EN.out]; omega); rw [show ((e + 1 : Nat) : Int) = (e : Int) + 1 by omega] at this; exact this)
      clear hs1 hs2 x3 x4
      generalize hTl : T.length = tl at *
      have HTL2 := Lib.hid hTl
      have hidl : (ids T).length = tl := by rw [ids_len, hTl]
      rw [hidl] at HR
      have hTL := HTL.out
      have HIL := Lib.hid hidl
      clear hTl hidl
      go_wp2_with (first
        | (at_builtin; refine wpList_list info_u rfl (by decide) (by decide) under_u _ rfl (.tmp 23) (.tmp 31) rfl w.heap.size _ tl _ rfl (HR.out.alloc _) (some ⟨wr.heap.size, 0, none⟩) 1 1 [.int .u32 id] (by simp [Act.eval]) rfl (.inr ⟨_, rfl, one_at wr (.int .u32 id) 32⟩) (by simp [Value.oneCell']) (by omega) (by simp; omega) ?_; intro v' w' h1 h2 _; have H1 := Lib.hid h1; have H2 := Lib.hid ((HB.out.alloc hsz _).grown h2 (by simp; omega) (fun q e => own_geB HR.out q e)); clear h1 h2)
        | (go_at_call 72; (with_reducible refine (HN1.out _ H2.out).mono ?_); rintro x w3 ⟨⟨e3, rfl, hn3⟩, hb⟩; have HR3 := Lib.hid (row_off H1.out (Off.of (S := []) hb (Nat.le_refl _)) (by simp)); have HB3 := Lib.hid (H2.out.trans (hb.mono H2.out.size)); have HN3 := Lib.hid hn3; clear hb hn3))
      go_roundw
      case rel =>
        refine ⟨e3, e + 1, T ++ [(lo, yv, id)], rfl, Lib.hid ?_, HB3, Lib.hid ?_, HN3⟩
        · rw [ids_snoc, List.length_append, HIL.out, List.map_append]; exact HR3.out
        · rw [HT.out, HS2.out]; simp
      case measure => simp [intOf]; have := HN3.out.1; have := HN3.out.2.1; rw [← EN.out] at this; omega
    · have hekz : ¬ (e : Int) < j := by omega
      have h4 := x4 (by omega)
      have HY2 : Hid (Y = T) := Lib.hid (by rw [HT.out, h4, List.append_nil])
      clear x1 x3 x4 h4
      go_wp2
      go_ret
      rw [HY2.out]
      exact ⟨⟨_, rfl, by have := HR.out; rw [ids_len] at this; exact this⟩, HB.out⟩
set_option maxRecDepth 100000 in
set_option maxHeartbeats 1600000 in
theorem ndrop_any (h : NmM w b o SP A P) {q : Nat} {s : S3} (hq : SP[q]? = some s) (hA : s ∈ A) :
    Calls Tryz.prog 67 #[.pointer (some ⟨b, o, none⟩), .int .i64 q] w fun e w' => e = .returned (.tuple #[]) ∧ NmM w' b o SP (drp A s) P ∧ Off (mbl P) w w' := by
  have hql := (List.getElem?_eq_some_iff.1 hq).1
  obtain ⟨R, O, hr⟩ := h.ru
  obtain ⟨z, FA, FW, hd⟩ := h.dp
  have hal : alA SP A q = true := by rw [alA_at hq]; exact decide_eq_true hA
  have hless : ∀ x, alA SP (drp A s) x = (alA SP A x && decide (x ≠ q)) := alA_less h.nd hq (fun t => mem_drp)
  have hn1 : P.br ≠ P.ba := types_ne hr.rb hd.ab (by decide)
  have hn2 : P.br ≠ P.bw := types_ne hr.rb hd.wb (by decide)
  have HR := Lib.hid (pdrop_any hr hql hal _ hless)
  have HD := Lib.hid (fun X (hb : Off [P.br, P.bo] w X) => dadd_any (hd.off hb (by simp; exact ⟨hr.ne.1, hr.ne.2.1⟩) (by simp; exact ⟨Ne.symm hn1, Ne.symm h.ne.1⟩) (by simp; exact ⟨Ne.symm hn2, Ne.symm h.ne.2⟩)) hql hal _ hless)
  have H := Lib.hid h
  have HN := Lib.hid (show P.br ≠ P.ba ∧ P.br ≠ P.bw ∧ b ≠ P.ba ∧ b ≠ P.bw from ⟨hn1, hn2, hd.ne.1, hd.ne.2.1⟩)
  have cn := h.cn
  clear hr hd hless hal h hq hql hn1 hn2
  go_enter Tryz.func67, Tryz.ntmps67
  go_wp2_with (first
    | (go_at_call 104; (with_reducible refine HR.out.mono ?_); rintro e w2 ⟨rfl, hr, ho⟩; have HO2 := Lib.hid ho; have HR2 := Lib.hid hr; clear hr ho)
    | (go_at_call 105; (with_reducible refine (HD.out _ HO2.out).mono ?_); rintro e w3 ⟨rfl, hd, ho⟩; have HO3 := Lib.hid ho; have HD3 := Lib.hid hd; clear hd ho))
  go_end0
  obtain ⟨R', O', hr'⟩ := HR2.out
  obtain ⟨m1, m2, m3, m4⟩ := HN.out
  have hoff : Off (mbl P) w w3 := (HO2.out.mono (T := mbl P) (fun k _ hk => by simp [mbl] at hk ⊢; exact hk.elim .inl (fun h => .inr (.inl h)))).via HO3.out (fun k _ hk => by simp [mbl] at hk ⊢; exact .inr (.inr hk))
  exact ⟨rfl, ⟨hoff.cell H.out.cn H.out.out, row_offS H.out.rn hoff H.out.own, ⟨R', O', hr'.off HO3.out (by simp; exact ⟨m3, m4⟩) (by simp; exact ⟨m1, m2⟩) (by simp; exact H.out.ne)⟩, HD3.out, H.out.ne, H.out.few, H.out.nd⟩, hoff⟩
end
end Go.Proofs.YtajpboclicnopaaGreat.Bd
