/-
  StackTells: in which order a walk enters nodes, what is told of a range, how many nodes are entered, is what the document says, for any nodes, right or not, any place, any range; what is handed in stays. No condition.
-/
import Derived.Test.YtjobfpnlpfjoeaaSref
import Derived.Test.YtjobfpnlpfjoeaaSaw
import Derived.Test.YtjobfpnlpfjoeaaLift
namespace Go.Proofs.Ytjobfpnlpfjoeaa
open Go.ChangeShapes Go.WideShapes Go.ChangeAt Go.RowKit Go.Joins

theorem nodes_le {H : Type} {enc : TypeId × Value → H} {W : World} {d : DataW H} {p : List MemPlace} {q : Option Addr} {len cap : Nat}
    (h : DataW.Trod enc Try.prog W 0 (fun _ => true) true 22 (.slice q len cap) d p) : len ≤ cap := by
  obtain ⟨fuel, hf⟩ := h
  rcases Go.Deep.open_slice Try.underlying22 hf with ⟨hcs, _⟩ | ⟨a, len', cap', m, n, D, Pl, hcs, hb, hl, hm, hmm, hx, hi⟩
  · simp [Value.cells] at hcs
    obtain ⟨rfl, rfl, rfl⟩ := hcs
    exact Nat.le_refl _
  · simp [Value.cells] at hcs
    obtain ⟨rfl, rfl, rfl⟩ := hcs
    exact hl
theorem ints_eq (X : World) (q q' : Option Addr) (cq cq' : Nat) (L : List Int) (h : NS X q .i64 L) (h' : NS X q' .i64 L) (hl : L.length ≤ 8192) :
    Calls Try.prog 12 #[.slice q L.length cq, .slice q' L.length cq'] X fun e w' => e = .returned (.bool true) ∧ Below X.heap.size X w' := by
  refine (ints_any X q q' cq cq' L L h h' ⟨hl, hl⟩).mono ?_
  rintro e w' ⟨rfl, hb⟩
  exact ⟨by simp, hb⟩
theorem nodes_eq (X : World) (q q' : Option Addr) (cq cq' : Nat) (N : List Nd) (h : NdS X q N) (h' : NdS X q' N) (hl : N.length ≤ 8192) :
    Calls Try.prog 15 #[.slice q N.length cq, .slice q' N.length cq'] X fun e w' => e = .returned (.bool true) ∧ Below X.heap.size X w' := by
  refine (nodes_any X q q' cq cq' N N h h' ⟨hl, hl⟩).mono ?_
  rintro e w' ⟨rfl, hb⟩
  exact ⟨by simp, hb⟩
theorem allR_len {N : List Nd} {r : Int} : (allR N r).length ≤ N.length := by
  unfold allR
  split
  · rename_i h
    obtain ⟨h1, h2, h3⟩ := chk_ok h
    exact (en_once h1 _ h2 h3).2.2
  · exact Nat.zero_le _
theorem ranR_len {N : List Nd} {a b r : Int} : (ranR N a b r).length ≤ N.length := by
  unfold ranR
  split
  · rename_i h
    obtain ⟨h1, h2, h3⟩ := chk_ok h
    exact (en_once h1 _ h2 h3).2.2
  · exact Nat.zero_le _

set_option maxRecDepth 100000 in
set_option maxHeartbeats 6400000 in
theorem tells_walk (w : World) (p : Option Addr) (c : Nat) (N : List Nd) (r a b : Int) (hx : NdS w p N) (hp : p = none → c = 0) (hc : N.length ≤ c) :
    Calls Try.prog 3 #[.slice p N.length c, .int .i64 r, .int .i64 a, .int .i64 b] w fun e w' => e = .returned (.bool true) ∧ Below w.heap.size w w' := by
  have HAW := Lib.hid awake_any
  by_cases hbig : N.length ≤ 60
  · have hl : N.length ≤ 8192 := by omega
    have HCN := Lib.hid (CopyNodes_any w p c N hx hp hl)
    have HA := Lib.hid (fun X p c (h : NdS X p N) => All_any X p c N r h hl)
    have HL := Lib.hid (fun X p c (h : NdS X p N) => Leaves_any X p c N r a b h hl)
    have HRA := Lib.hid (fun X (hX : Below w.heap.size w X) => RAll X p c N r (hx.keep hX) hl hc)
    have HRL := Lib.hid (fun X (hX : Below w.heap.size w X) => RLeaves X p c N r a b (hx.keep hX) hl hc)
    have HIA := Lib.hid (fun X q q' cq cq' h h' => ints_eq X q q' cq cq' (allR N r) h h' (Nat.le_trans allR_len hl))
    have HIL := Lib.hid (fun X q q' cq cq' h h' => ints_eq X q q' cq cq' (tls N a b (ranR N a b r)) h h' (Nat.le_trans (tls_len N a b _) (Nat.le_trans ranR_len hl)))
    have HNO := Lib.hid (fun X q cq h (hX : Below w.heap.size w X) => nodes_eq X q p cq c N h (hx.keep hX) hl)
    have hbz : ¬ (60 : Int) < N.length := by omega
    clear hx hp hc hl
    generalize tls N a b (ranR N a b r) = L2 at *
    generalize (ranR N a b r).length = m2 at *
    generalize allR N r = L1 at *
    generalize chk N r = x at *
    have HNN : Hid (∀ (w' : World) v, w'.ownsRow w.heap.size 36 7 v N.length (flatN N) → ∃ q cq, v = .slice q N.length cq ∧ NdS w' q N) := Lib.hid (fun w' v h => by
      obtain ⟨-, q, cq, e, h2, -⟩ := row_nds h
      exact ⟨q, cq, e, h2⟩)
    generalize flatN N = FN at *
    generalize hd : N.length = d at *
    clear hd
    go_enter Try.func3, Try.ntmps3
    go_wp2_with (first
      | (go_at_call 9; (with_reducible refine HCN.out.mono ?_); rintro e w1 ⟨v, rfl, hr, hb⟩; obtain ⟨qi, ci, rfl, hn⟩ := HNN.out w1 v hr; have HN := Lib.hid hn; have HB := Lib.hid hb; clear hr hb hn)
      | (go_at_call 10; (with_reducible refine (HA.out _ _ _ HN.out).mono ?_); rintro e w2 ⟨v, rfl, hr, hb⟩; obtain ⟨q1, c1, rfl, hq⟩ := row_ints hr; have H1 := Lib.hid hq; have HN := Lib.hid (HN.out.keep hb); have HB := Lib.hid (HB.out.trans (hb.mono HB.out.size)); clear hr hb hq)
      | (go_at_call 11; (with_reducible refine (HRA.out _ HB.out).mono ?_); rintro e w3 ⟨v, rfl, hr, hb⟩; obtain ⟨q2, c2, rfl, hq⟩ := row_ints hr; have H2 := Lib.hid hq; have H1 := Lib.hid (H1.out.keep hb); have HN := Lib.hid (HN.out.keep hb); have HB := Lib.hid (HB.out.trans (hb.mono HB.out.size)); clear hr hb hq)
      | (go_at_call 12; (with_reducible refine (HIA.out _ _ _ _ _ H1.out H2.out).mono ?_); rintro e w4 ⟨rfl, hb⟩; have HN := Lib.hid (HN.out.keep hb); have HB := Lib.hid (HB.out.trans (hb.mono HB.out.size)); clear hb)
      | (go_at_call 13; (with_reducible refine (HL.out _ _ _ HN.out).mono ?_); rintro e w5 ⟨v, rfl, hr, hb⟩; obtain ⟨q3, c3, rfl, hq⟩ := row_ints hr; have H3 := Lib.hid hq; have HN := Lib.hid (HN.out.keep hb); have HB := Lib.hid (HB.out.trans (hb.mono HB.out.size)); clear hr hb hq)
      | (go_at_call 14; (with_reducible refine (HRL.out _ HB.out).mono ?_); rintro e w6 ⟨v, rfl, hr, hb⟩; obtain ⟨q4, c4, rfl, hq⟩ := row_ints hr; have H4 := Lib.hid hq; have H3 := Lib.hid (H3.out.keep hb); have HN := Lib.hid (HN.out.keep hb); have HB := Lib.hid (HB.out.trans (hb.mono HB.out.size)); clear hr hb hq)
      | (go_at_call 12; (with_reducible refine (HIL.out _ _ _ _ _ H3.out H4.out).mono ?_); rintro e w7 ⟨rfl, hb⟩; have HN := Lib.hid (HN.out.keep hb); have HB := Lib.hid (HB.out.trans (hb.mono HB.out.size)); clear hb)
      | (go_at_call 15; (with_reducible refine (HNO.out _ _ _ HN.out HB.out).mono ?_); rintro e w8 ⟨rfl, hb⟩; have HB := Lib.hid (HB.out.trans (hb.mono HB.out.size)); clear hb)
      | (go_at_call 8; (with_reducible refine (HAW.out _).mono ?_); rintro e w9 ⟨rfl, hb⟩; have HB := Lib.hid (HB.out.trans (hb.mono HB.out.size)); clear hb))
    go_ret
    exact ⟨rfl, HB.out⟩
  · have hbz : (60 : Int) < N.length := by omega
    clear hx hp hc
    generalize N.length = d at *
    go_enter Try.func3, Try.ntmps3
    go_wp2_with (go_at_call 8; (with_reducible refine (HAW.out _).mono ?_); rintro e w9 ⟨rfl, hb⟩; have HB := Lib.hid hb; clear hb)
    go_ret
    exact ⟨rfl, HB.out⟩

/- the row -/
set_option maxRecDepth 100000 in
theorem tellslaw_lifted (os : Os) (started : os.Started) (H : Type) (enc : TypeId × Value → H) :
    ReturnsInHanded {} Try.checked os 3 .any (Rows.stackTellsSpec.pre6 enc Try.prog Try.f3 Rows.stackTellsRow.domain false) (Rows.stackTellsSpec.post enc Try.prog Try.f3 false true false false) := by
  refine returnsInHanded_of_change (C := Try.checked) Try.own started (by kernel_rfl) Try.func3
    (ChangeSpec.witness6 (enc := enc) (C := Try.checked) false ⟨#[], #[.slice none 0 0, .int .i64 0, .int .i64 0, .int .i64 0], []⟩ 8 (by kernel_rfl) (by kernel_rfl) (by kernel_rfl) (by kernel_rfl)) ?_
  intro W base args ds gs before hval0 hW hcnd _
  have hval : ∀ (j : Nat) t v, Try.f3.params[j]? = some t → args[j]? = some v → Value.okWide Try.prog W .any base t v := hval0
  have hW' := hW
  obtain ⟨p, q, hA0, hV, rfl, hfz, hnd⟩ := hW
  have hA : DataW.TrodAll enc Try.prog W 0 (fun _ => true) true Try.f3.params.toList args.toList ds p := hA0
  rw [Try.params3] at hA hval
  obtain ⟨v0, vs0, d0, ds0, p0, q0, hargs, rfl, rfl, h0, r0⟩ := trodAll_cons hA
  obtain ⟨v1, vs1, d1, ds1, p1, q1, rfl, rfl, rfl, h1, r1⟩ := trodAll_cons r0
  obtain ⟨v2, vs2, d2, ds2, p2, q2, rfl, rfl, rfl, h2, r2⟩ := trodAll_cons r1
  obtain ⟨v3, vs3, d3, ds3, p3, q3, rfl, rfl, rfl, h3, r3⟩ := trodAll_cons r2
  obtain ⟨rfl, rfl, rfl⟩ := trodAll_nil r3
  obtain rfl : args = #[v0, v1, v2, v3] := by cases args; simp_all
  obtain ⟨rfl, rfl⟩ := trodVars_none hV
  obtain ⟨a0, len0, cap0, rfl⟩ := okWide_slice Try.underlying22 (hval 0 22 v0 rfl rfl)
  obtain ⟨xs0, rfl, hx0, hp0⟩ := open_nodes h0
  obtain ⟨a1, rfl, rfl, rfl, w1⟩ := open_int Try.underlying3 (hval 1 3 v1 rfl rfl) h1
  obtain ⟨a2, rfl, rfl, rfl, w2⟩ := open_int Try.underlying3 (hval 2 3 v2 rfl rfl) h2
  obtain ⟨a3, rfl, rfl, rfl, w3⟩ := open_int Try.underlying3 (hval 3 3 v3 rfl rfl) h3
  clear hA0 hval0
  simp only [List.append_nil] at hW'
  have hlt : ∀ x ∈ p0, x.block < W.heap.size := fun x hx => by simpa using hW'.lt x (by simpa using hx)
  refine (tells_walk W _ _ _ _ _ _ hx0 hp0 (nodes_le h0)).mono fun e W' ⟨he, hb⟩ => ?_
  subst he
  have hR : DataW.TrodAll enc Try.prog W' 0 (fun b => decide (b < W.heap.size)) true _ _ _ _ := (trodAll_cons_mk (Below.trod Try.laidOut (by kernel_rfl) (of_decide_eq_true (by kernel_rfl)) h0 hb (fun x hx => hlt x (by simp [hx]))) (trodAll_cons_mk (shut_int Try.underlying3 w1) (trodAll_cons_mk (shut_int Try.underlying3 w2) (trodAll_cons_mk (shut_int Try.underlying3 w3) trodAll_mk0))))
  simp only [List.append_nil] at hR
  exact ⟨_, rfl, law_post hW' (trodAll_cons_mk (shut_bool Try.underlying4 _) trodAll_mk0) hR rfl hb⟩

theorem tellslaw_holds : Rows.StackTellsSaid :=
  OpenClaim.holds_of_wide 3 Try.f3 rfl rfl rfl rfl rfl rfl rfl ⟨rfl, rfl, rfl, rfl, rfl⟩ rfl rfl rfl rfl rfl (by kernel_rfl) Try.func3 (by kernel_rfl)
    (of_decide_eq_true (by kernel_rfl)) (by unfold Func.isWrapper; first | (rw [if_pos (by decide +kernel)]; kernel_rfl) | (rw [if_neg (by decide +kernel)]; exact ⟨rfl, rfl⟩))
    (fun os started H enc _ => tellslaw_lifted os started H enc)
end Go.Proofs.Ytjobfpnlpfjoeaa
