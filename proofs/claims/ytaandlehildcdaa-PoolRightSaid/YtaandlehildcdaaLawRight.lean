/-
  PoolRight: nodes are right just if each of them can be put, one by one, where it stands. For every list of nodes; no condition.
-/
import Derived.Test.YtaandlehildcdaaPk
namespace Go.Proofs.Ytaandlehildcdaa
open Go.ChangeShapes Go.WideShapes Go.ChangeAt Go.RowKit Go.Joins

/-- the pool behind the first k nodes, and whether all of them could be put -/
def RS (w X : World) (P m : Nat) (ns : List Nd) (k : Nat) (f : Bool) : Prop := ∃ N, PK w X P m N ∧ N.length ≤ k ∧ (f = true → N = ns.take k) ∧ (f = true ↔ Rt (ns.take k))
theorem rt_more {ns : List Nd} {k : Nat} {n : Nd} (e : ns[k]? = some n) : Rt (ns.take (k + 1)) ↔ Rt (ns.take k) ∧ mayB (ns.take k) n = true := by
  rw [List.take_add_one, e]
  exact ⟨fun h => h.of_snoc, fun h => h.1.snoc h.2⟩
/-- one node more: what is told -/
theorem RS.put {w X : World} {P m : Nat} {ns : List Nd} {k : Nat} {f : Bool} {n : Nd} (h : RS w X P m ns k f) (e : ns[k]? = some n) (hk : k < m) (hm : m ≤ 300) :
    ∃ (at' e' : Int) (f' : Bool), (Calls Try.prog 17 #[.pointer (some ⟨P, 0, none⟩), nv n] X fun z w' => z = .returned (.tuple #[.int .i64 at', .int .i64 e']) ∧ RS w w' P m ns (k + 1) (f && f')) ∧
      ((e' = 0 ∧ f' = true ∧ (f = true → at' = k)) ∨ (e' = 50 ∧ f' = false ∧ at' = 0)) := by
  obtain ⟨N, hP, hN, h1, h2⟩ := h
  have hc := hP.put n (by omega)
  have hkl : k < ns.length := (List.getElem?_eq_some_iff.1 e).1
  by_cases hmay : mayB N n = true
  · have hp : putN N m n = (N ++ [n], (N.length : Int), 0) := by
      unfold putN
      rw [if_pos hmay, if_neg (by omega)]
    rw [hp] at hc
    refine ⟨N.length, 0, true, hc.mono ?_, .inl ⟨rfl, rfl, fun hf => by rw [h1 hf, List.length_take]; omega⟩⟩
    rintro z w' ⟨rfl, hP'⟩
    refine ⟨rfl, N ++ [n], hP', by simp; omega, ?_, ?_⟩
    · intro hf
      simp at hf
      rw [h1 hf, List.take_add_one, e]
      rfl
    · rw [Bool.and_true, rt_more e, h2]
      refine ⟨fun h => ⟨h, ?_⟩, fun h => h.1⟩
      rw [← h1 (h2.2 h)]
      exact hmay
  · have hp : putN N m n = (N, 0, 50) := by
      unfold putN
      rw [if_neg hmay]
    rw [hp] at hc
    refine ⟨0, 50, false, hc.mono ?_, .inr ⟨rfl, rfl, rfl⟩⟩
    rintro z w' ⟨rfl, hP'⟩
    refine ⟨rfl, N, hP', by omega, by simp, ?_⟩
    rw [Bool.and_false, rt_more e]
    refine ⟨fun h => (by cases h), fun h => ?_⟩
    rw [← h1 (h2.2 h.1)] at h
    exact absurd h.2 hmay
theorem RS.keep {w X w' : World} {P m : Nat} {ns : List Nd} {k : Nat} {f : Bool} (h : RS w X P m ns k f) (hb : Below X.heap.size X w') : RS w w' P m ns k f := by
  obtain ⟨N, hP, h⟩ := h
  exact ⟨N, hP.keep hb, h⟩
theorem RS.below {w X : World} {P m : Nat} {ns : List Nd} {k : Nat} {f : Bool} (h : RS w X P m ns k f) : Below w.heap.size w X := by
  obtain ⟨N, hP, _⟩ := h
  exact hP.below

set_option maxRecDepth 100000 in
set_option maxHeartbeats 6400000 in
theorem right_walk (p : Option Addr) (cap : Nat) (ns : List Nd) (w : World) (hx : NdS w p ns) :
    Calls Try.prog 5 #[.slice p ns.length cap] w fun e w' => e = .returned (.bool true) ∧ Below w.heap.size w w' := by
  by_cases hbig : 300 < ns.length
  · have hbz : (300 : Int) < ns.length := by omega
    clear hx
    go_enter Try.func5, Try.ntmps5
    go_wp2_with (go_at_call 9; (with_reducible refine (awake_any _).mono ?_); rintro e w1 ⟨rfl, hb⟩)
    go_ret
    exact ⟨rfl, hb⟩
  have HX := Lib.hid hx
  have HRI := Lib.hid (fun X (hX : Below w.heap.size w X) => Right_any X p cap ns (hx.keep hX) (by omega))
  have HEQ := Lib.hid (fun X (hX : Below w.heap.size w X) q c N (hN : NdS X q N) (e : N = ns) => by
    subst e
    have := nodes_any X q p c cap N N hN (hx.keep hX) (by omega)
    rw [decide_eq_true rfl] at this
    exact this)
  obtain ⟨m, hm⟩ : ∃ m, m = ns.length := ⟨_, rfl⟩
  have HM := Lib.hid hm
  have hN0 := New_pk w w m (Below.refl _ _) (by omega)
  have HNEW := Lib.hid hN0
  rw [← hm] at hbig HRI HEQ
  rw [← hm]
  have hbz : ¬ (300 : Int) < m := by omega
  clear hx hm hN0
  go_enter Try.func5, Try.ntmps5
  go_wp2_with (go_at_call 16; (with_reducible refine HNEW.out.mono ?_); rintro e w1 ⟨rfl, hP⟩
               have HS := Lib.hid (show RS w w1 w.heap.size m ns 0 true from ⟨[], hP, Nat.le_refl _, fun _ => by simp, by simp [Rt.nil]⟩)
               clear hP)
  go_loopw [5, 24] (fun v i wr => ∃ (k : Nat) (f : Bool), k ≤ m ∧ i = .int .i64 k ∧ v = .bool f ∧ Hid (RS w wr w.heap.size m ns k f)) (fun _ i _ => m - (intOf i).toNat)
  case atStart => exact ⟨0, true, Nat.zero_le _, rfl, rfl, HS⟩
  case round =>
    clear HS HNEW
    rename_i v i
    obtain ⟨k, f, hk, rfl, rfl, HS⟩ := hrel
    by_cases hlt : k < m
    · have hltz : (k : Int) < m := by omega
      obtain ⟨n, hne⟩ : ∃ n, ns[k]? = some n := ⟨_, List.getElem?_eq_getElem (by have := HM.out; omega)⟩
      obtain ⟨b, off, rfl, h1⟩ := HX.out.at hne
      have h2 := h1.keep HS.out.below h1.lt
      have n0 := h2.c0
      have n1 := h2.c1
      have n2 := h2.c2
      have n3 := h2.c3
      have n4 := h2.c4
      have n5 := h2.c5
      have n6 := h2.c6
      have HPUT := Lib.hid (fun o => (HS.out.keep ((Below.refl _ wr).alloc (Nat.le_refl _) o)).put hne hlt (by omega))
      obtain ⟨at', e', f', hC0, hcase⟩ := HPUT.out (.cells (nvs n).toArray 34)
      have HC := Lib.hid hC0
      clear h1 h2 hne HPUT HS HRI HEQ hC0
      obtain ⟨kk, L, R, g, t, a, q⟩ := n
      simp only at n0 n1 n2 n3 n4 n5 n6
      unfold nv nvs at HC
      dsimp only at HC
      rcases hcase with ⟨rfl, rfl, hat⟩ | ⟨rfl, rfl, rfl⟩
      · rw [Bool.and_true] at HC
        cases f
        · clear hat
          go_wp2_with (go_at_call 17; (with_reducible refine HC.out.mono ?_); rintro e w3 ⟨rfl, hS⟩; have HS := Lib.hid hS; clear hS)
          go_roundw
          case rel => exact ⟨k + 1, false, by omega, by go_num, rfl, HS⟩
          case measure => simp [intOf]; omega
        · obtain rfl := hat rfl
          clear hat
          go_wp2_with (go_at_call 17; (with_reducible refine HC.out.mono ?_); rintro e w3 ⟨rfl, hS⟩; have HS := Lib.hid hS; clear hS)
          go_roundw
          case rel => exact ⟨k + 1, true, by omega, by go_num, rfl, HS⟩
          case measure => simp [intOf]; omega
      · rw [Bool.and_false] at HC
        cases f
        · go_wp2_with (go_at_call 17; (with_reducible refine HC.out.mono ?_); rintro e w3 ⟨rfl, hS⟩; have HS := Lib.hid hS; clear hS)
          go_roundw
          case rel => exact ⟨k + 1, false, by omega, by go_num, rfl, HS⟩
          case measure => simp [intOf]; omega
        · go_wp2_with (go_at_call 17; (with_reducible refine HC.out.mono ?_); rintro e w3 ⟨rfl, hS⟩; have HS := Lib.hid hS; clear hS)
          go_roundw
          case rel => exact ⟨k + 1, false, by omega, by go_num, rfl, HS⟩
          case measure => simp [intOf]; omega
    · have hltz : ¬ (k : Int) < m := by omega
      obtain rfl : k = m := by omega
      obtain ⟨N, hP, hNl, hf1, hf2⟩ := HS.out
      rw [List.take_of_length_le (by have := HM.out; omega)] at hf1 hf2
      have hrt : rtB ns = f := by rw [Bool.eq_iff_iff, hf2, rtB_iff]
      rw [hrt] at HRI
      have HP := Lib.hid hP
      have HB := Lib.hid hP.below
      have HF1 := Lib.hid hf1
      have hNn : f = true → N.length = k := fun h => by rw [hf1 h]; exact HM.out.symm
      have HNO := Lib.hid (fun X (hX : PK w X w.heap.size k N) => hX.Nodes (by omega))
      clear hrt hP hf1 hf2 HS
      cases f
      · clear hNn HNO HEQ
        go_wp2_with (first
          | (go_at_call 13; (with_reducible refine (HRI.out _ HB.out).mono ?_); rintro e w3 ⟨rfl, hb⟩; have HB := Lib.hid (HB.out.trans (hb.mono HB.out.size)); clear hb)
          | (go_at_call 9; (with_reducible refine (awake_any _).mono ?_); rintro e w9 ⟨rfl, hb⟩; have HB := Lib.hid (HB.out.trans (hb.mono HB.out.size)); clear hb))
        go_ret
        exact ⟨rfl, HB.out⟩
      · have hNk := hNn rfl
        have hNe := HF1.out rfl
        rw [hNk] at HNO
        have HEQ2 := Lib.hid (fun X (hX : Below w.heap.size w X) q c (hN : NdS X q N) => HEQ.out X hX q c N hN hNe)
        clear hNn hNk hNe HEQ HF1
        go_wp2_with (first
          | (go_at_call 13; (with_reducible refine (HRI.out _ HB.out).mono ?_); rintro e w3 ⟨rfl, hb⟩; have HP := Lib.hid (HP.out.keep hb); have HB := Lib.hid (HB.out.trans (hb.mono HB.out.size)); clear hb)
          | (go_at_call 21; (with_reducible refine (HNO.out _ HP.out).mono ?_); rintro e w4 ⟨q, c, rfl, hNd, -, -, hb⟩; have HND := Lib.hid hNd; have HB := Lib.hid (HB.out.trans (hb.mono HB.out.size)); clear hb hNd)
          | (go_at_call 15; (with_reducible refine (HEQ2.out _ HB.out _ _ HND.out).mono ?_); rintro e w5 ⟨rfl, hb⟩; have HB := Lib.hid (HB.out.trans (hb.mono HB.out.size)); clear hb)
          | (go_at_call 9; (with_reducible refine (awake_any _).mono ?_); rintro e w9 ⟨rfl, hb⟩; have HB := Lib.hid (HB.out.trans (hb.mono HB.out.size)); clear hb))
        go_ret
        exact ⟨rfl, HB.out⟩

set_option maxRecDepth 100000 in
theorem rightlaw_lifted (os : Os) (started : os.Started) (H : Type) (enc : TypeId × Value → H) :
    ReturnsInHanded {} Try.checked os 5 .any (Rows.poolRightSpec.pre6 enc Try.prog Try.f5 Rows.poolRightRow.domain false) (Rows.poolRightSpec.post enc Try.prog Try.f5 false true false false) := by
  refine returnsInHanded_of_change (C := Try.checked) Try.own started (by kernel_rfl) Try.func5
    (ChangeSpec.witness6 (enc := enc) (C := Try.checked) false ⟨#[], #[.slice none 0 0], []⟩ 8 (by kernel_rfl) (by kernel_rfl) (by kernel_rfl) (by kernel_rfl)) ?_
  intro W base args ds gs before hval0 hW hcnd _
  have hval : ∀ (j : Nat) t v, Try.f5.params[j]? = some t → args[j]? = some v → Value.okWide Try.prog W .any base t v := hval0
  have hW' := hW
  obtain ⟨p, q, hA0, hV, rfl, hfz, hnd⟩ := hW
  have hA : DataW.TrodAll enc Try.prog W 0 (fun _ => true) true Try.f5.params.toList args.toList ds p := hA0
  rw [Try.params5] at hA hval
  obtain ⟨v0, vs0, d0, ds0, p0, q0, hargs, rfl, rfl, h0, r0⟩ := trodAll_cons hA
  obtain ⟨rfl, rfl, rfl⟩ := trodAll_nil r0
  obtain rfl : args = #[v0] := by cases args; simp_all
  obtain ⟨rfl, rfl⟩ := trodVars_none hV
  obtain ⟨a0, len0, cap0, rfl⟩ := okWide_slice Try.underlying22 (hval 0 22 v0 rfl rfl)
  obtain ⟨xs0, rfl, hx0, hp0⟩ := open_nodes h0
  clear hA0 hval0
  simp only [List.append_nil] at hW'
  have hlt : ∀ x ∈ p0, x.block < W.heap.size := fun x hx => by simpa using hW'.lt x (by simpa using hx)
  refine (right_walk _ _ _ W hx0).mono fun e W' ⟨he, hb⟩ => ?_
  subst he
  have hR : DataW.TrodAll enc Try.prog W' 0 (fun b => decide (b < W.heap.size)) true _ _ _ _ := (trodAll_cons_mk (Below.trod Try.laidOut (by kernel_rfl) (of_decide_eq_true (by kernel_rfl)) h0 hb (fun x hx => hlt x (by simp [hx]))) trodAll_mk0)
  simp only [List.append_nil] at hR
  exact ⟨_, rfl, law_post hW' (trodAll_cons_mk (shut_bool Try.underlying4 _) trodAll_mk0) hR rfl hb⟩

theorem rightlaw_holds : Rows.PoolRightSaid :=
  OpenClaim.holds_of_wide 5 Try.f5 rfl rfl rfl rfl rfl rfl rfl ⟨rfl, rfl, rfl, rfl, rfl⟩ rfl rfl rfl rfl rfl (by kernel_rfl) Try.func5 (by kernel_rfl)
    (of_decide_eq_true (by kernel_rfl)) (by unfold Func.isWrapper; first | (rw [if_pos (by decide +kernel)]; kernel_rfl) | (rw [if_neg (by decide +kernel)]; exact ⟨rfl, rfl⟩))
    (fun os started H enc _ => rightlaw_lifted os started H enc)
end Go.Proofs.Ytaandlehildcdaa
