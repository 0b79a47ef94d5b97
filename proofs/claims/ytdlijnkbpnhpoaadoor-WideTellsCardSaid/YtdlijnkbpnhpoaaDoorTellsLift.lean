/-
  The law WideTells' third argument, opened and read again; and its row and card out of its walk, which is a premise here (it is not walked yet).
-/
import Derived.Test.YtdlijnkbpnhpoaaDoorLawDigits
namespace Go.Proofs.YtdlijnkbpnhpoaaDoor
open Go.RowKit Go.ChangeShapes Go.WideShapes Go.ChangeAt Go.Joins

theorem Tryd.cells26 : Tryd.prog.cellsOf 26 = 5 := by kernel_rfl
theorem Tryd.cells22 : Tryd.prog.cellsOf 22 = 1 := by kernel_rfl
theorem Tryd.cells2 : Tryd.prog.cellsOf 2 = 1 := by kernel_rfl
theorem Tryd.cells9 : Tryd.prog.cellsOf 9 = 1 := by kernel_rfl
theorem list5 {α : Type} {l : List α} (h : l.length = 5) : ∃ a b c d e, l = [a, b, c, d, e] := by
  match l, h with
  | [a, b, c, d, e], _ => exact ⟨a, b, c, d, e, rfl⟩
set_option maxRecDepth 100000 in
theorem open26 {H : Type} {enc : TypeId × Value → H} {W : World} {base b0 : Nat} {spare : Nat → Bool} {held : Bool} {r : Reach} {v : Value} {d : DataW H} {p : List MemPlace}
    (hv : Value.okWide Tryd.prog W r b0 26 v) (h : DataW.Trod enc Tryd.prog W base spare held 26 v d p) :
    ∃ (n m i j : Int) (s : ByteArray), v = .agg #[.int .u64 n, .int .u64 m, .int .i64 i, .int .i64 j, .string s] ∧ d = .agg [.lit (.int .u64 n), .lit (.int .u64 m), .lit (.int .i64 i), .lit (.int .i64 j), .lit (.string s.data.toList)] ∧ p = [] ∧
      (Lit.int .u64 n).wf = true ∧ (Lit.int .u64 m).wf = true ∧ (Lit.int .i64 i).wf = true ∧ (Lit.int .i64 j).wf = true ∧ s.size ≤ maxLen := by
  obtain ⟨⟨cs⟩, rfl, hsz⟩ := okWide_struct Tryd.underlying26 hv
  rw [Tryd.cells26] at hsz
  obtain ⟨c0, c1, c2, c3, c4, rfl⟩ := list5 (by simpa using hsz)
  · obtain ⟨fuel, hf⟩ := h
    obtain ⟨xs, k, _, hx, _, hlen, hfs⟩ := DataW.trod_struct Tryd.underlying26 hf
    obtain ⟨y0, y1, y2, y3, y4, rfl⟩ := list5 (by simpa using hlen)
    · clear hf hv
      have h0 : DataW.trod enc Tryd.prog W base spare held k 22 [c0] = some y0 := by have q := hfs 0 { name := "N", type := 22, offset := 0, embedded := false, tag := "", pkgPath := "", byteOffset := 0 } rfl; dsimp only at q; rw [Tryd.cells22] at q; simpa [Value.cells] using q
      have h1 : DataW.trod enc Tryd.prog W base spare held k 22 [c1] = some y1 := by have q := hfs 1 { name := "M", type := 22, offset := 1, embedded := false, tag := "", pkgPath := "", byteOffset := 8 } rfl; dsimp only at q; rw [Tryd.cells22] at q; simpa [Value.cells] using q
      have h2 : DataW.trod enc Tryd.prog W base spare held k 2 [c2] = some y2 := by have q := hfs 2 { name := "I", type := 2, offset := 2, embedded := false, tag := "", pkgPath := "", byteOffset := 16 } rfl; dsimp only at q; rw [Tryd.cells2] at q; simpa [Value.cells] using q
      have h3 : DataW.trod enc Tryd.prog W base spare held k 2 [c3] = some y3 := by have q := hfs 3 { name := "J", type := 2, offset := 3, embedded := false, tag := "", pkgPath := "", byteOffset := 24 } rfl; dsimp only at q; rw [Tryd.cells2] at q; simpa [Value.cells] using q
      have h4 : DataW.trod enc Tryd.prog W base spare held k 9 [c4] = some y4 := by have q := hfs 4 { name := "S", type := 9, offset := 4, embedded := false, tag := "", pkgPath := "", byteOffset := 32 } rfl; dsimp only at q; rw [Tryd.cells9] at q; simpa [Value.cells] using q
      obtain ⟨n, e0, rfl, w0⟩ := DataW.trod_int Tryd.underlying22 h0
      obtain ⟨m, e1, rfl, w1⟩ := DataW.trod_int Tryd.underlying22 h1
      obtain ⟨i, e2, rfl, w2⟩ := DataW.trod_int Tryd.underlying2 h2
      obtain ⟨j, e3, rfl, w3⟩ := DataW.trod_int Tryd.underlying2 h3
      obtain ⟨s, e4, rfl, w4⟩ := DataW.trod_string Tryd.underlying9 h4
      simp at e0 e1 e2 e3 e4
      subst e0 e1 e2 e3 e4
      simp at hx
      exact ⟨n, m, i, j, s, rfl, hx.1, hx.2, w0, w1, w2, w3, w4⟩
theorem read26 {H : Type} {enc : TypeId × Value → H} {n m i j : Int} {s : ByteArray} (h0 : (Lit.int .u64 n).wf = true) (h1 : (Lit.int .u64 m).wf = true) (h2 : (Lit.int .i64 i).wf = true) (h3 : (Lit.int .i64 j).wf = true) (h4 : s.size ≤ maxLen) (W' : World) (sp : Nat → Bool) :
    DataW.Trod enc Tryd.prog W' 0 sp true 26 (.agg #[.int .u64 n, .int .u64 m, .int .i64 i, .int .i64 j, .string s]) (.agg [.lit (.int .u64 n), .lit (.int .u64 m), .lit (.int .i64 i), .lit (.int .i64 j), .lit (.string s.data.toList)]) [] := by
  have := trod_struct_mk (enc := enc) (w := W') (base := 0) (spare := sp) (held := true) (n := 1) (cs := [.int .u64 n, .int .u64 m, .int .i64 i, .int .i64 j, .string s]) (xs := [(.lit (.int .u64 n), []), (.lit (.int .u64 m), []), (.lit (.int .i64 i), []), (.lit (.int .i64 j), []), (.lit (.string s.data.toList), [])]) Tryd.underlying26 (by rw [Tryd.cells26]; rfl)
    (by simp [DataW.trod, Tryd.underlying22, Tryd.underlying2, Tryd.underlying9, Tryd.cells22, Tryd.cells2, Tryd.cells9, h0, h1, h2, h3, h4])
  exact ⟨_, by simpa [Value.cells] using this⟩
/-- what the law's walk has to tell. -/
def TellsWalk : Prop := ∀ (a b n m : Nat) (i j : Int) (s : ByteArray) (W : World), a < B128 → b < B128 → n < B64 → m < B64 → -9223372036854775808 ≤ i → i < 9223372036854775808 → -9223372036854775808 ≤ j → j < 9223372036854775808 →
  Lib.TabIs Tryd.prog W "internal/strconv.uint64pow10" .u64 Lib.pow10Tab →
  Calls Tryd.prog 3 #[.agg #[.int .u64 (hi a), .int .u64 (lo a)], .agg #[.int .u64 (hi b), .int .u64 (lo b)], .agg #[.int .u64 (lo n), .int .u64 (lo m), .int .i64 i, .int .i64 j, .string s]] W fun e W' => e = .returned (.bool true) ∧ Below W.heap.size W W'
theorem lo_of {x : Int} (h : (Lit.int .u64 x).wf = true) : ∃ n : Nat, n < B64 ∧ x = lo n := by
  obtain ⟨a, b⟩ := of_wf h
  exact ⟨x.toNat, by unfold B64; omega, by unfold lo B64; omega⟩
theorem i64_of {x : Int} (h : (Lit.int .i64 x).wf = true) : -9223372036854775808 ≤ x ∧ x < 9223372036854775808 := by
  have := bounds_i64 h
  omega

set_option maxRecDepth 100000 in
theorem tells_lifted (hwalk : TellsWalk) (os : Os) (started : os.Started) (H : Type) (enc : TypeId × Value → H) :
    ReturnsInHanded {} Tryd.checked os 3 .any (fun w args => (Rows.wideTellsSpec.pre enc Tryd.prog Tryd.f3 [] false w args ∧ laidMetH Tryd.prog laid3 w) ∧ sizedMet enc Tryd.prog Tryd.f3 (OpenSpec.ofChange Rows.wideTellsSpec) false w args)
      (Rows.wideTellsSpec.post enc Tryd.prog Tryd.f3 false true false false) := by
  refine returnsInHanded_of_change_and (C := Tryd.checked) (X := fun w _ => laidMetH Tryd.prog laid3 w) (fun _ _ _ hh h => h.of_heap hh) Tryd.own started (by kernel_rfl) Tryd.func3
    (ChangeSpec.witness_shaped (enc := enc) (C := Tryd.checked) (os := os) (X := fun w _ => laidMetH Tryd.prog laid3 w) false (World.doorLaid Tryd.prog 2000 os) #[.agg #[.int .u64 0, .int .u64 0], .agg #[.int .u64 0, .int .u64 0], .agg #[.int .u64 0, .int .u64 0, .int .i64 0, .int .i64 0, .string ⟨#[]⟩]] 8 rfl (World.shaped_of_RefB (by kernel_rfl) (by kernel_rfl)) (by kernel_rfl) (by kernel_rfl) (by kernel_rfl) (door3 os _)) ?_
  intro W base args ds gs before hval0 hW _ _ hL _
  have hval : ∀ (j : Nat) t v, Tryd.f3.params[j]? = some t → args[j]? = some v → Value.okWide Tryd.prog W .any base t v := hval0
  have hW' := hW
  obtain ⟨p, q, hA0, hV, rfl, hfz, hnd⟩ := hW
  have hA : DataW.TrodAll enc Tryd.prog W 0 (fun _ => true) true Tryd.f3.params.toList args.toList ds p := hA0
  rw [Tryd.params3] at hA hval
  obtain ⟨v0, v1, v2, d0, d1, d2, p0, p1, p2, rfl, rfl, rfl, h0, h1, h2⟩ := trodAll_three hA
  obtain ⟨rfl, rfl⟩ := trodVars_none hV
  obtain ⟨c0, c1, y0, y1, m, rfl, rfl, rfl, hy0, hy1⟩ := open_agg2 Tryd.underlying24 (by kernel_rfl) Tryd.cells24 (hval 0 24 v0 rfl rfl) h0
  obtain ⟨a1, e0, rfl, wa1⟩ := DataW.trod_int Tryd.underlying22 hy0
  obtain ⟨a0, e1, rfl, wa0⟩ := DataW.trod_int Tryd.underlying22 hy1
  simp at e0 e1
  subst e0 e1
  obtain ⟨c0, c1, y0, y1, m, rfl, rfl, rfl, hy0, hy1⟩ := open_agg2 Tryd.underlying24 (by kernel_rfl) Tryd.cells24 (hval 1 24 v1 rfl rfl) h1
  obtain ⟨b1, e0, rfl, wb1⟩ := DataW.trod_int Tryd.underlying22 hy0
  obtain ⟨b0, e1, rfl, wb0⟩ := DataW.trod_int Tryd.underlying22 hy1
  simp at e0 e1
  subst e0 e1
  obtain ⟨n, m, i, j, s, rfl, rfl, rfl, wn, wm, wi, wj, hs⟩ := open26 (hval 2 26 v2 rfl rfl) h2
  obtain ⟨a, ha, rfl, rfl⟩ := of_wide wa1 wa0
  obtain ⟨b, hb, rfl, rfl⟩ := of_wide wb1 wb0
  obtain ⟨n, hn, rfl⟩ := lo_of wn
  obtain ⟨m, hm, rfl⟩ := lo_of wm
  have hi1 := i64_of wi
  have hj1 := i64_of wj
  clear hA0 hval0
  refine (hwalk a b n m i j s W ha hb hn hm hi1.1 hi1.2 hj1.1 hj1.2 (tab_of_laid hL)).mono fun e W' ⟨he, hB⟩ => ?_
  subst he
  exact ⟨_, rfl, law_post hW' (trodAll_mk1 (shut_bool Tryd.underlying4 true)) (trodAll_mk3 (wide_reads wa1 wa0 W' _) (wide_reads wb1 wb0 W' _) (read26 wn wm wi wj hs W' _)) rfl hB⟩

theorem tells_holds_of (hwalk : TellsWalk) : Rows.WideTellsSaid :=
  OpenClaim.holds_of_wide 3 Tryd.f3 rfl rfl rfl rfl rfl rfl rfl ⟨rfl, rfl, rfl, rfl, rfl⟩ rfl rfl rfl rfl rfl (by kernel_rfl) Tryd.func3 (by kernel_rfl)
    (of_decide_eq_true (by kernel_rfl)) (by unfold Func.isWrapper; first | (rw [if_pos (by decide +kernel)]; kernel_rfl) | (rw [if_neg (by decide +kernel)]; exact ⟨rfl, rfl⟩))
    (fun os started H enc _ => tells_lifted hwalk os started H enc)

theorem tells_card_of (hwalk : TellsWalk) : Rows.WideTellsCardSaid :=
  Claim7.holds_tied_plain_at .later [] [.data, .data, .data] true (true, "87e2d8c4c7155894bd0858952195c60b8c955652c0426b7d599210d5fcc65363") false
    (tells_holds_of hwalk) (fun _ h => by cases h) (by kernel_rfl) (fun _ h => by cases h) wideTells_row_tie rfl ⟨rfl, rfl⟩ (by kernel_rfl) rfl
    (fun f fn hf hfn => by
      obtain rfl : f = 3 := Option.some.inj ((show Tryd.prog.funcNamed "gridiron/gridironlaw01.WideTells" = some 3 by kernel_rfl).symm.trans hf) |>.symm
      obtain rfl : fn = Tryd.f3 := (Option.some.inj (Tryd.func3.symm.trans hfn)).symm
      exact ⟨by kernel_rfl, fun j t ht => by
        rw [Tryd.params3] at ht
        have hm : t ∈ [24, 24, 26] := by simpa using Array.mem_of_getElem? ht
        have hall : ([24, 24, 26].all fun u => !Tryd.prog.wantsStandIn u) = true := by kernel_rfl
        exact (show Tryd.prog.wantsStandIn t = false by simpa using List.all_eq_true.1 hall t hm)⟩)
    (by kernel_rfl)
end Go.Proofs.YtdlijnkbpnhpoaaDoor
