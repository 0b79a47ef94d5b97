/-
  A queue of the nodes that make up a stretch of the row (queueOf). No condition but those typed at each theorem.
-/
import Derived.Test.YtldmajifkmcdcaaGreatVl
import Derived.Test.YtldmajifkmcdcaaGreatML
namespace Go.Proofs.YtldmajifkmcdcaaGreat.Lv
open Go.RowKit Go.Sort Bd
section
variable {w w' : World} {P : LoP} {RX A : List S3} {g : Nat → Option S3} {m cap : Nat} {cc : Int}
theorem QS.first {w W w2 : World} {P : LoP} {g : Nat → Option S3} {m q : Nat} (hq : q = w.heap.size) (hE : EV 92 W q [.pointer (some ⟨P.B, 0, none⟩), .slice none 0 0, .int .i64 0]) (hW : Below w.heap.size w W) (hb : Below W.heap.size W w2) : QS w w2 w2 P g m q 0 [] w2 := by
  have h2 := hE.keep hb hE.lt
  exact ⟨⟨hW.trans (hb.mono hW.size), ⟨_, h2, World.ownsRow_nil ..⟩, by omega, fun x hx => (by cases hx), by simp, KpT.refl _, Nat.le_refl _, Off.refl _ _, Nat.le_trans hW.size hb.size⟩, fun k _ hk => (by simp at hk)⟩
set_option maxRecDepth 100000 in
set_option maxHeartbeats 1600000 in
theorem qof_zero (hS : LoS w P RX cc) (hF : ∃ d pp, FR w P.F RX.length d pp) {x : Nat} (hx : x ≤ RX.length) (g : Nat → Option S3) (m : Nat) :
    Calls Tryz.prog 34 #[.pointer (some ⟨P.B, 0, none⟩), .int .i64 x, .int .i64 x] w fun e w' => ∃ q B1 V0, e = .returned (.pointer (some ⟨q, 0, none⟩)) ∧ QS w B1 V0 P g m q 0 [] w' := by
  have HC := Lib.hid (fun X (hb : Below w.heap.size w X) => (show Calls Tryz.prog 64 #[.pointer (some ⟨P.F, 0, none⟩), .int .i64 x, .int .i64 x] X fun e w' => ∃ v, e = .returned (tup3 v ((cnF RX.length x x).2 : Nat) 0) ∧ w'.ownsRow X.heap.size 3 1 v (cnF RX.length x x).1.length ((ints (cnF RX.length x x).1).map (Value.int .i64)) ∧ Below X.heap.size X w' by
    obtain ⟨d, pp, hF⟩ := hF
    exact FCanon_any X P.F RX.length d pp (hF.keep hb) x x (Nat.le_refl _) hx (by have := hS.few; omega)))
  have e2 : cnF RX.length x x = ([], 0) := by unfold cnF; rw [if_pos rfl]
  rw [e2] at HC
  unfold tup3 at HC
  simp only [List.length_nil] at HC
  have c4 := hS.ev.cell (i := 4) rfl
  obtain ⟨q, hq⟩ : ∃ q, q = w.heap.size := ⟨_, rfl⟩
  have HQ := Lib.hid hq
  obtain ⟨B, hB⟩ : ∃ B, B = P.B := ⟨_, rfl⟩
  have HBB := Lib.hid hB
  rw [← hB] at c4 ⊢
  generalize P.F = F at *
  clear hS hF hx e2 hB
  go_enter Tryz.func34, Tryz.ntmps34
  obtain ⟨W, hW⟩ : ∃ W, W = w.alloc (.cells #[.pointer (some ⟨B, 0, none⟩), .slice none 0 0, .int .i64 0] 92) := ⟨_, rfl⟩
  have hE : EV 92 W q [.pointer (some ⟨B, 0, none⟩), .slice none 0 0, .int .i64 0] := by
    rw [hW, hq]
    exact heap_alloc_new w _
  have hWB : Below w.heap.size w W := hW ▸ (Below.refl _ w).alloc (Nat.le_refl _) _
  go_upto_region 2 with fail
  rw [← hW, ← hq]
  have d4 := (hWB.cell (World.block_lt_of_cell? _ _ c4)).trans c4
  have HCW := Lib.hid (HC.out W hWB)
  have HE := Lib.hid hE
  have HWB := Lib.hid hWB
  clear hW hE hWB hq c4
  go_wp2_with (go_at_call 64; (refine HCW.out.mono ?_); rintro e w2 ⟨v, rfl, hr, hb⟩; rcases hr.2 with ⟨rfl, -⟩ | ⟨gb, cap, cur, rfl, -⟩ <;> (have HB2 := Lib.hid hb; clear hr hb))
  all_goals (
    go_loopw [29] (fun iv wr => iv = .int .i64 0 ∧ Hid (wr = w2)) (fun _ _ => 0)
    case atStart => exact ⟨rfl, Lib.hid rfl⟩
    case round =>
      obtain ⟨rfl, HX⟩ := hrel
      go_wp2
      go_ret
      refine ⟨q, w2, w2, rfl, ?_⟩
      rw [HX.out]
      exact QS.first HQ.out (by rw [← HBB.out]; exact HE.out) HWB.out HB2.out)
/-- a queue of the nodes from x on, ahead of y -/
def QoR (w : World) (P : LoP) (RX A : List S3) (g : Nat → Option S3) (m x y : Nat) (e : Ending) (w' : World) : Prop :=
  ∃ q B1 V0 xs, e = .returned (.pointer (some ⟨q, 0, none⟩)) ∧ QS w B1 V0 P g m q (cnF RX.length x y).1.length xs w' ∧ (pend RX A xs).Perm (sg RX A x y) ∧ xs.length ≤ (cnF RX.length x y).1.length
set_option maxRecDepth 100000 in
set_option maxHeartbeats 3200000 in
theorem qof_any (T : TrM w P RX A g m cap cc) (hF : ∃ d pp, FR w P.F RX.length d pp) {x y : Nat} (hxy : x < y) (hy : y ≤ RX.length) :
    Calls Tryz.prog 34 #[.pointer (some ⟨P.B, 0, none⟩), .int .i64 x, .int .i64 y] w (QoR w P RX A g m x y) := by
  have HQR : Hid (∀ e w', (∃ q B1 V0 xs, e = .returned (.pointer (some ⟨q, 0, none⟩)) ∧ QS w B1 V0 P g m q (cnF RX.length x y).1.length xs w' ∧ (pend RX A xs).Perm (sg RX A x y) ∧ xs.length ≤ (cnF RX.length x y).1.length) → QoR w P RX A g m x y e w') := Lib.hid (fun _ _ h => h)
  generalize QoR w P RX A g m x y = R at *
  have HC := Lib.hid (fun X (hb : Below w.heap.size w X) => (show Calls Tryz.prog 64 #[.pointer (some ⟨P.F, 0, none⟩), .int .i64 x, .int .i64 y] X fun e w' => ∃ v, e = .returned (tup3 v ((cnF RX.length x y).2 : Nat) 0) ∧ w'.ownsRow X.heap.size 3 1 v (cnF RX.length x y).1.length ((ints (cnF RX.length x y).1).map (Value.int .i64)) ∧ Below X.heap.size X w' by
    obtain ⟨d, pp, hF⟩ := hF
    exact FCanon_any X P.F RX.length d pp (hF.keep hb) x y (by omega) hy (by have := T.s.few; omega)))
  have hch := cnF_chain (n := RX.length) (x := x) (y := y) (by omega) hy
  have hne : (cnF RX.length x y).1 ≠ [] := fun e => by
    rw [e] at hch
    have : x = y := hch
    omega
  have hin := chain_in hch
  rw [ndN_len, ← T.m2] at hin
  have hlen := (cn_len x y (tr RX.length) 0 0).1
  have hcl : (cnF RX.length x y).1.length ≤ 400 := by
    unfold cnF
    rw [if_neg (by omega)]
    refine Nat.le_trans hlen ?_
    rw [lv_tr (by omega)]
    exact T.s.few
  have HPE := Lib.hid (chain_perm (RX := RX) (A := A) hch)
  have HT := Lib.hid T
  have c4 := T.s.ev.cell (i := 4) rfl
  obtain ⟨L, hL⟩ : ∃ L, L = (cnF RX.length x y).1 := ⟨_, rfl⟩
  rw [← hL] at HC hne hin hcl HPE HQR
  have hn1 : 1 ≤ L.length := List.length_pos_iff.2 hne
  have HIN := Lib.hid hin
  obtain ⟨n, hn⟩ : ∃ n, n = L.length := ⟨_, rfl⟩
  have HN := Lib.hid hn
  rw [← hn] at HC hn1 hcl HQR
  generalize (cnF RX.length x y).2 = ent at *
  have hxz : (x : Int) ≤ y := by omega
  unfold tup3 at HC
  obtain ⟨q, hq⟩ : ∃ q, q = w.heap.size := ⟨_, rfl⟩
  have HQ := Lib.hid hq
  obtain ⟨B, hB⟩ : ∃ B, B = P.B := ⟨_, rfl⟩
  have HBB := Lib.hid hB
  rw [← hB] at c4 ⊢
  obtain ⟨F, hFF⟩ : ∃ F, F = P.F := ⟨_, rfl⟩
  rw [← hFF] at c4 HC
  clear T hF hxy hy hch hne hin hlen hL hn hB hFF
  go_enter Tryz.func34, Tryz.ntmps34
  obtain ⟨W, hW⟩ : ∃ W, W = w.alloc (.cells #[.pointer (some ⟨B, 0, none⟩), .slice none 0 0, .int .i64 0] 92) := ⟨_, rfl⟩
  have hE : EV 92 W q [.pointer (some ⟨B, 0, none⟩), .slice none 0 0, .int .i64 0] := by
    rw [hW, hq]
    exact heap_alloc_new w _
  have hWB : Below w.heap.size w W := hW ▸ (Below.refl _ w).alloc (Nat.le_refl _) _
  go_upto_region 2 with fail
  rw [← hW, ← hq]
  have d4 := (hWB.cell (World.block_lt_of_cell? _ _ c4)).trans c4
  have HCW := Lib.hid (HC.out W hWB)
  have HE := Lib.hid hE
  have HWB := Lib.hid hWB
  clear hW hE hWB hq c4
  go_wp2_with (go_at_call 64; (refine HCW.out.mono ?_); rintro e w2 ⟨v, rfl, hr, hb⟩; obtain ⟨gb, c2, KVL, rfl, hgb, hcap, hev, hget⟩ := row_ev2 hr (by omega); have HEV := Lib.hid hev; have HGT := Lib.hid hget; have HB2 := Lib.hid hb; clear hr hb hev hget hgb)
  have HQS : Hid (QS w w2 w2 P g m q 0 [] w2) := Lib.hid (QS.first HQ.out (by rw [← HBB.out]; exact HE.out) HWB.out HB2.out)
  have HGQ : Hid (gb ∉ [q]) := Lib.hid (by
    have := types_ne HEV.out (HE.out.keep HB2.out HE.out.lt) (by decide)
    simpa using this)
  have HCE : Hid (∀ j k, L[j]? = some k → w2.cell? ⟨gb, j, none⟩ = some (.int .i64 (k : Nat))) := Lib.hid (fun j k e => HEV.out.cell (HGT.out j _ (by unfold ints; rw [List.getElem?_map, List.getElem?_map, e]; rfl)))
  clear d4 HCW HEV HGT
  go_loopw [29] (fun iv wr => ∃ (j : Nat) (ys : List Nat), j ≤ n ∧ iv = .int .i64 j ∧ Hid (QS w w2 w2 P g m q j ys wr) ∧ Hid ((pend RX A ys).Perm (pend RX A (L.take j))) ∧ Hid (ys.length ≤ j)) (fun iv _ => n - (intOf iv).toNat)
  case atStart => exact ⟨0, [], Nat.zero_le _, rfl, HQS, Lib.hid (List.Perm.refl _), Lib.hid (Nat.le_refl _)⟩
  case round =>
    clear HQS
    obtain ⟨j, ys, hj, rfl, HS, HP, HYL⟩ := hrel
    by_cases hlt : j < n
    · have hltz : (j : Int) < n := by omega
      obtain ⟨k, hk⟩ : ∃ k, L[j]? = some k := ⟨_, List.getElem?_eq_getElem (by rw [← HN.out]; exact hlt)⟩
      have n0 := HS.out.1.of.cell (HCE.out j k hk) HGQ.out
      have hkm := HIN.out k (List.mem_of_getElem? hk)
      have HK := Lib.hid hk
      have HAD := Lib.hid (qadd_any HT.out HS.out hkm (by have := HYL.out; omega) (by omega))
      clear hk hkm
      go_wp2_with (go_at_call 65; (refine HAD.out.mono ?_); rintro e w5 ⟨rfl, zs, h1, h2, h3⟩; have H1 := Lib.hid h1; have H2 := Lib.hid h2; have H3 := Lib.hid h3; clear h1 h2 h3)
      go_roundw
      case rel =>
        refine ⟨j + 1, zs, by omega, by go_num, H3, Lib.hid ?_, Lib.hid (by have := H2.out; have := HYL.out; omega)⟩
        rw [List.take_add_one, HK.out]
        refine H1.out.trans ((HP.out.append_left _).trans ?_)
        rw [pend_app]
        refine List.perm_append_comm.trans (List.Perm.of_eq ?_)
        show _ ++ _ = _ ++ pend RX A [k]
        rw [pend_one]
      case measure => simp [intOf]; omega
    · have hltz : ¬ (j : Int) < n := by omega
      obtain rfl : j = n := by omega
      go_wp2
      refine HQR.out _ _ ⟨q, w2, w2, ys, rfl, HS.out, ?_, HYL.out⟩
      have := HP.out
      rw [List.take_of_length_le (by rw [← HN.out]; exact Nat.le_refl _)] at this
      exact this.trans HPE.out
end
end Go.Proofs.YtldmajifkmcdcaaGreat.Lv
/-
  The lowest points between two numbers, the lowest first (Lows). No condition but those typed at each theorem.
-/
namespace Go.Proofs.YtldmajifkmcdcaaGreat.Lv
open Go.RowKit Go.Sort Bd
/-- where the points of a part begin, where they end -/
def iA (RX : List S3) (x1 : Int) : Nat := (firstP (RX.map kx) x1).1
def iB (RX : List S3) (x2 : Int) : Nat := (aboveP (RX.map kx) x2).1
theorem sg_part {RX A : List S3} (hO : Ord kx RX) (hf : RX.length ≤ 400) (hsub : ∀ s ∈ A, s ∈ RX) (x1 x2 : Int) : (sg RX A (iA RX x1) (iB RX x2)).Perm (Lw.lwL x1 x2 A) := by
  have hl : RX.length ≤ 8192 := by omega
  obtain ⟨-, -, a3⟩ := fst_parts hO hl x1
  obtain ⟨-, -, b3⟩ := abv_parts hO hl x2
  have e : sg RX A (iA RX x1) (iB RX x2) = A.filter (Lw.inX x1 x2) := List.filter_congr (fun s hs => by
    have h1 := a3 _ _ (at_idx (hsub s hs))
    have h2 := b3 _ _ (at_idx (hsub s hs))
    unfold iA iB Lw.inX
    unfold kx at *
    rw [Bool.eq_iff_iff]
    simp only [Bool.and_eq_true, decide_eq_true_eq]
    omega)
  rw [e]
  exact (Lw.psort_perm _).symm
theorem parts_le {RX : List S3} (hO : Ord kx RX) (hf : RX.length ≤ 400) {x1 x2 : Int} (hx : x1 ≤ x2) : iA RX x1 ≤ iB RX x2 ∧ iB RX x2 ≤ RX.length :=
  ⟨fst_abv hO (by omega) hx, (abv_parts hO (by omega) x2).1⟩
/-- what Lows answers -/
def LwR (n kk : Nat) (w : World) (T : List S3) (e : Ending) (w' : World) : Prop :=
  (∃ r, ∃ t : Nat, e = .returned (.tuple #[r, .int .i64 t]) ∧ Lw.PN w.heap.size w' r T ∧ T.length ≤ t ∧ t ≤ Lw.mostL n + T.length * Lw.eachL n ∧ (kk = 1 → t ≤ Lw.mostL n)) ∧ Below w.heap.size w w'
theorem row_kp {w w' : World} {base n : Nat} {e : TypeId} {size : Nat} {v : Value} {xs : List Value} (h : w.ownsRow base e size v n xs) (hk : KpT w w') (h1 : e ≠ 3) (h2 : e ≠ 92) : w'.ownsRow base e size v n xs := by
  obtain ⟨q1, q2⟩ := h
  refine ⟨q1, ?_⟩
  rcases q2 with q2 | ⟨gb, cap, cur, hv, hb, hh, r⟩
  · exact .inl q2
  · exact .inr ⟨gb, cap, cur, hv, hb, hk gb cur e hh h1 h2, r⟩
section
variable {w0 B1 V0 w w' : World} {P : LoP} {RX A : List S3} {g : Nat → Option S3} {m q cap : Nat} {cc : Int} {xs : List Nat}
/-- other blocks are written -/
theorem QS.grow {W W' : World} {c : Nat} {S : List Nat} (h : QS w0 B1 V0 P g m q c xs W) (o : Off S W W') (hS : ∀ k ∈ S, B1.heap.size ≤ k ∧ ∃ cs t, W.heap[k]? = some (.cells cs t (0, 0)) ∧ t ≠ 3 ∧ t ≠ 92) : QS w0 B1 W' P g m q c xs W' := by
  obtain ⟨⟨q1, ⟨v, q2, q3⟩, q4, q5, q6, q7, q8, q9, q10⟩, hh⟩ := h
  have far : ∀ {x : Nat} {cs : Array Value} {t : TypeId}, W.heap[x]? = some (.cells cs t (0, 0)) → t = 3 ∨ t = 92 → x ∉ S := fun {x cs t} e ht hm => by
    obtain ⟨-, cs', t', e', h1, h2⟩ := hS x hm
    rw [e] at e'
    cases e'
    exact ht.elim h1 h2
  refine ⟨⟨q1.trans (o.below q1.size (fun k hk => Nat.le_trans q10 (hS k hk).1)), ⟨v, q2.off o (far q2 (.inr rfl)), row_offS q3 o (fun k hk => ?_)⟩, q4, q5, q6, KpT.refl _, Nat.le_refl _, q9.via o (fun k hk hm => by have := (hS k hm).1; omega), q10⟩, hh⟩
  obtain ⟨cs, e⟩ := row_type q3 hk
  exact far e (.inl rfl)
/-- the first one in the queue is the lowest of all -/
theorem QS.low (T : TrM w0 P RX A g m cap cc) {c : Nat} (h : QS w0 B1 V0 P g m q c xs w) {M : List S3} (hM : M.Pairwise (fun a b => Lw.ltL a b = true)) (hp : (pend RX A xs).Perm M) (h0 : xs ≠ []) : ∃ s t, g (Pq.at0 xs 0) = some s ∧ s ∈ A ∧ M = s :: t := by
  have hl : 0 < xs.length := List.length_pos_iff.2 h0
  obtain ⟨k1, k2⟩ := h.1.ok _ (List.mem_of_getElem? (Pq.at0_get hl))
  obtain ⟨s, hs⟩ := Option.ne_none_iff_exists'.1 k2
  obtain ⟨r1, r2, r3, r4⟩ := T.i.got k1 hs
  have hmem : s ∈ pend RX A xs := List.mem_flatMap.2 ⟨_, List.mem_of_getElem? (Pq.at0_get hl), mem_sg.2 ⟨r1, r2, r3⟩⟩
  obtain ⟨t, ht⟩ := head_of hM hp hmem (fun y hy => by
    obtain ⟨x, hx, hy⟩ := List.mem_flatMap.1 hy
    obtain ⟨j1, j2⟩ := h.1.ok x hx
    obtain ⟨sx, hsx⟩ := Option.ne_none_iff_exists'.1 j2
    obtain ⟨-, -, -, s4⟩ := T.i.got j1 hsx
    obtain ⟨i, hi⟩ := List.mem_iff_getElem?.1 hx
    have hil := (List.getElem?_eq_some_iff.1 hi).1
    have h3 := Pq.HP.least (ltG_lt g) h.2 i hil
    rw [Pq.at0_some hi] at h3
    unfold ltG gpt at h3
    rw [hsx, hs] at h3
    exact l_neg (s4 y hy) h3)
  exact ⟨s, t, hs, r1, ht⟩
/-- no points between -/
theorem lw_no {x1 x2 : Int} (hx : x2 < x1) (A : List S3) : Lw.lwL x1 x2 A = [] := by
  have : A.filter (Lw.inX x1 x2) = [] := List.filter_eq_nil_iff.2 (fun s _ => by
    unfold Lw.inX
    simp only [Bool.and_eq_true, decide_eq_true_eq]
    omega)
  unfold Lw.lwL
  rw [this]
  rfl
set_option maxRecDepth 100000 in
set_option maxHeartbeats 1600000 in
theorem llows_x (h : LoS w P RX cc) (x1 x2 k : Int) (hx : x2 < x1) :
    Calls Tryz.prog 18 #[.pointer (some ⟨P.B, 0, none⟩), .int .i64 x1, .int .i64 x2, .int .i64 k] w fun e w' => e = .returned (.tuple #[.slice none 0 0, .int .i64 0]) ∧ Below w.heap.size w w' := by
  have HM := Lib.hid (lmade_yes h)
  clear h
  generalize P.B = B at *
  go_enter Tryz.func18, Tryz.ntmps18
  go_wp2_with (go_at_call 26; (with_reducible refine HM.out.mono ?_); rintro e wM ⟨rfl, hM⟩; subst wM)
  go_ret2
  exact ⟨rfl, Below.refl _ _⟩
set_option maxRecDepth 100000 in
set_option maxHeartbeats 1600000 in
theorem llows_k (h : LoS w P RX cc) (x1 x2 k : Int) (hx : x1 ≤ x2) (hk : k < 1) :
    Calls Tryz.prog 18 #[.pointer (some ⟨P.B, 0, none⟩), .int .i64 x1, .int .i64 x2, .int .i64 k] w fun e w' => e = .returned (.tuple #[.slice none 0 0, .int .i64 0]) ∧ Below w.heap.size w w' := by
  have HM := Lib.hid (lmade_yes h)
  have hx2 : ¬ x2 < x1 := by omega
  have hxd : decide (x2 < x1) = false := decide_eq_false hx2
  clear h hx
  generalize P.B = B at *
  go_enter Tryz.func18, Tryz.ntmps18
  go_wp2_with (go_at_call 26; (with_reducible refine HM.out.mono ?_); rintro e wM ⟨rfl, hM⟩; subst wM)
  go_ret2
  exact ⟨rfl, Below.refl _ _⟩
theorem llows_nil (w : World) (x1 x2 k : Int) :
    Calls Tryz.prog 18 #[.pointer none, .int .i64 x1, .int .i64 x2, .int .i64 k] w fun e w' => e = .returned (.tuple #[.slice none 0 0, .int .i64 0]) ∧ Below w.heap.size w w' := by
  have HM := Lib.hid (lmade_nil w)
  go_enter Tryz.func18, Tryz.ntmps18
  go_wp2_with (go_at_call 26; (with_reducible refine HM.out.mono ?_); rintro e wM ⟨rfl, hM⟩; subst wM)
  go_ret2
  exact ⟨rfl, Below.refl _ _⟩
end
end Go.Proofs.YtldmajifkmcdcaaGreat.Lv
