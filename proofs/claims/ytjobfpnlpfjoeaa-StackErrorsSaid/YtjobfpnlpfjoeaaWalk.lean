/-
  stack.wait, stack.walk over any closure that keeps what it has been told of. No condition but those typed at each theorem.
-/
import Derived.Test.YtjobfpnlpfjoeaaSmath
import Derived.Test.YtjobfpnlpfjoeaaPut
import Derived.Deep.LoopGhost
namespace Go.Proofs.Ytjobfpnlpfjoeaa
open Go.RowKit

theorem RB.cut {k : IntKind} {t : TypeId} {w : World} {g cap : Nat} {L M : List Int} (h : RB k t w g cap (L ++ M)) : RB k t w g cap L := by
  obtain ⟨cur, h1, h2, h3, h4, h5⟩ := h
  rw [List.length_append] at h2
  refine ⟨cur, h1, by omega, h3, h4, ?_⟩
  have h6 := congrArg (List.take L.length) h5
  rw [List.take_take, List.map_append, List.take_left' (by simp), List.length_append, Nat.min_eq_left (by omega)] at h6
  exact h6
theorem RB.off {k : IntKind} {t : TypeId} {w w' : World} {g cap : Nat} {L : List Int} {S : List Nat} (h : RB k t w g cap L) (o : Off S w w') (hS : g ∉ S) : RB k t w' g cap L := by
  have hg := h.lt
  obtain ⟨cur, h1, h2⟩ := h
  exact ⟨cur, (o.block g hg hS).trans h1, h2⟩
theorem RB.one (w : World) (x : Int) : RB .i64 3 (w.alloc (.cells #[.int .i64 x] 3)) w.heap.size 1 [x] :=
  ⟨_, heap_alloc_new w _, by simp, by decide, rfl, rfl⟩
theorem RB.roomF {k : IntKind} {t : TypeId} {w : World} {g cap : Nat} {L : List Int} (h : RB k t w g cap L) : L.length ≤ cap ∧ cap ≤ maxLen := by
  obtain ⟨cur, h1, h2, h3, _⟩ := h
  exact ⟨h2, h3⟩

theorem Off.via {S T : List Nat} {w X Y : World} (h : Off S w X) (g : Off T X Y) (hT : ∀ k, k < w.heap.size → k ∈ T → k ∈ S) : Off S w Y :=
  ⟨g.os.trans h.os, g.tape.trans h.tape, g.output.trans h.output, Nat.le_trans h.size g.size, fun k hk hS => (g.block k (Nat.lt_of_lt_of_le hk h.size) (fun e => hS (hT k hk e))).trans (h.block k hk hS)⟩

/-- one number more behind those that lie in g -/
theorem wpList_put {ops : Array Oper} {rest : List Oper} {o : Oper} {a : Act} {Q : Exit → Act → World → Prop} {w : World} (hgd : o.guard = none) (s x : Operand)
    (hop : o.op = Op.call { callee := Callee.builtin Builtin.append, args := #[s, x], argTypes := #[25, 25] }) (g n cap : Nat) (L : List Int) (y : Int) (B : Nat)
    (hs : a.eval s = .slice (some ⟨g, 0, none⟩) n cap) (hx : a.eval x = .slice (some ⟨B, 0, none⟩) 1 1) (hR : RB .i64 3 w g cap L) (hn : n = L.length) (hc : w.cell? ⟨B, 0, none⟩ = some (.int .i64 y)) (hl : n ≤ 20000)
    (hK : ∀ g' cap' w', RB .i64 3 w' g' cap' (L ++ [y]) → Off [g] w w' → (g' = g ∨ w.heap.size ≤ g') → wpList Try.prog ops Q rest (a.put o.dst (.slice (some ⟨g', 0, none⟩) (n + 1) cap')) w') : wpList Try.prog ops Q (o :: rest) a w := by
  refine wpList_more Try.info3 rfl (by decide) (by decide) Try.underlying25 w hgd s x hop (.slice (some ⟨g, 0, none⟩) n cap) n (L.map (Value.int .i64)) hs (hR.own (Nat.zero_le _) hn) ⟨B, 0, none⟩ 1 1 [.int .i64 y] hx rfl ?_ (by simp [Value.oneCell']) (by omega) (by decide) ?_
  · intro j u hu
    cases j with
    | zero => simp at hu; subst hu; rw [Addr.add_zero']; exact hc
    | succ j => simp at hu
  · intro g' cap' w' h1 h2 h3
    refine hK g' cap' w' ?_ ((Off.refl _ w).grow h2 (fun k e => by simp [Value.ownBlock] at e; exact .inl (by simp [e]))) ?_
    · rw [show L.map (Value.int .i64) ++ [Value.int .i64 y] = (L ++ [y]).map (Value.int .i64) by simp] at h1
      obtain ⟨g2, c2, e, -, h5⟩ := rb_of h1 (by omega)
      cases e
      exact h5
    · rcases h3 with h3 | h3
      · simp [Value.ownBlock] at h3
        exact .inl h3.symm
      · exact .inr (by omega)

/-- those that wait lie here -/
def Wt (w : World) (g : Nat) (M : List Int) (e : Ending) (w' : World) : Prop := ∃ g' cap', e = .returned (.slice (some ⟨g', 0, none⟩) M.length cap') ∧ RB .i64 3 w' g' cap' M ∧ Off [g] w w' ∧ (g' = g ∨ w.heap.size ≤ g')

set_option maxRecDepth 100000 in
set_option maxHeartbeats 3200000 in
theorem wait_any (w : World) (g cap : Nat) (W : List Int) (n : Nd) (h : RB .i64 3 w g cap W) (hl : W.length ≤ 16384) :
    Calls Try.prog 36 #[.slice (some ⟨g, 0, none⟩) W.length cap, nv n] w (Wt w g (W ++ (ksL n).reverse)) := by
  obtain ⟨k, L, R, f, t, a, q⟩ := n
  have HG := Lib.hid h.lt
  have HR := Lib.hid h
  obtain ⟨d, hd⟩ : ∃ d, d = W.length := ⟨_, rfl⟩
  have HD := Lib.hid hd
  rw [← hd] at hl ⊢
  clear h hd
  unfold nv
  simp only
  by_cases hR : R = -1
  · subst hR
    by_cases hL : L = -1
    · subst hL
      go_enter Try.func36, Try.ntmps36
      go_wp2
      go_ret
      refine ⟨g, cap, by simp [ksL, nl, nr, HD.out], ?_, (Off.refl _ w).all _, .inl rfl⟩
      simp only [ksL, nl, nr, if_true, List.append_nil, List.reverse_nil]
      exact HR.out.off ((Off.refl [] w).all _) (by simp)
    · go_enter Try.func36, Try.ntmps36
      go_wp2_with (at_builtin; refine wpList_put rfl (.tmp 16) (.tmp 19) rfl g d cap W L (w.heap.size + 1) rfl (by first | rfl | (simp [go_sem]; done)) (HR.out.off (((Off.refl [] w).all _).all _) (by simp)) HD.out (by go_simp) (by omega) ?_; intro g1 c1 w1 h1 h2 h3; have H11 := Lib.hid h1; have H12 := Lib.hid h2; have H13 := Lib.hid h3; clear h1 h2 h3)
      go_ret
      refine ⟨g1, c1, by simp [ksL, nl, nr, HD.out, hL], by simpa [ksL, nl, nr, hL] using H11.out, (((Off.refl _ w).all _).all _).trans H12.out, H13.out.elim .inl (fun h => .inr (by simp at h; omega))⟩
  · by_cases hL : L = -1
    · subst hL
      go_enter Try.func36, Try.ntmps36
      go_wp2_with (at_builtin; refine wpList_put rfl (.tmp 8) (.tmp 11) rfl g d cap W R (w.heap.size + 1) rfl (by first | rfl | (simp [go_sem]; done)) (HR.out.off (((Off.refl [] w).all _).all _) (by simp)) HD.out (by go_simp) (by omega) ?_; intro g1 c1 w1 h1 h2 h3; have H11 := Lib.hid h1; have H12 := Lib.hid h2; have H13 := Lib.hid h3; clear h1 h2 h3; have k1 := H12.out.cell (a := ⟨w.heap.size, 1, none⟩) (v := .int .i64 (-1)) (by go_simp) (by have := HG.out; simp; omega))
      go_ret
      refine ⟨g1, c1, by simp [ksL, nl, nr, HD.out, hR], by simpa [ksL, nl, nr, hR] using H11.out, (((Off.refl _ w).all _).all _).trans H12.out, H13.out.elim .inl (fun h => .inr (by simp at h; omega))⟩
    · go_enter Try.func36, Try.ntmps36
      go_wp2_with (first
        | (at_builtin; refine wpList_put rfl (.tmp 8) (.tmp 11) rfl g d cap W R (w.heap.size + 1) rfl (by first | rfl | (simp [go_sem]; done)) (HR.out.off (((Off.refl [] w).all _).all _) (by simp)) HD.out (by go_simp) (by omega) ?_; intro g1 c1 w1 h1 h2 h3; have H11 := Lib.hid h1; have H12 := Lib.hid h2; have H13 := Lib.hid h3; clear h1 h2 h3; have k1 := H12.out.cell (a := ⟨w.heap.size, 1, none⟩) (v := .int .i64 L) (by go_simp) (by have := HG.out; simp; omega))
        | (at_builtin; refine wpList_put rfl (.tmp 16) (.tmp 19) rfl g1 (d + 1) c1 (W ++ [R]) L w1.heap.size rfl (by first | rfl | (simp [go_sem]; done)) (H11.out.off ((Off.refl [] w1).all _) (by simp)) (by simp [HD.out]) (by go_simp) (by omega) ?_; intro g2 c2 w2 h1 h2 h3; have H21 := Lib.hid h1; have H22 := Lib.hid h2; have H23 := Lib.hid h3; clear h1 h2 h3))
      go_ret
      refine ⟨g2, c2, by simp [ksL, nl, nr, HD.out, hR, hL], by simpa [ksL, nl, nr, hR, hL] using H21.out, ?_, ?_⟩
      · exact ((((((Off.refl _ w).all _).all _).trans H12.out).all _).via H22.out (fun k hk hk2 => by
          have h3 := H13.out
          simp at h3 hk2 ⊢
          omega))
      · have h3 := H13.out
        have h4 := H23.out
        have h5 := H12.out.size
        simp at h3 h4 h5
        omega

/-- what is asked of the closure that a walk calls: it has been told of E, the blocks S are its own -/
structure Enters (p : Option Addr) (c : Nat) (N : List Nd) (P : Nd → Bool) (w : World) (S0 : List Nat) (g : Nat) (lb : Array Value) (I : World → List Nat → List Int → Prop) : Prop where
  keep : ∀ X X' S E T, I X S E → Off T X X' → (∀ k ∈ S, k ∉ T) → I X' S E
  lies : ∀ X S E, I X S E → ∀ k ∈ S, k < X.heap.size ∧ (k ∈ S0 ∨ w.heap.size ≤ k)
  call : ∀ X S E (i : Nat) n, I X S E → N[i]? = some n → E.length < N.length → NdS X p N → Calls Try.prog g (#[.int .i64 i] ++ lb) X fun e X' => e = .returned (.bool (P n)) ∧ ∃ S', I X' S' (E ++ [(i : Int)]) ∧ Off S X X' ∧ ∀ k ∈ S', k ∈ S ∨ X.heap.size ≤ k

/-- in the midst of a walk -/
structure Mids (N : List Nd) (P : Nd → Bool) (w : World) (S0 : List Nat) (I : World → List Nat → List Int → Prop) (r : Int) (X : World) (g cap : Nat) (W E : List Int) (S : List Nat) : Prop where
  row : RB .i64 3 X g cap W
  new : w.heap.size ≤ g ∧ g ∉ S
  told : I X S E
  left : E ++ pend N P W = en N P r
  inn : ∀ x ∈ W, 0 ≤ x ∧ x < (N.length : Int)
  off : Off S0 w X
theorem Mids.len {N : List Nd} {P : Nd → Bool} {w : World} {S0 : List Nat} {I : World → List Nat → List Int → Prop} {r : Int} {X : World} {g cap : Nat} {W E : List Int} {S : List Nat} (h : Mids N P w S0 I r X g cap W E S) (hR : Rt N) (hr : 0 ≤ r ∧ r < N.length) :
    W.length + E.length ≤ N.length := by
  have h1 := congrArg List.length h.left
  have h2 := (en_once hR P hr.1 hr.2).2.2
  have h3 := pend_len P h.inn
  rw [List.length_append] at h1
  omega

section
variable {p : Option Addr} {c : Nat} {N : List Nd} {P : Nd → Bool} {w X X1 X2 : World} {S0 S S' : List Nat} {f : Nat} {lb : Array Value} {I : World → List Nat → List Int → Prop} {r x : Int} {g g' cap cap' : Nat} {W E : List Int} {n : Nd}
theorem mids_call (h : Mids N P w S0 I r X g cap (W ++ [x]) E S) (hE : Enters p c N P w S0 f lb I) (hO : Off S X X1) (hS : ∀ k ∈ S', k ∈ S ∨ X.heap.size ≤ k) :
    RB .i64 3 X1 g cap W ∧ (w.heap.size ≤ g ∧ g ∉ S') ∧ Off S0 w X1 := by
  refine ⟨h.row.cut.off hO h.new.2, ⟨h.new.1, fun hg => ?_⟩, h.off.via hO (fun k hk hk2 => ?_)⟩
  · rcases hS g hg with h1 | h1
    · exact h.new.2 h1
    · have := h.row.lt
      omega
  · rcases (hE.lies X S E h.told k hk2).2 with h1 | h1
    · exact h1
    · omega
theorem mids_no (h : Mids N P w S0 I r X g cap (W ++ [x]) E S) (hE : Enters p c N P w S0 f lb I) (hI : I X1 S' (E ++ [x])) (hO : Off S X X1) (hS : ∀ k ∈ S', k ∈ S ∨ X.heap.size ≤ k) (hR : Rt N) (e : N[x.toNat]? = some n) (hp : P n = false) :
    Mids N P w S0 I r X1 g cap W (E ++ [x]) S' := by
  obtain ⟨h1, h2, h3⟩ := mids_call h hE hO hS
  exact ⟨h1, h2, hI, by rw [← pend_no hR e hp]; exact h.left, fun y hy => h.inn y (by simp [hy]), h3⟩
theorem mids_yes (h : Mids N P w S0 I r X g cap (W ++ [x]) E S) (hE : Enters p c N P w S0 f lb I) (hI : I X1 S' (E ++ [x])) (hO : Off S X X1) (hS : ∀ k ∈ S', k ∈ S ∨ X.heap.size ≤ k) (hR : Rt N) (e : N[x.toNat]? = some n) (hp : P n = true)
    (hw : RB .i64 3 X2 g' cap' (W ++ (ksL n).reverse)) (ho : Off [g] X1 X2) (hg : g' = g ∨ X1.heap.size ≤ g') : Mids N P w S0 I r X2 g' cap' (W ++ (ksL n).reverse) (E ++ [x]) S' := by
  obtain ⟨h1, h2, h3⟩ := mids_call h hE hO hS
  refine ⟨hw, ?_, ?_, by rw [← pend_yes hR e hp]; exact h.left, ?_, ?_⟩
  · rcases hg with rfl | hg
    · exact h2
    · refine ⟨Nat.le_trans h3.size hg, fun hk => ?_⟩
      have := (hE.lies X1 S' _ hI g' hk).1
      omega
  · exact hE.keep X1 X2 S' _ [g] hI ho (fun k hk => by
      simp
      rintro rfl
      exact h2.2 hk)
  · intro y hy
    rw [List.mem_append, List.mem_reverse] at hy
    rcases hy with hy | hy
    · exact h.inn y (by simp [hy])
    · have h4 := hR.kid e hy
      have h5 := (h.inn x (by simp)).2
      omega
  · exact h3.via ho (fun k hk hk2 => by
      simp at hk2
      omega)
end

set_option maxRecDepth 100000 in
set_option maxHeartbeats 6400000 in
theorem walk_any (w : World) (p : Option Addr) (c : Nat) (N : List Nd) (P : Nd → Bool) (r : Nat) (S0 S : List Nat) (g : Nat) (lb : Array Value) (I : World → List Nat → List Int → Prop) (hx : NdS w p N) (hl : N.length ≤ 8192) (hR : Rt N) (hr : r < N.length)
    (eg : ∀ args w, (callFunc g args).run Try.prog w = .ok (.enter g args) w) (hE : Enters p c N P w S0 g lb I) (hI : I w S []) (hS0 : ∀ b off, p = some ⟨b, off, none⟩ → N ≠ [] → b ∉ S0) :
    Calls Try.prog 25 #[.slice p N.length c, .int .i64 r, .func (.func g) #[] lb] w fun e w' => e = .returned (.tuple #[]) ∧ ∃ S', I w' S' (en N P r) ∧ Off S0 w w' := by
  obtain ⟨d, hd⟩ : ∃ d, d = N.length := ⟨_, rfl⟩
  have HD := Lib.hid hd
  have HX := Lib.hid hx
  have HRT := Lib.hid hR
  have HE := Lib.hid hE
  have HS := Lib.hid hS0
  have HI := Lib.hid hI
  have HM0 : Hid (Mids N P w S0 I r (w.alloc (.cells #[.int .i64 (r : Int)] 3)) w.heap.size 1 [(r : Int)] [] S) := Lib.hid (by
    refine ⟨RB.one _ _, ⟨Nat.le_refl _, fun h => ?_⟩, ?_, by rw [pend_one]; rfl, by simp; omega, (Off.refl _ w).all _⟩
    · have := (hE.lies w S [] hI _ h).1
      omega
    · exact hE.keep w _ S [] [] hI ((Off.refl _ w).all _) (by simp))
  rw [← hd] at hl hr ⊢
  clear hd hx hR hE hS0 hI
  go_enter Try.func25, Try.ntmps25
  go_wp2
  go_loopg [6] (d + 1) (fun gk v wr => ∃ g cap W E S, v = .slice (some ⟨g, 0, none⟩) W.length cap ∧ Hid (Mids N P w S0 I r wr g cap W E S) ∧ Hid (gk = d + 1 - E.length))
  case atStart => exact ⟨_, _, _, _, _, rfl, HM0, Lib.hid rfl⟩
  case round =>
    clear HM0
    obtain ⟨gb, cap, W, E, S, rfl, HM, HGK⟩ := hrel
    rcases List.eq_nil_or_concat W with rfl | ⟨W, x, hW⟩
    · have hz : ([] : List Int).length = 0 := rfl
      rw [hz]
      go_wp2
      go_end0
      have hM := HM.out
      refine ⟨rfl, S, ?_, hM.off⟩
      have h1 := hM.left
      rw [pend_nil, List.append_nil] at h1
      rw [← h1]
      exact hM.told
    · rw [List.concat_eq_append] at hW
      subst hW
      obtain ⟨hx0, hx1⟩ := HM.out.inn x (by simp)
      obtain ⟨i, rfl⟩ : ∃ i : Nat, x = i := ⟨x.toNat, by omega⟩
      obtain ⟨n, hne⟩ : ∃ n, N[i]? = some n := ⟨_, List.getElem?_eq_getElem (by omega)⟩
      have hlen := HM.out.len HRT.out ⟨by omega, by have := HD.out; omega⟩
      rw [List.length_append, List.length_singleton] at hlen
      have HLEN := Lib.hid hlen
      have hEl : E.length < N.length := by omega
      have HIN := Lib.hid hne
      have hil : i < d := by have := (List.getElem?_eq_some_iff.1 hne).1; have := HD.out; omega
      have HC := Lib.hid (HE.out.call wr S E i n HM.out.told hne hEl (HX.out.off HM.out.off HS.out))
      obtain ⟨m, hm⟩ : ∃ m, m = W.length := ⟨_, rfl⟩
      have hml : m ≤ 8192 := by have := HD.out; omega
      have hcell := HM.out.row.cell (i := m) (x := (i : Int)) (by rw [hm]; simp)
      have hroom := HM.out.row.roomF
      rw [List.length_append, List.length_singleton, ← hm] at hroom
      have hsl := fun X => sl_to X (some ⟨gb, 0, none⟩) (m + 1) cap m (by omega)
      have HWT : Hid (∀ X, RB .i64 3 X gb cap W → Calls Try.prog 36 #[.slice (some ⟨gb, 0, none⟩) m cap, nv n] X (Wt X gb (W ++ (ksL n).reverse))) := Lib.hid (fun X hX => by rw [hm]; exact wait_any X gb cap W n hX (by omega))
      have HM2 := Lib.hid hm
      obtain ⟨b, off, rfl, h7⟩ := (HX.out.off HM.out.off HS.out).at hne
      have HN7 := Lib.hid (HX.out.at hne)
      clear hlen hEl hne hm h7 hx0 hx1
      rw [show (W ++ [(i : Int)]).length = m + 1 by rw [HM2.out]; simp]
      cases hp : P n with
      | false =>
        rw [hp] at HC
        have HP := Lib.hid hp
        clear hp
        go_wp2_with (go_at_fn g; refine HC.out.mono ?_; rintro e w1 ⟨rfl, S', hI', hO', hS'⟩; have HI' := Lib.hid hI'; have HO' := Lib.hid hO'; have HS' := Lib.hid hS'; clear hI' hO' hS')
        go_roundg (d + 1 - (E ++ [(i : Int)]).length)
        case measure =>
          have h1 := HGK.out
          have h2 := HLEN.out
          have h3 := HD.out
          rw [h1, List.length_append, List.length_singleton]
          omega
        case rel => exact ⟨gb, cap, W, E ++ [(i : Int)], S', by rw [HM2.out], Lib.hid (mids_no HM.out HE.out HI'.out HO'.out HS'.out HRT.out (by simpa using HIN.out) HP.out), Lib.hid rfl⟩
      | true =>
        rw [hp] at HC
        have HP := Lib.hid hp
        clear hp
        have HNI := Lib.hid (show N ≠ [] from fun h => by have := HIN.out; rw [h] at this; cases this)
        obtain ⟨k, L, R, f, t, a, q⟩ := n
        go_wp2_with (first
          | (go_at_fn g; refine HC.out.mono ?_; rintro e w1 ⟨rfl, S', hI', hO', hS'⟩; have HI' := Lib.hid hI'; have HO' := Lib.hid hO'; have HS' := Lib.hid hS'; clear hI' hO' hS'; obtain ⟨b2, off2, hpe, h8⟩ := HN7.out; cases hpe; have h9 := h8.off (mids_call HM.out HE.out HO'.out HS'.out).2.2 (HS.out _ _ rfl HNI.out); have n0 := h9.c0; have n1 := h9.c1; have n2 := h9.c2; have n3 := h9.c3; have n4 := h9.c4; have n5 := h9.c5; have n6 := h9.c6; simp only at n0 n1 n2 n3 n4 n5 n6; clear h8 h9)
          | (go_at_call 36; refine (HWT.out _ (mids_call HM.out HE.out HO'.out HS'.out).1).mono ?_; rintro e w2 ⟨g', cap', rfl, hr2, ho2, hg2⟩; have HR2 := Lib.hid hr2; have HO2 := Lib.hid ho2; have HG2 := Lib.hid hg2; clear hr2 ho2 hg2))
        go_roundg (d + 1 - (E ++ [(i : Int)]).length)
        case measure =>
          have h1 := HGK.out
          have h2 := HLEN.out
          have h3 := HD.out
          rw [h1, List.length_append, List.length_singleton]
          omega
        case rel => exact ⟨g', cap', _, E ++ [(i : Int)], S', by simp, Lib.hid (mids_yes HM.out HE.out HI'.out HO'.out HS'.out HRT.out (by simpa using HIN.out) HP.out HR2.out HO2.out HG2.out), Lib.hid rfl⟩
end Go.Proofs.Ytjobfpnlpfjoeaa
