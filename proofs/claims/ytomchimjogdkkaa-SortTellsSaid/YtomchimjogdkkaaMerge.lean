/-
  Two lists made one: the plain function, and sort.merge that goes by it. No condition but those typed at each theorem.
-/
import Derived.Test.YtomchimjogdkkaaNext
namespace Go.Proofs.Ytomchimjogdkkaa
open Go.RowKit

/-- again and again the first of the one or the other: that of the second list, if it stands ahead -/
def mrg (ah : Int → Int → Bool) : List Int → List Int → List Int
  | [], ys => ys
  | x :: xs, [] => x :: xs
  | x :: xs, y :: ys => if ah y x then y :: mrg ah (x :: xs) ys else x :: mrg ah xs (y :: ys)
termination_by xs ys => xs.length + ys.length
theorem mrg_len (ah : Int → Int → Bool) (xs ys : List Int) : (mrg ah xs ys).length = xs.length + ys.length := by
  fun_induction mrg ah xs ys <;> simp_all <;> omega
theorem mrg_nil (ah : Int → Int → Bool) (xs : List Int) : mrg ah xs [] = xs := by cases xs <;> simp [mrg]

theorem mrg_perm (ah : Int → Int → Bool) (xs ys : List Int) : (mrg ah xs ys).Perm (xs ++ ys) := by
  fun_induction mrg ah xs ys with
  | case1 ys => exact List.Perm.refl _
  | case2 x xs => simp
  | case3 x xs y ys h ih =>
    exact (List.Perm.cons y ih).trans (List.perm_middle (l₁ := x :: xs) (l₂ := ys) (a := y)).symm
  | case4 x xs y ys h ih => exact List.Perm.cons x ih

/-- from o on the list L goes on with xs -/
def Seg (L : List Int) (o : Nat) (xs : List Int) : Prop := ∀ j x, xs[j]? = some x → L[o + j]? = some x
theorem Seg.head {L : List Int} {o : Nat} {x : Int} {xs : List Int} (h : Seg L o (x :: xs)) : L[o]? = some x := h 0 x rfl
theorem Seg.tail {L : List Int} {o o' : Nat} {x : Int} {xs : List Int} (h : Seg L o (x :: xs)) (ho : 0 < xs.length → o' = o + 1) : Seg L o' xs := by
  intro j y e
  have hl : j < xs.length := (List.getElem?_eq_some_iff.1 e).1
  rw [ho (by omega), Nat.add_assoc, Nat.add_comm 1 j]
  exact h (j + 1) y (by simpa using e)

/-- where merge stands: what is left of both lists -/
structure MS (w : World) (F S H A : Nat) (L xs ys : List Int) (fv : Value) : Prop where
  first : ∃ o c, BX w F (.slice (some ⟨A, o, none⟩) xs.length c) ∧ Seg L o xs ∧ xs.length ≤ c ∧ c ≤ 17179869184
  second : ∃ o c, BX w S (.slice (some ⟨A, o, none⟩) ys.length c) ∧ Seg L o ys ∧ ys.length ≤ c ∧ c ≤ 17179869184
  ahead : w.cell? ⟨H, 0, none⟩ = some fv
  row : EB .i64 3 w A L
  apart : F ≠ S ∧ F ≠ A ∧ S ≠ A ∧ H ≠ F ∧ H ≠ S

theorem Off.via {S T : List Nat} {w X Y : World} (h : Off S w X) (g : Off T X Y) (hT : ∀ k, k < w.heap.size → k ∈ T → k ∈ S) : Off S w Y :=
  ⟨g.os.trans h.os, g.tape.trans h.tape, g.output.trans h.output, Nat.le_trans h.size g.size, fun k hk hS => (g.block k (Nat.lt_of_lt_of_le hk h.size) (fun e => hS (hT k hk e))).trans (h.block k hk hS)⟩
theorem BX.off {w w' : World} {F : Nat} {v : Value} {S : List Nat} (h : BX w F v) (g : Off S w w') (hS : F ∉ S) : BX w' F v := (g.block F (lt_of_block h) hS).trans h
theorem MS.off {w w' : World} {F S H A : Nat} {L xs ys : List Int} {fv : Value} {T : List Nat} (h : MS w F S H A L xs ys fv) (g : Off T w w') (hT : F ∉ T ∧ S ∉ T ∧ H ∉ T ∧ A ∉ T) : MS w' F S H A L xs ys fv := by
  obtain ⟨⟨o, c, h1, h2⟩, ⟨o', c', h3, h4⟩, h5, h6, h7⟩ := h
  exact ⟨⟨o, c, h1.off g hT.1, h2⟩, ⟨o', c', h3.off g hT.2.1, h4⟩, g.cell h5 hT.2.2.1, h6.off g hT.2.2.2, h7⟩

/-- the next place was told -/
def Nx (ah : Int → Int → Bool) (w : World) (F S H A : Nat) (L xs ys : List Int) (fv : Value) (e : Ending) (w' : World) : Prop :=
  ∃ z xs' ys', e = .returned (.int .i64 z) ∧ mrg ah xs ys = z :: mrg ah xs' ys' ∧ MS w' F S H A L xs' ys' fv ∧ Off [F, S] w w' ∧ (∀ x ∈ xs', x ∈ xs) ∧ (∀ y ∈ ys', y ∈ ys)

theorem next_any (w : World) (F S H A g : Nat) (lb : Array Value) (L xs ys : List Int) (ah : Int → Int → Bool)
    (eg : ∀ args w, (callFunc g args).run Try.prog w = .ok (.enter g args) w) (hM : MS w F S H A L xs ys (.func (.func g) #[] lb)) (hne : xs ≠ [] ∨ ys ≠ [])
    (hA : ∀ y ∈ ys, ∀ x ∈ xs, ∀ X, Below w.heap.size w X → Calls Try.prog g (#[.int .i64 y, .int .i64 x] ++ lb) X fun e w' => e = .returned (.bool (ah y x)) ∧ Below X.heap.size X w') :
    Calls Try.prog 37 #[.pointer (some ⟨F, 0, none⟩), .pointer (some ⟨S, 0, none⟩), .pointer (some ⟨H, 0, none⟩)] w (Nx ah w F S H A L xs ys (.func (.func g) #[] lb)) := by
  obtain ⟨⟨oa, ca, h1, h2, h3, h4⟩, ⟨ob, cb, k1, k2, k3, k4⟩, h5, h6, d1, d2, d3, d4, d5⟩ := hM
  have snd : ∀ y ys', ys = y :: ys' → (∀ x xs', xs = x :: xs' → ah y x = true) → Calls Try.prog 37 #[.pointer (some ⟨F, 0, none⟩), .pointer (some ⟨S, 0, none⟩), .pointer (some ⟨H, 0, none⟩)] w (Nx ah w F S H A L xs ys (.func (.func g) #[] lb)) := by
    intro y ys' hy hx
    subst hy
    refine (next_snd w F S H A oa xs.length ca ob ys'.length cb g lb L (xs.headD 0) y eg h1 k1 h5 h6 k2.head k3 ⟨k4, by omega⟩ ?_).mono ?_
    · intro hpos
      match xs, hpos with
      | x :: xs', _ => exact ⟨h2.head, fun X hX => by have := hA y (by simp) x (by simp) X hX; rw [hx x xs' rfl] at this; exact this⟩
    · rintro e w' ⟨rfl, X, o, hX, ho, rfl⟩
      have hO : Off [F, S] w (X.setCell ⟨S, 0, none⟩ (.slice (some ⟨A, o, none⟩) ys'.length (cb - 1))) := (Off.of hX (Nat.le_refl _)).set _ _ (.inl (by simp))
      have hO1 : Off [S] w (X.setCell ⟨S, 0, none⟩ (.slice (some ⟨A, o, none⟩) ys'.length (cb - 1))) := (Off.of hX (Nat.le_refl _)).set _ _ (.inl (by simp))
      refine ⟨y, xs, ys', rfl, ?_, ⟨⟨oa, ca, h1.off hO1 (by simpa using d1), h2, h3, h4⟩, ⟨o, cb - 1, (k1.keep hX).set _, k2.tail ho, by simp at k3; omega, by omega⟩, hO1.cell h5 (by simpa using d5), h6.off hO1 (by simpa using Ne.symm d3), d1, d2, d3, d4, d5⟩, hO, fun _ h => h, fun _ h => by simp [h]⟩
      cases xs with
      | nil => simp [mrg]
      | cons x xs' => rw [mrg]; simp [hx x xs' rfl]
  have fst : ∀ x xs', xs = x :: xs' → (∀ y ys', ys = y :: ys' → ah y x = false) → Calls Try.prog 37 #[.pointer (some ⟨F, 0, none⟩), .pointer (some ⟨S, 0, none⟩), .pointer (some ⟨H, 0, none⟩)] w (Nx ah w F S H A L xs ys (.func (.func g) #[] lb)) := by
    intro x xs' hx hy
    subst hx
    refine (next_fst w F S H A oa xs'.length ca ob ys.length cb g lb L x (ys.headD 0) eg h1 k1 h5 h6 h2.head h3 ⟨h4, by omega⟩ ?_).mono ?_
    · intro hpos
      match ys, hpos with
      | y :: ys', _ => exact ⟨k2.head, fun X hX => by have := hA y (by simp) x (by simp) X hX; rw [hy y ys' rfl] at this; exact this⟩
    · rintro e w' ⟨rfl, X, o, hX, ho, rfl⟩
      have hO : Off [F, S] w (X.setCell ⟨F, 0, none⟩ (.slice (some ⟨A, o, none⟩) xs'.length (ca - 1))) := (Off.of hX (Nat.le_refl _)).set _ _ (.inl (by simp))
      have hO1 : Off [F] w (X.setCell ⟨F, 0, none⟩ (.slice (some ⟨A, o, none⟩) xs'.length (ca - 1))) := (Off.of hX (Nat.le_refl _)).set _ _ (.inl (by simp))
      refine ⟨x, xs', ys, rfl, ?_, ⟨⟨o, ca - 1, (h1.keep hX).set _, h2.tail ho, by simp at h3; omega, by omega⟩, ⟨ob, cb, k1.off hO1 (by simpa using Ne.symm d1), k2, k3, k4⟩, hO1.cell h5 (by simpa using d4), h6.off hO1 (by simpa using Ne.symm d2), d1, d2, d3, d4, d5⟩, hO, fun _ h => by simp [h], fun _ h => h⟩
      cases ys with
      | nil => simp [mrg_nil]
      | cons y ys' => rw [mrg]; simp [hy y ys' rfl]
  match xs, ys with
  | [], [] => simp at hne
  | [], y :: ys' => exact snd y ys' rfl (fun x xs' e => by cases e)
  | x :: xs', [] => exact fst x xs' rfl (fun y ys' e => by cases e)
  | x :: xs', y :: ys' =>
    cases hq : ah y x with
    | true => exact snd y ys' rfl (fun x xs' e => by cases e; exact hq)
    | false => exact fst x xs' rfl (fun y ys' e => by cases e; exact hq)

/-- an element put behind a list that has room -/
theorem app1 (w : World) (g o n c : Nat) (v : Int) (a : Addr) (L : List Int) (hroom : n + 1 ≤ c) (hcell : w.cell? a = some (.int .i64 v)) (hE : EB .i64 3 w g L) (hlt : o + n < L.length) (ty : TypeId) :
    (Builtin.append_ #[27, 27] ty #[.slice (some ⟨g, o, none⟩) n c, .slice (some a) 1 1]).run Try.prog w = .ok (.slice (some ⟨g, o, none⟩) (n + 1) c) (w.setCell ⟨g, o + n, none⟩ (.int .i64 v)) := by
  obtain ⟨i0, hi, hz0, hz1, hz2⟩ := info_parts Try.info3
  have ha0 : a.add 0 = a := by unfold Addr.add; split <;> simp_all
  have hf := run_firstCells_some (P := Try.prog) w 1 1 a 1 1 [.int .i64 v] rfl (by
    intro j u hj
    match j, hj with
    | 0, hj => simp at hj; subst hj; rw [ha0]; exact hcell)
  have hst := run_storeCells_at Try.prog g (o + n) 3 [.int .i64 v] 0 _ w hE (by simp; omega) (by simp [Value.oneCell'])
  have hset : w.setRow g (List.take (o + n + 0) (L.map (Value.int .i64)).toArray.toList ++ [Value.int .i64 v] ++ List.drop (o + n + 0 + [Value.int .i64 v].length) (L.map (Value.int .i64)).toArray.toList).toArray = w.setCell ⟨g, o + n, none⟩ (.int .i64 v) := by
    rw [setCell_eq_setRow w g (o + n) _ 3 (0, 0) _ hE]
    congr 1
    apply Array.ext'
    simp [List.set_eq_take_append_cons_drop, hlt]
  rw [hset] at hst
  simp [Builtin.append_, run_underlying Try.underlying27, sizeOf, typeInfo, hi, hz1, Builtin.lenOf, hroom, hf, Addr.add_lit, hst]

theorem wpList_app1 {ops : Array Oper} {rest : List Oper} {op : Oper} {a : Act} {Q : Exit → Act → World → Prop} {w : World} (hgd : op.guard = none) (s x : Operand)
    (ho : op.op = .call { callee := .builtin .append, args := #[s, x], argTypes := #[27, 27] }) (g o n c : Nat) (v : Int) (ad : Addr) (L : List Int)
    (hs : a.eval s = .slice (some ⟨g, o, none⟩) n c) (hx : a.eval x = .slice (some ad) 1 1)
    (hroom : n + 1 ≤ c) (hcell : w.cell? ad = some (.int .i64 v)) (hE : EB .i64 3 w g L) (hlt : o + n < L.length)
    (h : wpList Try.prog ops Q rest (a.put op.dst (.slice (some ⟨g, o, none⟩) (n + 1) c)) (w.setCell ⟨g, o + n, none⟩ (.int .i64 v))) : wpList Try.prog ops Q (op :: rest) a w :=
  wpList_plain hgd fun K hK => by
    have hr := app1 w g o n c v ad L hroom hcell hE hlt op.type
    unfold Oper.wp execOp
    simp only [ho, resolve, invoke, builtin, Sem.run_bind, Sem.run_pure, Result.andThen_ok, List.map_toArray, List.map_cons, List.map_nil, hs, hx, hr]
    exact hK _ _ h

/-- a list with a part of it written over -/
def spl (R : List Int) (o : Nat) (zs : List Int) : List Int := R.take o ++ zs ++ R.drop (o + zs.length)
theorem spl_nil (R : List Int) (o : Nat) : spl R o [] = R := by simp [spl]
theorem spl_len {R : List Int} {o : Nat} {zs : List Int} (h : o + zs.length ≤ R.length) : (spl R o zs).length = R.length := by simp [spl]; omega
theorem spl_snoc {R : List Int} {o : Nat} {zs : List Int} (z : Int) (h : o + zs.length < R.length) : (spl R o zs).set (o + zs.length) z = spl R o (zs ++ [z]) := by
  unfold spl
  have h1 : (R.take o ++ zs).length = o + zs.length := by simp; omega
  rw [List.set_append_right _ _ (by omega), h1, Nat.sub_self, List.drop_eq_getElem_cons h]
  simp [Nat.add_assoc]

/-- merge is done -/
def Mg (ah : Int → Int → Bool) (w : World) (R ro rc A : Nat) (RL L xs ys : List Int) (e : Ending) (w' : World) : Prop :=
  e = .returned (.slice (some ⟨R, ro, none⟩) (xs.length + ys.length) rc) ∧ EB .i64 3 w' R (spl RL ro (mrg ah xs ys)) ∧ EB .i64 3 w' A L ∧ Off [R] w w'

/-- what is asked of the closure that tells who stands ahead: in each world in which all below N is as in w0 -/
def AH (ah : Int → Int → Bool) (D : Int → Int → Prop) (N : Nat) (w0 : World) (g : Nat) (lb : Array Value) : Prop :=
  ∀ X, Below N w0 X → N ≤ X.heap.size → ∀ y x, D y x → Calls Try.prog g (#[.int .i64 y, .int .i64 x] ++ lb) X fun e w' => e = .returned (.bool (ah y x)) ∧ Below X.heap.size X w'

set_option maxRecDepth 100000 in
set_option maxHeartbeats 3200000 in
theorem merge_any (w w0 : World) (N R ro rc A oa ca ob cb g : Nat) (lb : Array Value) (RL L xs ys : List Int) (ah : Int → Int → Bool) (D : Int → Int → Prop)
    (eg : ∀ args w, (callFunc g args).run Try.prog w = .ok (.enter g args) w) (hA : AH ah D N w0 g lb) (hw0 : Below N w0 w) (hN : N ≤ R ∧ N ≤ w.heap.size) (hRA : R ≠ A)
    (hR : EB .i64 3 w R RL) (hL : EB .i64 3 w A L) (hxs : Seg L oa xs) (hys : Seg L ob ys) (hD : ∀ y ∈ ys, ∀ x ∈ xs, D y x)
    (hca : xs.length ≤ ca ∧ ca ≤ 17179869184) (hcb : ys.length ≤ cb ∧ cb ≤ 17179869184) (hrc : xs.length + ys.length ≤ rc) (hro : ro + rc ≤ RL.length) (hrl : rc ≤ 17179869184) :
    Calls Try.prog 31 #[.slice (some ⟨R, ro, none⟩) 0 rc, .slice (some ⟨A, oa, none⟩) xs.length ca, .slice (some ⟨A, ob, none⟩) ys.length cb, .func (.func g) #[] lb] w (Mg ah w R ro rc A RL L xs ys) := by
  have hmf : ∀ (fn : Fn) (first cap : Array Value) (w : World), (Instr.makeFunc fn first cap).run Try.prog w = .ok (.func fn first cap) w := fun _ _ _ _ => rfl
  have hRlt := hR.lt
  have hAlt := hL.lt
  obtain ⟨W, hW⟩ : ∃ W, W = ((w.alloc (.cells #[.slice (some ⟨A, oa, none⟩) xs.length ca] 27)).alloc (.cells #[.slice (some ⟨A, ob, none⟩) ys.length cb] 27)).alloc (.cells #[.func (.func g) #[] lb] 46) := ⟨_, rfl⟩
  have f1 : BX W w.heap.size (.slice (some ⟨A, oa, none⟩) xs.length ca) := by
    subst hW; unfold BX
    rw [Below.heap_alloc _ _ _ (by simp; omega), Below.heap_alloc _ _ _ (by simp)]
    exact heap_alloc_new w _
  have f2 : BX W (w.heap.size + 1) (.slice (some ⟨A, ob, none⟩) ys.length cb) := by
    subst hW; unfold BX
    rw [Below.heap_alloc _ _ _ (by simp)]
    simpa using heap_alloc_new (w.alloc (.cells #[.slice (some ⟨A, oa, none⟩) xs.length ca] 27)) (.cells #[.slice (some ⟨A, ob, none⟩) ys.length cb] 27)
  have f3 : W.cell? ⟨w.heap.size + 2, 0, none⟩ = some (.func (.func g) #[] lb) := by
    subst hW
    have := World.cell?_alloc_new (w := (w.alloc (.cells #[.slice (some ⟨A, oa, none⟩) xs.length ca] 27)).alloc (.cells #[.slice (some ⟨A, ob, none⟩) ys.length cb] 27)) #[.func (.func g) #[] lb] 46 0
    simpa using this
  have hO0 : Off [R] w W := by subst hW; exact (((Off.refl _ w).all _).all _).all _
  have hM0 : MS W w.heap.size (w.heap.size + 1) (w.heap.size + 2) A L xs ys (.func (.func g) #[] lb) :=
    ⟨⟨oa, ca, f1, hxs, hca.1, hca.2⟩, ⟨ob, cb, f2, hys, hcb.1, hcb.2⟩, f3, hL.off hO0 (by simpa using Ne.symm hRA), by omega⟩
  have hR0 : EB .i64 3 W R (spl RL ro []) := by rw [spl_nil]; subst hW; exact ((hR.all _).all _).all _
  have HM0 := Lib.hid hM0
  have HO0 := Lib.hid hO0
  have HR0 := Lib.hid hR0
  have g1 := f1.cell
  have g2 := f2.cell
  clear f1 f2 hM0 hO0 hR0 hxs hys hR hL
  obtain ⟨n, hn⟩ : ∃ n, n = xs.length + ys.length := ⟨_, rfl⟩
  have HN := Lib.hid hn
  have hz : ((xs.length : Int) + ys.length) = (n : Int) := by omega
  have hnle : n ≤ 34359738368 := by omega
  have hnrc : n ≤ rc := by omega
  clear hn
  go_enter Try.func31, Try.ntmps31
  go_upto_region 2 with fail
  rw [← hW]
  have HW := Lib.hid hW
  clear hW
  go_wp2_with fail
  go_loopw [0, 16] (fun v i wr => ∃ zs xs' ys' : List Int, i = .int .i64 zs.length ∧ v = .slice (some ⟨R, ro, none⟩) zs.length rc ∧ Hid (MS wr w.heap.size (w.heap.size + 1) (w.heap.size + 2) A L xs' ys' (.func (.func g) #[] lb)) ∧
      Hid (EB .i64 3 wr R (spl RL ro zs)) ∧ Hid (Off [R] w wr) ∧ Hid (zs ++ mrg ah xs' ys' = mrg ah xs ys) ∧ Hid (∀ x ∈ xs', x ∈ xs) ∧ Hid (∀ y ∈ ys', y ∈ ys))
    (fun _ i _ => n - (intOf i).toNat)
  case atStart => exact ⟨[], xs, ys, rfl, rfl, HM0, HR0, HO0, Lib.hid rfl, Lib.hid (fun _ h => h), Lib.hid (fun _ h => h)⟩
  case round =>
    clear HM0 HR0 HO0 g1 g2 f3
    obtain ⟨zs, xs', ys', rfl, rfl, HM, HR, HO, HE, HX, HY⟩ := hrel
    have hlen : zs.length + xs'.length + ys'.length = n := by
      have := congrArg List.length HE.out
      have h1 := HN.out
      simp [mrg_len] at this
      omega
    by_cases hlt : zs.length < n
    · have hltz : (zs.length : Int) < (n : Int) := by omega
      have hcall := next_any wr w.heap.size (w.heap.size + 1) (w.heap.size + 2) A g lb L xs' ys' ah eg HM.out (by
        rcases xs' with _ | ⟨x, xs'⟩
        · rcases ys' with _ | ⟨y, ys'⟩
          · simp at hlen; omega
          · simp
        · simp) (fun y hy x hx X hX => hA X ((hw0.trans (HO.out.below hN.2 (by simpa using hN.1))).trans (hX.mono (Nat.le_trans hN.2 HO.out.size))) (Nat.le_trans hN.2 (Nat.le_trans HO.out.size hX.size)) y x (hD y (HY.out y hy) x (HX.out x hx)))
      have HC := Lib.hid hcall
      clear hcall
      go_wp2_with (first
        | (go_at_call 37; refine HC.out.mono ?_; rintro e w1 ⟨z, xs2, ys2, rfl, hz2, hM2, hO2, hx2, hy2⟩; have HZ2 := Lib.hid hz2; have HM2 := Lib.hid hM2; have HO2 := Lib.hid hO2; have HX2 := Lib.hid hx2; have HY2 := Lib.hid hy2; clear hz2 hM2 hO2 hx2 hy2)
        | (at_builtin; refine wpList_app1 rfl (.tmp 18) (.tmp 21) rfl R ro zs.length rc z ⟨w1.heap.size, 0, none⟩ (spl RL ro zs) rfl rfl (by omega) (by simp) ((HR.out.off HO2.out (by simp; omega)).all _) (by rw [spl_len (by omega)]; omega) ?_))
      go_roundw
      case rel =>
        have hR2 := (((HR.out.off HO2.out (by simp; omega)).all (.cells #[.int .i64 z] 3)).set (ro + zs.length) z).eq (spl_snoc z (by omega))
        have hO3 : Off [R] w1 (((w1.alloc (.cells #[.int .i64 z] 3))).setCell ⟨R, ro + zs.length, none⟩ (.int .i64 z)) := ((Off.refl _ w1).all _).set _ _ (.inl (by simp))
        refine ⟨zs ++ [z], xs2, ys2, by simp, by simp, Lib.hid (HM2.out.off hO3 (by simp; omega)), Lib.hid hR2, Lib.hid ((HO.out.via HO2.out (by simp; omega)).trans hO3), Lib.hid ?_, Lib.hid (fun x h => HX.out x (HX2.out x h)), Lib.hid (fun y h => HY.out y (HY2.out y h))⟩
        rw [← HE.out, HZ2.out]
        simp
      case measure => simp [intOf]; omega
    · have hge : ¬ (zs.length : Int) < (n : Int) := by omega
      have hxe : xs' = [] := List.length_eq_zero_iff.1 (by omega)
      have hye : ys' = [] := List.length_eq_zero_iff.1 (by omega)
      go_wp2
      go_ret
      subst hxe hye
      have hz3 : zs = mrg ah xs ys := by simpa [mrg] using HE.out
      refine ⟨?_, ?_, HM.out.row, HO.out⟩
      · rw [show xs.length + ys.length = zs.length by have := HN.out; omega]
        rfl
      · rw [← hz3]; exact HR.out
end Go.Proofs.Ytomchimjogdkkaa
