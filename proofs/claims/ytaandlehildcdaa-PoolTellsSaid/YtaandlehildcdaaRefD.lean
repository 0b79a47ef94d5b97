/-
  The document's Put. No condition but those typed at each theorem.
-/
import Derived.Test.YtaandlehildcdaaRefC
namespace Go.Proofs.Ytaandlehildcdaa
open Go.RowKit

theorem step_list {P : Program} {e : TypeId} {z : Value} {size bytes : Nat} (hi : (P.info? e).map (fun i => (i.zero, i.size, i.bytes)) = some (some z, size, bytes)) (hzs : z.cells.size = size) (hsz : 0 < size) (hby : bytes ≤ 64)
    {t : TypeId} (ht : P.underlying t = some (.slice e)) {w : World} {ops : Array Oper} {o : Oper} {a : Act} {K : Act → World → Prop} {E : Prop} (hg : o.guard = none) (s x : Operand) (hop : o.op = Op.call { callee := Callee.builtin Builtin.append, args := #[s, x], argTypes := #[t, t] })
    {Q : Exit → Act → World → Prop} (base : Nat) (v : Value) (n : Nat) (xs : List Value) (hs : a.eval s = v) (hown : w.ownsRow base e size v n xs) (p : Option Addr) (m c : Nat) (news : List Value) (hx : a.eval x = .slice p m c) (hl : news.length = m * size)
    (hsrc : Src w p m c news) (h1 : ∀ u ∈ news, u.oneCell' = true) (hn : n + m ≤ 100000) (hb : base ≤ w.heap.size)
    (hK : ∀ v' w', w'.ownsRow base e size v' (n + m) (xs ++ news) → w.grownBy w' v.ownBlock → K (a.put o.dst v') w') :
    if Region.wanted o (yielded ops a.tmps) = true then Oper.wp P o a w K Q else E := by
  have hw : Region.wanted o (yielded ops a.tmps) = true := by simp [Region.wanted, hg]
  rw [if_pos hw]
  obtain ⟨v', w', hr, r1, r2, -⟩ := run_list hi hzs hsz hby ht o.type w base v n xs hown p m c news hl hsrc h1 hn hb
  unfold Oper.wp execOp
  simp only [hop, resolve, invoke, builtin, Sem.run_bind, Sem.run_pure, Result.andThen_ok, List.map_toArray, List.map_cons, List.map_nil, hs, hx, hr]
  exact hK v' w' r1 r2
theorem row_e {w : World} {base A : Nat} {e : TypeId} {size : Nat} (hA : base ≤ A) (h : w.heap[A]? = some (.cells #[] e (0, 0))) : w.ownsRow base e size (.slice (some ⟨A, 0, none⟩) 0 0) 0 [] :=
  ⟨by simp, .inr ⟨A, 0, #[], rfl, hA, h, Nat.le_refl _, Nat.zero_le _, by simp, by simp⟩⟩
theorem new_at (w : World) (o : Obj) (A : Nat) (h : A = w.heap.size) : (w.alloc o).heap[A]? = some o := h ▸ heap_alloc_new w o
theorem old_at (w : World) (o o' : Obj) (A : Nat) (h : A = w.heap.size) : ((w.alloc o).alloc o').heap[A]? = some o := (Below.heap_alloc _ _ _ (by subst h; simp)).trans (new_at w o A h)
theorem nd_kept {W X : World} {n : Nd} {B : Nat} {o : Option Nat} (g : W.grownBy X o) (ho : some B ≠ o) (h : W.heap[B]? = some (.cells (nvs n).toArray 34 (0, 0))) : ∀ j u, (nvs n)[j]? = some u → X.cell? ((⟨B, 0, none⟩ : Addr).add j) = some u := by
  intro j u hu
  rw [Addr.add_lit, Nat.zero_add]
  have hb : X.heap[B]? = some (.cells (nvs n).toArray 34 (0, 0)) := (g.block B (lt_of_block h) ho).trans h
  simp [World.cell?, hb]
  simpa using hu
/-- what is told of a Put, by the document -/
def rput (N : List Nd) (most : Int) (n : Nd) : List Nd × Int × Int :=
  if mayB N n = true then (if most ≤ (N.length : Int) then (N, 0, 5) else (N ++ [n], N.length, 0)) else (N, 0, 50)

set_option maxRecDepth 100000 in
set_option maxHeartbeats 3200000 in
theorem RPut (w : World) (p : Option Addr) (c : Nat) (N : List Nd) (most : Int) (n : Nd) (hx : NdS w p N) (hp : p = none → c = 0) (hl : N.length ≤ 8000) :
    Calls Try.prog 18 #[.slice p N.length c, .int .i64 most, nv n] w fun e w' => ∃ p' c', e = .returned (.tuple #[.slice p' (rput N most n).1.length c', .int .i64 (rput N most n).2.1, .int .i64 (rput N most n).2.2]) ∧ NdS w' p' (rput N most n).1 ∧ (p' = none → c' = 0) ∧ ((p' = p ∧ (rput N most n).1 = N) ∨ ∀ b o, p' = some ⟨b, o, none⟩ → w.heap.size ≤ b) ∧ Below w.heap.size w w' := by
  obtain ⟨w1, hw1⟩ : ∃ w1, w1 = w.alloc (.cells (nvs n).toArray 34) := ⟨_, rfl⟩
  have hN1 : N1 w1 w.heap.size 0 n := by rw [hw1]; exact N1.new w n _
  have hB1 : Below w.heap.size w w1 := by rw [hw1]; exact (Below.refl _ w).alloc (Nat.le_refl _) _
  have hs1 : w1.heap.size = w.heap.size + 1 := by rw [hw1]; simp
  have HM := Lib.hid (RMay w1 p c N n (hx.keep hB1) (by omega))
  have n0 := hN1.c0
  have n1 := hN1.c1
  have n2 := hN1.c2
  have n3 := hN1.c3
  have n4 := hN1.c4
  have n5 := hN1.c5
  have n6 := hN1.c6
  simp only [Nat.zero_add] at n1 n2 n3 n4 n5 n6
  have HX := Lib.hid hx
  have HB1 := Lib.hid hB1
  have HN1 := Lib.hid hN1
  have HP := Lib.hid hp
  obtain ⟨d, hd⟩ : ∃ d, d = N.length := ⟨_, rfl⟩
  have HD := Lib.hid hd
  have HS1 := Lib.hid hs1
  by_cases hm : mayB N n = true
  · rw [hm] at HM
    by_cases hf : most ≤ (N.length : Int)
    · rw [show rput N most n = (N, 0, 5) by simp [rput, hm, hf]]
      rw [← hd] at HM hf ⊢
      clear hx hp hN1 hB1 hd hs1 hm
      obtain ⟨kk, L, R, f, t, a, q⟩ := n
      unfold nv at HM ⊢
      unfold nvs at hw1
      simp only at n0 n1 n2 n3 n4 n5 n6
      dsimp only at HM ⊢
      go_enter Try.func18, Try.ntmps18
      go_wp2_with (rw [← hw1]; clear hw1; go_at_call 34; (with_reducible refine HM.out.mono ?_); rintro e w2 ⟨rfl, hb⟩; have HB2 := Lib.hid hb; clear hb)
      refine bodyPost_ret (v := .tuple #[.slice p d c, .int .i64 0, .int .i64 5]) ?_ rfl ⟨p, c, by rw [HD.out], HX.out.keep (HB1.out.trans (HB2.out.mono HB1.out.size)), HP.out, .inl (by simp), HB1.out.trans (HB2.out.mono HB1.out.size)⟩
      simp [results, Try.f18, go_sem]
    · rw [show rput N most n = (N ++ [n], (N.length : Int), 0) by simp [rput, hm, hf]]
      rw [← hd] at HM hf ⊢
      clear hx hp hN1 hB1 hd hs1 hm
      have HNV := Lib.hid (flatN_snoc N n)
      obtain ⟨kk, L, R, f, t, a, q⟩ := n
      unfold nv at HM ⊢
      unfold nvs at hw1
      simp only at n0 n1 n2 n3 n4 n5 n6
      dsimp only at HM ⊢
      go_enter Try.func18, Try.ntmps18
      go_upto_region 5 with (rw [← hw1]; clear hw1; go_at_call 34; (with_reducible refine HM.out.mono ?_); rintro e w2 ⟨rfl, hb⟩; have HB2 := Lib.hid hb; clear hb)
      have hBd : Below w1.heap.size w1 w2.drew := HB2.out.drew
      have hNd := HN1.out.keep hBd (by have := HS1.out; omega)
      have hsd := hBd.size
      have hBx : Below w.heap.size w w2.drew := HB1.out.trans (hBd.mono HB1.out.size)
      have HSRC := Lib.hid (fun X (hX : Below w2.drew.heap.size w2.drew X) => ((HX.out.keep hBx).src HP.out).keep hX)
      have hNd2 := HN1.out.keep HB2.out (by have := HS1.out; omega)
      clear n0 n1 n2 n3 n4 n5 n6
      have n0 := hNd2.c0
      have n1 := hNd2.c1
      have n2 := hNd2.c2
      have n3 := hNd2.c3
      have n4 := hNd2.c4
      have n5 := hNd2.c5
      have n6 := hNd2.c6
      simp only [Nat.zero_add] at n0 n1 n2 n3 n4 n5 n6
      have HND := Lib.hid hNd
      have HBX := Lib.hid hBx
      have hwl : w.heap.size < w2.heap.size := by have := HS1.out; have := HB2.out.size; omega
      have hwl2 : w.heap.size < w2.heap.size + 1 := by omega
      have HA1 : Hid (∀ o, Below w2.drew.heap.size w2.drew (w2.drew.alloc o)) := Lib.hid (fun o => (Below.refl _ w2.drew).alloc (Nat.le_refl _) o)
      have HA2 : Hid (∀ o o', Below w2.drew.heap.size w2.drew ((w2.drew.alloc o).alloc o')) := Lib.hid (fun o o' => (HA1.out o).alloc (by simp) o')
      clear hNd hNd2 hBx hBd hsd HB2
      go_region_law (first
        | (refine step_list Try.info34 rfl (by decide) (by decide) Try.underlying22 rfl (.tmp 19) (.tmp 20) rfl w2.heap.size (.slice (some ⟨w2.heap.size, 0, none⟩) 0 0) 0 [] (by simp [Act.eval]) (row_e (Nat.le_refl _) (new_at _ _ _ rfl)) p d c (flatN N) (by simp [Act.eval]) (by rw [HD.out]; exact flatN_len N) (by rw [HD.out]; exact HSRC.out _ (HA1.out _)) (flatN_one N) (by have := HD.out; omega) (by simp <;> omega) ?_; intro v1 w3 r1 r2
           have hb3 : Below w2.drew.heap.size w2.drew w3 := ((HA1.out _)).grown r2 (by simp <;> omega) (fun k hk => by simp [Value.ownBlock] at hk; simp; omega)
           skip
           have HR1 := Lib.hid r1
           have HB3 := Lib.hid hb3
           have hm := HND.out.keep hb3 (by simpa using hwl)
           have m0 := hm.c0
           have m1 := hm.c1
           have m2 := hm.c2
           have m3 := hm.c3
           have m4 := hm.c4
           have m5 := hm.c5
           have m6 := hm.c6
           simp only [Nat.zero_add] at m0 m1 m2 m3 m4 m5 m6
           clear r1 r2 hb3 hm)
        | (refine step_list Try.info34 rfl (by decide) (by decide) Try.underlying22 rfl (.tmp 19) (.tmp 20) rfl w2.heap.size (.slice (some ⟨w2.heap.size, 0, none⟩) 0 0) 0 [] (by simp [Act.eval]) (row_e (Nat.le_refl _) (old_at _ _ _ _ rfl)) p d c (flatN N) (by simp [Act.eval]) (by rw [HD.out]; exact flatN_len N) (by rw [HD.out]; exact HSRC.out _ (HA2.out _ _)) (flatN_one N) (by have := HD.out; omega) (by simp <;> omega) ?_; intro v1 w3 r1 r2
           have hb3 : Below w2.drew.heap.size w2.drew w3 := ((HA2.out _ _)).grown r2 (by simp <;> omega) (fun k hk => by simp [Value.ownBlock] at hk; simp; omega)
           have HC := Lib.hid (nd_kept (n := (kk, L, R, f, t, a, q)) (B := w2.heap.size + 1) r2 (by simp [Value.ownBlock]) (new_at _ _ _ (by simp)))
           have HR1 := Lib.hid r1
           have HB3 := Lib.hid hb3
           have hm := HND.out.keep hb3 (by simpa using hwl)
           have m0 := hm.c0
           have m1 := hm.c1
           have m2 := hm.c2
           have m3 := hm.c3
           have m4 := hm.c4
           have m5 := hm.c5
           have m6 := hm.c6
           simp only [Nat.zero_add] at m0 m1 m2 m3 m4 m5 m6
           clear r1 r2 hb3 hm)
        | (refine step_list Try.info34 rfl (by decide) (by decide) Try.underlying22 rfl (.tmp 19) (.tmp 20) rfl w2.heap.size (.slice (some ⟨w2.heap.size + 1, 0, none⟩) 0 0) 0 [] (by simp [Act.eval]) (row_e (Nat.le_succ _) (new_at _ _ _ (by simp))) p d c (flatN N) (by simp [Act.eval]) (by rw [HD.out]; exact flatN_len N) (by rw [HD.out]; exact HSRC.out _ (HA2.out _ _)) (flatN_one N) (by have := HD.out; omega) (by simp <;> omega) ?_; intro v1 w3 r1 r2
           have hb3 : Below w2.drew.heap.size w2.drew w3 := ((HA2.out _ _)).grown r2 (by simp <;> omega) (fun k hk => by simp [Value.ownBlock] at hk; simp; omega)
           have HC := Lib.hid (nd_kept (n := (kk, L, R, f, t, a, q)) (B := w2.heap.size) r2 (by simp [Value.ownBlock]) (old_at _ _ _ _ rfl))
           have HR1 := Lib.hid r1
           have HB3 := Lib.hid hb3
           have hm := HND.out.keep hb3 (by simpa using hwl)
           have m0 := hm.c0
           have m1 := hm.c1
           have m2 := hm.c2
           have m3 := hm.c3
           have m4 := hm.c4
           have m5 := hm.c5
           have m6 := hm.c6
           simp only [Nat.zero_add] at m0 m1 m2 m3 m4 m5 m6
           clear r1 r2 hb3 hm)
        | (refine step_list Try.info34 rfl (by decide) (by decide) Try.underlying22 rfl (.tmp 21) (.tmp 23) rfl w2.heap.size v1 (0 + d) ([] ++ flatN N) (by simp [Act.eval]) (HR1.out.alloc _) (some ⟨w3.heap.size, 0, none⟩) 1 1 (nvs (kk, L, R, f, t, a, q)) (by simp [Act.eval]) rfl (.inr ⟨_, rfl, nd_at w3 _ _⟩) (nvs_one _) (by have := HD.out; omega) (by have := HB3.out.size; simp at this ⊢; omega) ?_; intro v2 w4 r1 r2
           have hb4 : Below w2.drew.heap.size w2.drew w4 := ((HB3.out.alloc HB3.out.size _).grown r2 (by have := HB3.out.size; simp at this ⊢; omega) (fun q hq => (HR1.out.lt q hq).1))
           have HR4 := Lib.hid r1
           have HB4 := Lib.hid hb4
           clear r1 r2 hb4)
        | (refine step_list Try.info34 rfl (by decide) (by decide) Try.underlying22 rfl (.tmp 21) (.tmp 23) rfl w2.heap.size v1 (0 + d) ([] ++ flatN N) (by simp [Act.eval]) HR1.out (some ⟨w2.heap.size + 1, 0, none⟩) 1 1 (nvs (kk, L, R, f, t, a, q)) (by simp [Act.eval]) rfl (.inr ⟨_, rfl, HC.out⟩) (nvs_one _) (by have := HD.out; omega) (by have := HB3.out.size; simp at this ⊢; omega) ?_; intro v2 w4 r1 r2
           have hb4 : Below w2.drew.heap.size w2.drew w4 := (HB3.out.grown r2 HB3.out.size (fun q hq => (HR1.out.lt q hq).1))
           have HR4 := Lib.hid r1
           have HB4 := Lib.hid hb4
           clear r1 r2 hb4)
        | (refine step_list Try.info34 rfl (by decide) (by decide) Try.underlying22 rfl (.tmp 21) (.tmp 23) rfl w2.heap.size v1 (0 + d) ([] ++ flatN N) (by simp [Act.eval]) HR1.out (some ⟨w2.heap.size, 0, none⟩) 1 1 (nvs (kk, L, R, f, t, a, q)) (by simp [Act.eval]) rfl (.inr ⟨_, rfl, HC.out⟩) (nvs_one _) (by have := HD.out; omega) (by have := HB3.out.size; simp at this ⊢; omega) ?_; intro v2 w4 r1 r2
           have hb4 : Below w2.drew.heap.size w2.drew w4 := (HB3.out.grown r2 HB3.out.size (fun q hq => (HR1.out.lt q hq).1))
           have HR4 := Lib.hid r1
           have HB4 := Lib.hid hb4
           clear r1 r2 hb4))
      all_goals (
        have hr : w4.ownsRow w2.heap.size 34 7 v2 (d + 1) (flatN (N ++ [(kk, L, R, f, t, a, q)])) := by
          rw [HNV.out]
          have h := HR4.out
          rw [Nat.zero_add, List.nil_append] at h
          exact h
        obtain ⟨hlen, p', c', rfl, hNd, hp', -⟩ := row_nds hr
        have HG : Hid (∀ b o, p' = some ⟨b, o, none⟩ → w.heap.size ≤ b) := Lib.hid (fun b o e => by
          rcases hr.2 with ⟨h, _⟩ | ⟨g, cap, cur, h, hg, _⟩
          · cases h
          · cases h; cases e; omega)
        have HE := Lib.hid (And.intro hlen (And.intro hNd hp'))
        clear hlen hNd hp' hr HR4
        go_wp2_with fail
        refine bodyPost_ret (v := .tuple #[.slice p' (d + 1) c', .int .i64 d, .int .i64 0]) ?_ rfl ⟨p', c', by rw [HE.out.1], HE.out.2.1, fun h => (HE.out.2.2 h).1, .inr HG.out, HBX.out.trans (HB4.out.mono HBX.out.size)⟩
        simp [results, Try.f18, go_sem])
  · rw [show rput N most n = (N, 0, 50) by simp [rput, hm]]
    have hmf : mayB N n = false := by simpa using hm
    rw [hmf] at HM
    rw [← hd] at HM ⊢
    clear hx hp hN1 hB1 hd hs1 hm hmf
    obtain ⟨kk, L, R, f, t, a, q⟩ := n
    unfold nv at HM ⊢
    unfold nvs at hw1
    simp only at n0 n1 n2 n3 n4 n5 n6
    dsimp only at HM ⊢
    go_enter Try.func18, Try.ntmps18
    go_wp2_with (rw [← hw1]; clear hw1; go_at_call 34; (with_reducible refine HM.out.mono ?_); rintro e w2 ⟨rfl, hb⟩; have HB2 := Lib.hid hb; clear hb)
    refine bodyPost_ret (v := .tuple #[.slice p d c, .int .i64 0, .int .i64 50]) ?_ rfl ⟨p, c, by rw [HD.out], HX.out.keep (HB1.out.trans (HB2.out.mono HB1.out.size)), HP.out, .inl (by simp), HB1.out.trans (HB2.out.mono HB1.out.size)⟩
    simp [results, Try.f18, go_sem]
end Go.Proofs.Ytaandlehildcdaa
