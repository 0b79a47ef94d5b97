/-
  stack.All and stack.Leaves: what they tell. No condition but those typed at each theorem.
-/
import Derived.Test.YtjobfpnlpfjoeaaClos
import Derived.Test.YtjobfpnlpfjoeaaRight
import Derived.BigQuiet
namespace Go.Proofs.Ytjobfpnlpfjoeaa
open Go.RowKit

set_option maxRecDepth 100000 in
set_option maxHeartbeats 1600000 in
theorem check_any (w : World) (p : Option Addr) (c : Nat) (N : List Nd) (r : Int) (hx : NdS w p N) (hl : N.length ≤ 8192) :
    Calls Try.prog 24 #[.slice p N.length c, .int .i64 r] w fun e w' => e = .returned (.int .i64 (chk N r)) ∧ Below w.heap.size w w' := by
  have HR := Lib.hid (Right_any w p c N hx hl)
  unfold chk
  clear hx
  generalize rtB N = q at *
  generalize N.length = d at *
  cases q with
  | false =>
    go_enter Try.func24, Try.ntmps24
    go_wp2_with (go_at_call 16; (with_reducible refine HR.out.mono ?_); rintro e w1 ⟨rfl, hb⟩; have HB := Lib.hid hb; clear hb)
    go_ret
    exact ⟨rfl, HB.out⟩
  | true =>
    by_cases h1 : r < 0
    · go_enter Try.func24, Try.ntmps24
      go_wp2_with (go_at_call 16; (with_reducible refine HR.out.mono ?_); rintro e w1 ⟨rfl, hb⟩; have HB := Lib.hid hb; clear hb)
      go_ret
      exact ⟨by simp, HB.out⟩
    · by_cases h2 : (d : Int) ≤ r
      · go_enter Try.func24, Try.ntmps24
        go_wp2_with (go_at_call 16; (with_reducible refine HR.out.mono ?_); rintro e w1 ⟨rfl, hb⟩; have HB := Lib.hid hb; clear hb)
        go_ret
        exact ⟨by simp, HB.out⟩
      · go_enter Try.func24, Try.ntmps24
        go_wp2_with (go_at_call 16; (with_reducible refine HR.out.mono ?_); rintro e w1 ⟨rfl, hb⟩; have HB := Lib.hid hb; clear hb)
        go_ret
        exact ⟨by simp, HB.out⟩

/-- a list of one's own, and an error, are told -/
def TA (w : World) (L : List Int) (x : Int) (e : Ending) (w' : World) : Prop := ∃ v, e = .returned (.tuple #[v, .int .i64 x]) ∧ w'.ownsRow w.heap.size 3 1 v L.length (L.map (Value.int .i64)) ∧ Below w.heap.size w w'
/-- a list of one's own, a number and an error -/
def TL (w : World) (L : List Int) (m x : Int) (e : Ending) (w' : World) : Prop := ∃ v, e = .returned (.tuple #[v, .int .i64 m, .int .i64 x]) ∧ w'.ownsRow w.heap.size 3 1 v L.length (L.map (Value.int .i64)) ∧ Below w.heap.size w w'
def allR (N : List Nd) (r : Int) : List Int := if chk N r = 0 then all N r else []
def ranR (N : List Nd) (a b r : Int) : List Int := if chk N r = 0 then ran N a b r else []
theorem chk_ok {N : List Nd} {r : Int} (h : chk N r = 0) : Rt N ∧ 0 ≤ r ∧ r < N.length := by
  unfold chk at h
  split at h
  · rename_i h1
    split at h
    · omega
    · exact ⟨(rtB_iff N).1 h1, by omega, by omega⟩
  · omega

theorem egA : ∀ args w, (callFunc 26 args).run Try.prog w = .ok (.enter 26 args) w := enters_of Try.func26 (by kernel_rfl) rfl
theorem egL : ∀ args w, (callFunc 29 args).run Try.prog w = .ok (.enter 29 args) w := enters_of Try.func29 (by kernel_rfl) rfl

set_option maxRecDepth 100000 in
set_option maxHeartbeats 1600000 in
theorem All_any (w : World) (p : Option Addr) (c : Nat) (N : List Nd) (r : Int) (hx : NdS w p N) (hl : N.length ≤ 8192) :
    Calls Try.prog 10 #[.slice p N.length c, .int .i64 r] w (TA w (allR N r) (chk N r)) := by
  have HC := Lib.hid (check_any w p c N r hx hl)
  by_cases hk : chk N r = 0
  · obtain ⟨hR, hr0, hr1⟩ := chk_ok hk
    obtain ⟨i, rfl⟩ : ∃ i : Nat, r = i := ⟨r.toNat, by omega⟩
    have hmf : ∀ (fn : Fn) (first cap : Array Value) (w : World), (Instr.makeFunc fn first cap).run Try.prog w = .ok (.func fn first cap) w := fun _ _ _ _ => rfl
    have HW : Hid (∀ w1, Below w.heap.size w w1 → Calls Try.prog 25 #[.slice p N.length c, .int .i64 i, .func (.func 26) #[] #[.pointer (some ⟨w1.heap.size, 0, none⟩)]] (w1.alloc (.cells #[.slice none 0 0] 25)) fun e w' => e = .returned (.tuple #[]) ∧ ∃ S', IA (w1.alloc (.cells #[.slice none 0 0] 25)) w1.heap.size w' S' (all N i) ∧ Off [w1.heap.size] (w1.alloc (.cells #[.slice none 0 0] 25)) w') := Lib.hid (fun w1 hb => by
      have h0 : NdS (w1.alloc (.cells #[.slice none 0 0] 25)) p N := hx.keep (hb.alloc hb.size _)
      refine walk_any _ p c N (fun _ => true) i [w1.heap.size] [w1.heap.size] 26 #[.pointer (some ⟨w1.heap.size, 0, none⟩)] (IA _ w1.heap.size) h0 hl hR (by omega) egA (enters_all _ _ p c N hl) ?_ ?_
      · exact ⟨_, Bx.new _ _ _, World.ownsRow_nil _ _ _ _, Nat.le_refl _, (fun k e => by cases e), rfl⟩
      · rintro b off rfl hne hm
        have := hx.lt hne
        have := hb.size
        simp at hm
        omega)
    have hal : allR N (i : Int) = all N i := by rw [allR, if_pos hk]
    rw [hal]
    rw [hk] at HC ⊢
    clear hk hR hr0 hr1 hx hal
    generalize all N (i : Int) = M at *
    generalize N.length = d at *
    go_enter Try.func10, Try.ntmps10
    go_wp2_with (first
      | (go_at_call 24; (with_reducible refine HC.out.mono ?_); rintro e w1 ⟨rfl, hb⟩; have HB := Lib.hid hb; clear hb)
      | (go_at_call 25; (with_reducible refine (HW.out w1 HB.out).mono ?_); rintro e w2 ⟨rfl, S', hI, hO⟩; obtain ⟨v, q1, q2, q3, q4, -⟩ := hI; have HI1 := Lib.hid q1; have HI2 := Lib.hid q2; have HI4 := Lib.hid q4; have HO := Lib.hid hO; clear q2 q3 q4 hO; have j1 := q1.cell; clear q1))
    go_ret2
    have hsz := HB.out.size
    refine ⟨_, rfl, row_at HI2.out (fun k e => ⟨rfl, ?_⟩), ?_⟩
    · have := HI4.out k e
      simp at this
      omega
    · exact (HB.out.alloc HB.out.size (.cells #[.slice none 0 0] 25)).trans (HO.out.below (by simp; omega) (by simp; omega))
  · have hal : allR N r = [] := by rw [allR, if_neg hk]
    rw [hal]
    clear hal hx
    generalize chk N r = x at *
    generalize N.length = d at *
    have hkz : (x == 0) = false := by simpa using hk
    go_enter Try.func10, Try.ntmps10
    go_wp2_with (go_at_call 24; (with_reducible refine HC.out.mono ?_); rintro e w1 ⟨rfl, hb⟩; have HB := Lib.hid hb; clear hb)
    go_ret2
    exact ⟨_, rfl, World.ownsRow_nil _ _ _ _, HB.out⟩

/-- the boxes of Leaves, before the check and behind it -/
def bxs (w : World) (p : Option Addr) (d c : Nat) (a b : Int) : World := ((w.alloc (.cells #[.slice p d c] 22)).alloc (.cells #[.int .i64 a] 3)).alloc (.cells #[.int .i64 b] 3)
def bxt (w : World) : World := (w.alloc (.cells #[.slice none 0 0] 25)).alloc (.cells #[.int .i64 0] 3)
theorem bxs_below (w : World) (p : Option Addr) (d c : Nat) (a b : Int) : Below w.heap.size w (bxs w p d c a b) := (((Below.refl _ w).alloc (Nat.le_refl _) _).alloc (by simp) _).alloc (by simp; omega) _
theorem bxs_size (w : World) (p : Option Addr) (d c : Nat) (a b : Int) : (bxs w p d c a b).heap.size = w.heap.size + 3 := by simp [bxs]
theorem bxt_below (w : World) : Below w.heap.size w (bxt w) := ((Below.refl _ w).alloc (Nat.le_refl _) _).alloc (by simp) _
theorem bxt_size (w : World) : (bxt w).heap.size = w.heap.size + 2 := by simp [bxt]
theorem Bx.bel {t : TypeId} {X X' : World} {B : Nat} {v : Value} (h : Bx t X B v) (hb : Below X.heap.size X X') : Bx t X' B v := h.keep hb
theorem Bx.all {t : TypeId} {X : World} {B : Nat} {v : Value} (h : Bx t X B v) (o : Obj) : Bx t (X.alloc o) B v := h.off ((Off.refl [] X).all o) (by simp)
theorem lea_walk (w w1 : World) (p : Option Addr) (c : Nat) (N : List Nd) (a b : Int) (i : Nat) (hx : NdS w p N) (hl : N.length ≤ 8192) (hR : Rt N) (hi : i < N.length) (hb : Below (bxs w p N.length c a b).heap.size (bxs w p N.length c a b) w1) :
    Calls Try.prog 25 #[.slice p N.length c, .int .i64 i, .func (.func 29) #[] #[.pointer (some ⟨w1.heap.size + 1, 0, none⟩), .pointer (some ⟨w.heap.size, 0, none⟩), .pointer (some ⟨w.heap.size + 1, 0, none⟩), .pointer (some ⟨w.heap.size + 2, 0, none⟩), .pointer (some ⟨w1.heap.size, 0, none⟩)]] (bxt w1)
      fun e w' => e = .returned (.tuple #[]) ∧ ∃ S', IL p c N a b (bxt w1) (w1.heap.size + 1) w.heap.size (w.heap.size + 1) (w.heap.size + 2) w1.heap.size w' S' (ran N a b i) ∧ Below w.heap.size w w' := by
  have hs1 := bxs_size w p N.length c a b
  have hs2 := hb.size
  have hs3 := bxt_size w1
  have hB : Below w.heap.size w w1 := (bxs_below w p N.length c a b).trans (hb.mono (by omega))
  have hB2 : Below w.heap.size w (bxt w1) := hB.trans ((bxt_below w1).mono (by omega))
  have h0 : NdS (bxt w1) p N := hx.keep hB2
  have hlow : ∀ bb off, p = some ⟨bb, off, none⟩ → N ≠ [] → bb < w.heap.size := by
    rintro bb off rfl hne
    exact hx.lt hne
  have hne : N ≠ [] := fun h => by rw [h] at hi; simp at hi
  have q1 : Bx 22 (bxs w p N.length c a b) w.heap.size (.slice p N.length c) := ((Bx.new w _ 22).all _).all _
  have q2 : Bx 3 (bxs w p N.length c a b) (w.heap.size + 1) (.int .i64 a) := by
    have := (Bx.new (w.alloc (.cells #[.slice p N.length c] 22)) (.int .i64 a) 3).all (.cells #[.int .i64 b] 3)
    rwa [World.size_alloc] at this
  have q3 : Bx 3 (bxs w p N.length c a b) (w.heap.size + 2) (.int .i64 b) := by
    have := Bx.new ((w.alloc (.cells #[.slice p N.length c] 22)).alloc (.cells #[.int .i64 a] 3)) (.int .i64 b) 3
    rwa [World.size_alloc, World.size_alloc] at this
  have q4 : Bx 25 (bxt w1) w1.heap.size (.slice none 0 0) := (Bx.new w1 _ 25).all _
  have q5 : Bx 3 (bxt w1) (w1.heap.size + 1) (.int .i64 0) := by
    have := Bx.new (w1.alloc (.cells #[.slice none 0 0] 25)) (.int .i64 0) 3
    rwa [World.size_alloc] at this
  refine (walk_any (bxt w1) p c N (inR a b) i [w1.heap.size + 1, w.heap.size, w.heap.size + 1, w.heap.size + 2, w1.heap.size] [w1.heap.size + 1, w.heap.size, w.heap.size + 1, w.heap.size + 2, w1.heap.size] 29 _
    (IL p c N a b (bxt w1) (w1.heap.size + 1) w.heap.size (w.heap.size + 1) (w.heap.size + 2) w1.heap.size) h0 hl hR hi egL (enters_lea _ _ _ _ _ _ p c N a b hl ?_) ?_ ?_).mono ?_
  · intro bb off e
    have := hlow bb off e hne
    omega
  · refine ⟨⟨.slice none 0 0, q4, World.ownsRow_nil _ _ _ _, (fun k e => by cases e), rfl⟩, q5, (q1.bel hb).bel (bxt_below w1), (q2.bel hb).bel (bxt_below w1), (q3.bel hb).bel (bxt_below w1), ⟨by omega, by omega⟩, ⟨by omega, by omega, by omega, by omega, by omega⟩, Nat.le_refl _⟩
  · intro bb off e _ hm
    have := hlow bb off e hne
    simp at hm
    omega
  · rintro e w' ⟨rfl, S', h1, h2⟩
    refine ⟨rfl, S', h1, hB2.trans (h2.below (by omega) ?_)⟩
    intro k hk
    simp at hk
    omega

set_option maxRecDepth 100000 in
set_option maxHeartbeats 3200000 in
theorem Leaves_any (w : World) (p : Option Addr) (c : Nat) (N : List Nd) (r a b : Int) (hx : NdS w p N) (hl : N.length ≤ 8192) :
    Calls Try.prog 13 #[.slice p N.length c, .int .i64 r, .int .i64 a, .int .i64 b] w (TL w (tls N a b (ranR N a b r)) (ranR N a b r).length (chk N r)) := by
  have HC := Lib.hid (check_any (bxs w p N.length c a b) p c N r (hx.keep (bxs_below w p N.length c a b)) hl)
  have hB0 := bxs_below w p N.length c a b
  by_cases hk : chk N r = 0
  · clear hB0
    obtain ⟨hR, hr0, hr1⟩ := chk_ok hk
    obtain ⟨i, rfl⟩ : ∃ i : Nat, r = i := ⟨r.toNat, by omega⟩
    have hmf : ∀ (fn : Fn) (first cap : Array Value) (w : World), (Instr.makeFunc fn first cap).run Try.prog w = .ok (.func fn first cap) w := fun _ _ _ _ => rfl
    have HW := Lib.hid (fun w1 hb => lea_walk w w1 p c N a b i hx hl hR (by omega) hb)
    have hal : ranR N a b (i : Int) = ran N a b i := by rw [ranR, if_pos hk]
    rw [hal]
    rw [hk] at HC ⊢
    have HS := Lib.hid (bxs_size w p N.length c a b)
    have HQ := Lib.hid (show Bx 22 (bxs w p N.length c a b) w.heap.size (.slice p N.length c) from ((Bx.new w _ 22).all _).all _)
    clear hk hR hr0 hr1 hx hal
    generalize ran N a b (i : Int) = M at *
    unfold bxs at HC HW HS HQ
    unfold bxt at HW
    obtain ⟨d, hd⟩ : ∃ d, d = N.length := ⟨_, rfl⟩
    rw [← hd] at HC HW HS HQ hl ⊢
    clear hd
    go_enter Try.func13, Try.ntmps13
    go_upto_region 7 with (first
      | (go_at_call 24; (with_reducible refine HC.out.mono ?_); rintro e w1 ⟨rfl, hb⟩; have HB := Lib.hid hb; have j0 := (((HQ.out.bel hb).all (.cells #[.slice none 0 0] 25)).all (.cells #[.int .i64 0] 3)).cell; clear hb)
      | (go_at_call 25; (with_reducible refine (HW.out w1 HB.out).mono ?_); rintro e w2 ⟨rfl, S', hI, hO⟩; have HO := Lib.hid hO; clear hO; obtain ⟨v, q1, q2, q3, -⟩ := hI.row; have j1 := q1.cell; have j2 := hI.cnt.cell; have HI2 := Lib.hid q2; have HI3 := Lib.hid q3; clear q1 q2 q3 hI))
    go_quiet (fail)
    go_wp2
    go_ret3
    refine ⟨_, rfl, row_at HI2.out (fun k e => ⟨rfl, ?_⟩), ⟨HO.out.os, HO.out.tape, HO.out.output, HO.out.size, HO.out.block⟩⟩
    have h1 := HI3.out k e
    have h2 := HB.out.size
    have h3 := HS.out
    simp at h1 h2 h3
    omega
  · have hal : ranR N a b r = [] := by rw [ranR, if_neg hk]
    rw [hal]
    have HS := Lib.hid (bxs_size w p N.length c a b)
    have HB0 := Lib.hid hB0
    clear hal hx hB0
    have hkz : (chk N r == 0) = false := by simpa using hk
    unfold bxs at HC HS HB0
    generalize chk N r = x at *
    generalize N.length = d at *
    go_enter Try.func13, Try.ntmps13
    go_wp2_with (go_at_call 24; (with_reducible refine HC.out.mono ?_); rintro e w1 ⟨rfl, hb⟩; have HB := Lib.hid hb; clear hb)
    go_ret3
    exact ⟨_, rfl, World.ownsRow_nil _ _ _ _, HB0.out.trans (HB.out.mono (by rw [HS.out]; omega))⟩
end Go.Proofs.Ytjobfpnlpfjoeaa
