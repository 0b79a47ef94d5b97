/-
  Numbers in a block of one's own, one put behind them; places; slices cut. No condition but those typed at each theorem.
-/
import Derived.Test.YtldmajifkmcdcaaGreatMGen
import Derived.Laws.AppendOwnNone
import Derived.Deep.AppendLies
import Derived.Test.YtldmajifkmcdcaaGreatMF
import Derived.RangeFuncNested
import Derived.RangeFuncBound
import Derived.RangeFuncCalls
import Derived.RangeFuncLeaves
import Derived.Shelf.RegionOpen
import Derived.OwnWalkIn
import Derived.TacticsInMore
import Derived.LoopNIn
import Derived.LoopIn
import Derived.LaidEqlPtr
import Derived.StillTailTactics
import Derived.Deep.RegionLaw
import Derived.Test.YtldmajifkmcdcaaGreatMQ
import Derived.Tactics
import Derived.Tactics2
import Derived.Defers
import Derived.Laws.Pointers
import Derived.Laws.LoneSync
import Derived.RegionTactic
import Derived.RegionCalls
import Derived.ChangeAlike
import Derived.Laws.NewBlocks
namespace Go.Proofs.YtldmajifkmcdcaaGreat
open Go.RowKit
section
variable {k : IntKind} {t : TypeId} {w w' : World} {g cap : Nat} {L : List Int}
end
end Go.Proofs.YtldmajifkmcdcaaGreat
namespace Go.Proofs.YtldmajifkmcdcaaGreat
open Go.RowKit
/-- a node's cells -/
def nvs (n : Nd) : List Value := [.int .u8 n.1, .int .i64 n.2.1, .int .i64 n.2.2.1, .int .i64 n.2.2.2.1, .int .i64 n.2.2.2.2.1, .int .i64 n.2.2.2.2.2.1, .int .i64 n.2.2.2.2.2.2]
def nv (n : Nd) : Value := .agg #[.int .u8 n.1, .int .i64 n.2.1, .int .i64 n.2.2.1, .int .i64 n.2.2.2.1, .int .i64 n.2.2.2.2.1, .int .i64 n.2.2.2.2.2.1, .int .i64 n.2.2.2.2.2.2]
/-- from this place on a node lies -/
structure N1 (w : World) (b o : Nat) (n : Nd) : Prop where
  c0 : w.cell? ⟨b, o, none⟩ = some (.int .u8 n.1)
  c1 : w.cell? ⟨b, o + 1, none⟩ = some (.int .i64 n.2.1)
  c2 : w.cell? ⟨b, o + 2, none⟩ = some (.int .i64 n.2.2.1)
  c3 : w.cell? ⟨b, o + 3, none⟩ = some (.int .i64 n.2.2.2.1)
  c4 : w.cell? ⟨b, o + 4, none⟩ = some (.int .i64 n.2.2.2.2.1)
  c5 : w.cell? ⟨b, o + 5, none⟩ = some (.int .i64 n.2.2.2.2.2.1)
  c6 : w.cell? ⟨b, o + 6, none⟩ = some (.int .i64 n.2.2.2.2.2.2)
theorem N1.lt {w : World} {b o : Nat} {n : Nd} (h : N1 w b o n) : b < w.heap.size := World.block_lt_of_cell? w _ h.c0
theorem N1.block {w w' : World} {b o : Nat} {n : Nd} (h : N1 w b o n) (hb : w'.heap[b]? = w.heap[b]?) : N1 w' b o n := by
  have k : ∀ i, w'.cell? ⟨b, i, none⟩ = w.cell? ⟨b, i, none⟩ := fun i => World.cell?_of_block (a := ⟨b, i, none⟩) hb
  exact ⟨(k _).trans h.c0, (k _).trans h.c1, (k _).trans h.c2, (k _).trans h.c3, (k _).trans h.c4, (k _).trans h.c5, (k _).trans h.c6⟩
theorem N1.keep {w w' : World} {b o N : Nat} {n : Nd} (h : N1 w b o n) (hb : Below N w w') (hN : b < N) : N1 w' b o n := h.block (hb.block b hN)
theorem N1.off {w w' : World} {b o : Nat} {n : Nd} {S : List Nat} (h : N1 w b o n) (hb : Off S w w') (hN : b ∉ S) : N1 w' b o n := h.block (hb.block b h.lt hN)
theorem N1.new (w : World) (n : Nd) (t : TypeId) : N1 (w.alloc (.cells (nvs n).toArray t)) w.heap.size 0 n := by
  have k : ∀ i v, (nvs n)[i]? = some v → (w.alloc (.cells (nvs n).toArray t)).cell? ⟨w.heap.size, i, none⟩ = some v := fun i v e => by
    rw [World.cell?_alloc_new]
    simpa using e
  exact ⟨k 0 _ rfl, k 1 _ rfl, k 2 _ rfl, k 3 _ rfl, k 4 _ rfl, k 5 _ rfl, k 6 _ rfl⟩
/-- from this place on these nodes lie -/
def Nds (w : World) (b off : Nat) (ns : List Nd) : Prop := ∀ j n, ns[j]? = some n → N1 w b (off + j * 7) n
/-- a slice's first place, and the nodes that it has -/
def NdS (w : World) (p : Option Addr) (ns : List Nd) : Prop := ns = [] ∨ ∃ b off, p = some ⟨b, off, none⟩ ∧ Nds w b off ns
theorem NdS.nil (w : World) (p : Option Addr) : NdS w p [] := .inl rfl
theorem NdS.keep {w w' : World} {p : Option Addr} {ns : List Nd} (h : NdS w p ns) (hb : Below w.heap.size w w') : NdS w' p ns := by
  rcases h with h | ⟨b, off, rfl, h⟩
  · exact .inl h
  · exact .inr ⟨b, off, rfl, fun j n e => (h j n e).keep hb (h j n e).lt⟩
theorem NdS.off {w w' : World} {p : Option Addr} {ns : List Nd} {S : List Nat} (h : NdS w p ns) (hb : Off S w w') (hS : ∀ b off, p = some ⟨b, off, none⟩ → ns ≠ [] → b ∉ S) : NdS w' p ns := by
  rcases h with h | ⟨b, off, rfl, h⟩
  · exact .inl h
  · refine .inr ⟨b, off, rfl, fun j n e => (h j n e).off hb (hS b off rfl (fun h0 => by subst h0; simp at e))⟩
theorem NdS.at {w : World} {p : Option Addr} {ns : List Nd} (h : NdS w p ns) {j : Nat} {n : Nd} (e : ns[j]? = some n) : ∃ b off, p = some ⟨b, off, none⟩ ∧ N1 w b (off + j * 7) n := by
  rcases h with rfl | ⟨b, off, hp, h⟩
  · simp at e
  · exact ⟨b, off, hp, h j n e⟩
theorem NdS.lt {w : World} {ns : List Nd} {b off : Nat} (h : NdS w (some ⟨b, off, none⟩) ns) (h0 : ns ≠ []) : b < w.heap.size := by
  rcases h with h | ⟨b2, off2, e, h⟩
  · exact absurd h h0
  · cases e
    cases ns with
    | nil => exact absurd rfl h0
    | cons x xs => exact (h 0 x rfl).lt
theorem NdS.take {w : World} {p : Option Addr} {ns : List Nd} (h : NdS w p ns) (k : Nat) : NdS w p (ns.take k) := by
  rcases h with rfl | ⟨b, off, rfl, h⟩
  · exact .inl (by simp)
  · refine .inr ⟨b, off, rfl, fun j n e => h j n ?_⟩
    rw [List.getElem?_take] at e
    split at e
    · exact e
    · cases e
/-- all cells of these nodes -/
def flatN (ns : List Nd) : List Value := ns.flatMap nvs
theorem flatN_snoc (ns : List Nd) (n : Nd) : flatN (ns ++ [n]) = flatN ns ++ nvs n := by simp [flatN]
theorem flatN_len (ns : List Nd) : (flatN ns).length = ns.length * 7 := by
  induction ns with
  | nil => rfl
  | cons n ns ih => rw [show flatN (n :: ns) = nvs n ++ flatN ns from rfl, List.length_append, ih, List.length_cons, show (nvs n).length = 7 from rfl]; omega
theorem flatN_get (ns : List Nd) {j i : Nat} {n : Nd} (e : ns[j]? = some n) (hi : i < 7) : (flatN ns)[j * 7 + i]? = (nvs n)[i]? := by
  induction ns generalizing j with
  | nil => simp at e
  | cons m ns ih =>
    rw [show flatN (m :: ns) = nvs m ++ flatN ns from rfl]
    cases j with
    | zero =>
      simp at e
      subst e
      rw [Nat.zero_mul, Nat.zero_add, List.getElem?_append_left (by rw [show (nvs m).length = 7 from rfl]; exact hi)]
    | succ j =>
      simp only [List.getElem?_cons_succ] at e
      rw [List.getElem?_append_right (by rw [show (nvs m).length = 7 from rfl]; omega), show (nvs m).length = 7 from rfl, show (j + 1) * 7 + i - 7 = j * 7 + i by omega]
      exact ih e
theorem nvs_one (n : Nd) : ∀ u ∈ nvs n, u.oneCell' = true := by
  intro u hu
  simp [nvs] at hu
  rcases hu with rfl | rfl | rfl | rfl | rfl | rfl | rfl <;> rfl
theorem flatN_one (ns : List Nd) : ∀ u ∈ flatN ns, u.oneCell' = true := by
  intro u hu
  simp only [flatN, List.mem_flatMap] at hu
  obtain ⟨n, _, h⟩ := hu
  exact nvs_one n u h
/-- a row of one's own that holds nodes -/
theorem row_nds {w : World} {base n : Nat} {v : Value} {ns : List Nd} (h : w.ownsRow base 77 7 v n (flatN ns)) : ns.length = n ∧ ∃ p c, v = .slice p n c ∧ NdS w p ns ∧ (p = none → c = 0 ∧ n = 0) ∧ n ≤ c ∧ c ≤ maxLen ∧ (p = none ∨ ∃ g, p = some ⟨g, 0, none⟩ ∧ g < w.heap.size) := by
  obtain ⟨h1, h2⟩ := h
  have hn : ns.length = n := by rw [flatN_len] at h1; omega
  refine ⟨hn, ?_⟩
  rcases h2 with ⟨rfl, h2⟩ | ⟨g, cap, cur, rfl, hb, hg, hnc, hcm, hcs, htk⟩
  · subst h2
    exact ⟨none, 0, rfl, .inl (List.length_eq_zero_iff.1 hn), fun _ => ⟨rfl, rfl⟩, Nat.le_refl _, by simp [maxLen], .inl rfl⟩
  · refine ⟨some ⟨g, 0, none⟩, cap, rfl, .inr ⟨g, 0, rfl, fun j m e => ?_⟩, (fun h => by cases h), hnc, hcm, .inr ⟨g, rfl, lt_of_block hg⟩⟩
    have hj := (List.getElem?_eq_some_iff.1 e).1
    have k : ∀ i v, i < 7 → (nvs m)[i]? = some v → w.cell? ⟨g, 0 + j * 7 + i, none⟩ = some v := fun i v hi e2 => by
      have h3 := (flatN_get ns e hi).trans e2
      rw [← htk, List.getElem?_take] at h3
      split at h3
      · rw [Nat.zero_add]
        simp [World.cell?, hg]
        simpa using h3
      · cases h3
    exact ⟨k 0 _ (by omega) rfl, k 1 _ (by omega) rfl, k 2 _ (by omega) rfl, k 3 _ (by omega) rfl, k 4 _ (by omega) rfl, k 5 _ (by omega) rfl, k 6 _ (by omega) rfl⟩
end Go.Proofs.YtldmajifkmcdcaaGreat
/-
  pool.kids: what a loop over it is handed, and when it stops; hasOwnKids, fits. No condition but those typed at each theorem.
-/
namespace Go.Proofs.YtldmajifkmcdcaaGreat
open Go.RowKit Go.Shelf
attribute [local go_sem] Oper.semAt_some
/-- what lies in this block's cells lies so still -/
def KpB (B : Nat) (W W' : World) : Prop := ∀ i v, W.cell? ⟨B, i, none⟩ = some v → W'.cell? ⟨B, i, none⟩ = some v
theorem kpB_t {B : Nat} {X Y Z : World} (h : KpB B X Y) (k : KpB B Y Z) : KpB B X Z := fun i v e => k i v (h i v e)
theorem kpB_b {B : Nat} {N : Nat} (W : World) (l : Nat) (o o' : Obj) (_ : N ≤ l) (h : W.heap[l]? = some o) (hc : o.isCells = false) (_ : o.isWalk = false) : KpB B W (W.putObj l o') := fun _ _ e =>
  cell_kept e (grownBy_putObj' W l o') (fun r h2 => by cases h2; exact ⟨o, h, hc⟩)
theorem KpB.of {B N : Nat} {W W' : World} (h : Below N W W') (hB : B < N) : KpB B W W' := fun i _ e => (h.cell (p := ⟨B, i, none⟩) hB).trans e
set_option maxHeartbeats 1000000 in
theorem kids_any (n : Nd) (w : World) : Calls Tryz.prog 157 #[nv n] w fun e w' => e = .returned (.func (.func 165) #[] #[.pointer (some ⟨w.heap.size, 0, none⟩)]) ∧ w' = w.alloc (.cells (nvs n).toArray 77) := by
  have hmf : ∀ (fn : Fn) (first cap : Array Value) (w : World), (Instr.makeFunc fn first cap).run Tryz.prog w = .ok (.func fn first cap) w := fun _ _ _ _ => rfl
  obtain ⟨k, l, r, f, t, a, m⟩ := n
  unfold nv nvs
  go_enter Tryz.func157, Tryz.ntmps157
  go_wp2
  go_ret
  exact ⟨rfl, rfl⟩
set_option maxRecDepth 100000 in
set_option maxHeartbeats 2000000 in
theorem kids_stops (m : Nat) (hm : 1 ≤ m) (n : Nd) (B : Nat) (w : World) (hB : B < w.heap.size) (hc : N1 w B 0 n) :
    SeqStopsK Fence.wide m Tryz.prog 165 #[.pointer (some ⟨B, 0, none⟩)] (fun x : Int => #[Value.int .i64 x]) (KpB B) (fun xs => xs = ksL n) (fun pre => pre <+: ksL n) 2 w := fun l J Jx W hW _ _ hY h0 => by
  have hc' := hc.keep hW hB
  have k1 := hc'.c1
  have k2 := hc'.c2
  obtain ⟨k, L, R, f, t, a, q⟩ := n
  simp only [Nat.zero_add] at k1 k2
  clear hc hc'
  refine callsIn_of_wp Tryz.func165 rfl trivial ?_ rfl
  simp only [Tryz.ntmps165, List.size_toArray, List.length_cons, List.length_nil, Nat.reduceAdd, Nat.reduceSub, Array.replicate_succ, Array.replicate_zero, List.push_toArray, List.append_toArray, List.nil_append, List.cons_append]
  by_cases hL : L = -1
  · subst hL
    by_cases hR : R = -1
    · subst hR
      gi_wp2
      refine ⟨fun _ h => (by cases h), ?_⟩
      gi_wp2
      go_end0
      exact ⟨⟨_, rfl⟩, .inl ⟨[], rfl, h0⟩⟩
    · obtain ⟨fn, tm, asg, bo, hy, hY2⟩ := hY [] R W h0 (by simp)
      dsimp only at hy
      gi_wp2
      refine ⟨fun _ h => (by cases h), ?_⟩
      gi_wp2
      refine hY2.mono ?_
      rintro e W1 (⟨rfl, hJ1, -⟩ | ⟨rfl, hx1⟩)
      · gi_wp2
        go_end0
        exact ⟨⟨_, rfl⟩, .inl ⟨[R], by simp [ksL, nl, nr, hR], hJ1⟩⟩
      · gi_wp2
        go_end0
        exact ⟨⟨_, rfl⟩, .inr ⟨[R], by simp [ksL, nl, nr, hR], hx1⟩⟩
  · obtain ⟨fn, tm, asg, bo, hy, hY2⟩ := hY [] L W h0 (by simp)
    dsimp only at hy
    by_cases hR : R = -1
    · subst hR
      gi_wp2
      refine hY2.mono ?_
      rintro e W1 (⟨rfl, hJ1, hk⟩ | ⟨rfl, hx1⟩)
      · have k3 := hk _ _ k2
        gi_wp2
        go_end0
        exact ⟨⟨_, rfl⟩, .inl ⟨[L], by simp [ksL, nl, nr, hL], hJ1⟩⟩
      · gi_wp2
        refine bodyPost_ret (results_none rfl _ _ _) rfl ?_
        exact ⟨⟨_, rfl⟩, .inr ⟨[L], by simp [ksL, nl, nr, hL], hx1⟩⟩
    · gi_wp2
      refine hY2.mono ?_
      rintro e W1 (⟨rfl, hJ1, hk⟩ | ⟨rfl, hx1⟩)
      · have k3 := hk _ _ k2
        obtain ⟨fn', tm', asg', bo', hy', hY2'⟩ := hY [L] R W1 hJ1 (by simp)
        gi_wp2
        refine hY2'.mono ?_
        rintro e W2 (⟨rfl, hJ2, -⟩ | ⟨rfl, hx2⟩)
        · gi_wp2
          go_end0
          exact ⟨⟨_, rfl⟩, .inl ⟨[L, R], by simp [ksL, nl, nr, hL, hR], hJ2⟩⟩
        · gi_wp2
          go_end0
          exact ⟨⟨_, rfl⟩, .inr ⟨[L, R], by simp [ksL, nl, nr, hL, hR], hx2⟩⟩
      · gi_wp2
        refine bodyPost_ret (results_none rfl _ _ _) rfl ?_
        exact ⟨⟨_, rfl⟩, .inr ⟨[L], by simp [ksL, nl, nr, hL, hR], hx1⟩⟩
end Go.Proofs.YtldmajifkmcdcaaGreat
/-
  pool.hasOwnKids. No condition but those typed at each theorem.
-/
namespace Go.Proofs.YtldmajifkmcdcaaGreat
open Go.RowKit Go.Shelf
attribute [local go_sem] Oper.semAt_some
/-- a slice's first place, and the yes-or-noes that it has -/
def YnS (w : World) (p : Option Addr) (T : List Bool) : Prop := T = [] ∨ ∃ b off, p = some ⟨b, off, none⟩ ∧ ∀ j x, T[j]? = some x → w.cell? ⟨b, off + j, none⟩ = some (.bool x)
theorem YnS.keep {w w' : World} {p : Option Addr} {T : List Bool} (h : YnS w p T) (hb : Below w.heap.size w w') : YnS w' p T := by
  rcases h with h | ⟨b, off, rfl, h⟩
  · exact .inl h
  · exact .inr ⟨b, off, rfl, fun j x e => (hb.cell (World.block_lt_of_cell? w _ (h j x e))).trans (h j x e)⟩
theorem frozen_al {W : World} {a : Addr} {v : Value} (o : Obj) (h : W.cell? a = some v) (hf : W.frozen? a = false) : (W.alloc o).frozen? a = false := (frozen_kept h (World.grownBy_alloc W o none) (fun r e => by cases e)).trans hf
/-- all of them are free; one of them is not -/
def AllOk (T : List Bool) (xs : List Int) : Prop := xs.all (okT T) = true
def OneNot (T : List Bool) (xs : List Int) : Prop := xs.all (okT T) = false
theorem AllOk.snoc {T : List Bool} {xs : List Int} {x : Int} (h : AllOk T xs) (hx : okT T x = true) : AllOk T (xs ++ [x]) := by
  unfold AllOk at *
  rw [List.all_append, h]
  simp [hx]
theorem OneNot.last {T : List Bool} {xs : List Int} {x : Int} (hx : okT T x = false) : OneNot T (xs ++ [x]) := by
  unfold OneNot
  simp [hx]
set_option maxRecDepth 100000 in
set_option maxHeartbeats 4000000 in
theorem hasOwn_any (n : Nd) (w : World) (p : Option Addr) (cap : Nat) (T : List Bool) (hT : YnS w p T) :
    Calls Tryz.prog 156 #[nv n, .slice p T.length cap] w fun e w' => e = .returned (.bool (!decide (nl n = nr n) && (ksL n).all (okT T))) ∧ Below w.heap.size w w' := by
  have HT := Lib.hid hT
  obtain ⟨m, hm⟩ : ∃ m, m = T.length := ⟨_, rfl⟩
  have HM := Lib.hid hm
  rw [← hm]
  clear hT hm
  obtain ⟨n0, hn0⟩ : ∃ n0, n0 = n := ⟨_, rfl⟩
  have HK := Lib.hid (fun X => kids_any n0 X)
  have HS := Lib.hid (kids_stops 8 (by omega) n0)
  rw [hn0] at HK HS
  have HN := Lib.hid hn0
  clear hn0
  obtain ⟨k, L, R, f, t, a, q⟩ := n
  unfold nv nvs at *
  have HB2 : Hid (∀ x y z, Below w.heap.size w (((w.alloc x).alloc y).alloc z)) := Lib.hid fun x y z => (((Below.refl _ w).alloc (Nat.le_refl _) x).alloc (by simp) y).alloc (by simp; omega) z
  by_cases hLR : L = R
  · subst hLR
    refine (callsIn_wide (n := 9)).1 ?_
    refine callsIn_of_wp_marks Tryz.func156 rfl trivial ?_ rfl
    simp only [Tryz.ntmps156, List.size_toArray, List.length_cons, List.length_nil, Nat.reduceAdd, Nat.reduceSub, Array.replicate_succ, Array.replicate_zero, List.push_toArray, List.append_toArray, List.nil_append, List.cons_append]
    gi_wp2
    exact ⟨.bool false, by simp [results, Tryz.f156, go_sem], by simp [nl, nr], HB2.out _ _ _⟩
  · have hd : (!decide (nl (k, L, R, f, t, a, q) = nr (k, L, R, f, t, a, q))) = true := by simp [nl, nr, hLR]
    simp only [hd, Bool.true_and]
    obtain ⟨ks, hks⟩ : ∃ ks, ks = ksL (k, L, R, f, t, a, q) := ⟨_, rfl⟩
    rw [← hks] at HS
    rw [← hks]
    clear hks hd HB2
    refine (callsIn_wide (n := 9)).1 ?_
    refine callsIn_of_wp_marks Tryz.func156 rfl trivial ?_ rfl
    simp only [Tryz.ntmps156, List.size_toArray, List.length_cons, List.length_nil, Nat.reduceAdd, Nat.reduceSub, Array.replicate_succ, Array.replicate_zero, List.push_toArray, List.append_toArray, List.nil_append, List.cons_append]
    gi_wp2_with (refine ⟨trivial, ?_⟩; gi_at_call 157; refine (callsIn_wide.2 (HK.out _)).mono ?_; rintro e w' ⟨rfl, rfl⟩)
    obtain ⟨W0, hW0⟩ : ∃ W0, ((((w.alloc (.cells #[.int .u8 k, .int .i64 L, .int .i64 R, .int .i64 f, .int .i64 t, .int .i64 a, .int .i64 q] 77)).alloc (.cells #[.slice p m cap] 197)).alloc (.cells #[.bool false] 4)).alloc (.cells #[.int .u8 k, .int .i64 L, .int .i64 R, .int .i64 f, .int .i64 t, .int .i64 a, .int .i64 q] 77)) = W0 := ⟨_, rfl⟩
    have hsz : W0.heap.size = w.heap.size + 4 := by rw [← hW0]; simp
    have hB0 : Below w.heap.size w W0 := by rw [← hW0]; exact ((((Below.refl _ w).alloc (Nat.le_refl _) _).alloc (by simp) _).alloc (by simp; omega) _).alloc (by simp; omega) _
    have hN : N1 W0 (w.heap.size + 1 + 1 + 1) 0 (k, L, R, f, t, a, q) := by
      rw [← hW0]
      have := N1.new (((w.alloc (.cells #[.int .u8 k, .int .i64 L, .int .i64 R, .int .i64 f, .int .i64 t, .int .i64 a, .int .i64 q] 77)).alloc (.cells #[.slice p m cap] 197)).alloc (.cells #[.bool false] 4)) (k, L, R, f, t, a, q) 77
      simpa [nvs] using this
    have c1 : W0.cell? ⟨w.heap.size + 1, 0, none⟩ = some (.slice p m cap) := by
      have := (one_new (w.alloc (.cells #[.int .u8 k, .int .i64 L, .int .i64 R, .int .i64 f, .int .i64 t, .int .i64 a, .int .i64 q] 77)) (.slice p m cap) 197).1
      rw [World.size_alloc] at this
      rw [← hW0]
      exact cell_al _ (cell_al _ this)
    have c2 : W0.cell? ⟨w.heap.size + 1 + 1, 0, none⟩ = some (.bool false) ∧ W0.frozen? ⟨w.heap.size + 1 + 1, 0, none⟩ = false := by
      have := one_new ((w.alloc (.cells #[.int .u8 k, .int .i64 L, .int .i64 R, .int .i64 f, .int .i64 t, .int .i64 a, .int .i64 q] 77)).alloc (.cells #[.slice p m cap] 197)) (.bool false) 4
      simp only [World.size_alloc] at this
      rw [← hW0]
      exact ⟨cell_al _ this.1, frozen_al _ this.1 this.2⟩
    obtain ⟨c2, f2⟩ := c2
    rw [hW0]
    clear hW0 HK
    have HSS := HS.out (w.heap.size + 1 + 1 + 1) W0 (by omega) hN
    clear HS hN
    refine wpIn_rangeFunc_ownF rfl (by omega) (gf := 165) (lb := #[.pointer (some ⟨w.heap.size + 1 + 1 + 1, 0, none⟩)]) rfl trivial (enters_of Tryz.func165 (by kernel_rfl) rfl)
      HSS kpB_t kpB_b (Below.refl _ _) (fun _ => rfl)
      (fun pre W => (AllOk T pre ∧ W.cell? ⟨w.heap.size + 1, 0, none⟩ = some (.slice p m cap) ∧ W.cell? ⟨w.heap.size + 1 + 1, 0, none⟩ = some (.bool false) ∧ W.frozen? ⟨w.heap.size + 1 + 1, 0, none⟩ = false) ∧ Below w.heap.size w W)
      (fun c pre W => (c = .ret ∧ OneNot T pre ∧ W.cell? ⟨w.heap.size + 1 + 1, 0, none⟩ = some (.bool false)) ∧ Below w.heap.size w W)
      (OwnFrom.and (Own.from (fun s A B row hs hg hr => ⟨hs.1, cell_kept hs.2.1 hg hr, cell_kept hs.2.2.1 hg hr, (frozen_kept hs.2.2.1 hg hr).trans hs.2.2.2⟩) _) (ownFrom_below (Nat.le_refl _) (by omega)))
      (fun c => OwnFrom.and (Own.from (fun s A B row hs hg hr => ⟨hs.1, hs.2.1, cell_kept hs.2.2 hg hr⟩) _) (ownFrom_below (Nat.le_refl _) (by omega)))
      ⟨⟨rfl, c1, c2, f2⟩, hB0⟩
      (fun x => { tmps := #[.agg #[.int .u8 k, .int .i64 L, .int .i64 R, .int .i64 f, .int .i64 t, .int .i64 a, .int .i64 q], .slice p m cap, .pointer (some ⟨w.heap.size, 0, none⟩), .pointer (some ⟨w.heap.size + 1, 0, none⟩), .pointer (some ⟨w.heap.size + 1 + 1, 0, none⟩), .int .i64 x, .pointer (some ⟨w.heap.size, 1, none⟩), .int .i64 L, .pointer (some ⟨w.heap.size, 2, none⟩), .int .i64 R, .bool false, .agg #[.int .u8 k, .int .i64 L, .int .i64 R, .int .i64 f, .int .i64 t, .int .i64 a, .int .i64 q], .func (.func 165) #[] #[.pointer (some ⟨w.heap.size + 1 + 1 + 1, 0, none⟩)], .int .i64 x, undef, undef, undef, undef, undef, undef, undef, undef, undef, undef, undef, undef, undef, undef], defers := [] }) ?assign ?body ?done ?stop
    case assign =>
      intro l x W K hK
      gi_wp2
      exact hK
    case body =>
      rintro l pre x W ⟨⟨hp, hcw, hcr, hfr⟩, hB⟩ _
      have HT2 : YnS W p T := HT.out.keep hB
      have hM := HM.out
      have hset : Below w.heap.size w (W.setCell ⟨w.heap.size + 1 + 1, 0, none⟩ (.bool false)) := hB.setCell (p := ⟨w.heap.size + 1 + 1, 0, none⟩) (by simp; omega) _
      have hsame : (W.setCell ⟨w.heap.size + 1 + 1, 0, none⟩ (.bool false)).cell? ⟨w.heap.size + 1 + 1, 0, none⟩ = some (.bool false) := World.cell?_setCell_same' _ _ _ (by rw [hcr]; rfl)
      have HX : Hid (okT T x = false → KeepsOthers W (W.setCell ⟨w.heap.size + 1 + 1, 0, none⟩ (.bool false)) ∧ ((OneNot T (pre ++ [x]) ∧ (W.setCell ⟨w.heap.size + 1 + 1, 0, none⟩ (.bool false)).cell? ⟨w.heap.size + 1 + 1, 0, none⟩ = some (.bool false)) ∧ Below w.heap.size w (W.setCell ⟨w.heap.size + 1 + 1, 0, none⟩ (.bool false)))) :=
        Lib.hid fun hx => ⟨KeepsOthers.setCell _ _ _, ⟨OneNot.last hx, hsame⟩, hset⟩
      have HB := Lib.hid hB
      clear hset hsame hB
      by_cases h1 : x < 0
      · have hok : okT T x = false := by unfold okT; simp; omega
        clear HT2 hM
        gi_wp2
        exact ⟨(HX.out hok).1, ⟨rfl, (HX.out hok).2.1⟩, (HX.out hok).2.2⟩
      · obtain ⟨j, rfl⟩ : ∃ j : Nat, x = j := ⟨x.toNat, by omega⟩
        by_cases h2 : j < m
        · have h2z : (j : Int) < m := by omega
          obtain ⟨y, hy⟩ : ∃ y, T[j]? = some y := ⟨_, List.getElem?_eq_getElem (by omega)⟩
          rcases HT2 with rfl | ⟨b, off, rfl, hcT⟩
          · simp at hy
          have hcj := hcT j y hy
          have hok : okT T (j : Int) = !y := by
            unfold okT
            rw [Int.toNat_natCast, List.getD_eq_getElem?_getD, hy, Option.getD_some, ← hM]
            simp [h2z]
          clear hcT hM
          cases y
          · gi_wp2
            exact ⟨KeepsOthers.refl _, fun _ _ e => e, ⟨hp.snoc (by simp [hok]), hcw, hcr, hfr⟩, HB.out⟩
          · gi_wp2
            exact ⟨(HX.out (by simp [hok])).1, ⟨rfl, (HX.out (by simp [hok])).2.1⟩, (HX.out (by simp [hok])).2.2⟩
        · have h2z : ¬ (j : Int) < m := by omega
          have hok : okT T (j : Int) = false := by unfold okT; simp; omega
          clear HT2 hM
          gi_wp2
          exact ⟨(HX.out hok).1, ⟨rfl, (HX.out hok).2.1⟩, (HX.out hok).2.2⟩
    case done =>
      rintro D ys W hD rfl ⟨⟨hne, _, hcr, hfr⟩, hB⟩ hK
      gi_wp2
      have hK' := (KeepsOthers.setCell W ⟨w.heap.size + 1 + 1, 0, none⟩ (.bool true)).same D _ hK rfl
      refine ⟨by simp, .inl ⟨_, _, rfl, run_takeDeferred hK', ?_⟩⟩
      have hc5 := cell_kept (World.cell?_setCell_same' W ⟨w.heap.size + 1 + 1, 0, none⟩ (.bool true) (by rw [hcr]; rfl)) (grownBy_putObj' _ D (.deferred none)) (fun r e => by cases e; exact ⟨_, hK', rfl⟩)
      refine ⟨.bool true, ?_, by rw [show ys.all (okT T) = true from hne], (hB.setCell (p := ⟨w.heap.size + 1 + 1, 0, none⟩) (by simp; omega) _).trans (belowK_b (w := w) (Nat.le_refl _) _ D _ _ (by omega) hK' rfl rfl)⟩
      simp [results, Tryz.f156, go_sem, hc5]
    case stop =>
      rintro D c pre W hD hpre ⟨⟨rfl, hin, hcr⟩, hB⟩ hK
      gi_wp2
      refine ⟨by simp, .inl ⟨_, _, rfl, run_takeDeferred hK, ?_⟩⟩
      have hc5 := cell_kept hcr (grownBy_putObj' _ D (.deferred none)) (fun r e => by cases e; exact ⟨_, hK, rfl⟩)
      have hall : ks.all (okT T) = false := by
        obtain ⟨zs, rfl⟩ := hpre
        rw [List.all_append, show pre.all (okT T) = false from hin]
        rfl
      refine ⟨.bool false, ?_, by rw [hall], hB.trans (belowK_b (w := w) (Nat.le_refl _) W D _ _ (by omega) hK rfl rfl)⟩
      simp [results, Tryz.f156, go_sem, hc5]
end Go.Proofs.YtldmajifkmcdcaaGreat
/-
  pool.kids handing out kids alone; pool.take; one thing put behind a row, and where it lies then. No condition but those typed at each theorem.
-/
namespace Go.Proofs.YtldmajifkmcdcaaGreat
open Go.RowKit Go.Shelf
attribute [local go_sem] Oper.semAt_some
set_option maxRecDepth 100000 in
set_option maxHeartbeats 2000000 in
theorem kids_stopsM (m : Nat) (hm : 1 ≤ m) (n : Nd) (B : Nat) (w : World) (hB : B < w.heap.size) (hc : N1 w B 0 n) :
    SeqStopsK Fence.wide m Tryz.prog 165 #[.pointer (some ⟨B, 0, none⟩)] (fun x : { x : Int // x ∈ ksL n } => #[Value.int .i64 x.1]) (KpB B) (fun xs => xs.map (·.1) = ksL n) (fun pre => pre.map (·.1) <+: ksL n) 2 w := fun l J Jx W hW _ _ hY h0 => by
  have hc' := hc.keep hW hB
  have k1 := hc'.c1
  have k2 := hc'.c2
  obtain ⟨k, L, R, f, t, a, q⟩ := n
  simp only [Nat.zero_add] at k1 k2
  clear hc hc'
  refine callsIn_of_wp Tryz.func165 rfl trivial ?_ rfl
  simp only [Tryz.ntmps165, List.size_toArray, List.length_cons, List.length_nil, Nat.reduceAdd, Nat.reduceSub, Array.replicate_succ, Array.replicate_zero, List.push_toArray, List.append_toArray, List.nil_append, List.cons_append]
  by_cases hL : L = -1
  · subst hL
    by_cases hR : R = -1
    · subst hR
      gi_wp2
      refine ⟨fun _ h => (by cases h), ?_⟩
      gi_wp2
      go_end0
      exact ⟨⟨_, rfl⟩, .inl ⟨[], by simp [ksL, nl, nr], h0⟩⟩
    · obtain ⟨fn, tm, asg, bo, hy, hY2⟩ := hY [] ⟨R, by simp [ksL, nl, nr, hR]⟩ W h0 (by simp)
      dsimp only at hy
      gi_wp2
      refine ⟨fun _ h => (by cases h), ?_⟩
      gi_wp2
      refine hY2.mono ?_
      rintro e W1 (⟨rfl, hJ1, -⟩ | ⟨rfl, hx1⟩)
      · gi_wp2
        go_end0
        exact ⟨⟨_, rfl⟩, .inl ⟨[⟨R, by simp [ksL, nl, nr, hR]⟩], by simp [ksL, nl, nr, hR], hJ1⟩⟩
      · gi_wp2
        go_end0
        exact ⟨⟨_, rfl⟩, .inr ⟨[⟨R, by simp [ksL, nl, nr, hR]⟩], by simp [ksL, nl, nr, hR], hx1⟩⟩
  · obtain ⟨fn, tm, asg, bo, hy, hY2⟩ := hY [] ⟨L, by simp [ksL, nl, nr, hL]⟩ W h0 (by simp)
    dsimp only at hy
    by_cases hR : R = -1
    · subst hR
      gi_wp2
      refine hY2.mono ?_
      rintro e W1 (⟨rfl, hJ1, hk⟩ | ⟨rfl, hx1⟩)
      · have k3 := hk _ _ k2
        gi_wp2
        go_end0
        exact ⟨⟨_, rfl⟩, .inl ⟨[⟨L, by simp [ksL, nl, nr, hL]⟩], by simp [ksL, nl, nr, hL], hJ1⟩⟩
      · gi_wp2
        refine bodyPost_ret (results_none rfl _ _ _) rfl ?_
        exact ⟨⟨_, rfl⟩, .inr ⟨[⟨L, by simp [ksL, nl, nr, hL]⟩], by simp [ksL, nl, nr, hL], hx1⟩⟩
    · gi_wp2
      refine hY2.mono ?_
      rintro e W1 (⟨rfl, hJ1, hk⟩ | ⟨rfl, hx1⟩)
      · have k3 := hk _ _ k2
        obtain ⟨fn', tm', asg', bo', hy', hY2'⟩ := hY [⟨L, by simp [ksL, nl, nr, hL]⟩] ⟨R, by simp [ksL, nl, nr, hR]⟩ W1 hJ1 (by simp)
        gi_wp2
        refine hY2'.mono ?_
        rintro e W2 (⟨rfl, hJ2, -⟩ | ⟨rfl, hx2⟩)
        · gi_wp2
          go_end0
          exact ⟨⟨_, rfl⟩, .inl ⟨[⟨L, by simp [ksL, nl, nr, hL]⟩, ⟨R, by simp [ksL, nl, nr, hR]⟩], by simp [ksL, nl, nr, hL, hR], hJ2⟩⟩
        · gi_wp2
          go_end0
          exact ⟨⟨_, rfl⟩, .inr ⟨[⟨L, by simp [ksL, nl, nr, hL]⟩, ⟨R, by simp [ksL, nl, nr, hR]⟩], by simp [ksL, nl, nr, hL, hR], hx2⟩⟩
      · gi_wp2
        refine bodyPost_ret (results_none rfl _ _ _) rfl ?_
        exact ⟨⟨_, rfl⟩, .inr ⟨[⟨L, by simp [ksL, nl, nr, hL]⟩], by simp [ksL, nl, nr, hL, hR], hx1⟩⟩
theorem Tryz.info4 : (Tryz.prog.info? 4).map (fun i => (i.zero, i.size, i.bytes)) = some (some (.bool false), 1, 1) := by kernel_rfl
theorem Tryz.info77 : (Tryz.prog.info? 77).map (fun i => (i.zero, i.size, i.bytes)) = some (some (nv (0, 0, 0, 0, 0, 0, 0)), 7, 56) := by kernel_rfl
set_option maxRecDepth 100000 in
set_option maxHeartbeats 4000000 in
theorem take_any (n : Nd) (w : World) (v : Value) (T : List Bool) (hown : w.ownsRow 0 4 1 v T.length (T.map Value.bool)) (hks : ∀ x ∈ ksL n, 0 ≤ x ∧ x < T.length) (hT : T.length ≤ 8192) :
    Calls Tryz.prog 146 #[nv n, v] w fun e w' => ∃ g cap, e = .returned (.slice (some ⟨g, 0, none⟩) (T.length + 1) cap) ∧ w'.ownsRow 0 4 1 (.slice (some ⟨g, 0, none⟩) (T.length + 1) cap) (T.length + 1) ((takeT n T).map Value.bool) ∧ Off v.ownBlock.toList w w' ∧ (v.ownBlock = some g ∨ w.heap.size ≤ g) := by
  have HV : Hid (∀ k, v.ownBlock = some k → k < w.heap.size) := Lib.hid fun k hk => (hown.lt k hk).2
  have HO := Lib.hid hown
  obtain ⟨m, hm⟩ : ∃ m, m = T.length := ⟨_, rfl⟩
  have HM := Lib.hid hm
  have HKS := Lib.hid hks
  rw [← hm] at HO HKS hT
  rw [← hm]
  obtain ⟨p, cap0, hv⟩ : ∃ p c, v = .slice p m c := by
    rcases hown.2 with ⟨rfl, h⟩ | ⟨g, cap, cur, rfl, _⟩
    · exact ⟨none, 0, by rw [hm, h]⟩
    · exact ⟨some ⟨g, 0, none⟩, cap, by rw [hm]⟩
  clear hown hm hks
  obtain ⟨n0, hn0⟩ : ∃ n0, n0 = n := ⟨_, rfl⟩
  have HK := Lib.hid (fun X => kids_any n0 X)
  have HS := Lib.hid (kids_stopsM 8 (by omega) n0)
  rw [hn0] at HK HS
  clear hn0
  obtain ⟨k, L, R, f, t, a, q⟩ := n
  obtain ⟨out, hout⟩ : ∃ out, out = (takeT (k, L, R, f, t, a, q) T).map Value.bool := ⟨_, rfl⟩
  have HOUT := Lib.hid hout
  rw [← hout]
  clear hout
  unfold nv nvs at *
  refine (callsIn_wide (n := 9)).1 ?_
  refine callsIn_of_wp_marks Tryz.func146 rfl trivial ?_ rfl
  subst hv
  simp only [Tryz.ntmps146, List.size_toArray, List.length_cons, List.length_nil, Nat.reduceAdd, Nat.reduceSub, Array.replicate_succ, Array.replicate_zero, List.push_toArray, List.append_toArray, List.nil_append, List.cons_append]
  gi_wp2_with (refine ⟨trivial, ?_⟩; gi_at_call 157; refine (callsIn_wide.2 (HK.out _)).mono ?_; rintro e w' ⟨rfl, rfl⟩)
  obtain ⟨W0, hW0⟩ : ∃ W0, (((w.alloc (.cells #[.int .u8 k, .int .i64 L, .int .i64 R, .int .i64 f, .int .i64 t, .int .i64 a, .int .i64 q] 77)).alloc (.cells #[.slice p m cap0] 197)).alloc (.cells #[.int .u8 k, .int .i64 L, .int .i64 R, .int .i64 f, .int .i64 t, .int .i64 a, .int .i64 q] 77)) = W0 := ⟨_, rfl⟩
  have hsz : W0.heap.size = w.heap.size + 3 := by rw [← hW0]; simp
  have hO0 : ∀ S, Off S w W0 := fun S => by rw [← hW0]; exact (((Off.refl S w).all _).all _).all _
  have hN : N1 W0 (w.heap.size + 1 + 1) 0 (k, L, R, f, t, a, q) := by
    rw [← hW0]
    have := N1.new ((w.alloc (.cells #[.int .u8 k, .int .i64 L, .int .i64 R, .int .i64 f, .int .i64 t, .int .i64 a, .int .i64 q] 77)).alloc (.cells #[.slice p m cap0] 197)) (k, L, R, f, t, a, q) 77
    simpa [nvs] using this
  have c1 : W0.cell? ⟨w.heap.size + 1, 0, none⟩ = some (.slice p m cap0) := by
    have := (one_new (w.alloc (.cells #[.int .u8 k, .int .i64 L, .int .i64 R, .int .i64 f, .int .i64 t, .int .i64 a, .int .i64 q] 77)) (.slice p m cap0) 197).1
    rw [World.size_alloc] at this
    rw [← hW0]
    exact cell_al _ this
  have hR0 : W0.ownsRow 0 4 1 (.slice p m cap0) m (T.map Value.bool) := by rw [← hW0]; exact ((HO.out.alloc _).alloc _).alloc _
  rw [hW0]
  clear hW0 HK
  have HSS := HS.out (w.heap.size + 1 + 1) W0 (by omega) hN
  clear HS hN
  refine wpIn_rangeFunc_ownF rfl (by omega) (gf := 165) (lb := #[.pointer (some ⟨w.heap.size + 1 + 1, 0, none⟩)]) rfl trivial (enters_of Tryz.func165 (by kernel_rfl) rfl)
    HSS kpB_t kpB_b (Below.refl _ _) (fun _ => rfl)
    (fun pre W => Hid (W.ownsRow 0 4 1 (.slice p m cap0) m ((setT T (pre.map (·.1))).map Value.bool)) ∧ W.cell? ⟨w.heap.size + 1, 0, none⟩ = some (.slice p m cap0) ∧ Hid (Off (Value.slice p m cap0).ownBlock.toList w W))
    (fun _ _ _ => False)
    (OwnFrom.and (fun s X Y row h1 h2 h3 => Lib.hid (ownFrom_row W0.heap.size 0 m 4 1 (.slice p m cap0) (fun (pre : List { x : Int // x ∈ ksL (k, L, R, f, t, a, q) }) => ((setT T (pre.map (·.1))).map Value.bool)) s X Y row h1.out h2 h3)) (OwnFrom.and ownFrom_cell (fun s X Y row h1 h2 h3 => Lib.hid (ownFrom_off (by omega) s X Y row h1.out h2 h3))))
    (fun _ _ _ _ _ hs _ _ => hs)
    ⟨Lib.hid hR0, c1, Lib.hid (hO0 _)⟩
    (fun x => { tmps := #[.agg #[.int .u8 k, .int .i64 L, .int .i64 R, .int .i64 f, .int .i64 t, .int .i64 a, .int .i64 q], .slice p m cap0, .pointer (some ⟨w.heap.size, 0, none⟩), .pointer (some ⟨w.heap.size + 1, 0, none⟩), .slice none 0 0, .int .i64 x.1, .agg #[.int .u8 k, .int .i64 L, .int .i64 R, .int .i64 f, .int .i64 t, .int .i64 a, .int .i64 q], .func (.func 165) #[] #[.pointer (some ⟨w.heap.size + 1 + 1, 0, none⟩)], .int .i64 x.1, undef, undef, undef, undef, undef, undef], defers := [] }) ?assign ?body ?done ?stop
  case assign =>
    intro l x W K hK
    gi_wp2
    exact hK
  case body =>
    rintro l pre ⟨x, hx⟩ W ⟨HR, hc, HF⟩ _
    obtain ⟨hx0, hxm⟩ := HKS.out x hx
    obtain ⟨j, rfl⟩ : ∃ j : Nat, x = j := ⟨x.toNat, by omega⟩
    have hjz : (j : Int) < m := hxm
    have hlen : (setT T (pre.map (·.1))).length = m := by rw [setT_len, ← HM.out]
    obtain ⟨y, hy⟩ : ∃ y, (setT T (pre.map (·.1)))[j]? = some y := ⟨_, List.getElem?_eq_getElem (by omega)⟩
    have hy2 : ((setT T (pre.map (·.1))).map Value.bool)[j]? = some (.bool y) := by rw [List.getElem?_map, hy]; rfl
    obtain ⟨g, rfl⟩ : ∃ g, p = some ⟨g, 0, none⟩ := by
      rcases HR.out.2 with ⟨h, h2⟩ | ⟨g, cap, cur, h, _⟩
      · omega
      · injection h with h _ _
        exact ⟨g, h⟩
    obtain ⟨hcj, hfj⟩ := row_cells HR.out hy2
    have hgl := HV.out g rfl
    have h1 := row_set HR.out (j := j) (.bool true)
    rw [← List.map_set] at h1
    have HR1 := Lib.hid h1
    have HF1 := Lib.hid (HF.out.set ⟨g, j, none⟩ (.bool true) (.inl (by simp [Value.ownBlock])))
    clear HKS HV hlen hy hy2 h1 HM
    gi_wp2
    refine ⟨KeepsOthers.setCell _ _ _, fun i u e => (World.cell?_setCell_other _ _ _ _ (by simp <;> omega)).trans e, ?_, (World.cell?_setCell_other _ _ _ _ (by simp <;> omega)).trans hc, HF1⟩
    rw [List.map_append, List.map_cons, List.map_nil, setT_snoc, Int.toNat_natCast]
    exact HR1
  case done =>
    rintro D ys W hD hS ⟨HR, hc, HF⟩ hK
    have hH := HR.out.alloc (.cells #[.bool false] 4)
    gi_wp2_with (gi_at_builtin; refine wpListIn_more Tryz.info4 rfl (by decide) (by decide) Tryz.underlying197 _ rfl _ _ rfl (.slice p m cap0) m _ rfl hH ⟨W.heap.size, 0, none⟩ 1 1 [.bool false] rfl rfl (one_at _ _ _) (by simp [Value.oneCell']) (by omega) (by omega) ?_; intro g cap w1 r1 r2 r3)
    have hDl := (Array.getElem?_eq_some_iff.1 hK).1
    have hDv : (Value.slice p m cap0).ownBlock ≠ some D := fun e => by
      obtain ⟨cur, h⟩ := row_type HR.out e
      rw [hK] at h
      cases h
    have hK' : w1.heap[D]? = some (.deferred (some [])) := ((r2.block D (by simp; omega) (fun e => hDv e.symm)).trans (Below.heap_alloc _ _ _ hDl)).trans hK
    have hg1 : g ≠ D := fun e => by
      obtain ⟨cur, h⟩ := row_type r1 (k := g) rfl
      rw [e, hK'] at h
      cases h
    refine ⟨by simp, .inl ⟨_, _, rfl, run_takeDeferred hK', ?_⟩⟩
    refine ⟨_, results_tmp rfl _ _ _, g, cap, rfl, ?_, ?_, ?_⟩
    · have h1 := r1.kept (grownBy_putObj' w1 D (.deferred none)) (.inr (fun e => by injection e with e; exact hg1 e))
      rw [HOUT.out]
      unfold takeT
      rw [← hS, List.map_append]
      exact h1
    · exact ((HF.out.all _).grow r2 (fun k e => .inl (by simp [e]))).put _ (by omega)
    · rcases r3 with h | h
      · exact .inl h
      · exact .inr (by rw [h]; have := HF.out.size; simp; omega)
  case stop =>
    rintro D c pre W _ _ h _
    exact h.elim
end Go.Proofs.YtldmajifkmcdcaaGreat
/-
  pool.fits, made, New, Len, Get. No condition but those typed at each theorem.
-/
namespace Go.Proofs.YtldmajifkmcdcaaGreat
open Go.RowKit
set_option maxRecDepth 100000 in
set_option maxHeartbeats 2000000 in
theorem fits_any (n : Nd) (w : World) (p : Option Addr) (cap : Nat) (T : List Bool) (hT : YnS w p T) :
    Calls Tryz.prog 145 #[nv n, .slice p T.length cap] w fun e w' => e = .returned (.bool (fitsB n T)) ∧ Below w.heap.size w w' := by
  have hB1 : ∀ o, Below w.heap.size w (w.alloc o) := fun o => (Below.refl _ w).alloc (Nat.le_refl _) o
  have HB1 := Lib.hid hB1
  have HC := Lib.hid (fun o => hasOwn_any n (w.alloc o) p cap T (hT.keep (hB1 o)))
  obtain ⟨out, hout⟩ : ∃ out, out = fitsB n T := ⟨_, rfl⟩
  have HOUT := Lib.hid hout
  rw [← hout]
  clear hout hT hB1
  obtain ⟨k, L, R, f, t, a, q⟩ := n
  unfold nv at *
  obtain ⟨m, hm⟩ : ∃ m, m = T.length := ⟨_, rfl⟩
  rw [← hm] at HC
  rw [← hm]
  clear hm
  by_cases h1 : k = 1
  · subst h1
    by_cases h2 : L = -1
    · by_cases h3 : R = -1
      · go_enter Tryz.func145, Tryz.ntmps145
        go_wp2
        go_ret
        exact ⟨retb (by rw [HOUT.out]; simp [fitsB, nk, nl, nr, h2, h3]), HB1.out _⟩
      · go_enter Tryz.func145, Tryz.ntmps145
        go_wp2
        go_ret
        exact ⟨retb (by rw [HOUT.out]; simp [fitsB, nk, nl, nr, h2, h3]), HB1.out _⟩
    · go_enter Tryz.func145, Tryz.ntmps145
      go_wp2
      go_ret
      exact ⟨retb (by rw [HOUT.out]; simp [fitsB, nk, nl, nr, h2]), HB1.out _⟩
  · by_cases h2 : k = 2
    · subst h2
      go_enter Tryz.func145, Tryz.ntmps145
      go_wp2_with (go_at_call 156; (with_reducible refine (HC.out _).mono ?_); rintro e w1 ⟨rfl, hb⟩)
      go_ret
      exact ⟨retb (by rw [HOUT.out]; simp [fitsB, nk, nl, nr]), (HB1.out _).trans (hb.mono (by simp))⟩
    · go_enter Tryz.func145, Tryz.ntmps145
      go_wp2
      go_ret
      exact ⟨retb (by rw [HOUT.out]; simp [fitsB, nk, nl, nr, h1, h2]), HB1.out _⟩
/-- a pool: where it lies, its two rows, its room, its nodes -/
structure PO (w : World) (P : Nat) (v1 v2 : Value) (most : Int) (N : List Nd) : Prop where
  box : w.heap[P]? = some (.cells #[.pointer (some ⟨P, 0, none⟩), .int .i64 most, v1, v2] 199 (0, 0))
  ns : w.ownsRow 0 77 7 v1 N.length (flatN N)
  ts : w.ownsRow 0 4 1 v2 N.length ((tk N).map Value.bool)
  rt : Rt N
/-- its blocks -/
def pbl (P : Nat) (v1 v2 : Value) : List Nat := P :: (v1.ownBlock.toList ++ v2.ownBlock.toList)
section
variable {w w' : World} {P : Nat} {v1 v2 : Value} {most : Int} {N : List Nd}
theorem mem_pbl {k : Nat} : k ∈ pbl P v1 v2 ↔ k = P ∨ v1.ownBlock = some k ∨ v2.ownBlock = some k := by
  simp [pbl, Option.mem_toList]
theorem PO.lt (h : PO w P v1 v2 most N) : ∀ k ∈ pbl P v1 v2, k < w.heap.size := by
  intro k hk
  rw [mem_pbl] at hk
  rcases hk with rfl | hk | hk
  · exact lt_of_block h.box
  · exact (h.ns.lt k hk).2
  · exact (h.ts.lt k hk).2
theorem PO.block (h : PO w P v1 v2 most N) (hb : ∀ k ∈ pbl P v1 v2, w'.heap[k]? = w.heap[k]?) : PO w' P v1 v2 most N :=
  ⟨(hb P (mem_pbl.2 (.inl rfl))).trans h.box, row_at h.ns (fun k e => ⟨hb k (mem_pbl.2 (.inr (.inl e))), Nat.zero_le _⟩), row_at h.ts (fun k e => ⟨hb k (mem_pbl.2 (.inr (.inr e))), Nat.zero_le _⟩), h.rt⟩
theorem PO.keep (h : PO w P v1 v2 most N) (hb : Below w.heap.size w w') : PO w' P v1 v2 most N := h.block (fun k hk => hb.block k (h.lt k hk))
theorem PO.off {S : List Nat} (h : PO w P v1 v2 most N) (hb : Off S w w') (hS : ∀ k ∈ pbl P v1 v2, k ∉ S) : PO w' P v1 v2 most N := h.block (fun k hk => hb.block k (h.lt k hk) (hS k hk))
theorem PO.c0 (h : PO w P v1 v2 most N) : w.cell? ⟨P, 0, none⟩ = some (.pointer (some ⟨P, 0, none⟩)) := by simp [World.cell?, h.box]
theorem PO.c1 (h : PO w P v1 v2 most N) : w.cell? ⟨P, 1, none⟩ = some (.int .i64 most) := by simp [World.cell?, h.box]
theorem PO.c2 (h : PO w P v1 v2 most N) : w.cell? ⟨P, 2, none⟩ = some v1 := by simp [World.cell?, h.box]
theorem PO.c3 (h : PO w P v1 v2 most N) : w.cell? ⟨P, 3, none⟩ = some v2 := by simp [World.cell?, h.box]
theorem PO.fr (h : PO w P v1 v2 most N) (i : Nat) : w.frozen? ⟨P, i, none⟩ = false := by simp [World.frozen?, h.box]
theorem row_yn {base n : Nat} {v : Value} {T : List Bool} (h : w.ownsRow base 4 1 v n (T.map Value.bool)) : T.length = n ∧ ∃ p c, v = .slice p n c ∧ YnS w p T := by
  obtain ⟨h1, h2⟩ := h
  have hn : T.length = n := by rw [List.length_map] at h1; omega
  refine ⟨hn, ?_⟩
  rcases h2 with ⟨rfl, h2⟩ | ⟨g, cap, cur, rfl, hb, hg, hnc, hcm, hcs, htk⟩
  · subst h2
    exact ⟨none, 0, rfl, .inl (List.length_eq_zero_iff.1 hn)⟩
  · exact ⟨some ⟨g, 0, none⟩, cap, rfl, .inr ⟨g, 0, rfl, fun j x e => by
      have := row_cells (w := w) (base := base) (n := n) (e := 4) (g := g) (c := cap) (j := j) (xs := T.map Value.bool) ⟨h1, .inr ⟨g, cap, cur, rfl, hb, hg, hnc, hcm, hcs, htk⟩⟩ (u := .bool x) (by rw [List.getElem?_map, e]; rfl)
      rw [Nat.zero_add]
      exact this.1⟩⟩
end
theorem Tryz.eqSame (a : Addr) (w : World) : (binOp .eql 126 (.pointer (some a)) (.pointer (some a))).run Tryz.prog w = .ok (.bool true) w := by
  obtain ⟨j, hj⟩ := Option.isSome_iff_exists.1 (show (Tryz.prog.info? 199).isSome = true by kernel_rfl)
  exact run_eql_ptr_same w a Tryz.underlying126 hj
set_option maxRecDepth 100000 in
theorem made_yes (w : World) (P : Nat) (v1 v2 : Value) (most : Int) (N : List Nd) (h : PO w P v1 v2 most N) :
    Calls Tryz.prog 116 #[.pointer (some ⟨P, 0, none⟩)] w fun e w' => e = .returned (.bool true) ∧ w' = w := by
  have c0 := h.c0
  have q := Tryz.eqSame
  clear h
  go_enter Tryz.func116, Tryz.ntmps116
  go_wp2
  go_ret
  exact ⟨rfl, rfl⟩
set_option maxRecDepth 100000 in
theorem made_nil (w : World) :
    Calls Tryz.prog 116 #[.pointer none] w fun e w' => e = .returned (.bool false) ∧ w' = w := by
  go_enter Tryz.func116, Tryz.ntmps116
  go_wp2
  go_ret
  exact ⟨rfl, rfl⟩
set_option maxRecDepth 100000 in
theorem New_any (w : World) (most : Int) (h : 0 ≤ most ∧ most ≤ 68719476736) :
    Calls Tryz.prog 113 #[.int .i64 most] w fun e w' => e = .returned (.tuple #[.pointer (some ⟨w.heap.size, 0, none⟩), .int .i64 0]) ∧ PO w' w.heap.size (.slice none 0 0) (.slice none 0 0) most [] ∧ Below w.heap.size w w' := by
  have h1 : ¬ most < 0 := by omega
  have h2 : ¬ 68719476736 < most := by omega
  go_enter Tryz.func113, Tryz.ntmps113
  go_wp2
  go_ret2
  exact ⟨rfl, ⟨heap_alloc_new w _, World.ownsRow_nil _ _ _ _, World.ownsRow_nil _ _ _ _, Rt.nil⟩, (Below.refl _ w).alloc (Nat.le_refl _) _⟩
end Go.Proofs.YtldmajifkmcdcaaGreat
/-
  (*Pool).Put. No condition but those typed at each theorem.
-/
namespace Go.Proofs.YtldmajifkmcdcaaGreat
open Go.RowKit
theorem nd_at (W : World) (n : Nd) (t : TypeId) : ∀ j u, (nvs n)[j]? = some u → (W.alloc (.cells (nvs n).toArray t)).cell? ((⟨W.heap.size, 0, none⟩ : Addr).add j) = some u := by
  intro j u hu
  rw [Addr.add_lit, Nat.zero_add, World.cell?_alloc_new]
  simpa using hu
/-- in the midst of a Put: the node has been put behind the row, and the pool does not know it yet -/
structure Mid (w w4 : World) (P d g cap : Nat) (v1 v2 : Value) (most : Int) (N : List Nd) (n : Nd) : Prop where
  bP : w4.heap[P]? = some (.cells #[.pointer (some ⟨P, 0, none⟩), .int .i64 most, v1, v2] 199 (0, 0))
  ns : w4.ownsRow 0 77 7 (.slice (some ⟨g, 0, none⟩) (d + 1) cap) (d + 1) (flatN (N ++ [n]))
  ts : w4.ownsRow 0 4 1 v2 N.length ((tk N).map Value.bool)
  nd : N1 w4 w.heap.size 0 n
  off : Off (pbl P v1 v2) w w4
  new : v1.ownBlock = some g ∨ w.heap.size ≤ g
theorem Mid.cP {w w4 : World} {P d g cap : Nat} {v1 v2 : Value} {most : Int} {N : List Nd} {n : Nd} (h : Mid w w4 P d g cap v1 v2 most N n) : w4.cell? ⟨P, 2, none⟩ = some v1 := by simp [World.cell?, h.bP]
theorem Mid.fP {w w4 : World} {P d g cap : Nat} {v1 v2 : Value} {most : Int} {N : List Nd} {n : Nd} (h : Mid w w4 P d g cap v1 v2 most N n) : w4.frozen? ⟨P, 2, none⟩ = false := by simp [World.frozen?, h.bP]
theorem put_mid {w wd w4 : World} {P d g cap : Nat} {v1 v2 : Value} {most : Int} {N : List Nd} {n : Nd} (hP : PO wd P v1 v2 most N) (hn : N1 wd w.heap.size 0 n) (hO : ∀ S, Off S w wd) (hlt : ∀ k ∈ pbl P v1 v2, k < w.heap.size)
    (r1 : w4.ownsRow 0 77 7 (.slice (some ⟨g, 0, none⟩) (d + 1) cap) (d + 1) (flatN N ++ nvs n)) (r2 : (wd.alloc (.cells (nvs n).toArray 77)).grownBy w4 v1.ownBlock)
    (r3 : v1.ownBlock = some g ∨ g = (wd.alloc (.cells (nvs n).toArray 77)).heap.size) : Mid w w4 P d g cap v1 v2 most N n := by
  have hold : ∀ k, k < wd.heap.size → v1.ownBlock ≠ some k → w4.heap[k]? = wd.heap[k]? := fun k hk h => (r2.block k (by simp; omega) (fun e => h e.symm)).trans (Below.heap_alloc _ _ _ hk)
  have h1P : v1.ownBlock ≠ some P := fun e => by
    obtain ⟨cur, h⟩ := row_type hP.ns e
    exact types_ne h hP.box (by decide) rfl
  have h12 : ∀ k, v2.ownBlock = some k → v1.ownBlock ≠ some k := fun k e2 e1 => by
    obtain ⟨cur, h⟩ := row_type hP.ns e1
    obtain ⟨cur', h'⟩ := row_type hP.ts e2
    exact types_ne h h' (by decide) rfl
  refine ⟨(hold P (lt_of_block hP.box) h1P).trans hP.box, by rw [flatN_snoc]; exact r1, row_at hP.ts (fun k e => ⟨hold k (hP.ts.lt k e).2 (h12 k e), Nat.zero_le _⟩), hn.block (hold _ hn.lt (fun e => by have := hlt _ (mem_pbl.2 (.inr (.inl e))); omega)), ?_, ?_⟩
  · exact ((hO _).all _).grow r2 (fun k e => .inl (mem_pbl.2 (.inr (.inl e))))
  · rcases r3 with h | h
    · exact .inl h
    · exact .inr (by rw [h]; have := (hO []).size; simp; omega)
/-- the pool knows its nodes, and not yet whose kids they are -/
structure Mid5 (w w5 : World) (P d g cap : Nat) (v1 v2 : Value) (most : Int) (N : List Nd) (n : Nd) : Prop where
  bP : w5.heap[P]? = some (.cells #[.pointer (some ⟨P, 0, none⟩), .int .i64 most, .slice (some ⟨g, 0, none⟩) (d + 1) cap, v2] 199 (0, 0))
  ns : w5.ownsRow 0 77 7 (.slice (some ⟨g, 0, none⟩) (d + 1) cap) (d + 1) (flatN (N ++ [n]))
  ts : w5.ownsRow 0 4 1 v2 N.length ((tk N).map Value.bool)
  nd : N1 w5 w.heap.size 0 n
  off : Off (pbl P v1 v2) w w5
  new : v1.ownBlock = some g ∨ w.heap.size ≤ g
theorem mid_store {w w4 : World} {P d g cap : Nat} {v1 v2 : Value} {most : Int} {N : List Nd} {n : Nd} (K : Mid w w4 P d g cap v1 v2 most N n) (hlt : ∀ k ∈ pbl P v1 v2, k < w.heap.size) :
    Mid5 w (w4.setCell ⟨P, 2, none⟩ (.slice (some ⟨g, 0, none⟩) (d + 1) cap)) P d g cap v1 v2 most N n := by
  have hP := hlt P (mem_pbl.2 (.inl rfl))
  have hold : ∀ k, k ≠ P → (w4.setCell ⟨P, 2, none⟩ (.slice (some ⟨g, 0, none⟩) (d + 1) cap)).heap[k]? = w4.heap[k]? := fun k hk => Below.heap_setCell _ _ _ _ hk
  have hbP := K.bP
  refine ⟨?_, row_at K.ns (fun k e => ⟨hold k (fun e2 => ?_), Nat.zero_le _⟩), row_at K.ts (fun k e => ⟨hold k (fun e2 => ?_), Nat.zero_le _⟩), K.nd.block (hold _ (by omega)), K.off.set _ _ (.inl (mem_pbl.2 (.inl rfl))), K.new⟩
  · rw [heap_setCell_same _ _ _ _ _ _ hbP]
    rfl
  · obtain ⟨cur, h⟩ := row_type K.ns e
    exact types_ne h hbP (by decide) e2
  · obtain ⟨cur, h⟩ := row_type K.ts e
    exact types_ne h hbP (by decide) e2
/-- all but the last store -/
structure End6 (w w6 : World) (P d g cap g2 cap2 : Nat) (v1 v2 : Value) (most : Int) (N : List Nd) : Prop where
  bP : w6.heap[P]? = some (.cells #[.pointer (some ⟨P, 0, none⟩), .int .i64 most, .slice (some ⟨g, 0, none⟩) (d + 1) cap, v2] 199 (0, 0))
  ns : w6.ownsRow 0 77 7 (.slice (some ⟨g, 0, none⟩) (d + 1) cap) (d + 1) (flatN N)
  ts : w6.ownsRow 0 4 1 (.slice (some ⟨g2, 0, none⟩) (d + 1) cap2) (d + 1) ((tk N).map Value.bool)
  off : Off (pbl P v1 v2) w w6
  new : ∀ k ∈ pbl P (.slice (some ⟨g, 0, none⟩) (d + 1) cap) (.slice (some ⟨g2, 0, none⟩) (d + 1) cap2), k ∈ pbl P v1 v2 ∨ w.heap.size ≤ k
  rt : Rt N
  len : N.length = d + 1
theorem End6.cP {w w6 : World} {P d g cap g2 cap2 : Nat} {v1 v2 : Value} {most : Int} {N : List Nd} (h : End6 w w6 P d g cap g2 cap2 v1 v2 most N) : w6.cell? ⟨P, 3, none⟩ = some v2 := by simp [World.cell?, h.bP]
theorem End6.fP {w w6 : World} {P d g cap g2 cap2 : Nat} {v1 v2 : Value} {most : Int} {N : List Nd} (h : End6 w w6 P d g cap g2 cap2 v1 v2 most N) : w6.frozen? ⟨P, 3, none⟩ = false := by simp [World.frozen?, h.bP]
theorem End6.po {w w6 : World} {P d g cap g2 cap2 : Nat} {v1 v2 : Value} {most : Int} {N : List Nd} (h : End6 w w6 P d g cap g2 cap2 v1 v2 most N) :
    PO (w6.setCell ⟨P, 3, none⟩ (.slice (some ⟨g2, 0, none⟩) (d + 1) cap2)) P (.slice (some ⟨g, 0, none⟩) (d + 1) cap) (.slice (some ⟨g2, 0, none⟩) (d + 1) cap2) most N := by
  have hold : ∀ k, k ≠ P → (w6.setCell ⟨P, 3, none⟩ (.slice (some ⟨g2, 0, none⟩) (d + 1) cap2)).heap[k]? = w6.heap[k]? := fun k hk => Below.heap_setCell _ _ _ _ hk
  have hbP := h.bP
  refine ⟨?_, ?_, ?_, h.rt⟩
  · rw [heap_setCell_same _ _ _ _ _ _ hbP]
    rfl
  · rw [h.len]
    refine row_at h.ns (fun k e => ⟨hold k (fun e2 => ?_), Nat.zero_le _⟩)
    obtain ⟨cur, h'⟩ := row_type h.ns e
    exact types_ne h' hbP (by decide) e2
  · rw [h.len]
    refine row_at h.ts (fun k e => ⟨hold k (fun e2 => ?_), Nat.zero_le _⟩)
    obtain ⟨cur, h'⟩ := row_type h.ts e
    exact types_ne h' hbP (by decide) e2
theorem End6.off' {w w6 : World} {P d g cap g2 cap2 : Nat} {v1 v2 : Value} {most : Int} {N : List Nd} (h : End6 w w6 P d g cap g2 cap2 v1 v2 most N) :
    Off (pbl P v1 v2) w (w6.setCell ⟨P, 3, none⟩ (.slice (some ⟨g2, 0, none⟩) (d + 1) cap2)) := h.off.set _ _ (.inl (mem_pbl.2 (.inl rfl)))
theorem put_end {w w5 w6 : World} {P d g cap g2 cap2 : Nat} {v1 v2 : Value} {most : Int} {N : List Nd} {n : Nd} (K : Mid5 w w5 P d g cap v1 v2 most N n) (hd : d = N.length) (hR : Rt (N ++ [n]))
    (t1 : w6.ownsRow 0 4 1 (.slice (some ⟨g2, 0, none⟩) (d + 1) cap2) (d + 1) ((tk (N ++ [n])).map Value.bool)) (t2 : Off v2.ownBlock.toList w5.drew w6) (t3 : v2.ownBlock = some g2 ∨ w5.drew.heap.size ≤ g2) :
    End6 w w6 P d g cap g2 cap2 v1 v2 most (N ++ [n]) := by
  have hold : ∀ k, k < w5.heap.size → v2.ownBlock ≠ some k → w6.heap[k]? = w5.heap[k]? := fun k hk h => t2.block k hk (by simpa [Option.mem_toList] using h)
  have hbP := K.bP
  have h2P : v2.ownBlock ≠ some P := fun e => by
    obtain ⟨cur, h⟩ := row_type K.ts e
    exact types_ne h hbP (by decide) rfl
  have h12 : ∀ k, (Value.slice (some ⟨g, 0, none⟩) (d + 1) cap).ownBlock = some k → v2.ownBlock ≠ some k := fun k e1 e2 => by
    obtain ⟨cur, h⟩ := row_type K.ns e1
    obtain ⟨cur', h'⟩ := row_type K.ts e2
    exact types_ne h h' (by decide) rfl
  refine ⟨(hold P (lt_of_block hbP) h2P).trans hbP, row_at K.ns (fun k e => ⟨hold k (K.ns.lt k e).2 (h12 k e), Nat.zero_le _⟩), t1, ?_, ?_, hR, by simp [hd]⟩
  · have hs := K.off.size
    refine ⟨t2.os.trans K.off.os, t2.tape.trans K.off.tape, t2.output.trans K.off.output, Nat.le_trans hs t2.size, fun k hk hS => ?_⟩
    refine (hold k (by omega) (fun e => hS (mem_pbl.2 (.inr (.inr e))))).trans (K.off.block k hk hS)
  · intro k hk
    rw [mem_pbl] at hk
    rcases hk with rfl | hk | hk
    · exact .inl (mem_pbl.2 (.inl rfl))
    · simp [Value.ownBlock] at hk
      subst hk
      exact K.new.elim (fun e => .inl (mem_pbl.2 (.inr (.inl e)))) .inr
    · simp [Value.ownBlock] at hk
      subst hk
      rcases t3 with h | h
      · exact .inl (mem_pbl.2 (.inr (.inr h)))
      · exact .inr (Nat.le_trans K.off.size h)
/-- what there is behind a Put, and what is told -/
def putN (N : List Nd) (most : Int) (n : Nd) : List Nd × Int × Int :=
  if mayB N n = true then (if (N.length : Int) = most then (N, 0, 5) else (N ++ [n], N.length, 0)) else (N, 0, 50)
def told (p : List Nd × Int × Int) : Value := .tuple #[.int .i64 p.2.1, .int .i64 p.2.2]
set_option maxRecDepth 100000 in
set_option maxHeartbeats 3200000 in
theorem Put_any (w : World) (P : Nat) (v1 v2 : Value) (most : Int) (N : List Nd) (n : Nd) (h : PO w P v1 v2 most N) (hN : N.length ≤ 8000) :
    Calls Tryz.prog 136 #[.pointer (some ⟨P, 0, none⟩), nv n] w fun e w' => ∃ u1 u2, e = .returned (told (putN N most n)) ∧ PO w' P u1 u2 most (putN N most n).1 ∧ Off (pbl P v1 v2) w w' ∧ ∀ k ∈ pbl P u1 u2, k ∈ pbl P v1 v2 ∨ w.heap.size ≤ k := by
  obtain ⟨hl, p2, c2, hv2, hY⟩ := row_yn h.ts
  obtain ⟨-, p1, cp1, hv1, -⟩ := row_nds h.ns
  have HP := Lib.hid h
  have HM := Lib.hid (fun X (hX : PO X P v1 v2 most N) => made_yes X P v1 v2 most N hX)
  have HF := Lib.hid (fun X (hX : Below w.heap.size w X) => by
    have := fits_any n X p2 c2 (tk N) (hY.keep hX)
    rw [fits_may] at this
    exact this)
  obtain ⟨d, hd⟩ : ∃ d, d = N.length := ⟨_, rfl⟩
  rw [← hd] at hN hv2 hl hv1
  have HD := Lib.hid hd
  rw [hl] at HF
  clear hd hl hY h
  subst hv2
  subst hv1
  have HB1 := Lib.hid (fun o => (Below.refl _ w).alloc (Nat.le_refl _) o)
  have HX1 := Lib.hid (fun o => HP.out.keep (HB1.out o))
  obtain ⟨w1, hw1⟩ : ∃ w1, w1 = w.alloc (.cells (nvs n).toArray 77) := ⟨_, rfl⟩
  have hN1 : N1 w1 w.heap.size 0 n := by rw [hw1]; exact N1.new w n _
  have hPO1 : PO w1 P (.slice p1 d cp1) (.slice p2 d c2) most N := by rw [hw1]; exact HX1.out _
  have hB11 : Below w.heap.size w w1 := by rw [hw1]; exact HB1.out _
  have hO11 : ∀ S, Off S w w1 := fun S => by rw [hw1]; exact (Off.refl S w).all _
  have hs1 : w1.heap.size = w.heap.size + 1 := by rw [hw1]; simp
  have n0 := hN1.c0
  have n1 := hN1.c1
  have n2 := hN1.c2
  have n3 := hN1.c3
  have n4 := hN1.c4
  have n5 := hN1.c5
  have n6 := hN1.c6
  simp only [Nat.zero_add] at n1 n2 n3 n4 n5 n6
  have c1 := hPO1.c1
  have c2' := hPO1.c2
  have c3 := hPO1.c3
  have HPO1 := Lib.hid hPO1
  have HB11 := Lib.hid hB11
  have HO11 := Lib.hid hO11
  have HS1 := Lib.hid hs1
  have HCM := Lib.hid (HM.out w1 hPO1)
  have HPL := Lib.hid HP.out.lt
  clear hN1 hPO1 hB11 hO11 HX1 HB1 hs1 HP HM
  have HN1 := Lib.hid (show N1 w1 w.heap.size 0 n from ⟨n0, by simpa using n1, by simpa using n2, by simpa using n3, by simpa using n4, by simpa using n5, by simpa using n6⟩)
  by_cases hm : mayB N n = true
  · by_cases hf : (d : Int) = most
    · have hput : putN N most n = (N, 0, 5) := by simp [putN, hm, ← HD.out, hf]
      rw [hput]
      rw [hm] at HF
      clear hput hm c1 c2'
      obtain ⟨k, L, R, f, t, a, q⟩ := n
      unfold nv told
      unfold nv at HF
      unfold nvs at hw1
      simp only at n0 n1 n2 n3 n4 n5 n6
      go_enter Tryz.func136, Tryz.ntmps136
      go_upto_region 3 with (rw [← hw1]; clear hw1; go_at_call 116; (with_reducible refine HCM.out.mono ?_); rintro e w2 ⟨rfl, rfl⟩)
      refine wp_region_tail 5 (by kernel_rfl) (by kernel_rfl) ?_
      simp only [List.take_succ_cons, List.take_zero, List.drop_succ_cons, List.drop_zero]
      repeat still_step
      refine wpStill_nil ?_
      go_upto_region 5 with (go_at_call 145; (with_reducible refine (HF.out _ HB11.out.drew).mono ?_); rintro e w3 ⟨rfl, hb⟩; have HB3 := Lib.hid (undrew hb); clear hb)
      have hB3 : Below w2.heap.size w2 w3 := HB3.out
      have hPO3 := HPO1.out.keep hB3
      have hN3 := HN1.out.keep hB3 (by have := HS1.out; omega)
      have hO3 : ∀ S, Off S w w3 := fun S => (HO11.out S).bel hB3
      clear n0 n1 n2 n3 n4 n5 n6 c3
      have c1 := hPO3.c1
      have c2' := hPO3.c2
      have c3 := hPO3.c3
      have n0 := hN3.c0
      have n1 := hN3.c1
      have n2 := hN3.c2
      have n3 := hN3.c3
      have n4 := hN3.c4
      have n5 := hN3.c5
      have n6 := hN3.c6
      simp only [Nat.zero_add] at n0 n1 n2 n3 n4 n5 n6
      have HPO3 := Lib.hid hPO3
      have HN3 := Lib.hid hN3
      have HO3 := Lib.hid hO3
      have HS3 := Lib.hid hB3.size
      clear hB3 hPO3 hN3 hO3
      refine wp_region_tail 9 (by kernel_rfl) (by kernel_rfl) ?_
      simp only [List.take_succ_cons, List.take_zero, List.drop_succ_cons, List.drop_zero]
      repeat still_step
      refine wpStill_nil ?_
      go_wp2
      go_ret2
      exact ⟨_, _, rfl, HPO3.out.block (fun _ _ => rfl), (HO3.out _).drew, fun k hk => .inl hk⟩
    · have hput : putN N most n = (N ++ [n], (N.length : Int), 0) := by simp [putN, hm, ← HD.out, hf]
      rw [hput]
      have HR := Lib.hid (HPO1.out.rt.snoc hm)
      have HTA := Lib.hid (fun (X : World) (v : Value) (h1 : X.ownsRow 0 4 1 v N.length ((tk N).map Value.bool)) => by
        have := take_any n X v (tk N) (by rw [tk_len]; exact h1) (fun x hx => by have := may_kid hm hx; rw [tk_len]; omega) (by rw [tk_len, ← HD.out]; omega)
        rw [tk_len, take_tk HPO1.out.rt hm] at this
        exact this)
      rw [hm] at HF
      rw [← HD.out] at HTA
      rw [← HD.out]
      clear hput hm c1 c2'
      obtain ⟨k, L, R, f, t, a, q⟩ := n
      unfold nv told
      unfold nv at HF
      unfold nvs at hw1
      simp only at n0 n1 n2 n3 n4 n5 n6
      go_enter Tryz.func136, Tryz.ntmps136
      go_upto_region 3 with (rw [← hw1]; clear hw1; go_at_call 116; (with_reducible refine HCM.out.mono ?_); rintro e w2 ⟨rfl, rfl⟩)
      refine wp_region_tail 5 (by kernel_rfl) (by kernel_rfl) ?_
      simp only [List.take_succ_cons, List.take_zero, List.drop_succ_cons, List.drop_zero]
      repeat still_step
      refine wpStill_nil ?_
      go_upto_region 5 with (go_at_call 145; (with_reducible refine (HF.out _ HB11.out.drew).mono ?_); rintro e w3 ⟨rfl, hb⟩; have HB3 := Lib.hid (undrew hb); clear hb)
      have hB3 : Below w2.heap.size w2 w3 := HB3.out
      have hPO3 := HPO1.out.keep hB3
      have hN3 := HN1.out.keep hB3 (by have := HS1.out; omega)
      have hO3 : ∀ S, Off S w w3 := fun S => (HO11.out S).bel hB3
      clear n0 n1 n2 n3 n4 n5 n6 c3
      have c1 := hPO3.c1
      have c2' := hPO3.c2
      have c3 := hPO3.c3
      have n0 := hN3.c0
      have n1 := hN3.c1
      have n2 := hN3.c2
      have n3 := hN3.c3
      have n4 := hN3.c4
      have n5 := hN3.c5
      have n6 := hN3.c6
      simp only [Nat.zero_add] at n0 n1 n2 n3 n4 n5 n6
      have HPO3 := Lib.hid hPO3
      have HN3 := Lib.hid hN3
      have HO3 := Lib.hid hO3
      have HS3 := Lib.hid hB3.size
      clear hB3 hPO3 hN3 hO3
      refine wp_region_tail 9 (by kernel_rfl) (by kernel_rfl) ?_
      simp only [List.take_succ_cons, List.take_zero, List.drop_succ_cons, List.drop_zero]
      repeat still_step
      refine wpStill_nil ?_
      go_upto_region 7 with fail
      rw [show ((d : Int) == most) = false by simpa using hf]
      obtain ⟨wd, hwd⟩ : ∃ wd, wd = w3.drew := ⟨_, rfl⟩
      rw [← hwd]
      have hPOd : PO wd P (.slice p1 d cp1) (.slice p2 d c2) most N := by rw [hwd]; exact HPO3.out.block (fun _ _ => rfl)
      have hNd : N1 wd w.heap.size 0 (k, L, R, f, t, a, q) := by rw [hwd]; exact HN3.out.block rfl
      have hOd : ∀ S, Off S w wd := fun S => by rw [hwd]; exact (HO3.out S).drew
      have hDN := HD.out
      have hown := hPOd.ns.alloc (.cells (nvs (k, L, R, f, t, a, q)).toArray 77)
      rw [← hDN] at hown
      clear n0 n1 n2 n3 n4 n5 n6 c1 c2' c3
      have c2' := hPOd.c2
      have fr2 := hPOd.fr 2
      have e2 : P < wd.heap.size := lt_of_block hPOd.box
      have e1 : ¬ wd.heap.size = P := by omega
      have e3 : ¬ P = wd.heap.size := by omega
      have n0 := hNd.c0
      have n1 := hNd.c1
      have n2 := hNd.c2
      have n3 := hNd.c3
      have n4 := hNd.c4
      have n5 := hNd.c5
      have n6 := hNd.c6
      simp only [Nat.zero_add] at n0 n1 n2 n3 n4 n5 n6
      have HPOD := Lib.hid hPOd
      have HND := Lib.hid hNd
      have HOD := Lib.hid hOd
      have HOWN := Lib.hid hown
      clear hPOd hNd hOd hown hDN HPO3 HN3 HO3 hwd HS3 HB3
      go_cut [] from 26 to 35 (fun wx => ∃ g cap w4, Hid (Mid w w4 P d g cap (.slice p1 d cp1) (.slice p2 d c2) most N (k, L, R, f, t, a, q)) ∧ wx = w4.setCell ⟨P, 2, none⟩ (.slice (some ⟨g, 0, none⟩) (d + 1) cap))
      case first =>
        go_region_law ((refine step_more Tryz.info77 rfl (by decide) (by decide) Tryz.underlying110 rfl (.tmp 30) (.tmp 32) rfl (.slice p1 d cp1) d (flatN N) (by simp [Act.eval]) (by exact HOWN.out) ⟨wd.heap.size, 0, none⟩ 1 1 (nvs (k, L, R, f, t, a, q)) (by simp [Act.eval]) rfl (nd_at wd _ _) (nvs_one _) (by omega) (by omega) ?_; intro g cap w4 r1 r2 r3; have K := put_mid HPOD.out HND.out HOD.out HPL.out r1 (grown_drew r2) r3; have k1 := K.cP; have k2 := K.fP; have HK := Lib.hid K; clear r1 r2 r3 K))
        all_goals (go_wp2_with fail; go_meet; exact ⟨g, cap, w4, HK, rfl⟩)
      case rest =>
        obtain ⟨g, cap, w4, HK, rfl⟩ := hcut
        have K := mid_store HK.out HPL.out
        generalize w4.setCell ⟨P, 2, none⟩ (.slice (some ⟨g, 0, none⟩) (d + 1) cap) = w5 at *
        have hT := HTA.out w5.drew _ (by rw [HD.out]; exact K.ts)
        have n0 := K.nd.c0
        have n1 := K.nd.c1
        have n2 := K.nd.c2
        have n3 := K.nd.c3
        have n4 := K.nd.c4
        have n5 := K.nd.c5
        have n6 := K.nd.c6
        simp only [Nat.zero_add] at n0 n1 n2 n3 n4 n5 n6
        have c3 : w5.cell? ⟨P, 3, none⟩ = some (.slice p2 d c2) := by simp [World.cell?, K.bP]
        unfold nv at hT
        have HT := Lib.hid hT
        have HK5 := Lib.hid K
        clear hT K HTA HF HK HPOD HND HOD HOWN c2' fr2 e1 e2 e3
        go_upto_region 8 with fail
        go_cut [] from 36 to 44 (fun wx => ∃ g2 cap2, Hid (PO wx P (.slice (some ⟨g, 0, none⟩) (d + 1) cap) (.slice (some ⟨g2, 0, none⟩) (d + 1) cap2) most (N ++ [(k, L, R, f, t, a, q)])) ∧ Hid (Off (pbl P (.slice p1 d cp1) (.slice p2 d c2)) w wx) ∧ Hid (∀ k ∈ pbl P (.slice (some ⟨g, 0, none⟩) (d + 1) cap) (.slice (some ⟨g2, 0, none⟩) (d + 1) cap2), k ∈ pbl P (.slice p1 d cp1) (.slice p2 d c2) ∨ w.heap.size ≤ k))
        case first =>
          go_region_with (go_at_call 146; (with_reducible refine HT.out.mono ?_); rintro e w6 ⟨g2, cap2, rfl, t1, t2, t3⟩; have K6 := put_end HK5.out HD.out HR.out t1 t2 t3; have k1 := K6.cP; have k2 := K6.fP; have HK6 := Lib.hid K6; clear t1 t2 t3 K6)
          all_goals (go_wp2_with fail; go_meet; exact ⟨g2, cap2, Lib.hid HK6.out.po, Lib.hid HK6.out.off', Lib.hid HK6.out.new⟩)
        case rest =>
          obtain ⟨g2, cap2, HE, HO, HW⟩ := hcut
          have c2' := HE.out.c2
          clear n0 n1 n2 n3 n4 n5 n6 c3 HT HK5
          go_wp2
          go_ret2
          exact ⟨_, _, by simp, HE.out, HO.out, HW.out⟩
  · have hmf : mayB N n = false := by simpa using hm
    have hput : putN N most n = (N, 0, 50) := by simp [putN, hm]
    rw [hput]
    rw [hmf] at HF
    clear hput hm hmf c1 c2'
    obtain ⟨k, L, R, f, t, a, q⟩ := n
    unfold nv told
    unfold nv at HF
    unfold nvs at hw1
    simp only at n0 n1 n2 n3 n4 n5 n6
    go_enter Tryz.func136, Tryz.ntmps136
    go_upto_region 3 with (rw [← hw1]; clear hw1; go_at_call 116; (with_reducible refine HCM.out.mono ?_); rintro e w2 ⟨rfl, rfl⟩)
    refine wp_region_tail 5 (by kernel_rfl) (by kernel_rfl) ?_
    simp only [List.take_succ_cons, List.take_zero, List.drop_succ_cons, List.drop_zero]
    repeat still_step
    refine wpStill_nil ?_
    go_wp2_with (go_at_call 145; (with_reducible refine (HF.out _ HB11.out.drew).mono ?_); rintro e w3 ⟨rfl, hb⟩; have HB3 := Lib.hid (undrew hb); clear hb)
    go_ret2
    exact ⟨_, _, rfl, HPO1.out.keep HB3.out, (HO11.out _).bel HB3.out, fun k hk => .inl hk⟩
end Go.Proofs.YtldmajifkmcdcaaGreat
/-
  Lists put behind rows of one's own; CopyNodes, CopyInts, slices.Clone of nodes; a pool's Len, Get, Nodes. No condition but those typed at each theorem.
-/
namespace Go.Proofs.YtldmajifkmcdcaaGreat
open Go.RowKit
theorem NdS.src {w : World} {p : Option Addr} {c : Nat} {ns : List Nd} (h : NdS w p ns) (hp : p = none → c = 0) : Src w p ns.length c (flatN ns) := by
  cases p with
  | none =>
    have he : ns = [] := by
      rcases h with h | ⟨b, off, h, -⟩
      · exact h
      · cases h
    subst he
    exact .inl ⟨rfl, rfl, hp rfl, rfl⟩
  | some a =>
    refine .inr ⟨a, rfl, fun j u e => ?_⟩
    have hj := (List.getElem?_eq_some_iff.1 e).1
    rw [flatN_len] at hj
    obtain ⟨n, hn⟩ : ∃ n, ns[j / 7]? = some n := ⟨_, List.getElem?_eq_getElem (by omega)⟩
    obtain ⟨b, off, hp', h1⟩ := h.at hn
    cases hp'
    have hm : j % 7 < 7 := Nat.mod_lt _ (by omega)
    have e2 := flatN_get ns hn hm
    rw [show j / 7 * 7 + j % 7 = j by omega] at e2
    rw [e2] at e
    rw [Addr.add_lit, show off + j = off + j / 7 * 7 + j % 7 by omega]
    obtain ⟨i, hi⟩ : ∃ i, i = j % 7 := ⟨_, rfl⟩
    rw [← hi] at e hm ⊢
    have hcases : i = 0 ∨ i = 1 ∨ i = 2 ∨ i = 3 ∨ i = 4 ∨ i = 5 ∨ i = 6 := by omega
    rcases hcases with h | h | h | h | h | h | h <;> subst h <;> simp [nvs] at e <;> subst e
    · exact h1.c0
    · exact h1.c1
    · exact h1.c2
    · exact h1.c3
    · exact h1.c4
    · exact h1.c5
    · exact h1.c6
set_option maxRecDepth 100000 in
set_option maxHeartbeats 1600000 in
theorem Clone_any (w : World) (p : Option Addr) (c : Nat) (ns : List Nd) (hx : NdS w p ns) (hp : p = none → c = 0) (hl : ns.length ≤ 8192) :
    Calls Tryz.prog 117 #[.slice p ns.length c] w fun e w' => ∃ v, e = .returned v ∧ w'.ownsRow w.heap.size 77 7 v ns.length (flatN ns) ∧ Below w.heap.size w w' := by
  have HO := Lib.hid (World.ownsRow_made (base := w.heap.size) (e := 77) (size := 7) w #[] 0 (Nat.le_refl _) (by simp [maxLen]) rfl)
  have HK := Lib.hid ((hx.src hp).keep ((Below.refl _ w).alloc (Nat.le_refl _) (.cells #[] 77)))
  have q22 : ∀ (w : World) (a : Option Addr) (n c n' c' : Nat), (binOp .eql 110 (.slice a n c) (.slice none n' c')).run Tryz.prog w = .ok (.bool a.isNone) w := fun w a n c n' c' => Lib.run_eql_slice_nil w _ _ a n c n' c' Tryz.underlying110
  cases p with
  | none =>
    have he : ns = [] := by
      rcases hx with h | ⟨b, off, h, -⟩
      · exact h
      · cases h
    subst he
    clear hx HK
    go_enter Tryz.func117, Tryz.ntmps117
    go_wp2
    go_ret
    exact ⟨_, rfl, World.ownsRow_nil _ _ _ _, Below.refl _ _⟩
  | some b =>
    clear hx hp
    go_enter Tryz.func117, Tryz.ntmps117
    go_wp2_with (at_builtin; refine wpList_list Tryz.info77 rfl (by decide) (by decide) Tryz.underlying110 _ rfl (.tmp 5) (.tmp 6) rfl w.heap.size (.slice (some ⟨w.heap.size, 0, none⟩) 0 0) 0 [] rfl HO.out (some b) ns.length c (flatN ns) rfl (flatN_len ns) HK.out (flatN_one ns) (by omega) (by simp) ?_; intro v' w' h1 h2 _; have H1 := Lib.hid h1; have H2 := Lib.hid h2; clear h1 h2)
    go_ret
    refine ⟨_, rfl, by simpa using H1.out, ?_⟩
    exact ((Below.refl _ w).alloc (Nat.le_refl _) (.cells #[] 77)).grown H2.out (by simp) (fun k hk => by simp [Value.ownBlock] at hk; omega)
end Go.Proofs.YtldmajifkmcdcaaGreat
namespace Go.Proofs.YtldmajifkmcdcaaGreat
open Go.RowKit
set_option maxRecDepth 100000 in
theorem Nodes_nil (w : World) : Calls Tryz.prog 84 #[.pointer none] w fun e w' => e = .returned (.slice none 0 0) ∧ w' = w := by
  go_enter Tryz.func84, Tryz.ntmps84
  go_wp2_with (go_at_call 116; (with_reducible refine (made_nil _).mono ?_); rintro e w1 ⟨rfl, rfl⟩)
  go_ret
  exact ⟨rfl, rfl⟩
set_option maxRecDepth 100000 in
theorem Nodes_any (w : World) (P : Nat) (v1 v2 : Value) (most : Int) (N : List Nd) (h : PO w P v1 v2 most N) (hl : N.length ≤ 8192) :
    Calls Tryz.prog 84 #[.pointer (some ⟨P, 0, none⟩)] w fun e w' => ∃ v, e = .returned v ∧ w'.ownsRow w.heap.size 77 7 v N.length (flatN N) ∧ Below w.heap.size w w' := by
  obtain ⟨-, p1, c1, rfl, hN, hp, -⟩ := row_nds h.ns
  have HM := Lib.hid (made_yes w P _ v2 most N h)
  have HC := Lib.hid (Clone_any w p1 c1 N hN (fun e => (hp e).1) hl)
  have k2 := h.c2
  clear h hN hp hl
  generalize N.length = d at *
  go_enter Tryz.func84, Tryz.ntmps84
  go_wp2_with (first
    | (go_at_call 116; (with_reducible refine HM.out.mono ?_); rintro e w1 ⟨rfl, rfl⟩)
    | (go_at_call 117; (with_reducible refine HC.out.mono ?_); rintro e w2 ⟨v, rfl, h1, h2⟩; have H1 := Lib.hid h1; have H2 := Lib.hid h2; clear h1 h2))
  go_ret
  exact ⟨_, rfl, H1.out, H2.out⟩
end Go.Proofs.YtldmajifkmcdcaaGreat
/-
  frame's part: put. No condition but those typed at each theorem.
-/
namespace Go.Proofs.YtldmajifkmcdcaaGreat
open Go.RowKit
/-- a part's nodes have been put -/
def FP (w w' : World) (P : Nat) (v1 v2 : Value) (most : Int) (N : List Nd) : Prop := ∃ u1 u2, PO w' P u1 u2 most N ∧ Off (pbl P v1 v2) w w' ∧ ∀ k ∈ pbl P u1 u2, k ∈ pbl P v1 v2 ∨ w.heap.size ≤ k
theorem FP.trans {w X w' : World} {P : Nat} {v1 v2 u1 u2 : Value} {most : Int} {N : List Nd} (hO : Off (pbl P v1 v2) w X) (hk : ∀ k ∈ pbl P u1 u2, k ∈ pbl P v1 v2 ∨ w.heap.size ≤ k) (h : FP X w' P u1 u2 most N) : FP w w' P v1 v2 most N := by
  obtain ⟨x1, x2, h1, h2, h3⟩ := h
  refine ⟨x1, x2, h1, ⟨h2.os.trans hO.os, h2.tape.trans hO.tape, h2.output.trans hO.output, Nat.le_trans hO.size h2.size, fun k hlt hkn => (h2.block k (Nat.lt_of_lt_of_le hlt hO.size) (fun e => (hk k e).elim hkn (fun g => by omega))).trans (hO.block k hlt hkn)⟩, fun k hk3 => ?_⟩
  rcases h3 k hk3 with h4 | h4
  · exact hk k h4
  · exact .inr (Nat.le_trans hO.size h4)
/-- in the midst of a put: the pool, and the three variables -/
structure PM (w wq : World) (P : Nat) (v1 v2 u1 u2 : Value) (most : Int) (N : List Nd) (q : Nat) (x2 x4 x5 : List Value) : Prop where
  po : PO wq P u1 u2 most N
  off : Off (pbl P v1 v2) w wq
  sub : ∀ k ∈ pbl P u1 u2, k ∈ pbl P v1 v2 ∨ w.heap.size ≤ k
  far : ∀ k ∈ pbl P u1 u2, k ≠ w.heap.size ∧ k ≠ q ∧ k ≠ q + 1
  r2 : Row wq w.heap.size x2
  r4 : Row wq q x4
  r5 : Row wq (q + 1) x5
  lt : w.heap.size < wq.heap.size ∧ q + 1 < wq.heap.size
theorem pm1 {w w3 w5 : World} {P : Nat} {v1 v2 u1 u2 : Value} {most : Int} {N : List Nd} (x2 x4 x5 : List Value) (hB : Below w.heap.size w w3) (h2 : Row w3 w.heap.size x2) (hlt : w.heap.size < w3.heap.size) (hPL : ∀ k ∈ pbl P v1 v2, k < w.heap.size)
    (hP : PO w5 P u1 u2 most N) (hO : Off (pbl P v1 v2) ((w3.alloc (.cells x4.toArray 132)).alloc (.cells x5.toArray 132)) w5) (hk : ∀ k ∈ pbl P u1 u2, k ∈ pbl P v1 v2 ∨ ((w3.alloc (.cells x4.toArray 132)).alloc (.cells x5.toArray 132)).heap.size ≤ k) :
    PM w w5 P v1 v2 u1 u2 most N w3.heap.size x2 x4 x5 := by
  have hsz : ((w3.alloc (.cells x4.toArray 132)).alloc (.cells x5.toArray 132)).heap.size = w3.heap.size + 2 := by simp
  rw [hsz] at hk
  have hn : ∀ n, w.heap.size ≤ n → n ∉ pbl P v1 v2 := fun n hn e => by have := hPL n e; omega
  refine ⟨hP, ((Off.of (S := pbl P v1 v2) hB (Nat.le_refl _)).all _ |>.all _).trans hO, fun k e => (hk k e).elim .inl (fun g => .inr (by omega)), fun k e => ?_, ((h2.all _).all _).off hO (hn _ (Nat.le_refl _)), ((Row.new w3 x4 _ rfl).all _).off hO (hn _ (by omega)), (Row.new _ x5 _ (by simp)).off hO (hn _ (by omega)), ?_⟩
  · rcases hk k e with g | g
    · have := hPL k g; omega
    · omega
  · have := hO.size
    omega
theorem PM.step {w wq w6 : World} {P : Nat} {v1 v2 u1 u2 y1 y2 : Value} {most : Int} {N N2 : List Nd} {q : Nat} {x2 x4 x5 : List Value} (h : PM w wq P v1 v2 u1 u2 most N q x2 x4 x5)
    (hP : PO w6 P y1 y2 most N2) (hO : Off (pbl P u1 u2) wq w6) (hk : ∀ k ∈ pbl P y1 y2, k ∈ pbl P u1 u2 ∨ wq.heap.size ≤ k) : PM w w6 P v1 v2 y1 y2 most N2 q x2 x4 x5 := by
  have h0 := h.off.size
  have hl := h.lt
  have hn2 : w.heap.size ∉ pbl P u1 u2 := fun e => (h.far _ e).1 rfl
  have hn4 : q ∉ pbl P u1 u2 := fun e => (h.far _ e).2.1 rfl
  have hn5 : q + 1 ∉ pbl P u1 u2 := fun e => (h.far _ e).2.2 rfl
  refine ⟨hP, off_in h.off h.sub hO, fun k e => ?_, fun k e => ?_, h.r2.off hO hn2, h.r4.off hO hn4, h.r5.off hO hn5, ?_⟩
  · rcases hk k e with g | g
    · exact h.sub k g
    · exact .inr (by omega)
  · rcases hk k e with g | g
    · exact h.far k g
    · omega
  · have := hO.size
    omega
set_option maxRecDepth 100000 in
set_option maxHeartbeats 3200000 in
theorem put_part : ∀ m b f t w P v1 v2 most N, 1 ≤ m → t = f + m → PO w P v1 v2 most N → N.length = b → ((b + sz (tr m) : Nat) : Int) ≤ most → b + sz (tr m) ≤ 8000 → f + m ≤ 8000 →
    Calls Tryz.prog 115 #[pv b f t, .pointer (some ⟨P, 0, none⟩)] w fun e w' => e = .returned (.tuple #[]) ∧ FP w w' P v1 v2 most (N ++ nds b f (tr m)) := by
  intro m
  induction m using Nat.strongRecOn with
  | _ m ih =>
    intro b f t w P v1 v2 most N hm ht hP hb hmost hlen hfm
    have hszm := sz_pos (tr m)
    obtain ⟨w1, hw1⟩ : ∃ w1, w1 = w.alloc (.cells (pvs b f t).toArray 132) := ⟨_, rfl⟩
    have HB1 := Lib.hid (show Below w.heap.size w w1 by rw [hw1]; exact (Below.refl _ w).alloc (Nat.le_refl _) _)
    have HIS := Lib.hid (fun X => by rw [ht]; exact isLeaf_any b f m X hm (by omega) : ∀ X, Calls Tryz.prog 88 #[pv b f t] X fun e w' => e = .returned (.bool (decide (m = 1))) ∧ w' = X.alloc (.cells (pvs b f t).toArray 132))
    by_cases h1 : m = 1
    · subst h1
      have hl : N.length + 1 ≤ 8000 := by rw [tr_one (by omega)] at hlen; simp [sz, lv] at hlen; omega
      have hne : ¬ (N.length : Int) = most := by rw [tr_one (by omega)] at hmost; simp [sz, lv] at hmost; omega
      have HPU := Lib.hid (fun X (hX : Below w.heap.size w X) => Put_any X P v1 v2 most N (1, -1, -1, (f : Int), (t : Int), 0, (f : Int)) (hP.keep hX) (by omega))
      have hput : putN N most (1, -1, -1, (f : Int), (t : Int), 0, (f : Int)) = (N ++ nds b f (tr 1), ((N.length : Nat) : Int), 0) := by
        rw [tr_one (by omega), ht]
        unfold putN
        rw [if_pos (may_lf N f), if_neg hne]
        rfl
      rw [hput] at HPU
      unfold told at HPU
      have HFP : Hid (∀ X w', Below w.heap.size w X → (∃ u1 u2, PO w' P u1 u2 most (N ++ nds b f (tr 1)) ∧ Off (pbl P v1 v2) X w' ∧ ∀ k ∈ pbl P u1 u2, k ∈ pbl P v1 v2 ∨ X.heap.size ≤ k) → FP w w' P v1 v2 most (N ++ nds b f (tr 1))) := Lib.hid (by
        rintro X w' hX ⟨u1, u2, h1, h2, h3⟩
        exact FP.trans (Off.of hX (Nat.le_refl _)) (fun k hk => .inl hk) ⟨u1, u2, h1, h2, h3⟩)
      clear hput hP hb hmost hlen ih hne hl
      generalize N ++ nds b f (tr 1) = N2 at *
      generalize N.length = d at *
      clear ht
      have HB2 := Lib.hid (show Below w.heap.size w ((w.alloc (.cells (pvs b f t).toArray 132)).alloc (.cells (pvs b f t).toArray 132)) from ((Below.refl _ w).alloc (Nat.le_refl _) _).alloc (by simp) _)
      clear HB1 hw1
      unfold pv pvs nv at *
      go_enter Tryz.func115, Tryz.ntmps115
      go_wp2_with (first
        | (go_at_call 88; (with_reducible refine (HIS.out _).mono ?_); rintro e w2 ⟨rfl, rfl⟩)
        | (go_at_call 136; (with_reducible refine (HPU.out _ HB2.out).mono ?_); rintro e w3 ⟨u1, u2, rfl, h⟩; have H := Lib.hid (HFP.out _ _ HB2.out ⟨u1, u2, h⟩); clear h))
      first | (go_end0; exact ⟨rfl, H.out⟩) | (refine bodyPost_ret (results_none rfl _ _ _) rfl ?_; exact ⟨rfl, H.out⟩) | (simp only [Exit.inBlock, Exit.then]; refine bodyPost_ret (results_none rfl _ _ _) rfl ?_; exact ⟨rfl, H.out⟩)
    · have hm2 : 2 ≤ m := by omega
      obtain ⟨a, ha⟩ : ∃ a, a = m - m / 2 := ⟨_, rfl⟩
      obtain ⟨c, hc⟩ : ∃ c, c = m / 2 := ⟨_, rfl⟩
      obtain ⟨mid, hmid⟩ : ∃ mid, mid = f + a := ⟨_, rfl⟩
      obtain ⟨z, hz⟩ : ∃ z, z = sz (tr a) := ⟨_, rfl⟩
      have etr : tr m = .nd (tr a) (tr c) := by rw [tr_two hm2, ha, hc]
      have la : lv (tr a) = a := lv_tr (by omega)
      have lc : lv (tr c) = c := lv_tr (by omega)
      have hz1 : z + 1 = 2 * a := by rw [hz]; unfold sz; omega
      have hsz : sz (tr m) = z + sz (tr c) + 1 := by rw [etr, sz_nd, ← hz]
      have hl1 : (N ++ nds b f (tr a)).length = b + z := by rw [List.length_append, nds_len, hb, hz]
      have hl2 : (N ++ nds b f (tr a) ++ nds (b + z) mid (tr c)).length = b + z + sz (tr c) := by rw [List.length_append, nds_len, hl1]
      have hmay := may_top (l := tr a) (r := tr c) (f := f) hP.rt hb
      rw [la, lc, ← hz, ← hmid] at hmay
      have e3 : N ++ nds b f (tr m) = N ++ nds b f (tr a) ++ nds (b + z) mid (tr c) ++ [(2, (rt b (tr a) : Int), (rt (b + z) (tr c) : Int), (f : Int), ((f + (a + c) : Nat) : Int), 0, 0)] := by
        rw [etr]
        simp [nds, la, ← hz, ← hmid, lc]
      have et : f + (a + c) = t := by omega
      rw [et] at hmay e3
      have hputN : putN (N ++ nds b f (tr a) ++ nds (b + z) mid (tr c)) most (2, (rt b (tr a) : Int), (rt (b + z) (tr c) : Int), (f : Int), (t : Int), 0, 0) = (N ++ nds b f (tr m), (((N ++ nds b f (tr a) ++ nds (b + z) mid (tr c)).length : Nat) : Int), 0) := by
        unfold putN
        rw [if_pos hmay, if_neg (by rw [hl2]; omega), e3]
      have HHV := Lib.hid (fun X => halves_any b f m a c z mid t X hm2 ha hc hz1 hmid ht (by omega))
      have HR1 := Lib.hid (fun X => (by rw [hmid]; exact root_any b f a (rt b (tr a)) X (by omega) (by unfold rt; omega) (by omega) : Calls Tryz.prog 87 #[pv b f mid] X fun e w' => e = .returned (.int .i64 (rt b (tr a) : Nat)) ∧ Below X.heap.size X w'))
      have HR2 := Lib.hid (fun X => (by rw [show t = mid + c by omega]; exact root_any (b + z) mid c (rt (b + z) (tr c)) X (by omega) (by unfold rt; omega) (by omega) : Calls Tryz.prog 87 #[pv (b + z) mid t] X fun e w' => e = .returned (.int .i64 (rt (b + z) (tr c) : Nat)) ∧ Below X.heap.size X w'))
      have HI1 := Lib.hid (fun X (hX : Below w.heap.size w X) => ih a (by omega) b f mid X P v1 v2 most N (by omega) hmid (hP.keep hX) hb (by omega) (by omega) (by omega))
      have HI2 := Lib.hid (fun X u1 u2 (hX : PO X P u1 u2 most (N ++ nds b f (tr a))) => ih c (by omega) (b + z) mid t X P u1 u2 most (N ++ nds b f (tr a)) (by omega) (by omega) hX hl1 (by omega) (by omega) (by omega))
      have HPU := Lib.hid (fun X u1 u2 (hX : PO X P u1 u2 most (N ++ nds b f (tr a) ++ nds (b + z) mid (tr c))) => by
        have := Put_any X P u1 u2 most _ (2, (rt b (tr a) : Int), (rt (b + z) (tr c) : Int), (f : Int), (t : Int), 0, 0) hX (by rw [hl2]; omega)
        rwa [hputN] at this)
      have hd : decide (m = 1) = false := by simp [h1]
      rw [hd] at HIS
      have HPL := Lib.hid hP.lt
      clear hputN e3 hmay hl2 hl1 hP hb hmost hlen ih etr la lc hz1 hsz hszm ha hc hmid hz ht et
      generalize (N ++ nds b f (tr a) ++ nds (b + z) mid (tr c)).length = d at *
      unfold told at HPU
      generalize N ++ nds b f (tr m) = NM at *
      generalize N ++ nds b f (tr a) ++ nds (b + z) mid (tr c) = N2 at *
      generalize N ++ nds b f (tr a) = N1 at *
      generalize rt b (tr a) = r1 at *
      generalize rt (b + z) (tr c) = r2 at *
      generalize b + z = bz at *
      unfold pv pvs nv at *
      have HB2 := Lib.hid (show Below w.heap.size w ((w.alloc (.cells #[.int .i64 b, .int .i64 f, .int .i64 t] 132)).alloc (.cells #[.int .i64 b, .int .i64 f, .int .i64 t] 132)) from ((Below.refl _ w).alloc (Nat.le_refl _) _).alloc (by simp) _)
      clear HB1 hw1
      go_enter Tryz.func115, Tryz.ntmps115
      go_wp2_with (first
        | (go_at_call 88; (with_reducible refine (HIS.out _).mono ?_); rintro e w2 ⟨rfl, rfl⟩)
        | (go_at_call 89; (with_reducible refine (HHV.out _).mono ?_); rintro e w3 ⟨rfl, hb3⟩; have HB3 := Lib.hid (HB2.out.trans (hb3.mono HB2.out.size)); have HB3' := Lib.hid hb3; clear hb3)
        | (go_at_call 115; (with_reducible refine (HI1.out _ ((HB3.out.alloc HB3.out.size _).alloc (by have := HB3.out.size; simp; omega) _)).mono ?_); rintro e w5 ⟨rfl, u1, u2, g1, g2, g3⟩;
            have hM := pm1 [.int .i64 b, .int .i64 f, .int .i64 t] [.int .i64 b, .int .i64 f, .int .i64 mid] [.int .i64 bz, .int .i64 mid, .int .i64 t] HB3.out (((Row.new w [.int .i64 b, .int .i64 f, .int .i64 t] 132 rfl).all _).keep HB3'.out) (by have := HB3'.out.size; simp at this; omega) HPL.out g1 g2 g3;
            have x0 := hM.r5 0 _ rfl; have x1 := hM.r5 1 _ rfl; have x2 := hM.r5 2 _ rfl; have HM := Lib.hid hM; clear hM g1 g2 g3)
        | (go_at_call 115; (with_reducible refine (HI2.out w5 u1 u2 HM.out.po).mono ?_); rintro e w6 ⟨rfl, y1, y2, g1, g2, g3⟩; have HM6 := Lib.hid (HM.out.step g1 g2 g3); clear x0 x1 x2 g1 g2 g3))
      have z20 := fun s : Wd (Bw w6) => (HM6.out.r2.keep s.h) 0 _ rfl
      have z21 := fun s : Wd (Bw w6) => (HM6.out.r2.keep s.h) 1 _ rfl
      have z22 := fun s : Wd (Bw w6) => (HM6.out.r2.keep s.h) 2 _ rfl
      have z40 := fun s : Wd (Bw w6) => (HM6.out.r4.keep s.h) 0 _ rfl
      have z41 := fun s : Wd (Bw w6) => (HM6.out.r4.keep s.h) 1 _ rfl
      have z42 := fun s : Wd (Bw w6) => (HM6.out.r4.keep s.h) 2 _ rfl
      have z50 := fun s : Wd (Bw w6) => (HM6.out.r5.keep s.h) 0 _ rfl
      have z51 := fun s : Wd (Bw w6) => (HM6.out.r5.keep s.h) 1 _ rfl
      have z52 := fun s : Wd (Bw w6) => (HM6.out.r5.keep s.h) 2 _ rfl
      have inst : Nonempty (Wd (Bw w6)) := ⟨⟨w6, Below.refl _ _⟩⟩
      have hkp : Hid (∀ X w', Bw w6 X → Below X.heap.size X w' → Bw w6 w') := Lib.hid (fun X w' h hb => h.keep hb)
      refine wp_region_qt (Bw w6) 10 (by kernel_rfl) (by kernel_rfl) ((Below.refl _ w6).drew) ?_
      simp only [List.take_succ_cons, List.take_zero, List.drop_succ_cons, List.drop_zero]
      repeat (first | go_big_quiet_step (first | (go_at_call 87; first | (with_reducible exact calls_wd hkp.out _ (HR1.out _)) | (with_reducible exact calls_wd hkp.out _ (HR2.out _)))) | quiet_step (first | (go_at_call 87; first | (with_reducible exact calls_wd hkp.out _ (HR1.out _)) | (with_reducible exact calls_wd hkp.out _ (HR2.out _)))))
      refine wpQuiet_nil ?_
      rintro _ ⟨s, rfl⟩
      have HS : Hid (Below w6.heap.size w6 s.w) := Lib.hid s.h
      clear z20 z21 z22 z40 z41 z42 z50 z51 z52 inst
      go_wp2_with (go_at_call 136; (with_reducible refine (HPU.out s.w y1 y2 (HM6.out.po.keep HS.out)).mono ?_); rintro e w7 ⟨x1, x2, rfl, g1, g2, g3⟩; have HF := Lib.hid (show FP w w7 P v1 v2 most NM from ⟨x1, x2, g1, off_in (HM6.out.off.bel HS.out) HM6.out.sub g2, fun k e => by
        rcases g3 k e with g | g
        · exact HM6.out.sub k g
        · have h5 := HM6.out.off.size; have h6 := HS.out.size; exact .inr (by omega)⟩); clear g1 g2 g3)
      first | (go_end0; exact ⟨rfl, HF.out⟩) | (refine bodyPost_ret (results_none rfl _ _ _) rfl ?_; exact ⟨rfl, HF.out⟩) | (simp only [Exit.inBlock, Exit.then]; refine bodyPost_ret (results_none rfl _ _ _) rfl ?_; exact ⟨rfl, HF.out⟩)
end Go.Proofs.YtldmajifkmcdcaaGreat
/-
  sync.Once, one goroutine: the first Do takes the lock, calls the function, then says that it is done; a later Do does nothing. No condition but those typed at each theorem.
-/
namespace Go.Proofs.YtldmajifkmcdcaaGreat
open Go.RowKit
theorem disable (w : World) : (callFunc 148 #[]).run Tryz.prog w = .ok (.value (.tuple #[])) w := run_call_mark0 Tryz.func148 (by kernel_rfl) (by kernel_rfl) (by kernel_rfl) .disable (by kernel_rfl) w
theorem enable (w : World) : (callFunc 150 #[]).run Tryz.prog w = .ok (.value (.tuple #[])) w := run_call_mark0 Tryz.func150 (by kernel_rfl) (by kernel_rfl) (by kernel_rfl) .enable (by kernel_rfl) w
theorem acquire (a : Addr) (w : World) : (callFunc 151 #[.pointer (some a)]).run Tryz.prog w = .ok (.value (.tuple #[])) w := run_call_marked Tryz.func151 (by kernel_rfl) (by kernel_rfl) (by kernel_rfl) .acquire (by kernel_rfl) a w
theorem releaseMerge (a : Addr) (w : World) : (callFunc 153 #[.pointer (some a)]).run Tryz.prog w = .ok (.value (.tuple #[])) w := run_call_marked Tryz.func153 (by kernel_rfl) (by kernel_rfl) (by kernel_rfl) .releaseMerge (by kernel_rfl) a w
/-- Store(true), entered as a deferred call -/
theorem store_deferred (a : Addr) (x : Value) (u : FrameMode) (w : World) (hc : w.cell? a = some x) (hz : w.frozen? a = false) :
    CallsD Tryz.prog 135 #[.pointer (some a), .bool true] u w fun e u' w' => u' = u ∧ (e = .returned (.tuple #[]) ∧ w' = w.drew.setCell a (.int .u32 1)) := by
  have hc' : w.drew.cell? a = some x := by go_simp
  have hz' : w.drew.frozen? a = false := by go_simp
  have hst := run_call_store (P := Tryz.prog) Tryz.func143 (by kernel_rfl) (by kernel_rfl) (by kernel_rfl) (by kernel_rfl) (k := .u32) (y := 1) hc' hz'
  go_enter_d Tryz.func135, Tryz.ntmps135
  go_wp2
  go_region_calls
  all_goals (go_end0; exact ⟨rfl, rfl⟩)
set_option maxRecDepth 100000 in
/-- Unlock, entered as a deferred call -/
theorem unlock_deferred (a : Addr) (u : FrameMode) (w : World) (hc : w.cell? a = some (.int .i32 1)) (hz : w.frozen? a = false) :
    CallsD Tryz.prog 134 #[.pointer (some a)] u w fun e u' w' => u' = u ∧ (e = .returned (.tuple #[]) ∧ w' = w.setCell a (.int .i32 0)) := by
  have hd := disable
  have he := enable
  have hr := releaseMerge
  have hadd := run_call_add (P := Tryz.prog) Tryz.func154 (by kernel_rfl) (by kernel_rfl) (by kernel_rfl) .i32 (by kernel_rfl) (y := -1) (s := 0) hc hz (by simp [go_sem]; rfl)
  have hcv := run_convert_to_unsafe (P := Tryz.prog) (src := 229) (dst := 233) Tryz.underlying229 Tryz.underlying233 (by kernel_rfl) hc
  go_enter_d Tryz.func134, Tryz.ntmps134
  go_wp2
  go_end0
  go_wp2
  go_end0
  exact ⟨rfl, rfl⟩
set_option maxRecDepth 100000 in
/-- Lock, the lock free -/
theorem lock_free (a : Addr) (w : World) (hc : w.cell? a = some (.int .i32 0)) (hz : w.frozen? a = false) :
    Calls Tryz.prog 133 #[.pointer (some a)] w fun e w' => e = .returned (.tuple #[]) ∧ w' = w.setCell a (.int .i32 1) := by
  have hd := disable
  have he := enable
  have ha := acquire
  have hcas := run_call_cas_hit (P := Tryz.prog) Tryz.func149 (by kernel_rfl) (by kernel_rfl) (by kernel_rfl) .i32 (by kernel_rfl) (y := 1) hc hz
  have hc' : (w.setCell a (.int .i32 1)).cell? a = some (.int .i32 1) := World.cell?_setCell_same w a _ hc
  have hcv := run_convert_to_unsafe (P := Tryz.prog) (src := 229) (dst := 233) Tryz.underlying229 Tryz.underlying233 (by kernel_rfl) hc'
  go_enter Tryz.func133, Tryz.ntmps133
  go_wp2
  first | go_end0 | (simp only [Exit.inBlock, Exit.then]; refine bodyPost_ret (results_none rfl _ _ _) rfl ?_) | refine bodyPost_ret (results_none rfl _ _ _) rfl ?_
  go_wp2
  go_end0
  exact ⟨rfl, rfl⟩
set_option maxRecDepth 100000 in
set_option maxHeartbeats 1600000 in
theorem slow_any (b : Nat) (G : World → Prop) (w : World)
    (h0 : w.cell? ⟨b, 1, none⟩ = some (.int .u32 0)) (h1 : w.cell? ⟨b, 2, none⟩ = some (.int .i32 0)) (f1 : w.frozen? ⟨b, 2, none⟩ = false)
    (hG : Calls Tryz.prog 83 #[.pointer (some ⟨b, 1, none⟩)] (w.setCell ⟨b, 2, none⟩ (.int .i32 1)) fun e w1 => e = .returned (.tuple #[]) ∧ G w1)
    (hG1 : ∀ w1, G w1 → w1.cell? ⟨b, 1, none⟩ = some (.int .u32 0) ∧ w1.cell? ⟨b, 2, none⟩ = some (.int .i32 1) ∧ w1.frozen? ⟨b, 1, none⟩ = false ∧ w1.frozen? ⟨b, 2, none⟩ = false) :
    Calls Tryz.prog 112 #[.pointer (some ⟨b, 1, none⟩), .func (.func 83) #[.pointer (some ⟨b, 1, none⟩)] #[]] w fun e w' => e = .returned (.tuple #[]) ∧
      ∃ w1, G w1 ∧ w' = (w1.drew.setCell ⟨b, 1, none⟩ (.int .u32 1)).setCell ⟨b, 2, none⟩ (.int .i32 0) := by
  have hl := run_call_load (P := Tryz.prog) Tryz.func132 (by kernel_rfl) (by kernel_rfl) (by kernel_rfl) .u32 (by kernel_rfl) (w := w.setCell ⟨b, 2, none⟩ (.int .i32 1)) (a := ⟨b, 1, none⟩) (x := 0) ((World.cell?_setCell_other _ ⟨b, 2, none⟩ ⟨b, 1, none⟩ _ (by simp)).trans h0)
  have hnot : ∀ (x : Bool) (w : World), (Op.unary .not (.bool x)).run Tryz.prog w = .ok (.bool (!x)) w := fun _ _ => rfl
  have HG := Lib.hid hG
  have HG1 := Lib.hid hG1
  clear hG hG1
  go_enter_defers Tryz.func112, Tryz.ntmps112
  go_wp2_with (first
    | (go_at_call 133; refine (lock_free ⟨b, 2, none⟩ _ h1 f1).mono ?_; rintro e w' ⟨rfl, rfl⟩)
    | (go_at_call 111; go_in)
    | (go_at_call 83; (with_reducible refine HG.out.mono ?_); rintro e w1 ⟨rfl, hg⟩; have HGW := Lib.hid hg; clear hg))
  obtain ⟨g1, g2, g3, g4⟩ := HG1.out w1 HGW.out
  refine leaves_cons (f := 135) (args := #[.pointer (some ⟨b, 1, none⟩), .bool true]) (by simp) (by simp [go_sem]) ?_
  refine (store_deferred ⟨b, 1, none⟩ (.int .u32 0) .returning _ g1 g3).mono ?_
  rintro e u' w'' ⟨rfl, rfl, rfl⟩
  refine leaves_cons (f := 134) (args := #[.pointer (some ⟨b, 2, none⟩)]) (by simp [settle]) (by simp [go_sem]) ?_
  refine (unlock_deferred ⟨b, 2, none⟩ _ _ ?_ (by simp [g4])).mono ?_
  · refine (World.cell?_setCell_other _ ⟨b, 1, none⟩ ⟨b, 2, none⟩ _ (by simp)).trans ?_
    rw [World.cell?_drew]
    exact g2
  rintro e u' w'' ⟨rfl, rfl, rfl⟩
  have hfin : ∃ w2, G w2 ∧ ((w1.drew.setCell ⟨b, 1, none⟩ (.int .u32 1)).setCell ⟨b, 2, none⟩ (.int .i32 0)) = (w2.drew.setCell ⟨b, 1, none⟩ (.int .u32 1)).setCell ⟨b, 2, none⟩ (.int .i32 0) := ⟨w1, HGW.out, rfl⟩
  obtain ⟨wf, hwf⟩ : ∃ X, X = (w1.drew.setCell ⟨b, 1, none⟩ (.int .u32 1)).setCell ⟨b, 2, none⟩ (.int .i32 0) := ⟨_, rfl⟩
  rw [← hwf] at hfin ⊢
  simp [Leaves, settle, results, Tryz.results112]
  exact hfin
set_option maxRecDepth 100000 in
set_option maxHeartbeats 1600000 in
/-- Do, not yet done -/
theorem do_first (b : Nat) (G : World → Prop) (w : World)
    (h0 : w.cell? ⟨b, 1, none⟩ = some (.int .u32 0)) (h1 : w.cell? ⟨b, 2, none⟩ = some (.int .i32 0)) (f1 : w.frozen? ⟨b, 2, none⟩ = false)
    (hG : Calls Tryz.prog 83 #[.pointer (some ⟨b, 1, none⟩)] (w.setCell ⟨b, 2, none⟩ (.int .i32 1)) fun e w1 => e = .returned (.tuple #[]) ∧ G w1)
    (hG1 : ∀ w1, G w1 → w1.cell? ⟨b, 1, none⟩ = some (.int .u32 0) ∧ w1.cell? ⟨b, 2, none⟩ = some (.int .i32 1) ∧ w1.frozen? ⟨b, 1, none⟩ = false ∧ w1.frozen? ⟨b, 2, none⟩ = false) :
    Calls Tryz.prog 82 #[.pointer (some ⟨b, 1, none⟩), .func (.func 83) #[.pointer (some ⟨b, 1, none⟩)] #[]] w fun e w' => e = .returned (.tuple #[]) ∧
      ∃ w1, G w1 ∧ w' = (w1.drew.setCell ⟨b, 1, none⟩ (.int .u32 1)).setCell ⟨b, 2, none⟩ (.int .i32 0) := by
  have hl := run_call_load (P := Tryz.prog) Tryz.func132 (by kernel_rfl) (by kernel_rfl) (by kernel_rfl) .u32 (by kernel_rfl) h0
  have hnot : ∀ (x : Bool) (w : World), (Op.unary .not (.bool x)).run Tryz.prog w = .ok (.bool (!x)) w := fun _ _ => rfl
  have HS := Lib.hid (slow_any b G w h0 h1 f1 hG hG1)
  clear hG hG1 h0 h1 f1
  go_enter Tryz.func82, Tryz.ntmps82
  go_wp2_with (first
    | (go_at_call 112; (with_reducible refine HS.out.mono ?_); rintro e w' ⟨rfl, hg⟩; have HGW := Lib.hid hg; clear hg)
    | (go_at_call 111; go_in))
  go_end0
  exact ⟨rfl, HGW.out⟩
set_option maxRecDepth 100000 in
/-- Do, done already: the function is not called -/
theorem do_done (a : Addr) (fv : Value) (w : World) (h0 : w.cell? a = some (.int .u32 1)) :
    Calls Tryz.prog 82 #[.pointer (some a), fv] w fun e w' => e = .returned (.tuple #[]) ∧ w' = w := by
  have hl := run_call_load (P := Tryz.prog) Tryz.func132 (by kernel_rfl) (by kernel_rfl) (by kernel_rfl) .u32 (by kernel_rfl) h0
  have hnot : ∀ (x : Bool) (w : World), (Op.unary .not (.bool x)).run Tryz.prog w = .ok (.bool (!x)) w := fun _ _ => rfl
  go_enter Tryz.func82, Tryz.ntmps82
  go_wp2
  go_end0
  exact ⟨rfl, rfl⟩
end Go.Proofs.YtldmajifkmcdcaaGreat
/-
  A frame in memory: New, Leaves, Root, and its nodes, made once. No condition but those typed at each theorem.
-/
namespace Go.Proofs.YtldmajifkmcdcaaGreat
open Go.RowKit
section
variable {w w' : World} {B n : Nat} {d : Int} {pp : Value}
end
/-- a frame: its cells, and its nodes if they were asked for; and its blocks -/
def FS (w : World) (B n : Nat) (bl : List Nat) : Prop :=
  (FR w B n 0 (.pointer none) ∧ bl = [B]) ∨ (n = 0 ∧ FR w B n 1 (.pointer none) ∧ bl = [B]) ∨
    ∃ P v1 v2, FR w B n 1 (.pointer (some ⟨P, 0, none⟩)) ∧ 1 ≤ n ∧ PO w P v1 v2 ((2 * n - 1 : Nat) : Int) (nds 0 0 (tr n)) ∧ bl = B :: pbl P v1 v2
theorem FS.fr {w : World} {B n : Nat} {bl : List Nat} (h : FS w B n bl) : ∃ d pp, FR w B n d pp := by
  rcases h with ⟨h, _⟩ | ⟨_, h, _⟩ | ⟨P, v1, v2, h, _⟩
  · exact ⟨_, _, h⟩
  · exact ⟨_, _, h⟩
  · exact ⟨_, _, h⟩
theorem FS.block {w w' : World} {B n : Nat} {bl : List Nat} (h : FS w B n bl) (hb : ∀ k ∈ bl, w'.heap[k]? = w.heap[k]?) : FS w' B n bl := by
  rcases h with ⟨h, rfl⟩ | ⟨h0, h, rfl⟩ | ⟨P, v1, v2, h, h1, hP, rfl⟩
  · exact .inl ⟨h.block (hb B (by simp)), rfl⟩
  · exact .inr (.inl ⟨h0, h.block (hb B (by simp)), rfl⟩)
  · exact .inr (.inr ⟨P, v1, v2, h.block (hb B (by simp)), h1, hP.block (fun k hk => hb k (List.mem_cons_of_mem _ hk)), rfl⟩)
theorem FS.lt {w : World} {B n : Nat} {bl : List Nat} (h : FS w B n bl) : ∀ k ∈ bl, k < w.heap.size := by
  intro k hk
  rcases h with ⟨h, rfl⟩ | ⟨h0, h, rfl⟩ | ⟨P, v1, v2, h, h1, hP, rfl⟩
  · simp at hk; subst hk; exact h.lt
  · simp at hk; subst hk; exact h.lt
  · rcases List.mem_cons.1 hk with rfl | hk
    · exact h.lt
    · exact hP.lt k hk
theorem FS.keep {w w' : World} {B n : Nat} {bl : List Nat} (h : FS w B n bl) (hb : Below w.heap.size w w') : FS w' B n bl := h.block (fun k hk => hb.block k (h.lt k hk))
theorem FS.off {w w' : World} {B n : Nat} {bl S : List Nat} (h : FS w B n bl) (hb : Off S w w') (hS : ∀ k ∈ bl, k ∉ S) : FS w' B n bl := h.block (fun k hk => hb.block k (h.lt k hk) (hS k hk))
end Go.Proofs.YtldmajifkmcdcaaGreat
/-
  A frame's nodes: made once. No condition but those typed at each theorem.
-/
namespace Go.Proofs.YtldmajifkmcdcaaGreat
open Go.RowKit
/-- a frame's cells while its lock is held -/
def FL (w : World) (B n : Nat) (pp : Value) : Prop := w.heap[B]? = some (.cells #[.pointer (some ⟨B, 0, none⟩), .int .u32 0, .int .i32 1, .int .u32 0, .int .i64 n, pp] 130 (0, 0))
section
variable {w w' : World} {B n : Nat} {pp : Value}
theorem FL.lt (h : FL w B n pp) : B < w.heap.size := lt_of_block h
theorem FL.c1 (h : FL w B n pp) : w.cell? ⟨B, 1, none⟩ = some (.int .u32 0) := by simp [World.cell?, show w.heap[B]? = _ from h]
theorem FL.c2 (h : FL w B n pp) : w.cell? ⟨B, 2, none⟩ = some (.int .i32 1) := by simp [World.cell?, show w.heap[B]? = _ from h]
theorem FL.c4 (h : FL w B n pp) : w.cell? ⟨B, 4, none⟩ = some (.int .i64 n) := by simp [World.cell?, show w.heap[B]? = _ from h]
theorem FL.c5 (h : FL w B n pp) : w.cell? ⟨B, 5, none⟩ = some pp := by simp [World.cell?, show w.heap[B]? = _ from h]
theorem FL.fr (h : FL w B n pp) (i : Nat) : w.frozen? ⟨B, i, none⟩ = false := by simp [World.frozen?, show w.heap[B]? = _ from h]
theorem FL.block (h : FL w B n pp) (hb : w'.heap[B]? = w.heap[B]?) : FL w' B n pp := hb.trans h
theorem FL.keep (h : FL w B n pp) (hb : Below w.heap.size w w') : FL w' B n pp := h.block (hb.block B h.lt)
theorem FR.locked (h : FR w B n 0 pp) : FL (w.setCell ⟨B, 2, none⟩ (.int .i32 1)) B n pp := by
  unfold FL
  rw [heap_setCell_same _ _ _ _ _ _ h]
  rfl
theorem FL.done (h : FL w B n pp) : FR ((w.drew.setCell ⟨B, 1, none⟩ (.int .u32 1)).setCell ⟨B, 2, none⟩ (.int .i32 0)) B n 1 pp := by
  have h1 : (w.drew.setCell ⟨B, 1, none⟩ (.int .u32 1)).heap[B]? = _ := heap_setCell_same w.drew _ _ _ _ _ h
  unfold FR
  rw [heap_setCell_same _ _ _ _ _ _ h1]
  rfl
theorem FL.set (h : FL w B n pp) (v : Value) : FL (w.setCell ⟨B, 5, none⟩ v) B n v := by
  unfold FL
  rw [heap_setCell_same _ _ _ _ _ _ h]
  rfl
end
theorem whole_held (w : World) (B n : Nat) (pp : Value) (h : FL w B n pp) :
    Calls Tryz.prog 56 #[.pointer (some ⟨B, 1, none⟩)] w fun e w' => e = .returned (.agg #[.int .i64 0, .int .i64 0, .int .i64 n]) ∧ Below w.heap.size w w' := by
  have c4 := fun o => (h.keep ((Below.refl _ w).alloc (Nat.le_refl _) o)).c4
  clear h
  go_enter Tryz.func56, Tryz.ntmps56
  go_wp2
  refine bodyPost_ret (v := .agg #[.int .i64 0, .int .i64 0, .int .i64 n]) ?_ rfl ⟨rfl, (Below.refl _ w).alloc (Nat.le_refl _) _⟩
  simp [results, Tryz.f56, go_sem]
/-- the nodes have been made -/
def GR (w w' : World) (B n : Nat) : Prop :=
  (n = 0 ∧ w' = w) ∨ ∃ P v1 v2, 1 ≤ n ∧ FL w' B n (.pointer (some ⟨P, 0, none⟩)) ∧ PO w' P v1 v2 ((2 * n - 1 : Nat) : Int) (nds 0 0 (tr n)) ∧ Off [B] w w' ∧ ∀ k ∈ pbl P v1 v2, w.heap.size ≤ k
theorem grow_end {w w2 w3 wq w5 : World} {B n z : Nat} {u1 u2 : Value} (hz : z = 2 * n - 1) (h : FL w B n (.pointer none)) (hn : 1 ≤ n) (hB : Below w.heap.size w w2) (hB3 : Below w2.heap.size w2 w3)
    (hq : Below (w3.setCell ⟨B, 5, none⟩ (.pointer (some ⟨w2.heap.size, 0, none⟩))).heap.size (w3.setCell ⟨B, 5, none⟩ (.pointer (some ⟨w2.heap.size, 0, none⟩))) wq)
    (g1 : PO w5 w2.heap.size u1 u2 (z : Int) (nds 0 0 (tr n))) (g2 : Off (pbl w2.heap.size (.slice none 0 0) (.slice none 0 0)) wq w5) (g3 : ∀ k ∈ pbl w2.heap.size u1 u2, k ∈ pbl w2.heap.size (.slice none 0 0) (.slice none 0 0) ∨ wq.heap.size ≤ k) : GR w w5 B n := by
  subst hz
  have hs := hB.size
  have hs3 := hB3.size
  have hsq := hq.size
  rw [World.size_setCell] at hsq
  have hlt := h.lt
  have hn0 : ∀ k ∈ pbl w2.heap.size (.slice none 0 0) (.slice none 0 0), w.heap.size ≤ k := by
    intro k hk
    rw [mem_pbl] at hk
    rcases hk with rfl | hk | hk
    · exact hs
    · cases hk
    · cases hk
  refine .inr ⟨w2.heap.size, u1, u2, hn, ?_, g1, ?_, fun k hk => ?_⟩
  · refine ((((h.keep hB).keep hB3).set _).keep hq).block (g2.block B ?_ ?_)
    · omega
    · intro e
      have := hn0 _ e
      omega
  · have h1 : Off [B] w (w3.setCell ⟨B, 5, none⟩ (.pointer (some ⟨w2.heap.size, 0, none⟩))) := (((Off.refl [B] w).bel hB).bel hB3).set _ _ (.inl (by simp))
    exact off_in (h1.bel hq) (fun k hk => .inr (hn0 k hk)) g2
  · rcases g3 k hk with g | g
    · exact hn0 k g
    · omega
set_option maxRecDepth 100000 in
set_option maxHeartbeats 1600000 in
theorem grow_any (w : World) (B n : Nat) (h : FL w B n (.pointer none)) (hm : n ≤ 1500) :
    Calls Tryz.prog 83 #[.pointer (some ⟨B, 1, none⟩)] w fun e w' => e = .returned (.tuple #[]) ∧ GR w w' B n := by
  by_cases h0 : n = 0
  · subst h0
    have c4 := h.c4
    have hz : (((0 : Nat) : Int) == 0) = true := rfl
    clear h
    go_enter Tryz.func83, Tryz.ntmps83
    go_wp2
    first | (go_end0; exact ⟨rfl, .inl ⟨rfl, rfl⟩⟩) | (refine bodyPost_ret (results_none rfl _ _ _) rfl ?_; exact ⟨rfl, .inl ⟨rfl, rfl⟩⟩) | (simp only [Exit.inBlock, Exit.then]; refine bodyPost_ret (results_none rfl _ _ _) rfl ?_; exact ⟨rfl, .inl ⟨rfl, rfl⟩⟩)
  · have hn : 1 ≤ n := by omega
    have c4 := h.c4
    have hz : ((n : Int) == 0) = false := by simp; omega
    have HWH := Lib.hid (whole_held w B n _ h)
    have HSZ : Hid (∀ X, Calls Tryz.prog 114 #[.agg #[.int .i64 0, .int .i64 0, .int .i64 n]] X fun e w' => e = .returned (.int .i64 ((2 * n - 1 : Nat) : Int)) ∧ w' = X.alloc (.cells #[.int .i64 0, .int .i64 0, .int .i64 n] 132)) := Lib.hid (fun X => by
      have := size_any 0 0 n (2 * n - 1) X hn (by omega) (by omega)
      rwa [Nat.zero_add] at this)
    have HNW := Lib.hid (fun X => New_any X ((2 * n - 1 : Nat) : Int) (by omega))
    have lvn : lv (tr n) = n := lv_tr hn
    have szn : sz (tr n) = 2 * n - 1 := by unfold sz; rw [lvn]
    have HPT : Hid (∀ X P, PO X P (.slice none 0 0) (.slice none 0 0) ((2 * n - 1 : Nat) : Int) [] → Calls Tryz.prog 115 #[.agg #[.int .i64 0, .int .i64 0, .int .i64 n], .pointer (some ⟨P, 0, none⟩)] X fun e w' => e = .returned (.tuple #[]) ∧ FP X w' P (.slice none 0 0) (.slice none 0 0) ((2 * n - 1 : Nat) : Int) (nds 0 0 (tr n))) := Lib.hid (fun X P hP =>
      put_part n 0 0 n X P _ _ _ [] hn (by omega) hP rfl (by rw [szn]; omega) (by rw [szn]; omega) (by omega))
    have HH := Lib.hid h
    have HFL := Lib.hid (fun X (hX : Below w.heap.size w X) => h.keep hX)
    clear h lvn szn
    obtain ⟨z, hz2⟩ : ∃ z, z = 2 * n - 1 := ⟨_, rfl⟩
    rw [← hz2] at HSZ HNW HPT
    have HZ := Lib.hid hz2
    clear hz2
    go_enter Tryz.func83, Tryz.ntmps83
    go_upto_region 2 with (go_at_call 56; (with_reducible refine HWH.out.mono ?_); rintro e w1 ⟨rfl, hb⟩; have HB1 := Lib.hid hb; clear hb)
    obtain ⟨w2, hw2⟩ : ∃ w2, w2 = (w1.alloc (.cells #[.int .i64 0, .int .i64 0, .int .i64 n] 132)).alloc (.cells #[.int .i64 0, .int .i64 0, .int .i64 n] 132) := ⟨_, rfl⟩
    have HB2 := Lib.hid (show Below w.heap.size w w2 by rw [hw2]; exact (HB1.out.alloc HB1.out.size _).alloc (by have := HB1.out.size; simp; omega) _)
    have hv : Row w2 w1.heap.size [.int .i64 0, .int .i64 0, .int .i64 n] := by rw [hw2]; exact (Row.new w1 [.int .i64 0, .int .i64 0, .int .i64 n] 132 rfl).all _
    have HV := Lib.hid hv
    have HBV : Hid (B < w1.heap.size) := Lib.hid (by have := HH.out.lt; have := HB1.out.size; omega)
    clear hv
    go_upto_region 3 with (first
      | (go_at_call 114; (with_reducible refine (HSZ.out _).mono ?_); rintro e x ⟨rfl, rfl⟩; rw [← hw2]; clear hw2)
      | (go_at_call 113; (with_reducible refine (HNW.out w2).mono ?_); rintro e w3 ⟨rfl, hP, hB3⟩; have f3 := ((HFL.out _ HB2.out).keep hB3).fr 5; have c3 := ((HFL.out _ HB2.out).keep hB3).c5; have HP := Lib.hid hP; have HB3 := Lib.hid hB3; clear hP hB3))
    obtain ⟨w4, hw4⟩ : ∃ w4, w4 = w3.setCell ⟨B, 5, none⟩ (.pointer (some ⟨w2.heap.size, 0, none⟩)) := ⟨_, rfl⟩
    rw [← hw4]
    have HP4 : Hid (PO w4 w2.heap.size (.slice none 0 0) (.slice none 0 0) z []) := Lib.hid (by
      rw [hw4]
      refine HP.out.block (fun k hk => Below.heap_setCell _ _ _ _ ?_)
      intro e
      have h1 := HBV.out
      have h2 : w1.heap.size ≤ w2.heap.size := by have := HV.out 0 _ rfl; have := World.block_lt_of_cell? w2 _ this; simp at this; omega
      rw [mem_pbl] at hk
      rcases hk with hk | hk | hk
      · simp at e; omega
      · cases hk
      · cases hk)
    have HF4 : Hid (FL w4 B n (.pointer (some ⟨w2.heap.size, 0, none⟩))) := Lib.hid (by rw [hw4]; exact ((HFL.out _ HB2.out).keep HB3.out).set _)
    have HV4 : Hid (Row w4 w1.heap.size [.int .i64 0, .int .i64 0, .int .i64 n]) := Lib.hid (by rw [hw4]; exact (HV.out.keep HB3.out).far _ _ (by have := HBV.out; simp; omega))
    have z0 := fun s : Wd (Bw w4) => (HV4.out.keep s.h) 0 _ rfl
    have z1 := fun s : Wd (Bw w4) => (HV4.out.keep s.h) 1 _ rfl
    have z2 := fun s : Wd (Bw w4) => (HV4.out.keep s.h) 2 _ rfl
    have z3 := fun s : Wd (Bw w4) => (HF4.out.keep s.h).c5
    have inst : Nonempty (Wd (Bw w4)) := ⟨⟨w4, Below.refl _ _⟩⟩
    have HEND := Lib.hid (fun wq w5 u1 u2 (hq : Below w4.heap.size w4 wq) => grow_end (w := w) (w2 := w2) (w3 := w3) (wq := wq) (w5 := w5) (u1 := u1) (u2 := u2) HZ.out HH.out hn HB2.out HB3.out (by rw [← hw4]; exact hq))
    clear hw4 f3 c3
    refine wp_region_qt (Bw w4) 5 (by kernel_rfl) (by kernel_rfl) ((Below.refl _ w4).drew) ?_
    simp only [List.take_succ_cons, List.take_zero, List.drop_succ_cons, List.drop_zero]
    repeat (first | go_big_quiet_step (fail) | quiet_step (fail))
    refine wpQuiet_nil ?_
    rintro _ ⟨s, rfl⟩
    have HS : Hid (Below w4.heap.size w4 s.w) := Lib.hid s.h
    clear z0 z1 z2 z3 inst
    go_wp2_with (go_at_call 115; (with_reducible refine (HPT.out s.w w2.heap.size (HP4.out.keep HS.out)).mono ?_); rintro e w5 ⟨rfl, u1, u2, g1, g2, g3⟩; have HG := Lib.hid (HEND.out s.w w5 u1 u2 HS.out g1 g2 g3); clear g1 g2 g3)
    first | (go_end0; exact ⟨rfl, HG.out⟩) | (refine bodyPost_ret (results_none rfl _ _ _) rfl ?_; exact ⟨rfl, HG.out⟩) | (simp only [Exit.inBlock, Exit.then]; refine bodyPost_ret (results_none rfl _ _ _) rfl ?_; exact ⟨rfl, HG.out⟩)
theorem row_base {w : World} {base base' n : Nat} {e : TypeId} {size : Nat} {v : Value} {xs : List Value} (h : w.ownsRow base e size v n xs) (hb : base' ≤ base) : w.ownsRow base' e size v n xs := by
  obtain ⟨h1, h2⟩ := h
  refine ⟨h1, ?_⟩
  rcases h2 with h2 | ⟨g, cap, cur, hv, hg, hr⟩
  · exact .inl h2
  · exact .inr ⟨g, cap, cur, hv, Nat.le_trans hb hg, hr⟩
/-- a frame's nodes have been told -/
def FNr (w w' : World) (B n : Nat) (bl : List Nat) (v : Value) : Prop :=
  ∃ bl', FS w' B n bl' ∧ Off bl w w' ∧ (∀ k ∈ bl', k ∈ bl ∨ w.heap.size ≤ k) ∧ w'.ownsRow w.heap.size 77 7 v (ndN n).length (flatN (ndN n)) ∧ ∀ k, v.ownBlock = some k → k ∉ bl'
/-- the frame behind the once -/
def FD (w w' : World) (B n : Nat) (bl' : List Nat) (pp : Value) : Prop :=
  (n = 0 ∧ FR w' B n 1 (.pointer none) ∧ pp = .pointer none ∧ bl' = [B] ∧ w.heap.size ≤ w'.heap.size) ∨
    ∃ P v1 v2, pp = .pointer (some ⟨P, 0, none⟩) ∧ FR w' B n 1 pp ∧ 1 ≤ n ∧ PO w' P v1 v2 ((2 * n - 1 : Nat) : Int) (nds 0 0 (tr n)) ∧ bl' = B :: pbl P v1 v2 ∧ w.heap.size ≤ w'.heap.size
theorem FD.fs {w w' : World} {B n : Nat} {bl' : List Nat} {pp : Value} (h : FD w w' B n bl' pp) : FS w' B n bl' := by
  rcases h with ⟨h0, h1, h2, h3, _⟩ | ⟨P, v1, v2, h0, h1, h2, h3, h4, _⟩
  · exact .inr (.inl ⟨h0, h1, h3⟩)
  · subst h0
    exact .inr (.inr ⟨P, v1, v2, h1, h2, h3, h4⟩)
theorem FD.cell {w w' : World} {B n : Nat} {bl' : List Nat} {pp : Value} (h : FD w w' B n bl' pp) : w'.cell? ⟨B, 5, none⟩ = some pp := by
  rcases h with ⟨h0, h1, h2, h3, _⟩ | ⟨P, v1, v2, h0, h1, h2, h3, h4, _⟩
  · subst h2; exact h1.c5
  · exact h1.c5
theorem FD.size {w w' : World} {B n : Nat} {bl' : List Nat} {pp : Value} (h : FD w w' B n bl' pp) : w.heap.size ≤ w'.heap.size := by
  rcases h with ⟨_, _, _, _, h⟩ | ⟨_, _, _, _, _, _, _, _, h⟩ <;> exact h
theorem FD.nodes {w w' : World} {B n : Nat} {bl' : List Nat} {pp : Value} (h : FD w w' B n bl' pp) (hn : n ≤ 1500) :
    Calls Tryz.prog 84 #[pp] w' fun e w2 => ∃ v, e = .returned v ∧ w2.ownsRow w'.heap.size 77 7 v (ndN n).length (flatN (ndN n)) ∧ Below w'.heap.size w' w2 := by
  rcases h with ⟨h0, h1, h2, h3, _⟩ | ⟨P, v1, v2, h0, h1, h2, h3, h4, _⟩
  · subst h0 h2
    exact (Nodes_nil w').mono (by rintro e w2 ⟨rfl, rfl⟩; exact ⟨_, rfl, World.ownsRow_nil _ _ _ _, Below.refl _ _⟩)
  · subst h0
    have e : ndN n = nds 0 0 (tr n) := by unfold ndN; rw [if_neg (by omega)]
    rw [e]
    exact Nodes_any w' P v1 v2 _ _ h3 (by rw [← e, ndN_len]; omega)
/-- the once, whether or not the nodes are there -/
theorem once_any (w : World) (B n : Nat) (bl : List Nat) (h : FS w B n bl) (hn : n ≤ 1500) :
    Calls Tryz.prog 82 #[.pointer (some ⟨B, 1, none⟩), .func (.func 83) #[.pointer (some ⟨B, 1, none⟩)] #[]] w fun e w' =>
      e = .returned (.tuple #[]) ∧ ∃ bl' pp, FD w w' B n bl' pp ∧ Off bl w w' ∧ ∀ k ∈ bl', k ∈ bl ∨ w.heap.size ≤ k := by
  rcases h with ⟨h, rfl⟩ | ⟨h0, h, rfl⟩ | ⟨P, v1, v2, h, h1, hP, rfl⟩
  · have hL := h.locked
    refine (do_first B (GR (w.setCell ⟨B, 2, none⟩ (.int .i32 1)) · B n ∧ True) w h.c1 h.c2 (h.fr 2) ((grow_any _ B n hL hn).mono (fun e w' hh => ⟨hh.1, hh.2, trivial⟩)) ?_).mono ?_
    · rintro w1 ⟨hg, -⟩
      rcases hg with ⟨h0, rfl⟩ | ⟨P, v1, v2, h1, h2, h3, h4, h5⟩
      · exact ⟨hL.c1, hL.c2, hL.fr 1, hL.fr 2⟩
      · exact ⟨h2.c1, h2.c2, h2.fr 1, h2.fr 2⟩
    · rintro e w' ⟨rfl, w1, ⟨hg, -⟩, rfl⟩
      refine ⟨rfl, ?_⟩
      have hsz : (w.setCell ⟨B, 2, none⟩ (.int .i32 1)).heap.size = w.heap.size := World.size_setCell _ _ _
      have ho : ∀ X, Off [B] w X → Off [B] w ((X.drew.setCell ⟨B, 1, none⟩ (.int .u32 1)).setCell ⟨B, 2, none⟩ (.int .i32 0)) := fun X hX => (hX.drew.set _ _ (.inl (by simp))).set _ _ (.inl (by simp))
      have ho1 : Off [B] w (w.setCell ⟨B, 2, none⟩ (.int .i32 1)) := (Off.refl [B] w).set _ _ (.inl (by simp))
      rcases hg with ⟨h0, rfl⟩ | ⟨P, v1, v2, h1, h2, h3, h4, h5⟩
      · exact ⟨[B], .pointer none, .inl ⟨h0, hL.done, rfl, rfl, (ho _ ho1).size⟩, ho _ ho1, fun k hk => .inl hk⟩
      · have hw := ho _ (ho1.trans h4)
        refine ⟨B :: pbl P v1 v2, _, .inr ⟨P, v1, v2, rfl, h2.done, h1, h3.off (((Off.refl [B] w1).drew.set ⟨B, 1, none⟩ (.int .u32 1) (.inl (by simp))).set ⟨B, 2, none⟩ (.int .i32 0) (.inl (by simp))) (fun k hk e => ?_), rfl, hw.size⟩, hw, fun k hk => ?_⟩
        · simp at e
          have := h5 k hk
          have := h.lt
          omega
        · rcases List.mem_cons.1 hk with rfl | hk
          · exact .inl (by simp)
          · exact .inr (by have := h5 k hk; omega)
  · exact (do_done ⟨B, 1, none⟩ _ w h.c1).mono (by rintro e w' ⟨rfl, rfl⟩; exact ⟨rfl, [B], .pointer none, .inl ⟨h0, h, rfl, rfl, Nat.le_refl _⟩, Off.refl _ _, fun k hk => .inl hk⟩)
  · exact (do_done ⟨B, 1, none⟩ _ w h.c1).mono (by rintro e w' ⟨rfl, rfl⟩; exact ⟨rfl, _, _, .inr ⟨P, v1, v2, rfl, h, h1, hP, rfl, Nat.le_refl _⟩, Off.refl _ _, fun k hk => .inl hk⟩)
set_option maxRecDepth 100000 in
set_option maxHeartbeats 1600000 in
theorem FNodes_any (w : World) (B n : Nat) (bl : List Nat) (h : FS w B n bl) (hn : n ≤ 1500) :
    Calls Tryz.prog 52 #[.pointer (some ⟨B, 0, none⟩)] w fun e w' => ∃ v, e = .returned v ∧ FNr w w' B n bl v := by
  obtain ⟨d, pp0, hf⟩ := h.fr
  have HM := Lib.hid (fmade_yes w B n d pp0 hf)
  have HO := Lib.hid (once_any w.drew B n bl (h.block (fun k _ => rfl)) hn)
  have HN := Lib.hid (fun w' bl' pp (hd : FD w.drew w' B n bl' pp) => hd.nodes hn)
  have hmf : ∀ (fn : Fn) (first cap : Array Value) (w : World), (Instr.makeFunc fn first cap).run Tryz.prog w = .ok (.func fn first cap) w := fun _ _ _ _ => rfl
  clear hf h hn
  go_enter Tryz.func52, Tryz.ntmps52
  go_upto_region 3 with (go_at_call 55; (with_reducible refine HM.out.mono ?_); rintro e w1 ⟨rfl, rfl⟩)
  refine wp_region_tail 8 (by kernel_rfl) (by kernel_rfl) ?_
  simp only [List.take_succ_cons, List.take_zero, List.drop_succ_cons, List.drop_zero]
  repeat still_step
  refine wpStill_nil ?_
  go_wp2_with (first
    | (go_at_call 82; (with_reducible refine HO.out.mono ?_); rintro e w2 ⟨rfl, bl', pp, h1, h2, h3⟩; have c5 := h1.cell; have H1 := Lib.hid h1; have H2 := Lib.hid h2; have H3 := Lib.hid h3; clear h1 h2 h3)
    | (go_at_call 84; (with_reducible refine (HN.out w2 bl' pp H1.out).mono ?_); rintro e w3 ⟨v, rfl, h4, h5⟩; have H4 := Lib.hid h4; have H5 := Lib.hid h5; clear h4 h5))
  go_ret
  have hsz : w1.heap.size ≤ w2.heap.size := H1.out.size
  have hfs := H1.out.fs
  refine ⟨_, rfl, bl', hfs.keep H5.out, ?_, H3.out, row_base H4.out hsz, fun k hk hkb => ?_⟩
  · exact Off.bel (w := w1) ⟨H2.out.os, H2.out.tape, H2.out.output, H2.out.size, H2.out.block⟩ H5.out
  · have h1 := hfs.lt k hkb
    have h2 := (H4.out.lt k hk).1
    omega
end Go.Proofs.YtldmajifkmcdcaaGreat
