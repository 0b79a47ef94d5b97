/-
  Nodes and yes-or-noes in memory; what is put behind a row lies in its block or in a new one. No condition but those typed at each theorem.
-/
import Derived.Test.YtjobfpnlpfjoeaaMath
import Derived.Test.YtjobfpnlpfjoeaaRow
namespace Go.Proofs.Ytjobfpnlpfjoeaa
open Go.RowKit

/-- a node's cells -/
def nvs (n : Nd) : List Value := [.int .u8 n.1, .int .i64 n.2.1, .int .i64 n.2.2.1, .int .i64 n.2.2.2.1, .int .i64 n.2.2.2.2.1, .int .i64 n.2.2.2.2.2.1, .int .i64 n.2.2.2.2.2.2]
def nv (n : Nd) : Value := .agg #[.int .u8 n.1, .int .i64 n.2.1, .int .i64 n.2.2.1, .int .i64 n.2.2.2.1, .int .i64 n.2.2.2.2.1, .int .i64 n.2.2.2.2.2.1, .int .i64 n.2.2.2.2.2.2]
/-- from this place on a node lies -/
structure N1 (w : World) (b o : Nat) (n : Nd) : Prop where
  c0 : w.cell? ⟨b, o, none⟩ = some (.int .u8 n.1)
  c1 : w.cell? ⟨b, o + 1, none⟩ = some (.int .i64 n.2.1)
  c2 : w.cell? ⟨b, o + 2, none⟩ = some (.int .i64 n.2.2.1)
  c3 : w.cell? ⟨b, o + 3, none⟩ = some (.int .i64 n.2.2.2.1)
  c4 : w.cell? ⟨b, o + 4, none⟩ = some (.int .i64 n.2.2.2.2.1)
  c5 : w.cell? ⟨b, o + 5, none⟩ = some (.int .i64 n.2.2.2.2.2.1)
  c6 : w.cell? ⟨b, o + 6, none⟩ = some (.int .i64 n.2.2.2.2.2.2)
theorem N1.lt {w : World} {b o : Nat} {n : Nd} (h : N1 w b o n) : b < w.heap.size := World.block_lt_of_cell? w _ h.c0
theorem N1.block {w w' : World} {b o : Nat} {n : Nd} (h : N1 w b o n) (hb : w'.heap[b]? = w.heap[b]?) : N1 w' b o n := by
  have k : ∀ i, w'.cell? ⟨b, i, none⟩ = w.cell? ⟨b, i, none⟩ := fun i => World.cell?_of_block (a := ⟨b, i, none⟩) hb
  exact ⟨(k _).trans h.c0, (k _).trans h.c1, (k _).trans h.c2, (k _).trans h.c3, (k _).trans h.c4, (k _).trans h.c5, (k _).trans h.c6⟩
theorem N1.keep {w w' : World} {b o N : Nat} {n : Nd} (h : N1 w b o n) (hb : Below N w w') (hN : b < N) : N1 w' b o n := h.block (hb.block b hN)
theorem N1.off {w w' : World} {b o : Nat} {n : Nd} {S : List Nat} (h : N1 w b o n) (hb : Off S w w') (hN : b ∉ S) : N1 w' b o n := h.block (hb.block b h.lt hN)
theorem N1.new (w : World) (n : Nd) (t : TypeId) : N1 (w.alloc (.cells (nvs n).toArray t)) w.heap.size 0 n := by
  have k : ∀ i v, (nvs n)[i]? = some v → (w.alloc (.cells (nvs n).toArray t)).cell? ⟨w.heap.size, i, none⟩ = some v := fun i v e => by
    rw [World.cell?_alloc_new]
    simpa using e
  exact ⟨k 0 _ rfl, k 1 _ rfl, k 2 _ rfl, k 3 _ rfl, k 4 _ rfl, k 5 _ rfl, k 6 _ rfl⟩
/-- from this place on these nodes lie -/
def Nds (w : World) (b off : Nat) (ns : List Nd) : Prop := ∀ j n, ns[j]? = some n → N1 w b (off + j * 7) n
/-- a slice's first place, and the nodes that it has -/
def NdS (w : World) (p : Option Addr) (ns : List Nd) : Prop := ns = [] ∨ ∃ b off, p = some ⟨b, off, none⟩ ∧ Nds w b off ns
theorem NdS.nil (w : World) (p : Option Addr) : NdS w p [] := .inl rfl
theorem NdS.keep {w w' : World} {p : Option Addr} {ns : List Nd} (h : NdS w p ns) (hb : Below w.heap.size w w') : NdS w' p ns := by
  rcases h with h | ⟨b, off, rfl, h⟩
  · exact .inl h
  · exact .inr ⟨b, off, rfl, fun j n e => (h j n e).keep hb (h j n e).lt⟩
theorem NdS.off {w w' : World} {p : Option Addr} {ns : List Nd} {S : List Nat} (h : NdS w p ns) (hb : Off S w w') (hS : ∀ b off, p = some ⟨b, off, none⟩ → ns ≠ [] → b ∉ S) : NdS w' p ns := by
  rcases h with h | ⟨b, off, rfl, h⟩
  · exact .inl h
  · refine .inr ⟨b, off, rfl, fun j n e => (h j n e).off hb (hS b off rfl (fun h0 => by subst h0; simp at e))⟩
theorem NdS.at {w : World} {p : Option Addr} {ns : List Nd} (h : NdS w p ns) {j : Nat} {n : Nd} (e : ns[j]? = some n) : ∃ b off, p = some ⟨b, off, none⟩ ∧ N1 w b (off + j * 7) n := by
  rcases h with rfl | ⟨b, off, hp, h⟩
  · simp at e
  · exact ⟨b, off, hp, h j n e⟩
theorem NdS.lt {w : World} {ns : List Nd} {b off : Nat} (h : NdS w (some ⟨b, off, none⟩) ns) (h0 : ns ≠ []) : b < w.heap.size := by
  rcases h with h | ⟨b2, off2, e, h⟩
  · exact absurd h h0
  · cases e
    cases ns with
    | nil => exact absurd rfl h0
    | cons x xs => exact (h 0 x rfl).lt
theorem NdS.take {w : World} {p : Option Addr} {ns : List Nd} (h : NdS w p ns) (k : Nat) : NdS w p (ns.take k) := by
  rcases h with rfl | ⟨b, off, rfl, h⟩
  · exact .inl (by simp)
  · refine .inr ⟨b, off, rfl, fun j n e => h j n ?_⟩
    rw [List.getElem?_take] at e
    split at e
    · exact e
    · cases e

/-- all cells of these nodes -/
def flatN (ns : List Nd) : List Value := ns.flatMap nvs
theorem flatN_nil : flatN [] = [] := rfl
theorem flatN_snoc (ns : List Nd) (n : Nd) : flatN (ns ++ [n]) = flatN ns ++ nvs n := by simp [flatN]
theorem flatN_append (ns ms : List Nd) : flatN (ns ++ ms) = flatN ns ++ flatN ms := by simp [flatN]
theorem flatN_len (ns : List Nd) : (flatN ns).length = ns.length * 7 := by
  induction ns with
  | nil => rfl
  | cons n ns ih => rw [show flatN (n :: ns) = nvs n ++ flatN ns from rfl, List.length_append, ih, List.length_cons, show (nvs n).length = 7 from rfl]; omega
theorem flatN_get (ns : List Nd) {j i : Nat} {n : Nd} (e : ns[j]? = some n) (hi : i < 7) : (flatN ns)[j * 7 + i]? = (nvs n)[i]? := by
  induction ns generalizing j with
  | nil => simp at e
  | cons m ns ih =>
    rw [show flatN (m :: ns) = nvs m ++ flatN ns from rfl]
    cases j with
    | zero =>
      simp at e
      subst e
      rw [Nat.zero_mul, Nat.zero_add, List.getElem?_append_left (by rw [show (nvs m).length = 7 from rfl]; exact hi)]
    | succ j =>
      simp only [List.getElem?_cons_succ] at e
      rw [List.getElem?_append_right (by rw [show (nvs m).length = 7 from rfl]; omega), show (nvs m).length = 7 from rfl, show (j + 1) * 7 + i - 7 = j * 7 + i by omega]
      exact ih e
theorem nvs_one (n : Nd) : ∀ u ∈ nvs n, u.oneCell' = true := by
  intro u hu
  simp [nvs] at hu
  rcases hu with rfl | rfl | rfl | rfl | rfl | rfl | rfl <;> rfl
theorem flatN_one (ns : List Nd) : ∀ u ∈ flatN ns, u.oneCell' = true := by
  intro u hu
  simp only [flatN, List.mem_flatMap] at hu
  obtain ⟨n, _, h⟩ := hu
  exact nvs_one n u h
/-- a row of one's own that holds nodes -/
theorem row_nds {w : World} {base n : Nat} {v : Value} {ns : List Nd} (h : w.ownsRow base 36 7 v n (flatN ns)) : ns.length = n ∧ ∃ p c, v = .slice p n c ∧ NdS w p ns ∧ (p = none → c = 0 ∧ n = 0) ∧ n ≤ c ∧ c ≤ maxLen ∧ (p = none ∨ ∃ g, p = some ⟨g, 0, none⟩ ∧ g < w.heap.size) := by
  obtain ⟨h1, h2⟩ := h
  have hn : ns.length = n := by rw [flatN_len] at h1; omega
  refine ⟨hn, ?_⟩
  rcases h2 with ⟨rfl, h2⟩ | ⟨g, cap, cur, rfl, hb, hg, hnc, hcm, hcs, htk⟩
  · subst h2
    exact ⟨none, 0, rfl, .inl (List.length_eq_zero_iff.1 hn), fun _ => ⟨rfl, rfl⟩, Nat.le_refl _, by simp [maxLen], .inl rfl⟩
  · refine ⟨some ⟨g, 0, none⟩, cap, rfl, .inr ⟨g, 0, rfl, fun j m e => ?_⟩, (fun h => by cases h), hnc, hcm, .inr ⟨g, rfl, lt_of_block hg⟩⟩
    have hj := (List.getElem?_eq_some_iff.1 e).1
    have k : ∀ i v, i < 7 → (nvs m)[i]? = some v → w.cell? ⟨g, 0 + j * 7 + i, none⟩ = some v := fun i v hi e2 => by
      have h3 := (flatN_get ns e hi).trans e2
      rw [← htk, List.getElem?_take] at h3
      split at h3
      · rw [Nat.zero_add]
        simp [World.cell?, hg]
        simpa using h3
      · cases h3
    exact ⟨k 0 _ (by omega) rfl, k 1 _ (by omega) rfl, k 2 _ (by omega) rfl, k 3 _ (by omega) rfl, k 4 _ (by omega) rfl, k 5 _ (by omega) rfl, k 6 _ (by omega) rfl⟩
/-- a row of one's own stays, where its block stays -/
theorem row_at {w w' : World} {base base' n : Nat} {e : TypeId} {size : Nat} {v : Value} {xs : List Value} (h : w.ownsRow base e size v n xs) (hb : ∀ k, v.ownBlock = some k → w'.heap[k]? = w.heap[k]? ∧ base' ≤ k) : w'.ownsRow base' e size v n xs := by
  obtain ⟨h1, h2⟩ := h
  refine ⟨h1, ?_⟩
  rcases h2 with h2 | ⟨q, cap, cur, rfl, hq, hg, hr⟩
  · exact .inl h2
  · obtain ⟨h3, h4⟩ := hb q rfl
    exact .inr ⟨q, cap, cur, rfl, h4, h3.trans hg, hr⟩
theorem row_lt {w : World} {base n : Nat} {e : TypeId} {size : Nat} {v : Value} {xs : List Value} (h : w.ownsRow base e size v n xs) {k : Nat} (hk : v.ownBlock = some k) : base ≤ k ∧ k < w.heap.size := h.lt k hk
/-- of which type a row's block is -/
theorem row_type {w : World} {base n : Nat} {e : TypeId} {size : Nat} {v : Value} {xs : List Value} (h : w.ownsRow base e size v n xs) {k : Nat} (hk : v.ownBlock = some k) : ∃ cur, w.heap[k]? = some (.cells cur e (0, 0)) := by
  obtain ⟨h1, h2⟩ := h
  rcases h2 with ⟨rfl, h2⟩ | ⟨q, cap, cur, rfl, hq, hg, hr⟩
  · cases hk
  · simp [Value.ownBlock] at hk
    subst hk
    exact ⟨cur, hg⟩
theorem types_ne {w : World} {k k' : Nat} {c c' : Array Value} {t t' : TypeId} (h : w.heap[k]? = some (.cells c t (0, 0))) (h' : w.heap[k']? = some (.cells c' t' (0, 0))) (ht : t ≠ t') : k ≠ k' := by
  intro e
  subst e
  rw [h] at h'
  injection h' with h'
  injection h' with _ h'
  exact ht h'

/-- what is put behind a row lies in its block, or in a new one -/
theorem append_block {P : Program} {w : World} {base : Nat} {t ty e : TypeId} {i : TypeInfo} {z : Value} {size bytes : Nat} (ht : P.underlying t = some (.slice e)) (hi : P.info? e = some i) (hz : i.zero = some z)
    (hsize : i.size = size) (hby : i.bytes = bytes) {v : Value} {n : Nat} {xs : List Value} (hown : w.ownsRow base e size v n xs) {a : Addr} {m c : Nat} {news : List Value} (hl : news.length = m * size) (hnews : ∀ j u, news[j]? = some u → w.cell? (a.add j) = some u)
    (h1 : ∀ u ∈ news, u.oneCell' = true) (h63 : n + m ≤ maxLen) (hbytes : (n + m) * bytes ≤ 140737488355328) (hm0 : 0 < m) {v' : Value} {w' : World} (hr : (Builtin.append_ #[t, t] ty #[v, .slice (some a) m c]).run P w = .ok v' w') :
    ∀ k, v'.ownBlock = some k → v.ownBlock = some k ∨ k = w.heap.size := by
  subst hsize
  subst hby
  have hmx : maxLen = 9223372036854775807 := rfl
  intro k hk
  rcases hown.2 with ⟨rfl, rfl⟩ | ⟨g, cap, cur, rfl, hbg, hg, hnc, hcm, hcs, htake⟩
  · rw [Nat.zero_add] at h63 hbytes
    rw [run_append_nil (P := P) w t ty e i z ht hi hz a m c news hl hnews hm0 (by omega) (by omega)] at hr
    cases hr
    simp [Value.ownBlock] at hk
    exact .inr hk.symm
  · by_cases hroom : n + m ≤ cap
    · rw [run_append_room (P := P) w t ty e i ht hi g n cap cur hg a m c news hl hnews h1 hroom (by rw [hl, hcs, ← Nat.add_mul]; exact Nat.mul_le_mul_right _ hroom)] at hr
      cases hr
      exact .inl hk
    · rw [run_append_grow (P := P) w t ty e i z ht hi hz ⟨g, 0, none⟩ n cap xs hown.1 (hown.cells (g := g) rfl) a m c news hl hnews (by omega) (by omega) (growslice_fits (by omega) hbytes)] at hr
      cases hr
      simp [Value.ownBlock] at hk
      exact .inr hk.symm
end Go.Proofs.Ytjobfpnlpfjoeaa
