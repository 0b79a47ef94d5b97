/-
  What stack.All and stack.Leaves do with each node that a walk enters. No condition but those typed at each theorem.
-/
import Derived.Test.YtjobfpnlpfjoeaaWalk
namespace Go.Proofs.Ytjobfpnlpfjoeaa
open Go.RowKit

/-- a box that holds v -/
def Bx (t : TypeId) (X : World) (B : Nat) (v : Value) : Prop := X.heap[B]? = some (.cells #[v] t (0, 0))
section
variable {t : TypeId} {X X' : World} {B : Nat} {v : Value}
theorem Bx.lt (h : Bx t X B v) : B < X.heap.size := lt_of_block h
theorem Bx.cell (h : Bx t X B v) : X.cell? ⟨B, 0, none⟩ = some v := by
  unfold Bx at h
  simp [World.cell?, h]
theorem Bx.free (h : Bx t X B v) : X.frozen? ⟨B, 0, none⟩ = false := by
  unfold Bx at h
  simp [World.frozen?, h]
theorem Bx.off {S : List Nat} (h : Bx t X B v) (o : Off S X X') (hS : B ∉ S) : Bx t X' B v := (o.block B h.lt hS).trans h
theorem Bx.keep (h : Bx t X B v) (o : Below X.heap.size X X') : Bx t X' B v := (o.block B h.lt).trans h
theorem Bx.far (h : Bx t X B v) {a : Addr} (ha : a.block ≠ B) (u : Value) : Bx t (X.setCell a u) B v := (Below.heap_setCell _ _ _ _ (Ne.symm ha)).trans h
theorem Bx.set (h : Bx t X B v) (u : Value) : Bx t (X.setCell ⟨B, 0, none⟩ u) B u := heap_setCell_same _ _ _ _ _ _ h
theorem Bx.new (X : World) (v : Value) (t : TypeId) : Bx t (X.alloc (.cells #[v] t)) X.heap.size v := heap_alloc_new X _
theorem Bx.row {base n : Nat} {u : Value} {xs : List Value} (h : Bx t X B v) (hr : X.ownsRow base 3 1 u n xs) (ht : t ≠ 3) : u.ownBlock ≠ some B := fun e => by
  obtain ⟨cur, h'⟩ := row_type hr e
  exact types_ne h h' ht rfl
end

/-- the row v holds these numbers, in a block of its own -/
def OI (X : World) (v : Value) (xs : List Int) : Prop := X.ownsRow 0 3 1 v xs.length (xs.map (Value.int .i64))
theorem OI.lt {X : World} {v : Value} {xs : List Int} (h : OI X v xs) : ∀ k, v.ownBlock = some k → k < X.heap.size := fun k hk => (World.ownsRow.lt h k hk).2
theorem OI.off {X X' : World} {v : Value} {xs : List Int} {S : List Nat} (h : OI X v xs) (g : Off S X X') (hS : ∀ k, v.ownBlock = some k → k ∉ S) : OI X' v xs := row_at h fun k hk => ⟨g.block k (h.lt k hk) (hS k hk), Nat.zero_le _⟩
theorem OI.snoc {X : World} {v : Value} {xs : List Int} {x : Int} (h : X.ownsRow 0 3 1 v (xs.length + 1) (xs.map (Value.int .i64) ++ [.int .i64 x])) : OI X v (xs ++ [x]) := by
  unfold OI
  rw [show (xs ++ [x]).length = xs.length + 1 by simp, List.map_append]
  exact h

/-- what the closure of All keeps: B the box of its list -/
def IA (w : World) (B : Nat) (X : World) (S : List Nat) (E : List Int) : Prop := ∃ v, Bx 25 X B v ∧ OI X v E ∧ w.heap.size ≤ X.heap.size ∧ (∀ k, v.ownBlock = some k → w.heap.size ≤ k) ∧ S = B :: v.ownBlock.toList

set_option maxRecDepth 100000 in
set_option maxHeartbeats 1600000 in
theorem allc_any (X : World) (B : Nat) (v : Value) (E : List Int) (i : Int) (h : Bx 25 X B v) (ho : OI X v E) (hE : E.length ≤ 8192) :
    Calls Try.prog 26 #[.int .i64 i, .pointer (some ⟨B, 0, none⟩)] X fun e X' => e = .returned (.bool true) ∧ ∃ g cap, Bx 25 X' B (.slice (some ⟨g, 0, none⟩) (E.length + 1) cap) ∧ OI X' (.slice (some ⟨g, 0, none⟩) (E.length + 1) cap) (E ++ [i]) ∧ Off (B :: v.ownBlock.toList) X X' ∧ (v.ownBlock = some g ∨ X.heap.size ≤ g) := by
  have hne := h.row ho (by decide)
  have HB := Lib.hid h
  have HO := Lib.hid ho
  have HN := Lib.hid hne
  have k0 := h.cell
  clear h ho hne
  go_enter Try.func26, Try.ntmps26
  go_wp2_with (at_builtin; refine wpList_more Try.info3 rfl (by decide) (by decide) Try.underlying25 _ rfl (.tmp 4) (.tmp 6) rfl v E.length (E.map (Value.int .i64)) rfl (World.ownsRow.alloc HO.out _) ⟨X.heap.size, 0, none⟩ 1 1 [.int .i64 i] rfl rfl (one_at _ _ _) (by simp [Value.oneCell']) (by omega) (by decide) ?_; intro g1 c1 w1 h1 h2 h3; have H1 := Lib.hid h1; have H2 := Lib.hid h2; have H3 := Lib.hid h3; have HO1 := Lib.hid (((Off.refl v.ownBlock.toList X).all (.cells #[.int .i64 i] 3)).grow h2 (fun k e => .inl (by simp [e]))); clear h1 h2 h3; have HB1 := Lib.hid (HB.out.off HO1.out (by simpa [Option.mem_toList] using HN.out)); have k1 := HB1.out.cell; have k2 := HB1.out.free)
  go_ret
  have hT := OI.snoc H1.out
  have h3 := H3.out
  refine ⟨rfl, g1, c1, HB1.out.set _, ?_, ?_, ?_⟩
  · refine hT.off ((Off.refl [B] w1).set ⟨B, 0, none⟩ _ (.inl (by simp))) (fun k e hk => ?_)
    have := HB1.out.row H1.out (by decide)
    simp at hk
    subst hk
    exact this e
  · refine ((HO1.out).mono (fun k _ hk => ?_)).set _ _ (.inl (by simp))
    simp [hk]
  · exact h3.imp id (fun h => by simp at h; omega)

theorem enters_all (w : World) (B : Nat) (p : Option Addr) (c : Nat) (N : List Nd) (hl : N.length ≤ 8192) : Enters p c N (fun _ => true) w [B] 26 #[.pointer (some ⟨B, 0, none⟩)] (IA w B) where
  keep := by
    rintro X X' S E T ⟨v, h1, h2, h4, h3, rfl⟩ hO hS
    exact ⟨v, h1.off hO (hS B (by simp)), h2.off hO (fun k e => hS k (by simp [e])), Nat.le_trans h4 hO.size, h3, rfl⟩
  lies := by
    rintro X S E ⟨v, h1, h2, h4, h3, rfl⟩ k hk
    simp at hk
    rcases hk with rfl | hk
    · exact ⟨h1.lt, .inl (by simp)⟩
    · exact ⟨h2.lt k hk, .inr (h3 k hk)⟩
  call := by
    rintro X S E i n ⟨v, h1, h2, h4, h3, rfl⟩ hn hE _
    refine (allc_any X B v E i h1 h2 (by omega)).mono ?_
    rintro e X' ⟨rfl, g, cap, k1, k2, k3, k4⟩
    have k2' : OI X' (.slice (some ⟨g, 0, none⟩) (E.length + 1) cap) (E ++ [(i : Int)]) := k2
    refine ⟨rfl, _, ⟨_, k1, k2', Nat.le_trans h4 k3.size, ?_, rfl⟩, k3, ?_⟩
    · intro k e
      simp [Value.ownBlock] at e
      subst e
      exact k4.elim (h3 g) (Nat.le_trans h4)
    · intro k hk
      simp [Value.ownBlock] at hk
      rcases hk with rfl | rfl
      · exact .inl (by simp)
      · exact k4.imp (fun e => by simp [e]) id

/-- what the closure of Leaves keeps -/
structure IL (p : Option Addr) (c : Nat) (N : List Nd) (a b : Int) (w : World) (C LB A1 A2 T : Nat) (X : World) (S : List Nat) (E : List Int) : Prop where
  row : ∃ v, Bx 25 X T v ∧ OI X v (tls N a b E) ∧ (∀ k, v.ownBlock = some k → w.heap.size ≤ k) ∧ S = [C, LB, A1, A2, T] ++ v.ownBlock.toList
  cnt : Bx 3 X C (.int .i64 E.length)
  lst : Bx 22 X LB (.slice p N.length c)
  fr : Bx 3 X A1 (.int .i64 a)
  upTo : Bx 3 X A2 (.int .i64 b)
  apart : C ≠ A1 ∧ C ≠ A2
  low : C < w.heap.size ∧ LB < w.heap.size ∧ A1 < w.heap.size ∧ A2 < w.heap.size ∧ T < w.heap.size
  size : w.heap.size ≤ X.heap.size
theorem Bx.ne {t t' : TypeId} {X : World} {B B' : Nat} {v v' : Value} (h : Bx t X B v) (h' : Bx t' X B' v') (ht : t ≠ t') : B ≠ B' := types_ne h h' ht
section
variable {p : Option Addr} {c : Nat} {N : List Nd} {a b : Int} {w : World} {C LB A1 A2 T : Nat} {X Y : World} {S : List Nat} {E : List Int} {i : Nat} {n : Nd}
theorem IL.keep {U : List Nat} (h : IL p c N a b w C LB A1 A2 T X S E) (hO : Off U X Y) (hS : ∀ k ∈ S, k ∉ U) : IL p c N a b w C LB A1 A2 T Y S E := by
  obtain ⟨⟨v, h1, h2, h3, rfl⟩, k1, k2, k3, k4, k5, k6, k7⟩ := h
  exact ⟨⟨v, h1.off hO (hS T (by simp)), h2.off hO (fun k e => hS k (by simp [e])), h3, rfl⟩, k1.off hO (hS C (by simp)), k2.off hO (hS LB (by simp)), k3.off hO (hS A1 (by simp)), k4.off hO (hS A2 (by simp)), k5, k6, Nat.le_trans k7 hO.size⟩
theorem IL.plain (h : IL p c N a b w C LB A1 A2 T X S E) (e : N[i]? = some n) (ht : tln a b n = []) (hO : Off [C] X Y) (hC : Bx 3 Y C (.int .i64 ((E.length : Int) + 1))) : IL p c N a b w C LB A1 A2 T Y S (E ++ [(i : Int)]) := by
  obtain ⟨⟨v, h1, h2, h3, rfl⟩, k1, k2, k3, k4, k5, k6, k7⟩ := h
  refine ⟨⟨v, h1.off hO ?_, ?_, h3, rfl⟩, ?_, k2.off hO ?_, k3.off hO ?_, k4.off hO ?_, k5, k6, Nat.le_trans k7 hO.size⟩
  · have := h1.ne k1 (by decide)
    simpa using this
  · rw [tls_snoc (i := (i : Int)) (by simpa using e), ht, List.append_nil]
    refine h2.off hO (fun k e => ?_)
    have := h3 k e
    simp
    omega
  · simpa using hC
  · have := k2.ne k1 (by decide)
    simpa using this
  · simpa using Ne.symm k5.1
  · simpa using Ne.symm k5.2
theorem IL.more (h : IL p c N a b w C LB A1 A2 T X S E) (e : N[i]? = some n) (f : Int) (ht : tln a b n = [f]) {v v' : Value} (hv : Bx 25 X T v) (hO : Off (C :: T :: v.ownBlock.toList) X Y) (hC : Bx 3 Y C (.int .i64 ((E.length : Int) + 1))) (hT : Bx 25 Y T v')
    (hr : OI Y v' (tls N a b E ++ [f])) (hb : ∀ k, v'.ownBlock = some k → v.ownBlock = some k ∨ X.heap.size ≤ k) : ∃ S', IL p c N a b w C LB A1 A2 T Y S' (E ++ [(i : Int)]) ∧ Off S X Y ∧ ∀ k ∈ S', k ∈ S ∨ X.heap.size ≤ k := by
  obtain ⟨⟨v0, h1, h2, h3, rfl⟩, k1, k2, k3, k4, k5, k6, k7⟩ := h
  obtain rfl : v = v0 := by
    have e1 := hv.cell
    rw [h1.cell] at e1
    injection e1 with e1
    exact e1.symm
  refine ⟨_, ⟨⟨v', hT, ?_, ?_, rfl⟩, ?_, k2.off hO ?_, k3.off hO ?_, k4.off hO ?_, k5, k6, Nat.le_trans k7 hO.size⟩, hO.mono ?_, ?_⟩
  · rw [tls_snoc (i := (i : Int)) (by simpa using e), ht]
    exact hr
  · intro k e
    rcases hb k e with h | h
    · exact h3 k h
    · omega
  · simpa using hC
  · have h4 := k2.ne k1 (by decide)
    have h5 := k2.ne h1 (by decide)
    intro hk
    simp at hk
    rcases hk with hk | hk | hk
    · exact h4 hk
    · exact h5 hk
    · have := h3 _ hk
      omega
  · have h5 := k3.ne h1 (by decide)
    intro hk
    simp at hk
    rcases hk with hk | hk | hk
    · exact k5.1 hk.symm
    · exact h5 hk
    · have := h3 _ hk
      omega
  · have h5 := k4.ne h1 (by decide)
    intro hk
    simp at hk
    rcases hk with hk | hk | hk
    · exact k5.2 hk.symm
    · exact h5 hk
    · have := h3 _ hk
      omega
  · intro k _ hk
    simp at hk ⊢
    rcases hk with hk | hk | hk
    · exact .inl hk
    · exact .inr (.inr (.inr (.inr (.inl hk))))
    · exact .inr (.inr (.inr (.inr (.inr hk))))
  · intro k hk
    simp only [List.mem_append, Option.mem_toList] at hk ⊢
    rcases hk with hk | hk
    · exact .inl (.inl hk)
    · exact (hb k hk).imp .inr id
end

set_option maxRecDepth 100000 in
set_option maxHeartbeats 3200000 in
theorem leac_any (p : Option Addr) (c : Nat) (N : List Nd) (a b : Int) (w : World) (C LB A1 A2 T : Nat) (X : World) (S : List Nat) (E : List Int) (i : Nat) (n : Nd) (hI : IL p c N a b w C LB A1 A2 T X S E) (hn : N[i]? = some n) (hE : E.length < N.length) (hl : N.length ≤ 8192) (hx : NdS X p N) (hxC : ∀ bb off, p = some ⟨bb, off, none⟩ → bb ≠ C) :
    Calls Try.prog 29 #[.int .i64 i, .pointer (some ⟨C, 0, none⟩), .pointer (some ⟨LB, 0, none⟩), .pointer (some ⟨A1, 0, none⟩), .pointer (some ⟨A2, 0, none⟩), .pointer (some ⟨T, 0, none⟩)] X fun e X' => e = .returned (.bool (inR a b n)) ∧ ∃ S', IL p c N a b w C LB A1 A2 T X' S' (E ++ [(i : Int)]) ∧ Off S X X' ∧ ∀ k ∈ S', k ∈ S ∨ X.heap.size ≤ k := by
  obtain ⟨v, hv, ho, hown, hS⟩ := hI.row
  obtain ⟨e, he⟩ : ∃ e, e = E.length := ⟨_, rfl⟩
  obtain ⟨Y0, hY0⟩ : ∃ Y0, Y0 = X.setCell ⟨C, 0, none⟩ (.int .i64 ((e : Int) + 1)) := ⟨_, rfl⟩
  have k1 := hI.cnt.cell
  have k2 := hI.cnt.free
  rw [← he] at k1 hE
  have HI := Lib.hid hI
  have hil := (List.getElem?_eq_some_iff.1 hn).1
  have hilz : (i : Int) < N.length := by omega
  have hO0 : Off [C] X Y0 := by rw [hY0]; exact (Off.refl _ X).set _ _ (.inl (by simp))
  have k3 := (hI.lst.off hO0 (by have := hI.lst.ne hI.cnt (by decide); simpa using this)).cell
  obtain ⟨bb, off, rfl, h1⟩ := hx.at hn
  have h2 : N1 Y0 bb (off + i * 7) n := h1.off hO0 (by simpa using hxC bb off rfl)
  have n0 := h2.c0
  have n1 := h2.c1
  have n2 := h2.c2
  have n3 := h2.c3
  have n4 := h2.c4
  have n5 := h2.c5
  have n6 := h2.c6
  obtain ⟨Y, hY⟩ : ∃ Y, Y = Y0.alloc (.cells (nvs n).toArray 36) := ⟨_, rfl⟩
  have hsz : Y0.heap.size = X.heap.size := by rw [hY0]; simp
  have h3 := N1.new Y0 n 36
  rw [← hY, hsz] at h3
  have hO1 : Off [C] X Y := by rw [hY]; exact hO0.all _
  have m0 := h3.c0
  have m3 := h3.c3
  have m4 := h3.c4
  have hA1 := (hI.fr.off hO1 (by simpa using Ne.symm hI.apart.1)).cell
  have hA2 := (hI.upTo.off hO1 (by simpa using Ne.symm hI.apart.2)).cell
  have hvT : Bx 25 Y T v := hv.off hO1 (by have := hv.ne hI.cnt (by decide); simpa using this)
  have hvc := hvT.cell
  have hoY : OI Y v (tls N a b E) := ho.off hO1 (fun k e => by have := hown k e; have := hI.low.1; simp; omega)
  have hCY : Bx 3 Y C (.int .i64 ((e : Int) + 1)) := by
    have h4 : Bx 3 Y0 C (.int .i64 ((e : Int) + 1)) := by rw [hY0]; exact hI.cnt.set _
    rw [hY]
    exact h4.off ((Off.refl [] Y0).all _) (by simp)
  have HT := Lib.hid hvT
  have HV := Lib.hid hv
  have HOY := Lib.hid hoY
  have HCY := Lib.hid hCY
  have HO1 := Lib.hid hO1
  have HEE := Lib.hid he
  have HN := Lib.hid hn
  have HSS := Lib.hid hS
  have hEl2 : (tls N a b E).length ≤ 8192 := by have := tls_len N a b E; omega
  have HEL := Lib.hid hEl2
  have HDL := Lib.hid (Nat.le_of_eq rfl : N.length ≤ N.length)
  clear h1 h2 h3 hI he hv ho hown hS hvT hoY hCY hx hxC hO0 hO1 hEl2 hn
  generalize N.length = d at *
  unfold nvs at hY
  obtain ⟨k, L, R, f, t, at', q⟩ := n
  simp only [Nat.zero_add] at m0 m3 m4
  rw [hY0] at hY k3 n0 n1 n2 n3 n4 n5 n6
  have HY := Lib.hid hY
  clear hY hY0 hsz Y0
  go_enter Try.func29, Try.ntmps29
  go_upto_region 3 with fail
  rw [← HY.out]
  clear HY k1 k2 k3 n0 n1 n2 n3 n4 n5 n6
  by_cases h1 : t ≤ a
  · go_wp2
    go_ret
    refine ⟨retb (by simp [inR, h1]), S, HI.out.plain HN.out (by simp [tln, inR, nk, h1]) HO1.out (by rw [← HEE.out]; exact HCY.out), HO1.out.mono (fun k _ hk => by rw [HSS.out]; simp at hk; simp [hk]), fun k hk => .inl hk⟩
  · by_cases h2 : b ≤ f
    · go_wp2
      go_ret
      refine ⟨retb (by simp [inR, h2]), S, HI.out.plain HN.out (by simp [tln, inR, nk, h2]) HO1.out (by rw [← HEE.out]; exact HCY.out), HO1.out.mono (fun k _ hk => by rw [HSS.out]; simp at hk; simp [hk]), fun k hk => .inl hk⟩
    · by_cases h3 : k = 1
      · subst h3
        go_wp2_with (at_builtin; refine wpList_more Try.info3 rfl (by decide) (by decide) Try.underlying25 _ rfl (.tmp 28) (.tmp 31) rfl v (tls N a b E).length ((tls N a b E).map (Value.int .i64)) rfl (World.ownsRow.alloc HOY.out _) ⟨Y.heap.size, 0, none⟩ 1 1 [.int .i64 f] rfl rfl (one_at _ _ _) (by simp [Value.oneCell']) (by have := HEL.out; omega) (by decide) ?_; intro g1 c1 w1 h1 h2 h3; have H1 := Lib.hid h1; have H2 := Lib.hid h2; have H3 := Lib.hid h3; have HO2 := Lib.hid (((Off.refl v.ownBlock.toList Y).all (.cells #[.int .i64 f] 3)).grow h2 (fun k e => .inl (by simp [e]))); clear h1 h2 h3; have HB1 := Lib.hid (HT.out.off HO2.out (by have := HT.out.row HOY.out (by decide); simpa [Option.mem_toList] using this)); have j1 := HB1.out.cell; have j2 := HB1.out.free)
        go_ret
        refine ⟨retb (by simp [inR, h1, h2]), ?_⟩
        have hTr := HB1.out.row H1.out (by decide)
        have hO3 : Off (C :: T :: v.ownBlock.toList) X (w1.setCell ⟨T, 0, none⟩ (.slice (some ⟨g1, 0, none⟩) ((tls N a b E).length + 1) c1)) :=
          ((HO1.out.mono (fun k _ hk => by simp at hk; simp [hk])).trans (HO2.out.mono (fun k _ hk => by simp [hk]))).set _ _ (.inl (by simp))
        have hCT : C ≠ T := by have := HCY.out.ne HT.out (by decide); exact this
        have hCv : C ∉ v.ownBlock.toList := fun hk => by
          obtain ⟨v0, q1, q2, q3, -⟩ := HI.out.row
          obtain rfl : v = v0 := by
            have e1 := HV.out.cell
            rw [q1.cell] at e1
            injection e1 with e1
            exact e1.symm
          have := q3 C (by simpa [Option.mem_toList] using hk)
          have := HI.out.low.1
          omega
        refine HI.out.more HN.out f (by simp [tln, inR, nk, h1, h2]) HV.out hO3 ?_ (HB1.out.set _) ?_ ?_
        · rw [← HEE.out]
          exact (HCY.out.off HO2.out hCv).far (by simpa using Ne.symm hCT) _
        · refine (OI.snoc H1.out).off ((Off.refl [T] w1).set ⟨T, 0, none⟩ _ (.inl (by simp))) (fun k e hk => ?_)
          simp at hk
          subst hk
          exact hTr e
        · intro k e
          simp [Value.ownBlock] at e
          subst e
          refine H3.out.imp id (fun h => ?_)
          have := HO1.out.size
          simp at h
          omega
      · go_wp2
        go_ret
        refine ⟨retb (by simp [inR, h1, h2]), S, HI.out.plain HN.out (by simp [tln, nk, h3]) HO1.out (by rw [← HEE.out]; exact HCY.out), HO1.out.mono (fun k _ hk => by rw [HSS.out]; simp at hk; simp [hk]), fun k hk => .inl hk⟩

theorem enters_lea (w : World) (C LB A1 A2 T : Nat) (p : Option Addr) (c : Nat) (N : List Nd) (a b : Int) (hl : N.length ≤ 8192) (hxC : ∀ bb off, p = some ⟨bb, off, none⟩ → bb ≠ C) :
    Enters p c N (inR a b) w [C, LB, A1, A2, T] 29 #[.pointer (some ⟨C, 0, none⟩), .pointer (some ⟨LB, 0, none⟩), .pointer (some ⟨A1, 0, none⟩), .pointer (some ⟨A2, 0, none⟩), .pointer (some ⟨T, 0, none⟩)] (IL p c N a b w C LB A1 A2 T) where
  keep := fun X X' S E U h hO hS => h.keep hO hS
  lies := by
    intro X S E h k hk
    obtain ⟨v, h1, h2, h3, rfl⟩ := h.row
    simp at hk
    rcases hk with rfl | rfl | rfl | rfl | rfl | hk
    · exact ⟨h.cnt.lt, .inl (by simp)⟩
    · exact ⟨h.lst.lt, .inl (by simp)⟩
    · exact ⟨h.fr.lt, .inl (by simp)⟩
    · exact ⟨h.upTo.lt, .inl (by simp)⟩
    · exact ⟨h1.lt, .inl (by simp)⟩
    · exact ⟨h2.lt k hk, .inr (h3 k hk)⟩
  call := fun X S E i n h hn hE hx => leac_any p c N a b w C LB A1 A2 T X S E i n h hn hE hl hx hxC

/-- what keeps a walk from beginning -/
def chk (N : List Nd) (r : Int) : Int := if rtB N then (if r < 0 ∨ (N.length : Int) ≤ r then 2 else 0) else 50
end Go.Proofs.Ytjobfpnlpfjoeaa
