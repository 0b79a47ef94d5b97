/-
  In the midst of a tree that is made: points put in the row, nodes laid (grown). No condition but those typed at each theorem.
-/
import Derived.Test.YtldmajifkmcdcaaGreatMVb
import Derived.Test.YtldmajifkmcdcaaGreatMBd
import Derived.Test.YtldmajifkmcdcaaGreatMN
import Derived.Deep.RegionLaw
namespace Go.Proofs.YtldmajifkmcdcaaGreat.Lv
open Go.RowKit Go.Sort Bd
open Hp (upG upG_at upG_ne)
theorem info_kl : (Tryz.prog.info? 79).map (fun i => (i.zero, i.size, i.bytes)) = some (some (.agg (kl (0, 0, 0, 0, 0, 0, 0) (.int .i64 0)).toArray), 8, 64) := by kernel_rfl
theorem under_kl : Tryz.prog.underlying 66 = some (.slice 79) := by kernel_rfl
theorem kl_one (n : Nd) (b : Int) : ∀ u ∈ kl n (.int .i64 b), u.oneCell' = true := by
  intro u hu
  simp [kl, nvs] at hu
  rcases hu with rfl | rfl | rfl | rfl | rfl | rfl | rfl | rfl <;> rfl
/-- the cells of a tree -/
@[reducible] def lcs (a b c d e f g : Value) : List Value := [a, b, c, d, e, f, g]
/-- in the midst of the points: i are in the row, j have their Ys -/
structure AdM (w3 wr : World) (T n : Nat) (RX : List S3) (i j : Nat) (va vn ys : Value) : Prop where
  o : OrR wr kx (RX.take i) va vn
  y : wr.ownsRow 0 2 1 ys j (((RX.take j).map ky).map (Value.int .i64))
  ev : EV 68 wr T (lcs (.pointer (some ⟨T, 0, none⟩)) va vn ys (.pointer none) (.slice none 0 0) (.int .i64 n))
  far : (∀ x, va.ownBlock = some x → w3.heap.size ≤ x) ∧ (∀ x, vn.ownBlock = some x → w3.heap.size ≤ x) ∧ ∀ x, ys.ownBlock = some x → w3.heap.size ≤ x
  ne : ∀ k, va.ownBlock = some k → ys.ownBlock ≠ some k
  off : Off [T] w3 wr
section
variable {w3 wr w' : World} {T n i j : Nat} {RX : List S3} {va vn ys : Value}
theorem AdM.keep (h : AdM w3 wr T n RX i j va vn ys) (g : Below wr.heap.size wr w') : AdM w3 w' T n RX i j va vn ys :=
  ⟨h.o.keep g, row_keep h.y g, h.ev.keep g h.ev.lt, h.far, h.ne, h.off.bel g⟩
theorem AdM.tva (h : AdM w3 wr T n RX i j va vn ys) : va.ownBlock ≠ some T := fun c => by
  obtain ⟨x, e⟩ := row_type h.o.ra c
  exact types_ne e h.ev (by decide) rfl
theorem AdM.tvn (h : AdM w3 wr T n RX i j va vn ys) : vn.ownBlock ≠ some T := fun c => by
  obtain ⟨x, e⟩ := row_type h.o.rn c
  exact types_ne e h.ev (by decide) rfl
theorem AdM.tys (h : AdM w3 wr T n RX i j va vn ys) : ys.ownBlock ≠ some T := fun c => by
  obtain ⟨x, e⟩ := row_type h.y c
  exact types_ne e h.ev (by decide) rfl
/-- a point's block is none of these -/
theorem AdM.pt (h : AdM w3 wr T n RX i j va vn ys) {b : Nat} {L : List Value} (hE : EV 34 wr b L) : b ∉ T :: (va.ownBlock.toList ++ vn.ownBlock.toList) := fun hm => by
  simp only [List.mem_cons, List.mem_append, Option.mem_toList] at hm
  rcases hm with rfl | hm | hm
  · exact types_ne hE h.ev (by decide) rfl
  · obtain ⟨x, e⟩ := row_type h.o.ra hm
    exact types_ne hE e (by decide) rfl
  · obtain ⟨x, e⟩ := row_type h.o.rn hm
    exact types_ne hE e (by decide) rfl
/-- a point is put in the row -/
theorem AdM.add (h : AdM w3 wr T n RX i i va vn ys) {s : S3} (hs : RX[i]? = some s) (hi : i ≤ 8192) :
    Calls Tryz.prog 50 #[.pointer (some ⟨T, 1, none⟩), .int .i64 s.1, .int .u32 s.2.2] wr fun e w' => e = .returned (.tuple #[]) ∧ (∃ va' vn', AdM w3 w' T n RX (i + 1) i va' vn' ys) ∧ Off (T :: (va.ownBlock.toList ++ vn.ownBlock.toList)) wr w' := by
  refine (oadd_any (kf := kx) (o := 1) h.ev rfl rfl h.o h.tva h.tvn (by rw [List.length_take]; omega) s).mono ?_
  rintro e w' ⟨rfl, va', vn', h1, h2, h3, h4, h5⟩
  have hfar : ∀ k, ys.ownBlock = some k → k ∉ T :: (va.ownBlock.toList ++ vn.ownBlock.toList) := fun k hk hm => by
    simp only [List.mem_cons, List.mem_append, Option.mem_toList] at hm
    rcases hm with rfl | hm | hm
    · exact h.tys hk
    · exact h.ne k hm hk
    · obtain ⟨x, e⟩ := row_type h.y hk
      obtain ⟨x', e'⟩ := row_type h.o.rn hm
      exact types_ne e e' (by decide) rfl
  refine ⟨rfl, ⟨va', vn', ?_, row_offS h.y h3 hfar, h2, ⟨fun x hx => ?_, fun x hx => ?_, h.far.2.2⟩, fun k hk hk2 => ?_, h.off.via h3 (fun k hk hm => ?_)⟩, h3⟩
  · rw [List.take_add_one, hs]
    exact h1
  · exact (h4 x hx).elim (h.far.1 x) (fun g => Nat.le_trans h.off.size g)
  · exact (h5 x hx).elim (h.far.2.1 x) (fun g => Nat.le_trans h.off.size g)
  · rcases h4 k hk with g | g
    · exact h.ne k g hk2
    · have := (row_lt h.y hk2).2
      omega
  · simp only [List.mem_cons, List.mem_append, Option.mem_toList] at hm
    rcases hm with rfl | hm | hm
    · simp
    · have := h.far.1 k hm; omega
    · have := h.far.2.1 k hm; omega
/-- its Y behind the others -/
theorem AdM.app (h : AdM w3 wr T n RX (i + 1) i va vn ys) {s : S3} (hs : RX[i]? = some s) {w6 : World} {g cap : Nat} {o : Obj} (r1 : w6.ownsRow 0 2 1 (.slice (some ⟨g, 0, none⟩) (i + 1) cap) (i + 1) (((RX.take i).map ky).map (Value.int .i64) ++ [.int .i64 s.2.1])) (r2 : (wr.alloc o).grownBy w6 ys.ownBlock) (r3 : ys.ownBlock = some g ∨ g = (wr.alloc o).heap.size) :
    AdM w3 (w6.setCell ⟨T, 3, none⟩ (.slice (some ⟨g, 0, none⟩) (i + 1) cap)) T n RX (i + 1) (i + 1) va vn (.slice (some ⟨g, 0, none⟩) (i + 1) cap) := by
  have hoff : Off ys.ownBlock.toList wr w6 := ((Off.refl _ wr).all _).grow r2 (fun k e => .inl (by simp [e]))
  have hE6 := EV.grown (h.ev.all o) r2 (fun e => h.tys e.symm)
  have hset := (Off.refl [T] w6).set ⟨T, 3, none⟩ (.slice (some ⟨g, 0, none⟩) (i + 1) cap) (.inl (by simp))
  have hgl : w3.heap.size ≤ g := r3.elim (fun e => h.far.2.2 g e) (fun e => by have := h.off.size; simp at e; omega)
  have hva : ∀ k, va.ownBlock = some k → k ∉ ys.ownBlock.toList := fun k hk hm => h.ne k hk (by simpa using hm)
  have hvn : ∀ k, vn.ownBlock = some k → k ∉ ys.ownBlock.toList := fun k hk hm => by
    obtain ⟨x, e⟩ := row_type h.y (by simpa using hm)
    obtain ⟨x', e'⟩ := row_type h.o.rn hk
    exact types_ne e e' (by decide) rfl
  refine ⟨(h.o.off hoff hva hvn).off hset (fun k hk hm => h.tva (by rw [hk, List.mem_singleton.1 hm])) (fun k hk hm => h.tvn (by rw [hk, List.mem_singleton.1 hm])), ?_, hE6.set 3 _, ⟨h.far.1, h.far.2.1, fun x hx => ?_⟩, fun k hk hk2 => ?_, (h.off.via hoff (fun x hx hm => by have := h.far.2.2 x (by simpa using hm); omega)).trans hset⟩
  · rw [List.take_add_one, hs, List.map_append, List.map_append]
    refine row_offS r1 hset (fun x hx hm => ?_)
    obtain ⟨c1, e1⟩ := row_type r1 hx
    exact types_ne e1 hE6 (by decide) (List.mem_singleton.1 hm)
  · simp [Value.ownBlock] at hx
    subst hx
    exact hgl
  · simp [Value.ownBlock] at hk2
    subst hk2
    rcases r3 with e | e
    · exact h.ne _ hk e
    · have := (row_lt h.o.ra hk).2
      simp at e
      omega
end
/-- in the midst of the nodes: the first ones are laid and have chosen -/
structure KsM (w7 wr : World) (T F : Nat) (va vn ys : Value) (n : Nat) (RX : List S3) (i : Nat) (kv : Value) : Prop where
  rk : ∃ xs g, wr.ownsRow w7.heap.size 79 8 kv i xs ∧ (∀ k nd, k < i → (ndN RX.length)[k]? = some nd → KlAt xs k (kl nd (bv RX (g k)))) ∧ (∀ k s, k < i → g k = some s → s ∈ RX) ∧ LwI RX RX g i
  ev : EV 68 wr T (lcs (.pointer (some ⟨T, 0, none⟩)) va vn ys (.pointer (some ⟨F, 0, none⟩)) kv (.int .i64 n))
  off : Off [T] w7 wr
/-- one more is laid, but has not chosen -/
structure KhM (w7 wr : World) (T F : Nat) (va vn ys : Value) (n : Nat) (RX : List S3) (i : Nat) (kv : Value) (s : S3) : Prop where
  rk : ∃ xs g, wr.ownsRow w7.heap.size 79 8 kv (i + 1) xs ∧ (∀ k nd, k < i + 1 → (ndN RX.length)[k]? = some nd → KlAt xs k (kl nd (bv RX (upG g i (some s) k)))) ∧ (∀ k s, k < i → g k = some s → s ∈ RX) ∧ LwI RX RX g i
  ev : EV 68 wr T (lcs (.pointer (some ⟨T, 0, none⟩)) va vn ys (.pointer (some ⟨F, 0, none⟩)) kv (.int .i64 n))
  off : Off [T] w7 wr
section
variable {w7 wr w' : World} {T F n i : Nat} {RX : List S3} {va vn ys kv : Value} {s : S3}
theorem KsM.keep (h : KsM w7 wr T F va vn ys n RX i kv) (g : Below wr.heap.size wr w') : KsM w7 w' T F va vn ys n RX i kv := by
  obtain ⟨xs, g0, h1, h2⟩ := h.rk
  exact ⟨⟨xs, g0, row_keep h1 g, h2⟩, h.ev.keep g h.ev.lt, h.off.bel g⟩
theorem KsM.tne (h : KsM w7 wr T F va vn ys n RX i kv) : some T ≠ kv.ownBlock := fun c => by
  obtain ⟨xs, g0, h1, h2⟩ := h.rk
  obtain ⟨x, e⟩ := row_type h1 c.symm
  exact types_ne h.ev e (by decide) rfl
theorem KsM.zero (hE : EV 68 w7 T (lcs (.pointer (some ⟨T, 0, none⟩)) va vn ys (.pointer (some ⟨F, 0, none⟩)) (.slice none 0 0) (.int .i64 n))) : KsM w7 w7 T F va vn ys n RX 0 (.slice none 0 0) :=
  ⟨⟨[], fun _ => none, World.ownsRow_nil .., fun _ _ hk => absurd hk (Nat.not_lt_zero _), fun _ _ hk => absurd hk (Nat.not_lt_zero _), fun _ hk => absurd hk (Nat.not_lt_zero _)⟩, hE, Off.refl _ _⟩
/-- a node behind the others -/
theorem kl_snoc {xs ys : List Value} {i : Nat} (hl : xs.length = i * 8) : (∀ k vs, k < i → vs.length ≤ 8 → KlAt xs k vs → KlAt (xs ++ ys) k vs) ∧ KlAt (xs ++ ys) i ys := by
  refine ⟨fun k vs hk hv h q v e => ?_, fun q v e => ?_⟩
  · have hq := (List.getElem?_eq_some_iff.1 e).1
    rw [List.getElem?_append_left (by omega)]
    exact h q v e
  · rw [List.getElem?_append_right (by omega), show i * 8 + q - xs.length = q by omega]
    exact e
theorem KsM.lay (h : KsM w7 wr T F va vn ys n RX i kv) {nd : Nd} (hnd : (ndN RX.length)[i]? = some nd) (hd : RX.Nodup) (hs : RX[lo RX.length i]? = some s) :
    ∃ xs, wr.ownsRow w7.heap.size 79 8 kv i xs ∧ ∀ (w6 : World) (g cap : Nat) (o : Obj), w6.ownsRow 0 79 8 (.slice (some ⟨g, 0, none⟩) (i + 1) cap) (i + 1) (xs ++ kl nd (.int .i64 (lo RX.length i : Nat))) → (wr.alloc o).grownBy w6 kv.ownBlock → (kv.ownBlock = some g ∨ g = (wr.alloc o).heap.size) →
      KhM w7 (w6.setCell ⟨T, 5, none⟩ (.slice (some ⟨g, 0, none⟩) (i + 1) cap)) T F va vn ys n RX i (.slice (some ⟨g, 0, none⟩) (i + 1) cap) s := by
  obtain ⟨xs, g0, h1, h2, h3, h4⟩ := h.rk
  refine ⟨xs, h1, fun w6 g cap o r1 r2 r3 => ?_⟩
  have hoff : Off kv.ownBlock.toList wr w6 := ((Off.refl _ wr).all _).grow r2 (fun k e => .inl (by simp [e]))
  have hE6 := EV.grown (h.ev.all o) r2 h.tne
  have hset := (Off.refl [T] w6).set ⟨T, 5, none⟩ (.slice (some ⟨g, 0, none⟩) (i + 1) cap) (.inl (by simp))
  have hgl : w7.heap.size ≤ g := r3.elim (fun e => (row_lt h1 e).1) (fun e => by have := h.off.size; simp at e; omega)
  have hx : xs.length = i * 8 := h1.1
  obtain ⟨q1, q2⟩ := kl_snoc (ys := kl nd (.int .i64 (lo RX.length i : Nat))) hx
  refine ⟨⟨xs ++ kl nd (.int .i64 (lo RX.length i : Nat)), g0, ?_, fun k nd' hk e => ?_, h3, h4⟩, hE6.set 5 _, (h.off.via hoff (fun x hx hm => by have := (row_lt h1 (by simpa using hm)).1; omega)).trans hset⟩
  · have h1 : w6.ownsRow w7.heap.size 79 8 (.slice (some ⟨g, 0, none⟩) (i + 1) cap) (i + 1) (xs ++ kl nd (.int .i64 (lo RX.length i : Nat))) := row_up r1 (fun x hx => by simp [Value.ownBlock] at hx; subst hx; exact hgl)
    refine row_offS h1 hset (fun x hx hm => ?_)
    obtain ⟨c1, e1⟩ := row_type h1 hx
    exact types_ne e1 hE6 (by decide) (List.mem_singleton.1 hm)
  · by_cases c : k = i
    · subst c
      rw [hnd] at e
      cases e
      rw [upG_at, bv, bi, idx_at hd hs]
      exact q2
    · rw [upG_ne c]
      exact q1 k _ (by omega) (by simp [kl, nvs]) (h2 k nd' (by omega) e)
/-- the nodes in memory -/
theorem KhM.kl (h : KhM w7 wr T F va vn ys n RX i kv s) (hi : i < 2 * RX.length - 1) (hs : s ∈ RX) :
    ∃ kb cap g, kv = .slice (some ⟨kb, 0, none⟩) (i + 1) cap ∧ w7.heap.size ≤ kb ∧ KlM wr kb cap (i + 1) RX (upG g i (some s)) ∧ LwI RX RX g i := by
  obtain ⟨xs, g, h1, h2, h3, h4⟩ := h.rk
  obtain ⟨q1, q2⟩ := h1
  rcases q2 with ⟨-, q2⟩ | ⟨kb, cap, cur, hv, hb, hg, hnc, hcm, hcs, htk⟩
  · omega
  · refine ⟨kb, cap, g, hv, hb, ⟨⟨cur.toList, by simpa [EV] using hg, by simpa using hcs, fun k nd hk e q v hq => ?_⟩, ⟨hnc, hcm, by omega⟩, fun k s' hk e => ?_⟩, h4⟩
    · have := h2 k nd hk e q v hq
      rw [← htk, List.getElem?_take] at this
      split at this
      · exact this
      · cases this
    · by_cases c : k = i
      · subst c
        rw [upG_at] at e
        cases e
        exact hs
      · rw [upG_ne c] at e
        exact h3 k s' (by omega) e
/-- a leaf has its own point -/
theorem KhM.leaf (h : KhM w7 wr T F va vn ys n RX i kv s) (hd : RX.Nodup) (e : RX[lo RX.length i]? = some s) (he : hi RX.length i = lo RX.length i + 1) : KsM w7 wr T F va vn ys n RX (i + 1) kv := by
  obtain ⟨xs, g, h1, h2, h3, h4⟩ := h.rk
  refine ⟨⟨xs, upG g i (some s), h1, h2, fun k s' hk e' => ?_, h4.leaf hd e he⟩, h.ev, h.off⟩
  by_cases c : k = i
  · subst c
    rw [upG_at] at e'
    cases e'
    exact List.mem_of_getElem? e
  · rw [upG_ne c] at e'
    exact h3 k s' (by omega) e'
theorem KlM.row {kb cap m : Nat} {g : Nat → Option S3} (h : KlM wr kb cap m RX g) (hb : w7.heap.size ≤ kb) (hI : LwI RX RX g m) : ∃ xs g, wr.ownsRow w7.heap.size 79 8 (.slice (some ⟨kb, 0, none⟩) m cap) m xs ∧ (∀ k nd, k < m → (ndN RX.length)[k]? = some nd → KlAt xs k (Lv.kl nd (bv RX (g k)))) ∧ (∀ k s, k < m → g k = some s → s ∈ RX) ∧ LwI RX RX g m := by
  obtain ⟨xs, h1, h2⟩ := h.own hb
  exact ⟨xs, g, h1, h2, h.inn, hI⟩
theorem KhM.node (h : KhM w7 wr T F va vn ys n RX i kv s) {c : Int} (hS : ∀ kb, LoS wr ⟨T, F, kb, va, vn, ys, kv⟩ RX c) (hi : i < 2 * RX.length - 1) (hs : s ∈ RX) {l r : Nat} {f t : Int} (e : (ndN RX.length)[i]? = some (2, (l : Int), (r : Int), f, t, 0, 0)) (hk : l < i ∧ r < i) (e1 : lo RX.length l = lo RX.length i) (e2 : Lv.hi RX.length l = lo RX.length r) (e3 : Lv.hi RX.length r = Lv.hi RX.length i) :
    Calls Tryz.prog 31 #[.pointer (some ⟨T, 0, none⟩), .int .i64 i] wr fun e w' => e = .returned (.tuple #[]) ∧ KsM w7 w' T F va vn ys n RX (i + 1) kv := by
  obtain ⟨kb, cap, g, hkv, hb, hK, hI⟩ := h.kl hi hs
  refine (choose_any (hS kb) hK hkv (k := i) (by omega) (by omega) (by omega) e).mono ?_
  rintro e w' ⟨rfl, h1, h2⟩
  refine ⟨rfl, ?_, h.ev.off h2 (fun hm => ?_), h.off.via h2 (fun k hk hm => ?_)⟩
  · rw [hkv]
    exact h1.row hb (hI.node hi hk e1 e2 e3 (some s))
  · obtain ⟨cs, e⟩ := hK.ty
    exact types_ne e h.ev (by decide) (List.mem_singleton.1 hm).symm
  · have := List.mem_singleton.1 hm
    omega
/-- all are laid -/
theorem KsM.done (h : KsM w7 wr T F va vn ys n RX i kv) (hi : i = 2 * RX.length - 1) (h0 : RX.length ≠ 0) :
    ∃ kb cap g, kv = .slice (some ⟨kb, 0, none⟩) (2 * RX.length - 1) cap ∧ w7.heap.size ≤ kb ∧ KlM wr kb cap (2 * RX.length - 1) RX g ∧ LwI RX RX g (2 * RX.length - 1) := by
  subst hi
  obtain ⟨xs, g, h1, h2, h3, h4⟩ := h.rk
  obtain ⟨q1, q2⟩ := h1
  rcases q2 with ⟨-, q2⟩ | ⟨kb, cap, cur, hv, hb, hg, hnc, hcm, hcs, htk⟩
  · omega
  · refine ⟨kb, cap, g, hv, hb, ⟨⟨cur.toList, by simpa [EV] using hg, by simpa using hcs, fun k nd hk e q v hq => ?_⟩, ⟨hnc, hcm, Nat.le_refl _⟩, h3⟩, h4⟩
    have := h2 k nd hk e q v hq
    rw [← htk, List.getElem?_take] at this
    split at this
    · exact this
    · cases this
end
end Go.Proofs.YtldmajifkmcdcaaGreat.Lv
