/-
  A span put into a tree of spans: the memory behind each of its writes. No condition but those typed at each theorem.
-/
import Derived.Test.YtgcimicbbadapaaSw
import Derived.Test.YtgcimicbbadapaaSe
namespace Go.Proofs.Ytgcimicbbadapaa
open Go.RowKit

theorem Try.info99 : (Try.prog.info? 99).map (fun i => (i.zero, i.size, i.bytes)) = some (some (.agg #[.int .i64 0, .int .i64 0]), 2, 16) := by kernel_rfl
/-- a tree while a span is put: names stand at j of its nodes, i of its seats are listed -/
structure PutM (X wr : World) (g : Nat) (ev : Value) (eb : List Nat) (gf gn gm : Nat) (E : List Int) (NV : List Value) (NM : List (List Int)) (D : List En) (wt : Int) (s : S3) (ks : List Nat) (nv : Value) (j i : Nat) (NVj : List Value) (sv : Value) : Prop where
  m : SegM wr g ev eb gf gn gm E NVj (pN s.2.2 NM (ks.take j)) D wt
  lt : ∀ b ∈ bks g eb gf gn gm NV D, b < X.heap.size
  off : Off (bks g eb gf gn gm NV D) X wr
  new : ∀ b ∈ bks g eb gf gn gm NVj D, b ∈ bks g eb gf gn gm NV D ∨ X.heap.size ≤ b
  row : wr.ownsRow X.heap.size 99 2 sv i (flatQ (pS NM (ks.take i)))
  box : EV 34 wr X.heap.size (tvs s)
  nod : wr.ownsRow X.heap.size 3 1 nv ks.length ((ints ks).map (Value.int .i64))
section
variable {X wr : World} {g : Nat} {ev : Value} {eb : List Nat} {gf gn gm : Nat} {E : List Int} {NV : List Value} {NM : List (List Int)} {D : List En} {wt : Int} {s : S3} {ks : List Nat} {nv : Value} {j i : Nat} {NVj : List Value} {sv : Value}
theorem PutM.drew (h : PutM X wr g ev eb gf gn gm E NV NM D wt s ks nv j i NVj sv) : PutM X wr.drew g ev eb gf gn gm E NV NM D wt s ks nv j i NVj sv :=
  ⟨h.m.block (fun _ _ => rfl), h.lt, h.off.drew, h.new, h.row.drew, h.box, h.nod.drew⟩
theorem PutM.seatsType (h : PutM X wr g ev eb gf gn gm E NV NM D wt s ks nv j i NVj sv) {b : Nat} (e : sv.ownBlock = some b) : X.heap.size ≤ b ∧ ∃ cur, wr.heap[b]? = some (.cells cur 99 (0, 0)) := ⟨own_geB h.row b e, row_type h.row e⟩
/-- a seat more is listed -/
theorem PutM.seat (h : PutM X wr g ev eb gf gn gm E NV NM D wt s ks nv j i NVj sv) {k n : Nat} (hk : ks[i]? = some k) (hn : (nm NM k).length = n) {o : Obj} {w' : World} {sv' : Value}
    (r1 : w'.ownsRow X.heap.size 99 2 sv' (i + 1) (flatQ (pS NM (ks.take i)) ++ [.int .i64 k, .int .i64 n])) (r2 : (wr.alloc o).grownBy w' sv.ownBlock) : PutM X w' g ev eb gf gn gm E NV NM D wt s ks nv j (i + 1) NVj sv' := by
  have ho : Off sv.ownBlock.toList wr w' := ((Off.refl _ wr).all o).grow r2 (fun k e => .inl (by simp [e]))
  have hty := fun b (e : sv.ownBlock = some b) => h.seatsType e
  have hcell : ∀ {b : Nat} {c : Array Value} {t : TypeId}, wr.heap[b]? = some (.cells c t (0, 0)) → t ≠ 99 → b ∉ sv.ownBlock.toList := fun {b c t} e h1 h2 => by
    obtain ⟨-, cur, hc⟩ := hty b (by simpa using h2)
    exact types_ne e hc h1 rfl
  refine ⟨h.m.off ho (fun b hb => ?_), h.lt, Off.via h.off ho (fun b hb hb2 => ?_), h.new, ?_, h.box.off ho (hcell h.box (by decide)), row_at h.nod (fun b e => ?_)⟩
  · intro hb2
    have hb3 : sv.ownBlock = some b := by simpa using hb2
    obtain ⟨h1, cur, hc⟩ := hty b hb3
    have hK : ∀ d ∈ D, d.2.1.ownBlock = some b → False := fun d hd e => by
      have := h.lt b (mem_bks.2 (.inr (.inr (.inr (.inr (.inr (.inr ⟨d, hd, e⟩)))))))
      omega
    rcases mem_bks.1 hb with rfl | rfl | rfl | rfl | he | ⟨v, hv, e⟩ | ⟨d, hd, e⟩
    · exact types_ne h.m.seg hc (by decide) rfl
    · exact types_ne h.m.fr hc (by decide) rfl
    · exact types_ne h.m.nms hc (by decide) rfl
    · exact h.m.mp.notCells hc rfl
    · have := h.lt b (mem_bks.2 (.inr (.inr (.inr (.inr (.inl he))))))
      omega
    · obtain ⟨cur', hc'⟩ := h.m.nameType hv e
      exact types_ne hc' hc (by decide) rfl
    · exact hK d hd e
  · have := (hty b (by simpa using hb2)).1
    omega
  · have e2 : flatQ (pS NM (ks.take (i + 1))) = flatQ (pS NM (ks.take i)) ++ [.int .i64 k, .int .i64 n] := by
      rw [List.take_add_one, hk, show (some k).toList = [k] from rfl, pS_snoc, flatQ_snoc, hn]
      rfl
    rw [e2]
    exact r1
  · obtain ⟨cur, hc⟩ := row_type h.nod e
    exact ⟨ho.block b (lt_of_block hc) (hcell hc (by decide)), own_geB h.nod b e⟩
/-- a name more stands at its node -/
theorem PutM.name (h : PutM X wr g ev eb gf gn gm E NV NM D wt s ks nv j i NVj sv) {k n : Nat} (hk : ks[j]? = some k) {v v' : Value} {xs : List Int} (hv : NVj[k]? = some v) (hx : nm (pN s.2.2 NM (ks.take j)) k = xs) (hn : n = xs.length) {w2 : World}
    (r1 : w2.ownsRow 0 32 1 v' (n + 1) (xs.map (Value.int .u32) ++ [.int .u32 s.2.2])) (r2 : (wr.alloc (.cells #[.int .u32 s.2.2] 32)).grownBy w2 v.ownBlock) (r3 : ∀ a, v'.ownBlock = some a → v.ownBlock = some a ∨ a = (wr.alloc (.cells #[.int .u32 s.2.2] 32)).heap.size) :
    PutM X (w2.setCell ⟨gn, k, none⟩ v') g ev eb gf gn gm E NV NM D wt s ks nv (j + 1) i (NVj.set k v') sv := by
  have hvm : v ∈ NVj := List.mem_of_getElem? hv
  have hne : ∀ b, v.ownBlock = some b → gn ≠ b := fun b e => by
    obtain ⟨cur, hc⟩ := h.m.nameType hvm e
    exact types_ne h.m.nms hc (by decide)
  have ho1 : Off v.ownBlock.toList wr w2 := ((Off.refl _ wr).all _).grow r2 (fun k e => .inl (by simp [e]))
  have hgn2 : EV 41 w2 gn NVj := h.m.nms.off ho1 (by simpa using fun e => hne _ e rfl)
  have hne' : ∀ b, v'.ownBlock = some b → b ≠ gn := fun b e => by
    obtain ⟨cur, hc⟩ := row_type r1 e
    exact types_ne hc hgn2 (by decide)
  have ho2 : Off [gn] w2 (w2.setCell ⟨gn, k, none⟩ v') := off_set w2 gn k v'
  have ho : Off (gn :: v.ownBlock.toList) wr (w2.setCell ⟨gn, k, none⟩ v') := (ho1.mono (fun k _ hk => by simp at hk ⊢; exact .inr hk)).trans (ho2.mono (fun k _ hk => by simp at hk ⊢; exact .inl hk))
  have hnew : ∀ b, v'.ownBlock = some b → v.ownBlock = some b ∨ wr.heap.size ≤ b := fun b e => by
    rcases r3 b e with h1 | h1
    · exact .inl h1
    · right; rw [h1]; simp
  have hwr := h.off.size
  have hcell : ∀ {b : Nat} {c : Array Value} {t : TypeId}, wr.heap[b]? = some (.cells c t (0, 0)) → t ≠ 41 → t ≠ 32 → b ∉ gn :: v.ownBlock.toList := fun {b c t} e h1 h2 h3 => by
    rcases List.mem_cons.1 h3 with rfl | h3
    · exact types_ne e h.m.nms h1 rfl
    · obtain ⟨cur, hc⟩ := h.m.nameType hvm (show v.ownBlock = some b by simpa using h3)
      exact types_ne e hc h2 rfl
  have hM := h.m.nameSet (L := xs ++ [s.2.2]) hv ho (hgn2.set k v') (by
    rw [List.length_append, ← hn, List.map_append]
    refine row_at r1 (fun b e => ⟨ho2.block b (row_lt r1 e).2 (by simpa using hne' b e), Nat.zero_le _⟩)) hnew
  refine ⟨?_, h.lt, Off.via h.off ho (fun b hb hb2 => ?_), fun b hb => ?_, ?_, h.box.off ho (hcell h.box (by decide) (by decide)), ?_⟩
  · rw [List.take_add_one, hk, show (some k).toList = [k] from rfl, pN_snoc, hx]
    exact hM
  · rcases List.mem_cons.1 hb2 with rfl | hb2
    · exact mem_bks.2 (.inr (.inr (.inl rfl)))
    · rcases h.new b (mem_bks.2 (.inr (.inr (.inr (.inr (.inr (.inl ⟨v, hvm, by simpa using hb2⟩))))))) with h1 | h1
      · exact h1
      · omega
  · rcases bks_nameSet hv hnew hb with h1 | h1
    · exact h.new b h1
    · right; omega
  · exact row_at h.row (fun b e => by
      obtain ⟨cur, hc⟩ := row_type h.row e
      exact ⟨ho.block b (lt_of_block hc) (hcell hc (by decide) (by decide)), own_geB h.row b e⟩)
  · exact row_at h.nod (fun b e => by
      obtain ⟨cur, hc⟩ := row_type h.nod e
      exact ⟨ho.block b (lt_of_block hc) (hcell hc (by decide) (by decide)), own_geB h.nod b e⟩)
/-- the span and its seats entered, the weight set -/
theorem PutM.done (h : PutM X wr g ev eb gf gn gm E NV NM D wt s ks nv j i NVj sv) (hj : ks.length ≤ j) (hi : i = ks.length) (h0 : 0 < i) (hf : ∀ d ∈ D, d.1.2.2 ≠ s.2.2) {w' : World} (o : Off [gm] wr w')
    (hmp : MP Try.prog 32 w' gm ((kvD D).filter (fun p => decide (p.1 ≠ s.2.2)) ++ [(s.2.2, stV (s, sv, pS NM ks))])) (wt' : Int) :
    SegM (w'.setCell ⟨g, 5, none⟩ (.int .i64 wt')) g ev eb gf gn gm E NVj (pN s.2.2 NM ks) (D ++ [(s, sv, pS NM ks)]) wt' ∧ Off (bks g eb gf gn gm NV D) X (w'.setCell ⟨g, 5, none⟩ (.int .i64 wt')) ∧ (∀ b ∈ bks g eb gf gn gm NVj (D ++ [(s, sv, pS NM ks)]), b ∈ bks g eb gf gn gm NV D ∨ X.heap.size ≤ b) := by
  have hm := h.m
  rw [List.take_of_length_le hj] at hm
  have hrow := h.row
  rw [List.take_of_length_le (by omega)] at hrow
  have hpl : (pS NM ks).length = i := by simp [pS, hi]
  have hsv : ∀ b, sv.ownBlock = some b → b ∉ bks g eb gf gn gm NVj D := fun b e hb => by
    obtain ⟨h1, cur, hc⟩ := h.seatsType e
    rcases mem_bks.1 hb with rfl | rfl | rfl | rfl | he | ⟨v, hv, e⟩ | ⟨d, hd, e⟩
    · exact types_ne h.m.seg hc (by decide) rfl
    · exact types_ne h.m.fr hc (by decide) rfl
    · exact types_ne h.m.nms hc (by decide) rfl
    · exact h.m.mp.notCells hc rfl
    · have := h.lt b (mem_bks.2 (.inr (.inr (.inr (.inr (.inl he))))))
      omega
    · obtain ⟨cur', hc'⟩ := h.m.nameType hv e
      exact types_ne hc' hc (by decide) rfl
    · have := h.lt b (mem_bks.2 (.inr (.inr (.inr (.inr (.inr (.inr ⟨d, hd, e⟩)))))))
      omega
  have hSB : SB wr sv (pS NM ks) := by
    obtain ⟨h1, h2⟩ := hrow
    rcases h2 with ⟨rfl, h2⟩ | ⟨b, cap, cur, rfl, hb, hg, hnc, hcm, hcs, htk⟩
    · omega
    · refine ⟨b, cap, cur.toList.drop (i * 2), by rw [hpl], by omega, ?_⟩
      unfold EV
      rw [← htk, List.take_append_drop, Array.toArray_toList]
      exact hg
  have h1 := (hm.mapPut hf o hmp hSB hsv).wtSet wt'
  have hlg := h.lt g (mem_bks.2 (.inl rfl))
  refine ⟨h1, Off.via (Off.via h.off o (fun b _ hb => ?_)) (off_set w' g 5 _) (fun b _ hb => ?_), fun b hb => ?_⟩
  · have : b = gm := by simpa using hb
    exact mem_bks.2 (.inr (.inr (.inr (.inl this))))
  · have : b = g := by simpa using hb
    exact mem_bks.2 (.inl this)
  · rcases mem_bks.1 hb with h2 | h2 | h2 | h2 | h2 | h2 | ⟨d, hd, e⟩
    · exact h.new b (mem_bks.2 (.inl h2))
    · exact h.new b (mem_bks.2 (.inr (.inl h2)))
    · exact h.new b (mem_bks.2 (.inr (.inr (.inl h2))))
    · exact h.new b (mem_bks.2 (.inr (.inr (.inr (.inl h2)))))
    · exact h.new b (mem_bks.2 (.inr (.inr (.inr (.inr (.inl h2))))))
    · exact h.new b (mem_bks.2 (.inr (.inr (.inr (.inr (.inr (.inl h2)))))))
    · rcases List.mem_append.1 hd with hd | hd
      · exact h.new b (mem_bks.2 (.inr (.inr (.inr (.inr (.inr (.inr ⟨d, hd, e⟩)))))))
      · simp at hd
        subst hd
        exact .inr (h.seatsType e).1
end
end Go.Proofs.Ytgcimicbbadapaa
