/-
  What a tree reports of a box, and counts. No condition but those typed at each theorem.
-/
import Derived.Test.YtfcpfffgodljeaaGreatBt
namespace Go.Proofs.YtfcpfffgodljeaaGreat.Bd
open Go.RowKit Go.Sort

theorem egR : ∀ args w, (callFunc 48 args).run Tryz.prog w = .ok (.enter 48 args) w := enters_of Tryz.func48 (by kernel_rfl) rfl
theorem egC : ∀ args w, (callFunc 51 args).run Tryz.prog w = .ok (.enter 51 args) w := enters_of Tryz.func51 (by kernel_rfl) rfl
/-- while it is reported: the names told so far, the box, the tree -/
structure RpJ (X : World) (P : BdP) (RX LY A : List S3) (b : B5) (nb bb base : Nat) (T : List S3) : Prop where
  box : ∃ v, Bx 43 X nb v ∧ X.ownsRow base 32 1 v (ids T).length ((ids T).map (Value.int .u32))
  bx : X1 X bb 0 b
  tr : BdM X P RX LY A
section
variable {X : World} {P : BdP} {RX LY A : List S3} {b : B5} {nb bb base : Nat}
theorem RpJ.keep {X' : World} {T : List S3} (h : RpJ X P RX LY A b nb bb base T) (g : Below X.heap.size X X') : RpJ X' P RX LY A b nb bb base T := by
  obtain ⟨v, h1, h2⟩ := h.box
  exact ⟨⟨v, h1.keep g, row_keep h2 g⟩, h.bx.keep g h.bx.lt, h.tr.keep g⟩
theorem tld_len {ks : List Nat} (A : List S3) (h : PlI RX LY) (b : B4) (hk : ks.length ≤ 200) : (tld RX LY A b ks).length ≤ 80000 := by
  unfold tld
  rw [List.length_flatMap]
  have h1 := sum_le (fun k => (btw (SPk RX LY k) A b.2.2.1 b.2.2.2).length) (fun _ => 0) 400 ks (fun k _ => by
    have h1 := SPk_len h k
    have h2 := h.few
    have h3 : (btw (SPk RX LY k) A b.2.2.1 b.2.2.2).length ≤ (SPk RX LY k).length := sg_len _ _ _ _
    omega)
  rw [sum_nil, Nat.zero_add] at h1
  have h2 : ks.length * 400 ≤ 200 * 400 := Nat.mul_le_mul_right _ hk
  omega
set_option maxRecDepth 100000 in
set_option maxHeartbeats 1600000 in
theorem rep1_any {T : List S3} (h : RpJ X P RX LY A b nb bb base T) {k : Nat} {p : LsP} (hk : P.ls[k]? = some p) (hT : T.length ≤ 80000) (hbase : base ≤ X.heap.size) (hnb : nb < base) (hbk : ∀ x ∈ blks P, x ≠ nb ∧ x < base) (hbb : bb ≠ nb) (hbb2 : bb < base) :
    Calls Tryz.prog 48 #[.pointer (some ⟨P.lb, k * 8, none⟩), .pointer (some ⟨bb, 0, none⟩), .pointer (some ⟨nb, 0, none⟩)] X fun e X' => e = .returned (.int .i64 (btwN (SPk RX LY k) A b.1.2.2.1 b.1.2.2.2 : Nat)) ∧ RpJ X' P RX LY A b nb bb base (T ++ btw (SPk RX LY k) A b.1.2.2.1 b.1.2.2.2) ∧ ∃ S, Off S X X' ∧ ∀ m ∈ S, (m < base ∧ m ∈ [nb]) ∨ (base ≤ m ∧ ∃ c, X.heap[m]? = some (.cells c 32 (0, 0))) := by
  have hl := h.tr.nod k p hk
  obtain ⟨v, hbx, hrow⟩ := h.box
  have HB := Lib.hid (between_any hl b.1.2.2.1 b.1.2.2.2)
  have hbl : (btw (SPk RX LY k) A b.1.2.2.1 b.1.2.2.2).length ≤ 8192 := Nat.le_trans (sg_len _ _ _ _) hl.few
  have H := Lib.hid h
  have HBX := Lib.hid hbx
  have HROW := Lib.hid hrow
  have HBK := Lib.hid hbk
  have HS := Lib.hid (show base ≤ X.heap.size ∧ nb < base ∧ bb ≠ nb ∧ bb < base from ⟨hbase, hnb, hbb, hbb2⟩)
  have k2 := h.bx.c2
  have k3 := h.bx.c3
  have n0 := hbx.cell
  simp only [Nat.zero_add] at k2 k3
  obtain ⟨⟨x1, x2, y1, y2⟩, bi⟩ := b
  simp only at HB hbl k2 k3 ⊢
  generalize btw (SPk RX LY k) A y1 y2 = U at *
  generalize btwN (SPk RX LY k) A y1 y2 = lk at *
  clear h hbx hrow hl hbase hnb hbk hbb hbb2 hk
  go_enter Tryz.func48, Tryz.ntmps48
  go_wp2_with (first
    | (go_at_call 49; (with_reducible refine HB.out.mono ?_); rintro e w1 ⟨⟨v2, rfl, hr2⟩, hb⟩; obtain ⟨hl2, p2, c2, rfl, hn2, hp2, hc2⟩ := row_u (k := .u32) (xs := ids U) (by rw [← ids_len] at hr2; exact hr2); have HB1 := Lib.hid hb; have HSRC := Lib.hid (NS.src (c := c2) hn2 hp2); have m0 := (hb.cell (World.block_lt_of_cell? _ _ n0)).trans n0; have HR1 := Lib.hid (row_keep HROW.out hb); clear hb hr2 hn2 hp2)
    | (at_builtin; refine wpList_list info_u rfl (by decide) (by decide) under_u _ rfl (.tmp 16) (.tmp 17) rfl base v (ids T).length _ (by simp [Act.eval]) HR1.out p2 (ids U).length c2 ((ids U).map (Value.int .u32)) (by simp [Act.eval]) (by simp) HSRC.out (ints_one _ _) (by simp only [ids_len]; omega) (by have := HS.out.1; have := HB1.out.size; omega) ?_; intro v' w' h1 h2 _; rw [← List.map_append] at h1; obtain ⟨-, p3, c3, rfl, -, -, -⟩ := row_u h1; have b1 := (HBX.out.keep HB1.out).cell; have hbx2 : Bx 43 w' nb v := (h2.block nb (HBX.out.keep HB1.out).lt (fun e => by have := (row_lt HR1.out e.symm).1; have := HS.out.2.1; omega)).trans (HBX.out.keep HB1.out); have c1 := hbx2.cell; have c2' := hbx2.free; have HBX2 := Lib.hid hbx2; have H1 := Lib.hid h1; have HO2 := Lib.hid ((Off.of (S := v.ownBlock.toList) HB1.out (Nat.le_refl _)).grow h2 (fun k e => .inl (by simp [e]))); clear h1 h2 hbx2 b1))
  go_ret
  obtain ⟨s1, s2, s3, s4⟩ := HS.out
  have hset := (Off.refl [nb] w').set ⟨nb, 0, none⟩ (.slice p3 ((ids T).length + (ids U).length) c3) (.inl (by simp))
  have hown : ∀ m, v.ownBlock = some m → base ≤ m ∧ ∃ c, X.heap[m]? = some (.cells c 32 (0, 0)) := fun m hm => ⟨(row_lt HROW.out hm).1, row_type HROW.out hm⟩
  have hoff : Off (nb :: v.ownBlock.toList) X (w'.setCell ⟨nb, 0, none⟩ (.slice p3 ((ids T).length + (ids U).length) c3)) := (HO2.out.mono (T := nb :: v.ownBlock.toList) (fun k _ hk => List.mem_cons_of_mem _ hk)).set _ _ (.inl (by simp))
  have hne : ∀ m, m ∈ (nb :: v.ownBlock.toList) → m = nb ∨ base ≤ m := fun m hm => by
    rcases List.mem_cons.1 hm with rfl | hm
    · exact .inl rfl
    · exact .inr (hown m (by simpa using hm)).1
  refine ⟨rfl, ⟨⟨_, HBX2.out.set _, ?_⟩, H.out.bx.off hoff (fun hm => (hne _ hm).elim s3 (fun h => by omega)), H.out.tr.off hoff (fun k hk hm => (hne _ hm).elim (HBK.out k hk).1 (fun h => by have := (HBK.out k hk).2; omega))⟩, _, hoff, fun m hm => ?_⟩
  · have h3 := row_off H1.out hset (by simp; exact s2)
    rw [← ids_app] at h3
    rw [show (ids (T ++ U)).length = (ids T).length + (ids U).length by rw [ids_app, List.length_append]]
    exact h3
  · rcases List.mem_cons.1 hm with rfl | hm
    · exact .inl ⟨s2, by simp⟩
    · exact .inr (hown m (by simpa using hm))
/-- while it is counted: how many so far, the box, the tree -/
structure CtJ (X : World) (P : BdP) (RX LY A : List S3) (b : B5) (nb bb c : Nat) : Prop where
  box : Bx 3 X nb (.int .i64 c)
  bx : X1 X bb 0 b
  tr : BdM X P RX LY A
theorem CtJ.keep {X' : World} {c : Nat} (h : CtJ X P RX LY A b nb bb c) (g : Below X.heap.size X X') : CtJ X' P RX LY A b nb bb c :=
  ⟨h.box.keep g, h.bx.keep g h.bx.lt, h.tr.keep g⟩
set_option maxRecDepth 100000 in
set_option maxHeartbeats 1600000 in
theorem cnt1_any {c : Nat} (h : CtJ X P RX LY A b nb bb c) {k : Nat} {p : LsP} (hk : P.ls[k]? = some p) (hc : c ≤ 80000) (hy : b.1.2.2.1 ≤ b.1.2.2.2) (hbk : ∀ x ∈ blks P, x ≠ nb) (hbb : bb ≠ nb) :
    Calls Tryz.prog 51 #[.pointer (some ⟨P.lb, k * 8, none⟩), .pointer (some ⟨bb, 0, none⟩), .pointer (some ⟨nb, 0, none⟩)] X fun e X' => e = .returned (.int .i64 (cnlN (SPk RX LY k) b.1.2.2.1 b.1.2.2.2 : Nat)) ∧ CtJ X' P RX LY A b nb bb (c + (btw (SPk RX LY k) A b.1.2.2.1 b.1.2.2.2).length) ∧ Off [nb] X X' := by
  have hl := h.tr.nod k p hk
  have HB := Lib.hid (count_any hl hy)
  have hbl : (btw (SPk RX LY k) A b.1.2.2.1 b.1.2.2.2).length ≤ 8192 := Nat.le_trans (sg_len _ _ _ _) hl.few
  have H := Lib.hid h
  have HBK := Lib.hid hbk
  have HS := Lib.hid hbb
  have k2 := h.bx.c2
  have k3 := h.bx.c3
  have n0 := h.box.cell
  simp only [Nat.zero_add] at k2 k3
  obtain ⟨⟨x1, x2, y1, y2⟩, bi⟩ := b
  simp only at HB hbl k2 k3 ⊢
  generalize (btw (SPk RX LY k) A y1 y2).length = U at *
  generalize cnlN (SPk RX LY k) y1 y2 = lk at *
  clear h hl hbk hbb hk hy
  go_enter Tryz.func51, Tryz.ntmps51
  go_wp2_with (go_at_call 52; (with_reducible refine HB.out.mono ?_); rintro e w1 ⟨rfl, hb⟩; have HB1 := Lib.hid hb; have HX1 := Lib.hid (H.out.box.keep hb); have m0 := HX1.out.cell; have m1 := HX1.out.free; clear hb)
  go_ret
  have hoff : Off [nb] X (w1.setCell ⟨nb, 0, none⟩ (.int .i64 (c + U))) := (Off.of (S := [nb]) HB1.out (Nat.le_refl _)).set _ _ (.inl (by simp))
  exact ⟨rfl, ⟨HX1.out.set _, H.out.bx.off hoff (by simp; exact HS.out), H.out.tr.off hoff (fun k hk => by have := HBK.out k hk; simpa using this)⟩, hoff⟩
end
end Go.Proofs.YtfcpfffgodljeaaGreat.Bd
