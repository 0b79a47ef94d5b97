/-
  A span put into a tree of spans: the walk. No condition but those typed at each theorem.
-/
import Derived.Test.YtgcimicbbadapaaSu
namespace Go.Proofs.Ytgcimicbbadapaa
open Go.RowKit

theorem once_le {l : List Int} (hn : l.Nodup) : ∀ {m : List Int}, (∀ x ∈ l, x ∈ m) → l.length ≤ m.length := by
  induction l with
  | nil => intro m _; simp
  | cons a l ih =>
    intro m hs
    obtain ⟨h1, h2⟩ := List.nodup_cons.1 hn
    have ha := hs a (by simp)
    have := ih h2 (m := m.erase a) (fun x hx => (List.mem_erase_of_ne (fun e => h1 (by rw [← e]; exact hx))).2 (hs x (by simp [hx])))
    rw [List.length_erase_of_mem ha] at this
    have hp := List.length_pos_of_mem ha
    simp only [List.length_cons]
    omega
section
variable {X : World} {g : Nat} {ev : Value} {eb : List Nat} {gf gn gm : Nat} {E : List Int} {NV : List Value} {NM : List (List Int)} {D : List En} {wt : Int}
theorem SgI.few (h : SgI E NM D) (k : Nat) : (nm NM k).length ≤ D.length := by
  have := once_le (h.once k) (m := D.map (fun d => d.1.2.2)) (fun x hx => by
    obtain ⟨d, hd, e, -⟩ := h.at.1 hx
    exact List.mem_map.2 ⟨d, hd, e⟩)
  simpa using this
variable {wr : World} {s : S3} {ks : List Nat} {nv : Value} {j i : Nat} {NVj : List Value} {sv : Value}
/-- what is read while a name is put behind those of its node -/
theorem PutM.mid (h : PutM X wr g ev eb gf gn gm E NV NM D wt s ks nv j i NVj sv) {k : Nat} {v : Value} (hv : NVj[k]? = some v) {o : Obj} {w2 : World} (r2 : (wr.alloc o).grownBy w2 v.ownBlock) :
    w2.cell? ⟨g, 3, none⟩ = some (.slice (some ⟨gn, 0, none⟩) NVj.length NVj.length) ∧ w2.cell? ⟨gn, k, none⟩ = some v ∧ w2.frozen? ⟨gn, k, none⟩ = false := by
  have hvm : v ∈ NVj := List.mem_of_getElem? hv
  have ho : Off v.ownBlock.toList wr w2 := ((Off.refl _ wr).all _).grow r2 (fun k e => .inl (by simp [e]))
  have hcell : ∀ {b : Nat} {c : Array Value} {t : TypeId}, wr.heap[b]? = some (.cells c t (0, 0)) → t ≠ 32 → b ∉ v.ownBlock.toList := fun {b c t} e h2 h3 => by
    obtain ⟨cur, hc⟩ := h.m.nameType hvm (show v.ownBlock = some b by simpa using h3)
    exact types_ne e hc h2 rfl
  have h1 := h.m.seg.off ho (hcell h.m.seg (by decide))
  have h2 := h.m.nms.off ho (hcell h.m.nms (by decide))
  exact ⟨h1.cell (i := 3) rfl, h2.cell hv, h2.free k⟩
set_option maxRecDepth 100000 in
set_option maxHeartbeats 4000000 in
theorem put_any (h : SegM X g ev eb gf gn gm E NV NM D wt) (hI : SgI E NM D) (hl : E.length ≤ 800) (hw : Wf3 s) (h1 : s.1 ∈ E) (h2 : s.2.1 ∈ E) (h3 : s.1 ≤ s.2.1) (hf : ∀ d ∈ D, d.1.2.2 ≠ s.2.2) (hD : D.length ≤ 400) (hwt : 0 ≤ wt ∧ wt ≤ 100000) :
    Calls Try.prog 29 #[.pointer (some ⟨g, 0, none⟩), tv s] X fun e X' => e = .returned (.tuple #[]) ∧ ∃ NV' sv, SegM X' g ev eb gf gn gm E NV' (pN s.2.2 NM (cs E s)) (D ++ [(s, sv, pS NM (cs E s))]) (wt + ((cs E s).length : Nat)) ∧ Off (bks g eb gf gn gm NV D) X X' ∧ ∀ b ∈ bks g eb gf gn gm NV' (D ++ [(s, sv, pS NM (cs E s))]), b ∈ bks g eb gf gn gm NV D ∨ X.heap.size ≤ b := by
  obtain ⟨x, y, e1, e2, hxy, hy, hcs⟩ := ends_at hI.up h1 h2 h3
  have hfew := cs_few hI.up h1 h2 h3 (n := 400) (by omega) (by omega)
  rw [show lgN (4 * 400 + 4) = 11 by decide] at hfew
  have HN := Lib.hid hI.few
  have HKN := Lib.hid (fun k (hk : k ∈ cs E s) => (by have := cs_lt hI.up h1 h2 h3 hk; rw [hI.len]; exact this : k < NM.length))
  have HAT : Hid (∀ j k, (cs E s)[j]? = some k → nm (pN s.2.2 NM ((cs E s).take j)) k = nm NM k) := Lib.hid (fun j k hk => by
    rw [pN_at s.2.2 NM _ ((List.take_sublist _ _).nodup (cs_once E s)) (fun q hq => HKN.out q (List.mem_of_mem_take hq)), if_neg]
    intro hm
    obtain ⟨a, ha⟩ := List.mem_iff_getElem?.1 hm
    rw [List.getElem?_take] at ha
    split at ha
    · have := (List.getElem?_inj (List.getElem?_eq_some_iff.1 hk).1 (cs_once E s)).1 (hk.trans ha.symm)
      omega
    · cases ha)
  have HF := Lib.hid hf
  have HS1 := Lib.hid (fun Y (hb : Below X.heap.size X Y) => slot_any (h.bel hb) hI.up hl s.1)
  have HS2 := Lib.hid (fun Y (hb : Below X.heap.size X Y) => slot_any (h.bel hb) hI.up hl s.2.1)
  rw [e1] at HS1
  rw [e2] at HS2
  obtain ⟨ks, hks⟩ : ∃ ks, ks = cs E s := ⟨_, rfl⟩
  rw [← hks] at HKN HAT hfew hcs ⊢
  obtain ⟨n, hn⟩ : ∃ n, n = ks.length := ⟨_, rfl⟩
  rw [← hn] at hfew ⊢
  have HNK := Lib.hid hn
  have HC : Hid (∀ Y, Below X.heap.size X Y → Calls Try.prog 53 #[.pointer (some ⟨gf, 0, none⟩), .int .i64 x, .int .i64 ((y : Int) + 1)] Y fun e w' => ∃ p c t, e = .returned (.tuple #[.slice p n c, .int .i64 t, .int .i64 0]) ∧ w'.ownsRow Y.heap.size 3 1 (.slice p n c) n ((ints ks).map (Value.int .i64)) ∧ Below Y.heap.size Y w') := Lib.hid (fun Y hb => by
    have := FCanon_any Y gf (ms E) 0 _ (h.bel hb).fr x (y + 1) (by omega) (by omega) (by unfold ms; omega)
    rw [← hcs, ← hn] at this
    refine this.mono ?_
    rintro e w' ⟨v, rfl, hr, hb2⟩
    obtain ⟨-, p, c, rfl, -, -, -⟩ := row_u hr
    exact ⟨p, c, _, rfl, hr, hb2⟩)
  have HX := Lib.hid (fun Y (hb : Below X.heap.size X Y) => h.bel hb)
  have HLT := Lib.hid h.lies
  have HNL := Lib.hid h.nlen
  have hmk : ∀ W : World, (Instr.makeSlice 68 (.int .i64 0) (.int .i64 n)).run Try.prog W = .ok (.slice (some ⟨W.heap.size, 0, none⟩) 0 n) (W.alloc (.cells (madeCells #[.int .i64 0, .int .i64 0] (n * 2)) 99)) := fun W => made_any Try.info99 (by decide) (by decide) Try.underlying68 W 0 n (Nat.zero_le _) (by omega)
  have HW := Lib.hid hw
  have hyb : y ≤ 1600 := by unfold ms at hy; omega
  clear h hI hl hw h1 h2 h3 hf e1 e2 hcs hks hn hy hxy
  obtain ⟨lo, hi, id⟩ := s
  simp only [tv] at *
  go_enter Try.func29, Try.ntmps29
  go_upto_region 1 with fail
  obtain ⟨W, hW⟩ : ∃ W, W = X.alloc (.cells (tvs (lo, hi, id)).toArray 34) := ⟨_, rfl⟩
  change Code.wp _ _ _ _ (X.alloc (.cells (tvs (lo, hi, id)).toArray 34))
  rw [← hW]
  have HB0 : Hid (Below X.heap.size X W) := Lib.hid (hW ▸ (Below.refl _ X).alloc (Nat.le_refl _) _)
  have hbx : EV 34 W X.heap.size (tvs (lo, hi, id)) := hW ▸ EV.new X _ _
  have b0 := hbx.cell (i := 0) rfl
  have HBX := Lib.hid hbx
  clear hW hbx
  go_wp2_with (first
    | (go_at_call 52; (with_reducible refine (HS1.out _ HB0.out).mono ?_); rintro e w1 ⟨rfl, hb⟩; have HB1 := Lib.hid (HB0.out.trans (hb.mono HB0.out.size)); have HBX1 := Lib.hid (HBX.out.keep hb HBX.out.lt); have b1 := HBX1.out.cell (i := 1) rfl; clear hb)
    | (go_at_call 52; (with_reducible refine (HS2.out _ HB1.out).mono ?_); rintro e w2 ⟨rfl, hb⟩; have HB2 := Lib.hid (HB1.out.trans (hb.mono HB1.out.size)); have HBX2 := Lib.hid (HBX1.out.keep hb HBX1.out.lt); have c2 := (HX.out _ HB2.out).seg.cell (i := 2) rfl; clear hb)
    | (go_at_call 53; (with_reducible refine (HC.out _ HB2.out).mono ?_); rintro e w3 ⟨p, c, t, rfl, hr, hb⟩; have HR := Lib.hid (row_at (base' := X.heap.size) hr (fun b e => ⟨rfl, Nat.le_trans HB2.out.size (own_geB hr b e)⟩)); have HB3 := Lib.hid (HB2.out.trans (hb.mono HB2.out.size)); have HBX3 := Lib.hid (HBX2.out.keep hb HBX2.out.lt); clear hb hr))
  go_loopw [11, 45] (fun sv jv wr => ∃ j NVj, j ≤ n ∧ jv = .int .i64 (j : Nat) ∧ Hid (PutM X wr g ev eb gf gn gm E NV NM D wt (lo, hi, id) ks (.slice p n c) j j NVj sv)) (fun _ jv _ => n - (intOf jv).toNat)
  case atStart =>
    have hal : Below w3.heap.size w3 (w3.alloc (.cells (madeCells #[.int .i64 0, .int .i64 0] (n * 2)) 99)) := (Below.refl _ w3).alloc (Nat.le_refl _) _
    have hb4 := HB3.out.alloc HB3.out.size (.cells (madeCells #[.int .i64 0, .int .i64 0] (n * 2)) 99)
    refine ⟨0, NV, Nat.zero_le _, rfl, Lib.hid ⟨?_, HLT.out, Off.of hb4 (Nat.le_refl _), fun b hb => .inl hb, ?_, HBX3.out.keep hal HBX3.out.lt, ?_⟩⟩
    · exact HX.out _ hb4
    · exact World.ownsRow_made w3 _ n HB3.out.size (by simp [maxLen]; omega) (size_madeCells _ _)
    · rw [← HNK.out]
      exact HR.out.alloc _
  case round =>
    clear hmk HS1 HS2 HC HX HB0 HB1 HB2 HB3 HBX HBX1 HBX2 HBX3 HR
    obtain ⟨j, NVj, hj, rfl, HP⟩ := hrel
    by_cases hlt : j < n
    · have hltz : (j : Int) < n := by omega
      obtain ⟨k, hk⟩ : ∃ k, ks[j]? = some k := ⟨_, List.getElem?_eq_getElem (by have := HNK.out; omega)⟩
      have hkN := HKN.out k (List.mem_of_getElem? hk)
      have hlen : NVj.length = NM.length := by have := HP.out.m.nlen; rwa [pN_len] at this
      have hkn : k < NVj.length := by omega
      have hat := HAT.out j k hk
      obtain ⟨gb, cap, e, -, cx⟩ := row_cell HP.out.nod (j := j) (u := .int .i64 (k : Int)) (by simp [ints, hk])
      cases e
      obtain ⟨v, hv⟩ : ∃ v, NVj[k]? = some v := ⟨_, List.getElem?_eq_getElem hkn⟩
      have hrv := HP.out.m.row k v hv
      rw [hat] at hrv
      obtain ⟨-, pk, ck, rfl, hnk, hck, -⟩ := row_u hrv
      have hnl := HN.out k
      have cg := HP.out.m.nms.cell hv
      have c3 : wr.cell? ⟨g, 3, none⟩ = some (.slice (some ⟨gn, 0, none⟩) NVj.length NVj.length) := HP.out.m.seg.cell (i := 3) rfl
      have hknz : (k : Int) < (NVj.length : Nat) := by omega
      have hsz := HP.out.off.size
      have HK := Lib.hid hk
      have HV := Lib.hid hv
      have HA := Lib.hid hat
      obtain ⟨q, hq⟩ : ∃ q, q = (nm NM k).length := ⟨_, rfl⟩
      rw [← hq] at cg hnl hrv HV
      have HQ := Lib.hid hq
      have HRV := Lib.hid hrv
      have HL := Lib.hid hlen
      clear hk hv hat hq hrv hnk hck hlen
      obtain ⟨nn, hnn⟩ : ∃ nn, nn = NVj.length := ⟨_, rfl⟩
      rw [← hnn] at c3 hknz hkn HL
      have HNN := Lib.hid hnn
      clear hnn
      go_upto_region 9 with (at_builtin; refine wpList_list Try.info99 rfl (by decide) (by decide) Try.underlying68 _ rfl (.tmp 49) (.tmp 60) rfl X.heap.size _ j _ rfl (HP.out.row.alloc _) (some ⟨wr.heap.size, 0, none⟩) 1 1 [.int .i64 k, .int .i64 q] (by simp [Act.eval]) rfl (.inr ⟨_, rfl, lit_at wr [.int .i64 k, .int .i64 q] 99⟩) (by simp [Value.oneCell']) (by omega) (by simp; omega) ?_; intro sv' w5 r1 r2 _; have HP2 := Lib.hid (HP.out.seat HK.out HQ.out.symm r1 r2); clear r1 r2)
      have hP := HP2.out
      have c3 : w5.cell? ⟨g, 3, none⟩ = some (.slice (some ⟨gn, 0, none⟩) nn nn) := HNN.out ▸ hP.m.seg.cell (i := 3) rfl
      have cg := hP.m.nms.cell HV.out
      have fg := hP.m.nms.free k
      have cb := hP.box.cell (i := 2) rfl
      have l1 : g < w5.heap.size := hP.m.seg.lt
      have l2 : gn < w5.heap.size := hP.m.nms.lt
      have l3 : X.heap.size < w5.heap.size := hP.box.lt
      have HOWN := Lib.hid ((row_at (base' := 0) (hP.m.row k _ HV.out) (fun b e => ⟨rfl, Nat.zero_le _⟩)).alloc (.cells #[.int .u32 id] 32))
      rw [HA.out, ← HQ.out] at HOWN
      have HPD := Lib.hid hP
      clear hP
      go_region_law ((refine step_more Try.info32 rfl (by decide) (by decide) Try.underlying41 rfl (.tmp 73) (.tmp 76) rfl (.slice pk q ck) q ((nm NM k).map (Value.int .u32)) (by simp [Act.eval]) (by exact HOWN.out) ⟨w5.heap.size, 0, none⟩ 1 1 [.int .u32 id] (by simp [Act.eval]) rfl (one_at w5 _ _) (by simp [Value.oneCell']) (by omega) (by omega) ?_; intro a cp w6 r1 r2 r3; obtain ⟨m1, m2, m3⟩ := HPD.out.drew.mid HV.out r2; rw [← HNN.out] at m1; have HN6 := Lib.hid (HPD.out.drew.name HK.out HV.out HA.out HQ.out r1 r2 (fun b e => by cases e; exact r3)); clear r1 r2 r3))
      all_goals (go_wp2_with fail)
      all_goals (
        go_roundw
        case rel => exact ⟨j + 1, _, by omega, by go_num, HN6⟩
        case measure => simp [intOf]; omega)
    · have hltz : ¬ (j : Int) < n := by omega
      have hjn : j = n := by omega
      subst hjn
      obtain ⟨bq, cq, rfl⟩ : ∃ b c, u11 = .slice (some ⟨b, 0, none⟩) j c := by
        obtain ⟨_, h⟩ := HP.out.row
        rcases h with ⟨_, h⟩ | ⟨b, cap, cur, h, _⟩
        · omega
        · exact ⟨b, cap, h⟩
      have hP := HP.out
      have HB9 : Hid (Below wr.heap.size wr wr.drew) := Lib.hid ⟨rfl, rfl, rfl, Nat.le_refl _, fun _ _ => rfl⟩
      have c4 : wr.cell? ⟨g, 4, none⟩ = some (.map (some gm)) := hP.m.seg.cell (i := 4) rfl
      have c5 : wr.cell? ⟨g, 5, none⟩ = some (.int .i64 wt) := hP.m.seg.cell (i := 5) rfl
      have b0 := hP.box.cell (i := 0) rfl
      have b1 := hP.box.cell (i := 1) rfl
      have b2 := hP.box.cell (i := 2) rfl
      have hmpd : MP Try.prog 32 wr.drew gm (kvD D) := hP.m.mp.block rfl
      have hgg : gm ≠ g := hP.m.neM.1
      obtain ⟨w9, hput, hmp9, ho9⟩ := hmpd.store Try.underlying64 Try.underlying32 (by simp [kvD, maxLen]; omega) (i := id) (.agg #[.int .i64 lo, .int .i64 hi, .int .u32 id, .slice (some ⟨bq, 0, none⟩) j cq]) HW.out.2.2
      have c59 : w9.cell? ⟨g, 5, none⟩ = some (.int .i64 wt) := (ho9.cell (a := ⟨g, 5, none⟩) (w := wr.drew) (v := .int .i64 wt) c5 (by simpa using Ne.symm hgg))
      have f59 := (hP.m.seg.off (w' := w9) ((Off.refl [gm] wr).drew.trans ho9) (by simpa using Ne.symm hgg)).free 5
      have HO9 := Lib.hid ho9
      have HMP9 := Lib.hid hmp9
      clear hP hmpd ho9 hmp9
      go_upto_region 11 with fail
      go_region
      go_wp2
      go_end0
      have hd := HP.out.drew.done (by have := HNK.out; omega) HNK.out (by omega) HF.out HO9.out (by simpa [stV] using HMP9.out) (wt + (j : Nat))
      exact ⟨rfl, _, _, hd.1, hd.2.1, hd.2.2⟩
end
end Go.Proofs.Ytgcimicbbadapaa
