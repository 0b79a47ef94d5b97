/-
  pool.Height. No condition but those typed at each theorem.
-/
import Derived.Test.YtmkmkndcndpfeaaPlain
namespace Go.Proofs.Ytmkmkndcndpfeaa
open Go.RowKit Go.Shelf
attribute [local go_sem] Oper.semAt_some

/-- marks of loops that are over, each in a block of its own that no call waits in -/
def Marks (N : Nat) (W : World) : List Deferred → Prop
  | [] => True
  | d :: ds => (∃ D, d = { target := .collected D, args := #[] } ∧ N ≤ D ∧ W.heap[D]? = some (.deferred (some [])) ∧ ∀ d' ∈ ds, d'.target ≠ .collected D) ∧ Marks N W ds
theorem Marks.keep {N : Nat} {W W' : World} : ∀ {ds : List Deferred}, Marks N W ds → (∀ D : Nat, W.heap[D]? = some (Obj.deferred (some [])) → W'.heap[D]? = some (Obj.deferred (some []))) → Marks N W' ds
  | [], _, _ => trivial
  | _ :: _, ⟨⟨D, h1, h2, h3, h4⟩, h5⟩, h => ⟨⟨D, h1, h2, h D h3, h4⟩, h5.keep h⟩
theorem Marks.off {N : Nat} {W W' : World} {S : List Nat} {ds : List Deferred} (h : Marks N W ds) (g : Off S W W') (hS : ∀ k ∈ S, ∃ c t, W.heap[k]? = some (.cells c t (0, 0))) : Marks N W' ds :=
  h.keep fun D hD => (g.block D (Array.getElem?_eq_some_iff.1 hD).1 (fun e => by obtain ⟨c, t, h2⟩ := hS D e; rw [hD] at h2; cases h2)).trans hD
theorem Marks.mem {N : Nat} {W : World} : ∀ {ds : List Deferred}, Marks N W ds → ∀ d ∈ ds, ∀ D, d.target = .collected D → W.heap[D]? = some (.deferred (some []))
  | [], _, d, hd, _, _ => by cases hd
  | _ :: _, ⟨⟨D, h1, h2, h3, h4⟩, h5⟩, d, hd, E, hE => by
    rcases List.mem_cons.1 hd with rfl | hd
    · rw [h1] at hE
      injection hE with hE
      subst hE
      exact h3
    · exact h5.mem d hd E hE
theorem Marks.put {N : Nat} {W : World} {D : Nat} {o : Obj} : ∀ {ds : List Deferred}, Marks N W ds → (∀ d' ∈ ds, d'.target ≠ .collected D) → Marks N (W.putObj D o) ds
  | [], _, _ => trivial
  | d :: _, ⟨⟨E, h1, h2, h3, h4⟩, h5⟩, h => ⟨⟨E, h1, h2, ((grownBy_putObj' W D o).block E (Array.getElem?_eq_some_iff.1 h3).1 (fun e => by
      injection e with e
      exact h d (by simp) (by rw [h1, e]))).trans h3, h4⟩, h5.put (fun d' hd' => h d' (by simp [hd']))⟩
/-- a frame that leaves through such marks -/
theorem leaves_marks {F : Fence} {n : Nat} {P : Program} {fn : Func} {tmps : Array Value} {R : Ending → World → Prop} {N : Nat} : ∀ (ds : List Deferred) (W : World), Marks N W ds →
    (∀ W', Below N W W' → LeavesIn F n P fn tmps R [] .returning W') → LeavesInM F n P fn tmps R ds .returning W
  | [], W, _, h => h W (Below.refl _ _)
  | d :: ds, W, ⟨⟨D, h1, h2, h3, h4⟩, h5⟩, h => by
    refine ⟨by simp, .inl ⟨D, _, by rw [h1], run_takeDeferred h3, ?_⟩⟩
    refine leaves_marks ds _ (h5.put h4) (fun W' hW' => h W' ?_)
    exact ((Below.refl N W).grown (grownBy_putObj' W D (.deferred none)) (by have := (Array.getElem?_eq_some_iff.1 h3).1; omega) (fun k e => by cases e; exact h2)).trans hW'
/-- the heights as far as k, in a block of one's own; what else there is -/
structure HW (w : World) (g B i : Nat) (ns : List Nd) (ds : List Deferred) (k : Nat) (wr : World) : Prop where
  below : Below w.heap.size w wr
  row : EB .i64 3 wr g (hl (ns.take k) ++ List.replicate (i + 1 - k) 0)
  box : wr.cell? ⟨B, 0, none⟩ = some (.slice (some ⟨g, 0, none⟩) (i + 1) (i + 1))
  marks : Marks w.heap.size wr ds
/-- heights, one that is being told, and those that are not told yet -/
def hst {p : Int → Prop} (H : List Int) (z : Nat) (pre : List { x : Int // p x }) : List Int := H ++ [(pre.map (·.1)).foldl (hUp H) 0] ++ List.replicate z 0
theorem hst_cur {p : Int → Prop} (H : List Int) (z : Nat) (pre : List { x : Int // p x }) : (hst H z pre)[H.length]? = some ((pre.map (·.1)).foldl (hUp H) 0) := by
  unfold hst
  rw [List.append_assoc, List.getElem?_append_right (Nat.le_refl _), Nat.sub_self]
  rfl
theorem hst_old {p : Int → Prop} (H : List Int) (z : Nat) (pre : List { x : Int // p x }) {j : Nat} (hj : j < H.length) : (hst H z pre)[j]? = H[j]? := by
  unfold hst
  rw [List.append_assoc, List.getElem?_append_left hj]
theorem hst_set {p : Int → Prop} (H : List Int) (z : Nat) (pre : List { x : Int // p x }) (x : { x : Int // p x }) {v : Int} (hv : v = hUp H ((pre.map (·.1)).foldl (hUp H) 0) x.1) : (hst H z pre).set H.length v = hst H z (pre ++ [x]) := by
  subst hv
  unfold hst
  rw [List.append_assoc, List.append_assoc, List.set_append_right _ _ (Nat.le_refl _), Nat.sub_self, List.map_append, List.foldl_append]
  rfl
theorem hUp_at {H : List Int} {j : Nat} {h : Int} (e : H[j]? = some h) (a : Int) : hUp H a (j : Int) = max a (h + 1) := by
  unfold hUp hOf
  rw [Int.toNat_natCast, List.getD_eq_getElem?_getD, e]
  rfl
theorem hst_all {n : Nd} {N : List Nd} {k : Nat} (e : N[k]? = some n) (z : Nat) {ys : List { x : Int // x ∈ ksL n }} (h : ys.map (·.1) = ksL n) : hst (hl (N.take k)) z ys = hl (N.take (k + 1)) ++ List.replicate z 0 := by
  unfold hst
  rw [h, List.take_add_one, e]
  show _ = hl (N.take k ++ [n]) ++ _
  rw [hl_snoc]
  rfl
theorem ownFrom_EB {β : Type} {B g : Nat} {k : IntKind} {t : TypeId} {f : β → List Int} : OwnFrom B (fun s W => Hid (EB k t W g (f s))) := fun _ _ _ _ h hg hr =>
  Lib.hid ((hg.block g h.out.lt (fun e => by
    obtain ⟨_, o, ho, hc⟩ := hr g e.symm
    rw [show _ = _ from h.out] at ho
    cases ho
    cases hc)).trans h.out)

def pair (a b : Int) : Value := .tuple #[.int .i64 a, .int .i64 b]

set_option maxRecDepth 100000 in
set_option maxHeartbeats 3200000 in
theorem Height_any (w : World) (p : Option Addr) (c : Nat) (ns : List Nd) (i : Nat) (hx : NdS w p ns) (hlen : ns.length ≤ 8192) (hR : Rt ns) (hi : i < ns.length) :
    Calls Try.prog 23 #[.slice p ns.length c, .int .i64 i] w fun e w' => ∃ h, e = .returned (pair h 0) ∧ (hl ns)[i]? = some h ∧ Below w.heap.size w w' := by
  have HC := Lib.hid (Right_any w p c ns hx hlen)
  rw [(rtB_iff ns).2 hR] at HC
  have HX := Lib.hid hx
  obtain ⟨d, hd⟩ : ∃ d, d = ns.length := ⟨_, rfl⟩
  have HD := Lib.hid hd
  rw [← hd] at HC hlen hi
  rw [← hd]
  have HRT := Lib.hid hR
  have hiz : (i : Int) < d := by omega
  have hmk : ∀ w : World, (Instr.makeSlice 29 (.int .i64 ((i : Int) + 1)) (.int .i64 ((i : Int) + 1))).run Try.prog w = .ok (.slice (some ⟨w.heap.size, 0, none⟩) (i + 1) (i + 1)) (w.alloc (.cells (madeCells #[.int .i64 0] (i + 1)) 3)) := fun w => mkI w (i + 1) (i + 1) (Nat.le_refl _) (by omega)
  clear hd hx hR
  unfold pair
  refine (callsIn_wide (n := 9)).1 ?_
  refine callsIn_of_wp_marks Try.func23 rfl trivial ?_ rfl
  simp only [Try.ntmps23, List.size_toArray, List.length_cons, List.length_nil, Nat.reduceAdd, Nat.reduceSub, Array.replicate_succ, Array.replicate_zero, List.push_toArray, List.append_toArray, List.nil_append, List.cons_append]
  gi_wp2_with (refine ⟨trivial, ?_⟩; gi_at_call 22; refine (callsIn_wide.2 HC.out).mono ?_; rintro e w1 ⟨rfl, hb⟩)
  generalize Value.bool (decide ((i : Int) < 0) || decide (d ≤ i)) = x3
  generalize Value.bool (decide (d ≤ i)) = x2
  generalize Value.bool (decide ((i : Int) < 0)) = x1
  refine wpIn_loop (fun a' wr => ∃ (u25 u7 u8 u26 u27 u28 u29 u30 u31 u32 u33 u34 u35 u36 u37 u38 u39 u40 u41 u42 u43 u44 u45 u46 u47 : Value) (ds : List Deferred), (∃ k : Nat, k ≤ i + 1 ∧ u25 = .int .i64 k ∧ Hid (HW w w1.heap.size (w1.heap.size + 1) i ns ds k wr)) ∧ a' = { tmps := #[Value.slice p d c, Value.int .i64 (i : Int), undef, undef, Value.int .i64 0, Value.int .i64 0, Value.pointer (some ⟨w1.heap.size + 1, 0, none⟩), u7, u8, Value.slice p d c, Value.bool true, Value.bool false, Value.int .i64 (i : Int), x1, x1, Value.int .i64 (i : Int), Value.slice p d c, Value.int .i64 (d : Int), x2, x3, Value.int .i64 (i : Int), Value.int .i64 ((i : Int) + 1), Value.slice (some ⟨w1.heap.size, 0, none⟩) (i + 1) (i + 1), Value.slice (some ⟨w1.heap.size, 0, none⟩) (i + 1) (i + 1), Value.int .i64 ((i : Int) + 1), u25, u26, u27, u28, u29, u30, u31, u32, u33, u34, u35, u36, u37, u38, u39, u40, u41, u42, u43, u44, u45, u46, u47, undef, undef, undef, undef], defers := ds })
    (fun a' _ => i + 1 - (intOf (a'.tmps.getD 25 undef)).toNat) ?start ?round
  case start =>
    (repeat apply Exists.intro)
    refine ⟨?_, rfl⟩
    refine ⟨0, Nat.zero_le _, rfl, Lib.hid ⟨?_, ?_, ?_, trivial⟩⟩
    · exact (hb.trans (((Below.refl _ w1).alloc (Nat.le_refl _) _).mono hb.size)).alloc (by have := hb.size; simp; omega) _
    · have := (EB.made .i64 3 w1 (i + 1)).all (.cells #[.slice (some ⟨w1.heap.size, 0, none⟩) (i + 1) (i + 1)] 29)
      simpa [hl] using this
    · have := (one_new (w1.alloc (.cells (madeCells #[.int .i64 0] (i + 1)) 3)) (.slice (some ⟨w1.heap.size, 0, none⟩) (i + 1) (i + 1)) 29).1
      rw [World.size_alloc] at this
      exact this
  case round =>
    intro _ wr hinv
    obtain ⟨u25, u7, u8, u26, u27, u28, u29, u30, u31, u32, u33, u34, u35, u36, u37, u38, u39, u40, u41, u42, u43, u44, u45, u46, u47, ds, ⟨k, hk, rfl, H⟩, ha⟩ := hinv
    subst ha
    clear hmk
    by_cases hlt : k < i + 1
    · have hltz : (k : Int) < (i : Int) + 1 := by omega
      obtain ⟨n, hne⟩ : ∃ n, ns[k]? = some n := ⟨_, List.getElem?_eq_getElem (by have := HD.out; omega)⟩
      obtain ⟨b, off, rfl, h1⟩ := HX.out.at hne
      have hkd : (k : Int) < d := by omega
      have hn1 := h1.keep H.out.below h1.lt
      have n0 := hn1.c0
      have n1 := hn1.c1
      have n2 := hn1.c2
      have n3 := hn1.c3
      have n4 := hn1.c4
      have n5 := hn1.c5
      have n6 := hn1.c6
      have hbl : b < wr.heap.size := hn1.lt
      have hbn : ¬ b = wr.heap.size := by omega
      have hbn2 : ¬ wr.heap.size = b := by omega
      have HK := Lib.hid (fun X => kids_any n X)
      have HS := Lib.hid (kids_stopsM 8 (by omega) n)
      have HNE := Lib.hid hne
      have HKD := Lib.hid (fun x (hx : x ∈ ksL n) => HRT.out.kid hne hx)
      obtain ⟨kk, L, R, f, t, a, q⟩ := n
      simp only at n0 n1 n2 n3 n4 n5 n6
      unfold nv nvs at HK
      clear h1 hn1 hne
      gi_wp2_with (refine ⟨trivial, ?_⟩; gi_at_call 43; refine (callsIn_wide.2 (HK.out _)).mono ?_; rintro e w' ⟨rfl, rfl⟩)
      obtain ⟨W0, hW0⟩ : ∃ W0, ((wr.alloc (.cells #[.int .i64 (k : Int)] 3)).alloc (.cells #[.int .u8 kk, .int .i64 L, .int .i64 R, .int .i64 f, .int .i64 t, .int .i64 a, .int .i64 q] 50)) = W0 := ⟨_, rfl⟩
      have hwg : w.heap.size ≤ w1.heap.size := hb.size
      have hrg := H.out.row.lt
      have hBl := World.block_lt_of_cell? wr _ H.out.box
      have hsz : W0.heap.size = wr.heap.size + 2 := by rw [← hW0]; simp
      have hO0 : Off [] wr W0 := by rw [← hW0]; exact ((Off.refl _ wr).all _).all _
      have hN : N1 W0 (wr.heap.size + 1) 0 (kk, L, R, f, t, a, q) := by
        rw [← hW0]
        have := N1.new (wr.alloc (.cells #[.int .i64 (k : Int)] 3)) (kk, L, R, f, t, a, q) 50
        simpa [nvs] using this
      have cA : W0.cell? ⟨wr.heap.size, 0, none⟩ = some (.int .i64 (k : Int)) := by
        rw [← hW0]
        exact cell_al _ (one_new wr _ _).1
      have cB : W0.cell? ⟨w1.heap.size + 1, 0, none⟩ = some (.slice (some ⟨w1.heap.size, 0, none⟩) (i + 1) (i + 1)) := hO0.cell H.out.box (by simp)
      have hrow0 : EB .i64 3 W0 w1.heap.size (hl (ns.take k) ++ List.replicate (i + 1 - k) 0) := H.out.row.off hO0 (by simp)
      rw [hW0]
      have HSS := HS.out (wr.heap.size + 1) W0 (by omega) hN
      have HO0 := Lib.hid hO0
      clear hW0 HK HS hN hO0 n0 n1 n2 n3 n4 n5 n6 HC
      have hlk : (hl (ns.take k)).length = k := by rw [hl_len, List.length_take]; have := HD.out; omega
      have HLK := Lib.hid hlk
      clear hlk
      refine wpIn_rangeFunc_ownF rfl (by omega) (gf := 56) (lb := #[.pointer (some ⟨wr.heap.size + 1, 0, none⟩)]) rfl trivial (enters_of Try.func56 (by kernel_rfl) rfl)
        HSS kpB_t kpB_b (Below.refl _ _) (fun _ => rfl)
        (fun pre W => Hid (EB .i64 3 W w1.heap.size (hst (hl (ns.take k)) (i - k) pre)) ∧ Hid (Off [w1.heap.size] W0 W))
        (fun _ _ _ => False)
        (OwnFrom.and ownFrom_EB (fun s X Y row h1 h2 h3 => Lib.hid (ownFrom_off (Nat.le_refl _) s X Y row h1.out h2 h3)))
        (fun _ _ _ _ _ hs _ _ => hs)
        ⟨Lib.hid (hrow0.eq (by unfold hst; rw [show i + 1 - k = (i - k) + 1 by omega, List.replicate_succ]; simp)), Lib.hid (Off.refl _ _)⟩
        (fun x => { tmps := #[Value.slice (some ⟨b, off, none⟩) d c, Value.int .i64 (i : Int), undef, undef, Value.int .i64 0, Value.int .i64 0, Value.pointer (some ⟨w1.heap.size + 1, 0, none⟩), Value.pointer (some ⟨wr.heap.size, 0, none⟩), Value.int .i64 x.1, Value.slice (some ⟨b, off, none⟩) d c, Value.bool true, Value.bool false, Value.int .i64 (i : Int), x1, x1, Value.int .i64 (i : Int), Value.slice (some ⟨b, off, none⟩) d c, Value.int .i64 (d : Int), x2, x3, Value.int .i64 (i : Int), Value.int .i64 ((i : Int) + 1), Value.slice (some ⟨w1.heap.size, 0, none⟩) (i + 1) (i + 1), Value.slice (some ⟨w1.heap.size, 0, none⟩) (i + 1) (i + 1), Value.int .i64 ((i : Int) + 1), Value.int .i64 (k : Int), Value.bool true, Value.int .i64 (k : Int), Value.slice (some ⟨b, off, none⟩) d c, Value.int .i64 (k : Int), Value.pointer (some ⟨b, off + k * 7, none⟩), Value.agg #[.int .u8 kk, .int .i64 L, .int .i64 R, .int .i64 f, .int .i64 t, .int .i64 a, .int .i64 q], Value.func (.func 56) #[] #[.pointer (some ⟨wr.heap.size + 1, 0, none⟩)], Value.int .i64 x.1, u34, u35, u36, u37, u38, u39, u40, u41, u42, u43, u44, u45, u46, u47, undef, undef, undef, undef], defers := [] }) ?assign ?body ?done ?stop
      case assign =>
        intro l x W K hK
        gi_wp2
        exact hK
      case body =>
        rintro l pre ⟨x, hx⟩ W ⟨HR, HF⟩ _
        obtain ⟨hx0, hxm⟩ := HKD.out x hx
        obtain ⟨j, rfl⟩ : ∃ j : Nat, x = j := ⟨x.toNat, by omega⟩
        have hjk : j < k := by omega
        have cB' := HF.out.cell cB (by simp)
        have cA' := HF.out.cell cA (by simp; omega)
        obtain ⟨cur, hcur⟩ : ∃ cur, cur = (pre.map (·.1)).foldl (hUp (hl (ns.take k))) 0 := ⟨_, rfl⟩
        obtain ⟨hj, hje⟩ : ∃ h, (hl (ns.take k))[j]? = some h := ⟨_, List.getElem?_eq_getElem (by have := HLK.out; omega)⟩
        have ck : W.cell? ⟨w1.heap.size, k, none⟩ = some (.int .i64 cur) := HR.out.cell (by have := hst_cur (hl (ns.take k)) (i - k) pre; rw [HLK.out] at this; exact this.trans (by rw [hcur]))
        have cj : W.cell? ⟨w1.heap.size, j, none⟩ = some (.int .i64 hj) := HR.out.cell (by rw [hst_old _ _ _ (by have := HLK.out; omega)]; exact hje)
        have fk := HR.out.free k
        have hb1 := hl_bound (HRT.out.take k) j hj hje
        obtain ⟨hj', rfl⟩ : ∃ x : Nat, hj = x := ⟨hj.toNat, by omega⟩
        have hsw : IntKind.i64.wrap ((hj' : Int) + 1) = ((hj' + 1 : Nat) : Int) := by rw [IntWalk.i64_in _ (by omega)]; omega
        have g1 : (j : Int) < (i : Int) + 1 := by omega
        have HJE := Lib.hid hje
        have HCUR := Lib.hid hcur
        clear hje hcur
        dsimp only
        gi_wp2
        refine wpIn_region_tail 13 (by kernel_rfl) (by kernel_rfl) ?hp ?hout ?_
        case hp =>
          intro o ho
          simp only [List.mem_cons, List.not_mem_nil, or_false] at ho
          rcases ho with rfl | rfl | rfl | rfl | rfl | rfl | rfl | rfl | rfl | rfl | rfl | rfl | rfl | rfl <;>
            first | exact plain_move rfl | exact plain_load rfl | exact plain_indexAddr rfl | exact plain_binOp rfl | exact plain_max rfl | exact plain_store rfl
        case hout =>
          rintro ⟨_, _, h⟩
          exact h
        simp only [List.take_succ_cons, List.take_zero, List.drop_succ_cons, List.drop_zero]
        repeat still_step
        refine wpStill_nil ?_
        have HB2 := Lib.hid (show wr.heap.size + 1 ≠ w1.heap.size by omega)
        have HFIN : Hid (∀ v : Int, v = max cur ((hj' : Int) + 1) → KeepsOthers W (W.setCell ⟨w1.heap.size, k, none⟩ (.int .i64 v)).drew ∧ KpB (wr.heap.size + 1) W (W.setCell ⟨w1.heap.size, k, none⟩ (.int .i64 v)).drew ∧ Hid (EB .i64 3 (W.setCell ⟨w1.heap.size, k, none⟩ (.int .i64 v)).drew w1.heap.size (hst (hl (ns.take k)) (i - k) (pre ++ [⟨(j : Int), hx⟩]))) ∧ Hid (Off [w1.heap.size] W0 (W.setCell ⟨w1.heap.size, k, none⟩ (.int .i64 v)).drew)) := Lib.hid (fun v hv => by
          refine ⟨(KeepsOthers.setCell W ⟨w1.heap.size, k, none⟩ (.int .i64 v)).trans (KeepsOthers.drew _), fun q u e => (World.cell?_setCell_other _ _ _ _ (by simp <;> (have := HB2.out; omega))).trans e, Lib.hid ?_, Lib.hid ((HF.out.set _ _ (.inl (by simp))).drew)⟩
          have h5 := (HR.out.set k v).drew
          have h6 := hst_set (hl (ns.take k)) (i - k) pre ⟨(j : Int), hx⟩ (v := v) (by rw [hv, hUp_at HJE.out, ← HCUR.out])
          rw [HLK.out] at h6
          rw [h6] at h5
          exact h5)
        go_wp2
        · exact HFIN.out _ (by omega)
        · exact HFIN.out _ (by omega)
      case done =>
        rintro D ys W hD hS ⟨HR, HF⟩ hK
        have hHW : HW w w1.heap.size (w1.heap.size + 1) i ns ({ target := .collected D, args := #[] } :: ds) (k + 1) W := by
          have hOff : Off [w1.heap.size] wr W := (HO0.out.mono (by simp)).trans HF.out
          have hM := H.out.marks.off hOff (fun q hq => by
            simp at hq
            subst hq
            exact ⟨_, _, H.out.row⟩)
          have hBl2 : w.heap.size ≤ wr.heap.size := H.out.below.size
          refine ⟨H.out.below.trans (hOff.below (by omega) (by simp; omega)), ?_, HF.out.cell cB (by simp), ⟨⟨D, rfl, by omega, hK, fun d' hd' e => ?_⟩, hM⟩⟩
          · rw [show i + 1 - (k + 1) = i - k by omega, ← hst_all HNE.out (i - k) hS]
            exact HR.out
          · have h5 := H.out.marks.mem d' hd' D e
            have := (Array.getElem?_eq_some_iff.1 h5).1
            omega
        have HHW := Lib.hid hHW
        clear hHW
        gi_wp2
        exact ⟨⟨k + 1, by omega, by omega, HHW⟩, by simp [intOf]; omega⟩
      case stop =>
        rintro D c pre W _ _ h _
        exact h.elim
    · obtain rfl : k = i + 1 := by omega
      have hltz : ¬ (((i + 1 : Nat) : Int) < (i : Int) + 1) := by omega
      have cB := H.out.box
      obtain ⟨h, hhe⟩ : ∃ h, (hl ns)[i]? = some h := ⟨_, List.getElem?_eq_getElem (by rw [hl_len]; have := HD.out; omega)⟩
      have cg : wr.cell? ⟨w1.heap.size, i, none⟩ = some (.int .i64 h) := H.out.row.cell (by
        rw [List.getElem?_append_left (by rw [hl_len, List.length_take]; have := HD.out; omega), ← hl_take, List.getElem?_take, if_pos (by omega)]
        exact hhe)
      have HH := Lib.hid hhe
      clear hhe hb
      gi_wp2
      refine leaves_marks ds wr H.out.marks (fun W' hW' => ?_)
      exact ⟨_, results_tmp2 rfl _ _ _, h, by simp, HH.out, H.out.below.trans hW'⟩

set_option maxRecDepth 100000 in
set_option maxHeartbeats 1600000 in
theorem Height_pool (w : World) (p : Option Addr) (c : Nat) (ns : List Nd) (i : Int) (hx : NdS w p ns) (hlen : ns.length ≤ 8192) (hR : rtB ns = false) :
    Calls Try.prog 23 #[.slice p ns.length c, .int .i64 i] w fun e w' => e = .returned (pair 0 50) ∧ Below w.heap.size w w' := by
  have HC := Lib.hid (Right_any w p c ns hx hlen)
  rw [hR] at HC
  clear hx hR hlen
  unfold pair
  generalize ns.length = d at *
  go_enter Try.func23, Try.ntmps23
  go_wp2_with (go_at_call 22; (with_reducible refine HC.out.mono ?_); rintro e w1 ⟨rfl, hb⟩)
  go_ret2
  exact ⟨rfl, hb⟩
set_option maxRecDepth 100000 in
set_option maxHeartbeats 1600000 in
theorem Height_arg (w : World) (p : Option Addr) (c : Nat) (ns : List Nd) (i : Int) (hx : NdS w p ns) (hlen : ns.length ≤ 8192) (hR : rtB ns = true) (hi : ¬ (0 ≤ i ∧ i < ns.length)) :
    Calls Try.prog 23 #[.slice p ns.length c, .int .i64 i] w fun e w' => e = .returned (pair 0 2) ∧ Below w.heap.size w w' := by
  have HC := Lib.hid (Right_any w p c ns hx hlen)
  rw [hR] at HC
  clear hx hR hlen
  unfold pair
  generalize ns.length = d at *
  by_cases h1 : i < 0
  · clear hi
    go_enter Try.func23, Try.ntmps23
    go_wp2_with (go_at_call 22; (with_reducible refine HC.out.mono ?_); rintro e w1 ⟨rfl, hb⟩)
    go_ret2
    exact ⟨rfl, hb⟩
  · have h2 : (d : Int) ≤ i := by omega
    clear hi
    go_enter Try.func23, Try.ntmps23
    go_wp2_with (go_at_call 22; (with_reducible refine HC.out.mono ?_); rintro e w1 ⟨rfl, hb⟩)
    go_ret2
    exact ⟨rfl, hb⟩
end Go.Proofs.Ytmkmkndcndpfeaa
