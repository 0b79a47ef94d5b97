/-
  slices.Backward of a slice of numbers: what a loop over it is handed. No condition but those typed at each theorem.
-/
import Derived.Test.YtldmajifkmcdcaaGreatP3
import Derived.RangeFuncNested
import Derived.RangeFuncBound
import Derived.RangeFuncCalls
import Derived.RangeFuncLeaves
import Derived.Shelf.RegionOpen
import Derived.OwnWalkIn
import Derived.TacticsInMore
import Derived.LoopNIn
import Derived.LoopIn
import Derived.Test.YtldmajifkmcdcaaGreatVd
namespace Go.Proofs.YtldmajifkmcdcaaGreat.Lv
open Go.RowKit Go.Shelf
attribute [local go_sem] Oper.semAt_some
/-- what lies in these two blocks' cells lies so still -/
def Kp2 (B C : Nat) (W W' : World) : Prop := ∀ k i v, k = B ∨ k = C → W.cell? ⟨k, i, none⟩ = some v → W'.cell? ⟨k, i, none⟩ = some v
theorem kp2_t {B C : Nat} {X Y Z : World} (h : Kp2 B C X Y) (k : Kp2 B C Y Z) : Kp2 B C X Z := fun j i v hj e => k j i v hj (h j i v hj e)
theorem kp2_b {B C : Nat} {N : Nat} (W : World) (l : Nat) (o o' : Obj) (_ : N ≤ l) (h : W.heap[l]? = some o) (hc : o.isCells = false) (_ : o.isWalk = false) : Kp2 B C W (W.putObj l o') := fun _ _ _ _ e =>
  cell_kept e (grownBy_putObj' W l o') (fun r h2 => by cases h2; exact ⟨o, h, hc⟩)
theorem kp2_r {B C : Nat} (W : World) : Kp2 B C W W := fun _ _ _ _ e => e
/-- the places from behind -/
def bk (n k : Nat) : List Nat := (List.range k).map (fun i => n - 1 - i)
theorem bk_succ (n k : Nat) : bk n (k + 1) = bk n k ++ [n - 1 - k] := by simp [bk, List.range_succ]
theorem bk_len (n k : Nat) : (bk n k).length = k := by simp [bk]
set_option maxRecDepth 100000 in
set_option maxHeartbeats 1000000 in
theorem back_any (a : Option Addr) (len cap : Nat) (w : World) :
    Calls Tryz.prog 30 #[.slice a len cap] w fun e w' => e = .returned (.func (.func 58) #[] #[.pointer (some ⟨w.heap.size, 0, none⟩)]) ∧ w' = w.alloc (.cells #[.slice a len cap] 72) := by
  have hmf : ∀ (fn : Fn) (first cap : Array Value) (w : World), (Instr.makeFunc fn first cap).run Tryz.prog w = .ok (.func fn first cap) w := fun _ _ _ _ => rfl
  go_enter Tryz.func30, Tryz.ntmps30
  go_wp2
  go_ret
  exact ⟨rfl, rfl⟩
set_option maxRecDepth 100000 in
set_option maxHeartbeats 2000000 in
theorem back_stops (m : Nat) (hm : 1 ≤ m) (L : List Nat) (Bs b cap : Nat) (hl : L.length ≤ 1000) (w : World) (hB : Bs < w.heap.size) (hb : b < w.heap.size) (hBs : w.cell? ⟨Bs, 0, none⟩ = some (.slice (some ⟨b, 0, none⟩) L.length cap)) (hc : ∀ j k, L[j]? = some k → w.cell? ⟨b, j, none⟩ = some (.int .i64 (k : Nat))) :
    SeqStopsK Fence.wide m Tryz.prog 58 #[.pointer (some ⟨Bs, 0, none⟩)] (fun x : { j : Nat // j < L.length } => #[Value.int .i64 (x.1 : Nat), Value.int .i64 ((L.getD x.1 0 : Nat) : Int)]) (Kp2 Bs b) (fun xs => xs.map (·.1) = bk L.length L.length) (fun _ => True) L.length w := fun l J Jx W hW _ _ hY h0 => by
  have HC := Lib.hid (fun j k e => (hW.cell (p := ⟨b, j, none⟩) hb).trans (hc j k e))
  have HBs := Lib.hid ((hW.cell (p := ⟨Bs, 0, none⟩) hB).trans hBs)
  have HY := Lib.hid hY
  obtain ⟨n, hn⟩ : ∃ n, n = L.length := ⟨_, rfl⟩
  have HN := Lib.hid hn
  have HL := Lib.hid hl
  clear hc hBs hY hl hn
  refine callsIn_of_wp Tryz.func58 rfl trivial ?_ rfl
  simp only [Tryz.ntmps58, List.size_toArray, List.length_cons, List.length_nil, Nat.reduceAdd, Nat.reduceSub, Array.replicate_succ, Array.replicate_zero, List.push_toArray, List.append_toArray, List.nil_append, List.cons_append]
  have hx0 := HBs.out
  have hln := HL.out
  rw [← HN.out] at hx0 hln
  gi_wp2
  clear hx0
  gi_loopw [3] (fun iv wr => ∃ (k : Nat) (ys : List { j : Nat // j < L.length }), k ≤ n ∧ iv = .int .i64 ((n : Int) - 1 - (k : Int)) ∧ ys.map (·.1) = bk n k ∧ J ys wr ∧ Kp2 Bs b W wr)
    (fun iv _ => (intOf iv + 1).toNat)
  case atStart => exact ⟨0, [], Nat.zero_le _, by simp, rfl, h0, kp2_r _⟩
  case round =>
    obtain ⟨k, ys, hk, rfl, hys, hJ, hkp⟩ := hrel
    have hlen : ys.length = k := by rw [← bk_len n k, ← hys, List.length_map]
    have hbx : wr.cell? ⟨Bs, 0, none⟩ = some (.slice (some ⟨b, 0, none⟩) n cap) := by
      rw [HN.out]
      exact hkp _ _ _ (.inl rfl) HBs.out
    by_cases hlt : k < n
    · obtain ⟨p, hp⟩ : ∃ p : Nat, n - 1 - k = p := ⟨_, rfl⟩
      have hpn : p < L.length := by rw [← HN.out]; omega
      obtain ⟨v, hv⟩ : ∃ v, L[p]? = some v := ⟨_, List.getElem?_eq_getElem hpn⟩
      have hcx : wr.cell? ⟨b, p, none⟩ = some (.int .i64 (v : Nat)) := hkp _ _ _ (.inr rfl) (HC.out p v hv)
      have hgd : L.getD p 0 = v := by simp [List.getD, hv]
      obtain ⟨fn, tmps, assign, body, hy, hR⟩ := HY.out ys ⟨p, hpn⟩ wr hJ (by rw [hlen, ← HN.out]; exact hlt)
      dsimp only at hy
      rw [hgd] at hy
      have e2 : (n : Int) - 1 - (k : Int) = (p : Int) := by omega
      have hml : p < n := by omega
      rw [e2]
      have HE := Lib.hid e2
      have HP := Lib.hid hp
      clear e2 hp hgd hv
      gi_wp2
      refine hR.mono ?_
      rintro e W3 (⟨rfl, hJ3, hk3⟩ | ⟨rfl, hJx3⟩)
      · gi_wp2
        go_roundw
        case rel =>
          have q := HE.out
          exact ⟨k + 1, _, by omega, congrArg (Value.int .i64) (by omega), by rw [List.map_append, hys, bk_succ, HP.out]; rfl, hJ3, kp2_t hkp hk3⟩
        case measure => simp [intOf]
      · gi_wp2
        refine bodyPost_ret (results_none rfl _ _ _) rfl ?_
        exact ⟨⟨_, rfl⟩, .inr ⟨_, trivial, hJx3⟩⟩
    · obtain rfl : k = n := by omega
      have e2 : (k : Int) - 1 - (k : Int) = -1 := by omega
      rw [e2]
      clear e2
      gi_wp2
      go_end0
      exact ⟨⟨_, rfl⟩, .inl ⟨_, by rw [hys, HN.out], hJ⟩⟩
end Go.Proofs.YtldmajifkmcdcaaGreat.Lv
/-
  A point that is there is dropped. No condition but those typed at each theorem.
-/
namespace Go.Proofs.YtldmajifkmcdcaaGreat.Lv
open Go.RowKit Go.Sort Bd Go.Shelf
open Hp (upG upG_at upG_ne)
attribute [local go_sem] Oper.semAt_some
section
variable {w w' : World} {P : LoP} {RX A : List S3} {c : Int}
theorem row_ev2 {w : World} {base n : Nat} {e : TypeId} {size : Nat} {v : Value} {xs : List Value} (h : w.ownsRow base e size v n xs) (hn : 1 ≤ n) : ∃ g cap KVL, v = .slice (some ⟨g, 0, none⟩) n cap ∧ base ≤ g ∧ n ≤ cap ∧ EV e w g KVL ∧ ∀ (j : Nat) (u : Value), xs[j]? = some u → KVL[j]? = some u := by
  obtain ⟨h1, h2⟩ := h
  rcases h2 with ⟨rfl, h0⟩ | ⟨g, cap, cur, hv, hg, hh, hnc, hcm, hsz, htk⟩
  · omega
  · refine ⟨g, cap, cur.toList, hv, hg, hnc, by unfold EV; simpa using hh, fun j u e => ?_⟩
    rw [← htk, List.getElem?_take] at e
    split at e
    · exact e
    · cases e
/-- a step that leaves all but one block of cells -/
theorem off_keepsFrom {kb B : Nat} {W W' : World} {cs : Array Value} {t : TypeId} (h : Off [kb] W W') (hk : W.heap[kb]? = some (.cells cs t (0, 0))) : KeepsFrom B W W' :=
  ⟨h.size, fun k o _ e ho => (h.block k (Array.getElem?_eq_some_iff.1 e).1 (fun hm => by
    obtain rfl := List.mem_singleton.1 hm
    rw [hk] at e
    cases e
    cases ho)).trans e⟩
theorem grown_off {X Y : World} {row : Option Nat} (h : X.grownBy Y row) : Off row.toList X Y :=
  ⟨h.os, h.tape, h.output, h.size, fun k hk hn => h.block k hk (fun e => hn (by rw [← e]; simp))⟩
/-- these are right so far -/
def Rgt {n : Nat} (pre : List { j : Nat // j < n }) : Prop := pre.map (·.1) = bk n pre.length
theorem Rgt.snoc {n : Nat} {pre : List { j : Nat // j < n }} {x : { j : Nat // j < n }} (h : Rgt (pre ++ [x])) : Rgt pre ∧ x.1 = n - 1 - pre.length := by
  unfold Rgt at *
  rw [List.map_append, List.length_append, List.length_singleton, bk_succ] at h
  obtain ⟨h1, h2⟩ := List.append_inj h (by rw [List.length_map, bk_len])
  exact ⟨h1, by simpa using h2⟩
/-- in the midst of the way up -/
structure DwM (w W : World) (P : LoP) (RX A : List S3) (cap : Nat) (s : S3) (ini : List Nat) (b0 : Nat) (pre : List { j : Nat // j < ini.length }) : Prop where
  sh : LoS W P RX A.length
  kn : ∃ g, KlM W P.kb cap (2 * RX.length - 1) RX g ∧ (Rgt pre → DrI RX (drp A s) g (ini.take (ini.length - pre.length)))
  bx : W.cell? ⟨b0, 0, none⟩ = some (.pointer (some ⟨P.B, 0, none⟩))
  of : Off [P.kb] w W
theorem DwM.own {ini : List Nat} {cap : Nat} {s : S3} {b0 N : Nat} (hN : w.heap.size ≤ N) : OwnFrom N (fun (pre : List { j : Nat // j < ini.length }) W => DwM w W P RX A cap s ini b0 pre) := by
  rintro pre X Y row ⟨h1, ⟨g, h2, h3⟩, h4, h5⟩ hg hrow
  have ho := grown_off hg
  have cel : ∀ {k : Nat} {cs : Array Value} {t : TypeId}, X.heap[k]? = some (.cells cs t (0, 0)) → k ∉ row.toList := fun {k cs t} e hm => by
    obtain ⟨o, ho, hc⟩ := (hrow k (by simpa using hm)).2
    rw [e] at ho
    cases ho
    cases hc
  obtain ⟨cc, hty⟩ := h2.ty
  refine ⟨h1.off ho (cel h1.ev) (fun k hk => ?_), ⟨g, h2.off ho (cel hty), h3⟩, cell_kept h4 hg (fun r e => (hrow r e).2), h5.via ho (fun k hk hm => ?_)⟩
  · rcases mem_rblk.1 hk with e | e | e
    · obtain ⟨cc, e⟩ := row_type h1.row.ra e
      exact cel e
    · obtain ⟨cc, e⟩ := row_type h1.row.rn e
      exact cel e
    · obtain ⟨cc, e⟩ := row_type h1.yr e
      exact cel e
  · have := (hrow k (by simpa using hm)).1
    omega
/-- a drop is done -/
theorem LoM.dropped {w w5 : World} {cap : Nat} {s : S3} {g : Nat → Option S3} (h : LoM w P RX A) (hkv : P.kv = .slice (some ⟨P.kb, 0, none⟩) (2 * RX.length - 1) cap) (hS : LoS w5 P RX A.length) (hK : KlM w5 P.kb cap (2 * RX.length - 1) RX g) (hI : LwI RX (drp A s) g (2 * RX.length - 1)) (ho : Off [P.kb] w w5) (hn : RX.length ≠ 0) {cs : Array Value} (hkt : w.heap[P.kb]? = some (.cells cs 79 (0, 0))) :
    LoM (w5.setCell ⟨P.B, 6, none⟩ (.int .i64 ((drp A s).length : Nat))) P RX (drp A s) := by
  have hset := (Off.refl [P.B] w5).set ⟨P.B, 6, none⟩ (.int .i64 ((drp A s).length : Nat)) (.inl (by simp))
  have tB : ∀ {t : TypeId} {c : Array Value} {x : Nat}, w5.heap[x]? = some (.cells c t (0, 0)) → t ≠ 68 → x ∉ [P.B] := fun {t c x} e ht hm => types_ne e hS.ev ht (List.mem_singleton.1 hm)
  obtain ⟨d, pp, hF⟩ := h.fr
  have hF5 := hF.block (ho.block _ hF.lt (fun hm => types_ne hF hkt (by decide) (List.mem_singleton.1 hm)))
  obtain ⟨cc, hty⟩ := hK.ty
  refine ⟨⟨hS.ev.set 6 _, hS.row.off hset (fun k hk => ?_) (fun k hk => ?_), row_offS hS.yr hset (fun k hk => ?_), hS.ord, hS.few⟩, ⟨d, pp, hF5.block (hset.block _ hF5.lt (tB hF5 (by decide)))⟩, fun _ => ⟨cap, g, hkv, hK.off hset (tB hty (by decide)), hI⟩, fun h0 => absurd h0 hn, h.wf, fun x hx => h.sub x (mem_drp.1 hx).1, h.rga.sub List.filter_sublist⟩
  · obtain ⟨cc, e⟩ := row_type hS.row.ra hk
    exact tB e (by decide)
  · obtain ⟨cc, e⟩ := row_type hS.row.rn hk
    exact tB e (by decide)
  · obtain ⟨cc, e⟩ := row_type hS.yr hk
    exact tB e (by decide)
set_option maxRecDepth 100000 in
set_option maxHeartbeats 6400000 in
theorem ldrop_true (h : LoM w P RX A) {cap : Nat} {g : Nat → Option S3} (hkv : P.kv = .slice (some ⟨P.kb, 0, none⟩) (2 * RX.length - 1) cap) (hK : KlM w P.kb cap (2 * RX.length - 1) RX g) (hI : LwI RX A g (2 * RX.length - 1)) (s : S3) (hs : s ∈ A) :
    Calls Tryz.prog 15 #[.pointer (some ⟨P.B, 0, none⟩), tv s] w fun e w' => e = .returned (.bool true) ∧ LoM w' P RX (drp A s) ∧ Off [P.B, P.kb] w w' := by
  have hsr := h.sub s hs
  have hx := h.s.idx hsr
  have ht := at_idx hsr
  have hix := (List.getElem?_eq_some_iff.1 ht).1
  have hl := h.s.few
  obtain ⟨ini, last, hw, ⟨w1, w2', hlt⟩, hin, hdesc, hmem⟩ := way (n := RX.length) (i := RX.idxOf s) (by omega) hix
  obtain ⟨s0, hg⟩ : ∃ s0, g last = some s0 := by
    rcases hI last hlt with ⟨-, h1⟩ | ⟨s0, h1, -⟩
    · have : s ∈ sg RX A (lo RX.length last) (hi RX.length last) := mem_sg.2 ⟨hs, by omega, by omega⟩
      rw [h1] at this
      cases this
    · exact ⟨s0, h1⟩
  have hf : RX.length ≤ 8192 := by omega
  have HM := Lib.hid (fun X (hb : Below w.heap.size w X) => lmade_yes (h.s.keep hb))
  have HF := Lib.hid (fun X (hb : Below w.heap.size w X) => find_any (o := 1) ((h.s.keep hb).ev.cell (i := 1) rfl) ((h.s.keep hb).ev.cell (i := 2) rfl) (h.s.keep hb).row h.s.ord hf s.1 s.2.2)
  rw [hx] at HF
  obtain ⟨yg, yo, yc, hys, y0⟩ := h.s.y ht
  have c3 := h.s.ev.cell (i := 3) rfl
  have c4 := h.s.ev.cell (i := 4) rfl
  have c5 := h.s.ev.cell (i := 5) rfl
  rw [hys] at c3
  rw [hkv] at c5
  have HP := Lib.hid (fun X (hb : Below w.heap.size w X) => (show Calls Tryz.prog 29 #[.pointer (some ⟨P.F, 0, none⟩), .int .i64 (RX.idxOf s : Nat)] X fun e w' => ∃ v, e = .returned (tupP v 0) ∧ w'.ownsRow X.heap.size 3 1 v (pt (RX.idxOf s) (tr RX.length) 0 0).length ((ints (pt (RX.idxOf s) (tr RX.length) 0 0)).map (Value.int .i64)) ∧ Below X.heap.size X w' by
    obtain ⟨d, pp, hF⟩ := h.fr
    exact FPath_any X P.F RX.length d pp (hF.keep hb) _ hix (by omega)))
  have HH := Lib.hid h
  have HK := Lib.hid hK
  have HKV := Lib.hid hkv
  have HLT := Lib.hid hlt
  have HIN := Lib.hid hin
  have HDE := Lib.hid hdesc
  have HD0 := Lib.hid (DrI.start hI h.sub hs ⟨w1, w2'⟩ hmem)
  rw [hw] at HP
  have hpl : (ini ++ [last]).length ≤ 400 := by
    rw [← hw]
    exact Nat.le_trans (pt_len _ _ _ _).2 (Nat.le_trans (ht_le _) (by rw [lv_tr (by omega)]; exact hl))
  have n7 := hK.hc hlt
  rw [hg] at n7
  unfold bv bi at n7
  simp only at n7
  unfold tupP at HP
  have hlen := drp_one h.rga.once hs
  have hz : (A.length : Int) - 1 = ((drp A s).length : Nat) := by omega
  have hal : A.length ≤ 400 := Nat.le_trans h.le hl
  have HSZ := Lib.hid h.s.ev.lt
  have HKT := Lib.hid hK.ty
  obtain ⟨sv, hsv⟩ : ∃ sv, sv = s := ⟨_, rfl⟩
  have HSV := Lib.hid hsv
  rw [← hsv] at HD0 hz hlen ⊢
  obtain ⟨dl, hdl⟩ : ∃ dl, dl = (drp A sv).length := ⟨_, rfl⟩
  have HDL := Lib.hid hdl
  rw [← hdl] at hz
  obtain ⟨al, hal2⟩ : ∃ al, al = A.length := ⟨_, rfl⟩
  have HAL := Lib.hid hal2
  rw [← hal2] at hz hal
  generalize RX.idxOf s = i at *
  have hq0 : ((RX.idxOf s0 : Nat) : Int) ≠ -1 := by omega
  have hqb : (((RX.idxOf s0 : Nat) : Int) == -1) = false := by rw [beq_eq_false_iff_ne]; exact hq0
  generalize RX.idxOf s0 = i0 at *
  obtain ⟨m, hm⟩ : ∃ m, m = 2 * RX.length - 1 := ⟨_, rfl⟩
  have HMM := Lib.hid hm
  have hm2 : m ≤ 1000 := by omega
  rw [← hm] at c5 hlt
  obtain ⟨n, hn⟩ : ∃ n, n = RX.length := ⟨_, rfl⟩
  have HNN := Lib.hid hn
  rw [← hn] at c3 hix hl
  rw [List.length_append, List.length_singleton] at HP hpl
  obtain ⟨il, hil⟩ : ∃ il, il = ini.length := ⟨_, rfl⟩
  have HIL := Lib.hid hil
  rw [← hil] at HP hpl
  obtain ⟨B, hB⟩ : ∃ B, B = P.B := ⟨_, rfl⟩
  have HBB := Lib.hid hB
  rw [← hB] at HM HF c3 c4 c5
  obtain ⟨F, hF⟩ : ∃ F, F = P.F := ⟨_, rfl⟩
  rw [← hF] at HP c4
  obtain ⟨kb, hkb⟩ : ∃ kb, kb = P.kb := ⟨_, rfl⟩
  have HKB := Lib.hid hkb
  rw [← hkb] at c5 n7
  obtain ⟨x, y, id⟩ := s
  unfold tv
  rw [hsv]
  simp only at HF y0 ⊢
  rw [← hsv, ← hB]
  clear h hK hI hs hsr hx ht hw w1 w2' hin hdesc hmem hg hf hys hkv hlen hdl hal2 hm hn hil hB hF hkb hsv
  refine (callsIn_wide (n := 9)).1 ?_
  refine callsIn_of_wp_marks Tryz.func15 rfl trivial ?_ rfl
  simp only [Tryz.ntmps15, List.size_toArray, List.length_cons, List.length_nil, Nat.reduceAdd, Nat.reduceSub, Array.replicate_succ, Array.replicate_zero, List.push_toArray, List.append_toArray, List.nil_append, List.cons_append]
  refine wpIn_wide.2 ?_
  obtain ⟨Y, hY⟩ : ∃ Y, Y = (w.alloc (.cells #[.pointer (some ⟨B, 0, none⟩)] 25)).alloc (.cells #[.int .i64 x, .int .i64 y, .int .u32 id] 34) := ⟨_, rfl⟩
  have hYB : Below w.heap.size w Y := hY ▸ ((Below.refl _ w).alloc (Nat.le_refl _) _).alloc (by simp) _
  have hp : Y.cell? ⟨w.heap.size, 0, none⟩ = some (.pointer (some ⟨B, 0, none⟩)) := by rw [hY]; exact cell_al _ (one_new w _ _).1
  have hT1 : T1 Y (w.heap.size + 1) 0 (x, y, id) := by
    have := T1.new (w.alloc (.cells #[.pointer (some ⟨B, 0, none⟩)] 25)) (x, y, id) 34
    rw [World.size_alloc] at this
    rw [hY]
    exact this
  go_upto_region 1 with fail
  rw [← hY]
  clear hY
  have HYB := Lib.hid hYB
  have k0 := hT1.c0
  have k1 := hT1.c1
  have k2 := hT1.c2
  simp only [Nat.zero_add] at k0 k1 k2
  have HMW := Lib.hid (HM.out Y hYB)
  clear hT1 hYB
  go_upto_region 3 with (go_at_call 26; (with_reducible refine HMW.out.mono ?_); rintro e wM ⟨rfl, hM⟩; subst wM)
  have inst : Nonempty (Wd (Bw Y)) := ⟨⟨Y, Below.refl _ _⟩⟩
  have bp : ∀ z : Wd (Bw Y), z.w.cell? ⟨w.heap.size, 0, none⟩ = _ := fun z => Bw.cell z hp
  have b0 : ∀ z : Wd (Bw Y), z.w.cell? ⟨w.heap.size + 1, 0, none⟩ = _ := fun z => Bw.cell z k0
  have b1 : ∀ z : Wd (Bw Y), z.w.cell? ⟨w.heap.size + 1, 1, none⟩ = _ := fun z => Bw.cell z k1
  have b2 : ∀ z : Wd (Bw Y), z.w.cell? ⟨w.heap.size + 1, 2, none⟩ = _ := fun z => Bw.cell z k2
  have HFC := Lib.hid (fun z : Wd (Bw Y) => HF.out z.w (HYB.out.trans (z.h.mono HYB.out.size)))
  refine wp_region_wd (Bw Y) (by kernel_rfl) (by kernel_rfl) ((Below.refl _ Y).drew) ?_
  repeat (first
    | go_big_quiet_step (first | (go_at_call 28; with_reducible exact calls_wd (fun _ _ h hb => h.keep hb) _ (HFC.out _)))
    | quiet_step (first | (go_at_call 28; with_reducible exact calls_wd (fun _ _ h hb => h.keep hb) _ (HFC.out _))))
  refine wpQuiet_nil ?_
  rintro _ ⟨z, rfl⟩
  have HB2 := Lib.hid (HYB.out.trans (z.h.mono HYB.out.size))
  have mp := bp z
  have m1 := b1 z
  generalize z.w = w2 at *
  clear bp b0 b1 b2 HFC inst HYB k0 k1 k2 hp
  have d3 := (HB2.out.cell (World.block_lt_of_cell? _ _ c3)).trans c3
  have d4 := (HB2.out.cell (World.block_lt_of_cell? _ _ c4)).trans c4
  have dy := (HB2.out.cell (World.block_lt_of_cell? _ _ y0)).trans y0
  go_upto_region 4 with fail
  go_quiet (fail)
  generalize hwd : World.drewN w2 _ = wd
  have hbd : Below w2.heap.size w2 wd := hwd ▸ below_drewN (Below.refl _ w2) _
  have HB4 := Lib.hid (HB2.out.trans (hbd.mono HB2.out.size))
  have mp4 := (hbd.cell (World.block_lt_of_cell? _ _ mp)).trans mp
  have d44 := (hbd.cell (World.block_lt_of_cell? _ _ d4)).trans d4
  have HPW := Lib.hid (HP.out wd HB4.out)
  clear hwd hbd d3 d4 dy mp m1 y0 c3 c4
  go_upto_region 8 with (go_at_call 29; (refine HPW.out.mono ?_); rintro e w3 ⟨v, rfl, hr, hb⟩; obtain ⟨gp, c2, KVL, rfl, hgb, hcap, hev, hget⟩ := row_ev2 hr (by omega); have HEV := Lib.hid hev; have HGT := Lib.hid hget; have HGB := Lib.hid hgb; have HB3 := Lib.hid (HB4.out.trans (hb.mono HB4.out.size)); have mp3 := (hb.cell (World.block_lt_of_cell? _ _ mp4)).trans mp4; clear hr hb hev hget hgb)
  have HCE : Hid (∀ j k, (ini ++ [last])[j]? = some k → w3.cell? ⟨gp, j, none⟩ = some (.int .i64 (k : Nat))) := Lib.hid (fun j k e => HEV.out.cell (HGT.out j _ (by unfold ints; rw [List.getElem?_map, List.getElem?_map, e]; rfl)))
  have e0 := HCE.out il last (by rw [HIL.out, List.getElem?_append_right (Nat.le_refl _)]; simp)
  have d5 := (HB3.out.cell (World.block_lt_of_cell? _ _ c5)).trans c5
  have d7 := (HB3.out.cell (World.block_lt_of_cell? _ _ n7)).trans n7
  clear d44 mp4 HPW c5 n7
  go_region
  obtain ⟨w4, hw4⟩ : ∃ w4, w4 = w3.drew := ⟨_, rfl⟩
  rw [← hw4]
  have hb4 : Below w3.heap.size w3 w4 := hw4 ▸ (Below.refl _ w3).drew
  clear hw4
  have HB5 := Lib.hid (HB3.out.trans (hb4.mono HB3.out.size))
  have HK4 := Lib.hid (HK.out.keep HB5.out)
  have d8 := (hb4.cell (World.block_lt_of_cell? _ _ d7)).trans d7
  have f8 := HK4.out.free (last * 8 + 7)
  rw [← HKB.out] at f8
  obtain ⟨W1, hW1⟩ : ∃ W1, W1 = w4.setCell ⟨kb, last * 8 + 7, none⟩ (.int .i64 (-1)) := ⟨_, rfl⟩
  have hO1 : Off [kb] w4 W1 := hW1 ▸ (Off.refl [kb] w4).set _ _ (.inl (by simp))
  have HK1 : Hid (KlM W1 P.kb cap (2 * RX.length - 1) RX (upG g last none)) := Lib.hid (by
    rw [hW1, HKB.out]
    exact HK4.out.up (o := none) HLT.out (by simp))
  clear d5 d7 e0
  go_upto_region 12 with fail
  rw [← hW1]
  clear hW1 d8 f8
  have hkgp : gp ≠ kb := by
    obtain ⟨cc, e⟩ := (HK.out.keep HB3.out).ty
    rw [← HKB.out] at e
    exact types_ne HEV.out e (by decide)
  have HC1 : Hid (∀ j k, (ini ++ [last])[j]? = some k → W1.cell? ⟨gp, j, none⟩ = some (.int .i64 (k : Nat))) := Lib.hid (fun j k e => hO1.cell ((hb4.cell (World.block_lt_of_cell? _ _ (HCE.out j k e))).trans (HCE.out j k e)) (by simpa using hkgp))
  have HOW : Hid (Off [P.kb] w W1) := Lib.hid (by
    rw [← HKB.out]
    exact (Off.of (S := [kb]) HB5.out (Nat.le_refl _)).trans hO1)
  have HSW : Hid (LoS W1 P RX A.length) := Lib.hid (by
    obtain ⟨cc, hty⟩ := HKT.out
    have far := HH.out.s.far hty (by decide) (by decide) (by decide)
    exact HH.out.s.off HOW.out (fun hm => far.1 (List.mem_singleton.1 hm).symm) (fun k hk hm => far.2 k hk (List.mem_singleton.1 hm).symm))
  have mpw : W1.cell? ⟨w.heap.size, 0, none⟩ = some (.pointer (some ⟨B, 0, none⟩)) := hO1.cell ((hb4.cell (World.block_lt_of_cell? _ _ mp3)).trans mp3) (by
    have h1 := HK.out.lt
    rw [← HKB.out] at h1
    simp
    omega)
  have HSL : Hid (w.heap.size < W1.heap.size ∧ gp < W1.heap.size) := Lib.hid ⟨World.block_lt_of_cell? _ _ mpw, World.block_lt_of_cell? _ _ (HC1.out il last (by rw [HIL.out, List.getElem?_append_right (Nat.le_refl _)]; simp))⟩
  clear hb4 mp3 hO1 hkgp
  go_wp2_with (go_at_call 30; (refine (back_any _ _ _ _).mono ?_); rintro e wB ⟨rfl, rfl⟩)
  obtain ⟨W0, hW0⟩ : ∃ W0, W0 = W1.alloc (.cells #[.slice (some ⟨gp, 0, none⟩) il c2] 72) := ⟨_, rfl⟩
  have hb0 : Below W1.heap.size W1 W0 := hW0 ▸ (Below.refl _ W1).alloc (Nat.le_refl _) _
  have hs0 : W0.heap.size = W1.heap.size + 1 := by rw [hW0]; simp
  have hBs : W0.cell? ⟨W1.heap.size, 0, none⟩ = some (.slice (some ⟨gp, 0, none⟩) il c2) := by rw [hW0]; exact (one_new W1 _ _).1
  rw [← hW0]
  clear hW0
  rw [HIL.out] at hBs
  have HST := back_stops 8 (by omega) ini W1.heap.size gp c2 (by rw [← HIL.out]; omega) W0 (by omega) (by have := HSL.out; omega) hBs (fun j k e => (hb0.cell (HSL.out.2)).trans (HC1.out j k (by rw [List.getElem?_append_left (List.getElem?_eq_some_iff.1 e).1]; exact e)))
  have H00 : DwM w W0 P RX A cap sv ini w.heap.size [] := by
    refine ⟨HSW.out.keep hb0, ⟨_, HK1.out.keep hb0, fun _ => by rw [List.length_nil, Nat.sub_zero, List.take_length]; exact HD0.out⟩, ?_, HOW.out.bel hb0⟩
    rw [← HBB.out]
    exact (hb0.cell (World.block_lt_of_cell? _ _ mpw)).trans mpw
  have hws : w.heap.size ≤ W0.heap.size := by have := HSL.out; omega
  clear hBs HC1
  refine (wpIn_wide (n := 9)).1 ?_
  refine wpIn_rangeFunc_ownG rfl (by omega) (gf := 58) (lb := #[.pointer (some ⟨W1.heap.size, 0, none⟩)]) rfl trivial (enters_of Tryz.func58 (by kernel_rfl) rfl)
    HST kp2_t kp2_b (Below.refl _ _) (fun _ => rfl)
    (fun pre W => DwM w W P RX A cap sv ini w.heap.size pre)
    (fun _ _ _ => False)
    (DwM.own hws) (fun _ _ _ _ _ hs _ _ => hs) H00 ?a1 ?assign ?body ?done ?stop
  case assign =>
    intro l x W K hK
    gi_wp2
    exact hK
  case body =>
    rintro l pre x W hD hpre
    obtain ⟨j, hj⟩ : ∃ j, ini[x.1]? = some j := ⟨_, List.getElem?_eq_getElem x.2⟩
    obtain ⟨hjm, nd, hnd, hk2⟩ := HIN.out j (List.mem_of_getElem? hj)
    obtain ⟨g', hKW, hDR⟩ := hD.kn
    rcases nd_kind hnd with ⟨rfl, -⟩ | ⟨lk, rk, rfl, ⟨q1, q2⟩, q3, q4, q5, -, -⟩
    · exact absurd hk2 (by simp [nk])
    have HC := Lib.hid (choose_any hD.sh hKW HKV.out hjm (by omega) (by omega) hnd)
    have hbx := hD.bx
    have HD := Lib.hid hD
    have HDR : Hid (Rgt (pre ++ [x]) → DrI RX (drp A sv) (upG g' j (lwr (g' lk) (g' rk))) (ini.take (ini.length - (pre ++ [x]).length))) := Lib.hid (fun hr => by
      obtain ⟨r1, r2⟩ := hr.snoc
      have h1 := hDR r1
      have e1 : ini.length - pre.length = x.1 + 1 := by omega
      have e2 : ini.length - (pre ++ [x]).length = x.1 := by simp; omega
      rw [e1, List.take_add_one, hj] at h1
      rw [e2]
      refine h1.step ?_ hjm ⟨q1, q2⟩ q3 q4 q5
      have h2 := HDE.out
      have h3 : ini.take x.1 ++ [j] = ini.take (x.1 + 1) := by rw [List.take_add_one, hj]; rfl
      rw [h3]
      exact (List.pairwise_append.1 h2).1.sublist (List.take_sublist _ _))
    have HKW := Lib.hid hKW
    have HLE := Lib.hid (show W0.heap.size = W1.heap.size + 1 ∧ w.heap.size < W1.heap.size from ⟨hs0, HSL.out.1⟩)
    simp only [hj, Option.getD_some]
    clear hD hKW hDR hj hnd hk2 q1 q2 q3 q4 q5 HST H00
    gi_wp2_with (refine ⟨trivial, ?_⟩; gi_at_call 31; refine (CallsIn.inRound l (callsIn_wide.2 HC.out)).mono ?_; rintro e W' ⟨rfl, h1, h2⟩; have H1 := Lib.hid h1; have H2 := Lib.hid h2; clear h1 h2)
    obtain ⟨cc, hty⟩ := HKW.out.ty
    have hkb := HK.out.lt
    have hkgp : gp ≠ P.kb := by
      obtain ⟨cc, e⟩ := (HK.out.keep HB3.out).ty
      exact types_ne HEV.out e (by decide)
    have far := HD.out.sh.far hty (by decide) (by decide) (by decide)
    refine ⟨off_keepsFrom H2.out hty, fun k i v hk e => H2.out.cell e (fun hm => ?_), ⟨HD.out.sh.off H2.out (fun hm => far.1 (List.mem_singleton.1 hm).symm) (fun k hk hm => far.2 k hk (List.mem_singleton.1 hm).symm), ⟨_, H1.out, HDR.out⟩, H2.out.cell hbx (fun hm => ?_), HD.out.of.trans H2.out⟩⟩
    · have h3 := List.mem_singleton.1 hm
      have h4 := HLE.out
      rcases hk with rfl | rfl
      · simp only at h3; omega
      · exact hkgp h3
    · have h3 := List.mem_singleton.1 hm
      simp only at h3
      omega
  case done =>
    rintro D ys W hD hys hI hK
    have HI := Lib.hid hI
    have mp := hI.bx
    have c6 := hI.sh.ev.cell (i := 6) rfl
    have f6 := hI.sh.ev.free 6
    have HYS := Lib.hid hys
    have HKD := Lib.hid hK
    rw [← HAL.out] at c6
    clear hI hys hK HST H00
    go_wp2
    have hK' := (KeepsOthers.setCell W ⟨P.B, 6, none⟩ (.int .i64 (dl : Nat))).same D _ HKD.out rfl
    have hrl : ys.length = ini.length := by
      have := congrArg List.length HYS.out
      rwa [List.length_map, bk_len] at this
    have hrg : Rgt ys := by
      unfold Rgt
      rw [hrl]
      exact HYS.out
    obtain ⟨g', hKW, hDR⟩ := HI.out.kn
    have hdr := hDR hrg
    rw [hrl, Nat.sub_self, List.take_zero] at hdr
    obtain ⟨cc, hkt⟩ := HKT.out
    have hM := HH.out.dropped HKV.out HI.out.sh hKW hdr.done HI.out.of (by rw [← HNN.out]; omega) hkt
    rw [← HDL.out] at hM
    have hO : Off [B, P.kb] w (W.setCell ⟨P.B, 6, none⟩ (.int .i64 (dl : Nat))) := (HI.out.of.mono (fun k _ hk => by simp at hk; simp [hk])).set _ _ (.inl (by simp [HBB.out]))
    refine ⟨by simp, .inl ⟨_, _, rfl, run_takeDeferred hK', ?_⟩⟩
    have hdo := grown_off (grownBy_putObj' (W.setCell ⟨P.B, 6, none⟩ (.int .i64 (dl : Nat))) D (.deferred none))
    refine ⟨_, results_tmp rfl _ _ _, rfl, hM.off hdo (fun k hk hm => ?_), hO.via hdo (fun k hk hm => ?_)⟩
    · have h1 := HH.out.lies k hk
      have h2 : k = D := by simpa using hm
      omega
    · have h2 : k = D := by simpa using hm
      omega
  case stop =>
    rintro D c pre W _ _ h _
    exact h.elim
end
end Go.Proofs.YtldmajifkmcdcaaGreat.Lv
/-
  Drop, whatever is dropped. No condition but those typed at each theorem.
-/
namespace Go.Proofs.YtldmajifkmcdcaaGreat.Lv
open Go.RowKit Go.Sort Bd
section
variable {w : World} {P : LoP} {RX A : List S3}
theorem drp_not' {A : List S3} {s : S3} (h : s ∉ A) : drp A s = A := List.filter_eq_self.2 (fun x hx => show decide (x ≠ s) = true from decide_eq_true (fun e => h (e ▸ hx)))
/-- a point is dropped, if it is there -/
theorem lwdrop_any (h : LoM w P RX A) (s : S3) :
    Calls Tryz.prog 15 #[.pointer (some ⟨P.B, 0, none⟩), tv s] w fun e w' => e = .returned (.bool (decide (s ∈ A))) ∧ LoM w' P RX (drp A s) ∧ Off [P.B, P.kb] w w' := by
  have stay : s ∉ A → Calls Tryz.prog 15 #[.pointer (some ⟨P.B, 0, none⟩), tv s] w (fun e w' => e = .returned (.bool false) ∧ Below w.heap.size w w') → Calls Tryz.prog 15 #[.pointer (some ⟨P.B, 0, none⟩), tv s] w fun e w' => e = .returned (.bool (decide (s ∈ A))) ∧ LoM w' P RX (drp A s) ∧ Off [P.B, P.kb] w w' := fun hn hc => hc.mono (fun e w' hh => by
    rw [decide_eq_false hn, drp_not' hn]
    exact ⟨hh.1, h.keep hh.2, Off.of hh.2 (Nat.le_refl _)⟩)
  rcases hx : fnd kx RX s.1 s.2.2 with ⟨i, bx⟩
  cases bx with
  | false =>
    refine stay (fun hA => ?_) (ldrop_no h.s s hx)
    rw [h.s.idx (h.sub s hA)] at hx
    simp at hx
  | true =>
    obtain ⟨t, ht, ht1, ht2⟩ := h.s.at hx
    by_cases hy : t.2.1 = s.2.1
    · obtain rfl : t = s := by
        obtain ⟨a, b, c⟩ := t
        obtain ⟨a', b', c'⟩ := s
        simp only at ht1 ht2 hy
        rw [ht1, ht2, hy]
      have hi := (List.getElem?_eq_some_iff.1 ht).1
      obtain ⟨cap, g, hkv, hK, hI⟩ := h.kn (by omega)
      by_cases hA : t ∈ A
      · rw [decide_eq_true hA]
        exact ldrop_true h hkv hK hI t hA
      · refine stay hA ?_
        obtain ⟨ini, last, hw, ⟨w1, w2, hlt⟩, -, -, -⟩ := way (n := RX.length) (i := i) (by omega) hi
        refine ldrop_gone h.s h.fr hK hkv t hx ht hw hlt ?_
        rcases hI last hlt with ⟨h1, -⟩ | ⟨u, h1, h2, -⟩
        · exact h1
        · obtain ⟨h3, h4, h5⟩ := mem_sg.1 h2
          have h6 := idx_at h.s.nodup ht
          have : u = t := idx_inj (h.sub u h3) (List.mem_of_getElem? ht) (by omega)
          exact absurd (this ▸ h3) hA
    · refine stay (fun hA => ?_) (ldrop_y h.s s hx ht hy)
      have h1 := h.s.idx (h.sub s hA)
      rw [hx] at h1
      have h2 : i = RX.idxOf s := congrArg Prod.fst h1
      rw [h2, at_idx (h.sub s hA)] at ht
      cases ht
      exact hy rfl
theorem ldrop_nil (w : World) (s : S3) : Calls Tryz.prog 15 #[.pointer none, tv s] w fun e w' => e = .returned (.bool false) ∧ Below w.heap.size w w' := by
  have HM := Lib.hid (fun X => lmade_nil X)
  obtain ⟨x, y, id⟩ := s
  unfold tv
  simp only
  go_enter Tryz.func15, Tryz.ntmps15
  go_wp2_with (go_at_call 26; (with_reducible refine (HM.out _).mono ?_); rintro e wM ⟨rfl, hM⟩; subst wM)
  go_ret
  exact ⟨rfl, ((Below.refl _ w).alloc (Nat.le_refl _) _).alloc (by simp) _⟩
end
end Go.Proofs.YtldmajifkmcdcaaGreat.Lv
