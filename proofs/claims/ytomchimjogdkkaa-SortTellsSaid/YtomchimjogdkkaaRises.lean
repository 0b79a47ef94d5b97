/-
  The statements' own look whether keys rise by places (rises): it says yes, where they do. No condition but those typed at each theorem.
-/
import Derived.Test.YtomchimjogdkkaaTop
import Derived.Test.YtomchimjogdkkaaSame
import Derived.Laws.StructEq
namespace Go.Proofs.Ytomchimjogdkkaa
open Go.RowKit

theorem eqk (x y : Int × Int) (w : World) : (binOp .eql 40 (.agg #[.int .i64 x.1, .int .u32 x.2]) (.agg #[.int .i64 y.1, .int .u32 y.2])).run Try.prog w = .ok (.bool (decide (x = y))) w := by
  have u2 := Try.underlying2
  have u38 := Try.underlying38
  have a2 := Try.isAgg2
  have a38 := Try.isAgg38
  have hS : Try.prog.underlying 40 = some (.struct (Try.prog.fieldsOf 40)) := by kernel_rfl
  have hp : Try.prog.stoodInHeld 40 = false := by kernel_rfl
  rw [run_eql_struct, show (10000 : Nat) = 9999 + 1 from rfl, run_equalIn_agg w 9999 40 _ _ hS hp]
  simp only [Program.fieldsOf, Try.underlying40]
  go_simp
  obtain ⟨x1, x2⟩ := x
  obtain ⟨y1, y2⟩ := y
  by_cases h1 : x1 = y1 <;> by_cases h2 : x2 = y2 <;> simp [h1, h2]
theorem gdk (op : BinOp) (s t : Operand) (xs ys : Array Value) (w : World) : (eqGuard op 40 s t (.agg xs) (.agg ys)).run Try.prog w = .ok () w := run_eqGuard_agg w op 40 s t xs ys (by kernel_rfl)

/-- of two places the one comes, then the other -/
def lp (ks : List (Int × Int)) (p q : Int) : Prop := kl (ks.getD p.toNat (0, 0)) (ks.getD q.toNat (0, 0)) = true ∨ (ks.getD p.toNat (0, 0) = ks.getD q.toNat (0, 0) ∧ p < q)
structure Good (ks : List (Int × Int)) (ps : List Int) : Prop where
  len : ps.length = ks.length
  dom : ∀ x ∈ ps, 0 ≤ x ∧ x < ks.length
  nodup : ps.Nodup
  step : ∀ i x y, ps[i]? = some x → ps[i + 1]? = some y → lp ks x y

/-- which places were seen -/
def SB (w : World) (S n : Nat) (ps : List Int) : Prop := w.heap[S]? = some (.cells ((List.range n).map fun (q : Nat) => Value.bool (decide ((q : Int) ∈ ps))).toArray 4 (0, 0))
theorem SB.cell {w : World} {S n : Nat} {ps : List Int} (h : SB w S n ps) {q : Nat} (hq : q < n) : w.cell? ⟨S, q, none⟩ = some (.bool (decide ((q : Int) ∈ ps))) := by
  simp [World.cell?, show w.heap[S]? = _ from h, hq]
theorem SB.free {w : World} {S n : Nat} {ps : List Int} (h : SB w S n ps) (q : Nat) : w.frozen? ⟨S, q, none⟩ = false := by
  simp [World.frozen?, show w.heap[S]? = _ from h]
theorem SB.set {w : World} {S n : Nat} {ps : List Int} (h : SB w S n ps) (q : Nat) : SB (w.setCell ⟨S, q, none⟩ (.bool true)) S n (ps ++ [(q : Int)]) := by
  unfold SB
  rw [heap_setCell_same _ _ _ _ _ _ h]
  congr 2
  apply Array.ext_getElem?
  intro j
  by_cases hj : j < n
  · by_cases he : q = j
    · subst he; simp [hj]
    · simp [hj, he, show ¬ (j : Int) = q by omega]
  · simp [hj]
theorem SB.all {w : World} {S n : Nat} {ps : List Int} (h : SB w S n ps) (o : Obj) : SB (w.alloc o) S n ps := (Below.heap_alloc w o S (lt_of_block h)).trans h
theorem SB.made (w : World) (n : Nat) : SB (w.alloc (.cells (madeCells #[.bool false] n) 4)) w.heap.size n [] := by
  unfold SB
  rw [heap_alloc_new]
  congr 2
  apply Array.ext
  · simp [size_madeCells]
  · intro i h1 h2
    simp [madeCells, Nat.mod_one]
theorem mk53 (w : World) (n : Nat) (hc : n ≤ 17179869184) : (Instr.makeSlice 53 (.int .i64 n) (.int .i64 n)).run Try.prog w = .ok (.slice (some ⟨w.heap.size, 0, none⟩) n n) (w.alloc (.cells (madeCells #[.bool false] n) 4)) := by
  obtain ⟨i0, hi, hz0, hz1, hz2⟩ := info_parts (show (Try.prog.info? 4).map (fun i => (i.zero, i.size, i.bytes)) = some (some (.bool false), 1, 1) by kernel_rfl)
  have := run_make (P := Try.prog) w 53 4 i0 (.bool false) Try.underlying53 hi hz0 .i64 .i64 n n (by omega) (by omega) (by rw [hz2]; omega) (by omega)
  simpa [hz1, Value.cells] using this

set_option maxRecDepth 100000 in
set_option maxHeartbeats 6400000 in
theorem rises_some (w : World) (b off cap A oa c : Nat) (ks : List (Int × Int)) (ps : List Int) (hk : Ks w b off ks) (hp : Ns w A oa .i64 ps) (hG : Good ks ps) (hn : ks.length ≤ 4096) :
    Calls Try.prog 21 #[.slice (some ⟨b, off, none⟩) ks.length cap, .slice (some ⟨A, oa, none⟩) ks.length c] w fun e w' => e = .returned (.bool true) ∧ Below w.heap.size w w' := by
  have HK := Lib.hid hk
  have HP := Lib.hid hp
  have HG := Lib.hid hG
  have hmk := fun w => mk53 w ks.length (by omega)
  have S0 := Lib.hid (SB.made w ks.length)
  have B0 := Lib.hid ((Below.refl _ w).alloc (Nat.le_refl _) (.cells (madeCells #[.bool false] ks.length) 4))
  clear hk hp hG
  obtain ⟨n, hnn⟩ : ∃ n, n = ks.length := ⟨_, rfl⟩
  rw [← hnn] at hn hmk S0 B0
  rw [← hnn]
  have HN := Lib.hid hnn
  clear hnn
  go_enter Try.func21, Try.ntmps21
  go_wp2
  clear hmk
  go_loopw [20] (fun v wr => ∃ i : Nat, i ≤ n ∧ v = .int .i64 i ∧ Hid (SB wr w.heap.size n (ps.take i)) ∧ Hid (Below w.heap.size w wr)) (fun v _ => n - (intOf v).toNat)
  case atStart => exact ⟨0, Nat.zero_le _, rfl, S0, B0⟩
  case round =>
    clear S0 B0
    obtain ⟨i, hin, rfl, HS, HB⟩ := hrel
    by_cases hlt : i < n
    · have hltz : (i : Int) < n := by omega
      have hil : i < ps.length := by rw [HG.out.len, ← HN.out]; exact hlt
      obtain ⟨k, hk⟩ : ∃ k : Nat, ps[i]? = some (k : Int) := by
        have h1 := HG.out.dom ps[i] (List.getElem_mem hil)
        exact ⟨ps[i].toNat, by rw [List.getElem?_eq_getElem hil, Int.toNat_of_nonneg h1.1]⟩
      have hkn : k < n := by
        have := HG.out.dom (k : Int) (List.mem_of_getElem? hk)
        rw [← HN.out] at this
        omega
      have hnot : ¬ (k : Int) ∈ ps.take i := by
        intro hm
        obtain ⟨j, hj, he⟩ := List.mem_take_iff_getElem.1 hm
        have h1 := List.pairwise_iff_getElem.1 HG.out.nodup j i (by omega) hil (by omega)
        have h2 := (List.getElem?_eq_some_iff.1 hk).2
        exact h1 (he.trans h2.symm)
      have htake : ps.take (i + 1) = ps.take i ++ [(k : Int)] := by rw [List.take_add_one, hk]; rfl
      have ck := HS.out.cell hkn
      rw [decide_eq_false hnot] at ck
      have fk := HS.out.free k
      have hSz := lt_of_block HS.out
      have hBs := HB.out.size
      have cp : wr.cell? ⟨A, oa + i, none⟩ = some (.int .i64 k) := by rw [HB.out.cell (World.block_lt_of_cell? w _ (HP.out _ _ hk))]; exact HP.out _ _ hk
      have HS1 := Lib.hid (show SB (wr.setCell ⟨w.heap.size, k, none⟩ (.bool true)) w.heap.size n (ps.take (i + 1)) by rw [htake]; exact HS.out.set k)
      have HB1 := Lib.hid (HB.out.setCell (p := ⟨w.heap.size, k, none⟩) (Nat.le_refl _) (.bool true))
      have hkz : ¬ (k : Int) < 0 := by omega
      have hkz2 : (k : Int) < n := by omega
      by_cases h0 : i = 0
      · subst h0
        rw [Nat.add_zero] at cp
        go_wp2
        go_roundw
        case rel => exact ⟨1, by omega, by first | rfl | go_num, HS1, HB1⟩
        case measure => simp [intOf]; omega
      · have hil' : i - 1 < ps.length := by omega
        obtain ⟨j, hj⟩ : ∃ j : Nat, ps[i - 1]? = some (j : Int) := by
          have h1 := HG.out.dom ps[i - 1] (List.getElem_mem hil')
          exact ⟨ps[i - 1].toNat, by rw [List.getElem?_eq_getElem hil', Int.toNat_of_nonneg h1.1]⟩
        have hjn : j < n := by
          have := HG.out.dom (j : Int) (List.mem_of_getElem? hj)
          rw [← HN.out] at this
          omega
        have hlp := HG.out.step (i - 1) j k hj (by rw [Nat.sub_add_cancel (by omega)]; exact hk)
        obtain ⟨x, hx⟩ : ∃ x, ks[j]? = some x := ⟨_, List.getElem?_eq_getElem (by have := HN.out; omega)⟩
        obtain ⟨y, hy⟩ : ∃ y, ks[k]? = some y := ⟨_, List.getElem?_eq_getElem (by have := HN.out; omega)⟩
        have hlp' : kl x y = true ∨ (x = y ∧ j < k) := by
          simpa [lp, hx, hy] using hlp
        have kc : ∀ a v, w.cell? a = some v → (wr.setCell ⟨w.heap.size, k, none⟩ (.bool true)).cell? a = some v := fun a v e => (HB1.out.cell (World.block_lt_of_cell? w _ e)).trans e
        have q1 := kc _ _ (HP.out _ _ hj)
        have q2 := kc _ _ (HK.out _ _ hx).1
        have q3 := kc _ _ (HK.out _ _ hx).2
        have q4 := kc _ _ (HK.out _ _ hy).1
        have q5 := kc _ _ (HK.out _ _ hy).2
        have hsz1 : w.heap.size < (wr.setCell ⟨w.heap.size, k, none⟩ (.bool true)).heap.size := by simpa [World.setCell] using hSz
        have HLP := Lib.hid hlp'
        have HJ := Lib.hid hj
        have HT := Lib.hid htake
        have hi1 : i - 1 < n := by omega
        have hsub : (i : Int) - 1 = ((i - 1 : Nat) : Int) := by omega
        have hsw : IntKind.i64.wrap ((i : Int) - 1) = ((i - 1 : Nat) : Int) := by rw [IntWalk.i64_in _ (by omega)]; exact hsub
        clear hlp hlp' hj hx hy hnot htake kc
        go_upto_region 11 with fail
        clear cp ck fk
        generalize wr.setCell ⟨w.heap.size, k, none⟩ (.bool true) = W at *
        go_cut [8, 9] (fun s8 s9 wx => ∃ gx gy : Nat, s8 = .pointer (some ⟨gx, 0, none⟩) ∧ s9 = .pointer (some ⟨gy, 0, none⟩) ∧ Row wx gx [.int .i64 x.1, .int .u32 x.2] ∧ Row wx gy [.int .i64 y.1, .int .u32 y.2] ∧ Hid (SB wx w.heap.size n (ps.take (i + 1))) ∧ Hid (Below w.heap.size w wx))
        case first =>
          have hbW : b < W.heap.size := World.block_lt_of_cell? W _ q2
          have hAW : A < W.heap.size := World.block_lt_of_cell? W _ q1
          have hbW' : b < W.heap.size + 1 := by omega
          have hAW' : A < W.heap.size + 1 := by omega
          go_region
          all_goals go_wp2_with fail
          all_goals go_meet
          · exact ⟨W.heap.size, W.heap.size + 1, rfl, rfl, ((Row.new W [.int .i64 x.1, .int .u32 x.2] 40 rfl).all _).drew, (Row.new _ [.int .i64 y.1, .int .u32 y.2] 40 (by simp)).drew, Lib.hid ((HS1.out.all _).all _), Lib.hid (BlA (BlA HB1 _) _).out.drew⟩
          · exact ⟨W.heap.size + 1, W.heap.size, rfl, rfl, (Row.new _ [.int .i64 x.1, .int .u32 x.2] 40 (by simp)).drew, ((Row.new W [.int .i64 y.1, .int .u32 y.2] 40 rfl).all _).drew, Lib.hid ((HS1.out.all _).all _), Lib.hid (BlA (BlA HB1 _) _).out.drew⟩
        case rest =>
          clear q1 q2 q3 q4 q5 HS1 HB1
          obtain ⟨gx, gy, rfl, rfl, RX, RY, HS2, HB2⟩ := hcut
          have x0 := RX 0 _ rfl
          have x1 := RX 1 _ rfl
          have y0 := RY 0 _ rfl
          have y1 := RY 1 _ rfl
          have e1 := eqk x y
          have e2 := gdk
          have cq := (HB2.out.cell (World.block_lt_of_cell? w _ (HP.out _ _ HJ.out))).trans (HP.out _ _ HJ.out)
          obtain ⟨xa, xb⟩ := x
          obtain ⟨ya, yb⟩ := y
          simp only at x0 x1 y0 y1 e1
          rcases (show (¬ ya < xa ∧ ¬ ya = xa) ∨ (ya = xa ∧ xb < yb) ∨ (ya = xa ∧ yb = xb ∧ j < k) by
            have := HLP.out
            simp [kl] at this
            omega) with ⟨g1, g2⟩ | ⟨g1, g2⟩ | ⟨g1, g2, g3⟩
          · have g4 : ¬ xa = ya := fun e => g2 e.symm
            rw [decide_eq_false (by simp [g4])] at e1
            go_wp2
            go_roundw
            case rel => exact ⟨i + 1, by omega, by first | rfl | go_num, HS2, HB2⟩
            case measure => simp [intOf]; omega
          · subst g1
            have g3 : ¬ yb < xb := by omega
            rw [decide_eq_false (by simp; omega)] at e1
            go_wp2
            go_roundw
            case rel => exact ⟨i + 1, by omega, by first | rfl | go_num, HS2, HB2⟩
            case measure => simp [intOf]; omega
          · subst g1 g2
            have g4 : ¬ (k : Int) < j := by omega
            rw [decide_eq_true rfl] at e1
            go_wp2
            go_roundw
            case rel => exact ⟨i + 1, by omega, by first | rfl | go_num, HS2, HB2⟩
            case measure => simp [intOf]; omega
    · have hge : ¬ (i : Int) < n := by omega
      go_wp2
      go_ret
      exact ⟨rfl, HB.out⟩

set_option maxRecDepth 100000 in
theorem rises_any (w : World) (p q : Option Addr) (cap c : Nat) (ks : List (Int × Int)) (ps : List Int) (hk : KS w p ks) (hp : NS w q .i64 ps) (hG : Good ks ps) (hn : ks.length ≤ 4096) :
    Calls Try.prog 21 #[.slice p ks.length cap, .slice q ks.length c] w fun e w' => e = .returned (.bool true) ∧ Below w.heap.size w w' := by
  have empty : ks = [] → Calls Try.prog 21 #[.slice p ks.length cap, .slice q ks.length c] w fun e w' => e = .returned (.bool true) ∧ Below w.heap.size w w' := by
    rintro rfl
    have hmk : ∀ w : World, (Instr.makeSlice 53 (.int .i64 0) (.int .i64 0)).run Try.prog w = .ok (.slice (some ⟨w.heap.size, 0, none⟩) 0 0) (w.alloc (.cells (madeCells #[.bool false] 0) 4)) := fun w => mk53 w 0 (by omega)
    go_enter Try.func21, Try.ntmps21
    go_wp2
    go_loopw [20] (fun v wr => v = .int .i64 0 ∧ Hid (Below w.heap.size w wr)) (fun _ _ => 0)
    case atStart => exact ⟨rfl, Lib.hid ((Below.refl _ w).alloc (Nat.le_refl _) _)⟩
    case round =>
      obtain ⟨rfl, HB⟩ := hrel
      go_wp2
      go_ret
      exact ⟨rfl, HB.out⟩
  rcases hk with rfl | ⟨b, off, rfl, h1, -⟩
  · exact empty rfl
  · rcases hp with rfl | ⟨A, oa, rfl, h2⟩
    · exact empty (List.length_eq_zero_iff.1 (by have := hG.len; simpa using this.symm))
    · exact rises_some w b off cap A oa c ks ps h1 h2 hG hn
end Go.Proofs.Ytomchimjogdkkaa
