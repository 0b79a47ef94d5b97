/-
  Each number once: sort.Once, given how slices.Sort puts in order; slices.Sort at twelve numbers or fewer. No condition but those typed at each theorem.
-/
import Derived.Test.YtomchimjogdkkaaIns
import Derived.Test.YtomchimjogdkkaaMem
import Derived.Shelf.SlicesE.Compact
namespace Go.Proofs.Ytomchimjogdkkaa
open Go.RowKit Go.Sort

/-- slices.Sort puts n numbers in order -/
def SortsU (n : Nat) : Prop := ∀ (X : World) (blk off cap : Nat) (d : Array Int), d.size = n → Holds encU X blk off d →
  Calls Try.prog 34 #[.slice (some ⟨blk, off, none⟩) d.size cap] X fun e w' => e = .returned (.tuple #[]) ∧ Holds encU w' blk off (Sort.sort ltInt d) ∧ Off [blk] X w'

theorem sort_small (d : Array Int) (h : d.size ≤ 12) : Sort.sort ltInt d = Sort.insertionSort ltInt d 0 d.size := by
  unfold Sort.sort
  rw [pdq, if_pos (by omega)]

set_option maxRecDepth 100000 in
set_option maxHeartbeats 1600000 in
theorem pdq_small (blk off cap n lim : Nat) (d : Array Int) (w : World) (hH : Holds encU w blk off d) (hn : d.size = n) (h12 : n ≤ 12) :
    Calls Try.prog 38 #[.slice (some ⟨blk, off, none⟩) n cap, .int .i64 0, .int .i64 n, .int .i64 lim] w fun e w' =>
      e = .returned (.tuple #[]) ∧ Holds encU w' blk off (Sort.insertionSort ltInt d 0 d.size) ∧ Off [blk] w w' := by
  have HI := Lib.hid (ins_any blk off cap 0 d.size d w hH (Nat.zero_le _) (Nat.le_refl _) (by omega))
  rw [hn] at HI ⊢
  simp only [Int.natCast_zero] at HI
  clear hH hn
  go_enter Try.func38, Try.ntmps38
  go_wp2
  go_loopw [1, 2, 3] (fun s1 s2 s3 wr => s1 = .int .i64 0 ∧ s2 = .int .i64 n ∧ s3 = .int .i64 lim ∧ wr = w) (fun _ _ _ _ => 0)
  case atStart => exact ⟨rfl, rfl, rfl, rfl⟩
  case round =>
    obtain ⟨rfl, rfl, rfl, rfl⟩ := hrel
    go_wp2_with (go_at_call 41; (with_reducible refine HI.out.mono ?_); rintro e w1 ⟨rfl, hH1, hO1⟩)
    refine bodyPost_ret (results_none rfl _ _ _) rfl ?_
    exact ⟨rfl, hH1, hO1⟩

set_option maxRecDepth 100000 in
set_option maxHeartbeats 1600000 in
theorem sorts_small (n : Nat) (h12 : n ≤ 12) : SortsU n := by
  intro w blk off cap d hn hH
  rw [sort_small d (by omega)]
  have HP := fun lim => pdq_small blk off cap n lim d w hH hn h12
  have HL := fun X => Try.bits_Len n X (by omega) (by omega)
  rw [hn] at HP ⊢
  have HP' := Lib.hid HP
  have HL' := Lib.hid HL
  clear HP HL hH hn
  go_enter Try.func34, Try.ntmps34
  go_wp2_with (first
    | (go_at_call 39; (with_reducible refine (HL'.out _).mono ?_); rintro e w1 ⟨rfl, rfl⟩)
    | (go_at_call 38; (with_reducible refine (HP'.out _).mono ?_); rintro e w1 ⟨rfl, hH1, hO1⟩))
  go_end0
  exact ⟨rfl, hH1, hO1⟩

theorem off_putRow (w : World) (q blk off : Nat) (d : Array Int) : Off [blk] w (putRow encU (Sort.ahead w q) blk off d) := by
  refine ⟨rfl, rfl, rfl, ?_, ?_⟩
  · simp [putRow, mapBlock, Sort.ahead]
  · intro k _ hk
    simp at hk
    simp [putRow, mapBlock, Sort.ahead, Array.getElem?_modify, Ne.symm hk]

/-- each number once, rising -/
def onceL (xs : List Int) : List Int := Lib.compactUpTo (Sort.sort ltInt xs.toArray) xs.length
theorem sort_size (xs : List Int) : (Sort.sort ltInt xs.toArray).size = xs.length := by
  have := congrArg List.length (sortInt xs)
  simpa using this
theorem onceL_len (xs : List Int) : (onceL xs).length ≤ xs.length := by
  unfold onceL Lib.compactUpTo
  rw [List.length_map]
  exact Nat.le_trans (List.length_filter_le _ _) (by simp)
/-- what Once told: none, or a block of its own that holds the numbers and may be written -/
def OS (w w' : World) (q : Option Addr) (xs : List Int) : Prop := (q = none ∧ xs = []) ∨ ∃ g, q = some ⟨g, 0, none⟩ ∧ w.heap.size ≤ g ∧ Holds encU w' g 0 xs.toArray
theorem holds_front {w : World} {g : Nat} {xs ys : List Int} (h : Holds encU w g 0 (xs ++ ys).toArray) : Holds encU w g 0 xs.toArray := by
  intro j hj
  simp at hj
  have := h j (by simp; omega)
  simpa [List.getElem_append, hj, getElem!_pos, show j < xs.length + ys.length by omega] using this
theorem Try.info38 : (Try.prog.info? 38).map (fun i => (i.zero, i.size, i.bytes)) = some (some (.int .u32 0), 1, 4) := by kernel_rfl

set_option maxRecDepth 100000 in
set_option maxHeartbeats 1600000 in
theorem Once_some (w : World) (b off c : Nat) (xs : List Int) (hx : Ns w b off .u32 xs) (hn : xs.length ≤ 8192) (hS : SortsU xs.length) :
    Calls Try.prog 18 #[.slice (some ⟨b, off, none⟩) xs.length c] w fun e w' => ∃ q c', e = .returned (.slice q (onceL xs).length c') ∧ OS w w' q (onceL xs) ∧ Below w.heap.size w w' := by
  obtain ⟨i0, hi, hz0, hz1, hz2⟩ := info_parts Try.info38
  have h1 : ∀ u ∈ xs.map encU, u.oneCell' = true := by intro u hu; simp at hu; obtain ⟨x, _, rfl⟩ := hu; rfl
  have C1 := Lib.hid (Try.slices_Clone i0 (.int .u32 0) 1 4 hi hz0 hz1 hz2 rfl (by decide) (fun w => by simp [sizeOf, typeInfo, hi, hz1]) b off xs.length c (xs.map encU) w (by simp) (by unfold maxLen; omega) (by omega)
    (by
      intro j u e
      rw [List.getElem?_map] at e
      cases he : xs[j]? with
      | none => rw [he] at e; cases e
      | some x => rw [he] at e; cases e; exact hx j x he) h1)
  clear h1
  obtain ⟨n, hnn⟩ : ∃ n, n = xs.length := ⟨_, rfl⟩
  rw [← hnn] at C1 hn hS
  rw [← hnn]
  have HN := Lib.hid hnn
  clear hnn hx
  go_enter Try.func18, Try.ntmps18
  go_wp2_with (first
    | (go_at_call 33; (with_reducible refine C1.out.mono ?_); rintro e w1 ⟨v, rfl, hown, hnil, hB1⟩; have HOWN := Lib.hid hown; have HNIL := Lib.hid hnil; have HB1 := Lib.hid hB1; clear hown hnil hB1))
  rcases HOWN.out with ⟨hlen, ⟨hv, -⟩ | ⟨g, cap, cur, rfl, hbg, hg, hncap, hcap, hcs, htk⟩⟩
  · exact absurd hv HNIL.out
  have hH1 : Holds encU w1 g 0 xs.toArray := by
    intro j hj
    simp at hj
    refine ⟨?_, by simp [World.frozen?, hg]⟩
    have h2 : (cur.toList.take (n * 1))[j]? = some (encU xs[j]) := by rw [htk]; simp [hj]
    rw [List.getElem?_take] at h2
    split at h2
    · simp at h2
      simp [World.cell?, hg, h2, getElem!_pos, hj]
    · cases h2
  have C2 := hS w1 g 0 cap xs.toArray (by simp [HN.out]) hH1
  rw [show xs.toArray.size = n by simp [HN.out]] at C2
  have hsz : (Sort.sort ltInt xs.toArray).size = n := by rw [sort_size, HN.out]
  have C3 := fun X (h : Holds encU X g 0 (Sort.sort ltInt xs.toArray)) => AnyE.slices_Compact Try.lcm encU (fun _ => rfl) (EqlAt.intD _ _ .u32) (NeqAt.intD _ _ .u32) 0 Try.zeroValue38 g 0 cap (Sort.sort ltInt xs.toArray) X h (by omega) (by omega)
  rw [hsz] at C3
  have HC2 := Lib.hid C2
  have HC3 := Lib.hid C3
  clear C2 C3 hH1
  go_wp2_with (first
    | (go_at_call 34; (with_reducible refine HC2.out.mono ?_); rintro e w2 ⟨rfl, hH2, hO2⟩; have HH2 := Lib.hid hH2; have HO2 := Lib.hid hO2; clear hH2 hO2)
    | (go_at_call 35; refine (HC3.out w2 HH2.out).mono ?_; rintro e w3 ⟨rfl, q, hw3⟩; have HW3 := Lib.hid hw3; clear hw3))
  go_ret
  have hO3 : Off [g] w2 w3 := by rw [HW3.out]; exact off_putRow _ _ _ _ _
  refine ⟨some ⟨g, 0, none⟩, cap, ?_, .inr ⟨g, rfl, hbg, ?_⟩, ?_⟩
  · simp [onceL, HN.out]
  · refine holds_front (ys := List.replicate (n - (onceL xs).length) 0) ?_
    have := holds_putRow encU (Sort.ahead w2 q) g 0 (Sort.sort ltInt xs.toArray) (onceL xs ++ List.replicate (n - (onceL xs).length) 0).toArray (fun j hj => HH2.out j hj) (by have := onceL_len xs; rw [hsz]; simp; have := HN.out; omega)
    rw [HW3.out]
    simp only [onceL, HN.out] at this ⊢
    exact this
  · exact HB1.out.trans ((HO2.out.trans hO3).below HB1.out.size (by simp [hbg]))

set_option maxRecDepth 100000 in
theorem ins_nil (w : World) : Calls Try.prog 41 #[.slice none 0 0, .int .i64 0, .int .i64 0] w fun e w' => e = .returned (.tuple #[]) ∧ w' = w := by
  go_enter Try.func41, Try.ntmps41
  go_wp2
  go_loopw [6] (fun vi wr => vi = .int .i64 1 ∧ wr = w) (fun _ _ => 0)
  case atStart => exact ⟨rfl, rfl⟩
  case round =>
    obtain ⟨rfl, rfl⟩ := hrel
    go_wp2
    go_end0
    exact ⟨rfl, rfl⟩
set_option maxRecDepth 100000 in
theorem pdq_nil (lim : Int) (w : World) : Calls Try.prog 38 #[.slice none 0 0, .int .i64 0, .int .i64 0, .int .i64 lim] w fun e w' => e = .returned (.tuple #[]) ∧ w' = w := by
  go_enter Try.func38, Try.ntmps38
  go_wp2
  go_loopw [1, 2, 3] (fun s1 s2 s3 wr => s1 = .int .i64 0 ∧ s2 = .int .i64 0 ∧ s3 = .int .i64 lim ∧ wr = w) (fun _ _ _ _ => 0)
  case atStart => exact ⟨rfl, rfl, rfl, rfl⟩
  case round =>
    obtain ⟨rfl, rfl, rfl, rfl⟩ := hrel
    go_wp2_with (go_at_call 41; (with_reducible refine (ins_nil _).mono ?_); rintro e w1 ⟨rfl, rfl⟩)
    refine bodyPost_ret (results_none rfl _ _ _) rfl ?_
    exact ⟨rfl, rfl⟩
set_option maxRecDepth 100000 in
theorem sort_nil (w : World) : Calls Try.prog 34 #[.slice none 0 0] w fun e w' => e = .returned (.tuple #[]) ∧ w' = w := by
  have HL' := Lib.hid (fun X => Try.bits_Len 0 X (by omega) (by omega))
  go_enter Try.func34, Try.ntmps34
  go_wp2_with (first
    | (go_at_call 39; (with_reducible refine (HL'.out _).mono ?_); rintro e w1 ⟨rfl, rfl⟩)
    | (go_at_call 38; (with_reducible refine (pdq_nil _ _).mono ?_); rintro e w1 ⟨rfl, rfl⟩))
  go_end0
  exact ⟨rfl, rfl⟩
set_option maxRecDepth 100000 in
theorem comp_nil (w : World) : Calls Try.prog 35 #[.slice none 0 0] w fun e w' => e = .returned (.slice none 0 0) ∧ w' = w := by
  go_enter Try.func35, Try.ntmps35
  go_wp2
  go_ret
  exact ⟨rfl, rfl⟩
set_option maxRecDepth 100000 in
theorem Once_nil (w : World) : Calls Try.prog 18 #[.slice none 0 0] w fun e w' => e = .returned (.slice none 0 0) ∧ w' = w := by
  go_enter Try.func18, Try.ntmps18
  go_wp2_with (first
    | (go_at_call 33; (with_reducible refine (Try.slices_Clone_nil 0 0 _).mono ?_); rintro e w1 ⟨rfl, rfl⟩)
    | (go_at_call 34; (with_reducible refine (sort_nil _).mono ?_); rintro e w1 ⟨rfl, rfl⟩)
    | (go_at_call 35; (with_reducible refine (comp_nil _).mono ?_); rintro e w1 ⟨rfl, rfl⟩))
  go_ret
  exact ⟨rfl, rfl⟩
end Go.Proofs.Ytomchimjogdkkaa
