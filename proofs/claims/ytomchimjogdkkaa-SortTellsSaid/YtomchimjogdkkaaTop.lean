/-
  sort.Order, sort.Merge and whether keys rise. No condition but those typed at each theorem.
-/
import Derived.Test.YtomchimjogdkkaaOrd
import Derived.Test.YtomchimjogdkkaaRise
namespace Go.Proofs.Ytomchimjogdkkaa
open Go.RowKit

/-- does the key at the one place stand ahead of that at the other -/
def ahK (ks : List (Int × Int)) (p q : Int) : Bool := kl (ks.getD p.toNat (0, 0)) (ks.getD q.toNat (0, 0))
/-- all places in order -/
def srt (ks : List (Int × Int)) : List Int := ord (ahK ks) (upto ks.length)
theorem srt_len (ks : List (Int × Int)) : (srt ks).length = ks.length := by rw [srt, ord_len, upto_len]
/-- a list of places was told: its block, its numbers, how many were written, no error -/
def Told (w : World) (L : List Int) (n : Nat) (c : Nat) (e : Ending) (w' : World) : Prop :=
  ∃ A, e = .returned (.tuple #[.slice (some ⟨A, 0, none⟩) L.length c, .int .i64 n, .int .i64 0]) ∧ w.heap.size ≤ A ∧ L.length ≤ c ∧ c ≤ 8192 ∧ (∃ r, r.length + L.length = c ∧ EB .i64 3 w' A (L ++ r)) ∧ Below w.heap.size w w'

theorem mem_upto {n : Nat} {y : Int} (h : y ∈ upto n) : 0 ≤ y ∧ y < n := by
  simp [upto] at h
  obtain ⟨a, h1, rfl⟩ := h
  omega
theorem getD_some (ks : List (Int × Int)) (p : Int) (h : p.toNat < ks.length) : ks[p.toNat]? = some (ks.getD p.toNat (0, 0)) := by
  simp [List.getElem?_eq_getElem h]
theorem ah23 (w0 : World) (B : Nat) (p : Option Addr) (cap : Nat) (ks : List (Int × Int)) (hbox : w0.cell? ⟨B, 0, none⟩ = some (.slice p ks.length cap)) (hks : KS w0 p ks) :
    AH (ahK ks) (fun y x => (0 ≤ y ∧ y < ks.length) ∧ (0 ≤ x ∧ x < ks.length)) w0.heap.size w0 23 #[.pointer (some ⟨B, 0, none⟩)] := by
  rintro X hX - y x ⟨⟨hy, hy'⟩, hx, hx'⟩
  rcases hks with rfl | ⟨b, off, rfl, hk, hlt⟩
  · simp at hy'; omega
  have := ord1_any X B b off cap ks ((hX.cell (World.block_lt_of_cell? w0 _ hbox)).trans hbox) (hk.keep hX hlt) y.toNat x.toNat _ _ (getD_some ks y (by omega)) (getD_some ks x (by omega))
  rw [Int.toNat_of_nonneg hy, Int.toNat_of_nonneg hx] at this
  exact this

theorem spl_all {L zs : List Int} (h : zs.length = L.length) : spl L 0 zs = zs := by simp [spl, h]
theorem eg23 : ∀ args w, (callFunc 23 args).run Try.prog w = .ok (.enter 23 args) w := enters_of Try.func23 (by kernel_rfl) rfl
theorem eg30 : ∀ args w, (callFunc 30 args).run Try.prog w = .ok (.enter 30 args) w := enters_of Try.func30 (by kernel_rfl) rfl

set_option maxRecDepth 100000 in
set_option maxHeartbeats 800000 in
theorem Order_any (w : World) (p : Option Addr) (cap : Nat) (ks : List (Int × Int)) (hks : KS w p ks) (hn : ks.length ≤ 4096) :
    Calls Try.prog 12 #[.slice p ks.length cap] w (Told w (srt ks) (wrt ks.length) ks.length) := by
  have hmf : ∀ (fn : Fn) (first cap : Array Value) (w : World), (Instr.makeFunc fn first cap).run Try.prog w = .ok (.func fn first cap) w := fun _ _ _ _ => rfl
  obtain ⟨W, hW⟩ : ∃ W, W = w.alloc (.cells #[.slice p ks.length cap] 22) := ⟨_, rfl⟩
  have hWb : Below w.heap.size w W := by subst hW; exact (Below.refl _ w).alloc (Nat.le_refl _) _
  have hWs : W.heap.size = w.heap.size + 1 := by subst hW; simp
  have hbox : W.cell? ⟨w.heap.size, 0, none⟩ = some (.slice p ks.length cap) := by subst hW; simp
  have hA := ah23 W w.heap.size p cap ks hbox (hks.keep hWb)
  have HA := Lib.hid hA
  have HP := Lib.hid (places_any ks.length W (by omega))
  clear hA
  obtain ⟨n, hnn⟩ : ∃ n, n = ks.length := ⟨_, rfl⟩
  rw [← hnn] at hbox HP hn hW
  rw [← hnn]
  have HN := Lib.hid hnn
  clear hnn
  have hnz : ¬ (17179869184 : Int) < n := by omega
  have hmk := fun w => mk27 w n n (Nat.le_refl _) (by omega)
  have HWb := Lib.hid hWb
  have HWs := Lib.hid hWs
  clear hWb hWs
  go_enter Try.func12, Try.ntmps12
  go_upto_region 1 with fail
  rw [← hW]
  have HW := Lib.hid hW
  clear hW
  go_wp2_with (first
    | (go_at_call 25; refine HP.out.mono ?_; rintro e w1 ⟨rfl, hE1, hB1⟩; have HE1 := Lib.hid hE1; have HB1 := Lib.hid hB1; have hb1 := (hB1.cell (p := ⟨w.heap.size, 0, none⟩) (by have := HWs.out; dsimp only; omega)).trans hbox; have hs1 := hB1.size; clear hE1 hB1)
    | (go_at_call 26; with_reducible refine (order_any W W.heap.size W.heap.size w1.heap.size 23 #[.pointer (some ⟨w.heap.size, 0, none⟩)] (ahK ks) _ eg23 HA.out (Nat.le_refl _) hs1 (Nat.ne_of_gt HE1.out.lt) n (w1.alloc (.cells (madeCells #[.int .i64 0] n) 3)) 0 n 0 n (upto n) (List.replicate n 0) (upto n) (upto_len n) hn (HB1.out.alloc hs1 _) ?_ (HE1.out.all _) (EB.made .i64 3 w1 n) ?_ ?_ ?_ ?_ (Nat.le_refl _) (Nat.le_refl _) ?_ ?_).mono ?_))
  · simp; omega
  · intro j x e; simpa using e
  · intro y hy x hx
    have := mem_upto hy
    have := mem_upto hx
    rw [← HN.out]
    omega
  · simp [upto_len]
  · simp
  · omega
  · omega
  · rintro e w2 ⟨rfl, hE2, -, hO2⟩
    rw [upto_len]
    go_wp2
    go_ret3
    have hWs := HWs.out
    have hsl : (srt ks).length = n := by rw [srt_len, HN.out]
    refine ⟨W.heap.size, ?_, by omega, by omega, by omega, ⟨[], by simpa using hsl, ?_⟩, ?_⟩
    · rw [hsl]; rfl
    · rw [spl_all (by rw [ord_len])] at hE2
      simp only [srt, ← HN.out, List.append_nil]
      exact hE2
    · exact (HWb.out.trans ((HB1.out.mono (by omega)).alloc (by omega) _)).trans (hO2.below (by simp; omega) (by simp; omega))

/-- the same for two lists: the one place is counted on behind the first list -/
def ahM (xs ys : List (Int × Int)) (p q : Int) : Bool := kl (ys.getD (p - xs.length).toNat (0, 0)) (xs.getD q.toNat (0, 0))
def mgd (xs ys : List (Int × Int)) : List Int := mrg (ahM xs ys) (upto xs.length) ((upto (xs.length + ys.length)).drop xs.length)
theorem mgd_len (xs ys : List (Int × Int)) : (mgd xs ys).length = xs.length + ys.length := by simp [mgd, mrg_len, upto_len]
theorem mem_drop_upto {n k : Nat} {y : Int} (h : y ∈ (upto n).drop k) : k ≤ y ∧ y < n := by
  obtain ⟨i, hi⟩ := List.mem_iff_getElem?.1 h
  rw [List.getElem?_drop] at hi
  simp only [upto, List.getElem?_map, Option.map_eq_some_iff] at hi
  obtain ⟨a, h1, rfl⟩ := hi
  obtain ⟨h2, h3⟩ := List.getElem?_eq_some_iff.1 h1
  simp at h2 h3
  subst h3
  simp
  omega
theorem ah30 (w0 : World) (A B : Nat) (p q : Option Addr) (ca cb : Nat) (xs ys : List (Int × Int)) (hl : xs.length + ys.length ≤ 8192) (hbA : w0.cell? ⟨A, 0, none⟩ = some (.slice p xs.length ca)) (hx : KS w0 p xs)
    (hbB : w0.cell? ⟨B, 0, none⟩ = some (.slice q ys.length cb)) (hy : KS w0 q ys) :
    AH (ahM xs ys) (fun y x => (xs.length ≤ y ∧ y < xs.length + ys.length) ∧ (0 ≤ x ∧ x < xs.length)) w0.heap.size w0 30 #[.pointer (some ⟨B, 0, none⟩), .pointer (some ⟨A, 0, none⟩)] := by
  rintro X hX - y x ⟨⟨hy1, hy2⟩, hx1, hx2⟩
  rcases hx with rfl | ⟨a, offa, rfl, hkx, hltx⟩
  · simp at hx2; omega
  rcases hy with rfl | ⟨b, offb, rfl, hky, hlty⟩
  · simp at hy2; omega
  have := mer1_any X A B a b offa offb ca cb xs ys (by omega) ((hX.cell (World.block_lt_of_cell? w0 _ hbA)).trans hbA) (hkx.keep hX hltx) ((hX.cell (World.block_lt_of_cell? w0 _ hbB)).trans hbB) (hky.keep hX hlty)
    (y - xs.length).toNat x.toNat _ _ (getD_some ys (y - xs.length) (by omega)) (getD_some xs x (by omega))
  rw [Int.toNat_of_nonneg hx1, Int.toNat_of_nonneg (by omega : 0 ≤ y - xs.length), show (xs.length : Int) + (y - xs.length) = y by omega] at this
  exact this

/-- two lists of which one does not rise -/
def Bad (w : World) (c : Int) (e : Ending) (w' : World) : Prop := e = .returned (.tuple #[.slice none 0 0, .int .i64 0, .int .i64 c]) ∧ Below w.heap.size w w'
theorem sl_hi (A n la lb : Nat) (hn : n = la + lb) : ∃ o, (0 < lb → o = la) ∧ ∀ X, (Instr.slice 27 (.slice (some ⟨A, 0, none⟩) n n) (some (.int .i64 la)) (some (.int .i64 n)) (some (.int .i64 n))).run Try.prog X = .ok (.slice (some ⟨A, o, none⟩) lb lb) X := by
  by_cases h : lb = 0
  · subst h
    obtain ⟨i0, hi, hz0, hz1, hz2⟩ := info_parts Try.info3
    refine ⟨0, by omega, fun X => ?_⟩
    simp [Instr.slice, run_underlying Try.underlying27, Instr.sliceBounds, Instr.sliceBound, asIntOf, sizeOf, typeInfo, hi, hn]
  · refine ⟨la, by omega, fun X => ?_⟩
    have := sl_mid X A 0 n n la n n (Nat.le_refl _) (Nat.le_refl _) (by omega) (by omega)
    rw [this, Nat.zero_add, show n - la = lb by omega]

set_option maxRecDepth 100000 in
set_option maxHeartbeats 1600000 in
theorem Merge_any (w : World) (p q : Option Addr) (ca cb : Nat) (xs ys : List (Int × Int)) (hx : KS w p xs) (hy : KS w q ys) (hn : xs.length ≤ 4000 ∧ ys.length ≤ 4000) :
    Calls Try.prog 15 #[.slice p xs.length ca, .slice q ys.length cb] w fun e w' => if risD xs && risD ys then Told w (mgd xs ys) (xs.length + ys.length) (xs.length + ys.length) e w' else Bad w 2 e w' := by
  have hmf : ∀ (fn : Fn) (first cap : Array Value) (w : World), (Instr.makeFunc fn first cap).run Try.prog w = .ok (.func fn first cap) w := fun _ _ _ _ => rfl
  obtain ⟨W, hW⟩ : ∃ W, W = (w.alloc (.cells #[.slice p xs.length ca] 22)).alloc (.cells #[.slice q ys.length cb] 22) := ⟨_, rfl⟩
  have hWb : Below w.heap.size w W := by subst hW; exact ((Below.refl _ w).alloc (Nat.le_refl _) _).alloc (by simp) _
  have hWs : W.heap.size = w.heap.size + 2 := by subst hW; simp
  have hbA : W.cell? ⟨w.heap.size, 0, none⟩ = some (.slice p xs.length ca) := by subst hW; simp
  have hbB : W.cell? ⟨w.heap.size + 1, 0, none⟩ = some (.slice q ys.length cb) := by
    subst hW
    have := World.cell?_alloc_new (w := w.alloc (.cells #[.slice p xs.length ca] 22)) #[.slice q ys.length cb] 22 0
    simp
  have HA := Lib.hid (ah30 W w.heap.size (w.heap.size + 1) p q ca cb xs ys (by omega) hbA (hx.keep hWb) hbB (hy.keep hWb))
  have HX := Lib.hid hx
  have HY := Lib.hid hy
  have HWb := Lib.hid hWb
  have HWs := Lib.hid hWs
  have hK : ∀ (X : World) (b : Nat) (v : Value), Below W.heap.size W X → W.cell? ⟨b, 0, none⟩ = some v → X.cell? ⟨b, 0, none⟩ = some v := fun X b v h e => (h.cell (World.block_lt_of_cell? W _ e)).trans e
  have HK := Lib.hid hK
  have HR1 := Lib.hid (fun X (h : Below W.heap.size W X) => rise_any X p ca xs ((hx.keep hWb).keep h) (by omega))
  have HR2 := Lib.hid (fun X (h : Below W.heap.size W X) => rise_any X q cb ys ((hy.keep hWb).keep h) (by omega))
  clear hx hy hWb hWs hK
  obtain ⟨r1, hr1⟩ : ∃ r, r = risD xs := ⟨_, rfl⟩
  obtain ⟨r2, hr2⟩ : ∃ r, r = risD ys := ⟨_, rfl⟩
  rw [← hr1] at HR1
  rw [← hr2] at HR2
  rw [← hr1, ← hr2]
  clear hr1 hr2
  obtain ⟨la, hla⟩ : ∃ n, n = xs.length := ⟨_, rfl⟩
  obtain ⟨lb, hlb⟩ : ∃ n, n = ys.length := ⟨_, rfl⟩
  rw [← hla] at hbA hn hW HR1
  rw [← hlb] at hbB hn hW HR2
  rw [← hla, ← hlb]
  have HLA := Lib.hid hla
  have HLB := Lib.hid hlb
  clear hla hlb
  obtain ⟨n, hnn⟩ : ∃ n, n = la + lb := ⟨_, rfl⟩
  have hz : ((la : Int) + lb) = (n : Int) := by omega
  have hnz : ¬ (17179869184 : Int) < n := by omega
  have hnle : n ≤ 8000 := by omega
  have HN := Lib.hid hnn
  have HP := Lib.hid (fun X => places_any n X (by omega))
  clear hnn
  go_enter Try.func15, Try.ntmps15
  go_upto_region 1 with fail
  rw [← hW]
  have HW := Lib.hid hW
  clear hW
  have bl0 := Lib.hid (Below.refl W.heap.size W)
  cases r1
  · go_wp2_with (first
      | (go_at_call 29; with_reducible refine (HR1.out W bl0.out).mono ?_; rintro e w1 ⟨rfl, hB1⟩; have HB1 := Lib.hid hB1; have hbA1 := HK.out w1 _ _ hB1 hbA; have hbB1 := HK.out w1 _ _ hB1 hbB; clear hB1))
    go_ret3
    have hWs := HWs.out
    exact ⟨rfl, HWb.out.trans (HB1.out.mono (by omega))⟩
  cases r2
  · go_wp2_with (first
      | (go_at_call 29; with_reducible refine (HR1.out W bl0.out).mono ?_; rintro e w1 ⟨rfl, hB1⟩; have HB1 := Lib.hid hB1; have hbA1 := HK.out w1 _ _ hB1 hbA; have hbB1 := HK.out w1 _ _ hB1 hbB; clear hB1)
      | (go_at_call 29; with_reducible refine (HR2.out w1 HB1.out).mono ?_; rintro e w2 ⟨rfl, hB2⟩; have HB2 := Lib.hid (HB1.out.trans (hB2.mono HB1.out.size)); have hbA2 := HK.out w2 _ _ HB2.out hbA; have hbB2 := HK.out w2 _ _ HB2.out hbB; clear hB2))
    go_ret3
    have hWs := HWs.out
    exact ⟨rfl, HWb.out.trans (HB2.out.mono (by omega))⟩
  go_upto_region 8 with (first
      | (go_at_call 29; with_reducible refine (HR1.out W bl0.out).mono ?_; rintro e w1 ⟨rfl, hB1⟩; have HB1 := Lib.hid hB1; have hbA1 := HK.out w1 _ _ hB1 hbA; have hbB1 := HK.out w1 _ _ hB1 hbB; clear hB1)
      | (go_at_call 29; with_reducible refine (HR2.out w1 HB1.out).mono ?_; rintro e w2 ⟨rfl, hB2⟩; have HB2 := Lib.hid (HB1.out.trans (hB2.mono HB1.out.size)); have hbA2 := HK.out w2 _ _ HB2.out hbA; have hbB2 := HK.out w2 _ _ HB2.out hbB; clear hB2)
      | (go_at_call 25; with_reducible refine (HP.out w2).mono ?_; rintro e w3 ⟨rfl, hE3, hB3⟩; have HE3 := Lib.hid hE3; have HB3 := Lib.hid (HB2.out.trans (hB3.mono HB2.out.size)); have hbA3 := HK.out w3 _ _ HB3.out hbA; have hs3 := hB3.size; clear hE3 hB3))
  obtain ⟨A, hAe⟩ : ∃ A, A = w2.heap.size := ⟨_, rfl⟩
  rw [← hAe] at HE3
  rw [← hAe]
  obtain ⟨o, ho, s2⟩ := sl_hi A n la lb HN.out
  have s1 := fun X => sl_lo X (some ⟨A, 0, none⟩) n n la la (by omega) (by omega)
  have hmk : ∀ w : World, (Instr.makeSlice 27 (.int .i64 0) (.int .i64 n)).run Try.prog w = .ok (.slice (some ⟨w.heap.size, 0, none⟩) 0 n) (w.alloc (.cells (madeCells #[.int .i64 0] n) 3)) := fun w => mk27 w 0 n (Nat.zero_le _) (by omega)
  clear hbA1 hbA2 hbB1 hbB2 hbA hbB
  have hWs := HWs.out
  have hAW : W.heap.size ≤ A := by rw [hAe]; exact HB2.out.size
  have hAlt := HE3.out.lt
  have hl1 : (upto la).length = la := upto_len la
  have hl2 : ((upto n).drop la).length = lb := by simp [upto_len]; have := HN.out; omega
  have hB4 : Below W.heap.size W (w3.alloc (.cells (madeCells #[.int .i64 0] n) 3)).drew := (HB3.out.alloc HB3.out.size _).drew
  have hC := merge_any (w3.alloc (.cells (madeCells #[.int .i64 0] n) 3)).drew W W.heap.size w3.heap.size 0 n A 0 la o lb 30 #[.pointer (some ⟨w.heap.size + 1, 0, none⟩), .pointer (some ⟨w.heap.size, 0, none⟩)] (List.replicate n 0) (upto n) (upto la) ((upto n).drop la) (ahM xs ys) _ eg30 HA.out hB4 ⟨by omega, hB4.size⟩ (by omega)
    (EB.made .i64 3 w3 n).drew (HE3.out.all _).drew (by
      intro j x e
      have hj : j < la := by have := (List.getElem?_eq_some_iff.1 e).1; rw [upto_len] at this; exact this
      rw [Nat.zero_add, ← e]
      have := HN.out
      simp [upto, hj, show j < n by omega]) (by
      intro j x e
      have hj : j < lb := by have := (List.getElem?_eq_some_iff.1 e).1; omega
      rw [ho (by omega), ← List.getElem?_drop]; exact e) (by
      intro y hy x hx
      have h1 := mem_drop_upto hy
      have h2 := mem_upto hx
      have h3 := HN.out
      rw [← HLA.out, ← HLB.out]
      omega) (by omega) (by omega) (by have := HN.out; omega) (by simp) (by omega)
  rw [hl1, hl2] at hC
  have HC := Lib.hid hC
  have HA4 := Lib.hid hB4
  have HWs' := Lib.hid hWs
  have HAE := Lib.hid hAe
  have hdl := Lib.hid hl2
  have hne := Lib.hid (show w.heap.size ∉ [w3.heap.size] by have := HB3.out.size; simp; omega)
  clear hC hB4 hl1 hl2 hWs hAW hAlt ho hAe
  have hbA4 : ∀ o, (w3.alloc o).drew.cell? ⟨w.heap.size, 0, none⟩ = some (.slice p la ca) := fun o => (World.cell?_alloc_lt _ _ _ (World.block_lt_of_cell? w3 _ hbA3)).trans hbA3
  go_region_held3 (fun X => X.cell? ⟨w.heap.size, 0, none⟩ = some (.slice p la ca)) (first | exact hbA3 | exact hbA4 _ | exact hbA5) (first
    | (go_at_call 31; (with_reducible refine HC.out.mono ?_); rintro e w4 ⟨rfl, hR4, -, hO4⟩; have HR4 := Lib.hid hR4; have HO4 := Lib.hid hO4; have hbA5 := hO4.cell (hbA4 _) hne.out; clear hR4 hO4; rw [upto_len, hdl.out]))
  go_wp2
  go_ret3
  have hWs := HWs'.out
  have hml : (mgd xs ys).length = n := by rw [mgd_len, ← HLA.out, ← HLB.out, HN.out]
  have hlab := HN.out
  refine ⟨w3.heap.size, ?_, ?_, ?_, ?_, ⟨[], ?_, ?_⟩, ?_⟩
  · rw [hml, ← hlab]; rfl
  · have := HB3.out.size; omega
  · omega
  · omega
  · simp; omega
  · have h4 := HR4.out
    rw [spl_all (by rw [mrg_len]; simp [upto_len]; omega)] at h4
    simp only [mgd, ← HLA.out, ← HLB.out, ← hlab, List.append_nil]
    exact h4
  · exact HWb.out.trans ((HA4.out.mono (by omega)).trans (HO4.out.below (by have := HB3.out.size; simp; omega) (by have := HB3.out.size; simp; omega)))
end Go.Proofs.Ytomchimjogdkkaa
