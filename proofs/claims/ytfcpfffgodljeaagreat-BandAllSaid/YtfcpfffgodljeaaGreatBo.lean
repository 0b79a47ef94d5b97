/-
  Points by one coordinate in memory: a point put behind the others, a point found. No condition but those typed at each theorem.
-/
import Derived.Test.YtfcpfffgodljeaaGreatP3
import Derived.Test.YtfcpfffgodljeaaGreatMUc
import Derived.Test.YtfcpfffgodljeaaGreatAb
namespace Go.Proofs.YtfcpfffgodljeaaGreat.Bd
open Go.RowKit Go.Sort

theorem info_u : (Tryz.prog.info? 32).map (fun i => (i.zero, i.size, i.bytes)) = some (some (.int .u32 0), 1, 4) := by kernel_rfl
theorem info_i : (Tryz.prog.info? 2).map (fun i => (i.zero, i.size, i.bytes)) = some (some (.int .i64 0), 1, 8) := by kernel_rfl
theorem under_u : Tryz.prog.underlying 43 = some (.slice 32) := by kernel_rfl
theorem under_i : Tryz.prog.underlying 68 = some (.slice 2) := by kernel_rfl
theorem row_offS {w X : World} {base n : Nat} {e : TypeId} {size : Nat} {v : Value} {xs : List Value} {S : List Nat} (h : w.ownsRow base e size v n xs) (g : Off S w X) (hS : ∀ k, v.ownBlock = some k → k ∉ S) : X.ownsRow base e size v n xs :=
  row_at h (fun k hk => ⟨g.block k (row_lt h hk).2 (hS k hk), (row_lt h hk).1⟩)
/-- keys and names of points, in rows of their own -/
structure OrR (w : World) (kf : S3 → Int) (L : List S3) (va vn : Value) : Prop where
  ra : w.ownsRow 0 2 1 va L.length ((L.map kf).map (Value.int .i64))
  rn : w.ownsRow 0 32 1 vn L.length ((L.map (·.2.2)).map (Value.int .u32))
theorem OrR.off {w X : World} {kf : S3 → Int} {L : List S3} {va vn : Value} {S : List Nat} (h : OrR w kf L va vn) (g : Off S w X) (h1 : ∀ k, va.ownBlock = some k → k ∉ S) (h2 : ∀ k, vn.ownBlock = some k → k ∉ S) : OrR X kf L va vn :=
  ⟨row_offS h.ra g h1, row_offS h.rn g h2⟩
theorem OrR.keep {w X : World} {kf : S3 → Int} {L : List S3} {va vn : Value} (h : OrR w kf L va vn) (g : Below w.heap.size w X) : OrR X kf L va vn :=
  h.off (Off.of (S := []) g (Nat.le_refl _)) (by simp) (by simp)
theorem OrR.apart {w : World} {kf : S3 → Int} {L : List S3} {va vn : Value} (h : OrR w kf L va vn) : ∀ k, va.ownBlock = some k → vn.ownBlock ≠ some k := by
  intro k h1 h2
  obtain ⟨c1, e1⟩ := row_type h.ra h1
  obtain ⟨c2, e2⟩ := row_type h.rn h2
  exact types_ne e1 e2 (by decide) rfl
theorem OrR.ks {w : World} {kf : S3 → Int} {L : List S3} {va vn : Value} (h : OrR w kf L va vn) : ∃ p c, va = .slice p L.length c ∧ NS w p .i64 (L.map kf) ∧ L.length ≤ c := by
  obtain ⟨-, p, c, e, h1, -, h3⟩ := row_u h.ra
  exact ⟨p, c, e, h1, h3⟩
theorem OrR.ns {w : World} {kf : S3 → Int} {L : List S3} {va vn : Value} (h : OrR w kf L va vn) : ∃ p c, vn = .slice p L.length c ∧ NS w p .u32 (L.map (·.2.2)) ∧ L.length ≤ c := by
  obtain ⟨-, p, c, e, h1, -, h3⟩ := row_u h.rn
  exact ⟨p, c, e, h1, h3⟩
theorem OrR.nil (w : World) (kf : S3 → Int) : OrR w kf [] (.slice none 0 0) (.slice none 0 0) := ⟨World.ownsRow_nil .., World.ownsRow_nil ..⟩

/-- where a new slice lies -/
def Whr (w : World) (v v' : Value) : Prop := ∀ k, v'.ownBlock = some k → v.ownBlock = some k ∨ w.heap.size ≤ k
section
variable {w : World} {b o : Nat} {t : TypeId} {VL : List Value} {kf : S3 → Int} {L : List S3} {va vn : Value}
set_option maxRecDepth 100000 in
set_option maxHeartbeats 1600000 in
theorem oadd_any (hE : EV t w b VL) (h0 : VL[o]? = some va) (h1 : VL[o + 1]? = some vn) (hr : OrR w kf L va vn) (n1 : va.ownBlock ≠ some b) (n2 : vn.ownBlock ≠ some b) (hl : L.length ≤ 8192) (s : S3) :
    Calls Tryz.prog 85 #[.pointer (some ⟨b, o, none⟩), .int .i64 (kf s), .int .u32 s.2.2] w fun e w' => e = .returned (.tuple #[]) ∧ ∃ va' vn', OrR w' kf (L ++ [s]) va' vn' ∧ EV t w' b ((VL.set o va').set (o + 1) vn') ∧ Off (b :: (va.ownBlock.toList ++ vn.ownBlock.toList)) w w' ∧ Whr w va va' ∧ Whr w vn vn' := by
  have HE := Lib.hid hE
  have HR := Lib.hid hr
  have HL := Lib.hid hl
  have HN := Lib.hid (show va.ownBlock ≠ some b ∧ vn.ownBlock ≠ some b from ⟨n1, n2⟩)
  have H01 := Lib.hid (show VL[o]? = some va ∧ VL[o + 1]? = some vn from ⟨h0, h1⟩)
  have c0 := hE.cell h0
  have hlt := hE.lt
  have HSZ := Lib.hid hlt
  obtain ⟨x, y, i⟩ := s
  obtain ⟨kv, hkv⟩ : ∃ kv, kv = kf (x, y, i) := ⟨_, rfl⟩
  have HK := Lib.hid hkv
  rw [← hkv]
  clear hkv hE h0 h1 hr n1 n2 hl
  go_enter Tryz.func85, Tryz.ntmps85
  have d0 : (w.alloc (.cells #[.int .i64 kv] 2)).cell? ⟨b, o, none⟩ = some va := cell_al _ c0
  have d1 : Hid (EV t (w.alloc (.cells #[.int .i64 kv] 2)) b VL) := Lib.hid (HE.out.all _)
  have sz : ∀ (X : World) (p : Addr) (v : Value), (X.setCell p v).heap.size = X.heap.size := fun X p v => by simp
  go_wp2_with (first
    | (at_builtin; refine wpList_more info_i rfl (by decide) (by decide) under_i _ rfl (.tmp 10) (.tmp 12) rfl va L.length _ (by simp [Act.eval]) (HR.out.ra.alloc _) ⟨w.heap.size, 0, none⟩ 1 1 [.int .i64 kv] (by simp [Act.eval]) rfl (one_at w (.int .i64 kv) 2) (by simp [Value.oneCell']) (by have := HL.out; omega) (by decide) ?_; intro g cap w1 r1 r2 r3; have R3 := Lib.hid r3; have hE1 := EV.grown d1.out r2 (fun e => HN.out.1 e.symm); have y1 := hE1.cell H01.out.1; have y2 := hE1.free o; have y3 := hE1.cell H01.out.2; have HO1 : Hid (Off va.ownBlock.toList w w1) := Lib.hid (((Off.refl _ w).all _).grow r2 (fun k e => .inl (by simp [e]))); have HGB : Hid (g ≠ b) := Lib.hid (r3.elim (fun r e => HN.out.1 (e ▸ r)) (fun r => by have := HSZ.out; simp at r; omega)); have HGN : Hid (∀ k, vn.ownBlock = some k → k ≠ g) := Lib.hid (fun k hk e => r3.elim (fun r => HR.out.apart g r (e ▸ hk)) (fun r => by have := (row_lt HR.out.rn hk).2; simp at r; omega)); have HE2 := Lib.hid (hE1.set o (.slice (some ⟨g, 0, none⟩) (L.length + 1) cap)); have HA2 := Lib.hid (row_offS r1 ((Off.refl [b] w1).set ⟨b, o, none⟩ (.slice (some ⟨g, 0, none⟩) (L.length + 1) cap) (.inl (by simp))) (by intro k hk; simp [Value.ownBlock] at hk; subst hk; simpa using HGB.out)); have HN2 := Lib.hid (row_offS (row_offS HR.out.rn HO1.out (by intro k hk; simp; exact fun e => HR.out.apart k e hk)) ((Off.refl [b] w1).set ⟨b, o, none⟩ (.slice (some ⟨g, 0, none⟩) (L.length + 1) cap) (.inl (by simp))) (by intro k hk; simp; exact fun e => HN.out.2 (e ▸ hk))); have HO2 : Hid (Off (b :: va.ownBlock.toList) w (w1.setCell ⟨b, o, none⟩ (.slice (some ⟨g, 0, none⟩) (L.length + 1) cap))) := Lib.hid ((HO1.out.mono (T := b :: va.ownBlock.toList) (fun k _ hk => List.mem_cons_of_mem _ hk)).set _ _ (.inl (by simp))); clear r1 r2 r3 hE1)
    | (at_builtin; refine wpList_more info_u rfl (by decide) (by decide) under_u _ rfl (.tmp 20) (.tmp 22) rfl vn L.length _ (by simp [Act.eval]) (HN2.out.alloc _) ⟨w1.heap.size, 0, none⟩ 1 1 [.int .u32 i] (by simp [Act.eval]) rfl (by have := one_at (w1.setCell ⟨b, o, none⟩ (.slice (some ⟨g, 0, none⟩) (L.length + 1) cap)) (.int .u32 i) 32; rw [sz] at this; exact this) (by simp [Value.oneCell']) (by have := HL.out; omega) (by decide) ?_; intro g2 cap2 w2 q1 q2 q3; have hE3 := EV.grown (HE2.out.all (.cells #[.int .u32 i] 32)) q2 (fun e => HN.out.2 e.symm); have y4 := hE3.cell (i := o + 1) (by rw [List.getElem?_set_ne (by omega)]; exact H01.out.2); have y5 := hE3.free (o + 1); have HE3 := Lib.hid hE3; have Q1 := Lib.hid q1; have Q2 := Lib.hid q2; have Q3 := Lib.hid q3; clear q1 q2 q3 hE3)
    | (at_builtin; fail))
  go_end0
  have hO3 : Off vn.ownBlock.toList (w1.setCell ⟨b, o, none⟩ (.slice (some ⟨g, 0, none⟩) (L.length + 1) cap)) w2 := ((Off.refl _ _).all _).grow Q2.out (fun k e => .inl (by simp [e]))
  have hg2 : g2 ≠ b := Q3.out.elim (fun r e => HN.out.2 (e ▸ r)) (fun r => by have := HSZ.out; have := HO1.out.size; simp at r; omega)
  have hset := (Off.refl [b] w2).set ⟨b, o + 1, none⟩ (.slice (some ⟨g2, 0, none⟩) (L.length + 1) cap2) (.inl (by simp))
  refine ⟨rfl, _, _, ⟨?_, ?_⟩, HE3.out.set (o + 1) _, ?_, ?_, ?_⟩
  · have h1 := row_offS (row_offS HA2.out hO3 (by intro k hk; simp [Value.ownBlock] at hk; subst hk; simp; exact fun e => HGN.out _ e rfl)) hset (by intro k hk; simp [Value.ownBlock] at hk; subst hk; simpa using HGB.out)
    rw [List.length_append, List.map_append, List.map_append]
    simpa [← HK.out] using h1
  · have h1 := row_offS Q1.out hset (by intro k hk; simp [Value.ownBlock] at hk; subst hk; simpa using hg2)
    rw [List.length_append, List.map_append, List.map_append]
    simpa using h1
  · have h1 := (HO2.out.mono (T := b :: (va.ownBlock.toList ++ vn.ownBlock.toList)) (fun k _ hk => by simp only [List.mem_cons, List.mem_append] at hk ⊢; exact hk.elim .inl (fun h => .inr (.inl h)))).via hO3 (fun k _ hk => by simp only [List.mem_cons, List.mem_append]; exact .inr (.inr hk))
    exact h1.set _ _ (.inl (by simp))
  · intro k hk
    simp [Value.ownBlock] at hk
    subst hk
    exact R3.out.elim .inl (fun r => .inr (by simp at r; omega))
  · intro k hk
    simp [Value.ownBlock] at hk
    subst hk
    exact Q3.out.elim .inl (fun r => .inr (by have := HO1.out.size; simp at r; omega))
end

/-! ### a point found -/
theorem nanS_any (x : Int) (w : World) : Calls Tryz.prog 107 #[.int .u32 x] w fun e w' => e = .returned (.bool false) ∧ w' = w := by
  go_enter Tryz.func107, Tryz.ntmps107
  go_wp2
  go_ret
  exact ⟨by simp, rfl⟩
/-- whether a name is at that place of names that rise -/
def isAt (xs : List Int) (x : Int) (i : Nat) : Bool := decide (i < xs.length) && decide (xs.getD i 0 = x)
set_option maxRecDepth 100000 in
set_option maxHeartbeats 1600000 in
theorem bsu_any (w : World) (p : Option Addr) (n cap : Nat) (xs : List Int) (x : Int) (hx : NS w p .u32 xs) (hn : n = xs.length) (hl : n ≤ 8192) :
    Calls Tryz.prog 74 #[.slice p n cap, .int .u32 x] w fun e w' => e = .returned (.tuple #[.int .i64 (firstP xs x).1, .bool (isAt xs x (firstP xs x).1)]) ∧ w' = w := by
  have HX := Lib.hid hx
  have HN := Lib.hid hn
  obtain ⟨r0, hr0⟩ : ∃ r0, r0 = (firstP xs x).1 := ⟨_, rfl⟩
  have HK0 : Hid (∃ k, (lkGo (notLess xs x) 0 n k).1 = r0) := Lib.hid ⟨0, by rw [hr0, hn]; rfl⟩
  rw [← hr0]
  clear hx hn hr0
  have HL := Lib.hid (fun a (w : World) => U32.less_any a x w)
  have HNN := Lib.hid (fun a (w : World) => nanS_any a w)
  go_enter Tryz.func74, Tryz.ntmps74
  go_wp2
  go_loopw [7, 8] (fun iv jv wr => ∃ i j : Nat, iv = .int .i64 i ∧ jv = .int .i64 j ∧ i ≤ j ∧ j ≤ n ∧ Hid (∃ k, (lkGo (notLess xs x) i j k).1 = r0) ∧ wr = w) (fun iv jv _ => (intOf jv).toNat - (intOf iv).toNat)
  case atStart => exact ⟨0, n, rfl, rfl, Nat.zero_le _, Nat.le_refl _, HK0, rfl⟩
  case round =>
    obtain ⟨i, j, rfl, rfl, hij, hjn, HK, rfl⟩ := hrel
    by_cases hlt : i < j
    · have hltz : (i : Int) < j := by omega
      obtain ⟨h, hh⟩ : ∃ h : Nat, h = (i + j) / 2 := ⟨_, rfl⟩
      have e1 : ((i : Int) + j) / 2 = (h : Int) := by omega
      have hih : i ≤ h ∧ h < j := by omega
      have hhn : h < n := by omega
      obtain ⟨y, hy⟩ : ∃ y, xs[h]? = some y := ⟨_, List.getElem?_eq_getElem (by have := HN.out; omega)⟩
      have hyD : xs.getD h 0 = y := by rw [List.getD_eq_getElem?_getD, hy]; rfl
      obtain ⟨bb, off, rfl, hc⟩ : ∃ bb off, p = some ⟨bb, off, none⟩ ∧ wr.cell? ⟨bb, off + h, none⟩ = some (.int .u32 y) := by
        rcases HX.out with h0 | ⟨bb, off, e, h0⟩
        · subst h0; simp at hy
        · exact ⟨bb, off, e, h0 h y hy⟩
      have HH := Lib.hid (show i + (j - i) / 2 = h by omega)
      have HY := Lib.hid hyD
      clear hh hy hyD
      by_cases hyx : y < x
      · have hLy : ltInt y x = true := by simp [ltInt, hyx]
        have HLY := Lib.hid (fun w => by have := HL.out y w; rw [hLy] at this; exact this)
        clear hLy
        go_wp2_with (go_at_call 106; (with_reducible refine (HLY.out _).mono ?_); rintro e w1 ⟨rfl, rfl⟩)
        go_roundw
        case rel => exact ⟨h + 1, j, by go_num, rfl, by omega, hjn, Lib.hid (by obtain ⟨k, hk⟩ := HK.out; rw [lkGo_no _ _ hlt (by rw [HH.out, notLess, HY.out]; simpa using hyx), HH.out] at hk; exact ⟨_, hk⟩), by trivial⟩
        case measure => simp [intOf]; omega
      · have hLy : ltInt y x = false := by simp [ltInt]; omega
        have HLY := Lib.hid (fun w => by have := HL.out y w; rw [hLy] at this; exact this)
        clear hLy
        go_wp2_with (go_at_call 106; (with_reducible refine (HLY.out _).mono ?_); rintro e w1 ⟨rfl, rfl⟩)
        go_roundw
        case rel => exact ⟨i, h, rfl, by go_num, by omega, by omega, Lib.hid (by obtain ⟨k, hk⟩ := HK.out; rw [lkGo_yes _ _ hlt (by rw [HH.out, notLess, HY.out]; simp; omega), HH.out] at hk; exact ⟨_, hk⟩), by trivial⟩
        case measure => simp [intOf]; omega
    · have hltz : ¬ (i : Int) < j := by omega
      obtain rfl : i = j := by omega
      obtain rfl : i = r0 := by obtain ⟨k, hk⟩ := HK.out; rw [lkGo_end _ _ hlt] at hk; exact hk
      by_cases hin : i < n
      · have hinz : (i : Int) < n := by omega
        obtain ⟨y, hy⟩ : ∃ y, xs[i]? = some y := ⟨_, List.getElem?_eq_getElem (by have := HN.out; omega)⟩
        have hyD : xs.getD i 0 = y := by rw [List.getD_eq_getElem?_getD, hy]; rfl
        obtain ⟨bb, off, rfl, hc⟩ : ∃ bb off, p = some ⟨bb, off, none⟩ ∧ wr.cell? ⟨bb, off + i, none⟩ = some (.int .u32 y) := by
          rcases HX.out with h0 | ⟨bb, off, e, h0⟩
          · subst h0; simp at hy
          · exact ⟨bb, off, e, h0 i y hy⟩
        have HA : Hid (isAt xs x i = decide (y = x)) := Lib.hid (by unfold isAt; rw [hyD, decide_eq_true (by rw [← HN.out]; exact hin), Bool.true_and])
        clear hy hyD
        by_cases hyx : y = x
        · rw [decide_eq_true hyx] at HA
          have hbe : (y == x) = true := by simpa using hyx
          go_wp2_with (go_at_call 107; (with_reducible refine (HNN.out _ _).mono ?_); rintro e w1 ⟨rfl, rfl⟩)
          go_ret2
          rw [HA.out]
          exact ⟨rfl, rfl⟩
        · rw [decide_eq_false hyx] at HA
          have hbe : (y == x) = false := by simpa using hyx
          go_wp2_with (go_at_call 107; (with_reducible refine (HNN.out _ _).mono ?_); rintro e w1 ⟨rfl, rfl⟩)
          go_ret2
          rw [HA.out]
          exact ⟨rfl, rfl⟩
      · have hinz : ¬ (i : Int) < n := by omega
        have HA : Hid (isAt xs x i = false) := Lib.hid (by unfold isAt; rw [decide_eq_false (by rw [← HN.out]; exact hin), Bool.false_and])
        go_wp2
        go_ret2
        rw [HA.out]
        exact ⟨rfl, rfl⟩
end Go.Proofs.YtfcpfffgodljeaaGreat.Bd
