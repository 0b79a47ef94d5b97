/-
  The lowest points between two numbers, the lowest first (Lows): the walk. No condition but those typed at each theorem.
-/
import Derived.Test.YtldmajifkmcdcaaGreatMVm
namespace Go.Proofs.YtldmajifkmcdcaaGreat.Lv
open Go.RowKit Go.Sort Bd
section
variable {w w' : World} {P : LoP} {RX A : List S3} {g : Nat → Option S3} {m cap : Nat} {cc : Int}
/-- in the midst of telling: j were told -/
structure LqM (w wr : World) (P : LoP) (RX A : List S3) (g : Nat → Option S3) (m q c0 : Nat) (B1 : World) (LW : List S3) (j c : Nat) (ys : List Nat) (v : Value) : Prop where
  q : QS w B1 wr P g m q c ys wr
  p : (pend RX A ys).Perm (LW.drop j)
  r : wr.ownsRow B1.heap.size 34 3 v j (flatT (LW.take j))
  jl : j ≤ LW.length
  yl : ys.length ≤ 400
  cl : j + ys.length ≤ c
  cu : c ≤ c0 + j * lgN RX.length
/-- the same, one more told, ahead of what hangs beside -/
structure LqN (w wr : World) (P : LoP) (RX A : List S3) (g : Nat → Option S3) (m q c0 : Nat) (B1 : World) (LW : List S3) (j c : Nat) (ys : List Nat) (v : Value) (x : Nat) (s : S3) : Prop where
  q : QS w B1 wr P g m q c ys wr
  p : (sg RX A (lo RX.length x) (hi RX.length x) ++ pend RX A ys).Perm (s :: LW.drop (j + 1))
  r : wr.ownsRow B1.heap.size 34 3 v (j + 1) (flatT (LW.take (j + 1)))
  jl : j + 1 ≤ LW.length
  yl : ys.length ≤ 400
  cl : j + 1 + ys.length ≤ c
  cu : c ≤ c0 + j * lgN RX.length
theorem LqM.fin {wr w' : World} {q c0 j c bt kk : Nat} {B1 : World} {LW : List S3} {ys : List Nat} {v : Value} (h : LqM w wr P RX A g m q c0 B1 LW j c ys v) (hf : RX.length ≤ 400) (hbt : bt ≤ 2 * lgN (RX.length + 1)) (hc0 : c0 ≤ 2 * lgN (RX.length + 1) + 1) (hy : ys = []) (hjk : j < kk) (hb : Below wr.heap.size wr w') : LwR RX.length kk w (LW.take kk) (.returned (.tuple #[v, .int .i64 ((bt : Int) + (c : Int))])) w' := by
  have hp := h.p
  rw [hy, pend_nil] at hp
  have hdl : LW.drop j = [] := List.nil_perm.1 hp
  have hlen : LW.length ≤ j := List.drop_eq_nil_iff.1 hdl
  have e : LW.take kk = LW.take j := by rw [List.take_of_length_le (by omega), List.take_of_length_le hlen]
  have hl : (LW.take j).length = j := by rw [List.length_take]; have := h.jl; omega
  rw [e]
  have hr := row_keep h.r hb
  refine ⟨⟨v, bt + c, by rw [Int.natCast_add], ⟨?_, fun a n cp e => ?_⟩, by rw [hl]; have := h.cl; omega, ?_⟩, h.q.1.be.trans (hb.mono h.q.1.be.size)⟩
  · obtain ⟨-, p, cp, hv, hts, h1, h2, h3⟩ := row_ts hr
    refine ⟨p, cp, ?_, hts, fun e => (h1 e).1, ?_, ?_⟩
    · rw [hl]; exact hv
    · rw [hl]; exact h2
    · exact h3.1
  · have := (row_lt hr (k := a.block) (by rw [e]; rfl)).1
    exact Nat.le_trans h.q.1.bs this
  · have h1 := h.cu
    have h2 : lgN RX.length ≤ lgN (RX.length + 1) := bl_mono (by omega) (by omega)
    have h3 : j * lgN RX.length ≤ j * (2 * lgN (RX.length + 1) + 3) := Nat.mul_le_mul_left _ (by omega)
    rw [hl]
    unfold Lw.mostL Lw.eachL
    refine ⟨by omega, fun hk1 => ?_⟩
    obtain rfl : j = 0 := by omega
    omega
/-- behind the last one that is asked for -/
theorem LqN.fin {wr w' : World} {q c0 j c bt x : Nat} {s : S3} {B1 : World} {LW : List S3} {ys : List Nat} {v : Value} (h : LqN w wr P RX A g m q c0 B1 LW j c ys v x s) (hf : RX.length ≤ 400) (hbt : bt ≤ 2 * lgN (RX.length + 1)) (hc0 : c0 ≤ 2 * lgN (RX.length + 1) + 1) (hb : Below wr.heap.size wr w') : LwR RX.length (j + 1) w (LW.take (j + 1)) (.returned (.tuple #[v, .int .i64 ((bt : Int) + (c : Int))])) w' := by
  have hl : (LW.take (j + 1)).length = j + 1 := by rw [List.length_take]; have := h.jl; omega
  have hr := row_keep h.r hb
  refine ⟨⟨v, bt + c, by rw [Int.natCast_add], ⟨?_, fun a n cp e => ?_⟩, by rw [hl]; have := h.cl; omega, ?_⟩, h.q.1.be.trans (hb.mono h.q.1.be.size)⟩
  · obtain ⟨-, p, cp, hv, hts, h1, h2, h3⟩ := row_ts hr
    refine ⟨p, cp, ?_, hts, fun e => (h1 e).1, ?_, ?_⟩
    · rw [hl]; exact hv
    · rw [hl]; exact h2
    · exact h3.1
  · have := (row_lt hr (k := a.block) (by rw [e]; rfl)).1
    exact Nat.le_trans h.q.1.bs this
  · have h1 := h.cu
    have h2 : lgN RX.length ≤ lgN (RX.length + 1) := bl_mono (by omega) (by omega)
    have h3 : j * lgN RX.length ≤ (j + 1) * (2 * lgN (RX.length + 1) + 3) := Nat.mul_le_mul (by omega) (by omega)
    rw [hl]
    unfold Lw.mostL Lw.eachL
    refine ⟨by omega, fun hk1 => ?_⟩
    obtain rfl : j = 0 := by omega
    omega
theorem lg_le {n : Nat} (h : n ≤ 401) : lgN n ≤ 100 := Nat.le_trans (bl_mono (by omega) (by omega) : lgN n ≤ lgN 401) (by decide)
theorem LqM.cb {wr : World} {q c0 j c : Nat} {B1 : World} {LW : List S3} {ys : List Nat} {v : Value} (h : LqM w wr P RX A g m q c0 B1 LW j c ys v) (hf : RX.length ≤ 400) (hc0 : c0 ≤ 2 * lgN (RX.length + 1) + 1) (hL : LW.length ≤ 400) : c ≤ 400000 := by
  have h1 := h.cu
  have h2 := lg_le (n := RX.length) (by omega)
  have h3 := lg_le (n := RX.length + 1) (by omega)
  have h4 : j * lgN RX.length ≤ 400 * 100 := Nat.mul_le_mul (by have := h.jl; omega) h2
  omega
theorem LqM.to {wr w5 : World} {q c0 j c : Nat} {B1 : World} {LW : List S3} {ys : List Nat} {v : Value} (h : LqM w wr P RX A g m q c0 B1 LW j c ys v) (hq : QQ w B1 wr P g m q (c : Int) ys w5) : LqM w w5 P RX A g m q c0 B1 LW j c ys v :=
  ⟨⟨hq.re, h.q.2⟩, h.p, row_kp h.r hq.kp (by decide) (by decide), h.jl, h.yl, h.cl, h.cu⟩
/-- the next one was taken out -/
theorem LqM.next {wr w6 : World} {q c0 j c : Nat} {B1 : World} {LW : List S3} {ys zs : List Nat} {v : Value} (T : TrM w P RX A g m cap cc) (h : LqM w wr P RX A g m q c0 B1 LW j c ys v) (hLW : LW.Pairwise (fun a b => Lw.ltL a b = true)) (h0 : ys ≠ []) (hp : (Pq.at0 ys 0 :: zs).Perm ys) (hq : QS w B1 wr P g m q c zs w6) :
    ∃ s, g (Pq.at0 ys 0) = some s ∧ Pq.at0 ys 0 < m ∧ s ∈ A ∧ LW.take (j + 1) = LW.take j ++ [s] ∧ w6.ownsRow B1.heap.size 34 3 v j (flatT (LW.take j)) ∧
      ∀ w7 v', QS w B1 w7 P g m q c zs w7 → w7.ownsRow B1.heap.size 34 3 v' (j + 1) (flatT (LW.take (j + 1))) → LqN w w7 P RX A g m q c0 B1 LW j c zs v' (Pq.at0 ys 0) s := by
  obtain ⟨s, t, h1, h2, h3⟩ := h.q.low T (hLW.sublist (List.drop_sublist j LW)) h.p h0
  have hl : 0 < ys.length := List.length_pos_iff.2 h0
  have hjl : j < LW.length := by
    have := congrArg List.length h3
    rw [List.length_drop, List.length_cons] at this
    omega
  have hs : LW[j]? = some s := by
    have := congrArg (fun l => l[0]?) h3
    simpa using this
  have hdj : LW.drop (j + 1) = t := by
    have := congrArg List.tail h3
    rw [List.tail_drop] at this
    exact this
  have hlen := hp.length_eq
  rw [List.length_cons] at hlen
  refine ⟨s, h1, (h.q.1.ok _ (List.mem_of_getElem? (Pq.at0_get hl))).1, h2, by rw [List.take_add_one, hs]; rfl, row_kp h.r hq.1.kp (by decide) (by decide), fun w7 v' k1 k2 => ⟨k1, ?_, k2, hjl, by have := h.yl; omega, by have := h.cl; omega, h.cu⟩⟩
  have h4 := pend_perm (RX := RX) (A := A) hp
  rw [pend_cons] at h4
  have h5 := h4.trans h.p
  rw [h3] at h5
  rw [hdj]
  exact h5
/-- what hangs beside is in the queue -/
theorem LqN.step {wr w8 : World} {q c0 j c x : Nat} {s : S3} {B1 : World} {LW : List S3} {ys : List Nat} {v : Value} (T : TrM w P RX A g m cap cc) (h : LqN w wr P RX A g m q c0 B1 LW j c ys v x s) (hx : x < m) (hLl : LW.length ≤ 400) (hP : PaR w B1 wr P RX A g m q c ys x s w8) : ∃ c' ys', LqM w w8 P RX A g m q c0 B1 LW (j + 1) c' ys' v := by
  obtain ⟨zs, d, h1, h2, h3, h4⟩ := hP
  have hpz : (pend RX A zs).Perm (LW.drop (j + 1)) := List.Perm.cons_inv (h1.trans h.p)
  have hzl : zs.length ≤ 400 := by
    have h5 := pend_len T.i h4.1.ok
    rw [hpz.length_eq, List.length_drop] at h5
    omega
  have hd : lgN (hi RX.length x - lo RX.length x) ≤ lgN RX.length := by
    have h5 := (lo_at (n := RX.length) (k := x) (by have := T.m2; omega)).2
    exact bl_mono (by omega) (by have := T.s.few; omega)
  refine ⟨c + d, zs, h4.re, hpz, row_kp h.r h4.1.kp (by decide) (by decide), h.jl, hzl, by have := h.cl; omega, ?_⟩
  have := h.cu
  rw [Nat.succ_mul]
  omega
/-- a queue of the nodes from x on, ahead of y -/
def QoS (w : World) (P : LoP) (RX A : List S3) (g : Nat → Option S3) (m c0 x y : Nat) (e : Ending) (w' : World) : Prop :=
  ∃ q B1 V0 xs, e = .returned (.pointer (some ⟨q, 0, none⟩)) ∧ QS w B1 V0 P g m q c0 xs w' ∧ (pend RX A xs).Perm (sg RX A x y) ∧ xs.length ≤ c0
theorem QS.base {X V0 B1 : World} {q c : Nat} {xs : List Nat} (h : QS X B1 V0 P g m q c xs w') (hb : Below w.heap.size w X) : QS w B1 V0 P g m q c xs w' := by
  obtain ⟨⟨q1, q2, q4, q5, q6, q7, q8, q9, q10⟩, hh⟩ := h
  have := hb.size
  exact ⟨⟨hb.trans (q1.mono hb.size), q2, by omega, q5, q6, q7, q8, q9, by omega⟩, hh⟩
theorem TrM.keep {w X : World} (T : TrM w P RX A g m cap cc) (hb : Below w.heap.size w X) : TrM X P RX A g m cap cc := ⟨T.s.keep hb, T.k.keep hb, T.v, T.i, T.sub, T.nd, T.m2⟩
theorem qof_both (T : TrM w P RX A g m cap cc) (hF : ∃ d pp, FR w P.F RX.length d pp) {x y : Nat} (hxy : x ≤ y) (hy : y ≤ RX.length) :
    ∃ c0, c0 ≤ 2 * lgN (RX.length + 1) + 1 ∧ ∀ X, Below w.heap.size w X → Calls Tryz.prog 34 #[.pointer (some ⟨P.B, 0, none⟩), .int .i64 x, .int .i64 y] X (QoS w P RX A g m c0 x y) := by
  have hFX : ∀ X, Below w.heap.size w X → ∃ d pp, FR X P.F RX.length d pp := fun X hb => by
    obtain ⟨d, pp, hF⟩ := hF
    exact ⟨d, pp, hF.keep hb⟩
  by_cases e : x = y
  · subst e
    refine ⟨0, by omega, fun X hb => (qof_zero (T.s.keep hb) (hFX X hb) hy g m).mono ?_⟩
    rintro e w' ⟨q, B1, V0, rfl, hq⟩
    exact ⟨q, B1, V0, [], rfl, hq.base hb, by rw [sg_none]; exact List.Perm.refl _, Nat.le_refl _⟩
  · have hf := T.s.few
    have hfew := (cnF_few (n := RX.length) (x := x) (y := y) (by omega) hy (by omega)).2.1
    have h2 : lgI RX.length ≤ lgN (RX.length + 1) := bl_mono (by omega) (by omega)
    refine ⟨(cnF RX.length x y).1.length, by omega, fun X hb => (qof_any (T.keep hb) (hFX X hb) (by omega) hy).mono ?_⟩
    rintro e w' ⟨q, B1, V0, xs, rfl, h1, h2, h3⟩
    exact ⟨q, B1, V0, xs, rfl, h1.base hb, h2, h3⟩
theorem info_P : (Tryz.prog.info? 34).map (fun i => (i.zero, i.size, i.bytes)) = some (some (tv (0, 0, 0)), 3, 24) := by kernel_rfl
theorem under_P : Tryz.prog.underlying 22 = some (.slice 34) := by kernel_rfl
set_option maxRecDepth 100000 in
set_option maxHeartbeats 6400000 in
theorem llows_some (h : LoM w P RX A) (hn : RX.length ≠ 0) (x1 x2 : Int) (hx : x1 ≤ x2) (kk : Nat) (hk : 1 ≤ kk) (hkm : (kk : Int) ≤ 9223372036854775807) :
    Calls Tryz.prog 18 #[.pointer (some ⟨P.B, 0, none⟩), .int .i64 x1, .int .i64 x2, .int .i64 kk] w (LwR RX.length kk w ((Lw.lwL x1 x2 A).take kk)) := by
  obtain ⟨cap, g, hkv, hK, hI⟩ := h.kn hn
  have hfw := h.s.few
  obtain ⟨ple, pln⟩ := parts_le h.s.ord hfw hx
  have HT : Hid (TrM w P RX A g (2 * RX.length - 1) cap A.length) := Lib.hid ⟨h.s, hK, hkv, hI, h.sub, h.rga.once, rfl⟩
  have HPT := Lib.hid (sg_part h.s.ord hfw h.sub x1 x2)
  have HLS : Hid ((Lw.lwL x1 x2 A).Pairwise (fun a b => Lw.ltL a b = true)) := Lib.hid (Lw.lwL_strict h.rga)
  have HLL : Hid ((Lw.lwL x1 x2 A).length ≤ 400) := Lib.hid (Nat.le_trans (Lw.lwL_len x1 x2 A) (Nat.le_trans h.le hfw))
  have HM := Lib.hid (lmade_yes h.s)
  have HBT := Lib.hid (rbetw_any (o := 1) (h.s.ev.cell (i := 1) rfl) h.s.row h.s.ord (by omega) x1 x2)
  have hbx := btN_few h.s.ord (by omega) x1 x2
  obtain ⟨c0, hc0, hQO⟩ := qof_both HT.out h.fr ple pln
  have HQO := Lib.hid hQO
  have c5 := h.s.ev.cell (i := 5) rfl
  rw [hkv] at c5
  obtain ⟨LW, hLW⟩ : ∃ LW, LW = Lw.lwL x1 x2 A := ⟨_, rfl⟩
  rw [← hLW] at HPT HLS HLL ⊢
  obtain ⟨R, hR⟩ : ∃ R, R = LwR RX.length kk w (LW.take kk) := ⟨_, rfl⟩
  have HLW : Hid (∀ e w', LwR RX.length kk w (LW.take kk) e w' → R e w') := Lib.hid (fun e w' h => by rw [hR]; exact h)
  rw [← hR]
  clear hR
  change Hid (Calls Tryz.prog 33 #[.pointer (some ⟨P.B, 1, none⟩), .int .i64 x1, .int .i64 x2] w fun e w' => e = .returned (.tuple #[.int .i64 (iA RX x1), .int .i64 (iB RX x2), .int .i64 (btN kx RX x1 x2)]) ∧ Below w.heap.size w w') at HBT
  have HFW := Lib.hid hfw
  have HBX := Lib.hid hbx
  have HC0 := Lib.hid hc0
  have hbt : btN kx RX x1 x2 ≤ 1000 := by
    have h1 : lgN (RX.length + 1) ≤ lgN 401 := bl_mono (by omega) (by omega)
    have h2 : lgN 401 ≤ 100 := by decide
    omega
  obtain ⟨m, hm⟩ : ∃ m, m = 2 * RX.length - 1 := ⟨_, rfl⟩
  have hm2 : m ≤ 1000 := by omega
  rw [← hm] at HT HQO c5
  have hxz : ¬ x2 < x1 := by omega
  have hkz : ¬ (kk : Int) < 1 := by omega
  have hxd : decide (x2 < x1) = false := decide_eq_false hxz
  have hkd : decide ((kk : Int) < 1) = false := decide_eq_false hkz
  generalize iA RX x1 = i0 at *
  generalize iB RX x2 = j0 at *
  generalize btN kx RX x1 x2 = bt at *
  obtain ⟨B, hB⟩ : ∃ B, B = P.B := ⟨_, rfl⟩
  have HBB := Lib.hid hB
  rw [← hB] at HM HBT HQO c5 ⊢
  obtain ⟨kb, hkb⟩ : ∃ kb, kb = P.kb := ⟨_, rfl⟩
  have HKB := Lib.hid hkb
  rw [← hkb] at c5
  clear h hn hx hkv hK hI hfw ple pln hbx hQO hc0 hLW hm hB hkb
  go_enter Tryz.func18, Tryz.ntmps18
  go_upto_region 5 with (first
    | (go_at_call 26; (with_reducible refine HM.out.mono ?_); rintro e wM ⟨rfl, hM⟩; subst wM)
    | (go_at_call 33; (with_reducible refine HBT.out.mono ?_); rintro e w3 ⟨rfl, hb⟩; have HB3 := Lib.hid hb; clear hb)
    | (go_at_call 34; (refine (HQO.out w3 HB3.out).mono ?_); rintro e w4 ⟨q, B1, V0, xs, rfl, h1, h2, h3⟩; have HQ4 := Lib.hid h1; have HP4 := Lib.hid h2; have HX4 := Lib.hid h3; clear h1 h2 h3))
  have HL0 : Hid (LqM w w4 P RX A g m q c0 B1 LW 0 c0 xs (.slice none 0 0)) := Lib.hid (by
    have hp := HP4.out.trans HPT.out
    have h5 := pend_len HT.out.i HQ4.out.1.ok
    rw [hp.length_eq] at h5
    exact ⟨HQ4.out.re, by rw [List.drop_zero]; exact hp, World.ownsRow_nil .., Nat.zero_le _, Nat.le_trans h5 HLL.out, by have := HX4.out; omega, by omega⟩)
  clear HQ4 HP4 HX4 HQO HBT c5
  go_wp2
  go_loopg [14] LW.length (fun gk lv wr => ∃ (j c : Nat) (ys : List Nat) (p : Option Addr) (cp : Nat), lv = .slice p j cp ∧ Hid (j < kk) ∧ Hid (gk + j = LW.length) ∧ Hid (LqM w wr P RX A g m q c0 B1 LW j c ys lv))
  case atStart => exact ⟨0, c0, xs, none, 0, rfl, Lib.hid (by omega), Lib.hid (by omega), HL0⟩
  case round =>
    clear HL0
    obtain ⟨j, c, ys, p, cp, rfl, HJK, HGK, HS⟩ := hrel
    have HQL := Lib.hid (qlen_any HS.out.q.1)
    have hcb := HS.out.cb HFW.out HC0.out HLL.out
    have hjb : j ≤ 400 := Nat.le_trans HS.out.jl HLL.out
    by_cases h0 : ys = []
    · have hlen : ys.length = 0 := by rw [h0]; rfl
      rw [hlen] at HQL
      have HY := Lib.hid h0
      clear h0 hlen
      go_upto_region 11 with (go_at_call 35; (with_reducible refine HQL.out.mono ?_); rintro e w5 ⟨rfl, h1⟩; have H5 := Lib.hid h1; clear h1)
      have HS5 := Lib.hid (HS.out.to H5.out)
      obtain ⟨v', hv', -⟩ := HS5.out.q.1.qu
      have q2 := hv'.cell (i := 2) rfl
      clear hv'
      go_quiet (fail)
      go_wp2
      refine HLW.out _ _ (HS5.out.fin HFW.out HBX.out HC0.out HY.out HJK.out ?_)
      exact below_drewN (Below.refl _ w5) _
    · have hpos : (0 : Int) < (ys.length : Nat) := by have := List.length_pos_iff.2 h0; omega
      have HQN := Lib.hid (fun X (hs : LqM w X P RX A g m q c0 B1 LW j c ys (.slice p j cp)) => qnext_any HT.out hs.q h0)
      have H0 := Lib.hid h0
      obtain ⟨yl, hyl⟩ : ∃ yl, yl = ys.length := ⟨_, rfl⟩
      rw [← hyl] at HQL hpos
      have hyb : yl ≤ 400 := by have := HS.out.yl; omega
      obtain ⟨x0, hx0⟩ : ∃ x0, x0 = Pq.at0 ys 0 := ⟨_, rfl⟩
      have HX0 := Lib.hid hx0
      rw [← hx0] at HQN
      clear h0 hyl hx0
      go_upto_region 8 with (first
        | (go_at_call 35; (with_reducible refine HQL.out.mono ?_); rintro e w5 ⟨rfl, h1⟩; have HS5 := Lib.hid (HS.out.to h1); clear h1)
        | (go_at_call 36; (with_reducible refine (HQN.out _ HS5.out).mono ?_); rintro e w6 ⟨rfl, zs, h1, h2⟩; have H61 := Lib.hid h1; have H62 := Lib.hid h2; clear h1 h2))
      obtain ⟨s, n1, n2, n3, n4, n5, n6⟩ := HS5.out.next HT.out HLS.out H0.out (by rw [← HX0.out]; exact H61.out) H62.out
      have N2 := Lib.hid n2
      have N3 := Lib.hid n3
      have N4 := Lib.hid n4
      have N5 := Lib.hid n5
      have N6 := Lib.hid n6
      have hbe := H62.out.1.be
      have e5 := (HT.out.s.keep hbe).ev.cell (i := 5) rfl
      rw [HT.out.v] at e5
      have b7 := (HT.out.k.keep hbe).hc n2
      rw [n1] at b7
      unfold bv bi at b7
      simp only at b7
      have hxm : x0 < m := by rw [HX0.out]; exact n2
      rw [← HX0.out] at b7
      rw [← HBB.out] at e5
      rw [← HKB.out] at e5 b7
      have HPO := Lib.hid (point_any (HT.out.s.keep hbe) (at_idx (HT.out.sub s n3)))
      rw [← HBB.out] at HPO
      have HSV : Hid (g x0 = some s) := Lib.hid (by rw [HX0.out]; exact n1)
      have H6Q : Hid (∀ X, Below w6.heap.size w6 X → QS w B1 w5 P g m q c zs X ∧ X.ownsRow B1.heap.size 34 3 (.slice p j cp) j (flatT (LW.take j))) := Lib.hid (fun X hb => ⟨H62.out.keep hb, row_keep n5 hb⟩)
      obtain ⟨sv, hsv⟩ : ∃ sv, sv = s := ⟨_, rfl⟩
      have HSS := Lib.hid hsv
      generalize RX.idxOf s = ix at *
      obtain ⟨sx, sy, si⟩ := s
      unfold tv at HPO
      simp only at HPO
      clear n1 n2 n3 n4 n5 n6 hbe hsv
      go_upto_region 9 with (first
        | (go_at_call 37; (with_reducible refine HPO.out.mono ?_); rintro e w7 ⟨rfl, hb⟩; have HB7 := Lib.hid hb; have HR7 := Lib.hid (H6Q.out _ hb).2; clear hb)
        | (at_builtin; refine wpList_more info_P rfl (by decide) (by decide) under_P _ rfl (.tmp 47) (.tmp 58) rfl (.slice p j cp) j (flatT (LW.take j)) rfl (row_at (base' := 0) (World.ownsRow.alloc HR7.out _) (fun _ _ => ⟨rfl, Nat.zero_le _⟩)) ⟨w7.heap.size, 0, none⟩ 1 1 (tvs (sx, sy, si)) rfl rfl (td_at w7 (sx, sy, si) _) (tvs_one _) (by omega) (by decide) ?_; intro g1 c1 w8 h1 h2 h3; have H81 := Lib.hid h1; have H82 := Lib.hid h2; have H83 := Lib.hid h3; clear h1 h2 h3))
      have HO8 : Hid (Off (Value.slice p j cp).ownBlock.toList w7 w8) := Lib.hid (((Off.refl _ w7).all _).grow H82.out (fun k e => .inl (by simp [e])))
      have HN8 : Hid (LqN w w8 P RX A g m q c0 B1 LW j c zs (.slice (some ⟨g1, 0, none⟩) (j + 1) c1) x0 sv) := Lib.hid (by
        have hq7 := (H6Q.out w7 HB7.out).1
        rw [HX0.out, HSS.out]
        refine N6.out w8 _ (hq7.grow HO8.out (fun k hk => ?_)) ?_
        · obtain ⟨cs, e⟩ := row_type HR7.out (by simpa using hk)
          exact ⟨(row_lt HR7.out (by simpa using hk)).1, cs, _, e, by decide, by decide⟩
        · have h1 := H81.out
          rw [← flatT_snoc, ← N4.out] at h1
          refine row_up h1 (fun k hk => ?_)
          cases hk
          rcases H83.out with e | e
          · exact (row_lt HR7.out e).1
          · have := hq7.1.of.size
            rw [e]
            simp
            omega)
      have HCB := Lib.hid hcb
      clear e5 b7 H81 H82 H83 HO8 HPO H6Q
      by_cases hjk : j + 1 = kk
      · have hjz : ((j : Int) + 1) = kk := by omega
        have hjb2 : (((j : Int) + 1) == (kk : Int)) = true := by rw [beq_iff_eq]; exact hjz
        have HJ := Lib.hid hjk
        obtain ⟨v', hv', -⟩ := HN8.out.q.1.qu
        have q2 := hv'.cell (i := 2) rfl
        clear hv' hjk
        go_upto_region 11 with fail
        go_quiet (fail)
        go_wp2
        refine HLW.out _ _ ?_
        rw [← HJ.out]
        exact HN8.out.fin HFW.out HBX.out HC0.out (below_drewN (Below.refl _ w8) _)
      · have hjz : ¬ ((j : Int) + 1) = kk := by omega
        have hjb2 : (((j : Int) + 1) == (kk : Int)) = false := by rw [beq_eq_false_iff_ne]; exact hjz
        have HJ := Lib.hid hjk
        have HPA := Lib.hid (qpart_any (s := sv) HT.out HN8.out.q hxm (by rw [HSV.out, HSS.out]) (by have := HN8.out.yl; omega) (by have := HCB.out; omega))
        clear hjk
        go_wp2_with (go_at_call 38; (refine HPA.out.mono ?_); rintro e w9 ⟨rfl, h1⟩; have H9 := Lib.hid h1; clear h1)
        go_roundg (gk - 1)
        case measure =>
          have h1 := HN8.out.jl
          have h2 := HGK.out
          omega
        case rel =>
          obtain ⟨c', ys', h9⟩ := HN8.out.step HT.out hxm HLL.out H9.out
          have h1 := HN8.out.jl
          have h2 := HGK.out
          have h3 := HJK.out
          have h4 := HJ.out
          exact ⟨j + 1, c', ys', _, _, by go_num, Lib.hid (by omega), Lib.hid (by omega), Lib.hid h9⟩
end
end Go.Proofs.YtldmajifkmcdcaaGreat.Lv
