/-
  The queue of nodes in memory; what the library's heap calls. No condition but those typed at each theorem.
-/
import Derived.Test.YtldmajifkmcdcaaGreatMVk
import Derived.Test.YtldmajifkmcdcaaGreatMZ
import Derived.WalkSmall
import Derived.Deep.LoopGhost
namespace Go.Proofs.YtldmajifkmcdcaaGreat.Lv
open Go.RowKit Go.Sort Bd
/-- a node's point -/
def gpt (g : Nat → Option S3) (k : Nat) : S3 := (g k).getD (0, 0, 0)
/-- whose point is lower -/
def ltG (g : Nat → Option S3) (a b : Nat) : Bool := Lw.ltL (gpt g a) (gpt g b)
theorem ltG_lt (g : Nat → Option S3) : Pq.Lt (ltG g) := ⟨fun _ => l_irr _, fun _ _ h => l_asy h, fun _ _ _ h1 h2 => l_neg h1 h2⟩
/-- all blocks of cells but those of numbers and queues are as they were -/
def KpT (w w' : World) : Prop := ∀ (b : Nat) (cs : Array Value) (t : TypeId), w.heap[b]? = some (Obj.cells cs t (0, 0)) → t ≠ 3 → t ≠ 92 → w'.heap[b]? = some (Obj.cells cs t (0, 0))
theorem KpT.refl (w : World) : KpT w w := fun _ _ _ e _ _ => e
theorem KpT.trans {w X w' : World} (h : KpT w X) (k : KpT X w') : KpT w w' := fun b cs t e h1 h2 => k b cs t (h b cs t e h1 h2) h1 h2
theorem KpT.off {w w' : World} {S : List Nat} (o : Off S w w') (hS : ∀ k ∈ S, ∃ cs t, w.heap[k]? = some (.cells cs t (0, 0)) ∧ (t = 3 ∨ t = 92)) : KpT w w' := fun b cs t e h1 h2 =>
  (o.block b (Array.getElem?_eq_some_iff.1 e).1 (fun hm => by
    obtain ⟨cs', t', e', h3⟩ := hS b hm
    rw [e] at e'
    cases e'
    exact h3.elim h1 h2)).trans e
theorem KpT.below {w w' : World} (o : Below w.heap.size w w') : KpT w w' := KpT.off (S := []) (Off.of o (Nat.le_refl _)) (by simp)
theorem KpT.ev {w w' : World} (h : KpT w w') {t : TypeId} {b : Nat} {VL : List Value} (e : EV t w b VL) (h1 : t ≠ 3) (h2 : t ≠ 92) : EV t w' b VL := h b _ t e h1 h2
/-- the queue holds these nodes, so many things were touched -/
structure QQ (w0 B1 V0 : World) (P : LoP) (g : Nat → Option S3) (m q : Nat) (c : Int) (xs : List Nat) (w : World) : Prop where
  be : Below w0.heap.size w0 w
  qu : ∃ v, EV 92 w q [.pointer (some ⟨P.B, 0, none⟩), v, .int .i64 c] ∧ w.ownsRow B1.heap.size 3 1 v xs.length ((ints xs).map (Value.int .i64))
  qn : w0.heap.size ≤ q
  ok : ∀ x ∈ xs, x < m ∧ g x ≠ none
  few : xs.length ≤ 100000
  kp : KpT V0 w
  vs : V0.heap.size ≤ w.heap.size
  of : Off [q] B1 w
  bs : w0.heap.size ≤ B1.heap.size
section
variable {w0 B1 V0 w w' : World} {P : LoP} {RX : List S3} {g : Nat → Option S3} {m q : Nat} {c cc : Int} {xs : List Nat}
theorem QQ.keep (h : QQ w0 B1 V0 P g m q c xs w) (o : Below w.heap.size w w') : QQ w0 B1 V0 P g m q c xs w' := by
  obtain ⟨v, h1, h2⟩ := h.qu
  exact ⟨h.be.trans (o.mono h.be.size), ⟨v, h1.keep o h1.lt, row_keep h2 o⟩, h.qn, h.ok, h.few, h.kp.trans (KpT.below o), Nat.le_trans h.vs o.size, h.of.bel o, h.bs⟩
theorem que_cell {w : World} {N : Nat} {xs : List Nat} {v : Value} (hv : w.ownsRow N 3 1 v xs.length ((ints xs).map (Value.int .i64))) (hn : 1 ≤ xs.length) : ∃ gb cap, v = .slice (some ⟨gb, 0, none⟩) xs.length cap ∧ N ≤ gb ∧ xs.length ≤ cap ∧ (∀ i, w.frozen? ⟨gb, i, none⟩ = false) ∧ ∀ i x, xs[i]? = some x → w.cell? ⟨gb, i, none⟩ = some (.int .i64 (x : Nat)) := by
  obtain ⟨gb, cap, KVL, h1, h2, h3, h4, h5⟩ := row_ev2 hv hn
  exact ⟨gb, cap, h1, h2, h3, fun i => h4.free i, fun i x e => h4.cell (h5 i _ (by unfold ints; rw [List.getElem?_map, List.getElem?_map, e]; rfl))⟩
theorem q_mLen (n : Nat) (a : Addr) (w : World) : (method (n + 1) 88 (.pointer (some a)) "Len").run Tryz.prog w = .ok (35, .pointer (some a)) w := by kernel_rfl
theorem q_mLess (n : Nat) (a : Addr) (w : World) : (method (n + 1) 88 (.pointer (some a)) "Less").run Tryz.prog w = .ok (183, .pointer (some a)) w := by kernel_rfl
theorem q_mSwap (n : Nat) (a : Addr) (w : World) : (method (n + 1) 88 (.pointer (some a)) "Swap").run Tryz.prog w = .ok (186, .pointer (some a)) w := by kernel_rfl
theorem q_mPush (n : Nat) (a : Addr) (w : World) : (method (n + 1) 88 (.pointer (some a)) "Push").run Tryz.prog w = .ok (185, .pointer (some a)) w := by kernel_rfl
theorem q_mPop (n : Nat) (a : Addr) (w : World) : (method (n + 1) 88 (.pointer (some a)) "Pop").run Tryz.prog w = .ok (184, .pointer (some a)) w := by kernel_rfl
theorem q_eLen : ∀ args w, (callFunc 35 args).run Tryz.prog w = .ok (.enter 35 args) w := enters_of Tryz.func35 (by kernel_rfl) rfl
theorem q_eLess : ∀ args w, (callFunc 183 args).run Tryz.prog w = .ok (.enter 183 args) w := enters_of Tryz.func183 (by kernel_rfl) rfl
theorem q_eSwap : ∀ args w, (callFunc 186 args).run Tryz.prog w = .ok (.enter 186 args) w := enters_of Tryz.func186 (by kernel_rfl) rfl
theorem q_ePush : ∀ args w, (callFunc 185 args).run Tryz.prog w = .ok (.enter 185 args) w := enters_of Tryz.func185 (by kernel_rfl) rfl
theorem q_ePop : ∀ args w, (callFunc 184 args).run Tryz.prog w = .ok (.enter 184 args) w := enters_of Tryz.func184 (by kernel_rfl) rfl
set_option maxRecDepth 100000 in
set_option maxHeartbeats 1600000 in
theorem qlen_any (h : QQ w0 B1 V0 P g m q c xs w) :
    Calls Tryz.prog 35 #[.pointer (some ⟨q, 0, none⟩)] w fun e w' => e = .returned (.int .i64 xs.length) ∧ QQ w0 B1 V0 P g m q c xs w' := by
  obtain ⟨v, h1, h2⟩ := h.qu
  have q1 := h1.cell (i := 1) rfl
  have H := Lib.hid h
  rcases h2.2 with ⟨rfl, h0⟩ | ⟨gb, cap, cur, rfl, -⟩
  · have hn := h0
    rw [hn]
    clear h h1 h2 h0 hn
    go_enter Tryz.func35, Tryz.ntmps35
    go_wp2
    go_ret
    exact ⟨rfl, H.out⟩
  · generalize xs.length = n at *
    clear h h1 h2
    go_enter Tryz.func35, Tryz.ntmps35
    go_wp2
    go_ret
    exact ⟨rfl, H.out⟩
set_option maxRecDepth 100000 in
set_option maxHeartbeats 3200000 in
theorem qless_any (hS : LoS w0 P RX cc) {cap : Nat} (hK : KlM w0 P.kb cap m RX g) (hkv : P.kv = .slice (some ⟨P.kb, 0, none⟩) m cap) (h : QQ w0 B1 V0 P g m q c xs w) {i j : Nat} (hi : i < xs.length) (hj : j < xs.length) :
    Calls Tryz.prog 183 #[.pointer (some ⟨q, 0, none⟩), .int .i64 i, .int .i64 j] w fun e w' => e = .returned (.bool (ltG g (Pq.at0 xs i) (Pq.at0 xs j))) ∧ QQ w0 B1 V0 P g m q c xs w' := by
  obtain ⟨v, h1, h2⟩ := h.qu
  obtain ⟨gb, cq, rfl, -, -, -, hc⟩ := que_cell h2 (by omega)
  have q0 := h1.cell (i := 0) rfl
  have q1 := h1.cell (i := 1) rfl
  have ei := hc i _ (Pq.at0_get hi)
  have ej := hc j _ (Pq.at0_get hj)
  obtain ⟨oi, ni⟩ := h.ok _ (List.mem_of_getElem? (Pq.at0_get hi))
  obtain ⟨oj, nj⟩ := h.ok _ (List.mem_of_getElem? (Pq.at0_get hj))
  obtain ⟨si, hsi⟩ := Option.ne_none_iff_exists'.1 ni
  obtain ⟨sj, hsj⟩ := Option.ne_none_iff_exists'.1 nj
  have HS := Lib.hid (fun X (hb : Below w.heap.size w X) => islower_any ((hS.keep h.be).keep hb) (hK.inn _ si oi hsi) (hK.inn _ sj oj hsj))
  have HL : Hid (ltG g (Pq.at0 xs i) (Pq.at0 xs j) = Lw.ltL si sj) := Lib.hid (by simp [ltG, gpt, hsi, hsj])
  have hKw := hK.keep h.be
  have bi' := hKw.hc oi
  have bj' := hKw.hc oj
  rw [hsi] at bi'
  rw [hsj] at bj'
  unfold bv bi at bi' bj'
  simp only at bi' bj'
  have c5 := (hS.keep h.be).ev.cell (i := 5) rfl
  rw [hkv] at c5
  have H := Lib.hid h
  have hfew := h.few
  have hm2 : m ≤ 1000 := by have := hK.room; have := hS.few; omega
  generalize Pq.at0 xs i = xi at *
  generalize Pq.at0 xs j = xj at *
  generalize RX.idxOf si = pi at *
  generalize RX.idxOf sj = pj at *
  generalize Lw.ltL si sj = y at *
  obtain ⟨n, hn⟩ : ∃ n, n = xs.length := ⟨_, rfl⟩
  rw [← hn] at q1 hi hj hfew
  obtain ⟨B, hB⟩ : ∃ B, B = P.B := ⟨_, rfl⟩
  rw [← hB] at HS q0 c5
  obtain ⟨kb, hkb⟩ : ∃ kb, kb = P.kb := ⟨_, rfl⟩
  rw [← hkb] at c5 bi' bj'
  clear h h1 h2 hc ni nj hsi hsj hS hK hkv hKw hn hB hkb
  go_enter Tryz.func183, Tryz.ntmps183
  go_upto_region 2 with fail
  have inst : Nonempty (Wd (Bw w)) := ⟨⟨w, Below.refl _ _⟩⟩
  have z0 : ∀ z : Wd (Bw w), z.w.cell? ⟨q, 0, none⟩ = _ := fun z => Bw.cell z q0
  have z1 : ∀ z : Wd (Bw w), z.w.cell? ⟨q, 1, none⟩ = _ := fun z => Bw.cell z q1
  have z2 : ∀ z : Wd (Bw w), z.w.cell? ⟨gb, i, none⟩ = _ := fun z => Bw.cell z ei
  have z3 : ∀ z : Wd (Bw w), z.w.cell? ⟨gb, j, none⟩ = _ := fun z => Bw.cell z ej
  have z4 : ∀ z : Wd (Bw w), z.w.cell? ⟨kb, xi * 8 + 7, none⟩ = _ := fun z => Bw.cell z bi'
  have z5 : ∀ z : Wd (Bw w), z.w.cell? ⟨kb, xj * 8 + 7, none⟩ = _ := fun z => Bw.cell z bj'
  have HFC := Lib.hid (fun z : Wd (Bw w) => HS.out z.w z.h)
  refine wp_region_wd (Bw w) (by kernel_rfl) (by kernel_rfl) ((Below.refl _ w).drew) ?_
  repeat (first
    | go_big_quiet_step (first | (go_at_call 90; with_reducible exact calls_wd (fun _ _ h hb => h.keep hb) _ (HFC.out _)))
    | quiet_step (first | (go_at_call 90; with_reducible exact calls_wd (fun _ _ h hb => h.keep hb) _ (HFC.out _))))
  refine wpQuiet_nil ?_
  rintro _ ⟨z, rfl⟩
  have HB := Lib.hid (H.out.keep (show Below w.heap.size w z.w from z.h))
  clear z0 z1 z2 z3 z4 z5 HFC
  go_wp2
  go_ret
  exact ⟨by rw [HL.out]; rfl, HB.out⟩
set_option maxRecDepth 100000 in
set_option maxHeartbeats 3200000 in
theorem qswap_any (h : QQ w0 B1 V0 P g m q c xs w) {i j : Nat} (hi : i < xs.length) (hj : j < xs.length) :
    Calls Tryz.prog 186 #[.pointer (some ⟨q, 0, none⟩), .int .i64 i, .int .i64 j] w fun e w' => e = .returned (.tuple #[]) ∧ QQ w0 B1 V0 P g m q c (Pq.swp xs i j) w' := by
  obtain ⟨v, h1, h2⟩ := h.qu
  obtain ⟨gb, cq, rfl, hgb, -, hfr, hc⟩ := que_cell h2 (by omega)
  have q1 := h1.cell (i := 1) rfl
  have ei := hc i _ (Pq.at0_get hi)
  have ej := hc j _ (Pq.at0_get hj)
  have fi := hfr i
  have fj := hfr j
  have hfew := h.few
  obtain ⟨W, hW⟩ : ∃ W, W = (w.setCell ⟨gb, i, none⟩ (.int .i64 (Pq.at0 xs j : Nat))).setCell ⟨gb, j, none⟩ (.int .i64 (Pq.at0 xs i : Nat)) := ⟨_, rfl⟩
  have hgq : gb ≠ q := by
    obtain ⟨cc, e⟩ := row_type h2 rfl
    exact types_ne e h1 (by decide)
  have HQ : Hid (QQ w0 B1 V0 P g m q c (Pq.swp xs i j) W) := Lib.hid (by
    rw [hW]
    have o1 := ((Off.refl [gb] w).set ⟨gb, i, none⟩ (.int .i64 (Pq.at0 xs j : Nat)) (.inl (by simp))).set ⟨gb, j, none⟩ (.int .i64 (Pq.at0 xs i : Nat)) (.inl (by simp))
    refine ⟨h.be.trans (o1.below h.be.size (by have := h.bs; simp; omega)), ⟨_, h1.off o1 (by simpa using fun e => hgq e.symm), ?_⟩, h.qn, fun x hx => h.ok x ((Pq.swp_perm hi hj).mem_iff.1 hx), by rw [Pq.swp_len]; exact h.few, h.kp.trans (KpT.off o1 (fun j hj => by
      obtain ⟨cc, e⟩ := row_type h2 rfl
      obtain rfl := List.mem_singleton.1 hj
      exact ⟨_, _, e, .inl rfl⟩)), Nat.le_trans h.vs o1.size, h.of.via o1 (fun k hk hm => by have := List.mem_singleton.1 hm; omega), h.bs⟩
    have h3 := row_set (row_set h2 (.int .i64 (Pq.at0 xs j : Nat)) (j := i)) (.int .i64 (Pq.at0 xs i : Nat)) (j := j)
    rw [Pq.swp_len]
    have e : ((ints (Pq.swp xs i j)).map (Value.int .i64)) = (((ints xs).map (Value.int .i64)).set i (.int .i64 (Pq.at0 xs j : Nat))).set j (.int .i64 (Pq.at0 xs i : Nat)) := by
      unfold ints Pq.swp
      rw [List.map_set, List.map_set, List.map_set, List.map_set]
      rfl
    rw [e]
    exact h3)
  generalize Pq.at0 xs i = xi at *
  generalize Pq.at0 xs j = xj at *
  obtain ⟨u, hu⟩ : ∃ u, (w.setCell ⟨gb, i, none⟩ (.int .i64 (xj : Nat))).cell? ⟨gb, j, none⟩ = some u := by
    by_cases hij : i = j
    · subst hij
      exact ⟨_, World.cell?_setCell_same' _ _ _ (by rw [ei]; rfl)⟩
    · exact ⟨_, (World.cell?_setCell_other w _ _ _ (by intro e; cases e; exact hij rfl)).trans ej⟩
  obtain ⟨n, hn⟩ : ∃ n, n = xs.length := ⟨_, rfl⟩
  rw [← hn] at q1 hi hj hfew
  clear h h1 h2 hc hfr hgb hn hgq
  go_enter Tryz.func186, Tryz.ntmps186
  go_region
  go_end0
  rw [← hW]
  exact ⟨rfl, HQ.out.keep ((Below.refl _ W).drew)⟩
theorem ta_int (k : Int) (X : World) : (Instr.typeAssert (.iface 3 (.int .i64 k)) 20 3 false).run Tryz.prog X = .ok (.int .i64 k) X := by kernel_rfl
theorem under_int : Tryz.prog.underlying 72 = some (.slice 3) := by kernel_rfl
theorem info_int : (Tryz.prog.info? 3).map (fun i => (i.zero, i.size, i.bytes)) = some (some (.int .i64 0), 1, 8) := by kernel_rfl
set_option maxRecDepth 100000 in
set_option maxHeartbeats 3200000 in
theorem qpush_any (h : QQ w0 B1 V0 P g m q c xs w) {k : Nat} (hk : k < m ∧ g k ≠ none) (hl : xs.length + 1 ≤ 100000) :
    Calls Tryz.prog 185 #[.pointer (some ⟨q, 0, none⟩), .iface 3 (.int .i64 k)] w fun e w' => e = .returned (.tuple #[]) ∧ QQ w0 B1 V0 P g m q c (xs ++ [k]) w' := by
  obtain ⟨v, h1, h2⟩ := h.qu
  have q1 := h1.cell (i := 1) rfl
  have H := Lib.hid h
  have H1 := Lib.hid h1
  have H2 := Lib.hid h2
  have HKK := Lib.hid hk
  have HTN : Hid (some q ≠ v.ownBlock) := Lib.hid (fun e => by
    obtain ⟨cc, e1⟩ := row_type h2 e.symm
    exact types_ne e1 h1 (by decide) rfl)
  obtain ⟨n, hn⟩ : ∃ n, n = xs.length := ⟨_, rfl⟩
  have HN := Lib.hid hn
  rw [← hn] at hl
  have HR : Hid (w.drew.ownsRow 0 3 1 v n ((ints xs).map (Value.int .i64))) := Lib.hid (by
    rw [hn]
    exact row_up (row_keep h2 ((Below.refl _ w).drew)) (fun _ _ => Nat.zero_le _))
  have z1 : (w.alloc (.cells #[.int .i64 (k : Nat)] 3)).cell? ⟨q, 1, none⟩ = some v := cell_al _ q1
  have hta := ta_int (k : Nat)
  clear h h1 h2 hk hn
  go_enter Tryz.func185, Tryz.ntmps185
  go_region_law (go_loud (refine step_more info_int rfl (by decide) (by decide) under_int rfl (.tmp 8) (.tmp 11) rfl v n _ (by simp [Act.eval]) (by exact HR.out.alloc _) ⟨w.heap.size, 0, none⟩ 1 1 [.int .i64 (k : Nat)] (by simp [Act.eval]) rfl (one_at w _ _) (by simp [Value.oneCell']) (by omega) (by omega) ?_; intro a cp w6 r1 r2 r3; have hv6 := EV.grown ((H1.out.keep ((Below.refl _ w).drew) H1.out.lt).all _) r2 HTN.out; have m1 := hv6.cell (i := 1) rfl; have m2 := hv6.free 1; have HV6 := Lib.hid hv6; have HR6 := Lib.hid r1; have HG6 := Lib.hid r2; have HA6 := Lib.hid r3; clear r1 r2 r3 hv6))
  all_goals (
    go_end0
    have ho6 : Off v.ownBlock.toList w w6 := ((Off.refl v.ownBlock.toList w).drew.all (.cells #[.int .i64 (k : Nat)] 3)).grow HG6.out (fun j e => .inl (by simp [e]))
    have hset := (Off.refl [q] w6).set ⟨q, 1, none⟩ (.slice (some ⟨a, 0, none⟩) (n + 1) cp) (.inl (by simp))
    have hgb : B1.heap.size ≤ a := HA6.out.elim (fun e => (row_lt H2.out e).1) (fun e => by have := H.out.of.size; subst e; show _ ≤ (w.alloc (.cells #[.int .i64 (k : Nat)] 3)).heap.size; simp; omega)
    have haq : a ≠ q := by
      obtain ⟨cc, e⟩ := row_type HR6.out rfl
      exact types_ne e HV6.out (by decide)
    refine ⟨rfl, H.out.be.trans ((ho6.below H.out.be.size (fun j hj => Nat.le_trans H.out.bs (row_lt H2.out (by simpa using hj)).1)).trans (hset.below (Nat.le_trans H.out.be.size ho6.size) (by simpa using H.out.qn))), ⟨_, HV6.out.set 1 _, ?_⟩, H.out.qn, fun x hx => ?_, by rw [List.length_append, List.length_singleton, ← HN.out]; exact hl, (H.out.kp.trans (KpT.off ho6 (fun j hj => by
      obtain ⟨cc, e⟩ := row_type H2.out (by simpa using hj)
      exact ⟨_, _, e, .inl rfl⟩))).trans (KpT.off hset (fun j hj => by
      obtain rfl := List.mem_singleton.1 hj
      exact ⟨_, _, HV6.out, .inr rfl⟩)), Nat.le_trans H.out.vs (Nat.le_trans ho6.size hset.size), (H.out.of.via ho6 (fun k hk hm => by have := (row_lt H2.out (by simpa using hm)).1; omega)).trans hset, H.out.bs⟩
    · have h3 := row_offS HR6.out hset (fun j hj => by cases hj; simpa using haq)
      have h4 := row_up h3 (base' := B1.heap.size) (fun j hj => by cases hj; exact hgb)
      rw [List.length_append, List.length_singleton, ← HN.out]
      unfold ints at h4 ⊢
      rw [List.map_append, List.map_append]
      exact h4
    · rcases List.mem_append.1 hx with hx | hx
      · exact H.out.ok x hx
      · obtain rfl := List.mem_singleton.1 hx
        exact HKK.out)
set_option maxRecDepth 100000 in
set_option maxHeartbeats 3200000 in
theorem qpop_any (h : QQ w0 B1 V0 P g m q c xs w) {n : Nat} (hn : xs.length = n + 1) :
    Calls Tryz.prog 184 #[.pointer (some ⟨q, 0, none⟩)] w fun e w' => e = .returned (.iface 3 (.int .i64 (Pq.at0 xs n : Nat))) ∧ QQ w0 B1 V0 P g m q c (xs.take n) w' := by
  obtain ⟨v, h1, h2⟩ := h.qu
  obtain ⟨gb, cq, rfl, hgb, hcq, hfr, hc⟩ := que_cell h2 (by omega)
  have q1 := h1.cell (i := 1) rfl
  have f1 := h1.free 1
  have en := hc n _ (Pq.at0_get (by omega))
  have hfew := h.few
  rw [hn] at q1 hcq hfew
  have H := Lib.hid h
  have H1 := Lib.hid h1
  have h3 : w.ownsRow B1.heap.size 3 1 (.slice (some ⟨gb, 0, none⟩) n cq) n ((ints (xs.take n)).map (Value.int .i64)) := by
    have h4 := h2
    rw [hn] at h4
    have e : (ints xs).map (Value.int .i64) = (ints (xs.take n)).map (Value.int .i64) ++ (ints (xs.drop n)).map (Value.int .i64) := by
      unfold ints
      rw [← List.map_append, ← List.map_append, List.take_append_drop]
    rw [e] at h4
    exact ownsRow_pop (by unfold ints; rw [List.length_map, List.length_map, List.length_take]; omega) h4
  have H3 := Lib.hid h3
  have HN := Lib.hid hn
  generalize Pq.at0 xs n = x at *
  have e1 : ((n + 1 : Nat) : Int) - 1 = (n : Int) := by omega
  clear h h1 h2 h3 hc hn hgb hfr
  go_enter Tryz.func184, Tryz.ntmps184
  go_wp2
  go_ret
  have hset := (Off.refl [q] w).set ⟨q, 1, none⟩ (.slice (some ⟨gb, 0, none⟩) n cq) (.inl (by simp))
  have hgq : gb ≠ q := by
    obtain ⟨cc, e⟩ := row_type H3.out rfl
    exact types_ne e H1.out (by decide)
  have hlt : (xs.take n).length = n := by rw [List.length_take, HN.out]; omega
  refine ⟨rfl, H.out.be.trans (hset.below H.out.be.size (by simpa using H.out.qn)), ⟨_, H1.out.set 1 _, ?_⟩, H.out.qn, fun y hy => H.out.ok y (List.mem_of_mem_take hy), by rw [hlt]; omega, H.out.kp.trans (KpT.off hset (fun j hj => by
    obtain rfl := List.mem_singleton.1 hj
    exact ⟨_, _, H1.out, .inr rfl⟩)), Nat.le_trans H.out.vs hset.size, H.out.of.trans hset, H.out.bs⟩
  rw [hlt]
  exact row_offS H3.out hset (fun j hj => by cases hj; simpa using hgq)
theorem QQ.re (h : QQ w0 B1 V0 P g m q c xs w) : QQ w0 B1 w P g m q c xs w := ⟨h.be, h.qu, h.qn, h.ok, h.few, KpT.refl w, Nat.le_refl _, h.of, h.bs⟩
/-- what the library's heap asks of it -/
theorem queC (hS : LoS w0 P RX cc) {cap : Nat} (hK : KlM w0 P.kb cap m RX g) (hkv : P.kv = .slice (some ⟨P.kb, 0, none⟩) m cap) : Pq.PqC 88 (.pointer (some ⟨q, 0, none⟩)) (ltG g) (QQ w0 B1 V0 P g m q c) where
  few := fun _ _ h => h.few
  drew := fun _ w h => h.keep ((Below.refl _ w).drew)
  mLen := ⟨_, fun n w => q_mLen n _ w, q_eLen, fun _ _ h => qlen_any h⟩
  mLess := ⟨_, fun n w => q_mLess n _ w, q_eLess, fun _ _ _ _ h hi hj => qless_any hS hK hkv h hi hj⟩
  mSwap := ⟨_, fun n w => q_mSwap n _ w, q_eSwap, fun _ _ _ _ h hi hj => qswap_any h hi hj⟩
/-- a number as it is handed in -/
def bxI (k : Nat) : Value := .iface 3 (.int .i64 k)
theorem queD : Pq.PqD 88 (.pointer (some ⟨q, 0, none⟩)) bxI (fun k => k < m ∧ g k ≠ none) (QQ w0 B1 V0 P g m q c) where
  mPush := ⟨_, fun n w => q_mPush n _ w, q_ePush, fun _ _ _ h hl hk => qpush_any h hk hl⟩
  mPop := ⟨_, fun n w => q_mPop n _ w, q_ePop, fun _ _ _ h hn => qpop_any h hn⟩
end
end Go.Proofs.YtldmajifkmcdcaaGreat.Lv
/-
  A node is looked at, and put into the queue; the next one is taken out. No condition but those typed at each theorem.
-/
namespace Go.Proofs.YtldmajifkmcdcaaGreat.Lv
open Go.RowKit Go.Sort Bd
section
variable {w0 B1 V0 w w' : World} {P : LoP} {RX A : List S3} {g : Nat → Option S3} {m q cap : Nat} {cc : Int} {xs : List Nat}
theorem QQ.tick {c : Int} (h : QQ w0 B1 V0 P g m q c xs w) (c' : Int) : QQ w0 B1 V0 P g m q c' xs (w.setCell ⟨q, 2, none⟩ (.int .i64 c')) := by
  obtain ⟨v, h1, h2⟩ := h.qu
  have hset := (Off.refl [q] w).set ⟨q, 2, none⟩ (.int .i64 c') (.inl (by simp))
  refine ⟨h.be.trans (hset.below h.be.size (by simpa using h.qn)), ⟨v, h1.set 2 _, row_offS h2 hset (fun j hj => ?_)⟩, h.qn, h.ok, h.few, h.kp.trans (KpT.off hset (fun j hj => by
    obtain rfl := List.mem_singleton.1 hj
    exact ⟨_, _, h1, .inr rfl⟩)), Nat.le_trans h.vs hset.size, h.of.trans hset, h.bs⟩
  obtain ⟨x, e⟩ := row_type h2 hj
  have := types_ne e h1 (by decide)
  simpa using this
/-- what is asked of the tree whose nodes are in the queue -/
structure TrM (w0 : World) (P : LoP) (RX A : List S3) (g : Nat → Option S3) (m cap : Nat) (cc : Int) : Prop where
  s : LoS w0 P RX cc
  k : KlM w0 P.kb cap m RX g
  v : P.kv = .slice (some ⟨P.kb, 0, none⟩) m cap
  i : LwI RX A g m
  sub : ∀ s ∈ A, s ∈ RX
  nd : A.Nodup
  m2 : m = 2 * RX.length - 1
/-- the queue is a heap of nodes with these points -/
def QS (w0 B1 V0 : World) (P : LoP) (g : Nat → Option S3) (m q c : Nat) (xs : List Nat) (w : World) : Prop := QQ w0 B1 V0 P g m q (c : Int) xs w ∧ Pq.HP (ltG g) xs xs.length
theorem QS.keep {c : Nat} (h : QS w0 B1 V0 P g m q c xs w) (o : Below w.heap.size w w') : QS w0 B1 V0 P g m q c xs w' := ⟨h.1.keep o, h.2⟩
theorem QS.re {c : Nat} (h : QS w0 B1 V0 P g m q c xs w) : QS w0 B1 w P g m q c xs w := ⟨h.1.re, h.2⟩
theorem QS.of {c : Nat} {X : World} (h : QS w0 B1 X P g m q c xs w) (hk : KpT V0 X) (hs : V0.heap.size ≤ X.heap.size) : QS w0 B1 V0 P g m q c xs w := ⟨⟨h.1.be, h.1.qu, h.1.qn, h.1.ok, h.1.few, hk.trans h.1.kp, Nat.le_trans hs h.1.vs, h.1.of, h.1.bs⟩, h.2⟩
theorem pend_one {k : Nat} : (pend RX A [k]) = sg RX A (lo RX.length k) (hi RX.length k) := by simp [pend]
/-- nodes in the queue have points -/
theorem pend_len (hI : LwI RX A g m) : ∀ {xs : List Nat}, (∀ x ∈ xs, x < m ∧ g x ≠ none) → xs.length ≤ (pend RX A xs).length
  | [], _ => Nat.zero_le _
  | x :: xs, h => by
    obtain ⟨h1, h2⟩ := h x (by simp)
    have ih := pend_len hI (xs := xs) (fun y hy => h y (by simp [hy]))
    have h3 : 0 < (sg RX A (lo RX.length x) (hi RX.length x)).length := by
      rcases hI x h1 with ⟨h4, -⟩ | ⟨s, -, h4, -⟩
      · exact absurd h4 h2
      · exact List.length_pos_of_mem h4
    rw [pend_cons, List.length_append, List.length_cons]
    omega
set_option maxRecDepth 100000 in
set_option maxHeartbeats 1600000 in
/-- a node is looked at -/
theorem qadd_any (T : TrM w0 P RX A g m cap cc) {c : Nat} (h : QS w0 B1 V0 P g m q c xs w) {k : Nat} (hk : k < m) (hl : xs.length ≤ 5000) (hc : c ≤ 1000000) :
    Calls Tryz.prog 65 #[.pointer (some ⟨q, 0, none⟩), .int .i64 k] w fun e w' => e = .returned (.tuple #[]) ∧ ∃ ys, (pend RX A ys).Perm (sg RX A (lo RX.length k) (hi RX.length k) ++ pend RX A xs) ∧ ys.length ≤ xs.length + 1 ∧ QS w0 B1 V0 P g m q (c + 1) ys w' := by
  obtain ⟨v, h1, h2⟩ := h.1.qu
  have q2 := h1.cell (i := 2) rfl
  have f2 := h1.free 2
  obtain ⟨W, hW⟩ : ∃ W, W = w.setCell ⟨q, 2, none⟩ (.int .i64 ((c : Int) + 1)) := ⟨_, rfl⟩
  have hQ : QQ w0 B1 V0 P g m q ((c + 1 : Nat) : Int) xs W := by
    have := h.1.tick ((c + 1 : Nat) : Int)
    rw [hW]
    exact this
  obtain ⟨v', h1', -⟩ := hQ.qu
  have p0 := h1'.cell (i := 0) rfl
  have c5 := (T.s.keep hQ.be).ev.cell (i := 5) rfl
  rw [T.v] at c5
  have b7 := (T.k.keep hQ.be).hc hk
  have hm2 : m ≤ 1000 := by have := T.m2; have := T.s.few; omega
  have HQ := Lib.hid hQ
  have HH := Lib.hid h.2
  cases hg : g k with
  | none =>
    rw [hg] at b7
    unfold bv bi at b7
    have HN : Hid (sg RX A (lo RX.length k) (hi RX.length k) = []) := Lib.hid (T.i.gone hk hg)
    obtain ⟨B, hB⟩ : ∃ B, B = P.B := ⟨_, rfl⟩
    rw [← hB] at p0 c5
    obtain ⟨kb, hkb⟩ : ∃ kb, kb = P.kb := ⟨_, rfl⟩
    rw [← hkb] at c5 b7
    clear h h1 h2 hQ h1' hg hB hkb T
    go_enter Tryz.func65, Tryz.ntmps65
    go_upto_region 1 with fail
    rw [← hW]
    clear hW
    go_wp2
    go_end0
    exact ⟨rfl, xs, by rw [HN.out]; exact List.Perm.refl _, by omega, HQ.out, HH.out⟩
  | some s =>
    rw [hg] at b7
    unfold bv bi at b7
    simp only at b7
    have hq0 : ((RX.idxOf s : Nat) : Int) ≠ -1 := by omega
    have hqb : (((RX.idxOf s : Nat) : Int) == -1) = false := by rw [beq_eq_false_iff_ne]; exact hq0
    have HP := Lib.hid (Pq.push_any (queC T.s T.k T.v) queD (ltG_lt g) W xs k hQ h.2 ⟨hk, by rw [hg]; simp⟩ (by omega))
    unfold bxI at HP
    generalize RX.idxOf s = i0 at *
    obtain ⟨B, hB⟩ : ∃ B, B = P.B := ⟨_, rfl⟩
    rw [← hB] at p0 c5
    obtain ⟨kb, hkb⟩ : ∃ kb, kb = P.kb := ⟨_, rfl⟩
    rw [← hkb] at c5 b7
    clear h h1 h2 hQ h1' hg hB hkb T
    go_enter Tryz.func65, Tryz.ntmps65
    go_upto_region 1 with fail
    rw [← hW]
    clear hW
    go_wp2_with (go_at_call 95; (with_reducible refine HP.out.mono ?_); rintro e w2 ⟨rfl, ys, h1, h2, h3⟩; have H1 := Lib.hid h1; have H2 := Lib.hid h2; have H3 := Lib.hid h3; clear h1 h2 h3)
    go_end0
    refine ⟨rfl, ys, ?_, by rw [H1.out.length_eq]; simp, H3.out, H2.out⟩
    have := pend_perm (RX := RX) (A := A) H1.out
    rw [pend_cons] at this
    exact this
set_option maxRecDepth 100000 in
set_option maxHeartbeats 1600000 in
/-- the next one is taken out -/
theorem qnext_any (T : TrM w0 P RX A g m cap cc) {c : Nat} (h : QS w0 B1 V0 P g m q c xs w) (h0 : xs ≠ []) :
    Calls Tryz.prog 36 #[.pointer (some ⟨q, 0, none⟩)] w fun e w' => e = .returned (.int .i64 (Pq.at0 xs 0 : Nat)) ∧ ∃ ys, (Pq.at0 xs 0 :: ys).Perm xs ∧ QS w0 B1 V0 P g m q c ys w' := by
  have HP := Lib.hid (Pq.pop_any (queC T.s T.k T.v) queD (ltG_lt g) w xs h.1 h.2 h0)
  have hta := ta_int (Pq.at0 xs 0 : Nat)
  unfold bxI at HP
  generalize Pq.at0 xs 0 = x at *
  clear h h0 T
  go_enter Tryz.func36, Tryz.ntmps36
  go_wp2_with (go_at_call 66; (with_reducible refine HP.out.mono ?_); rintro e w2 ⟨rfl, ys, h1, h2, h3⟩; have H1 := Lib.hid h1; have H2 := Lib.hid h2; have H3 := Lib.hid h3; clear h1 h2 h3)
  go_ret
  exact ⟨rfl, ys, H1.out, H3.out, H2.out⟩
end
end Go.Proofs.YtldmajifkmcdcaaGreat.Lv
