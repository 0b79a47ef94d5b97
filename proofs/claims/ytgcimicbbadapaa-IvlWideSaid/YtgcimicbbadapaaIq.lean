/-
  Spans laid knot by knot (knotByKnot). No condition but those typed at each theorem.
-/
import Derived.Test.YtgcimicbbadapaaIs
import Derived.Shelf.SlicesE.Clone
namespace Go.Proofs.Ytgcimicbbadapaa.Iv
open Go.RowKit

theorem flatT_set (L : List S3) (k : Nat) (s : S3) : (((flatT L).set (k * 3) (.int .i64 s.1)).set (k * 3 + 1) (.int .i64 s.2.1)).set (k * 3 + 2) (.int .u32 s.2.2) = flatT (L.set k s) := by
  induction L generalizing k with
  | nil => simp [flatT]
  | cons a L ih =>
    cases k with
    | zero => simp [flatT, tvs]
    | succ k =>
      have := ih k
      rw [show (k + 1) * 3 = k * 3 + 1 + 1 + 1 by omega, show k * 3 + 1 + 1 + 1 + 1 = (k * 3 + 1) + 1 + 1 + 1 by omega, show k * 3 + 1 + 1 + 1 + 2 = (k * 3 + 2) + 1 + 1 + 1 by omega]
      simp only [flatT, List.flatMap_cons, tvs, List.cons_append, List.nil_append, List.set_cons_succ] at this ⊢
      rw [this]
theorem info_span : (Try.prog.info? 34).map (fun i => (i.zero, i.size, i.bytes)) = some (some (.agg #[.int .i64 0, .int .i64 0, .int .u32 0]), 3, 24) := by kernel_rfl
theorem under_spans : Try.prog.underlying 22 = some (.slice 34) := by kernel_rfl
theorem made_spans (n : Nat) : madeCells #[.int .i64 0, .int .i64 0, .int .u32 0] (n * 3) = (flatT (List.replicate n (0, 0, 0))).toArray := by
  have h : flatT (List.replicate n (0, 0, 0)) = (List.range (n * 3)).map (fun i => #[Value.int .i64 0, .int .i64 0, .int .u32 0][i % 3]!) := by
    induction n with
    | zero => rfl
    | succ n ih =>
      rw [show (n + 1) * 3 = n * 3 + 1 + 1 + 1 by omega, List.range_succ, List.range_succ, List.range_succ]
      simp only [List.map_append, List.map_cons, List.map_nil, List.append_assoc, List.cons_append, List.nil_append]
      rw [← ih, List.replicate_succ', flatT_snoc, show n * 3 % 3 = 0 by omega, show (n * 3 + 1) % 3 = 1 by omega, show (n * 3 + 1 + 1) % 3 = 2 by omega]
      rfl
  rw [h]
  apply Array.ext
  · simp [size_madeCells]
  · intro i h1 h2
    have : i % 3 < 3 := Nat.mod_lt _ (by decide)
    simp [madeCells]

/-- free places -/
def fF (kf : S3 → Nat) (L : List S3) (i k : Nat) : Nat := stt kf L k + (nb kf (L.take i) k).length
theorem fF_zero (kf : S3 → Nat) (L : List S3) (N : Nat) : mapR N (stt kf L) = mapR N (fF kf L 0) := mapR_congr N _ _ (fun x _ => by simp [fF, nb])
theorem fF_step (kf : S3 → Nat) {L : List S3} {i : Nat} {s : S3} (h : L[i]? = some s) (N : Nat) : (mapR N (fF kf L i)).set (kf s) (fF kf L i (kf s) + 1) = mapR N (fF kf L (i + 1)) := by
  refine mapR_set N _ _ _ _ (fun x _ => ?_)
  unfold fF
  rw [nb_take kf h]
  by_cases e : x = kf s
  · subst e; simp; omega
  · rw [if_neg e, if_neg (fun g => e g.symm), List.append_nil]
theorem nb_take_le (kf : S3 → Nat) (L : List S3) (i k : Nat) : (nb kf (L.take i) k).length ≤ (nb kf L k).length := ((List.take_sublist i L).filter _).length_le
theorem fF_lt (kf : S3 → Nat) {L : List S3} {i : Nat} {s : S3} (h : L[i]? = some s) : fF kf L i (kf s) < stt kf L (kf s + 1) := by
  have h1 := nb_take_le kf L (i + 1) (kf s)
  rw [nb_take kf h, if_pos rfl, List.length_append] at h1
  unfold fF
  rw [stt_succ]
  simp at h1
  omega
/-- the first i spans are laid -/
structure KbI (kf : S3 → Nat) (L : List S3) (m i : Nat) (RI : List S3) : Prop where
  len : RI.length = L.length
  put : ∀ k j y, k < m → (nb kf (L.take i) k)[j]? = some y → RI[stt kf L k + j]? = some y
theorem KbI.step {kf : S3 → Nat} {L RI : List S3} {m i : Nat} {s : S3} (h : KbI kf L m i RI) (hs : L[i]? = some s) : KbI kf L m (i + 1) (RI.set (fF kf L i (kf s)) s) := by
  refine ⟨by rw [List.length_set]; exact h.len, fun k j y hkm hj => ?_⟩
  have hlt := fF_lt kf hs
  have hle : stt kf L (kf s + 1) ≤ RI.length := by rw [h.len]; exact stt_le _ _ _
  rw [nb_take kf hs] at hj
  by_cases e : kf s = k
  · subst e
    rw [if_pos rfl] at hj
    rcases Nat.lt_trichotomy j (nb kf (L.take i) (kf s)).length with g | g | g
    · rw [List.getElem?_append_left g] at hj
      rw [List.getElem?_set_ne (by unfold fF; omega)]
      exact h.put _ _ _ hkm hj
    · subst g
      rw [List.getElem?_append_right (Nat.le_refl _)] at hj
      simp at hj
      subst hj
      show (RI.set (fF kf L i (kf s)) s)[fF kf L i (kf s)]? = some s
      rw [List.getElem?_set_self (by omega)]
    · rw [List.getElem?_append_right (by omega), List.getElem?_eq_none (by simp; omega)] at hj
      cases hj
  · rw [if_neg e, List.append_nil] at hj
    have hjl := (List.getElem?_eq_some_iff.1 hj).1
    have h1 := nb_take_le kf L i k
    rw [List.getElem?_set_ne ?_]
    · exact h.put _ _ _ hkm hj
    · rcases Nat.lt_or_ge k (kf s) with g | g
      · have h2 := stt_mono kf L (kf s - (k + 1)) (k + 1)
        rw [show k + 1 + (kf s - (k + 1)) = kf s by omega, stt_succ] at h2
        have : stt kf L (kf s) ≤ fF kf L i (kf s) := Nat.le_add_right _ _
        omega
      · have h2 := stt_mono kf L (k - (kf s + 1)) (kf s + 1)
        rw [show kf s + 1 + (k - (kf s + 1)) = k by omega] at h2
        omega

theorem Clone_int (w : World) (b : Nat) (c : Nat) (xs : List Int) (hx : NS w (some ⟨b, 0, none⟩) .i64 xs) (hl : xs.length ≤ 8192) :
    Calls Try.prog 102 #[.slice (some ⟨b, 0, none⟩) xs.length c] w fun e w' => ∃ v, e = .returned v ∧ w'.ownsRow w.heap.size 3 1 v xs.length (xs.map (Value.int .i64)) ∧ Below w.heap.size w w' := by
  have HO := Lib.hid (World.ownsRow_made (base := w.heap.size) (e := 3) (size := 1) w #[] 0 (Nat.le_refl _) (by simp [maxLen]) rfl)
  have HK := Lib.hid ((NS.src (c := c) hx (fun h => by cases h)).keep ((Below.refl _ w).alloc (Nat.le_refl _) (.cells #[] 3)))
  have q22 : ∀ (w : World) (a : Option Addr) (n c n' c' : Nat), (binOp .eql 75 (.slice a n c) (.slice none n' c')).run Try.prog w = .ok (.bool a.isNone) w := fun w a n c n' c' => Lib.run_eql_slice_nil w _ _ a n c n' c' under_ints
  obtain ⟨n, hn⟩ : ∃ n, n = xs.length := ⟨_, rfl⟩
  have HN := Lib.hid hn
  rw [← hn] at HK hl ⊢
  clear hx hn
  go_enter Try.func102, Try.ntmps102
  go_wp2_with (at_builtin; refine wpList_list info_int rfl (by decide) (by decide) under_ints _ rfl (.tmp 5) (.tmp 6) rfl w.heap.size (.slice (some ⟨w.heap.size, 0, none⟩) 0 0) 0 [] rfl HO.out (some ⟨b, 0, none⟩) n c (xs.map (Value.int .i64)) (by simp [Act.eval]) (by rw [HN.out]; simp) HK.out (ints_one xs .i64) (by omega) (by simp) ?_; intro v' w' h1 h2 _; have H1 := Lib.hid h1; have H2 := Lib.hid (((Below.refl _ w).alloc (Nat.le_refl _) (.cells #[] 3)).grown h2 (by simp) (fun k hk => by simp [Value.ownBlock] at hk; omega)); clear h1 h2)
  go_ret
  exact ⟨_, rfl, by simpa using H1.out, H2.out⟩

/-- in the midst of laying knot by knot -/
structure KbM (w : World) (kf : S3 → Nat) (L : List S3) (m i : Nat) (X : World) (B F cap : Nat) (RI : List S3) : Prop where
  list : EV 34 X B (flatT RI)
  free : RB .i64 3 X F cap (zs (mapR (m + 1) (fF kf L i)))
  ne : w.heap.size ≤ B ∧ w.heap.size ≤ F ∧ B ≠ F
  laid : KbI kf L m i RI
  bel : Below w.heap.size w X
theorem KbM.keep {w : World} {kf : S3 → Nat} {L : List S3} {m i : Nat} {X X' : World} {B F cap : Nat} {RI : List S3} (h : KbM w kf L m i X B F cap RI) (hb : Below X.heap.size X X') : KbM w kf L m i X' B F cap RI :=
  ⟨h.list.keep hb h.list.lt, h.free.keep hb h.free.lt, h.ne, h.laid, h.bel.trans (hb.mono h.bel.size)⟩
theorem KbM.start {w X : World} {kf : S3 → Nat} {L : List S3} {m B F cap : Nat} {v : Value} (hv : v = .slice (some ⟨F, 0, none⟩) (m + 1) cap) (hl : EV 34 X B (flatT (List.replicate L.length (0, 0, 0)))) (hf : RB .i64 3 X F cap (zs (mapR (m + 1) (stt kf L)))) (hn : w.heap.size ≤ B ∧ w.heap.size ≤ F ∧ B ≠ F) (hb : Below w.heap.size w X) :
    ∃ B F cap RI, B = B ∧ v = .slice (some ⟨F, 0, none⟩) (m + 1) cap ∧ KbM w kf L m 0 X B F cap RI :=
  ⟨B, F, cap, _, rfl, hv, hl, by rw [← fF_zero]; exact hf, hn, ⟨by simp, fun k j y _ hj => by simp [nb] at hj⟩, hb⟩

set_option maxRecDepth 100000 in
set_option maxHeartbeats 3200000 in
theorem kbk_any {w : World} {g : Nat} {E : List Int} {qe : Option Addr} {ce : Nat} (h : EnM w g E qe ce) (hE : E.length ≤ 4096) (sb : Nat) (hs0 : w.cell? ⟨g, 2, none⟩ = some (.slice (some ⟨sb, 0, none⟩) (E.length + 1) (E.length + 1))) (p : Option Addr) (c : Nat) (L : List S3) (hx : TsS w p L) (hl : L.length ≤ 4096) (hst : EB .i64 3 w sb (zs (mapR (E.length + 1) (stt (kn (En E) E.length) L)))) (hr : ∀ s ∈ L, s.1 ≤ s.2.1 ∧ kn (En E) E.length s < E.length) :
    Calls Try.prog 65 #[.pointer (some ⟨g, 0, none⟩), .slice p L.length c] w fun e w' => ∃ b RI, e = .returned (.slice (some ⟨b, 0, none⟩) L.length L.length) ∧ Ts w' b 0 RI ∧ KbK (kn (En E) E.length) L E.length RI ∧ w.heap.size ≤ b ∧ b < w'.heap.size ∧ Below w.heap.size w w' := by
  have HX := Lib.hid hx
  have HR := Lib.hid hr
  have HKN := Lib.hid (fun X (hb : Below w.heap.size w X) s hs => knot_any (h.keep hb) s hs)
  obtain ⟨kf, hkf⟩ : ∃ kf, kf = kn (En E) E.length := ⟨_, rfl⟩
  rw [← hkf] at HKN HR hst ⊢
  obtain ⟨m, hm⟩ : ∃ m, m = E.length := ⟨_, rfl⟩
  have HM := Lib.hid hm
  obtain ⟨n, hn⟩ : ∃ n, n = L.length := ⟨_, rfl⟩
  have HN := Lib.hid hn
  rw [← hm] at hs0 HR hE hst ⊢
  rw [← hn] at hl ⊢
  have hms : ∀ w : World, (Instr.makeSlice 22 (.int .i64 (n : Int)) (.int .i64 (n : Int))).run Try.prog w = .ok (.slice (some ⟨w.heap.size, 0, none⟩) n n) (w.alloc (.cells (flatT (List.replicate n (0, 0, 0))).toArray 34)) := fun w => by
    have := made_any info_span (by decide) (by decide) under_spans w n n (Nat.le_refl _) (by omega)
    rw [← made_spans]
    exact this
  have HCL : Hid (∀ X, Below w.heap.size w X → Calls Try.prog 102 #[.slice (some ⟨sb, 0, none⟩) (m + 1) (m + 1)] X fun e X' => ∃ v, e = .returned v ∧ X'.ownsRow X.heap.size 3 1 v (m + 1) ((zs (mapR (m + 1) (stt kf L))).map (Value.int .i64)) ∧ Below X.heap.size X X') := Lib.hid (fun X hb => by
    have := Clone_int X sb (m + 1) (zs (mapR (m + 1) (stt kf L))) ((EB.ns (r := []) (by rw [List.append_nil]; exact hst)).keep hb) (by rw [zs_len, mapR_len]; omega)
    rw [zs_len, mapR_len] at this
    exact this)
  have hgl : g < w.heap.size := World.block_lt_of_cell? _ _ hs0
  clear h hx hr hkf hm hn hst
  go_enter Try.func65, Try.ntmps65
  go_upto_region 1 with fail
  go_cut [5, 6] from 10 to 18 (fun v5 v6 wx => ∃ B F cap RI, v5 = .slice (some ⟨B, 0, none⟩) n n ∧ v6 = .slice (some ⟨F, 0, none⟩) (m + 1) cap ∧ Hid (KbM w kf L m 0 wx B F cap RI))
  case first =>
    have d1 : (w.drew.alloc (.cells (flatT (List.replicate n (0, 0, 0))).toArray 34)).cell? ⟨g, 2, none⟩ = some (.slice (some ⟨sb, 0, none⟩) (m + 1) (m + 1)) := cell_al _ hs0
    generalize hF : (flatT (List.replicate n (0, 0, 0))).toArray = F at hms d1
    have HF := Lib.hid hF
    clear hF
    go_region_with (go_at_call 102; (refine (HCL.out _ (by first | exact (Below.refl _ w).drew | exact ((Below.refl _ w).drew.alloc (Nat.le_refl _) _))).mono ?_); rintro e w1 ⟨v, rfl, hv, hb⟩; have HV := Lib.hid hv; have HB := Lib.hid hb; clear hv hb)
    all_goals obtain ⟨Fb, cap, rfl, hFb, hrb⟩ := rb_of HV.out (by omega)
    all_goals have HRB := Lib.hid hrb
    all_goals have HFB := Lib.hid hFb
    all_goals clear hrb hFb
    all_goals go_wp2_with fail
    all_goals go_meet
    · have hz1 : (w.alloc (.cells F 34)).heap.size = w.heap.size + 1 := by simp
      have hz2 : (w.alloc (.cells F 34)).heap.size ≤ Fb := HFB.out
      have hz3 : Below (w.alloc (.cells F 34)).heap.size (w.alloc (.cells F 34)) w1 := undrew HB.out
      exact ⟨w.heap.size, Fb, cap, _, rfl, rfl, Lib.hid ⟨EV.keep (by show _ = some (Obj.cells _ _ _); rw [HF.out]; exact heap_alloc_new w _) hz3 (by omega), by rw [← fF_zero]; exact HRB.out, ⟨Nat.le_refl _, by omega, by omega⟩, ⟨by rw [List.length_replicate, HN.out], fun k j y _ hj => by simp [nb] at hj⟩, ((Below.refl _ w).alloc (Nat.le_refl _) _).trans (Below.mono hz3 (by omega))⟩⟩
    · have hz1 : (w.alloc (.cells F 34)).heap.size = w.heap.size + 1 := by simp
      have hz2 : (w.alloc (.cells F 34)).heap.size ≤ Fb := HFB.out
      have hz3 : Below (w.alloc (.cells F 34)).heap.size (w.alloc (.cells F 34)) w1 := undrew HB.out
      exact ⟨w.heap.size, Fb, cap, _, rfl, rfl, Lib.hid ⟨EV.keep (by show _ = some (Obj.cells _ _ _); rw [HF.out]; exact heap_alloc_new w _) hz3 (by omega), by rw [← fF_zero]; exact HRB.out, ⟨Nat.le_refl _, by omega, by omega⟩, ⟨by rw [List.length_replicate, HN.out], fun k j y _ hj => by simp [nb] at hj⟩, ((Below.refl _ w).alloc (Nat.le_refl _) _).trans (Below.mono hz3 (by omega))⟩⟩
    · exact ⟨w1.heap.size, Fb, cap, _, rfl, rfl, Lib.hid ⟨by show _ = some (Obj.cells _ _ _); rw [HF.out]; exact heap_alloc_new w1 _, by rw [← fF_zero]; exact HRB.out.keep ((Below.refl _ w1).alloc (Nat.le_refl _) _) HRB.out.lt, ⟨HB.out.size, HFB.out, by have := HRB.out.lt; omega⟩, ⟨by rw [List.length_replicate, HN.out], fun k j y _ hj => by simp [nb] at hj⟩, Below.alloc (Below.trans ((Below.refl _ w).drew) HB.out) HB.out.size _⟩⟩
  case rest =>
    clear hms
    obtain ⟨B, F, cap, RI, rfl, rfl, HK⟩ := hcut
    go_wp2
    go_loopw [20] (fun v wr => ∃ (i : Nat) (RI : List S3), i ≤ n ∧ v = .int .i64 i ∧ Hid (KbM w kf L m i wr B F cap RI)) (fun v _ => n - (intOf v).toNat)
    case atStart => exact ⟨0, RI, Nat.zero_le _, rfl, HK⟩
    case round =>
      clear HK
      obtain ⟨i, RI, hi, rfl, HK⟩ := hrel
      by_cases hlt : i < n
      · have hltz : (i : Int) < n := by omega
        obtain ⟨s, hse⟩ : ∃ s, L[i]? = some s := ⟨_, List.getElem?_eq_getElem (by have := HN.out; omega)⟩
        obtain ⟨bb, off, rfl, h1⟩ := (HX.out.keep HK.out.bel).at hse
        have n0 := h1.c0
        have n1 := h1.c1
        have n2 := h1.c2
        have HSE := Lib.hid hse
        obtain ⟨hs1, hk⟩ := HR.out s (List.mem_of_getElem? hse)
        have hfl := fF_lt kf hse
        have hsl := stt_le kf L (kf s + 1)
        rw [← HN.out] at hsl
        have hst := HK.out.laid.step (i := i) hse (m := m)
        obtain ⟨lo, hi2, id⟩ := s
        obtain ⟨kk, hkk⟩ : ∃ kk, kk = kf (lo, hi2, id) := ⟨_, rfl⟩
        have HKK := Lib.hid hkk
        have HC : Hid (∀ X, Below w.heap.size w X → Calls Try.prog 101 #[.pointer (some ⟨g, 0, none⟩), .agg #[.int .i64 lo, .int .i64 hi2, .int .u32 id]] X fun e X' => e = .returned (.int .i64 kk) ∧ Below X.heap.size X X') := Lib.hid (fun X hb => by rw [hkk]; exact HKN.out X hb (lo, hi2, id) hs1)
        rw [← hkk] at hk hfl hsl hst
        have HST := Lib.hid hst
        obtain ⟨x, hxv⟩ : ∃ x, x = fF kf L i kk := ⟨_, rfl⟩
        have HXV := Lib.hid hxv
        rw [← hxv] at hfl HST
        have hxn : x < n := by omega
        have hsz := HK.out.bel.size
        have HT := Lib.hid (T1.new wr (lo, hi2, id) 34)
        change Hid (T1 (wr.alloc (.cells #[.int .i64 lo, .int .i64 hi2, .int .u32 id] 34)) _ _ _) at HT
        clear h1 hse hs1 hkk hxv hst hfl hsl
        go_upto_region 6 with (go_at_call 101; (refine (HC.out _ (HK.out.bel.alloc hsz _)).mono ?_); rintro e w1 ⟨rfl, hb1⟩; have HT1 := Lib.hid (HT.out.keep hb1 HT.out.lt); have HK1 := Lib.hid (HK.out.keep (((Below.refl wr.heap.size wr).alloc (Nat.le_refl _) _).trans (hb1.mono (by simp)))); clear hb1)
        have y0 := HK1.out.free.cell (zs_get _ (mapR_get (m + 1) (fF kf L i) (k := kk) (by omega)))
        rw [← HXV.out] at y0
        have y1 := HK1.out.free.free kk
        obtain ⟨⟨a1, a2, a3⟩, ha⟩ : ∃ a, RI[x]? = some a := ⟨_, List.getElem?_eq_getElem (by rw [HK1.out.laid.len, ← HN.out]; exact hxn)⟩
        have y2 : w1.cell? ⟨B, x * 3, none⟩ = some (.int .i64 a1) := HK1.out.list.cell ((flatT_get RI ha (i := 0) (by decide)).trans rfl)
        have y3 := HK1.out.list.cell ((flatT_get RI ha (i := 1) (by decide)).trans rfl)
        have y4 := HK1.out.list.cell ((flatT_get RI ha (i := 2) (by decide)).trans rfl)
        have y5 := HK1.out.list.free (x * 3)
        have y6 := HK1.out.list.free (x * 3 + 1)
        have y7 := HK1.out.list.free (x * 3 + 2)
        have y8 := HT1.out.c0
        have y9 := HT1.out.c1
        have y10 := HT1.out.c2
        have hBF := HK1.out.ne.2.2
        clear ha n0 n1 n2
        go_upto_region 6 with fail
        go_region
        go_wp2
        go_roundw
        case rel =>
          refine ⟨i + 1, RI.set x (lo, hi2, id), by omega, by go_num, Lib.hid ⟨?_, ?_, HK1.out.ne, ?_, ?_⟩⟩
          · have := ((HK1.out.list.set (x * 3) (.int .i64 lo)).set (x * 3 + 1) (.int .i64 hi2)).set (x * 3 + 2) (.int .u32 id)
            rw [flatT_set RI x (lo, hi2, id)] at this
            exact EV.far this (Ne.symm hBF) _
          · have hO : Off [B] w1 (((w1.setCell ⟨B, x * 3, none⟩ (.int .i64 lo)).setCell ⟨B, x * 3 + 1, none⟩ (.int .i64 hi2)).setCell ⟨B, x * 3 + 2, none⟩ (.int .u32 id)) := (((Off.refl _ w1).set _ _ (.inl (by simp))).set _ _ (.inl (by simp))).set _ _ (.inl (by simp))
            have hl2 : (mapR (m + 1) (fF kf L i)).set kk (x + 1) = mapR (m + 1) (fF kf L (i + 1)) := by rw [HXV.out, HKK.out]; exact fF_step kf HSE.out _
            have := (HK1.out.free.off hO (by simp; exact Ne.symm hBF)).set kk ((x + 1 : Nat) : Int)
            rw [zs_set, hl2] at this
            exact this
          · exact HST.out
          · exact (((HK1.out.bel.setCell (p := ⟨B, x * 3, none⟩) HK1.out.ne.1 (.int .i64 lo)).setCell (p := ⟨B, x * 3 + 1, none⟩) HK1.out.ne.1 (.int .i64 hi2)).setCell (p := ⟨B, x * 3 + 2, none⟩) HK1.out.ne.1 (.int .u32 id)).drew.setCell (p := ⟨F, kk, none⟩) HK1.out.ne.2.1 _
        case measure => simp [intOf]; omega
      · have hltz : ¬ (i : Int) < n := by omega
        obtain rfl : i = n := by omega
        go_wp2
        go_ret
        refine ⟨B, rfl, RI, fun j s hj => ?_, ⟨by rw [HK.out.laid.len], fun s hs => (HR.out s hs).2, fun k j y hk hj => HK.out.laid.put k j y hk (by rw [HN.out, List.take_of_length_le (Nat.le_refl _)]; exact hj)⟩, HK.out.ne.1, HK.out.list.lt, HK.out.bel⟩
        have h0 := HK.out.list
        refine ⟨?_, ?_, ?_⟩
        · have := h0.cell ((flatT_get RI hj (i := 0) (by decide)).trans rfl); rw [Nat.zero_add]; exact this
        · have := h0.cell ((flatT_get RI hj (i := 1) (by decide)).trans rfl); rw [Nat.zero_add]; exact this
        · have := h0.cell ((flatT_get RI hj (i := 2) (by decide)).trans rfl); rw [Nat.zero_add]; exact this
end Go.Proofs.Ytgcimicbbadapaa.Iv
