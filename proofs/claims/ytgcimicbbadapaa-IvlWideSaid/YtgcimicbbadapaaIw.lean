/-
  A line gone through, as long as it is so (while). No condition but those typed at each theorem.
-/
import Derived.Test.YtgcimicbbadapaaIl
import Derived.Test.YtgcimicbbadapaaTold
namespace Go.Proofs.Ytgcimicbbadapaa.Iv
open Go.RowKit

def ids (T : List S3) : List Int := T.map (fun s => s.2.2)
theorem ids_len (T : List S3) : (ids T).length = T.length := by simp [ids]
theorem ids_snoc (T : List S3) (s : S3) : ids (T ++ [s]) = ids T ++ [s.2.2] := by simp [ids]
theorem ids_app (T U : List S3) : ids (T ++ U) = ids T ++ ids U := by simp [ids]
theorem sg_len (SP A : List S3) (i k : Nat) : (sg SP A i k).length ≤ SP.length := by
  unfold sg
  refine Nat.le_trans (List.length_filter_le _ _) ?_
  rw [List.length_take, List.length_drop]; omega
theorem info_u : (Try.prog.info? 32).map (fun i => (i.zero, i.size, i.bytes)) = some (some (.int .u32 0), 1, 4) := by kernel_rfl
section
variable {w w' : World} {b o : Nat} {SP A : List S3} {p : Option Addr} {c br bo : Nat} {R : List (Nat × Nat)} {O : List Nat}
/-- the next place is e -/
def NX (SP A : List S3) (q k e : Nat) : Prop := q ≤ e ∧ e ≤ SP.length ∧ (e < k → ∃ s, SP[e]? = some s ∧ sg SP A q k = s :: sg SP A (e + 1) k) ∧ (k ≤ e → sg SP A q k = [])
theorem nxt_any (h : LnM w b o SP A p c br bo R O) {q k : Nat} (hq : q ≤ SP.length) (hk : k ≤ SP.length) :
    Calls Try.prog 73 #[.pointer (some ⟨b, o + 1, none⟩), .int .i64 q] w fun x w' => (∃ e : Nat, x = .returned (.int .i64 e) ∧ NX SP A q k e) ∧ Below w.heap.size w w' := by
  refine (from_any h.rn hq).mono ?_
  rintro x w' ⟨⟨e, rfl, h4, h5, h6, h7⟩, hb⟩
  obtain ⟨g1, g2⟩ := sg_next SP A h4 h7 h6 h5 hk
  refine ⟨⟨e, rfl, h4, h5, fun he => ?_, g2⟩, hb⟩
  obtain ⟨s, e1, -, e2⟩ := g1 he
  exact ⟨s, e1, e2⟩

set_option maxRecDepth 100000 in
set_option maxHeartbeats 3200000 in
theorem while_any (h : LnM w b o SP A p c br bo R O) {i k : Nat} (hi : i ≤ SP.length) (hk : k ≤ SP.length) (g : Nat) (lb : Array Value) (so : S3 → Bool) (eg : ∀ args w, (callFunc g args).run Try.prog w = .ok (.enter g args) w)
    (hA : ∀ X s, Below w.heap.size w X → Calls Try.prog g (#[tv s] ++ lb) X fun e X' => e = .returned (.bool (so s)) ∧ Below X.heap.size X X') :
    Calls Try.prog 43 #[.pointer (some ⟨b, o, none⟩), .int .i64 i, .int .i64 k, .func (.func g) #[] lb] w fun e w' => (∃ v, e = .returned (.tuple #[v, .int .i64 (lkd so (sg SP A i k) : Nat)]) ∧ w'.ownsRow w.heap.size 32 1 v (ids ((sg SP A i k).takeWhile so)).length ((ids ((sg SP A i k).takeWhile so)).map (Value.int .u32))) ∧ Below w.heap.size w w' := by
  have H := Lib.hid h
  have HA := Lib.hid hA
  have HN := Lib.hid (fun X q (hb : Below w.heap.size w X) (hq : q ≤ SP.length) => nxt_any (h.keep hb) hq hk)
  have HF := Lib.hid h.few
  have HSL := Lib.hid (sg_len SP A i k)
  obtain ⟨Y, hY⟩ : ∃ Y, Y = sg SP A i k := ⟨_, rfl⟩
  have HY := Lib.hid hY
  rw [← hY]
  rw [← hY] at HSL
  obtain ⟨n, en⟩ : ∃ n, n = SP.length := ⟨_, rfl⟩
  have EN := Lib.hid en
  rw [← en] at hi hk HF
  clear h hA hY en
  go_enter Try.func43, Try.ntmps43
  go_wp2_with (go_at_call 73; (with_reducible refine (HN.out _ i (Below.refl _ _) (by rw [← EN.out]; exact hi)).mono ?_); rintro e w1 ⟨⟨e0, rfl, hn0⟩, hb⟩; have HB := Lib.hid hb; have HN0 := Lib.hid hn0; clear hb hn0)
  go_loopw [10, 11, 12] (fun v cc pl wr => ∃ (e q : Nat) (T Z : List S3), cc = .int .i64 T.length ∧ pl = .int .i64 e ∧ Hid (wr.ownsRow w.heap.size 32 1 v (ids T).length ((ids T).map (Value.int .u32))) ∧ Hid (Below w.heap.size w wr) ∧ Hid (Y = T ++ sg SP A q k) ∧ Hid (NX SP A q k e) ∧ Hid (∀ s ∈ T, so s = true)) (fun _ _ pl _ => n - (intOf pl).toNat)
  case atStart => exact ⟨e0, i, [], [], rfl, rfl, Lib.hid (World.ownsRow_nil ..), HB, HY, HN0, Lib.hid (by simp)⟩
  case round =>
    clear HB HN0
    obtain ⟨e, q, T, -, rfl, rfl, HR, HB, HT, HX, HS⟩ := hrel
    obtain ⟨x1, x2, x3, x4⟩ := HX.out
    rw [← EN.out] at x2
    by_cases hek : e < k
    · have hekz : (e : Int) < k := by omega
      obtain ⟨s, hs1, hs2⟩ := x3 hek
      have HS2 := Lib.hid hs2
      have hsp := H.out.keep HB.out
      have y1 := hsp.sp
      obtain ⟨bb, off, rfl, ht⟩ := hsp.ts.at hs1
      have t0 := ht.c0
      have t1 := ht.c1
      have t2 := ht.c2
      have hroom := hsp.room
      rw [← EN.out] at y1 hroom
      have hlt : e < n := by omega
      obtain ⟨lo, hi2, id⟩ := s
      have HTL : Hid (T.length + 1 ≤ n) := Lib.hid (by have := HSL.out; rw [HT.out, hs2, ← EN.out] at this; simp at this; omega)
      have hsz := HB.out.size
      have HFn := HF.out
      have HN1 : Hid (∀ X, Below w.heap.size w X → Calls Try.prog 73 #[.pointer (some ⟨b, o + 1, none⟩), .int .i64 ((e : Int) + 1)] X fun x w' => (∃ e3 : Nat, x = .returned (.int .i64 e3) ∧ NX SP A (e + 1) k e3) ∧ Below X.heap.size X w') := Lib.hid (fun X hb => by have := HN.out X (e + 1) hb (by rw [← EN.out]; omega); rw [show ((e + 1 : Nat) : Int) = (e : Int) + 1 by omega] at this; exact this)
      clear hs1 hs2 x3 x4 ht hsp
      have hcell := (Row.new wr [.int .i64 lo, .int .i64 hi2, .int .u32 id] 34 rfl) 2 _ rfl
      have HCL := Lib.hid hcell
      generalize hTl : T.length = tl at *
      have HTL2 := Lib.hid hTl
      have hidl : (ids T).length = tl := by rw [ids_len, hTl]
      rw [hidl] at HR
      have hTL := HTL.out
      have HIL := Lib.hid hidl
      clear hTl hidl
      clear hcell
      cases hso : so (lo, hi2, id) with
      | false =>
        have HC := Lib.hid (fun X (hb : Below w.heap.size w X) => by have := HA.out X (lo, hi2, id) hb; rw [hso] at this; exact this)
        go_wp2_with (go_at_fn g; refine (HC.out _ ((HB.out.alloc hsz _))).mono ?_; rintro e w1 ⟨rfl, hb1⟩; have HB1 := Lib.hid ((HB.out.alloc hsz _).trans (hb1.mono (by simp; omega))); have HD1 := Lib.hid (((Below.refl wr.heap.size wr).alloc (Nat.le_refl _) _).trans (hb1.mono (by simp))); clear hb1)
        go_ret2
        obtain ⟨l1, l2⟩ := lkd_stop so (r := sg SP A (e + 1) k) HS.out hso
        rw [HT.out, HS2.out, l1, l2, HIL.out, HTL2.out]
        refine ⟨⟨_, rfl, ?_⟩, HB1.out⟩
        exact row_off HR.out (Off.of (S := []) HD1.out (Nat.le_refl _)) (by simp)
      | true =>
        have HC := Lib.hid (fun X (hb : Below w.heap.size w X) => by have := HA.out X (lo, hi2, id) hb; rw [hso] at this; exact this)
        go_wp2_with (first
          | (go_at_fn g; refine (HC.out _ ((HB.out.alloc hsz _))).mono ?_; rintro e w1 ⟨rfl, hb1⟩; have HB1 := Lib.hid ((HB.out.alloc hsz _).trans (hb1.mono (by simp; omega))); have HR1 := Lib.hid (row_off HR.out (Off.of (S := []) (((Below.refl wr.heap.size wr).alloc (Nat.le_refl _) _).trans (hb1.mono (by simp))) (Nat.le_refl _)) (by simp)); have n2 := (hb1.cell (World.block_lt_of_cell? _ _ HCL.out)).trans HCL.out; clear hb1)
          | (at_builtin; refine wpList_list info_u rfl (by decide) (by decide) Try.underlying41 _ rfl (.tmp 41) (.tmp 44) rfl w.heap.size _ tl _ rfl (HR1.out.alloc _) (some ⟨w1.heap.size, 0, none⟩) 1 1 [.int .u32 id] (by simp [Act.eval]) rfl (.inr ⟨_, rfl, one_at w1 (.int .u32 id) 32⟩) (by simp [Value.oneCell']) (by omega) (by have := HB1.out.size; simp; omega) ?_; intro v' w' h1 h2 _; have H1 := Lib.hid h1; have H2 := Lib.hid ((HB1.out.alloc HB1.out.size _).grown h2 (by have := HB1.out.size; simp; omega) (fun q e => own_geB HR.out q e)); clear h1 h2)
          | (go_at_call 73; (with_reducible refine (HN1.out _ H2.out).mono ?_); rintro x w3 ⟨⟨e3, rfl, hn3⟩, hb⟩; have HR3 := Lib.hid (row_off H1.out (Off.of (S := []) hb (Nat.le_refl _)) (by simp)); have HB3 := Lib.hid (H2.out.trans (hb.mono H2.out.size)); have HN3 := Lib.hid hn3; clear hb hn3))
        go_roundw
        case rel =>
          refine ⟨e3, e + 1, T ++ [(lo, hi2, id)], [], by rw [List.length_append, HTL2.out]; go_num, rfl, Lib.hid ?_, HB3, Lib.hid ?_, HN3, Lib.hid ?_⟩
          · rw [ids_snoc, List.length_append, HIL.out, List.map_append]; exact HR3.out
          · rw [HT.out, HS2.out]; simp
          · intro s hs
            rcases List.mem_append.1 hs with hs | hs
            · exact HS.out s hs
            · rw [List.mem_singleton.1 hs]; exact hso
        case measure => simp [intOf]; have := HN3.out.1; have := HN3.out.2.1; rw [← EN.out] at this; omega
    · have hekz : ¬ (e : Int) < k := by omega
      have h4 := x4 (by omega)
      have HY2 : Hid (Y = T) := Lib.hid (by rw [HT.out, h4, List.append_nil])
      have HK := Lib.hid (lkd_all so HS.out)
      clear x1 x3 x4 h4
      go_wp2
      go_ret2
      rw [HY2.out, HK.out.1, HK.out.2]
      exact ⟨⟨_, rfl, HR.out⟩, HB.out⟩
end
end Go.Proofs.Ytgcimicbbadapaa.Iv
