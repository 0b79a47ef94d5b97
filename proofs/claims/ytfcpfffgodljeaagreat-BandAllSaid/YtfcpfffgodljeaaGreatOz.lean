/-
  Go's own sort of points, by a function that is handed in: the library's contract laid at this translation, and what it says here. No condition but those typed at each theorem.
-/
import Derived.Shelf.SlSortCmp.WholeK
import Derived.Ground.SlsfProg
import Derived.Test.YtfcpfffgodljeaaGreatOo
import Derived.Test.YtfcpfffgodljeaaGreatMLook
import Derived.Test.YtfcpfffgodljeaaGreatOc
namespace Go.Proofs
open Go.Shelf
def Tryz.sortSp_ren : Go.Shelf.Ren := ⟨fun | 6 => 99 | 15 => 46 | 14 => 129 | 28 => 79 | 29 => 80 | 20 => 149 | 21 => 150 | 22 => 151 | 23 => 152 | 24 => 153 | 25 => 154 | 26 => 155 | 27 => 156 | 46 => 163 | 47 => 137 | 48 => 138 | 49 => 164 | 50 => 165 | 57 => 172 | n => n, fun | 22 => 22 | 24 => 34 | 25 => 126 | 3 => 3 | 39 => 93 | 0 => 0 | 53 => 32 | 55 => 155 | 4 => 4 | 46 => 187 | 45 => 186 | 50 => 76 | 5 => 5 | 9 => 9 | 66 => 206 | 70 => 210 | 76 => 226 | 77 => 46 | n => n, fun | n => n⟩
theorem Tryz.sortSp : Go.Proofs.SlLaysF0.n6 Tryz.prog Tryz.sortSp_ren := {
  mixed := by kernel_rfl
  f6 := ⟨Tryz.f99.name, by decide, Tryz.func99.trans (congrArg some (by kernel_rfl))⟩
  f14 := ⟨Tryz.f129.name, by decide, Tryz.func129.trans (congrArg some (by kernel_rfl))⟩
  f15 := Tryz.func46.trans (congrArg some (by kernel_rfl))
  f20 := ⟨Tryz.f149.name, by decide, Tryz.func149.trans (congrArg some (by kernel_rfl))⟩
  f21 := ⟨Tryz.f150.name, by decide, Tryz.func150.trans (congrArg some (by kernel_rfl))⟩
  f22 := ⟨Tryz.f151.name, by decide, Tryz.func151.trans (congrArg some (by kernel_rfl))⟩
  f23 := ⟨Tryz.f152.name, by decide, Tryz.func152.trans (congrArg some (by kernel_rfl))⟩
  f24 := ⟨Tryz.f153.name, by decide, Tryz.func153.trans (congrArg some (by kernel_rfl))⟩
  f25 := ⟨Tryz.f154.name, by decide, Tryz.func154.trans (congrArg some (by kernel_rfl))⟩
  f26 := ⟨Tryz.f155.name, by decide, Tryz.func155.trans (congrArg some (by kernel_rfl))⟩
  f27 := ⟨Tryz.f156.name, by decide, Tryz.func156.trans (congrArg some (by kernel_rfl))⟩
  f28 := Tryz.func79.trans (congrArg some (by kernel_rfl))
  f29 := Tryz.func80.trans (congrArg some (by kernel_rfl))
  f46 := ⟨Tryz.f163.name, by decide, Tryz.func163.trans (congrArg some (by kernel_rfl))⟩
  f47 := Tryz.func137.trans (congrArg some (by kernel_rfl))
  f48 := Tryz.func138.trans (congrArg some (by kernel_rfl))
  f49 := ⟨Tryz.f164.name, by decide, Tryz.func164.trans (congrArg some (by kernel_rfl))⟩
  f50 := ⟨Tryz.f165.name, by decide, Tryz.func165.trans (congrArg some (by kernel_rfl))⟩
  f57 := ⟨Tryz.f172.name, by decide, Tryz.func172.trans (congrArg some (by kernel_rfl))⟩
  t0 := Tryz.underlying0
  a0 := Tryz.isAgg0
  z0 := Tryz.sizeOf0
  v0 := Tryz.zeroValue0
  t3 := Tryz.underlying3
  a3 := Tryz.isAgg3
  z3 := Tryz.sizeOf3
  v3 := Tryz.zeroValue3
  t4 := Tryz.underlying4
  a4 := Tryz.isAgg4
  z4 := Tryz.sizeOf4
  v4 := Tryz.zeroValue4
  t5 := Tryz.underlying5
  a5 := Tryz.isAgg5
  z5 := Tryz.sizeOf5
  v5 := Tryz.zeroValue5
  t9 := Tryz.underlying9
  a9 := Tryz.isAgg9
  z9 := Tryz.sizeOf9
  v9 := Tryz.zeroValue9
  t22 := Tryz.underlying22
  a22 := Tryz.isAgg22
  z22 := Tryz.sizeOf22
  v22 := Tryz.zeroValue22
  t25 := Tryz.underlying126
  a25 := Tryz.isAgg126
  z25 := Tryz.sizeOf126
  v25 := Tryz.zeroValue126
  t39 := Tryz.underlying93
  a39 := Tryz.isAgg93
  z39 := Tryz.sizeOf93
  v39 := Tryz.zeroValue93
  t45 := Tryz.underlying186
  a45 := Tryz.isAgg186
  z45 := Tryz.sizeOf186
  v45 := Tryz.zeroValue186
  t46 := Tryz.underlying187
  a46 := Tryz.isAgg187
  z46 := Tryz.sizeOf187
  v46 := Tryz.zeroValue187
  t50 := Tryz.underlying76
  a50 := Tryz.isAgg76
  z50 := Tryz.sizeOf76
  v50 := Tryz.zeroValue76
  t53 := Tryz.underlying32
  a53 := Tryz.isAgg32
  z53 := Tryz.sizeOf32
  v53 := Tryz.zeroValue32
  t55 := Tryz.underlying155
  a55 := Tryz.isAgg155
  z55 := Tryz.sizeOf155
  v55 := Tryz.zeroValue155
  t66 := Tryz.underlying206
  a66 := Tryz.isAgg206
  z66 := Tryz.sizeOf206
  v66 := Tryz.zeroValue206
  t70 := Tryz.underlying210
  a70 := Tryz.isAgg210
  z70 := Tryz.sizeOf210
  v70 := Tryz.zeroValue210
  t76 := Tryz.underlying226
  a76 := Tryz.isAgg226
  z76 := Tryz.sizeOf226
  v76 := Tryz.zeroValue226
  t77 := Tryz.underlying46
  a77 := Tryz.isAgg46
  z77 := Tryz.sizeOf46
  v77 := Tryz.zeroValue46 }
end Go.Proofs
namespace Go.Proofs.YtfcpfffgodljeaaGreat.Ln
open Go.RowKit Go.Sort Go.Lib

theorem tvs3 (x : S3) : (tvs x).length = 3 := rfl
theorem holds_ts {w : World} {g : Nat} {L : List S3} (ht : Ts w g 0 L) (hf : ∀ k, w.frozen? ⟨g, k, none⟩ = false) : HoldsK tvs 3 w g 0 L.toArray := by
  intro j hj
  rw [size_flatK] at hj
  have hjl : j < L.length * 3 := by simpa using hj
  refine ⟨?_, hf _⟩
  rw [id_eq, get_flatK _ _ _ _ hj]
  have hd : j / 3 < L.length := by omega
  have hs : L[j / 3]? = some L[j / 3] := List.getElem?_eq_getElem hd
  have h1 := ht _ _ hs
  have e1 : L.toArray[j / 3]! = L[j / 3] := by simp [hd]
  rw [e1]
  generalize L[j / 3] = s at *
  have hm : j % 3 = 0 ∨ j % 3 = 1 ∨ j % 3 = 2 := by omega
  rcases hm with e | e | e
  · rw [e, show 0 + j = 0 + j / 3 * 3 by omega]; exact h1.c0
  · rw [e, show 0 + j = 0 + j / 3 * 3 + 1 by omega]; exact h1.c1
  · rw [e, show 0 + j = 0 + j / 3 * 3 + 2 by omega]; exact h1.c2
theorem ts_holds {w : World} {g : Nat} {d : Array S3} (h : HoldsK tvs 3 w g 0 d) : Ts w g 0 d.toList := by
  intro j s hs
  have hj : j < d.size := by simpa using (List.getElem?_eq_some_iff.1 hs).1
  have e0 : d[j]! = s := by
    have := (List.getElem?_eq_some_iff.1 hs).2
    simp [hj]
    simpa using this
  have key : ∀ i, i < 3 → w.cell? ⟨g, 0 + j * 3 + i, none⟩ = some (tvs s)[i]! := fun i hi => by
    have h1 := (h (j * 3 + i) (by rw [size_flatK]; omega)).1
    rw [id_eq, get_flatK _ _ _ _ (by omega), show (j * 3 + i) / 3 = j by omega, show (j * 3 + i) % 3 = i by omega, e0, ← Nat.add_assoc] at h1
    exact h1
  exact ⟨key 0 (by decide), key 1 (by decide), key 2 (by decide)⟩
theorem off_sort {w : World} {g n : Nat} {d : Array S3} {os : Array Obj} : Off [g] w (sortWorldK tvs 3 w g 0 n d os) := by
  refine ⟨rfl, rfl, rfl, ?_, fun k hk hg => ?_⟩
  · unfold sortWorldK; rw [size_grow, size_putRowK]; show w.heap.size ≤ w.heap.size + _; omega
  · have hgk : g ≠ k := by simp at hg; omega
    show ((putRowK tvs 3 (Sort.ahead w n) g 0 d).heap ++ os)[k]? = w.heap[k]?
    rw [Array.getElem?_append_left (by rw [size_putRowK]; exact hk)]
    unfold putRowK putRow mapBlock
    simp only [Array.getElem?_modify, if_neg hgk]
    rfl
theorem cmpLays {f : Nat} {cf : S3 → S3 → Int} (hA : ∀ X s t, Calls Tryz.prog f #[tv s, tv t] X fun e X' => e = .returned (.int .i64 (cf s t)) ∧ Grw X X') (g size : Nat) (w : World) : CmpLays Tryz.prog f #[] tvs 3 cf g 0 size w :=
  fun _ _ _ _ x y => (hA _ x y).mono fun _ _ h => h
set_option maxRecDepth 100000 in
theorem sort_some {w : World} {g cap : Nat} {L : List S3} (ht : Ts w g 0 L) (hf : ∀ k, w.frozen? ⟨g, k, none⟩ = false) (hg : g < w.heap.size) (hl : L.length ≤ 8192) (f : Nat) (cf : S3 → S3 → Int) (eg : ∀ args w, (callFunc f args).run Tryz.prog w = .ok (.enter f args) w) (hO : SWO (ltOf cf))
    (hA : ∀ X s t, Calls Tryz.prog f #[tv s, tv t] X fun e X' => e = .returned (.int .i64 (cf s t)) ∧ Grw X X') :
    Calls Tryz.prog 99 #[.slice (some ⟨g, 0, none⟩) L.length cap, .func (.func f) #[] #[]] w fun e w' => e = .returned (.tuple #[]) ∧ ∃ L', L'.Perm L ∧ L'.Pairwise (fun s t => ¬ cf t s < 0) ∧ Ts w' g 0 L' ∧ Off [g] w w' := by
  have h := AnyQ.slices_SortFunc Tryz.sortSp 3 Tryz.isAgg34 Tryz.sizeOf34 tvs tvs3 tvs_one cf hO f #[] g 0 cap L.toArray w eg (cmpLays hA g _ w) (holds_ts ht hf) hg (by simp; omega)
  have hs : L.toArray.size = L.length := by simp
  rw [hs] at h
  refine h.mono ?_
  rintro e w' ⟨rfl, d', n, os, hp, hso, rfl⟩
  refine ⟨rfl, d'.toList, ?_, ?_, ?_, off_sort⟩
  · have h1 := hp.2.2
    have h2 : d'.size = L.length := by rw [hp.1, hs]
    rw [← h2] at h1
    rw [show (d'.extract 0 d'.size) = d' by simp] at h1
    rw [h2, show L.toArray.extract 0 L.length = L.toArray by simp] at h1
    exact h1
  · rw [List.pairwise_iff_getElem]
    intro i j hi hj hij
    have hi' : i < d'.size := by simpa using hi
    have hj' : j < d'.size := by simpa using hj
    have := hso i j (Nat.zero_le _) hij (by rw [← hs, ← hp.1]; exact hj')
    unfold ltOf at this
    simp [hi', hj'] at this
    simp
    exact this
  · exact ts_holds (holdsK_sortWorldK tvs 3 w g 0 n L.toArray d' os hg (holds_ts ht hf) (by rw [hp.1]))
set_option maxRecDepth 100000 in
theorem insC_nil (fv : Value) (w : World) : Calls Tryz.prog 149 #[.slice none 0 0, .int .i64 0, .int .i64 0, fv] w fun e w' => e = .returned (.tuple #[]) ∧ w' = w := by
  go_enter Tryz.func149, Tryz.ntmps149
  go_wp2
  go_loopw [8] (fun vi wr => vi = .int .i64 1 ∧ wr = w) (fun _ _ => 0)
  case atStart => exact ⟨rfl, rfl⟩
  case round =>
    obtain ⟨rfl, rfl⟩ := hrel
    go_wp2
    go_end0
    exact ⟨rfl, rfl⟩
set_option maxRecDepth 100000 in
theorem pdqC_nil (lim : Int) (fv : Value) (w : World) : Calls Tryz.prog 129 #[.slice none 0 0, .int .i64 0, .int .i64 0, .int .i64 lim, fv] w fun e w' => e = .returned (.tuple #[]) ∧ w' = w := by
  go_enter Tryz.func129, Tryz.ntmps129
  go_wp2
  go_loopw [1, 2, 3] (fun s1 s2 s3 wr => s1 = .int .i64 0 ∧ s2 = .int .i64 0 ∧ s3 = .int .i64 lim ∧ wr = w) (fun _ _ _ _ => 0)
  case atStart => exact ⟨rfl, rfl, rfl, rfl⟩
  case round =>
    obtain ⟨rfl, rfl, rfl, rfl⟩ := hrel
    go_wp2_with (go_at_call 149; (with_reducible refine (insC_nil _ _).mono ?_); rintro e w1 ⟨rfl, rfl⟩)
    refine bodyPost_ret (results_none rfl _ _ _) rfl ?_
    exact ⟨rfl, rfl⟩
set_option maxRecDepth 100000 in
theorem sortC_nil (fv : Value) (w : World) : Calls Tryz.prog 99 #[.slice none 0 0, fv] w fun e w' => e = .returned (.tuple #[]) ∧ w' = w := by
  have HL' := Lib.hid (fun X => Tryz.bits_Len 0 X (by omega) (by omega))
  go_enter Tryz.func99, Tryz.ntmps99
  go_wp2_with (first
    | (go_at_call 46; (with_reducible refine (HL'.out _).mono ?_); rintro e w1 ⟨rfl, rfl⟩)
    | (go_at_call 129; (with_reducible refine (pdqC_nil _ _ _).mono ?_); rintro e w1 ⟨rfl, rfl⟩))
  go_end0
  exact ⟨rfl, rfl⟩
/-- what is sorted: a list of its own -/
def Srt (cf : S3 → S3 → Int) (w : World) (L : List S3) (e : Ending) (w' : World) : Prop :=
  ∃ q c L', e = .returned (.slice q L.length c) ∧ L'.Perm L ∧ L'.Pairwise (fun s t => ¬ cf t s < 0) ∧ TsS w' q L' ∧ L.length ≤ c ∧ (∀ x off, q = some ⟨x, off, none⟩ → w.heap.size ≤ x ∧ x < w'.heap.size) ∧ (q = none → c = 0) ∧ Below w.heap.size w w'
set_option maxRecDepth 100000 in
set_option maxHeartbeats 1600000 in
theorem sorted_any (p : Option Addr) (c B : Nat) (L : List S3) (w : World) (hB : B < w.heap.size) (hbox : w.cell? ⟨B, 0, none⟩ = some (.slice p L.length c)) (hL : TsS w p L) (hl : L.length ≤ 8192) (f : Nat) (cf : S3 → S3 → Int) (eg : ∀ args w, (callFunc f args).run Tryz.prog w = .ok (.enter f args) w) (hO : SWO (ltOf cf))
    (hA : ∀ X s t, Calls Tryz.prog f #[tv s, tv t] X fun e X' => e = .returned (.int .i64 (cf s t)) ∧ Grw X X') :
    Calls Tryz.prog 69 #[.func (.func 100) #[] #[.pointer (some ⟨B, 0, none⟩)], .func (.func f) #[] #[]] w (Srt cf w L) := by
  have hC : Calls Tryz.prog 98 #[.func (.func 100) #[] #[.pointer (some ⟨B, 0, none⟩)]] w fun e w' => ∃ v, e = .returned v ∧ w'.ownsRow w.heap.size 34 3 v L.length (flatT L) ∧ Below w.heap.size w w' := by
    rcases hL with h0 | ⟨bb, off, rfl, ht⟩
    · exact collect_any B 0 c B L w hB hB p (fun h => absurd h0 h) hbox (fun j s e => by rw [h0] at e; simp at e) hl
    · by_cases h0 : L = []
      · exact collect_any B 0 c B L w hB hB _ (fun h => absurd h0 h) hbox (fun j s e => by rw [h0] at e; simp at e) hl
      · exact collect_any bb off c B L w hB (TsS.lt (.inr ⟨bb, off, rfl, ht⟩) h0) _ (fun _ => rfl) hbox ht hl
  have HC := Lib.hid hC
  have HS := Lib.hid (fun X g cap (ht : Ts X g 0 L) hf hg => sort_some (w := X) (g := g) (cap := cap) ht hf hg hl f cf eg hO hA)
  obtain ⟨n, hn⟩ : ∃ n, n = L.length := ⟨_, rfl⟩
  have HN := Lib.hid hn
  rw [← hn] at HC HS
  clear hC hbox hL hA hn
  go_enter Tryz.func69, Tryz.ntmps69
  go_upto_region 2 with (go_at_call 98; (refine HC.out.mono ?_); rintro e w1 ⟨v, rfl, hr, hb⟩; have HR := Lib.hid hr; have HB := Lib.hid hb; clear hr hb)
  obtain ⟨hlen, q, cq, rfl, hts, hq1, hq2, -, hq3⟩ := row_ts HR.out
  rcases hq3 with rfl | ⟨g, rfl, hgl⟩
  · obtain ⟨rfl, rfl⟩ := hq1 rfl
    have HT := Lib.hid hts
    clear hts hq1 hq2 hlen
    go_wp2_with (go_at_call 99; (with_reducible refine (sortC_nil _ _).mono ?_); rintro e w2 ⟨rfl, rfl⟩)
    go_ret
    have hL0 : L = [] := List.length_eq_zero_iff.1 HN.out.symm
    unfold Srt
    rw [← HN.out]
    exact ⟨none, 0, [], rfl, by rw [hL0], List.Pairwise.nil, .inl rfl, Nat.le_refl _, fun x off h => (by cases h), fun _ => rfl, HB.out⟩
  · have hge : w.heap.size ≤ g := own_geB HR.out g rfl
    have hf : ∀ k, w1.frozen? ⟨g, k, none⟩ = false := by
      obtain ⟨cur, hc⟩ := row_type HR.out (k := g) rfl
      intro k; simp [World.frozen?, hc]
    have ht : Ts w1 g 0 L := by
      rcases hts with h0 | ⟨b, off, e, h⟩
      · intro j s hj; rw [h0] at hj; simp at hj
      · cases e; exact h
    have HSS := Lib.hid (HS.out w1 g cq ht hf hgl)
    clear hts hq1 hlen ht hf
    go_wp2_with (go_at_call 99; (refine HSS.out.mono ?_); rintro e w2 ⟨rfl, L', h1, h2, h3, h4⟩; have H1 := Lib.hid h1; have H2 := Lib.hid h2; have H3 := Lib.hid h3; have H4 := Lib.hid h4; clear h1 h2 h3 h4)
    go_ret
    unfold Srt
    rw [← HN.out]
    exact ⟨_, cq, L', rfl, H1.out, H2.out.imp (fun h => by omega), .inr ⟨g, 0, rfl, H3.out⟩, hq2, fun x off h => (by cases h; exact ⟨hge, by have := H4.out.size; omega⟩), fun h => (by cases h), HB.out.trans ((H4.out.below HB.out.size (fun k hk => by simp at hk; omega)))⟩
end Go.Proofs.YtfcpfffgodljeaaGreat.Ln
