/-
  The document's answer to Squeeze, the least number that is more than the last one, again and again: it is each number once, rising. No condition but those typed at each theorem.
-/
import Derived.Test.YtnangnmnodpfjaaOnceMath
import Derived.Test.YtnangnmnodpfjaaRefLook
namespace Go.Proofs.Ytnangnmnodpfjaa
open Go.RowKit Go.Sort

theorem own_keep {w w' : World} {base n size : Nat} {e : TypeId} {v : Value} {L : List Value} (h : w.ownsRow base e size v n L) (hb : Below w.heap.size w w') : w'.ownsRow base e size v n L := by
  obtain ⟨h1, h2⟩ := h
  refine ⟨h1, ?_⟩
  rcases h2 with h | ⟨g, cap, cur, h3, h4, h5, h6⟩
  · exact .inl h
  · exact .inr ⟨g, cap, cur, h3, h4, (hb.block g (lt_of_block h5)).trans h5, h6⟩

/-- more than each of these -/
def cand (O : List Int) (x : Int) : Prop := ∀ y ∈ O, y < x
/-- where the least number stands, of the first i, that is more than each of O; -1: there is none -/
def BS (xs O : List Int) (i : Nat) (z : Int) : Prop :=
  (z = -1 ∧ ∀ x ∈ xs.take i, ¬ cand O x) ∨ ∃ (a : Nat) (v : Int), z = a ∧ a < i ∧ xs[a]? = some v ∧ cand O v ∧ ∀ x ∈ xs.take i, cand O x → v ≤ x
theorem BS.start (xs O : List Int) : BS xs O 0 (-1) := .inl ⟨rfl, by simp⟩
theorem mem_take_snoc {xs : List Int} {i : Nat} {x y : Int} (h : xs[i]? = some y) : x ∈ xs.take (i + 1) ↔ x ∈ xs.take i ∨ x = y := by
  rw [List.take_add_one, h]
  simp
theorem BS.skip {xs O : List Int} {i : Nat} {z y : Int} (h : BS xs O i z) (hy : xs[i]? = some y) (hc : ¬ cand O y) : BS xs O (i + 1) z := by
  rcases h with ⟨h1, h2⟩ | ⟨a, v, h1, h2, h3, h4, h5⟩
  · exact .inl ⟨h1, fun x hx => ((mem_take_snoc hy).1 hx).elim (h2 x) (fun e => e ▸ hc)⟩
  · exact .inr ⟨a, v, h1, by omega, h3, h4, fun x hx hcx => ((mem_take_snoc hy).1 hx).elim (fun h => h5 x h hcx) (fun e => absurd (e ▸ hcx) hc)⟩
theorem BS.stay {xs O : List Int} {i a : Nat} {y v : Int} (h : BS xs O i (a : Int)) (hy : xs[i]? = some y) (hv : xs[a]? = some v) (hc : ¬ y < v) : BS xs O (i + 1) (a : Int) := by
  rcases h with ⟨h1, _⟩ | ⟨b, u, h1, h2, h3, h4, h5⟩
  · omega
  · have e : a = b := by omega
    subst e
    rw [h3] at hv
    injection hv with hv
    subst hv
    exact .inr ⟨a, u, rfl, by omega, h3, h4, fun x hx hcx => ((mem_take_snoc hy).1 hx).elim (fun h => h5 x h hcx) (fun e => by subst e; omega)⟩
theorem BS.none {xs O : List Int} {i : Nat} {y : Int} (h : BS xs O i (-1)) (hy : xs[i]? = some y) (hc : cand O y) : BS xs O (i + 1) (i : Int) := by
  rcases h with ⟨_, h2⟩ | ⟨a, v, h1, _⟩
  · exact .inr ⟨i, y, rfl, by omega, hy, hc, fun x hx hcx => ((mem_take_snoc hy).1 hx).elim (fun h => absurd hcx (h2 x h)) (fun e => by subst e; omega)⟩
  · omega
theorem BS.less {xs O : List Int} {i a : Nat} {y v : Int} (h : BS xs O i (a : Int)) (hy : xs[i]? = some y) (hv : xs[a]? = some v) (hl : y < v) (hc : cand O y) : BS xs O (i + 1) (i : Int) := by
  rcases h with ⟨h1, _⟩ | ⟨b, u, h1, h2, h3, h4, h5⟩
  · omega
  · have e : a = b := by omega
    subst e
    rw [h3] at hv
    injection hv with hv
    subst hv
    exact .inr ⟨i, y, rfl, by omega, hy, hc, fun x hx hcx => ((mem_take_snoc hy).1 hx).elim (fun h => by have := h5 x h hcx; omega) (fun e => by subst e; omega)⟩
/-- of numbers each once, rising, the last of those so far tells -/
theorem cand_last {L : List Int} (hL : L.Pairwise (· < ·)) {j : Nat} {u : Int} (hj : L[j]? = some u) (x : Int) : cand (L.take (j + 1)) x ↔ u < x := by
  constructor
  · intro h
    exact h u (by rw [List.take_add_one, hj]; simp)
  · intro h y hy
    rw [List.take_add_one, hj] at hy
    simp at hy
    rcases hy with hy | hy
    · obtain ⟨k, hk⟩ := List.mem_iff_getElem?.1 hy
      rw [List.getElem?_take] at hk
      split at hk
      · obtain ⟨h1, h2⟩ := List.getElem?_eq_some_iff.1 hk
        obtain ⟨h3, h4⟩ := List.getElem?_eq_some_iff.1 hj
        have := List.pairwise_iff_getElem.1 hL k j h1 h3 (by omega)
        omega
      · cases hk
    · omega
theorem cand_at {L : List Int} (hL : L.Pairwise (· < ·)) {j t : Nat} {v : Int} (ht : L[t]? = some v) (hjl : j ≤ L.length) : cand (L.take j) v ↔ j ≤ t := by
  cases j with
  | zero => simp [cand]
  | succ j =>
    obtain ⟨u, hu⟩ : ∃ u, L[j]? = some u := ⟨_, List.getElem?_eq_getElem (by omega)⟩
    rw [cand_last hL hu]
    obtain ⟨h1, h2⟩ := List.getElem?_eq_some_iff.1 hu
    obtain ⟨h3, h4⟩ := List.getElem?_eq_some_iff.1 ht
    constructor
    · intro h
      by_cases e : t < j
      · have := List.pairwise_iff_getElem.1 hL t j h3 h1 e
        omega
      · by_cases e2 : t = j
        · subst e2
          omega
        · omega
    · intro h
      have := List.pairwise_iff_getElem.1 hL j t h1 h3 (by omega)
      omega
/-- at the end: there is none just if all are there; else the next one was found -/
theorem BS.done {xs : List Int} {j : Nat} {z : Int} (hj : j ≤ (onceL xs).length) (h : BS xs ((onceL xs).take j) xs.length z) :
    (z = -1 ∧ j = (onceL xs).length) ∨ ∃ (a : Nat) (v : Int), z = a ∧ xs[a]? = some v ∧ (onceL xs)[j]? = some v := by
  obtain ⟨hL, hm⟩ := once_spec xs
  rw [BS, List.take_length] at h
  rcases h with ⟨h1, h2⟩ | ⟨a, v, h1, h2, h3, h4, h5⟩
  · refine .inl ⟨h1, ?_⟩
    by_cases e : j = (onceL xs).length
    · exact e
    · obtain ⟨u, hu⟩ : ∃ u, (onceL xs)[j]? = some u := ⟨_, List.getElem?_eq_getElem (by omega)⟩
      exact absurd ((cand_at hL hu hj).2 (Nat.le_refl _)) (h2 u ((hm u).1 (List.mem_of_getElem? hu)))
  · refine .inr ⟨a, v, h1, h3, ?_⟩
    obtain ⟨t, ht⟩ := List.mem_iff_getElem?.1 ((hm v).2 (List.mem_of_getElem? h3))
    have htl := (List.getElem?_eq_some_iff.1 ht).1
    have hjt := (cand_at hL ht hj).1 h4
    obtain ⟨u, hu⟩ : ∃ u, (onceL xs)[j]? = some u := ⟨_, List.getElem?_eq_getElem (by omega)⟩
    have h6 := h5 u ((hm u).1 (List.mem_of_getElem? hu)) ((cand_at hL hu hj).2 (Nat.le_refl _))
    obtain ⟨k1, k2⟩ := List.getElem?_eq_some_iff.1 hu
    obtain ⟨k3, k4⟩ := List.getElem?_eq_some_iff.1 ht
    by_cases e : j = t
    · subst e; exact ht
    · have := List.pairwise_iff_getElem.1 hL j t k1 k3 (by omega)
      omega

/-- these numbers were told -/
def RSq (w : World) (L : List Int) (e : Ending) (w' : World) : Prop := ∃ q c, e = .returned (.slice q L.length c) ∧ NS w' q .i64 L ∧ Below w.heap.size w w'

set_option maxRecDepth 100000 in
set_option maxHeartbeats 6400000 in
theorem rSqueeze_any (w : World) (p : Option Addr) (cap : Nat) (xs : List Int) (hx : NS w p .i64 xs) (hn : xs.length ≤ 8192) :
    Calls Try.prog 17 #[.slice p xs.length cap] w (RSq w (onceL xs)) := by
  have hcell : ∀ k x, xs[k]? = some x → ∃ b off, p = some ⟨b, off, none⟩ ∧ w.cell? ⟨b, off + k, none⟩ = some (.int .i64 x) := by
    intro k x e
    rcases hx with rfl | ⟨b, off, h1, h2⟩
    · simp at e
    · exact ⟨b, off, h1, h2 k x e⟩
  have HX := Lib.hid hcell
  have HPW := Lib.hid (once_spec xs).1
  have hml := onceL_len xs
  obtain ⟨n, hnn⟩ : ∃ n, n = xs.length := ⟨_, rfl⟩
  obtain ⟨m, hm⟩ : ∃ m, m = (onceL xs).length := ⟨_, rfl⟩
  have HN := Lib.hid hnn
  have HM := Lib.hid hm
  rw [← hnn] at hn hml
  rw [← hm] at hml
  rw [← hnn]
  clear hcell hx hnn hm
  go_enter Try.func17, Try.ntmps17
  go_wp2
  go_loopw [3] (fun v3 wr => ∃ (j : Nat) (p3 : Option Addr) (c3 : Nat), v3 = .slice p3 j c3 ∧ j ≤ m ∧ Hid (wr.ownsRow w.heap.size 2 1 (.slice p3 j c3) j (((onceL xs).take j).map encU)) ∧ Hid (Below w.heap.size w wr)) (fun v3 _ => m - sliceLen v3)
  case atStart => exact ⟨0, none, 0, rfl, Nat.zero_le _, Lib.hid ⟨rfl, .inl ⟨rfl, rfl⟩⟩, Lib.hid (Below.refl _ _)⟩
  case round =>
    obtain ⟨j, p3, c3, rfl, hjm, HR, HB⟩ := hrel
    go_wp2
    go_loopw [4, 5] (fun v4 v5 wr2 => ∃ (i : Nat) (z : Int), v4 = .int .i64 z ∧ v5 = .int .i64 i ∧ i ≤ n ∧ Hid (BS xs ((onceL xs).take j) i z) ∧ Hid (wr2.ownsRow w.heap.size 2 1 (.slice p3 j c3) j (((onceL xs).take j).map encU)) ∧ Hid (Below w.heap.size w wr2)) (fun _ v5 _ => n - (intOf v5).toNat)
    case atStart => exact ⟨0, -1, rfl, rfl, Nat.zero_le _, Lib.hid (BS.start _ _), HR, HB⟩
    case round =>
      clear HR HB
      obtain ⟨i, z, rfl, rfl, hi, HS, HR, HB⟩ := hrel
      by_cases hlt : i < n
      · have hltz : (i : Int) < n := by omega
        obtain ⟨y, hye⟩ : ∃ y, xs[i]? = some y := ⟨_, List.getElem?_eq_getElem (by have := HN.out; omega)⟩
        obtain ⟨b, off, rfl, hc⟩ := HX.out i y hye
        have hcy : wr.cell? ⟨b, off + i, none⟩ = some (.int .i64 y) := (HB.out.cell (World.block_lt_of_cell? w _ hc)).trans hc
        have c1 : ∀ s : Wd (Bw wr), s.w.cell? ⟨b, off + i, none⟩ = some (.int .i64 y) := fun s => Bw.cell s hcy
        have inst : Nonempty (Wd (Bw wr)) := ⟨⟨wr, Below.refl _ _⟩⟩
        have HYE := Lib.hid hye
        clear hc hcy hye
        go_upto_region 6 with fail
        by_cases h0 : j = 0
        · have hca : cand ((onceL xs).take j) y := by subst h0; intro a ha; simp at ha
          have h0z : (j : Int) = 0 := by omega
          have h0b : ((j : Int) == 0) = true := by simpa using h0z
          subst h0
          rcases HS.out with ⟨rfl, -⟩ | ⟨a, v, rfl, ha, hva, -, -⟩
          · have HS2 := Lib.hid (HS.out.none HYE.out hca)
            clear hca
            refine wp_region_wd (Bw wr) (by kernel_rfl) (by kernel_rfl) ((Below.refl _ wr).drew) ?_
            repeat (first | go_big_quiet_step (fail) | quiet_step (fail))
            refine wpQuiet_nil ?_
            rintro _ ⟨s, rfl⟩
            have HRs := Lib.hid (own_keep HR.out s.h)
            have HBs := Lib.hid (HB.out.trans (s.h.mono HB.out.size))
            go_wp2
            go_roundw
            case rel => exact ⟨i + 1, (i : Int), rfl, by go_num, by omega, HS2, HRs, HBs⟩
            case measure => simp [intOf]; omega
          · obtain ⟨b2, off2, hp2, hc2⟩ := HX.out a v hva
            injection hp2 with hp2
            injection hp2 with hp2 hp3
            subst hp2 hp3
            have c2 : ∀ s : Wd (Bw wr), s.w.cell? ⟨b, off + a, none⟩ = some (.int .i64 v) := fun s => Bw.cell s ((HB.out.cell (World.block_lt_of_cell? w _ hc2)).trans hc2)
            have haz : (a : Int) < n := by omega
            by_cases hyv : y < v
            · have HS2 := Lib.hid (HS.out.less HYE.out hva hyv hca)
              clear hca hva hc2
              refine wp_region_wd (Bw wr) (by kernel_rfl) (by kernel_rfl) ((Below.refl _ wr).drew) ?_
              repeat (first | go_big_quiet_step (fail) | quiet_step (fail))
              refine wpQuiet_nil ?_
              rintro _ ⟨s, rfl⟩
              have HRs := Lib.hid (own_keep HR.out s.h)
              have HBs := Lib.hid (HB.out.trans (s.h.mono HB.out.size))
              go_wp2
              go_roundw
              case rel => exact ⟨i + 1, (i : Int), rfl, by go_num, by omega, HS2, HRs, HBs⟩
              case measure => simp [intOf]; omega
            · have HS2 := Lib.hid (HS.out.stay HYE.out hva hyv)
              clear hca hva hc2
              refine wp_region_wd (Bw wr) (by kernel_rfl) (by kernel_rfl) ((Below.refl _ wr).drew) ?_
              repeat (first | go_big_quiet_step (fail) | quiet_step (fail))
              refine wpQuiet_nil ?_
              rintro _ ⟨s, rfl⟩
              have HRs := Lib.hid (own_keep HR.out s.h)
              have HBs := Lib.hid (HB.out.trans (s.h.mono HB.out.size))
              go_wp2
              go_roundw
              case rel => exact ⟨i + 1, (a : Int), rfl, by go_num, by omega, HS2, HRs, HBs⟩
              case measure => simp [intOf]; omega
        · obtain ⟨u, hu⟩ : ∃ u, (onceL xs)[j - 1]? = some u := ⟨_, List.getElem?_eq_getElem (by have := HM.out; omega)⟩
          have hcl := cand_last HPW.out hu y
          rw [Nat.sub_add_cancel (by omega)] at hcl
          have h0b : ((j : Int) == 0) = false := by simp; omega
          have h0z : ¬ (j : Int) = 0 := by omega
          obtain ⟨g, rfl, hNs⟩ : ∃ g, p3 = some ⟨g, 0, none⟩ ∧ NS wr p3 .i64 ((onceL xs).take j) := by
            obtain ⟨pp, cc, h1, h2, h3, h4, h5⟩ := NS.own HR.out
            injection h1 with h1
            subst h1
            rcases h5 with h5 | ⟨g, h5⟩
            · subst h5
              rcases h3 with h3 | ⟨_, _, h3, _⟩
              · rw [h3] at h2
                simp at h2
                omega
              · cases h3
            · exact ⟨g, h5, h5 ▸ h3⟩
          have hcu : wr.cell? ⟨g, j - 1, none⟩ = some (.int .i64 u) := by
            have hu2 : ((onceL xs).take j)[j - 1]? = some u := by rw [List.getElem?_take, if_pos (by omega)]; exact hu
            rcases hNs with h | ⟨g2, o2, h1, h2⟩
            · rw [h] at hu2; simp at hu2
            · injection h1 with h1
              injection h1 with h1 h3
              subst h1 h3
              have := h2 _ _ hu2
              rwa [Nat.zero_add] at this
          have c3 : ∀ s : Wd (Bw wr), s.w.cell? ⟨g, j - 1, none⟩ = some (.int .i64 u) := fun s => Bw.cell s hcu
          have hsub : ((j : Int) - 1) = ((j - 1 : Nat) : Int) := by omega
          have hj1 : j - 1 < j := by omega
          have hj2 : j ≤ 8192 := by omega
          clear hNs hcu hu
          by_cases huy : u < y
          · have hca := hcl.2 huy
            clear hcl
            rcases HS.out with ⟨rfl, -⟩ | ⟨a, v, rfl, ha, hva, -, -⟩
            · have HS2 := Lib.hid (HS.out.none HYE.out hca)
              clear hca
              refine wp_region_wd (Bw wr) (by kernel_rfl) (by kernel_rfl) ((Below.refl _ wr).drew) ?_
              repeat (first | go_big_quiet_step (fail) | quiet_step (fail))
              refine wpQuiet_nil ?_
              rintro _ ⟨s, rfl⟩
              have HRs := Lib.hid (own_keep HR.out s.h)
              have HBs := Lib.hid (HB.out.trans (s.h.mono HB.out.size))
              go_wp2
              go_roundw
              case rel => exact ⟨i + 1, (i : Int), rfl, by go_num, by omega, HS2, HRs, HBs⟩
              case measure => simp [intOf]; omega
            · obtain ⟨b2, off2, hp2, hc2⟩ := HX.out a v hva
              injection hp2 with hp2
              injection hp2 with hp2 hp3
              subst hp2 hp3
              have c2 : ∀ s : Wd (Bw wr), s.w.cell? ⟨b, off + a, none⟩ = some (.int .i64 v) := fun s => Bw.cell s ((HB.out.cell (World.block_lt_of_cell? w _ hc2)).trans hc2)
              have haz : (a : Int) < n := by omega
              by_cases hyv : y < v
              · have HS2 := Lib.hid (HS.out.less HYE.out hva hyv hca)
                clear hca hva hc2
                refine wp_region_wd (Bw wr) (by kernel_rfl) (by kernel_rfl) ((Below.refl _ wr).drew) ?_
                repeat (first | go_big_quiet_step (fail) | quiet_step (fail))
                refine wpQuiet_nil ?_
                rintro _ ⟨s, rfl⟩
                have HRs := Lib.hid (own_keep HR.out s.h)
                have HBs := Lib.hid (HB.out.trans (s.h.mono HB.out.size))
                go_wp2
                go_roundw
                case rel => exact ⟨i + 1, (i : Int), rfl, by go_num, by omega, HS2, HRs, HBs⟩
                case measure => simp [intOf]; omega
              · have HS2 := Lib.hid (HS.out.stay HYE.out hva hyv)
                clear hca hva hc2
                refine wp_region_wd (Bw wr) (by kernel_rfl) (by kernel_rfl) ((Below.refl _ wr).drew) ?_
                repeat (first | go_big_quiet_step (fail) | quiet_step (fail))
                refine wpQuiet_nil ?_
                rintro _ ⟨s, rfl⟩
                have HRs := Lib.hid (own_keep HR.out s.h)
                have HBs := Lib.hid (HB.out.trans (s.h.mono HB.out.size))
                go_wp2
                go_roundw
                case rel => exact ⟨i + 1, (a : Int), rfl, by go_num, by omega, HS2, HRs, HBs⟩
                case measure => simp [intOf]; omega
          · have hnc : ¬ cand ((onceL xs).take j) y := fun h => huy (hcl.1 h)
            have HS2 := Lib.hid (HS.out.skip HYE.out hnc)
            clear hcl hnc
            refine wp_region_wd (Bw wr) (by kernel_rfl) (by kernel_rfl) ((Below.refl _ wr).drew) ?_
            repeat (first | go_big_quiet_step (fail) | quiet_step (fail))
            refine wpQuiet_nil ?_
            rintro _ ⟨s, rfl⟩
            have HRs := Lib.hid (own_keep HR.out s.h)
            have HBs := Lib.hid (HB.out.trans (s.h.mono HB.out.size))
            go_wp2
            go_roundw
            case rel => exact ⟨i + 1, z, rfl, by go_num, by omega, HS2, HRs, HBs⟩
            case measure => simp [intOf]; omega
      · have hltz : ¬ (i : Int) < n := by omega
        have hin : i = xs.length := by have := HN.out; omega
        have hd := HS.out
        rw [hin] at hd
        rcases hd.done (by have := HM.out; omega) with ⟨rfl, hjl⟩ | ⟨a, v, rfl, hva, hvo⟩
        · have hjm2 : j = m := by rw [hjl]; exact HM.out.symm
          clear hjl
          subst hjm2
          go_wp2
          go_ret
          refine ⟨p3, c3, by rw [← HM.out]; rfl, ?_, HB.out⟩
          obtain ⟨pp, cc, h1, h2, h3, _⟩ := NS.own HR.out
          injection h1 with h1
          subst h1
          rw [List.take_of_length_le (by have := HM.out; omega)] at h3
          exact h3
        · obtain ⟨b, off, rfl, hc⟩ := HX.out a v hva
          have hcv : wr.cell? ⟨b, off + a, none⟩ = some (.int .i64 v) := (HB.out.cell (World.block_lt_of_cell? w _ hc)).trans hc
          have haz : (a : Int) < n := by have := (List.getElem?_eq_some_iff.1 hva).1; have := HN.out; omega
          have hjl : j < m := by have := (List.getElem?_eq_some_iff.1 hvo).1; have := HM.out; omega
          have hoA := HR.out.alloc (.cells #[.int .i64 v] 2)
          have HOA := Lib.hid hoA
          have hsz : w.heap.size ≤ wr.heap.size := HB.out.size
          have hlen : ((onceL xs).take j).length = j := by rw [List.length_take]; have := HM.out; omega
          have HLEN := Lib.hid hlen
          have HVO := Lib.hid hvo
          clear hoA hlen hva hvo hd hc hin
          go_wp2_with (at_builtin; refine wpList_oneB rfl (.tmp 47) (.tmp 52) 22 2 .i64 (.int .i64 0) 8 Try.underlying22 Try.info2 rfl (by decide) rfl w.heap.size _ j ((onceL xs).take j) wr.heap.size v rfl rfl (by simp) HOA.out (by omega) (by simp <;> omega) ?_; intro g cap w1 h1 h2 h3; have HG1 := Lib.hid h1; have HG2 := Lib.hid h2; have HG3 := Lib.hid (HB.out.grown ((World.grownBy_alloc wr _ _).trans h3) HB.out.size (own_ge' HR.out)); clear h1 h2 h3)
          go_roundw
          case rel => exact ⟨j + 1, some ⟨g, 0, none⟩, cap, rfl, by omega, Lib.hid (by rw [List.take_add_one, HVO.out]; exact HG2.out.own HG1.out (by have := HLEN.out; simp at this ⊢; omega)), HG3⟩
          case measure => simp [sliceLen]; omega
end Go.Proofs.Ytnangnmnodpfjaa
