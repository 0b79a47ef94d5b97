/-
  awake, which every statement of the layer calls: the examples of the chapter hold, wherever the table of powers of ten reads as it is laid.
-/
import Derived.Test.YtdlijnkbpnhpoaaDoorParsed
import Derived.Test.YtdlijnkbpnhpoaaDoorText
namespace Go.Proofs.YtdlijnkbpnhpoaaDoor
open Go.RowKit

def S0 : ByteArray := ⟨#[51, 52, 48, 50, 56, 50, 51, 54, 54, 57, 50, 48, 57, 51, 56, 52, 54, 51, 52, 54, 51, 51, 55, 52, 54, 48, 55, 52, 51, 49, 55, 54, 56, 50, 49, 49, 52, 53, 53]⟩
def S1 : ByteArray := ⟨#[51, 52, 48, 50, 56, 50, 51, 54, 54, 57, 50, 48, 57, 51, 56, 52, 54, 51, 52, 54, 51, 51, 55, 52, 54, 48, 55, 52, 51, 49, 55, 54, 56, 50, 49, 49, 52, 53, 54]⟩
def ST : ByteArray := ⟨#[51, 52, 48, 50, 56, 50, 51, 54, 54, 57, 50, 48, 57, 51, 56, 52, 54, 51, 52, 50, 54, 52, 56, 49, 49, 49, 57, 50, 56, 52, 51, 52, 57, 49, 48, 56, 50, 50, 53]⟩

theorem mulmm (w : World) : Calls Tryd.prog 19 #[.int .u64 18446744073709551615, .int .u64 18446744073709551615] w fun e w' => e = .returned (.agg #[.int .u64 18446744073709551614, .int .u64 1]) ∧ Below w.heap.size w w' := by
  refine (mul_int 18446744073709551615 18446744073709551615 w (by decide) (by decide) (by decide) (by decide)).mono ?_
  rintro e w' ⟨rfl, hb⟩
  have e1 : hi ((18446744073709551615 : Int).toNat * (18446744073709551615 : Int).toNat) = 18446744073709551614 := by decide +kernel
  have e2 : lo ((18446744073709551615 : Int).toNat * (18446744073709551615 : Int).toNat) = 1 := by decide +kernel
  rw [e1, e2]
  exact ⟨rfl, hb⟩
theorem addmm (w : World) : Calls Tryd.prog 10 #[.agg #[.int .u64 18446744073709551615, .int .u64 18446744073709551615], .agg #[.int .u64 0, .int .u64 1]] w fun e w' => e = .returned (.tuple #[.agg #[.int .u64 0, .int .u64 0], .bool false]) ∧ Below w.heap.size w w' := by
  have h := add_no 340282366920938463463374607431768211455 1 w (by decide +kernel)
  have e1 : hi 340282366920938463463374607431768211455 = 18446744073709551615 := by decide +kernel
  have e2 : lo 340282366920938463463374607431768211455 = 18446744073709551615 := by decide +kernel
  have e3 : hi 1 = 0 := by decide +kernel
  have e4 : lo 1 = 1 := by decide +kernel
  rw [e1, e2, e3, e4] at h
  exact h
theorem parseMax (w : World) : Calls Tryd.prog 17 #[.string S0] w fun e w' => e = .returned (.tuple #[.agg #[.int .u64 18446744073709551615, .int .u64 18446744073709551615], .int .i64 0]) ∧ Below w.heap.size w w' := by
  have h := parse_any S0 w (by decide +kernel)
  have e1 : hi (parR S0.data.toList) = 18446744073709551615 := by decide +kernel
  have e2 : lo (parR S0.data.toList) = 18446744073709551615 := by decide +kernel
  have e3 : parE S0.data.toList = 0 := by decide +kernel
  rw [e1, e2, e3] at h
  exact h
theorem parseBad (s : ByteArray) (w : World) (h0 : s.size ≤ 140737488355328) (h1 : parR s.data.toList = 0) (h2 : parE s.data.toList = 10) : Calls Tryd.prog 17 #[.string s] w fun e w' => e = .returned (.tuple #[.agg #[.int .u64 0, .int .u64 0], .int .i64 10]) ∧ Below w.heap.size w w' := by
  have h := parse_any s w h0
  rw [h1, h2, hi_zero, lo_zero] at h
  exact h
def sAt (k : Nat) : ByteArray := match k with | 0 => S1 | 1 => ⟨#[48, 48, 55]⟩ | 2 => ⟨#[]⟩ | 3 => ⟨#[45, 49]⟩ | _ => ⟨#[49, 32]⟩
theorem parseAt (k : Nat) (hk : k < 5) (w : World) : Calls Tryd.prog 17 #[.string (sAt k)] w fun e w' => e = .returned (.tuple #[.agg #[.int .u64 0, .int .u64 0], .int .i64 10]) ∧ Below w.heap.size w w' := by
  match k, hk with
  | 0, _ => exact parseBad S1 w (by decide +kernel) (by decide +kernel) (by decide +kernel)
  | 1, _ => exact parseBad ⟨#[48, 48, 55]⟩ w (by decide +kernel) (by decide +kernel) (by decide +kernel)
  | 2, _ => exact parseBad ⟨#[]⟩ w (by decide +kernel) (by decide +kernel) (by decide +kernel)
  | 3, _ => exact parseBad ⟨#[45, 49]⟩ w (by decide +kernel) (by decide +kernel) (by decide +kernel)
  | 4, _ => exact parseBad ⟨#[49, 32]⟩ w (by decide +kernel) (by decide +kernel) (by decide +kernel)
theorem txtSq : txt 340282366920938463426481119284349108225 = ST.data.toList := by decide +kernel
theorem textSq (w : World) (htab : Lib.TabIs Tryd.prog w "internal/strconv.uint64pow10" .u64 Lib.pow10Tab) : Calls Tryd.prog 23 #[.agg #[.int .u64 18446744073709551614, .int .u64 1]] w fun e w' => e = .returned (.string ⟨#[51, 52, 48, 50, 56, 50, 51, 54, 54, 57, 50, 48, 57, 51, 56, 52, 54, 51, 52, 50, 54, 52, 56, 49, 49, 49, 57, 50, 56, 52, 51, 52, 57, 49, 48, 56, 50, 50, 53]⟩) ∧ Below w.heap.size w w' := by
  have h := text_any 340282366920938463426481119284349108225 w (by decide +kernel) htab
  have e1 : hi 340282366920938463426481119284349108225 = 18446744073709551614 := by decide +kernel
  have e2 : lo 340282366920938463426481119284349108225 = 1 := by decide +kernel
  rw [e1, e2, txtSq] at h
  exact h
theorem diffMax (w : World) : Calls Tryd.prog 21 #[.int .i64 (-9223372036854775808), .int .i64 9223372036854775807] w fun e w' => e = .returned (.int .u64 18446744073709551615) ∧ w = w' := by
  have h := diff_yes (-9223372036854775808) 9223372036854775807 w (by decide) (by decide) (by decide)
  exact h
theorem diffMin (w : World) : Calls Tryd.prog 21 #[.int .i64 9223372036854775807, .int .i64 (-9223372036854775808)] w fun e w' => e = .returned (.int .u64 0) ∧ w = w' :=
  diff_no _ _ w (by decide)

set_option maxRecDepth 100000 in
set_option maxHeartbeats 2000000 in
/-- awake: the chapter's examples hold. -/
theorem awake_any (w : World) (htab : Lib.TabIs Tryd.prog w "internal/strconv.uint64pow10" .u64 Lib.pow10Tab) :
    Calls Tryd.prog 9 #[] w fun e w' => e = .returned (.bool true) ∧ Below w.heap.size w w' := by
  have HT := Lib.hid htab
  clear htab
  go_enter Tryd.func9, Tryd.ntmps9
  go_wp2_with fail
  refine (mulmm _).mono ?_
  rintro e w1 ⟨rfl, hb1⟩
  have hz1 := hb1.size
  go_wp2_with fail
  refine (most_any _).mono ?_
  rintro e w2 ⟨rfl, hb2⟩
  have a0 := keepc hb2 (p := ⟨w1.heap.size, 0, none⟩) (new0 _ _ _ rfl)
  have a1 := keepc hb2 (p := ⟨w1.heap.size, 1, none⟩) (new1 _ _ _ rfl)
  have HB2 : Below w.heap.size w w2 := (hb1.alloc hz1 _).trans (hb2.mono (by simp; omega))
  have hz2 : w1.heap.size + 1 ≤ w2.heap.size := Nat.le_trans (by simp) hb2.size
  clear hb1 hb2
  go_wp2_with fail
  refine (of_any _ _).mono ?_
  rintro e w3 ⟨rfl, hb3⟩
  replace a0 := keepc hb3 a0
  replace a1 := keepc hb3 a1
  have hz3 := hb3.size
  have HB3 := HB2.trans (hb3.mono (by omega))
  clear hb3 HB2
  go_wp2_with fail
  refine (addmm _).mono ?_
  rintro e w4 ⟨rfl, hb4⟩
  replace a0 := keepc hb4 a0
  replace a1 := keepc hb4 a1
  have hz4 := hb4.size
  have HB4 := HB3.trans (hb4.mono (by omega))
  clear hb4 HB3
  go_wp2_with fail
  refine (parseMax _).mono ?_
  rintro e w5 ⟨rfl, hb5⟩
  replace a0 := keepc hb5 (allc a0)
  replace a1 := keepc hb5 (allc a1)
  have hz5 : w4.heap.size + 1 ≤ w5.heap.size := Nat.le_trans (by simp) hb5.size
  have HB5 := (HB4.alloc (by omega) _).trans (hb5.mono (by simp; omega))
  clear hb5 HB4
  have b0 := new0 w5 (.int .u64 18446744073709551615) (.int .u64 18446744073709551615) rfl
  have b1 := new1 w5 (.int .u64 18446744073709551615) (.int .u64 18446744073709551615) rfl
  replace a0 := allc (o := .cells #[.int .u64 18446744073709551615, .int .u64 18446744073709551615] 24) a0
  replace a1 := allc (o := .cells #[.int .u64 18446744073709551615, .int .u64 18446744073709551615] 24) a1
  go_wp2_with fail
  obtain ⟨X, hX⟩ : ∃ X, X = ((w5.alloc (Obj.cells #[Value.int IntKind.u64 18446744073709551615, Value.int IntKind.u64 18446744073709551615] 24)).alloc (Obj.cells #[.string S1, .string ⟨#[48, 48, 55]⟩, .string ⟨#[]⟩, .string ⟨#[45, 49]⟩, .string ⟨#[49, 32]⟩] 9)) := ⟨_, rfl⟩
  have hcs : ∀ k, k < 5 → X.cell? ⟨w5.heap.size + 1, k, none⟩ = some (.string (sAt k)) := fun k hk => by
    rw [hX]
    have e : w5.heap.size + 1 = (w5.alloc (Obj.cells #[Value.int IntKind.u64 18446744073709551615, Value.int IntKind.u64 18446744073709551615] 24)).heap.size := by simp
    rw [e, World.cell?_alloc_new]
    match k, hk with
    | 0, _ => rfl
    | 1, _ => rfl
    | 2, _ => rfl
    | 3, _ => rfl
    | 4, _ => rfl
  have A0 : X.cell? ⟨w1.heap.size, 0, none⟩ = some (.int .u64 18446744073709551614) := by rw [hX]; exact allc a0
  have A1 : X.cell? ⟨w1.heap.size, 1, none⟩ = some (.int .u64 1) := by rw [hX]; exact allc a1
  have B0 : X.cell? ⟨w5.heap.size, 0, none⟩ = some (.int .u64 18446744073709551615) := by rw [hX]; exact allc b0
  have B1 : X.cell? ⟨w5.heap.size, 1, none⟩ = some (.int .u64 18446744073709551615) := by rw [hX]; exact allc b1
  have HX : Below w.heap.size w X := by rw [hX]; exact (HB5.alloc (by omega) _).alloc (by simp; omega) _
  clear a0 a1 b0 b1 HB5
  have HC := Lib.hid hcs
  clear hcs
  change Code.wp _ _ _ _ ((w5.alloc (Obj.cells #[Value.int IntKind.u64 18446744073709551615, Value.int IntKind.u64 18446744073709551615] 24)).alloc (Obj.cells #[.string S1, .string ⟨#[48, 48, 55]⟩, .string ⟨#[]⟩, .string ⟨#[45, 49]⟩, .string ⟨#[49, 32]⟩] 9))
  rw [← hX]
  clear hX
  go_loopw [23, 7, 8, 9] (fun i _ _ _ wr => ∃ k : Nat, k ≤ 5 ∧ i = .int .i64 k ∧ Below X.heap.size X wr) (fun i _ _ _ _ => 5 - (intOf i).toNat)
  case atStart => exact ⟨0, by omega, rfl, Below.refl _ _⟩
  case round =>
    obtain ⟨k, hk, rfl, hbr⟩ := hrel
    by_cases hlt : k < 5
    · have hck := keepc hbr (HC.out k hlt)
      have hlt' : (k : Int) < 5 := by omega
      have hszr := hbr.size
      generalize hs : sAt k = sk at hck
      have HS := Lib.hid hs
      clear hs
      go_wp2_with fail
      refine (show Calls Tryd.prog 17 #[.string sk] _ _ from by rw [← HS.out]; exact parseAt k hlt _).mono ?_
      rintro e w6 ⟨rfl, hb6⟩
      have hz6 := hb6.size
      go_wp2
      exact ⟨⟨k + 1, by omega, by go_num, (hbr.trans (hb6.mono hszr)).alloc (by omega) _⟩, by simp [intOf]; omega⟩
    · obtain rfl : k = 5 := by omega
      have A0' := keepc hbr A0
      have A1' := keepc hbr A1
      have B0' := keepc hbr B0
      have B1' := keepc hbr B1
      have hszr := hbr.size
      have HTr := Lib.hid (tab_below HT.out (HX.trans (hbr.mono HX.size)))
      have HXr := HX.trans (hbr.mono HX.size)
      clear A0 A1 B0 B1 HX hbr HC
      go_wp2_with fail
      go_region_held3 (fun w' => w'.cell? ⟨w1.heap.size, 0, none⟩ = some (.int .u64 18446744073709551614) ∧ w'.cell? ⟨w1.heap.size, 1, none⟩ = some (.int .u64 1) ∧ w'.cell? ⟨w5.heap.size, 0, none⟩ = some (.int .u64 18446744073709551615) ∧ w'.cell? ⟨w5.heap.size, 1, none⟩ = some (.int .u64 18446744073709551615)) (first | exact ⟨A0', A1', B0', B1'⟩ | exact ⟨k1, k2, k3, k4⟩ | exact ⟨m1, m2, m3, m4⟩)
        (first
          | (go_at_call 23; refine (textSq _ (by exact HTr.out)).mono ?_; rintro e w6 ⟨rfl, hb6⟩; have k1 := keepc hb6 A0'; have k2 := keepc hb6 A1'; have k3 := keepc hb6 B0'; have k4 := keepc hb6 B1'; clear A0' A1' B0' B1')
          | (go_at_call 21; ((with_reducible refine (diffMax _).mono ?_); rintro e w7 ⟨rfl, rfl⟩))
          | (go_at_call 21; ((with_reducible refine (diffMin _).mono ?_); rintro e w8 ⟨rfl, rfl⟩))
          | (go_at_call 25; refine (most_any _).mono ?_; rintro e w9 ⟨rfl, hb9⟩; have m1 := keepc hb9 k1; have m2 := keepc hb9 k2; have m3 := keepc hb9 k3; have m4 := keepc hb9 k4))
      go_wp2_with fail
      go_ret
      exact ⟨rfl, (HXr.drew.trans (hb6.mono HXr.size)).trans (hb9.mono (Nat.le_trans HXr.size hb6.size))⟩
end Go.Proofs.YtdlijnkbpnhpoaaDoor
