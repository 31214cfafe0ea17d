/-
  The walk of SchemaStandard.
-/
import Derived.Test.YtfccpepmjklodaaSSan
import Derived.ChangeKeysEq
namespace Go.Proofs.Ytfccpepmjklodaa
open Go.RowKit Go.Shelf
set_option linter.unusedVariables false
set_option linter.unusedSimpArgs false

theorem stdGet (k i : Nat) (hk : k < stdR.length) (hi : i < 7) : stdArr[k * 7 + i]? = (ruleL stdR[k])[i]? := by
  rw [std_eq]
  exact (List.getElem?_toArray).trans (flat7 stdR k i hk hi)
theorem infoStr : ∃ i, Try.prog.info? 9 = some i := by
  have h : (Try.prog.info? 9).isSome = true := by kernel_rfl
  exact Option.isSome_iff_exists.1 h
theorem und2 : Try.prog.underlying 25 = some (.array 2 9) := by kernel_rfl
theorem und1 : Try.prog.underlying 9 = some .string := by kernel_rfl
theorem eq_pair (p q : List UInt8) (w : World) : (Op.equalIn 9999 25 (.agg #[str p, str q]) (.agg #[str p, str q])).run Try.prog w = .ok true w := by
  obtain ⟨i, hi⟩ := infoStr
  have hp : Try.prog.plainKey 9 = true := by kernel_rfl
  have hc : Try.prog.cellsOf 9 = 1 := by kernel_rfl
  have p0 := run_part_plain (P := Try.prog) w hp (xs := #[str p, str q]) (off := 0) (v := str p) rfl
  have p1 := run_part_plain (P := Try.prog) w hp (xs := #[str p, str q]) (off := 1) (v := str q) rfl
  have s1 : ∀ x : List UInt8, (Op.equalIn 9998 9 (str x) (str x)).run Try.prog w = .ok true w := by
    intro x
    have := run_equalIn_string (P := Try.prog) w 9997 9 ⟨x.toArray⟩ ⟨x.toArray⟩ und1
    simpa using this
  rw [run_equalIn_array (P := Try.prog) w 9998 _ _ und2 hi, hc]
  show (Op.eqItems 9998 9 1 _ _ [0, 1]).run _ _ = _
  simp only [Op.eqItems, Sem.run_bind, Nat.zero_mul, Nat.one_mul, p0, p1, s1, Result.andThen_ok, Bool.not_true, Bool.false_eq_true, if_false, Sem.run_pure]
structure StdW (w wr : World) (ab bb k : Nat) : Prop where
  bel : Below w.heap.size w wr
  bat : wr.heap[bb]? = some (.cells stdArr 27 (0, 0))
  hne : ab ≠ bb
  la : w.heap.size ≤ ab
  aat : ∃ arr, wr.heap[ab]? = some (.cells arr 27 (0, 0)) ∧ ∀ j, 7 * k ≤ j → arr[j]? = stdArr[j]?
theorem StdW.drew {w wr : World} {ab bb k : Nat} (h : StdW w wr ab bb k) : StdW w wr.drew ab bb k := ⟨h.bel.drew, h.bat, h.hne, h.la, h.aat⟩
theorem StdW.next {w wr : World} {ab bb k : Nat} (h : StdW w wr ab bb k) (v : Value) : StdW w (wr.setCell ⟨ab, k * 7, none⟩ v) ab bb (k + 1) := by
  obtain ⟨arr, h1, h2⟩ := h.aat
  refine ⟨below_set h.bel h.la _ _, (Below.heap_setCell _ _ _ _ (fun e => h.hne e.symm)).trans h.bat, h.hne, h.la, _, blk_set h1 _ _, fun j hj => ?_⟩
  rw [Array.getElem?_setIfInBounds_ne (by omega)]
  exact h2 j (by omega)
theorem StdW.froz {w wr : World} {ab bb k : Nat} (h : StdW w wr ab bb k) (j : Nat) : wr.frozen? ⟨ab, j, none⟩ = false := by
  obtain ⟨arr, h1, _⟩ := h.aat
  exact Lib.frozen_of_heap h1 j
theorem StdW.acell {w wr : World} {ab bb k : Nat} (h : StdW w wr ab bb k) (i : Nat) (hk : k < stdR.length) (hi : i < 7) : wr.cell? ⟨ab, k * 7 + i, none⟩ = (ruleL stdR[k])[i]? := by
  obtain ⟨arr, h1, h2⟩ := h.aat
  rw [cell_at h1, h2 _ (by omega), stdGet k i hk hi]
theorem StdW.bcell {w wr : World} {ab bb k : Nat} (h : StdW w wr ab bb k) (i : Nat) (hk : k < stdR.length) (hi : i < 7) : wr.cell? ⟨bb, k * 7 + i, none⟩ = (ruleL stdR[k])[i]? := by
  rw [cell_at h.bat, stdGet k i hk hi]
set_option maxRecDepth 100000 in
set_option maxHeartbeats 8000000 in
theorem schemaStandard_c (w : World) : Calls Try.prog 3 #[] w (fun e w' => e = .returned (.bool true) ∧ Below w.heap.size w w') := by
  have HS := Lib.hid (sanity_c w)
  have EP := eq_pair
  go_enter Try.func3, Try.ntmps3
  go_wp2_with fail
  refine HS.out.mono ?_
  rintro e w1 ⟨rfl, hb1⟩
  clear HS
  go_wp2_with fail
  refine (standard_c w1).mono ?_
  rintro e w2 ⟨rfl, ha2, hb2⟩
  go_wp2_with fail
  refine (refStandard_c w2).mono ?_
  rintro e w3 ⟨bb, rfl, hl3, hs3, hb3⟩
  have hlt := lt_at ha2
  have HW := Lib.hid (show StdW w w3 w1.heap.size bb 0 from ⟨below_tr (below_tr hb1 hb2) hb3, hs3, by omega, hb1.size, _, heap_below hb3 (Nat.le_refl _) ha2, fun _ _ => rfl⟩)
  obtain ⟨ab, hab⟩ : ∃ k, w1.heap.size = k := ⟨_, rfl⟩
  rw [hab] at HW ⊢
  clear hb1 ha2 hb2 hl3 hs3 hb3 hlt hab
  go_wp2_with fail
  go_loopw [4, 16] (fun v4 iv wr => ∃ k : Nat, k ≤ 24 ∧ iv = .int .i64 k ∧ StdW w wr ab bb k) (fun _ iv _ => 24 - (intOf iv).toNat)
  case atStart => exact ⟨0, Nat.zero_le _, rfl, HW.out⟩
  case round =>
    obtain ⟨k, hk, rfl, hW⟩ := hrel
    clear HW
    by_cases hlt : k < 24
    · have i0 : (0 : Int) ≤ (k : Int) := by omega
      have i1 : (k : Int) < 24 := by omega
      have hk' : k < stdR.length := hlt
      have a0 := hW.acell 0 hk' (by decide)
      have a1 := hW.acell 1 hk' (by decide)
      have a2 := hW.acell 2 hk' (by decide)
      have a3 := hW.acell 3 hk' (by decide)
      have a4 := hW.acell 4 hk' (by decide)
      have a5 := hW.acell 5 hk' (by decide)
      have a6 := hW.acell 6 hk' (by decide)
      have b0 := hW.bcell 0 hk' (by decide)
      have b1 := hW.bcell 1 hk' (by decide)
      have b2 := hW.bcell 2 hk' (by decide)
      have b3 := hW.bcell 3 hk' (by decide)
      have b4 := hW.bcell 4 hk' (by decide)
      have b5 := hW.bcell 5 hk' (by decide)
      have b6 := hW.bcell 6 hk' (by decide)
      have fz := hW.froz (k * 7)
      have HW := Lib.hid hW
      obtain ⟨r, hr⟩ : ∃ r, stdR[k] = r := ⟨_, rfl⟩
      rw [hr] at a0 a1 a2 a3 a4 a5 a6 b0 b1 b2 b3 b4 b5 b6
      obtain ⟨t, m, o, p, q, c, s⟩ := r
      simp only [ruleL, List.getElem?_cons_zero, List.getElem?_cons_succ, Nat.add_zero] at a0 a1 a2 a3 a4 a5 a6 b0 b1 b2 b3 b4 b5 b6
      clear hr hW hk'
      go_wp2_with fail
      go_region
      have HN := Lib.hid (HW.out.drew.next (.string ⟨#[53, 53, 53]⟩))
      go_wp2
      go_roundw
      case rel => exact ⟨k + 1, by omega, by go_num, HN.out⟩
      case measure => simp [intOf]; omega
    · have i1 : ¬ (k : Int) < 24 := by omega
      go_wp2_with fail
      refine (standard_c wr).mono ?_
      rintro e w5 ⟨rfl, hc5, hb5⟩
      have hb5b := heap_below hb5 (Nat.le_refl _) hW.bat
      have HB := Lib.hid ((below_tr hW.bel hb5).drew)
      obtain ⟨cb, hcb⟩ : ∃ k, wr.heap.size = k := ⟨_, rfl⟩
      rw [hcb] at hc5 ⊢
      have c0 : w5.cell? ⟨cb, 0, none⟩ = some (str [48, 48, 49]) := by rw [cell_at hc5]; rfl
      have c1 : w5.cell? ⟨cb, 1, none⟩ = some (.bool true) := by rw [cell_at hc5]; rfl
      have c2 : w5.cell? ⟨cb, 2, none⟩ = some (.bool true) := by rw [cell_at hc5]; rfl
      have c3 : w5.cell? ⟨cb, 3, none⟩ = some (.string ⟨#[]⟩) := by rw [cell_at hc5]; rfl
      have c4 : w5.cell? ⟨cb, 4, none⟩ = some (.string ⟨#[]⟩) := by rw [cell_at hc5]; rfl
      have c5 : w5.cell? ⟨cb, 5, none⟩ = some (.string ⟨#[]⟩) := by rw [cell_at hc5]; rfl
      have c6 : w5.cell? ⟨cb, 6, none⟩ = some (.string ⟨#[]⟩) := by rw [cell_at hc5]; rfl
      have c161 : w5.cell? ⟨cb, 161, none⟩ = some (.string ⟨#[57, 120, 120]⟩) := by rw [cell_at hc5]; rfl
      have c162 : w5.cell? ⟨cb, 162, none⟩ = some (.bool false) := by rw [cell_at hc5]; rfl
      have c163 : w5.cell? ⟨cb, 163, none⟩ = some (.bool false) := by rw [cell_at hc5]; rfl
      have c164 : w5.cell? ⟨cb, 164, none⟩ = some (.string ⟨#[48, 49, 50, 51, 52, 53, 54, 55, 56, 57, 32]⟩) := by rw [cell_at hc5]; rfl
      have c165 : w5.cell? ⟨cb, 165, none⟩ = some (.string ⟨#[48, 49, 50, 51, 52, 53, 54, 55, 56, 57, 32]⟩) := by rw [cell_at hc5]; rfl
      have c166 : w5.cell? ⟨cb, 166, none⟩ = some (.string ⟨#[48, 49, 50, 51, 52, 53, 54, 55, 56, 57, 97, 98, 99, 100, 101, 102, 103, 104, 105, 106, 107, 108, 109, 110, 111, 112, 113, 114, 115, 116, 117, 118, 119, 120, 121, 122]⟩) := by rw [cell_at hc5]; rfl
      have c167 : w5.cell? ⟨cb, 167, none⟩ = some (.string ⟨#[]⟩) := by rw [cell_at hc5]; rfl
      have b0 : w5.cell? ⟨bb, 0, none⟩ = some (str [48, 48, 49]) := by rw [cell_at hb5b]; rfl
      have b1 : w5.cell? ⟨bb, 1, none⟩ = some (.bool true) := by rw [cell_at hb5b]; rfl
      have b2 : w5.cell? ⟨bb, 2, none⟩ = some (.bool true) := by rw [cell_at hb5b]; rfl
      have b3 : w5.cell? ⟨bb, 3, none⟩ = some (.string ⟨#[]⟩) := by rw [cell_at hb5b]; rfl
      have b4 : w5.cell? ⟨bb, 4, none⟩ = some (.string ⟨#[]⟩) := by rw [cell_at hb5b]; rfl
      have b5 : w5.cell? ⟨bb, 5, none⟩ = some (.string ⟨#[]⟩) := by rw [cell_at hb5b]; rfl
      have b6 : w5.cell? ⟨bb, 6, none⟩ = some (.string ⟨#[]⟩) := by rw [cell_at hb5b]; rfl
      have b161 : w5.cell? ⟨bb, 161, none⟩ = some (.string ⟨#[57, 120, 120]⟩) := by rw [cell_at hb5b]; rfl
      have b162 : w5.cell? ⟨bb, 162, none⟩ = some (.bool false) := by rw [cell_at hb5b]; rfl
      have b163 : w5.cell? ⟨bb, 163, none⟩ = some (.bool false) := by rw [cell_at hb5b]; rfl
      have b164 : w5.cell? ⟨bb, 164, none⟩ = some (.string ⟨#[48, 49, 50, 51, 52, 53, 54, 55, 56, 57, 32]⟩) := by rw [cell_at hb5b]; rfl
      have b165 : w5.cell? ⟨bb, 165, none⟩ = some (.string ⟨#[48, 49, 50, 51, 52, 53, 54, 55, 56, 57, 32]⟩) := by rw [cell_at hb5b]; rfl
      have b166 : w5.cell? ⟨bb, 166, none⟩ = some (.string ⟨#[48, 49, 50, 51, 52, 53, 54, 55, 56, 57, 97, 98, 99, 100, 101, 102, 103, 104, 105, 106, 107, 108, 109, 110, 111, 112, 113, 114, 115, 116, 117, 118, 119, 120, 121, 122]⟩) := by rw [cell_at hb5b]; rfl
      have b167 : w5.cell? ⟨bb, 167, none⟩ = some (.string ⟨#[]⟩) := by rw [cell_at hb5b]; rfl
      clear hc5 hb5b hb5 hW hcb
      go_wp2_with fail
      go_region
      go_wp2
      go_ret
      exact ⟨rfl, HB.out⟩
end Go.Proofs.Ytfccpepmjklodaa
