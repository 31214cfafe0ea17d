/-
  The reference's Bytes: some text of at most 180 bytes.
-/
import Derived.Test.YtjndekmpnihamaaDoorMSan
import Derived.Test.YtjndekmpnihamaaDoorMArgs
import Derived.Test.YtjndekmpnihamaaDoorWMarc8Marks
import Derived.BigQuiet
import Derived.Deep.QuietTactic
namespace Go.Proofs.YtjndekmpnihamaaDoor
open Go.RowKit Go.Shelf
set_option linter.unusedVariables false
set_option linter.unusedSimpArgs false

def partsL : List (List UInt8) := [[97], [69], [32], [49], [64], [126], [27, 40, 83], [27, 40, 78], [27, 40, 66], [226], [232], [254], [161], [181], [200], [136], [10], [31], [65], [120], [121], [96], [127], [255], [175], [27], [27, 40], [40], [83], [235], [107]]
theorem parts_len : ∀ j, (partsL.getD j []).length ≤ 3 := by
  intro j
  by_cases h : j < 31
  · have := List.all_eq_true.1 (show (List.range 31).all (fun j => decide ((partsL.getD j []).length ≤ 3)) = true by decide) j (List.mem_range.2 h)
    simpa using this
  · have : partsL.getD j [] = [] := by
      have hl : partsL.length = 31 := rfl
      simp [List.getD, List.getElem?_eq_none (show partsL.length ≤ j by omega)]
    rw [this]; simp

theorem mod_eq (n m : Int) (h : 0 < m) (h2 : m ≤ 4611686018427387904) : (wrap64 (n.tmod m + m)).tmod m = n % m := by
  have h3 := Int.emod_nonneg n (show m ≠ 0 by omega)
  have h4 := Int.emod_lt_of_pos n h
  have h1 : n.tmod m = n % m ∨ n.tmod m = n % m - m := by
    have := @Int.tmod_eq_emod n m
    split at this
    · left; omega
    · right; omega
  have hw : wrap64 (n.tmod m + m) = n.tmod m + m := by
    apply IntWalk.wrap64_in
    omega
  rw [hw, Int.tmod_eq_emod_of_nonneg (by omega), Int.add_emod_right]
  rcases h1 with h1 | h1
  · rw [h1, Int.emod_emod_of_dvd n (Int.dvd_refl m)]
  · rw [h1, Int.sub_emod_right, Int.emod_emod_of_dvd n (Int.dvd_refl m)]

theorem tdiv4_in (n : Int) (h0 : -9223372036854775808 ≤ n) (h1 : n ≤ 9223372036854775807) : -9223372036854775808 ≤ n.tdiv 4 ∧ n.tdiv 4 ≤ 9223372036854775807 := by
  have h := Int.mul_tdiv_add_tmod n 4
  have h2 : n.tmod 4 = n % 4 ∨ n.tmod 4 = n % 4 - 4 := by
    have := @Int.tmod_eq_emod n 4
    split at this
    · left; omega
    · right; omega
  omega
theorem ret_int {a b : Int} (h : a = b) : Ending.returned (.int .i64 a) = Ending.returned (.int .i64 b) := by rw [h]
set_option maxRecDepth 100000 in
set_option maxHeartbeats 400000 in
theorem mod_q (n m : Int) (h : 0 < m) (h2 : m ≤ 4611686018427387904) (w : World) :
    Calls Tryd.prog 15 #[.int .i64 n, .int .i64 m] w fun e w' => e = .returned (.int .i64 (n % m)) ∧ w' = w := by
  go_enter Tryd.func15, Tryd.ntmps15
  go_wp2
  go_ret
  refine ⟨ret_int ?_, rfl⟩
  exact mod_eq n m h h2

set_option maxRecDepth 100000 in
set_option maxHeartbeats 4000000 in
theorem bytes_c (sl : Value) (l : List Int) (hf : ∀ n ∈ l, -9223372036854775808 ≤ n ∧ n ≤ 9223372036854775807) (w : World) (hr : Reads (Value.int .i64) w sl l) :
    Calls Tryd.prog 13 #[sl] w fun e w' => ∃ out : List UInt8, e = .returned (str out) ∧ out.length ≤ 180 ∧ Below w.heap.size w w' := by
  obtain ⟨a, cap, rfl, hm, hcell⟩ := hr.slice
  unfold maxLen at hm
  have Hcell := Lib.hid hcell
  clear hr hcell
  obtain ⟨W3, hW3⟩ : ∃ W3, w.alloc (.cells #[.string ⟨#[97]⟩, .string ⟨#[69]⟩, .string ⟨#[32]⟩, .string ⟨#[49]⟩, .string ⟨#[64]⟩, .string ⟨#[126]⟩, .string ⟨#[27, 40, 83]⟩, .string ⟨#[27, 40, 78]⟩, .string ⟨#[27, 40, 66]⟩, .string ⟨#[226]⟩, .string ⟨#[232]⟩, .string ⟨#[254]⟩, .string ⟨#[161]⟩, .string ⟨#[181]⟩, .string ⟨#[200]⟩, .string ⟨#[136]⟩, .string ⟨#[10]⟩, .string ⟨#[31]⟩, .string ⟨#[65]⟩, .string ⟨#[120]⟩, .string ⟨#[121]⟩, .string ⟨#[96]⟩, .string ⟨#[127]⟩, .string ⟨#[255]⟩, .string ⟨#[175]⟩, .string ⟨#[27]⟩, .string ⟨#[27, 40]⟩, .string ⟨#[40]⟩, .string ⟨#[83]⟩, .string ⟨#[235]⟩, .string ⟨#[107]⟩] 9) = W3 := ⟨_, rfl⟩
  have hP : ∀ j, j < 31 → W3.cell? ⟨w.heap.size, j, none⟩ = some (str (partsL.getD j [])) := by
    intro j hj
    have h1 : W3.heap[w.heap.size]? = some (.cells (partsL.map str).toArray 9) := by rw [← hW3]; exact World.alloc_heap_new _ _
    rw [cell_at h1]
    have hl : partsL.length = 31 := rfl
    simp [List.getD, List.getElem?_eq_getElem (show j < partsL.length by omega)]
  have hb3 : Below w.heap.size w W3 := by rw [← hW3]; exact below_new w _
  have hg3 : w.heap.size < W3.heap.size := by rw [← hW3]; simp
  have HP := Lib.hid hP
  have Hb3 := Lib.hid hb3
  clear hP hb3
  go_enter Tryd.func13, Tryd.ntmps13
  go_wp2_with fail
  clear hW3
  go_loopw [4, 5] (fun sv i wr => ∃ (k : Nat) (out : List UInt8), k ≤ l.length ∧ k ≤ 60 ∧ i = .int .i64 k ∧ sv = str out ∧ out.length ≤ 3 * k ∧ Below W3.heap.size W3 wr) (fun _ i _ => l.length - (intOf i).toNat)
  case atStart => exact ⟨0, [], Nat.zero_le _, Nat.zero_le _, rfl, rfl, Nat.le_refl _, Below.refl _ _⟩
  case round =>
    obtain ⟨k, out, hk, hk60, rfl, rfl, hol, hbel⟩ := hrel
    by_cases hlt : k < l.length ∧ k < 60
    · obtain ⟨h1, h2⟩ := hlt
      obtain ⟨b, off, rfl, hc, hbl⟩ := Hcell.out k h1
      have hcr : wr.cell? ⟨b, off + k, none⟩ = some (.int .i64 l[k]) := ((hbel.cell (p := ⟨b, off + k, none⟩) (by show b < _; omega)).trans (Hb3.out.cell (p := ⟨b, off + k, none⟩) hbl)).trans hc
      obtain ⟨n, hnn⟩ : ∃ n, l[k] = n := ⟨_, rfl⟩
      have hn := hf l[k] (List.getElem_mem _)
      rw [hnn] at hcr hn
      obtain ⟨hq0, hq1⟩ := tdiv4_in n hn.1 hn.2
      obtain ⟨q, hq⟩ : ∃ q, n.tdiv 4 = q := ⟨_, rfl⟩
      rw [hq] at hq0 hq1
      have i0 : (0 : Int) ≤ (k : Int) := by omega
      have i1 : (k : Int) < (l.length : Int) := by omega
      have i2 : (k : Int) < 60 := by omega
      have Hbel := Lib.hid hbel
      have hcp : ∀ j, j < 31 → wr.cell? ⟨w.heap.size, j, none⟩ = some (str (partsL.getD j [])) := fun j hj => (hbel.cell (p := ⟨w.heap.size, j, none⟩) hg3).trans (HP.out j hj)
      clear hbel hc hnn
      by_cases h4 : n.tmod 4 > 0
      · obtain ⟨J, hJ⟩ : ∃ J : Nat, q % 22 = (J : Int) := ⟨(q % 22).toNat, by omega⟩
        have hJ22 : J < 22 := by omega
        have hcj := hcp J (by omega)
        have hpl := parts_len J
        obtain ⟨P, hP⟩ : ∃ P, partsL.getD J [] = P := ⟨_, rfl⟩
        rw [hP] at hcj hpl
        have ha1 := add_str out P (by omega)
        have hmod : (wrap64 (q.tmod 22 + 22)).tmod 22 = (J : Int) := (mod_eq q 22 (by omega) (by omega)).trans hJ
        have j0 : (0 : Int) ≤ (J : Int) := by omega
        have j1 : (J : Int) < 31 := by omega
        clear hcp hP hJ
        go_wp2
        go_roundw
        case rel => exact ⟨k + 1, out ++ P, h1, h2, by go_num, rfl, by rw [List.length_append]; omega, Hbel.out⟩
        case measure => simp [intOf]; omega
      · have h4' : n.tmod 4 ≤ 0 := by omega
        obtain ⟨J, hJ⟩ : ∃ J : Nat, q % 31 = (J : Int) := ⟨(q % 31).toNat, by omega⟩
        have hJ22 : J < 31 := by omega
        have hcj := hcp J (by omega)
        have hpl := parts_len J
        obtain ⟨P, hP⟩ : ∃ P, partsL.getD J [] = P := ⟨_, rfl⟩
        rw [hP] at hcj hpl
        have ha1 := add_str out P (by omega)
        have hmod : (wrap64 (q.tmod 31 + 31)).tmod 31 = (J : Int) := (mod_eq q 31 (by omega) (by omega)).trans hJ
        have j0 : (0 : Int) ≤ (J : Int) := by omega
        have j1 : (J : Int) < 31 := by omega
        clear hcp hP hJ
        go_wp2
        go_roundw
        case rel => exact ⟨k + 1, out ++ P, h1, h2, by go_num, rfl, by rw [List.length_append]; omega, Hbel.out⟩
        case measure => simp [intOf]; omega
    · by_cases hkl : k < l.length
      · have i1 : (k : Int) < (l.length : Int) := by omega
        have i2 : ¬ ((k : Int) < 60) := by omega
        have Hfin := Lib.hid (Hb3.out.trans (hbel.mono (by omega)))
        clear hbel
        go_wp2
        go_ret
        exact ⟨out, rfl, by omega, Hfin.out⟩
      · have i1 : ¬ ((k : Int) < (l.length : Int)) := by omega
        have Hfin := Lib.hid (Hb3.out.trans (hbel.mono (by omega)))
        clear hbel
        go_wp2
        go_ret
        exact ⟨out, rfl, by omega, Hfin.out⟩
end Go.Proofs.YtjndekmpnihamaaDoor
