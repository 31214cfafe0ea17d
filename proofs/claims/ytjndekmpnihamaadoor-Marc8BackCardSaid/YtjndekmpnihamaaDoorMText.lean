/-
  The reference's Text: some text of at most 180 bytes.
-/
import Derived.Test.YtjndekmpnihamaaDoorMBytes
import Derived.Test.YtjndekmpnihamaaDoorMArgs
import Derived.Test.YtjndekmpnihamaaDoorWMarc8Marks
import Derived.BigQuiet
import Derived.Deep.QuietTactic
namespace Go.Proofs.YtjndekmpnihamaaDoor
open Go.RowKit Go.Shelf
set_option linter.unusedVariables false
set_option linter.unusedSimpArgs false

def partsT : List (List UInt8) := [[97], [69], [32], [49], [64], [126], [195, 169], [197, 187], [197, 177], [206, 177], [206, 169], [207, 130], [209, 142], [208, 175], [208, 171], [111, 204, 129], [101, 204, 136], [120, 204, 147], [197, 129], [197, 147], [226, 130, 172], [194, 152], [10], [204, 129], [209, 138], [208, 170], [230, 151, 165], [255], [195], [226, 130], [27], [127], [204, 145], [194, 128], [239, 191, 189]]
theorem partsT_len : ∀ j, (partsT.getD j []).length ≤ 3 := by
  intro j
  by_cases h : j < 35
  · have := List.all_eq_true.1 (show (List.range 35).all (fun j => decide ((partsT.getD j []).length ≤ 3)) = true by decide) j (List.mem_range.2 h)
    simpa using this
  · have : partsT.getD j [] = [] := by
      have hl : partsT.length = 35 := rfl
      simp [List.getD, List.getElem?_eq_none (show partsT.length ≤ j by omega)]
    rw [this]; simp

theorem tdiv8_in (n : Int) (h0 : -9223372036854775808 ≤ n) (h1 : n ≤ 9223372036854775807) : -9223372036854775808 ≤ n.tdiv 8 ∧ n.tdiv 8 ≤ 9223372036854775807 := by
  have h := Int.mul_tdiv_add_tmod n 8
  have h2 : n.tmod 8 = n % 8 ∨ n.tmod 8 = n % 8 - 8 := by
    have := @Int.tmod_eq_emod n 8
    split at this
    · left; omega
    · right; omega
  omega

set_option maxRecDepth 100000 in
set_option maxHeartbeats 4000000 in
theorem text_c (sl : Value) (l : List Int) (hf : ∀ n ∈ l, -9223372036854775808 ≤ n ∧ n ≤ 9223372036854775807) (w : World) (hr : Reads (Value.int .i64) w sl l) :
    Calls Tryd.prog 9 #[sl] w fun e w' => ∃ out : List UInt8, e = .returned (str out) ∧ out.length ≤ 180 ∧ Below w.heap.size w w' := by
  obtain ⟨a, cap, rfl, hm, hcell⟩ := hr.slice
  unfold maxLen at hm
  have Hcell := Lib.hid hcell
  clear hr hcell
  obtain ⟨W3, hW3⟩ : ∃ W3, w.alloc (.cells #[.string ⟨#[97]⟩, .string ⟨#[69]⟩, .string ⟨#[32]⟩, .string ⟨#[49]⟩, .string ⟨#[64]⟩, .string ⟨#[126]⟩, .string ⟨#[195, 169]⟩, .string ⟨#[197, 187]⟩, .string ⟨#[197, 177]⟩, .string ⟨#[206, 177]⟩, .string ⟨#[206, 169]⟩, .string ⟨#[207, 130]⟩, .string ⟨#[209, 142]⟩, .string ⟨#[208, 175]⟩, .string ⟨#[208, 171]⟩, .string ⟨#[111, 204, 129]⟩, .string ⟨#[101, 204, 136]⟩, .string ⟨#[120, 204, 147]⟩, .string ⟨#[197, 129]⟩, .string ⟨#[197, 147]⟩, .string ⟨#[226, 130, 172]⟩, .string ⟨#[194, 152]⟩, .string ⟨#[10]⟩, .string ⟨#[204, 129]⟩, .string ⟨#[209, 138]⟩, .string ⟨#[208, 170]⟩, .string ⟨#[230, 151, 165]⟩, .string ⟨#[255]⟩, .string ⟨#[195]⟩, .string ⟨#[226, 130]⟩, .string ⟨#[27]⟩, .string ⟨#[127]⟩, .string ⟨#[204, 145]⟩, .string ⟨#[194, 128]⟩, .string ⟨#[239, 191, 189]⟩] 9) = W3 := ⟨_, rfl⟩
  have hP : ∀ j, j < 35 → W3.cell? ⟨w.heap.size, j, none⟩ = some (str (partsT.getD j [])) := by
    intro j hj
    have h1 : W3.heap[w.heap.size]? = some (.cells (partsT.map str).toArray 9) := by rw [← hW3]; exact World.alloc_heap_new _ _
    rw [cell_at h1]
    have hl : partsT.length = 35 := rfl
    simp [List.getD, List.getElem?_eq_getElem (show j < partsT.length by omega)]
  have hb3 : Below w.heap.size w W3 := by rw [← hW3]; exact below_new w _
  have hg3 : w.heap.size < W3.heap.size := by rw [← hW3]; simp
  have HP := Lib.hid hP
  have Hb3 := Lib.hid hb3
  clear hP hb3
  go_enter Tryd.func9, Tryd.ntmps9
  go_wp2_with fail
  clear hW3
  go_loopw [4, 5] (fun sv i wr => ∃ (k : Nat) (out : List UInt8), k ≤ l.length ∧ k ≤ 60 ∧ i = .int .i64 k ∧ sv = str out ∧ out.length ≤ 3 * k ∧ Below W3.heap.size W3 wr) (fun _ i _ => l.length - (intOf i).toNat)
  case atStart => exact ⟨0, [], Nat.zero_le _, Nat.zero_le _, rfl, rfl, Nat.le_refl _, Below.refl _ _⟩
  case round =>
    obtain ⟨k, out, hk, hk60, rfl, rfl, hol, hbel⟩ := hrel
    by_cases hlt : k < l.length ∧ k < 60
    · obtain ⟨h1, h2⟩ := hlt
      obtain ⟨b, off, rfl, hc, hbl⟩ := Hcell.out k h1
      have hcr : wr.cell? ⟨b, off + k, none⟩ = some (.int .i64 l[k]) := ((hbel.cell (p := ⟨b, off + k, none⟩) (by show b < _; omega)).trans (Hb3.out.cell (p := ⟨b, off + k, none⟩) hbl)).trans hc
      obtain ⟨n, hnn⟩ : ∃ n, l[k] = n := ⟨_, rfl⟩
      have hn := hf l[k] (List.getElem_mem _)
      rw [hnn] at hcr hn
      obtain ⟨hq0, hq1⟩ := tdiv8_in n hn.1 hn.2
      obtain ⟨q, hq⟩ : ∃ q, n.tdiv 8 = q := ⟨_, rfl⟩
      rw [hq] at hq0 hq1
      have i0 : (0 : Int) ≤ (k : Int) := by omega
      have i1 : (k : Int) < (l.length : Int) := by omega
      have i2 : (k : Int) < 60 := by omega
      have Hbel := Lib.hid hbel
      have hcp : ∀ j, j < 35 → wr.cell? ⟨w.heap.size, j, none⟩ = some (str (partsT.getD j [])) := fun j hj => (hbel.cell (p := ⟨w.heap.size, j, none⟩) hg3).trans (HP.out j hj)
      clear hbel hc hnn
      by_cases h4 : n.tmod 8 > 0
      · obtain ⟨J, hJ⟩ : ∃ J : Nat, q % 22 = (J : Int) := ⟨(q % 22).toNat, by omega⟩
        have hJ22 : J < 22 := by omega
        have hcj := hcp J (by omega)
        have hpl := partsT_len J
        obtain ⟨P, hP⟩ : ∃ P, partsT.getD J [] = P := ⟨_, rfl⟩
        rw [hP] at hcj hpl
        have ha1 := add_str out P (by omega)
        have hmod : (wrap64 (q.tmod 22 + 22)).tmod 22 = (J : Int) := (mod_eq q 22 (by omega) (by omega)).trans hJ
        have j0 : (0 : Int) ≤ (J : Int) := by omega
        have j1 : (J : Int) < 35 := by omega
        clear hcp hP hJ
        go_wp2
        go_roundw
        case rel => exact ⟨k + 1, out ++ P, h1, h2, by go_num, rfl, by rw [List.length_append]; omega, Hbel.out⟩
        case measure => simp [intOf]; omega
      · have h4' : n.tmod 8 ≤ 0 := by omega
        obtain ⟨J, hJ⟩ : ∃ J : Nat, q % 35 = (J : Int) := ⟨(q % 35).toNat, by omega⟩
        have hJ22 : J < 35 := by omega
        have hcj := hcp J (by omega)
        have hpl := partsT_len J
        obtain ⟨P, hP⟩ : ∃ P, partsT.getD J [] = P := ⟨_, rfl⟩
        rw [hP] at hcj hpl
        have ha1 := add_str out P (by omega)
        have hmod : (wrap64 (q.tmod 35 + 35)).tmod 35 = (J : Int) := (mod_eq q 35 (by omega) (by omega)).trans hJ
        have j0 : (0 : Int) ≤ (J : Int) := by omega
        have j1 : (J : Int) < 35 := by omega
        clear hcp hP hJ
        go_wp2
        go_roundw
        case rel => exact ⟨k + 1, out ++ P, h1, h2, by go_num, rfl, by rw [List.length_append]; omega, Hbel.out⟩
        case measure => simp [intOf]; omega
    · by_cases hkl : k < l.length
      · have i1 : (k : Int) < (l.length : Int) := by omega
        have i2 : ¬ ((k : Int) < 60) := by omega
        have Hfin := Lib.hid (Hb3.out.trans (hbel.mono (by omega)))
        clear hbel
        go_wp2
        go_ret
        exact ⟨out, rfl, by omega, Hfin.out⟩
      · have i1 : ¬ ((k : Int) < (l.length : Int)) := by omega
        have Hfin := Lib.hid (Hb3.out.trans (hbel.mono (by omega)))
        clear hbel
        go_wp2
        go_ret
        exact ⟨out, rfl, by omega, Hfin.out⟩
end Go.Proofs.YtjndekmpnihamaaDoor
