/-
  The reference's Mod, Text and Tag.
-/
import Derived.Test.YtfccpepmjklodaaSRawF
namespace Go.Proofs.Ytfccpepmjklodaa
open Go.RowKit Go.Shelf
set_option linter.unusedVariables false
set_option linter.unusedSimpArgs false

/-- An int. -/
def Fits (n : Int) : Prop := -9223372036854775808 ≤ n ∧ n ≤ 9223372036854775807
theorem wrap_fits (x : Int) : Fits (IntKind.i64.wrap x) := by
  unfold Fits
  rw [IntKind.wrap_i64]
  omega
theorem tdiv_fits {a b : Int} (h : Fits a) (hb : 0 < b) : Fits (a.tdiv b) := by
  unfold Fits at *
  rcases Int.le_total 0 a with h0 | h0
  · rw [Int.tdiv_eq_ediv_of_nonneg h0]
    have h1 := Int.ediv_nonneg h0 (Int.le_of_lt hb)
    have h2 := Int.ediv_le_self b h0
    omega
  · obtain ⟨c, rfl⟩ : ∃ c, a = -c := ⟨-a, by omega⟩
    rw [Int.neg_tdiv, Int.tdiv_eq_ediv_of_nonneg (by omega)]
    have h1 := Int.ediv_nonneg (a := c) (by omega) (Int.le_of_lt hb)
    have h2 := Int.ediv_le_self (a := c) b (by omega)
    omega
/-- n modulo m, as the reference has it. -/
def modI (n m : Int) : Int := (n.tmod m + m).tmod m
theorem modI_in {n m : Int} (hm : 0 < m) : 0 ≤ modI n m ∧ modI n m < m := by
  have h1 := Int.lt_tmod_of_pos n hm
  have h2 : 0 ≤ n.tmod m + m := by omega
  unfold modI
  exact ⟨Int.tmod_nonneg _ h2, Int.tmod_lt_of_pos _ hm⟩
def modN (n m : Int) : Nat := (modI n m).toNat
theorem modN_lt {n m : Int} (hm : 0 < m) : (modN n m : Int) < m := by have := modI_in (n := n) hm; unfold modN; omega
theorem modN_eq {n m : Int} (hm : 0 < m) : modI n m = (modN n m : Int) := by have := modI_in (n := n) hm; unfold modN; omega
set_option maxHeartbeats 400000 in
theorem mod_c (n m : Int) (hm : 0 < m) (hm2 : m ≤ 1099511627776) (hn : Fits n) (w : World) :
    Calls Try.prog 25 #[.int .i64 n, .int .i64 m] w fun e w' => e = .returned (.int .i64 (modN n m)) ∧ w = w' := by
  unfold Fits at hn
  have h1 := Int.lt_tmod_of_pos n hm
  have h2 := Int.tmod_lt_of_pos n hm
  have h3 := modN_eq (n := n) hm
  unfold modI at h3
  obtain ⟨k, hk⟩ : ∃ k, modN n m = k := ⟨_, rfl⟩
  rw [hk] at h3 ⊢
  clear hk
  obtain ⟨q, hq⟩ : ∃ q, n.tmod m = q := ⟨_, rfl⟩
  rw [hq] at h1 h2 h3
  have hm0 : m ≠ 0 := by omega
  have hz : (m == 0) = false := by simpa using hm0
  have hqm : (m + q).tmod m = k := by rw [Int.add_comm]; exact h3
  go_enter Try.func25, Try.ntmps25
  go_wp2
  go_ret
  exact ⟨rfl, rfl⟩
def textsL : List (List UInt8) := [[69, 109, 109, 97], [84, 104, 101, 32, 115, 101, 97], [195, 156, 98, 101, 114, 32, 100, 101, 110, 32, 70, 108, 117, 195, 159], [87, 97, 114, 32, 97, 110, 100, 32, 112, 101, 97, 99, 101], [119, 97, 114, 32, 38, 32, 80, 69, 65, 67, 69], [65, 117, 115, 116, 101, 110, 44, 32, 74, 97, 110, 101], [84, 111, 108, 115, 116, 111, 121], [49, 57, 56, 52], [57, 55, 56, 48, 51, 48, 54, 52, 48, 54, 49, 53, 55], [48, 51, 48, 54, 52, 48, 54, 49, 53, 50], [76, 111, 110, 100, 111, 110], [83, 101, 97, 32, 115, 116, 111, 114, 105, 101, 115], [65], [], [69, 109, 109, 97, 32, 97, 110, 100, 32, 116, 104, 101, 32, 115, 101, 97], [49, 57, 57, 57], [99, 49, 57, 57, 57, 46], [82, 105, 118, 101, 114, 115], [79, 99, 101, 97, 110, 115, 32, 45, 45, 32, 72, 105, 115, 116, 111, 114, 121], [112, 101, 97, 99, 101]]
def textArr : Array Value := #[.string ⟨#[69, 109, 109, 97]⟩, .string ⟨#[84, 104, 101, 32, 115, 101, 97]⟩, .string ⟨#[195, 156, 98, 101, 114, 32, 100, 101, 110, 32, 70, 108, 117, 195, 159]⟩, .string ⟨#[87, 97, 114, 32, 97, 110, 100, 32, 112, 101, 97, 99, 101]⟩, .string ⟨#[119, 97, 114, 32, 38, 32, 80, 69, 65, 67, 69]⟩, .string ⟨#[65, 117, 115, 116, 101, 110, 44, 32, 74, 97, 110, 101]⟩, .string ⟨#[84, 111, 108, 115, 116, 111, 121]⟩, .string ⟨#[49, 57, 56, 52]⟩, .string ⟨#[57, 55, 56, 48, 51, 48, 54, 52, 48, 54, 49, 53, 55]⟩, .string ⟨#[48, 51, 48, 54, 52, 48, 54, 49, 53, 50]⟩, .string ⟨#[76, 111, 110, 100, 111, 110]⟩, .string ⟨#[83, 101, 97, 32, 115, 116, 111, 114, 105, 101, 115]⟩, .string ⟨#[65]⟩, .string ⟨#[]⟩, .string ⟨#[69, 109, 109, 97, 32, 97, 110, 100, 32, 116, 104, 101, 32, 115, 101, 97]⟩, .string ⟨#[49, 57, 57, 57]⟩, .string ⟨#[99, 49, 57, 57, 57, 46]⟩, .string ⟨#[82, 105, 118, 101, 114, 115]⟩, .string ⟨#[79, 99, 101, 97, 110, 115, 32, 45, 45, 32, 72, 105, 115, 116, 111, 114, 121]⟩, .string ⟨#[112, 101, 97, 99, 101]⟩]
theorem texts_at : ∀ {j : Nat}, j < 20 → textArr[j]? = some (str (textsL.getD j []))
  | 0, _ => rfl
  | 1, _ => rfl
  | 2, _ => rfl
  | 3, _ => rfl
  | 4, _ => rfl
  | 5, _ => rfl
  | 6, _ => rfl
  | 7, _ => rfl
  | 8, _ => rfl
  | 9, _ => rfl
  | 10, _ => rfl
  | 11, _ => rfl
  | 12, _ => rfl
  | 13, _ => rfl
  | 14, _ => rfl
  | 15, _ => rfl
  | 16, _ => rfl
  | 17, _ => rfl
  | 18, _ => rfl
  | 19, _ => rfl
  | n + 20, h => absurd h (by omega)
def tagsL : List (List UInt8) := [[48, 48, 49], [50, 52, 53], [49, 48, 48], [48, 50, 48], [54, 53, 48], [55, 48, 48], [50, 54, 48], [53, 48, 48], [57, 48, 48], [57, 52, 57], [48, 48, 56], [50, 52, 54], [54, 48, 48], [49, 49, 48], [52, 57, 48], [48, 48, 51], [57, 122, 57], [50, 52], [57, 57, 57], [48]]
def tagArr : Array Value := #[.string ⟨#[48, 48, 49]⟩, .string ⟨#[50, 52, 53]⟩, .string ⟨#[49, 48, 48]⟩, .string ⟨#[48, 50, 48]⟩, .string ⟨#[54, 53, 48]⟩, .string ⟨#[55, 48, 48]⟩, .string ⟨#[50, 54, 48]⟩, .string ⟨#[53, 48, 48]⟩, .string ⟨#[57, 48, 48]⟩, .string ⟨#[57, 52, 57]⟩, .string ⟨#[48, 48, 56]⟩, .string ⟨#[50, 52, 54]⟩, .string ⟨#[54, 48, 48]⟩, .string ⟨#[49, 49, 48]⟩, .string ⟨#[52, 57, 48]⟩, .string ⟨#[48, 48, 51]⟩, .string ⟨#[57, 122, 57]⟩, .string ⟨#[50, 52]⟩, .string ⟨#[57, 57, 57]⟩, .string ⟨#[48]⟩]
theorem tags_at : ∀ {j : Nat}, j < 20 → tagArr[j]? = some (str (tagsL.getD j []))
  | 0, _ => rfl
  | 1, _ => rfl
  | 2, _ => rfl
  | 3, _ => rfl
  | 4, _ => rfl
  | 5, _ => rfl
  | 6, _ => rfl
  | 7, _ => rfl
  | 8, _ => rfl
  | 9, _ => rfl
  | 10, _ => rfl
  | 11, _ => rfl
  | 12, _ => rfl
  | 13, _ => rfl
  | 14, _ => rfl
  | 15, _ => rfl
  | 16, _ => rfl
  | 17, _ => rfl
  | 18, _ => rfl
  | 19, _ => rfl
  | n + 20, h => absurd h (by omega)
def textM (n : Int) : List UInt8 := textsL.getD (modN n 20) []
def tagM (n : Int) : List UInt8 := tagsL.getD (modN n 20) []
set_option maxRecDepth 100000 in
set_option maxHeartbeats 4000000 in
theorem text_c (n : Int) (hn : Fits n) (w : World) : Calls Try.prog 27 #[.int .i64 n] w fun e w' => e = .returned (str (textM n)) ∧ Below w.heap.size w w' := by
  have hj := modN_lt (n := n) (m := 20) (by decide)
  have MT := Lib.hid (fun W => mod_c n 20 (by decide) (by decide) hn W)
  unfold textM
  obtain ⟨j, hjj⟩ : ∃ j, modN n 20 = j := ⟨_, rfl⟩
  rw [hjj] at hj MT ⊢
  have ha := texts_at (j := j) (by omega)
  obtain ⟨t, ht⟩ : ∃ t, textsL.getD j [] = t := ⟨_, rfl⟩
  rw [ht] at ha ⊢
  obtain ⟨W1, hW1⟩ : ∃ W1, w.alloc (.cells textArr 9) = W1 := ⟨_, rfl⟩
  have hb1 : Below w.heap.size w W1 := by rw [← hW1]; exact below_new _ _
  have hn1 : W1.heap[w.heap.size]? = some (.cells textArr 9 (0, 0)) := by rw [← hW1]; exact new_at _ _
  have c0 : W1.cell? ⟨w.heap.size, j, none⟩ = some (str t) := by rw [cell_at hn1]; exact ha
  have HB := Lib.hid hb1
  have i0 : (0 : Int) ≤ (j : Int) := by omega
  clear hb1 hn1 ha ht hjj
  unfold textArr at hW1
  go_enter Try.func27, Try.ntmps27
  go_wp2_with fail
  refine (MT.out _).mono ?_
  rintro e W9 ⟨rfl, rfl⟩
  go_wp2
  go_ret
  exact ⟨rfl, HB.out⟩
set_option maxRecDepth 100000 in
set_option maxHeartbeats 4000000 in
theorem tag_c (n : Int) (hn : Fits n) (w : World) : Calls Try.prog 26 #[.int .i64 n] w fun e w' => e = .returned (str (tagM n)) ∧ Below w.heap.size w w' := by
  have hj := modN_lt (n := n) (m := 20) (by decide)
  have MT := Lib.hid (fun W => mod_c n 20 (by decide) (by decide) hn W)
  unfold tagM
  obtain ⟨j, hjj⟩ : ∃ j, modN n 20 = j := ⟨_, rfl⟩
  rw [hjj] at hj MT ⊢
  have ha := tags_at (j := j) (by omega)
  obtain ⟨t, ht⟩ : ∃ t, tagsL.getD j [] = t := ⟨_, rfl⟩
  rw [ht] at ha ⊢
  obtain ⟨W1, hW1⟩ : ∃ W1, w.alloc (.cells tagArr 9) = W1 := ⟨_, rfl⟩
  have hb1 : Below w.heap.size w W1 := by rw [← hW1]; exact below_new _ _
  have hn1 : W1.heap[w.heap.size]? = some (.cells tagArr 9 (0, 0)) := by rw [← hW1]; exact new_at _ _
  have c0 : W1.cell? ⟨w.heap.size, j, none⟩ = some (str t) := by rw [cell_at hn1]; exact ha
  have HB := Lib.hid hb1
  have i0 : (0 : Int) ≤ (j : Int) := by omega
  clear hb1 hn1 ha ht hjj
  unfold tagArr at hW1
  go_enter Try.func26, Try.ntmps26
  go_wp2_with fail
  refine (MT.out _).mono ?_
  rintro e W9 ⟨rfl, rfl⟩
  go_wp2
  go_ret
  exact ⟨rfl, HB.out⟩
end Go.Proofs.Ytfccpepmjklodaa
