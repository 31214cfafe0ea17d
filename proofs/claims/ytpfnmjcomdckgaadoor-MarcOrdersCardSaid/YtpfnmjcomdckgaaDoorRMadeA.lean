/-
  The reference's Made: a right record.
-/
import Derived.Test.YtpfnmjcomdckgaaDoorRRecO
import Derived.Test.YtpfnmjcomdckgaaDoorRArgs
import Derived.Test.YtpfnmjcomdckgaaDoorRBack
import Derived.Test.YtpfnmjcomdckgaaDoorRMod
import Derived.Test.YtpfnmjcomdckgaaDoorRIsT
import Derived.Deep.RegionHeld3
import Derived.Deep.AppendLies
namespace Go.Proofs.YtpfnmjcomdckgaaDoor
open Go.RowKit Go.Shelf Go.Deep
set_option linter.unusedVariables false
set_option linter.unusedSimpArgs false

def wordsL : List (List UInt8) := [[84, 104, 101, 32, 115, 116, 97, 114, 115], [83, 116, 97, 114, 115, 44, 32, 97, 32, 104, 105, 115, 116, 111, 114, 121], [57, 55, 56, 45, 51, 45, 49, 54, 45, 49, 52, 56, 52, 49, 48, 45, 48], [77, 195, 188, 108, 108, 101, 114, 44, 32, 65, 110, 110, 97], [49, 57, 56, 52], [], [206, 169, 109, 101, 103, 97], [120], [71, 195, 182, 100, 101, 108, 32, 240, 157, 148, 184], [80, 97, 114, 105, 115, 32, 58, 32, 49, 57, 57, 57]]
def wordsA : Array Value := #[.string ⟨#[84, 104, 101, 32, 115, 116, 97, 114, 115]⟩, .string ⟨#[83, 116, 97, 114, 115, 44, 32, 97, 32, 104, 105, 115, 116, 111, 114, 121]⟩, .string ⟨#[57, 55, 56, 45, 51, 45, 49, 54, 45, 49, 52, 56, 52, 49, 48, 45, 48]⟩, .string ⟨#[77, 195, 188, 108, 108, 101, 114, 44, 32, 65, 110, 110, 97]⟩, .string ⟨#[49, 57, 56, 52]⟩, .string ⟨#[]⟩, .string ⟨#[206, 169, 109, 101, 103, 97]⟩, .string ⟨#[120]⟩, .string ⟨#[71, 195, 182, 100, 101, 108, 32, 240, 157, 148, 184]⟩, .string ⟨#[80, 97, 114, 105, 115, 32, 58, 32, 49, 57, 57, 57]⟩]
def tagsL : List (List UInt8) := [[48, 48, 49], [48, 48, 56], [48, 50, 48], [49, 48, 48], [50, 52, 53], [50, 52, 53], [50, 54, 48], [54, 48, 48], [54, 53, 48], [55, 48, 48], [57, 48, 48], [57, 57, 57]]
def tagsA : Array Value := #[.string ⟨#[48, 48, 49]⟩, .string ⟨#[48, 48, 56]⟩, .string ⟨#[48, 50, 48]⟩, .string ⟨#[49, 48, 48]⟩, .string ⟨#[50, 52, 53]⟩, .string ⟨#[50, 52, 53]⟩, .string ⟨#[50, 54, 48]⟩, .string ⟨#[54, 48, 48]⟩, .string ⟨#[54, 53, 48]⟩, .string ⟨#[55, 48, 48]⟩, .string ⟨#[57, 48, 48]⟩, .string ⟨#[57, 57, 57]⟩]
def indsL : List (List UInt8) := [[32, 32], [49, 48], [48, 52], [32, 48], [49, 32]]
def indsA : Array Value := #[.string ⟨#[32, 32]⟩, .string ⟨#[49, 48]⟩, .string ⟨#[48, 52]⟩, .string ⟨#[32, 48]⟩, .string ⟨#[49, 32]⟩]
theorem words_at {j : Nat} (h : j < 10) : wordsA[j]? = some (str (wordsL.getD j [])) := by
  match j, h with
  | 0, _ => rfl | 1, _ => rfl | 2, _ => rfl | 3, _ => rfl | 4, _ => rfl | 5, _ => rfl | 6, _ => rfl | 7, _ => rfl | 8, _ => rfl | 9, _ => rfl
theorem tags_at {j : Nat} (h : j < 12) : tagsA[j]? = some (str (tagsL.getD j [])) := by
  match j, h with
  | 0, _ => rfl | 1, _ => rfl | 2, _ => rfl | 3, _ => rfl | 4, _ => rfl | 5, _ => rfl | 6, _ => rfl | 7, _ => rfl | 8, _ => rfl | 9, _ => rfl | 10, _ => rfl | 11, _ => rfl
theorem inds_at {j : Nat} (h : j < 5) : indsA[j]? = some (str (indsL.getD j [])) := by
  match j, h with
  | 0, _ => rfl | 1, _ => rfl | 2, _ => rfl | 3, _ => rfl | 4, _ => rfl
theorem words_ok {j : Nat} (h : j < 10) : textB (wordsL.getD j []) = true ∧ (wordsL.getD j []).length ≤ 20 := by
  have := (by decide +kernel : ∀ j ∈ List.range 10, textB (wordsL.getD j []) = true ∧ (wordsL.getD j []).length ≤ 20)
  exact this j (List.mem_range.2 h)
theorem tags_ok {j : Nat} (h : j < 12) : tagB (tagsL.getD j []) = true ∧ (tagsL.getD j []).length = 3 := by
  have := (by decide +kernel : ∀ j ∈ List.range 12, tagB (tagsL.getD j []) = true ∧ (tagsL.getD j []).length = 3)
  exact this j (List.mem_range.2 h)
theorem inds_ok {j : Nat} (h : j < 5) : (indsL.getD j []).length = 2 ∧ (indsL.getD j []).all indB = true := by
  have := (by decide +kernel : ∀ j ∈ List.range 5, (indsL.getD j []).length = 2 ∧ (indsL.getD j []).all indB = true)
  exact this j (List.mem_range.2 h)
theorem kinds_ok {j : Nat} (h : j < (ByteArray.mk #[97, 99, 101, 103, 106]).size) : lowB ((ByteArray.mk #[97, 99, 101, 103, 106])[j]) = true := by
  match j, h with
  | 0, _ => rfl | 1, _ => rfl | 2, _ => rfl | 3, _ => rfl | 4, _ => rfl
theorem levels_ok {j : Nat} (h : j < (ByteArray.mk #[109, 115]).size) : lowB ((ByteArray.mk #[109, 115])[j]) = true := by
  match j, h with
  | 0, _ => rfl | 1, _ => rfl
theorem codes_ok {j : Nat} (h : j < (ByteArray.mk #[97, 98, 99, 48]).size) : signB ((ByteArray.mk #[97, 98, 99, 48])[j]) = true := by
  match j, h with
  | 0, _ => rfl | 1, _ => rfl | 2, _ => rfl | 3, _ => rfl
/-- Fields that are right and small. -/
def NiceF (f : FldM) : Prop := tagB f.tag = true ∧ fieldB f = true ∧ sizeF f ≤ 300
theorem nice_right {kd lv : UInt8} {fs : List FldM} (hk : lowB kd = true) (hl : lowB lv = true) (hf : ∀ f ∈ fs, NiceF f) (hn : fs.length ≤ 12) :
    checkM ⟨kd, lv, fs⟩ = 0 ∧ sizeR ⟨kd, lv, fs⟩ ≤ 5000 := by
  have hfb : ∀ fs : List FldM, (∀ f ∈ fs, NiceF f) → firstBad fs = 0 ∧ fieldsN fs ≤ 300 * fs.length ∧ largeB fs = false := by
    intro fs
    induction fs with
    | nil => intro _; exact ⟨rfl, by simp [fieldsN], rfl⟩
    | cons g r ih =>
      intro h
      obtain ⟨h1, h2, h3⟩ := ih (fun f hf => h f (List.mem_cons_of_mem _ hf))
      obtain ⟨a, b, c⟩ := h g List.mem_cons_self
      refine ⟨?_, ?_, ?_⟩
      · unfold firstBad; rw [if_pos a, if_pos b, h1]
      · unfold fieldsN at h2 ⊢
        rw [List.map_cons, List.sum_cons, List.length_cons]
        omega
      · unfold largeB at h3 ⊢
        rw [List.any_cons, h3]
        simp
        omega
  obtain ⟨h1, h2, h3⟩ := hfb fs hf
  have hs : sizeR ⟨kd, lv, fs⟩ ≤ 5000 := by unfold sizeR sizeH; simp only; omega
  refine ⟨?_, hs⟩
  unfold checkM
  simp only [hk, hl, h1, h3, Bool.and_self, if_true]
  rw [if_neg]
  simp only [Bool.or_eq_true, decide_eq_true_eq, not_or, Bool.false_eq_true]
  exact ⟨⟨by omega, by simp⟩, by omega⟩
set_option maxRecDepth 100000 in
theorem words_c (w : World) : Calls Tryd.prog 33 #[] w fun e w' => e = .returned (.slice (some ⟨w.heap.size, 0, none⟩) 10 10) ∧ w'.heap[w.heap.size]? = some (.cells wordsA 9 (0, 0)) ∧ Below w.heap.size w w' := by
  go_enter Tryd.func33, Tryd.ntmps33
  go_wp2
  go_ret
  exact ⟨rfl, new_at w (.cells wordsA 9), below_new w _⟩
end Go.Proofs.YtpfnmjcomdckgaaDoor
