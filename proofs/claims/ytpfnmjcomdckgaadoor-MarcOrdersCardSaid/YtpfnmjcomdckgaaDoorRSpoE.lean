/-
  The end of the reference's Spoiled; sizes.
-/
import Derived.Test.YtpfnmjcomdckgaaDoorRSpoB
namespace Go.Proofs.YtpfnmjcomdckgaaDoor
open Go.RowKit Go.Shelf
set_option linter.unusedVariables false
set_option linter.unusedSimpArgs false

theorem fieldsN_set : ∀ (l : List FldM) (m : Nat) (f : FldM), fieldsN (l.set m f) ≤ fieldsN l + sizeF f
  | [], m, f => by simp [fieldsN]
  | a :: r, 0, f => by
    unfold fieldsN
    rw [List.set_cons_zero, List.map_cons, List.map_cons, List.sum_cons, List.sum_cons]
    omega
  | a :: r, m + 1, f => by
    have ih := fieldsN_set r m f
    unfold fieldsN at ih ⊢
    rw [List.set_cons_succ, List.map_cons, List.map_cons, List.sum_cons, List.sum_cons]
    omega
/-- A record with one field changed. -/
theorem size_set {kd lv : UInt8} {fs : List FldM} {S T : Nat} (h : 26 + 12 * fs.length + fieldsN fs ≤ S ∧ ∀ f ∈ fs, f.tag.length ≤ 4) (m : Nat) (f : FldM) (k l : UInt8) (hf : sizeF f + S ≤ T) (ht : f.tag.length ≤ 4) : SizeOk T ⟨k, l, fs.set m f⟩ := by
  refine ⟨?_, fun g hg => ?_⟩
  · have := fieldsN_set fs m f
    unfold sizeR sizeH
    simp only [List.length_set]
    omega
  · rcases List.mem_or_eq_of_mem_set hg with hg | rfl
    · exact h.2 g hg
    · exact ht
theorem size_same {kd lv : UInt8} {fs : List FldM} {S T : Nat} (h : 26 + 12 * fs.length + fieldsN fs ≤ S ∧ ∀ f ∈ fs, f.tag.length ≤ 4) (k l : UInt8) (hS : S ≤ T) : SizeOk T ⟨k, l, fs⟩ := by
  refine ⟨?_, h.2⟩
  unfold sizeR sizeH
  simp only
  omega
theorem sp_fin {w W : World} {b : Nat} {kd lv : UInt8} {acc : List (FldM × Value)} {sv : Value} (hI : SpI w W (b + 1 + 1 + 1) kd lv acc sv) (hz : W.heap[b + 1 + 1]? = some (.cells #[.int .u8 0, .int .u8 0, .slice none 0 0] 27 (0, 0))) (hb : w.heap.size ≤ b + 1 + 1) :
    Below w.heap.size w (fin3 W (b + 1 + 1) (.int .u8 (kd.toNat : Int)) (.int .u8 (lv.toNat : Int)) sv) ∧
    RecV (fin3 W (b + 1 + 1) (.int .u8 (kd.toNat : Int)) (.int .u8 (lv.toNat : Int)) sv) (.agg #[.int .u8 (kd.toNat : Int), .int .u8 (lv.toNat : Int), sv]) ⟨kd, lv, acc.map (fun p => p.1)⟩ ∧
    (fin3 W (b + 1 + 1) (.int .u8 (kd.toNat : Int)) (.int .u8 (lv.toNat : Int)) sv).cell? ⟨b + 1 + 1, 0, none⟩ = some (.int .u8 (kd.toNat : Int)) ∧
    (fin3 W (b + 1 + 1) (.int .u8 (kd.toNat : Int)) (.int .u8 (lv.toNat : Int)) sv).cell? ⟨b + 1 + 1, 1, none⟩ = some (.int .u8 (lv.toNat : Int)) ∧
    (fin3 W (b + 1 + 1) (.int .u8 (kd.toNat : Int)) (.int .u8 (lv.toNat : Int)) sv).cell? ⟨b + 1 + 1, 2, none⟩ = some sv := by
  have far : ∀ g, g ≠ b + 1 + 1 → (fin3 W (b + 1 + 1) (.int .u8 (kd.toNat : Int)) (.int .u8 (lv.toNat : Int)) sv).heap[g]? = W.heap[g]? := fun g hg => by
    unfold fin3
    rw [far_set _ _ 2 _ hg, far_set _ _ 1 _ hg, far_set _ _ 0 _ hg]
  have hnew : (fin3 W (b + 1 + 1) (.int .u8 (kd.toNat : Int)) (.int .u8 (lv.toNat : Int)) sv).heap[b + 1 + 1]? = some (.cells #[.int .u8 (kd.toNat : Int), .int .u8 (lv.toNat : Int), sv] 27 (0, 0)) := by
    have := blk_set (blk_set (blk_set hz 0 (.int .u8 (kd.toNat : Int))) 1 (.int .u8 (lv.toNat : Int))) 2 sv
    unfold fin3
    simpa using this
  refine ⟨?_, ⟨sv, rfl, ?_⟩, by rw [cell_at hnew]; rfl, by rw [cell_at hnew]; rfl, by rw [cell_at hnew]; rfl⟩
  · unfold fin3
    exact ((hI.bel.setCell (p := ⟨b + 1 + 1, 0, none⟩) hb _).setCell (p := ⟨b + 1 + 1, 1, none⟩) hb _).setCell (p := ⟨b + 1 + 1, 2, none⟩) hb _
  · exact flds_of_own (own_same hI.rec_.2 (fun g hg _ => far g (by omega))) (fun p hp => subs_of_own (own_same (hI.subs p hp) (fun g hg _ => far g (by omega))))
def textsL : List (List UInt8) := [[], [31], [30], [97, 29, 98], [255], [195], [237, 160, 128], [224, 128, 128], [127], [195, 169], [116, 97, 98, 9]]
def textsA : Array Value := #[.string ⟨#[]⟩, .string ⟨#[31]⟩, .string ⟨#[30]⟩, .string ⟨#[97, 29, 98]⟩, .string ⟨#[255]⟩, .string ⟨#[195]⟩, .string ⟨#[237, 160, 128]⟩, .string ⟨#[224, 128, 128]⟩, .string ⟨#[127]⟩, .string ⟨#[195, 169]⟩, .string ⟨#[116, 97, 98, 9]⟩]
theorem texts_at {j : Nat} (h : j < 11) : textsA[j]? = some (str (textsL.getD j [])) := by
  match j, h with
  | 0, _ => rfl | 1, _ => rfl | 2, _ => rfl | 3, _ => rfl | 4, _ => rfl | 5, _ => rfl | 6, _ => rfl | 7, _ => rfl | 8, _ => rfl | 9, _ => rfl | 10, _ => rfl
theorem texts_le {j : Nat} (h : j < 11) : (textsL.getD j []).length ≤ 4 := by
  have := (by decide +kernel : ∀ j ∈ List.range 11, (textsL.getD j []).length ≤ 4)
  exact this j (List.mem_range.2 h)
def btagsL : List (List UInt8) := [[48, 48, 48], [50, 52], [50, 52, 53, 53], [50, 52, 97], [], [48, 48, 49], [50, 52, 53]]
def btagsA : Array Value := #[.string ⟨#[48, 48, 48]⟩, .string ⟨#[50, 52]⟩, .string ⟨#[50, 52, 53, 53]⟩, .string ⟨#[50, 52, 97]⟩, .string ⟨#[]⟩, .string ⟨#[48, 48, 49]⟩, .string ⟨#[50, 52, 53]⟩]
theorem btags_at {j : Nat} (h : j < 7) : btagsA[j]? = some (str (btagsL.getD j [])) := by
  match j, h with
  | 0, _ => rfl | 1, _ => rfl | 2, _ => rfl | 3, _ => rfl | 4, _ => rfl | 5, _ => rfl | 6, _ => rfl
theorem btags_le {j : Nat} (h : j < 7) : (btagsL.getD j []).length ≤ 4 := by
  have := (by decide +kernel : ∀ j ∈ List.range 7, (btagsL.getD j []).length ≤ 4)
  exact this j (List.mem_range.2 h)
def bindsL : List (List UInt8) := [[], [49], [49, 50, 51], [31, 48], [32, 126], [48, 127]]
def bindsA : Array Value := #[.string ⟨#[]⟩, .string ⟨#[49]⟩, .string ⟨#[49, 50, 51]⟩, .string ⟨#[31, 48]⟩, .string ⟨#[32, 126]⟩, .string ⟨#[48, 127]⟩]
theorem binds_at {j : Nat} (h : j < 6) : bindsA[j]? = some (str (bindsL.getD j [])) := by
  match j, h with
  | 0, _ => rfl | 1, _ => rfl | 2, _ => rfl | 3, _ => rfl | 4, _ => rfl | 5, _ => rfl
theorem binds_le {j : Nat} (h : j < 6) : (bindsL.getD j []).length ≤ 4 := by
  have := (by decide +kernel : ∀ j ∈ List.range 6, (bindsL.getD j []).length ≤ 4)
  exact this j (List.mem_range.2 h)
theorem u8_wrap (y : Int) : ∃ c : UInt8, IntKind.u8.wrap y = (c.toNat : Int) := by
  refine ⟨UInt8.ofNat (y % 256).toNat, ?_⟩
  have : (UInt8.ofNat (y % 256).toNat).toNat = (y % 256).toNat := by rw [UInt8.toNat_ofNat']; omega
  rw [this, IntKind.wrap_u8]
  omega
end Go.Proofs.YtpfnmjcomdckgaaDoor
