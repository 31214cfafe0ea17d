/-
  The rows of subfields of the changed record lie apart.
-/
import Derived.Test.YtpfnmjcomdckgaaDoorRSpoE
namespace Go.Proofs.YtpfnmjcomdckgaaDoor
open Go.RowKit Go.Shelf
set_option linter.unusedVariables false
set_option linter.unusedSimpArgs false
theorem Dist.ne {acc : List (FldM × Value)} (h : Dist acc) {i j : Nat} (hi : i < acc.length) (hj : j < acc.length) (hij : i ≠ j) : acc[i].2.ownBlock = none ∨ acc[i].2.ownBlock ≠ acc[j].2.ownBlock := by
  unfold Dist at h
  rw [List.pairwise_iff_getElem] at h
  rcases Nat.lt_or_gt_of_ne hij with hl | hl
  · exact h i j hi hj hl
  · rcases h j i hj hi hl with h0 | h0
    · cases hq : acc[i].2.ownBlock with
      | none => exact .inl rfl
      | some g => right; rw [h0]; simp
    · exact .inr (fun e => h0 e.symm)
theorem dist_set {acc : List (FldM × Value)} (h : Dist acc) (m : Nat) (p : FldM × Value) (hp : ∀ i (hi : i < acc.length), i ≠ m → p.2.ownBlock = none ∨ p.2.ownBlock ≠ acc[i].2.ownBlock) : Dist (acc.set m p) := by
  unfold Dist
  rw [List.pairwise_iff_getElem]
  intro i j hi hj hij
  rw [List.length_set] at hi hj
  simp only [List.getElem_set]
  by_cases hmi : m = i
  · have hmj : ¬ m = j := by omega
    rw [if_pos hmi, if_neg hmj]
    exact hp j hj (by omega)
  · rw [if_neg hmi]
    by_cases hmj : m = j
    · rw [if_pos hmj]
      rcases hp i hi (by omega) with h0 | h0
      · cases hq : acc[i].2.ownBlock with
        | none => exact .inl rfl
        | some g => right; rw [h0]; simp
      · exact .inr (fun e => h0 e.symm)
    · rw [if_neg hmj]
      exact h.ne hi hj (by omega)
theorem dist_same {acc : List (FldM × Value)} (h : Dist acc) (m : Nat) (hm : m < acc.length) (f : FldM) : Dist (acc.set m (f, acc[m].2)) :=
  dist_set h m _ (fun i hi hne => h.ne hm hi (fun e => hne e.symm))
theorem dist_nil {acc : List (FldM × Value)} (h : Dist acc) (m : Nat) (f : FldM) : Dist (acc.set m (f, .slice none 0 0)) :=
  dist_set h m _ (fun i hi hne => .inl rfl)
/-- One field's tag, ind, data or subs changed. -/
theorem SpI.tag {w W : World} {ob : Nat} {kd lv : UInt8} {acc : List (FldM × Value)} {g cap n : Nat} (h : SpI w W ob kd lv acc (.slice (some ⟨g, 0, none⟩) n cap)) (hn : acc.length = n) (m : Nat) (hm : m < acc.length) (T : List UInt8) :
    SpI w (W.setCell ⟨g, m * 4, none⟩ (str T)) ob kd lv (acc.set m ({acc[m].1 with tag := T}, acc[m].2)) (.slice (some ⟨g, 0, none⟩) n cap) :=
  h.fld hn m 0 hm (by omega) _ _ rfl (show W.ownsRow (ob + 1) 64 2 acc[m].2 acc[m].1.subs.length (subCells acc[m].1.subs) from h.subs acc[m] (List.getElem_mem hm)) (dist_same h.dist m hm _)
theorem SpI.ind {w W : World} {ob : Nat} {kd lv : UInt8} {acc : List (FldM × Value)} {g cap n : Nat} (h : SpI w W ob kd lv acc (.slice (some ⟨g, 0, none⟩) n cap)) (hn : acc.length = n) (m : Nat) (hm : m < acc.length) (T : List UInt8) :
    SpI w (W.setCell ⟨g, m * 4 + 1, none⟩ (str T)) ob kd lv (acc.set m ({acc[m].1 with ind := T}, acc[m].2)) (.slice (some ⟨g, 0, none⟩) n cap) :=
  h.fld hn m 1 hm (by omega) _ _ rfl (show W.ownsRow (ob + 1) 64 2 acc[m].2 acc[m].1.subs.length (subCells acc[m].1.subs) from h.subs acc[m] (List.getElem_mem hm)) (dist_same h.dist m hm _)
theorem SpI.data {w W : World} {ob : Nat} {kd lv : UInt8} {acc : List (FldM × Value)} {g cap n : Nat} (h : SpI w W ob kd lv acc (.slice (some ⟨g, 0, none⟩) n cap)) (hn : acc.length = n) (m : Nat) (hm : m < acc.length) (T : List UInt8) :
    SpI w (W.setCell ⟨g, m * 4 + 2, none⟩ (str T)) ob kd lv (acc.set m ({acc[m].1 with data := T}, acc[m].2)) (.slice (some ⟨g, 0, none⟩) n cap) :=
  h.fld hn m 2 hm (by omega) _ _ rfl (show W.ownsRow (ob + 1) 64 2 acc[m].2 acc[m].1.subs.length (subCells acc[m].1.subs) from h.subs acc[m] (List.getElem_mem hm)) (dist_same h.dist m hm _)
theorem SpI.nosubs {w W : World} {ob : Nat} {kd lv : UInt8} {acc : List (FldM × Value)} {g cap n : Nat} (h : SpI w W ob kd lv acc (.slice (some ⟨g, 0, none⟩) n cap)) (hn : acc.length = n) (m : Nat) (hm : m < acc.length) :
    SpI w (W.setCell ⟨g, m * 4 + 3, none⟩ (.slice none 0 0)) ob kd lv (acc.set m ({acc[m].1 with subs := []}, .slice none 0 0)) (.slice (some ⟨g, 0, none⟩) n cap) :=
  h.fld hn m 3 hm (by omega) _ _ rfl (World.ownsRow_nil _ _ _ _) (dist_nil h.dist m _)
/-- The size of a record with one field changed, said of the list of fields and rows. -/
theorem map_set_fst (acc : List (FldM × Value)) (m : Nat) (f : FldM) (v : Value) : (acc.set m (f, v)).map (fun p => p.1) = (acc.map (fun p => p.1)).set m f := by
  rw [List.map_set]
theorem fieldsN_put : ∀ (l : List FldM) (m : Nat) (h : m < l.length) (f : FldM), fieldsN (l.set m f) + sizeF l[m] = fieldsN l + sizeF f
  | [], m, h, f => by simp at h
  | a :: r, 0, h, f => by
    unfold fieldsN
    rw [List.set_cons_zero, List.map_cons, List.map_cons, List.sum_cons, List.sum_cons, List.getElem_cons_zero]
    omega
  | a :: r, m + 1, h, f => by
    have ih := fieldsN_put r m (by simpa using h) f
    unfold fieldsN at ih ⊢
    rw [List.set_cons_succ, List.map_cons, List.map_cons, List.sum_cons, List.sum_cons, List.getElem_cons_succ]
    omega
theorem put_ok {S : Nat} {acc : List (FldM × Value)} {fs : List FldM} (hmap : acc.map (fun p => p.1) = fs) (hS : 26 + 12 * fs.length + fieldsN fs ≤ S ∧ ∀ f ∈ fs, f.tag.length ≤ 4) {m : Nat} (hm : m < acc.length) (f : FldM) (hf : sizeF f ≤ sizeF acc[m].1 + 30000) (ht : f.tag.length ≤ 4) (k l : UInt8) : SizeOk (S + 30000) ⟨k, l, fs.set m f⟩ := by
  subst hmap
  have h := fieldsN_put (acc.map (fun p => p.1)) m (by simpa using hm) f
  rw [List.getElem_map] at h
  refine ⟨?_, fun q hq => ?_⟩
  · unfold sizeR sizeH
    simp only [List.length_set]
    omega
  · rcases List.mem_or_eq_of_mem_set hq with hq | rfl
    · exact hS.2 q hq
    · exact ht
theorem tag_le {acc : List (FldM × Value)} {fs : List FldM} (hmap : acc.map (fun p => p.1) = fs) (hS : ∀ f ∈ fs, f.tag.length ≤ 4) {m : Nat} (hm : m < acc.length) : acc[m].1.tag.length ≤ 4 := by
  subst hmap
  exact hS _ (List.mem_map.2 ⟨acc[m], List.getElem_mem hm, rfl⟩)
theorem sizeF_at {S : Nat} {acc : List (FldM × Value)} {fs : List FldM} (hmap : acc.map (fun p => p.1) = fs) (hS : 26 + 12 * fs.length + fieldsN fs ≤ S ∧ ∀ f ∈ fs, f.tag.length ≤ 4) {m : Nat} (hm : m < acc.length) : sizeF acc[m].1 ≤ S := by
  subst hmap
  have h := fieldsN_put (acc.map (fun p => p.1)) m (by simpa using hm) ⟨[], [], [], []⟩
  rw [List.getElem_map] at h
  have h2 : sizeF ⟨[], [], [], []⟩ = 1 := by decide
  omega
/-- Where the cells of field m lie. -/
theorem sp_at {w W : World} {ob : Nat} {kd lv : UInt8} {acc : List (FldM × Value)} {g n c : Nat} (h : SpI w W ob kd lv acc (.slice (some ⟨g, 0, none⟩) n c)) {m : Nat} (hm : m < acc.length) :
    ob + 1 ≤ g ∧ g < W.heap.size ∧ W.cell? ⟨g, m * 4, none⟩ = some (str acc[m].1.tag) ∧ W.cell? ⟨g, m * 4 + 1, none⟩ = some (str acc[m].1.ind) ∧ W.cell? ⟨g, m * 4 + 2, none⟩ = some (str acc[m].1.data) ∧ W.cell? ⟨g, m * 4 + 3, none⟩ = some acc[m].2 ∧ ∀ j, W.frozen? ⟨g, j, none⟩ = false := by
  rcases h.rec_.2.2 with ⟨h0, _⟩ | ⟨g', cap, cur, hv, hb, hg, hle, hmx, hsz, htk⟩
  · cases h0
  · simp only [Value.slice.injEq, Option.some.injEq, Addr.mk.injEq] at hv
    obtain ⟨⟨rfl, -⟩, -, -⟩ := hv
    obtain ⟨k0, k1, k2, k3⟩ := fld_cell acc m hm
    have hc : ∀ j, j < 4 → W.cell? ⟨g, m * 4 + j, none⟩ = (fldCells acc)[m * 4 + j]? := fun j hj => by
      rw [cell_at hg, ← htk, List.getElem?_take_of_lt (by omega), Array.getElem?_toList]
    exact ⟨hb, lt_at hg, (hc 0 (by omega)).trans k0, (hc 1 (by omega)).trans k1, (hc 2 (by omega)).trans k2, (hc 3 (by omega)).trans k3, fun j => Lib.frozen_of_heap hg j⟩
end Go.Proofs.YtpfnmjcomdckgaaDoor
