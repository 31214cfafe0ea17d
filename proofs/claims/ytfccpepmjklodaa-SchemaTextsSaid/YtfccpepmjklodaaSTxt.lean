/-
  SchemaTexts: texts play no part; rows of subfields whose texts are written over.
-/
import Derived.Test.YtfccpepmjklodaaSRulW
namespace Go.Proofs.Ytfccpepmjklodaa
open Go.RowKit Go.Shelf
set_option linter.unusedVariables false
set_option linter.unusedSimpArgs false

/-- A field but for its texts. -/
def shapeF (f : FldM) : FldM := { f with subs := f.subs.map fun s => ⟨s.code, []⟩ }
theorem twice_shape (set : List UInt8) : ∀ (seen : List UInt8) (l : List SubM), twiceAux set seen (l.map fun s => ⟨s.code, []⟩) = twiceAux set seen l
  | _, [] => rfl
  | seen, s :: l => by
    rw [List.map_cons, twiceAux, twiceAux, twice_shape set (s.code :: seen) l]
theorem vis_shape (f : FldM) (ro : Option RuleM) (b : Bool) : visM (shapeF f) ro b = visM f ro b := by
  have h1 : misB (shapeF f) = misB f := by
    unfold misB shapeF
    cases f.subs <;> rfl
  have h2 : ∀ r, indBad (shapeF f) r = indBad f r := fun r => rfl
  have h3 : ∀ r, codeBad (shapeF f) r = codeBad f r := by
    intro r
    unfold codeBad shapeF
    rw [List.any_map]
    rfl
  have h4 : ∀ r, twiceBad (shapeF f) r = twiceBad f r := fun r => twice_shape _ _ _
  unfold visM
  rw [h1]
  cases ro with
  | none => rfl
  | some r => simp only [h2, h3, h4]
theorem fldProbs_shape (rs : List RuleM) : ∀ (fs : List FldM) (n : Nat) (seen : List (List UInt8)), fldProbs rs n seen (fs.map shapeF) = fldProbs rs n seen fs
  | [], _, _ => rfl
  | f :: fs, n, seen => by
    rw [List.map_cons, fldProbs, fldProbs, vis_shape, fldProbs_shape rs fs]
    rfl
theorem checkS_shape (rs : List RuleM) (fs : List FldM) : checkS rs (fs.map shapeF) = checkS rs fs := by
  unfold checkS
  rw [fldProbs_shape]
  congr 1
  unfold missProbs
  congr 1
  apply List.filter_congr
  intro r _
  unfold missB
  rw [List.any_map]
  rfl
theorem checkS_alike {rs : List RuleM} {fs gs : List FldM} (h : fs.map shapeF = gs.map shapeF) : checkS rs fs = checkS rs gs := by rw [← checkS_shape rs fs, h, checkS_shape]
/-- A row of subfields with these codes, whatever their texts. -/
def RowC (W : World) (v : Value) (codes : List UInt8) : Prop :=
  (∃ a c, v = .slice a 0 c ∧ codes = []) ∨
  ∃ b cap cur, v = .slice (some ⟨b, 0, none⟩) codes.length cap ∧ codes.length ≤ maxLen ∧ W.heap[b]? = some (.cells cur 48 (0, 0)) ∧ ∀ j (h : j < codes.length), cur[j * 2]? = some (.int .u8 (codes[j].toNat : Int)) ∧ ∃ t, cur[j * 2 + 1]? = some (str t)
theorem RowC.of_own {W : World} {B : Nat} {v : Value} {l : List SubM} (h : W.ownsRow B 48 2 v l.length (subCells l)) : RowC W v (l.map (·.code)) := by
  rcases h.2 with ⟨hv, h0⟩ | ⟨g, cap, cur, hv, hbg, hg, hnc, hcm, hcs, htake⟩
  · left
    have : l = [] := List.length_eq_zero_iff.1 h0
    subst this
    exact ⟨none, 0, hv, rfl⟩
  · refine .inr ⟨g, cap, cur, by rw [List.length_map]; exact hv, by rw [List.length_map]; simp only [maxLen] at *; omega, hg, fun j hj => ?_⟩
    rw [List.length_map] at hj
    have hc := subCells_at l j hj
    have hx : ∀ i, i < l.length * 2 → cur[i]? = (subCells l)[i]? := by
      intro i hi
      rw [← htake, List.getElem?_take_of_lt hi, Array.getElem?_toList]
    simp only [List.getElem_map]
    exact ⟨(hx _ (by omega)).trans hc.1, _, (hx _ (by omega)).trans hc.2⟩
theorem RowC.below {W W' : World} {v : Value} {codes : List UInt8} (h : RowC W v codes) (hb : Below W.heap.size W W') : RowC W' v codes := by
  rcases h with h | ⟨b, cap, cur, hv, hm, hg, hc⟩
  · exact .inl h
  · exact .inr ⟨b, cap, cur, hv, hm, (hb.block b (lt_at hg)).trans hg, hc⟩
/-- A text is written into a row of subfields. -/
theorem RowC.set {W : World} {v : Value} {codes : List UInt8} (h : RowC W v codes) {g i : Nat} {cs : Array Value} (hg : W.heap[g]? = some (.cells cs 48 (0, 0))) (T : List UInt8) : RowC (W.setCell ⟨g, i * 2 + 1, none⟩ (str T)) v codes := by
  rcases h with h | ⟨b, cap, cur, hv, hm, hb, hc⟩
  · exact .inl h
  · by_cases e : b = g
    · subst e
      refine .inr ⟨b, cap, _, hv, hm, blk_set hb _ _, fun j hj => ?_⟩
      obtain ⟨c0, t, c1⟩ := hc j hj
      refine ⟨by rw [Array.getElem?_setIfInBounds_ne (by omega)]; exact c0, ?_⟩
      by_cases e2 : i = j
      · subst e2
        have hsz : i * 2 + 1 < cur.size := (Array.getElem?_eq_some_iff.1 c1).1
        exact ⟨T, by rw [Array.getElem?_setIfInBounds_self_of_lt hsz]⟩
      · exact ⟨t, by rw [Array.getElem?_setIfInBounds_ne (by omega)]; exact c1⟩
    · exact .inr ⟨b, cap, cur, hv, hm, (far_set _ _ _ _ e).trans hb, hc⟩
theorem RowC.cell {W : World} {v : Value} {codes : List UInt8} (h : RowC W v codes) {j : Nat} (hj : j < codes.length) : ∃ b cap cur t, v = .slice (some ⟨b, 0, none⟩) codes.length cap ∧ W.heap[b]? = some (.cells cur 48 (0, 0)) ∧ W.cell? ⟨b, j * 2 + 1, none⟩ = some (str t) ∧ W.frozen? ⟨b, j * 2 + 1, none⟩ = false := by
  rcases h with ⟨a, c, _, hn⟩ | ⟨b, cap, cur, hv, hm, hb, hc⟩
  · rw [hn] at hj; simp at hj
  · obtain ⟨-, t, c1⟩ := hc j hj
    exact ⟨b, cap, cur, t, hv, hb, by rw [cell_at hb]; exact c1, Lib.frozen_of_heap hb _⟩
theorem RowC.len {W : World} {v : Value} {codes : List UInt8} (h : RowC W v codes) : ∃ a c, v = .slice a codes.length c := by
  rcases h with ⟨a, c, hv, hn⟩ | ⟨b, cap, cur, hv, hm, hb, hc⟩
  · exact ⟨a, c, by rw [hv, hn]; rfl⟩
  · exact ⟨_, _, hv⟩
theorem RowC.subs {W : World} {v : Value} {codes : List UInt8} (h : RowC W v codes) : ∃ l : List SubM, SubsAt W v l ∧ l.map (·.code) = codes := by
  rcases h with ⟨a, c, hv, hn⟩ | ⟨b, cap, cur, hv, hm, hb, hc⟩
  · exact ⟨[], .inl ⟨a, c, hv, rfl⟩, hn.symm⟩
  · have e : ∀ j, ∃ t : List UInt8, j < codes.length → cur[j * 2 + 1]? = some (str t) := by
      intro j
      by_cases hj : j < codes.length
      · obtain ⟨-, t, ht⟩ := hc j hj
        exact ⟨t, fun _ => ht⟩
      · exact ⟨[], fun h => absurd h hj⟩
    obtain ⟨F, hF⟩ : ∃ F : Nat → List UInt8, ∀ j, j < codes.length → cur[j * 2 + 1]? = some (str (F j)) := ⟨fun j => (e j).choose, fun j hj => (e j).choose_spec hj⟩
    refine ⟨(List.range codes.length).map fun j => ⟨codes.getD j 0, F j⟩, .inr ⟨b, 0, cap, by simp; exact hv, by simpa using hm, lt_at hb, fun j hj => ?_⟩, ?_⟩
    · have hj2 : j < codes.length := by simpa using hj
      simp only [List.getElem_map, List.getElem_range, cell_at hb, Nat.zero_add]
      refine ⟨?_, hF j hj2⟩
      rw [(hc j hj2).1, List.getD_eq_getElem?_getD, List.getElem?_eq_getElem hj2]
      rfl
    · apply List.ext_getElem
      · simp
      · intro j h1 h2
        simp only [List.getElem_map, List.getElem_range]
        rw [List.getD_eq_getElem?_getD, List.getElem?_eq_getElem h2]
        rfl
/-- The record whose texts are written over. -/
structure TxW (w W : World) (yb B : Nat) (sv : Value) (acc : List (FldM × Value)) : Prop where
  bel : Below w.heap.size w W
  box : W.heap[yb]? = some (.cells #[.int .u8 120, .int .u8 0, sv] 32 (0, 0))
  row : W.ownsRow B 46 4 sv acc.length (fldCells acc)
  subs : ∀ q ∈ acc, RowC W q.2 (q.1.subs.map (·.code))
theorem TxW.below {w W W' : World} {yb B : Nat} {sv : Value} {acc : List (FldM × Value)} (h : TxW w W yb B sv acc) (hb : Below W.heap.size W W') : TxW w W' yb B sv acc :=
  ⟨below_tr h.bel hb, heap_below hb (Nat.le_refl _) h.box, own_bel h.row hb, fun q hq => (h.subs q hq).below hb⟩
theorem TxW.set {w W : World} {yb B : Nat} {sv : Value} {acc : List (FldM × Value)} (h : TxW w W yb B sv acc) {g i : Nat} {cs : Array Value} (hg : W.heap[g]? = some (.cells cs 48 (0, 0))) (hw : w.heap.size ≤ g) (T : List UInt8) : TxW w (W.setCell ⟨g, i * 2 + 1, none⟩ (str T)) yb B sv acc := by
  refine ⟨below_set h.bel hw _ _, (far_set _ _ _ _ (fun e => ?_)).trans h.box, ?_, fun q hq => (h.subs q hq).set hg T⟩
  · subst e
    have := h.box
    rw [hg] at this
    simp at this
  · refine ⟨h.row.1, ?_⟩
    rcases h.row.2 with h0 | ⟨g', cap, cur, hv, hbg, hgg, rest⟩
    · exact .inl h0
    · refine .inr ⟨g', cap, cur, hv, hbg, (far_set _ _ _ _ (fun e => ?_)).trans hgg, rest⟩
      subst e
      rw [hg] at hgg
      simp at hgg
theorem TxW.flds {w W : World} {yb B : Nat} {sv : Value} {acc : List (FldM × Value)} (h : TxW w W yb B sv acc) : ∃ fs : List FldM, FldsAt W sv fs ∧ fs.map shapeF = (acc.map (·.1)).map shapeF := by
  have e : ∀ q : FldM × Value, ∃ f : FldM, q ∈ acc → (SubsAt W q.2 f.subs ∧ f.tag = q.1.tag ∧ f.ind = q.1.ind ∧ f.data = q.1.data ∧ f.subs.map (·.code) = q.1.subs.map (·.code)) := by
    intro q
    by_cases hq : q ∈ acc
    · obtain ⟨l, h1, h2⟩ := (h.subs q hq).subs
      exact ⟨⟨q.1.tag, q.1.ind, q.1.data, l⟩, fun _ => ⟨h1, rfl, rfl, rfl, h2⟩⟩
    · exact ⟨q.1, fun h => absurd h hq⟩
  obtain ⟨F, hF⟩ : ∃ F : FldM × Value → FldM, ∀ q ∈ acc, SubsAt W q.2 (F q).subs ∧ (F q).tag = q.1.tag ∧ (F q).ind = q.1.ind ∧ (F q).data = q.1.data ∧ (F q).subs.map (·.code) = q.1.subs.map (·.code) := ⟨fun q => (e q).choose, fun q hq => (e q).choose_spec hq⟩
  have hcells : fldCells acc = fldCells (acc.map fun q => (F q, q.2)) := by
    unfold fldCells
    rw [List.flatMap_map, List.flatMap_def, List.flatMap_def]
    congr 1
    apply List.map_congr_left
    intro q hq
    obtain ⟨-, h1, h2, h3, -⟩ := hF q hq
    unfold fldL
    rw [h1, h2, h3]
  refine ⟨(acc.map fun q => (F q, q.2)).map (·.1), flds_of_own (B := B) (by rw [List.length_map, ← hcells]; exact h.row) (fun p hp => ?_), ?_⟩
  · obtain ⟨q, hq, rfl⟩ := List.mem_map.1 hp
    exact (hF q hq).1
  · rw [List.map_map, List.map_map, List.map_map]
    apply List.map_congr_left
    intro q hq
    obtain ⟨-, h1, h2, h3, h4⟩ := hF q hq
    show shapeF (F q) = shapeF q.1
    unfold shapeF
    have h5 : (F q).subs.map (fun s => (⟨s.code, []⟩ : SubM)) = q.1.subs.map (fun s => (⟨s.code, []⟩ : SubM)) := by
      have := congrArg (List.map fun c => (⟨c, []⟩ : SubM)) h4
      rw [List.map_map, List.map_map] at this
      exact this
    rw [h1, h2, h3, h5]
theorem TxW.slot {w W : World} {yb B : Nat} {sv : Value} {acc : List (FldM × Value)} (h : TxW w W yb B sv acc) (i : Nat) (hi : i < acc.length) : ∃ g cap, sv = .slice (some ⟨g, 0, none⟩) acc.length cap ∧ W.cell? ⟨g, i * 4 + 3, none⟩ = some acc[i].2 := by
  rcases h.row.2 with ⟨_, h0⟩ | ⟨g, cap, cur, hv, hbg, hg, hnc, hcm, hcs, htake⟩
  · omega
  · refine ⟨g, cap, hv, ?_⟩
    rw [cell_at hg]
    have hx : cur[i * 4 + 3]? = (fldCells acc)[i * 4 + 3]? := by rw [← htake, List.getElem?_take_of_lt (by omega), Array.getElem?_toList]
    rw [hx]
    exact flat4 acc i 3 hi (by omega)
theorem small_shape {n : Nat} {k lv : UInt8} {r : RecM} {fs : List FldM} (h : Small n r) (hs : fs.map shapeF = r.fields.map shapeF) : Small n ⟨k, lv, fs⟩ := by
  have hl : fs.length = r.fields.length := by have := congrArg List.length hs; simpa using this
  refine ⟨by show fs.length ≤ 20; rw [hl]; exact h.1, fun f hf => ?_⟩
  obtain ⟨i, hi, rfl⟩ := List.mem_iff_getElem.1 (show f ∈ fs from hf)
  have hi2 : i < r.fields.length := by omega
  have e : shapeF fs[i] = shapeF r.fields[i] := by
    have h1 : (fs.map shapeF)[i]'(by rw [List.length_map]; exact hi) = (r.fields.map shapeF)[i]'(by rw [List.length_map]; exact hi2) := by simp only [hs]
    simpa using h1
  have h1 := h.2 _ (List.getElem_mem hi2)
  have e1 : (shapeF fs[i]).tag = (shapeF r.fields[i]).tag := by rw [e]
  have e1 : fs[i].tag = r.fields[i].tag := e1
  have e2 := congrArg (fun f => f.subs.length) e
  simp only [shapeF, List.length_map] at e2
  rw [e1, e2]
  exact h1
theorem bent_eight (r : RecM) : (bentM r 8 0 0).fields = r.fields ∧ (bentM r 8 0 0).kind = r.kind ∧ (bentM r 8 0 0).level = r.level := by
  unfold bentM
  split
  · rename_i hp
    have hm := modN_lt (n := 0) (m := (r.fields.length : Int)) (by omega)
    refine ⟨?_, rfl, rfl⟩
    have h8 : modN 8 9 = 8 := by decide
    rw [h8]
    show r.fields.set _ (r.fields.getD _ _) = r.fields
    rw [List.getD_eq_getElem?_getD, List.getElem?_eq_getElem (by omega)]
    exact List.set_getElem_self _
  · rename_i hp
    exact ⟨(List.length_eq_zero_iff.1 (by omega)).symm, rfl, rfl⟩
end Go.Proofs.Ytfccpepmjklodaa
