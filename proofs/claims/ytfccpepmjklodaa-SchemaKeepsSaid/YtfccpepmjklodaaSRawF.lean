/-
  SchemaRaw's closure that makes a field.
-/
import Derived.Test.YtfccpepmjklodaaSSan
import Derived.Deep.AppendLies
namespace Go.Proofs.Ytfccpepmjklodaa
open Go.RowKit Go.Shelf
set_option linter.unusedVariables false
set_option linter.unusedSimpArgs false

def subCells (l : List SubM) : List Value := l.flatMap fun s => [.int .u8 (s.code.toNat : Int), str s.text]
theorem subCells_snoc (l : List SubM) (s : SubM) : subCells (l ++ [s]) = subCells l ++ [.int .u8 (s.code.toNat : Int), str s.text] := by
  unfold subCells
  rw [List.flatMap_append]
  simp
theorem subCells_at : ∀ (l : List SubM) (i : Nat) (h : i < l.length), (subCells l)[i * 2]? = some (.int .u8 (l[i].code.toNat : Int)) ∧ (subCells l)[i * 2 + 1]? = some (str l[i].text)
  | p :: l, 0, _ => ⟨rfl, rfl⟩
  | p :: l, i + 1, h => by
    have ih := subCells_at l i (by simpa using h)
    have e : subCells (p :: l) = [.int .u8 (p.code.toNat : Int), str p.text] ++ subCells l := rfl
    rw [e, List.getElem?_append_right (by simp; omega), List.getElem?_append_right (by simp; omega)]
    simp only [List.length_cons, List.length_nil, List.getElem_cons_succ]
    rw [show (i + 1) * 2 - (0 + 1 + 1) = i * 2 by omega, show (i + 1) * 2 + 1 - (0 + 1 + 1) = i * 2 + 1 by omega]
    exact ih
theorem subs_of_own {w : World} {B : Nat} {v : Value} {l : List SubM} (h : w.ownsRow B 48 2 v l.length (subCells l)) : SubsAt w v l := by
  rcases h.2 with ⟨hv, h0⟩ | ⟨g, cap, cur, hv, hbg, hg, hnc, hcm, hcs, htake⟩
  · left
    have : l = [] := List.length_eq_zero_iff.1 h0
    subst this
    exact ⟨none, 0, hv, rfl⟩
  · refine .inr ⟨g, 0, cap, hv, by simp only [maxLen] at *; omega, lt_at hg, fun i hi => ?_⟩
    have hc := subCells_at l i hi
    have hx : ∀ j, j < l.length * 2 → cur[j]? = (subCells l)[j]? := by
      intro j hj
      rw [← htake, List.getElem?_take_of_lt hj, Array.getElem?_toList]
    simp only [cell_at hg, Nat.zero_add]
    exact ⟨(hx _ (by omega)).trans hc.1, (hx _ (by omega)).trans hc.2⟩
theorem fld_app {w w4 : World} {o : Obj} {fb : Nat} {T I D : List UInt8} {sv : Value} (hnf : w.heap[fb]? = some (.cells #[str T, str I, str D, sv] 46 (0, 0))) (hne : Value.ownBlock sv ≠ some fb) (hg : (w.alloc o).drew.grownBy w4 sv.ownBlock) :
    w4.heap[fb]? = some (.cells #[str T, str I, str D, sv] 46 (0, 0)) ∧ w4.frozen? ⟨fb, 3, none⟩ = false ∧ w4.cell? ⟨fb, 3, none⟩ = some sv := by
  have hlt := lt_at hnf
  have h4 : w4.heap[fb]? = some (.cells #[str T, str I, str D, sv] 46 (0, 0)) :=
    ((hg.block fb (show fb < (w.alloc o).heap.size by simp; omega) (Ne.symm hne)).trans ((below_new w o).block fb hlt)).trans hnf
  exact ⟨h4, Lib.frozen_of_heap h4 3, by rw [cell_at h4]; rfl⟩
theorem grown_cell4 {w w4 : World} {o : Obj} {r : Option Nat} (hg : (w.alloc o).drew.grownBy w4 r) {b off : Nat} {v : Value} (hc : w.cell? ⟨b, off, none⟩ = some v) (hne : r ≠ some b) : w4.cell? ⟨b, off, none⟩ = some v := by
  have hlt := lt_of_cell hc
  have h4 : w4.heap[b]? = w.heap[b]? := (hg.block b (show b < (w.alloc o).heap.size by simp; omega) (Ne.symm hne)).trans ((below_new w o).block b hlt)
  unfold World.cell? at hc ⊢
  simp only [h4] at hc ⊢
  exact hc
theorem own_far {w : World} {B D j sz n : Nat} {e : TypeId} {v u : Value} {xs : List Value} (h : w.ownsRow B e sz v n xs) (hD : D < B) : (w.setCell ⟨D, j, none⟩ u).ownsRow B e sz v n xs := by
  refine ⟨h.1, ?_⟩
  rcases h.2 with h0 | ⟨g, cap, cur, hv, hbg, hg, r⟩
  · exact .inl h0
  · exact .inr ⟨g, cap, cur, hv, hbg, (Below.heap_setCell _ _ _ _ (by show g ≠ D; omega)).trans hg, r⟩
theorem fld_next {w w4 W8 : World} {o : Obj} {fb k : Nat} {T I D : List UInt8} {sv v' : Value} {ss : List SubM} {s : SubM} (hb : Below fb W8 w) (hnf : w.heap[fb]? = some (.cells #[str T, str I, str D, sv] 46 (0, 0)))
    (hown : w.ownsRow (fb + 1) 48 2 sv k (subCells ss)) (hown4 : w4.ownsRow (fb + 1) 48 2 v' (k + 1) (subCells ss ++ [.int .u8 (s.code.toNat : Int), str s.text])) (hg : (w.alloc o).drew.grownBy w4 sv.ownBlock) (hl : ss.length = k) :
    (w4.setCell ⟨fb, 3, none⟩ v').heap[fb]? = some (.cells #[str T, str I, str D, v'] 46 (0, 0)) ∧ (w4.setCell ⟨fb, 3, none⟩ v').ownsRow (fb + 1) 48 2 v' (ss ++ [s]).length (subCells (ss ++ [s])) ∧ Below fb W8 (w4.setCell ⟨fb, 3, none⟩ v') := by
  have hne : Value.ownBlock sv ≠ some fb := fun e => absurd (hown.lt fb e).1 (by omega)
  have hlt := lt_at hnf
  obtain ⟨h4, -, -⟩ := fld_app hnf hne hg
  refine ⟨?_, ?_, ?_⟩
  · have := blk_set h4 3 v'
    simpa using this
  · rw [List.length_append, hl, subCells_snoc]
    exact own_far hown4 (by omega)
  · refine Below.setCell ?_ (p := ⟨fb, 3, none⟩) (Nat.le_refl _) _
    refine hb.trans ?_
    refine Below.grown (w := (w.alloc o).drew) (Below.drew (Below.alloc (Below.refl fb w) (by omega) o)) hg (by simp; omega) (fun k hk => by have := (hown.lt k hk).1; omega)
theorem cell_al {w : World} {b o : Nat} {v : Value} (O : Obj) (h : w.cell? ⟨b, o, none⟩ = some v) : (w.alloc O).cell? ⟨b, o, none⟩ = some v := cell_below (below_new w O) (Nat.le_refl _) h
/-- The subfields that the first n codes make. -/
def rawSubs (cs : List UInt8) (n : Nat) : List SubM := (cs.take n).map fun c => ⟨c, []⟩
theorem rawSubs_snoc (cs : List UInt8) (n : Nat) (h : n < cs.length) : rawSubs cs (n + 1) = rawSubs cs n ++ [⟨cs[n], []⟩] := by
  unfold rawSubs
  rw [take_snoc cs n h, List.map_append]
  rfl
theorem rawSubs_len (cs : List UInt8) (n : Nat) (h : n ≤ cs.length) : (rawSubs cs n).length = n := by
  unfold rawSubs
  rw [List.length_map, List.length_take]
  omega
def RawPost (t i d cs : List UInt8) (w : World) (e : Ending) (w' : World) : Prop :=
  ∃ sv, e = .returned (.agg #[str t, str i, str d, sv]) ∧ SubsAt w' sv (rawSubs cs 20) ∧ Below w.heap.size w w'
set_option maxRecDepth 100000 in
set_option maxHeartbeats 8000000 in
theorem rawField_c (t i d cs : List UInt8) (hcs : cs.length ≤ 140737488355328) (w : World) : Calls Try.prog 21 #[.agg #[str t, str i, str d, str cs]] w (RawPost t i d cs w) := by
  unfold RawPost
  have ss := size_str cs
  obtain ⟨W1, hW1⟩ : ∃ W1, w.alloc (.cells #[str t, str i, str d, str cs] 43) = W1 := ⟨_, rfl⟩
  have hs1 : W1.heap.size = w.heap.size + 1 := by rw [← hW1]; simp
  have hb1 : Below w.heap.size w W1 := by rw [← hW1]; exact below_new _ _
  have hn1 : W1.heap[w.heap.size]? = some (.cells #[str t, str i, str d, str cs] 43 (0, 0)) := by rw [← hW1]; exact new_at _ _
  obtain ⟨W2, hW2⟩ : ∃ W2, W1.alloc (.cells #[.string ⟨#[]⟩, .string ⟨#[]⟩, .string ⟨#[]⟩, .slice none 0 0] 46) = W2 := ⟨_, rfl⟩
  have hs2 : W2.heap.size = W1.heap.size + 1 := by rw [← hW2]; simp
  have hb2 : Below W1.heap.size W1 W2 := by rw [← hW2]; exact below_new _ _
  have hn2 : W2.heap[W1.heap.size]? = some (.cells #[.string ⟨#[]⟩, .string ⟨#[]⟩, .string ⟨#[]⟩, .slice none 0 0] 46 (0, 0)) := by rw [← hW2]; exact new_at _ _
  obtain ⟨W3, hW3⟩ : ∃ W3, W2.alloc (.cells #[str t, str i, str d, .slice none 0 0] 46) = W3 := ⟨_, rfl⟩
  have hs3 : W3.heap.size = W2.heap.size + 1 := by rw [← hW3]; simp
  have hb3 : Below W2.heap.size W2 W3 := by rw [← hW3]; exact below_new _ _
  have hn3 : W3.heap[W2.heap.size]? = some (.cells #[str t, str i, str d, .slice none 0 0] 46 (0, 0)) := by rw [← hW3]; exact new_at _ _
  have hq2 := heap_below hb2 (by omega) hn1
  have q0 : W2.cell? ⟨w.heap.size, 0, none⟩ = some (str t) := by rw [cell_at hq2]; rfl
  have q1 : W2.cell? ⟨w.heap.size, 1, none⟩ = some (str i) := by rw [cell_at hq2]; rfl
  have q2 : W2.cell? ⟨w.heap.size, 2, none⟩ = some (str d) := by rw [cell_at hq2]; rfl
  have Hq3 := Lib.hid (heap_below hb3 (by omega) hq2)
  have Hr3 := Lib.hid (heap_below hb3 (by omega) hn2)
  have Hn3 := Lib.hid hn3
  have Hb3 := Lib.hid (below_tr (below_tr hb1 hb2) hb3)
  have HW3 := Lib.hid hW3
  have Hs1 := Lib.hid hs1
  have Hs2 := Lib.hid hs2
  have Hs3 := Lib.hid hs3
  clear hb1 hb2 hb3 hn1 hn2 hn3 hq2 hW3 hs1 hs2 hs3
  go_enter Try.func21, Try.ntmps21
  go_wp2_with fail
  rw [HW3.out]
  have hs1 := Hs1.out
  have hs2 := Hs2.out
  have hs3 := Hs3.out
  clear hW1 hW2 HW3 Hs1 Hs2 Hs3 q0 q1 q2
  obtain ⟨qb, hqb⟩ : ∃ k, w.heap.size = k := ⟨_, rfl⟩
  obtain ⟨rb, hrb⟩ : ∃ k, W1.heap.size = k := ⟨_, rfl⟩
  obtain ⟨fb, hfb⟩ : ∃ k, W2.heap.size = k := ⟨_, rfl⟩
  rw [hqb] at hs1 Hq3 Hb3
  rw [hrb] at hs1 hs2 Hr3
  rw [hfb] at hs2 hs3 Hn3
  rw [hqb, hrb, hfb]
  have hl1 : qb < fb := by omega
  have hl2 : rb < fb := by omega
  have hqr : qb ≤ rb := by omega
  have hl3 : fb < W3.heap.size := by omega
  clear hrb hfb hs1 hs2 hs3
  have hn0 : (rawSubs cs 0) = [] := rfl
  go_loopw [4] (fun iv wr => ∃ (k : Nat) (sv : Value), k ≤ cs.length ∧ k ≤ 20 ∧ iv = .int .i64 k ∧ wr.heap[fb]? = some (.cells #[str t, str i, str d, sv] 46 (0, 0)) ∧
    wr.ownsRow (fb + 1) 48 2 sv k (subCells (rawSubs cs k)) ∧ Below fb W3 wr) (fun iv _ => 20 - (intOf iv).toNat)
  case atStart => exact ⟨0, _, Nat.zero_le _, Nat.zero_le _, rfl, Hn3.out, World.ownsRow_nil _ _ _ _, Below.refl _ _⟩
  case round =>
    obtain ⟨k, sv, hk1, hk2, rfl, hnf, hown, hb⟩ := hrel
    have hq := (hb.block qb (by omega)).trans Hq3.out
    have q3 : wr.cell? ⟨qb, 3, none⟩ = some (str cs) := by rw [cell_at hq]; rfl
    have hfw := lt_at hnf
    have Hown := Lib.hid hown
    have Hnf := Lib.hid hnf
    have Hb := Lib.hid hb
    by_cases hlt : k < cs.length ∧ k < 20
    · obtain ⟨hlt1, hlt2⟩ := hlt
      obtain ⟨ta, tc, rfl⟩ := own_form hown
      have s3 : wr.cell? ⟨fb, 3, none⟩ = some (.slice ta k tc) := by rw [cell_at hnf]; rfl
      have s4 : wr.frozen? ⟨fb, 3, none⟩ = false := Lib.frozen_of_heap hnf 3
      have i0 : (0 : Int) ≤ (k : Int) := by omega
      have i1 : (k : Int) < (cs.length : Int) := by omega
      have i2 : (k : Int) < 20 := by omega
      obtain ⟨c, hc⟩ : ∃ c, cs[k] = c := ⟨_, rfl⟩
      have g1 : ∀ h, (ByteArray.mk cs.toArray)[k]'h = c := fun h => by rw [get_str]; exact hc
      have Hc := Lib.hid (show rawSubs cs (k + 1) = rawSubs cs k ++ [⟨c, []⟩] by rw [rawSubs_snoc cs k hlt1, hc])
      obtain ⟨i0', hi, hz0, hz1, hz2⟩ := info_parts infoSub
      have avf : Value.ownBlock (.slice ta k tc) ≠ some fb := fun e => absurd (Hown.out.lt fb e).1 (by omega)
      have avq : Value.ownBlock (.slice ta k tc) ≠ some qb := fun e => absurd (Hown.out.lt qb e).1 (by omega)
      clear hown hnf hb hq hc
      go_wp2_with fail
      obtain ⟨S, hSd⟩ : ∃ S : World → Prop, S = (fun w' : World => w'.cell? ⟨fb, 3, none⟩ = some (.slice ta k tc) ∧ w'.cell? ⟨qb, 3, none⟩ = some (str cs)) := ⟨_, rfl⟩
      have hS1 : ∀ w', S w' → w'.cell? ⟨fb, 3, none⟩ = some (.slice ta k tc) := fun w' h => by rw [hSd] at h; exact h.1
      have hS2 : ∀ w', S w' → w'.cell? ⟨qb, 3, none⟩ = some (str cs) := fun w' h => by rw [hSd] at h; exact h.2
      have hS0 : S wr.drew := by rw [hSd]; exact ⟨s3, q3⟩
      have hSm : ∀ w5 : World, (w5.cell? ⟨fb, 3, none⟩ = some (.slice ta k tc) ∧ w5.cell? ⟨qb, 3, none⟩ = some (str cs)) → S w5 := fun w5 h => by rw [hSd]; exact h
      clear hSd
      refine wp_region_C 10 11 S rfl rfl ?_
      refine wpAnyC_takeD 0 23 (.pointer (some ⟨fb, 3, none⟩)) rfl rfl rfl (by kernel_rfl) (by kernel_rfl) (by kernel_rfl) (by kernel_rfl) (fun _ _ _ h => h) (fun w5 hw5 => ?_) hS0 ?_
      · have z1 := hS1 w5 hw5; have z2 := hS2 w5 hw5
        simp only [List.getElem_toArray, List.getElem_cons_zero, List.getElem_cons_succ]
        go_simp
      simp only [Act.put, List.setIfInBounds_toArray, List.set_cons_zero, List.set_cons_succ]
      refine wpAnyC_takeD 1 24 (.slice ta k tc) rfl rfl rfl (by kernel_rfl) (by kernel_rfl) (by kernel_rfl) (by kernel_rfl) (fun _ _ _ h => h) (fun w5 hw5 => ?_) hS0 ?_
      · have z1 := hS1 w5 hw5; have z2 := hS2 w5 hw5
        simp only [List.getElem_toArray, List.getElem_cons_zero, List.getElem_cons_succ]
        go_simp
      simp only [Act.put, List.setIfInBounds_toArray, List.set_cons_zero, List.set_cons_succ]
      refine wpAnyC_takeD 2 25 (.pointer (some ⟨qb, 3, none⟩)) rfl rfl rfl (by kernel_rfl) (by kernel_rfl) (by kernel_rfl) (by kernel_rfl) (fun _ _ _ h => h) (fun w5 hw5 => ?_) hS0 ?_
      · have z1 := hS1 w5 hw5; have z2 := hS2 w5 hw5
        simp only [List.getElem_toArray, List.getElem_cons_zero, List.getElem_cons_succ]
        go_simp
      simp only [Act.put, List.setIfInBounds_toArray, List.set_cons_zero, List.set_cons_succ]
      refine wpAnyC_takeD 3 26 (str cs) rfl rfl rfl (by kernel_rfl) (by kernel_rfl) (by kernel_rfl) (by kernel_rfl) (fun _ _ _ h => h) (fun w5 hw5 => ?_) hS0 ?_
      · have z1 := hS1 w5 hw5; have z2 := hS2 w5 hw5
        simp only [List.getElem_toArray, List.getElem_cons_zero, List.getElem_cons_succ]
        go_simp
      simp only [Act.put, List.setIfInBounds_toArray, List.set_cons_zero, List.set_cons_succ]
      refine wpAnyC_takeD 4 27 (.int .i64 k) rfl rfl rfl (by kernel_rfl) (by kernel_rfl) (by kernel_rfl) (by kernel_rfl) (fun _ _ _ h => h) (fun w5 hw5 => ?_) hS0 ?_
      · have z1 := hS1 w5 hw5; have z2 := hS2 w5 hw5
        simp only [List.getElem_toArray, List.getElem_cons_zero, List.getElem_cons_succ]
        go_simp
      simp only [Act.put, List.setIfInBounds_toArray, List.set_cons_zero, List.set_cons_succ]
      refine wpAnyC_takeD 5 28 (.int .u8 (c.toNat : Int)) rfl rfl rfl (by kernel_rfl) (by kernel_rfl) (by kernel_rfl) (by kernel_rfl) (fun _ _ _ h => h) (fun w5 hw5 => ?_) hS0 ?_
      · have z1 := hS1 w5 hw5; have z2 := hS2 w5 hw5
        simp only [List.getElem_toArray, List.getElem_cons_zero, List.getElem_cons_succ]
        go_simp
      simp only [Act.put, List.setIfInBounds_toArray, List.set_cons_zero, List.set_cons_succ]
      refine wpAnyC_takeD 6 29 (.agg #[.int .u8 (c.toNat : Int), .string ⟨#[]⟩]) rfl rfl rfl (by kernel_rfl) (by kernel_rfl) (by kernel_rfl) (by kernel_rfl) (fun _ _ _ h => h) (fun w5 hw5 => ?_) hS0 ?_
      · have z1 := hS1 w5 hw5; have z2 := hS2 w5 hw5
        simp only [List.getElem_toArray, List.getElem_cons_zero, List.getElem_cons_succ]
        go_simp
      simp only [Act.put, List.setIfInBounds_toArray, List.set_cons_zero, List.set_cons_succ]
      refine wpAnyC_step (k := 7) rfl (by kernel_rfl) (fun K hK => ?_)
      rw [if_pos (by rfl)]
      go_wp2_with fail
      refine hK _ _ (fun _ => hSm _ ⟨cell_al _ s3, cell_al _ q3⟩) ?_
      clear hK
      refine wpAnyC_step (k := 8) rfl (by kernel_rfl) (fun K hK => ?_)
      rw [if_pos (by rfl)]
      refine wp_append_lies _ _ _ _ (by rfl) (fb + 1) 48 i0' _ 2 24 Try.underlying44 hi hz0 hz1 hz2 rfl (by omega) _ k _ (by rfl) ((Hown.out.alloc _).drew) ⟨wr.heap.size, 0, none⟩ 1 1 [.int .u8 (c.toNat : Int), .string ⟨#[]⟩] (by rfl) (by rfl) (two_cells wr _ _ _) (by simp [Value.oneCell']) (by omega) (by unfold maxLen; omega) (by omega) (by simp; omega) (wr.heap.size + 1) (by simp) ?_
      intro gg cap2 w4 hown4 hgrow hat hlt4
      simp only [Act.put, List.setIfInBounds_toArray, List.set_cons_zero, List.set_cons_succ]
      obtain ⟨hnf4, hfz4, hc4⟩ := fld_app Hnf.out avf hgrow
      have hq4 := grown_cell4 hgrow q3 avq
      refine hK _ _ (fun _ => hSm _ ⟨hc4, hq4⟩) ?_
      clear hK
      refine wpAnyC_step (k := 9) rfl (by kernel_rfl) (fun K hK => ?_)
      rw [if_pos (by rfl)]
      go_wp2_with fail
      refine hK _ _ (fun _ => hSm _ ⟨hc4, hq4⟩) ?_
      clear hK
      refine wpAnyC_step (k := 10) rfl (by kernel_rfl) (fun K hK => ?_)
      rw [if_pos (by rfl)]
      go_wp2_with fail
      refine hK _ _ (fun h => absurd (of_decide_eq_true h) (by decide)) ?_
      clear hK
      refine wpAnyC_done (by kernel_rfl) ?_
      clear hS0 hSm hS1 hS2
      obtain ⟨e1, e2, e3⟩ := fld_next (s := ⟨c, []⟩) Hb.out Hnf.out Hown.out hown4 hgrow (rawSubs_len cs k hk1)
      rw [← Hc.out] at e2
      rw [rawSubs_len cs (k + 1) hlt1] at e2
      have E1 := Lib.hid e1
      have E2 := Lib.hid e2
      have E3 := Lib.hid e3
      clear e1 e2 e3 hown4 hgrow hnf4 hfz4 hc4 hq4 hat hlt4 hi hz0 hz1 hz2 avf avq s3 s4 q3
      go_wp2
      go_roundw
      case rel => exact ⟨k + 1, _, hlt1, hlt2, by go_num, E1.out, E2.out, E3.out⟩
      case measure => simp [intOf]; omega
    · obtain ⟨ta, tc, rfl⟩ := own_form hown
      have hks : rawSubs cs k = rawSubs cs 20 := by
        unfold rawSubs
        congr 1
        rcases (show k = cs.length ∨ k = 20 by omega) with h | h
        · rw [h, List.take_of_length_le (Nat.le_refl _), List.take_of_length_le (by omega)]
        · rw [h]
      have d0 : wr.cell? ⟨fb, 0, none⟩ = some (str t) := by rw [cell_at hnf]; rfl
      have d1 : wr.cell? ⟨fb, 1, none⟩ = some (str i) := by rw [cell_at hnf]; rfl
      have d2 : wr.cell? ⟨fb, 2, none⟩ = some (str d) := by rw [cell_at hnf]; rfl
      have d3 : wr.cell? ⟨fb, 3, none⟩ = some (.slice ta k tc) := by rw [cell_at hnf]; rfl
      have h0 := (hb.block rb hl2).trans Hr3.out
      have h1 := blk_set h0 0 (str t)
      have h2 := blk_set h1 1 (str i)
      have h3 := blk_set h2 2 (str d)
      have h4 := blk_set h3 3 (.slice ta k tc)
      have r0 : wr.cell? ⟨rb, 0, none⟩ = some (.string ⟨#[]⟩) := by rw [cell_at h0]; rfl
      have f0 : wr.frozen? ⟨rb, 0, none⟩ = false := Lib.frozen_of_heap h0 0
      obtain ⟨X1, hX1⟩ : ∃ x, wr.setCell ⟨rb, 0, none⟩ (str t) = x := ⟨_, rfl⟩
      rw [hX1] at h1 h2 h3 h4
      have r1 : X1.cell? ⟨rb, 1, none⟩ = some (.string ⟨#[]⟩) := by rw [cell_at h1]; rfl
      have f1 : X1.frozen? ⟨rb, 1, none⟩ = false := Lib.frozen_of_heap h1 1
      obtain ⟨X2, hX2⟩ : ∃ x, X1.setCell ⟨rb, 1, none⟩ (str i) = x := ⟨_, rfl⟩
      rw [hX2] at h2 h3 h4
      have r2 : X2.cell? ⟨rb, 2, none⟩ = some (.string ⟨#[]⟩) := by rw [cell_at h2]; rfl
      have f2 : X2.frozen? ⟨rb, 2, none⟩ = false := Lib.frozen_of_heap h2 2
      obtain ⟨X3, hX3⟩ : ∃ x, X2.setCell ⟨rb, 2, none⟩ (str d) = x := ⟨_, rfl⟩
      rw [hX3] at h3 h4
      have r3 : X3.cell? ⟨rb, 3, none⟩ = some (.slice none 0 0) := by rw [cell_at h3]; rfl
      have f3 : X3.frozen? ⟨rb, 3, none⟩ = false := Lib.frozen_of_heap h3 3
      obtain ⟨X4, hX4⟩ : ∃ x, X3.setCell ⟨rb, 3, none⟩ (.slice ta k tc) = x := ⟨_, rfl⟩
      rw [hX4] at h4
      have e0 : X4.cell? ⟨rb, 0, none⟩ = some (str t) := by rw [cell_at h4]; rfl
      have e1 : X4.cell? ⟨rb, 1, none⟩ = some (str i) := by rw [cell_at h4]; rfl
      have e2 : X4.cell? ⟨rb, 2, none⟩ = some (str d) := by rw [cell_at h4]; rfl
      have e3 : X4.cell? ⟨rb, 3, none⟩ = some (.slice ta k tc) := by rw [cell_at h4]; rfl
      have hbw : Below qb w X4 := by
        rw [← hX4, ← hX3, ← hX2, ← hX1]
        exact ((((Hb3.out.trans (hb.mono (by omega))).setCell (p := ⟨rb, 0, none⟩) hqr _).setCell (p := ⟨rb, 1, none⟩) hqr _).setCell (p := ⟨rb, 2, none⟩) hqr _).setCell (p := ⟨rb, 3, none⟩) hqr _
      have hbf : Below wr.heap.size wr wr := Below.refl _ _
      have hsub : SubsAt X4 (.slice ta k tc) (rawSubs cs 20) := by
        rw [← hks]
        have hw : X4.ownsRow (fb + 1) 48 2 (.slice ta k tc) (rawSubs cs k).length (subCells (rawSubs cs k)) := by
          rw [rawSubs_len cs k hk1, ← hX4, ← hX3, ← hX2, ← hX1]
          exact own_far (own_far (own_far (own_far hown (by omega)) (by omega)) (by omega)) (by omega)
        exact subs_of_own hw
      have HR := Lib.hid (And.intro hsub hbw)
      have n1 : ¬ (k : Int) < (cs.length : Int) ∨ ((k : Int) < (cs.length : Int) ∧ ¬ (k : Int) < 20) := by omega
      clear hnf hown hb h0 h1 h2 h3 h4 hsub hbw hbf hks
      rcases n1 with n1 | ⟨n1, n2⟩
      · go_wp2
        refine bodyPost_ret (v := .agg #[str t, str i, str d, .slice ta k tc]) ?_ rfl ⟨_, rfl, HR.out.1, HR.out.2⟩
        simp [results, Try.results21, go_sem, e0, e1, e2, e3]
      · go_wp2
        refine bodyPost_ret (v := .agg #[str t, str i, str d, .slice ta k tc]) ?_ rfl ⟨_, rfl, HR.out.1, HR.out.2⟩
        simp [results, Try.results21, go_sem, e0, e1, e2, e3]
end Go.Proofs.Ytfccpepmjklodaa
