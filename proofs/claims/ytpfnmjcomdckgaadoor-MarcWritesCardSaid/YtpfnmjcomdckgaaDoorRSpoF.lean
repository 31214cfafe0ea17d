/-
  One subfield is appended to one field's.
-/
import Derived.Test.YtpfnmjcomdckgaaDoorRSpoD
namespace Go.Proofs.YtpfnmjcomdckgaaDoor
open Go.RowKit Go.Shelf
set_option linter.unusedVariables false
set_option linter.unusedSimpArgs false
theorem own_none_or {W : World} {B : Nat} {e : TypeId} {sz n : Nat} {v : Value} {xs : List Value} (h : W.ownsRow B e sz v n xs) {g : Nat} {cs : Array Value} {e' : TypeId} (hg : W.heap[g]? = some (.cells cs e' (0, 0))) (he : e ≠ e') : v.ownBlock ≠ some g := by
  rcases h.2 with ⟨h0, _⟩ | ⟨g', cap', cur', hv', hb', hg', rest⟩
  · rw [h0]; simp [Value.ownBlock]
  · rw [hv']
    simp only [Value.ownBlock, ne_eq, Option.some.injEq]
    intro e1
    rw [e1, hg] at hg'
    simp only [Option.some.injEq, Obj.cells.injEq] at hg'
    exact he hg'.2.1.symm
theorem SpI.app {w W W8 : World} {o : Obj} {ob : Nat} {kd lv : UInt8} {acc : List (FldM × Value)} {g cap n : Nat} (h : SpI w W ob kd lv acc (.slice (some ⟨g, 0, none⟩) n cap)) (m : Nat) (hm : m < acc.length) (s : SubM) {v' : Value}
    (hown : W8.ownsRow (ob + 1) 64 2 v' (acc[m].1.subs.length + 1) (subCells (acc[m].1.subs ++ [s]))) (hgrow : (W.alloc o).grownBy W8 acc[m].2.ownBlock) (hblk : v'.ownBlock = acc[m].2.ownBlock ∨ ∃ b, v'.ownBlock = some b ∧ W.heap.size ≤ b) :
    SpI w (W8.setCell ⟨g, m * 4 + 3, none⟩ v') ob kd lv (acc.set m ({acc[m].1 with subs := acc[m].1.subs ++ [s]}, v')) (.slice (some ⟨g, 0, none⟩) n cap) ∧
    W8.cell? ⟨g, m * 4 + 3, none⟩ = some acc[m].2 ∧ W8.frozen? ⟨g, m * 4 + 3, none⟩ = false ∧ ∀ b, b ≤ ob → W8.heap[b]? = W.heap[b]? := by
  have hrow := h.rec_.2
  have hn : n = acc.length := by
    rcases hrow.2 with ⟨h0, _⟩ | ⟨g', cap', cur, hv, _⟩
    · cases h0
    · simp only [Value.slice.injEq] at hv; exact hv.2.1
  subst hn
  obtain ⟨cur, hg⟩ : ∃ cur, W.heap[g]? = some (.cells cur 62 (0, 0)) := by
    rcases hrow.2 with ⟨h0, _⟩ | ⟨g', cap', cur, hv, hb, hg, _⟩
    · cases h0
    · simp only [Value.slice.injEq, Option.some.injEq, Addr.mk.injEq] at hv
      exact ⟨cur, by rw [hv.1.1]; exact hg⟩
  obtain ⟨hb1, hgsz, -⟩ := sp_at h hm
  have hobs := lt_at h.rec_.1
  have hsubm : W.ownsRow (ob + 1) 64 2 acc[m].2 acc[m].1.subs.length (subCells acc[m].1.subs) := h.subs acc[m] (List.getElem_mem hm)
  have hng : acc[m].2.ownBlock ≠ some g := own_none_or hsubm hg (by decide)
  have gr : ∀ b, b < W.heap.size → some b ≠ acc[m].2.ownBlock → W8.heap[b]? = W.heap[b]? := fun b hb h2 => (hgrow.block b (by simp; omega) h2).trans ((below_new W _).block b hb)
  have far : ∀ b, b < W.heap.size → b ≠ g → some b ≠ acc[m].2.ownBlock → (W8.setCell ⟨g, m * 4 + 3, none⟩ v').heap[b]? = W.heap[b]? := fun b hb h1 h2 => (far_set _ _ _ _ h1).trans (gr b hb h2)
  have hg8 := (gr g hgsz (fun e => hng e.symm)).trans hg
  obtain ⟨h1, -⟩ := hrow.stored (m * 4 + 3) v'
  rw [fldCells_set acc m 3 hm ({acc[m].1 with subs := acc[m].1.subs ++ [s]}, v') v' (by omega) rfl] at h1
  have hmo : ∀ b, acc[m].2.ownBlock = some b → ob + 1 ≤ b := fun b hb => (hsubm.lt b hb).1
  have hcc : W8.cell? ⟨g, m * 4 + 3, none⟩ = some acc[m].2 := by
    obtain ⟨-, -, -, -, -, c3, -⟩ := sp_at h hm
    rw [cell_at hg8, ← cell_at hg]; exact c3
  refine ⟨?_, hcc, Lib.frozen_of_heap hg8 _, fun b hb => gr b (by omega) (fun e => by have := hmo b e.symm; omega)⟩
  refine ⟨⟨(far ob hobs (by omega) (fun e => by have := hmo ob e.symm; omega)).trans h.rec_.1, ?_⟩, ?_, ?_, ?_, h.hob⟩
  · rw [List.length_set]
    refine ⟨h1.1, ?_⟩
    rcases h1.2 with ⟨h0, _⟩ | ⟨g', cap', cur', hv, hb, hg', rest⟩
    · cases h0
    · refine .inr ⟨g', cap', cur', hv, hb, ?_, rest⟩
      simp only [Value.slice.injEq, Option.some.injEq, Addr.mk.injEq] at hv
      rw [← hv.1.1] at hg' ⊢
      rw [blk_set hg] at hg'
      rw [blk_set hg8]
      exact hg'
  · intro q hq
    obtain ⟨i, hi, rfl⟩ := List.getElem_of_mem hq
    rw [List.length_set] at hi
    simp only [List.getElem_set]
    by_cases hmi : m = i
    · rw [if_pos hmi]
      have : W8.ownsRow (ob + 1) 64 2 v' (acc[m].1.subs ++ [s]).length (subCells (acc[m].1.subs ++ [s])) := by rw [List.length_append]; exact hown
      refine ⟨this.1, ?_⟩
      rcases this.2 with h0 | ⟨g', cap', cur', hv', hb', hg', rest⟩
      · exact .inl h0
      · refine .inr ⟨g', cap', cur', hv', hb', (far_set _ _ _ _ (fun e => ?_)).trans hg', rest⟩
        rw [e, hg8] at hg'
        exact absurd hg' (by simp)
    · rw [if_neg hmi]
      have hx := h.subs acc[i] (List.getElem_mem hi)
      refine ⟨hx.1, ?_⟩
      rcases hx.2 with h0 | ⟨g', cap', cur', hv', hb', hg', rest⟩
      · exact .inl h0
      · have hgi : acc[i].2.ownBlock = some g' := by rw [hv']; rfl
        refine .inr ⟨g', cap', cur', hv', hb', (far g' (lt_at hg') (fun e => ?_) (fun e => ?_)).trans hg', rest⟩
        · exact own_none_or hx hg (by decide) (by rw [hgi, e])
        · rcases h.dist.ne hi hm (fun e => hmi e.symm) with h0 | h0
          · rw [hgi] at h0; cases h0
          · exact h0 (hgi.trans e)
  · refine dist_set h.dist m _ (fun i hi hne => ?_)
    rcases hblk with h0 | ⟨b, h0, hb⟩
    · show v'.ownBlock = none ∨ v'.ownBlock ≠ _
      rw [h0]
      exact h.dist.ne hm hi (fun e => hne e.symm)
    · right
      show v'.ownBlock ≠ _
      rw [h0]
      intro e
      have := ((h.subs acc[i] (List.getElem_mem hi)).lt b e.symm).2
      omega
  · refine (h.bel.trans ?_).setCell (p := ⟨g, m * 4 + 3, none⟩) (by have := h.hob; show w.heap.size ≤ g; omega) v'
    have hsz := h.bel.size
    exact ((below_new W o).mono hsz).grown hgrow (by simp; omega) (fun b hb => by have := hmo b hb; have := h.hob; omega)
end Go.Proofs.YtpfnmjcomdckgaaDoor
