/-
  A record in a block of its own, its fields in a row of its own, their subfields in rows of their own; appending a field; giving the record back.
-/
import Derived.Test.YtfccpepmjklodaaSNum
namespace Go.Proofs.Ytfccpepmjklodaa
open Go.RowKit Go.Shelf
set_option linter.unusedVariables false
set_option linter.unusedSimpArgs false

theorem own_same {w w' : World} {B : Nat} {e : TypeId} {sz n : Nat} {v : Value} {xs : List Value} (h : w.ownsRow B e sz v n xs) (hs : ∀ g, B ≤ g → g < w.heap.size → w'.heap[g]? = w.heap[g]?) : w'.ownsRow B e sz v n xs := by
  refine ⟨h.1, ?_⟩
  rcases h.2 with h0 | ⟨g, cap, cur, hv, hbg, hg, rest⟩
  · exact .inl h0
  · exact .inr ⟨g, cap, cur, hv, hbg, (hs g hbg (lt_at hg)).trans hg, rest⟩
theorem far_set (w : World) (g j : Nat) (v : Value) {k : Nat} (h : k ≠ g) : (w.setCell ⟨g, j, none⟩ v).heap[k]? = w.heap[k]? := Below.heap_setCell _ _ _ _ h
theorem own_ty {w : World} {B : Nat} {e T : TypeId} {sz n : Nat} {v : Value} {xs : List Value} {g : Nat} {cs : Array Value} (h : w.ownsRow B e sz v n xs) (hg : w.heap[g]? = some (.cells cs T (0, 0))) (hT : T ≠ e) : some g ≠ v.ownBlock := by
  intro e1
  rcases h.2 with ⟨h1, _⟩ | ⟨g', cap', cur', hv', _, hg', _⟩
  · rw [h1] at e1; simp [Value.ownBlock] at e1
  · rw [hv'] at e1
    simp only [Value.ownBlock, Option.some.injEq] at e1
    subst e1
    rw [hg] at hg'
    cases hg'
    exact hT rfl
def fldCells (l : List (FldM × Value)) : List Value := l.flatMap fldL
theorem fldCells_snoc (l : List (FldM × Value)) (p : FldM × Value) : fldCells (l ++ [p]) = fldCells l ++ [str p.1.tag, str p.1.ind, str p.1.data, p.2] := by simp [fldCells, fldL]
theorem flds_of_own {w : World} {B : Nat} {v : Value} {l : List (FldM × Value)} (h : w.ownsRow B 46 4 v l.length (fldCells l)) (hs : ∀ p ∈ l, SubsAt w p.2 p.1.subs) : FldsAt w v (l.map (·.1)) := by
  rcases h.2 with ⟨hv, h0⟩ | ⟨g, cap, cur, hv, hbg, hg, hnc, hcm, hcs, htake⟩
  · left
    have : l = [] := List.length_eq_zero_iff.1 h0
    subst this
    exact ⟨none, 0, hv, rfl⟩
  · refine .inr ⟨g, 0, cap, by rw [List.length_map]; exact hv, by rw [List.length_map]; simp only [maxLen] at *; omega, lt_at hg, fun i hi => ?_⟩
    rw [List.length_map] at hi
    have hx : ∀ j, j < l.length * 4 → cur[j]? = (fldCells l)[j]? := by
      intro j hj
      rw [← htake, List.getElem?_take_of_lt hj, Array.getElem?_toList]
    simp only [cell_at hg, Nat.zero_add, List.getElem_map]
    have f := fun j (hj : j < 4) => (hx (i * 4 + j) (by omega)).trans (flat4 l i j hi hj)
    exact ⟨f 0 (by omega), f 1 (by omega), f 2 (by omega), _, f 3 (by omega), hs _ (List.getElem_mem hi)⟩
/-- Block p is a record of these fields, in a row from block p + 1 on; sv is the row's value. -/
def RecO (w : World) (p : Nat) (kd lv : UInt8) (l : List (FldM × Value)) (sv : Value) : Prop :=
  w.heap[p]? = some (.cells #[.int .u8 (kd.toNat : Int), .int .u8 (lv.toNat : Int), sv] 32 (0, 0)) ∧ w.ownsRow (p + 1) 46 4 sv l.length (fldCells l)
theorem RecO.cells {w : World} {p : Nat} {kd lv : UInt8} {l : List (FldM × Value)} {sv : Value} (h : RecO w p kd lv l sv) :
    w.cell? ⟨p, 0, none⟩ = some (.int .u8 (kd.toNat : Int)) ∧ w.cell? ⟨p, 1, none⟩ = some (.int .u8 (lv.toNat : Int)) ∧ w.cell? ⟨p, 2, none⟩ = some sv ∧ w.frozen? ⟨p, 2, none⟩ = false :=
  ⟨by rw [cell_at h.1]; rfl, by rw [cell_at h.1]; rfl, by rw [cell_at h.1]; rfl, Lib.frozen_of_heap h.1 2⟩
theorem RecO.below {w w' : World} {B p : Nat} {kd lv : UInt8} {l : List (FldM × Value)} {sv : Value} (h : RecO w p kd lv l sv) (hb : Below B w w') (hB : w.heap.size ≤ B) : RecO w' p kd lv l sv :=
  ⟨(hb.block p (Nat.lt_of_lt_of_le (lt_at h.1) hB)).trans h.1, own_same h.2 (fun g _ hg => hb.block g (Nat.lt_of_lt_of_le hg hB))⟩
theorem fld_cells (w : World) (c0 c1 c2 c3 : Value) (T : TypeId) (j : Nat) (u : Value) (hu : [c0, c1, c2, c3][j]? = some u) : (w.alloc (.cells #[c0, c1, c2, c3] T)).cell? ((⟨w.heap.size, 0, none⟩ : Addr).add j) = some u := by
  have e : ((⟨w.heap.size, 0, none⟩ : Addr).add j) = ⟨w.heap.size, j, none⟩ := by
    unfold Addr.add
    split
    · rename_i h0; rw [h0]
    · simp
  rw [e, cell_at (new_at _ _)]
  simpa using hu
theorem infoFld : (Try.prog.info? 46).map (fun i => (i.zero, i.size, i.bytes)) = some (some (.agg #[.string ⟨#[]⟩, .string ⟨#[]⟩, .string ⟨#[]⟩, .slice none 0 0]), 4, 72) := by kernel_rfl
/-- The fields' subfields lie in rows of their own. -/
def Accs (w : World) (B : Nat) (l : List (FldM × Value)) : Prop := ∀ q ∈ l, w.ownsRow B 48 2 q.2 q.1.subs.length (subCells q.1.subs)
/-- What a function keeps that makes a record in block p for the result in block R; w: the world at its call. -/
structure Mk (w W : World) (R p : Nat) (kd lv : UInt8) (acc : List (FldM × Value)) (sv : Value) : Prop where
  rec_ : RecO W p kd lv acc sv
  accs : Accs W (p + 1) acc
  res : W.heap[R]? = some (.cells #[.int .u8 0, .int .u8 0, .slice none 0 0] 32 (0, 0))
  bel : Below w.heap.size w W
  l1 : w.heap.size ≤ R
  l2 : R < p
section
variable {w W W' : World} {R p : Nat} {kd lv : UInt8} {acc : List (FldM × Value)} {sv : Value}
theorem Mk.below (h : Mk w W R p kd lv acc sv) (hb : Below W.heap.size W W') : Mk w W' R p kd lv acc sv :=
  ⟨h.rec_.below hb (Nat.le_refl _), fun q hq => own_bel (h.accs q hq) hb, heap_below hb (Nat.le_refl _) h.res, below_tr h.bel hb, h.l1, h.l2⟩
/-- Behind an append of one field: the world in which the store has been done. -/
theorem Mk.app {w8 : World} {o : Obj} {v' : Value} {f : FldM} {s2 : Value} (h : Mk w W R p kd lv acc sv)
    (hown : w8.ownsRow (p + 1) 46 4 v' (acc.length + 1) (fldCells acc ++ [str f.tag, str f.ind, str f.data, s2])) (hg : (W.alloc o).grownBy w8 sv.ownBlock)
    (hs : W.ownsRow (p + 1) 48 2 s2 f.subs.length (subCells f.subs)) :
    w8.cell? ⟨p, 2, none⟩ = some sv ∧ w8.frozen? ⟨p, 2, none⟩ = false ∧ Mk w (w8.setCell ⟨p, 2, none⟩ v') R p kd lv (acc ++ [(f, s2)]) v' ∧ Below p W (w8.setCell ⟨p, 2, none⟩ v') := by
  have hlt := lt_at h.rec_.1
  have l1 := h.l1
  have l2 := h.l2
  have hne : some p ≠ sv.ownBlock := fun e => by have := (h.rec_.2.lt p e.symm).1; omega
  have hp8 : w8.heap[p]? = some (.cells #[.int .u8 (kd.toNat : Int), .int .u8 (lv.toNat : Int), sv] 32 (0, 0)) :=
    ((hg.block p (by simp; omega) hne).trans ((below_new W o).block p hlt)).trans h.rec_.1
  have hbel : Below p W (w8.setCell ⟨p, 2, none⟩ v') := by
    have hb0 : Below p W w8 := Below.grown (Below.alloc (Below.refl p W) (by omega) o) hg (by simp; omega) (fun k hk => by have := (h.rec_.2.lt k hk).1; omega)
    exact Below.setCell hb0 (p := ⟨p, 2, none⟩) (Nat.le_refl _) _
  have keep : ∀ g, g < W.heap.size → g ≠ p → some g ≠ sv.ownBlock → (w8.setCell ⟨p, 2, none⟩ v').heap[g]? = W.heap[g]? := by
    intro g hgl hgp hgs
    rw [far_set w8 p 2 _ hgp]
    exact (hg.block g (by simp; omega) hgs).trans ((below_new W o).block g hgl)
  have sub : ∀ {q : Value} {n : Nat} {xs : List Value}, W.ownsRow (p + 1) 48 2 q n xs → (w8.setCell ⟨p, 2, none⟩ v').ownsRow (p + 1) 48 2 q n xs := by
    intro q n xs hq
    refine ⟨hq.1, ?_⟩
    rcases hq.2 with h0 | ⟨g, cap, cur, hv, hbg, hgg, rest⟩
    · exact .inl h0
    · exact .inr ⟨g, cap, cur, hv, hbg, (keep g (lt_at hgg) (by omega) (own_ty h.rec_.2 hgg (by decide))).trans hgg, rest⟩
  refine ⟨by rw [cell_at hp8]; rfl, Lib.frozen_of_heap hp8 2, ⟨⟨by simp [World.setCell, Array.getElem?_modify, hp8], ?_⟩, fun q hq => ?_, ?_, h.bel.trans (hbel.mono (by omega)), h.l1, h.l2⟩, hbel⟩
  · rw [fldCells_snoc, List.length_append]
    exact own_same hown (fun g hg' _ => far_set w8 p 2 _ (by omega))
  · rcases List.mem_append.1 hq with hq | hq
    · exact sub (h.accs q hq)
    · rw [List.mem_singleton.1 hq]; exact sub hs
  · exact (keep R (lt_at h.res) (by omega) (own_ty (e := 46) h.rec_.2 h.res (by decide))).trans h.res
end
def fin3 (W : World) (g : Nat) (x y z : Value) : World := ((W.setCell ⟨g, 0, none⟩ x).setCell ⟨g, 1, none⟩ y).setCell ⟨g, 2, none⟩ z
/-- A record that a function gives back: its blocks are new. -/
def MkPost (w : World) (r : RecM) (e : Ending) (w' : World) : Prop := ∃ (p : Nat) (acc : List (FldM × Value)) (sv : Value), e = .returned (.agg #[.int .u8 (r.kind.toNat : Int), .int .u8 (r.level.toNat : Int), sv]) ∧
  w'.ownsRow (p + 1) 46 4 sv acc.length (fldCells acc) ∧ Accs w' (p + 1) acc ∧ acc.map (·.1) = r.fields ∧ Below w.heap.size w w' ∧ w.heap.size ≤ p
theorem MkPost.recV {w w' : World} {p : Nat} {acc : List (FldM × Value)} {sv : Value} {r : RecM} (h1 : w'.ownsRow (p + 1) 46 4 sv acc.length (fldCells acc)) (h2 : Accs w' (p + 1) acc) (h3 : acc.map (·.1) = r.fields) :
    RecV w' (.agg #[.int .u8 (r.kind.toNat : Int), .int .u8 (r.level.toNat : Int), sv]) r :=
  ⟨_, rfl, by rw [← h3]; exact flds_of_own h1 (fun q hq => subs_of_own (h2 q hq))⟩
theorem mk_end {w W : World} {R p : Nat} {kd lv : UInt8} {acc : List (FldM × Value)} {sv : Value} (h : Mk w W R p kd lv acc sv) (r : RecM) (hr : r = ⟨kd, lv, acc.map (·.1)⟩) :
    MkPost w r (.returned (.agg #[.int .u8 (kd.toNat : Int), .int .u8 (lv.toNat : Int), sv])) (fin3 W R (.int .u8 (kd.toNat : Int)) (.int .u8 (lv.toNat : Int)) sv) ∧
    ((fin3 W R (.int .u8 (kd.toNat : Int)) (.int .u8 (lv.toNat : Int)) sv).cell? ⟨R, 0, none⟩ = some (.int .u8 (kd.toNat : Int)) ∧
    (fin3 W R (.int .u8 (kd.toNat : Int)) (.int .u8 (lv.toNat : Int)) sv).cell? ⟨R, 1, none⟩ = some (.int .u8 (lv.toNat : Int)) ∧
    (fin3 W R (.int .u8 (kd.toNat : Int)) (.int .u8 (lv.toNat : Int)) sv).cell? ⟨R, 2, none⟩ = some sv) ∧
    (W.cell? ⟨R, 0, none⟩ = some (.int .u8 0) ∧ W.frozen? ⟨R, 0, none⟩ = false) ∧
    ((W.setCell ⟨R, 0, none⟩ (.int .u8 (kd.toNat : Int))).cell? ⟨R, 1, none⟩ = some (.int .u8 0) ∧ (W.setCell ⟨R, 0, none⟩ (.int .u8 (kd.toNat : Int))).frozen? ⟨R, 1, none⟩ = false) ∧
    (((W.setCell ⟨R, 0, none⟩ (.int .u8 (kd.toNat : Int))).setCell ⟨R, 1, none⟩ (.int .u8 (lv.toNat : Int))).cell? ⟨R, 2, none⟩ = some (.slice none 0 0) ∧ ((W.setCell ⟨R, 0, none⟩ (.int .u8 (kd.toNat : Int))).setCell ⟨R, 1, none⟩ (.int .u8 (lv.toNat : Int))).frozen? ⟨R, 2, none⟩ = false) := by
  subst hr
  have l1 := h.l1
  have l2 := h.l2
  have h1 := blk_set h.res 0 (.int .u8 (kd.toNat : Int))
  have h2 := blk_set h1 1 (.int .u8 (lv.toNat : Int))
  have h3 := blk_set h2 2 sv
  have far : ∀ g, g ≠ R → (fin3 W R (.int .u8 (kd.toNat : Int)) (.int .u8 (lv.toNat : Int)) sv).heap[g]? = W.heap[g]? := fun g hg => by
    unfold fin3
    rw [far_set _ _ 2 _ hg, far_set _ _ 1 _ hg, far_set _ _ 0 _ hg]
  have hnew : (fin3 W R (.int .u8 (kd.toNat : Int)) (.int .u8 (lv.toNat : Int)) sv).heap[R]? = some (.cells #[.int .u8 (kd.toNat : Int), .int .u8 (lv.toNat : Int), sv] 32 (0, 0)) := by
    unfold fin3
    simpa using h3
  have hbel : Below w.heap.size w (fin3 W R (.int .u8 (kd.toNat : Int)) (.int .u8 (lv.toNat : Int)) sv) := by
    unfold fin3
    exact below_set (below_set (below_set h.bel l1 _ _) l1 _ _) l1 _ _
  refine ⟨⟨p, acc, sv, rfl, own_same h.rec_.2 (fun g hg _ => far g (by omega)), fun q hq => own_same (h.accs q hq) (fun g hg _ => far g (by omega)), rfl, hbel, by omega⟩,
    ⟨by rw [cell_at hnew]; rfl, by rw [cell_at hnew]; rfl, by rw [cell_at hnew]; rfl⟩, ⟨by rw [cell_at h.res]; rfl, Lib.frozen_of_heap h.res 0⟩, ⟨by rw [cell_at h1]; rfl, Lib.frozen_of_heap h1 1⟩, by rw [cell_at h2]; rfl, Lib.frozen_of_heap h2 2⟩
end Go.Proofs.Ytfccpepmjklodaa
