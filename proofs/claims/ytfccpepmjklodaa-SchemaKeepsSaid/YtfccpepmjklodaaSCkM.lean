/-
  What Check keeps in memory; its problems, step by step.
-/
import Derived.Test.YtfccpepmjklodaaSFirst
namespace Go.Proofs.Ytfccpepmjklodaa
open Go.RowKit Go.Shelf Go.Maps Go.ChangeMaps
set_option linter.unusedVariables false
set_option linter.unusedSimpArgs false

theorem ix_of {rules : List RuleM} {t : List UInt8} : (ruleIx rules t = none ∧ ruleOf rules t = none) ∨ ∃ j, ∃ h : j < rules.length, ruleIx rules t = some j ∧ ruleOf rules t = some rules[j] := by
  unfold ruleIx ruleOf
  induction rules with
  | nil => exact .inl ⟨rfl, rfl⟩
  | cons r l ih =>
    rw [List.findIdx?_cons, List.find?_cons]
    cases hm : matchB t r.tag with
    | true => exact .inr ⟨0, by simp, by simp, by simp⟩
    | false =>
      rcases ih with ⟨h1, h2⟩ | ⟨j, hj, h1, h2⟩
      · left; simp [h1, h2]
      · right; exact ⟨j + 1, by simp; omega, by simp [h1], by simpa using h2⟩
def seenOf (ts : List (List UInt8)) : List UInt8 → Option Bool := fun t => if ts.contains t then some true else none
theorem seenOf_get (ts : List (List UInt8)) (t : List UInt8) : (seenOf ts t).getD false = ts.contains t := by
  unfold seenOf
  split
  · rename_i h; rw [h]; rfl
  · rename_i h; simp at h; simp [h]
theorem seenOf_put (ts : List (List UInt8)) (t : List UInt8) : putS (seenOf ts) t true = seenOf (ts ++ [t]) := by
  funext x
  unfold putS seenOf
  by_cases e : x = t
  · subst e
    rw [if_pos rfl, if_pos (List.contains_iff_mem.2 (by simp))]
  · rw [if_neg e]
    have h2 : (ts ++ [t]).contains x = ts.contains x := by
      rw [Bool.eq_iff_iff, List.contains_iff_mem, List.contains_iff_mem, List.mem_append, List.mem_singleton]
      constructor
      · rintro (h1 | h1)
        · exact h1
        · exact absurd h1 e
      · exact .inl
    rw [h2]
theorem contains_rev (ts : List (List UInt8)) (t : List UInt8) : ts.reverse.contains t = ts.contains t := by
  rw [Bool.eq_iff_iff, List.contains_iff_mem, List.contains_iff_mem, List.mem_reverse]
theorem fld_step {rules : List RuleM} {fs : List FldM} {i : Nat} (hi : i < fs.length) {k : Nat} (hk : visM fs[i] (ruleOf rules fs[i].tag) ((tagsOf (fs.take i)).contains fs[i].tag) = k) :
    fldProbs rules i (tagsOf (fs.take i)).reverse (fs.drop i) = (if k = 0 then [] else [((i : Int), k)]) ++ fldProbs rules (i + 1) (tagsOf (fs.take (i + 1))).reverse (fs.drop (i + 1)) := by
  rw [List.drop_eq_getElem_cons hi]
  have ht : (tagsOf (fs.take (i + 1))).reverse = fs[i].tag :: (tagsOf (fs.take i)).reverse := by
    unfold tagsOf
    rw [take_snoc fs i hi, List.map_append, List.reverse_append]
    rfl
  rw [ht]
  show (if visM fs[i] (ruleOf rules fs[i].tag) ((tagsOf (fs.take i)).reverse.contains fs[i].tag) = 0 then [] else [((i : Int), visM fs[i] (ruleOf rules fs[i].tag) ((tagsOf (fs.take i)).reverse.contains fs[i].tag))]) ++ _ = _
  rw [contains_rev, hk]
theorem miss_step {fs : List FldM} {rules : List RuleM} {j : Nat} (hj : j < rules.length) : missProbs fs (rules.drop j) = (if missB fs rules[j] = true then [((-1 : Int), 21)] else []) ++ missProbs fs (rules.drop (j + 1)) := by
  rw [List.drop_eq_getElem_cons hj]
  unfold missProbs
  rw [List.filter_cons]
  split
  · rfl
  · rfl
theorem any_tags (fs : List FldM) (r : RuleM) : ((tagsOf fs).any fun t => matchB t r.tag) = fs.any fun f => matchB f.tag r.tag := by
  unfold tagsOf
  rw [List.any_map]
  rfl
def probCells (l : List (Int × Nat)) : List Value := l.flatMap fun p => [.int .i64 p.1, .int .i64 (p.2 : Nat)]
theorem probCells_snoc (l : List (Int × Nat)) (p : Int × Nat) : probCells (l ++ [p]) = probCells l ++ [.int .i64 p.1, .int .i64 (p.2 : Nat)] := by
  unfold probCells
  rw [List.flatMap_append]
  simp
theorem info_parts {t : TypeId} {z : Value} {n m : Nat} (h : (Try.prog.info? t).map (fun i => (i.zero, i.size, i.bytes)) = some (some z, n, m)) : ∃ i, Try.prog.info? t = some i ∧ i.zero = some z ∧ i.size = n ∧ i.bytes = m := by
  obtain ⟨i, hi, hzz⟩ := Option.map_eq_some_iff.1 h
  simp only [Prod.mk.injEq] at hzz
  exact ⟨i, hi, hzz.1, hzz.2.1, hzz.2.2⟩
theorem infoProb : (Try.prog.info? 54).map (fun i => (i.zero, i.size, i.bytes)) = some (some (.agg #[.int .i64 0, .int .i64 0]), 2, 16) := by kernel_rfl
theorem own_form {w : World} {B : Nat} {e : TypeId} {sz n : Nat} {v : Value} {xs : List Value} (h : w.ownsRow B e sz v n xs) : ∃ a cap, v = .slice a n cap := by
  rcases h.2 with ⟨rfl, h0⟩ | ⟨g, cap, cur, rfl, _⟩
  · exact ⟨none, 0, by rw [h0]⟩
  · exact ⟨_, _, rfl⟩
theorem own_bel {w w' : World} {B : Nat} {e : TypeId} {sz n : Nat} {v : Value} {xs : List Value} (h : w.ownsRow B e sz v n xs) (hb : Below w.heap.size w w') : w'.ownsRow B e sz v n xs := by
  refine ⟨h.1, ?_⟩
  rcases h.2 with h0 | ⟨g, cap, cur, hv, hbg, hg, r⟩
  · exact .inl h0
  · exact .inr ⟨g, cap, cur, hv, hbg, (hb.block g (lt_at hg)).trans hg, r⟩
/-- What Check keeps. -/
structure CkW (w wr : World) (rules : List RuleM) (fs : List FldM) (rb ro : Nat) (kd lv : UInt8) (fa : Option Addr) (fc : Nat) (tb mb B0 : Nat) (i : Nat) (ts : List (List UInt8)) : Prop where
  bel : Below w.heap.size w wr
  box : wr.heap[w.heap.size]? = some (.cells #[.int .u8 (kd.toNat : Int), .int .u8 (lv.toNat : Int), .slice fa fs.length fc] 32 (0, 0))
  tags : MapS (encRow rb ro) 9 wr (w.heap.size + 1) fs.length (mapOf rules (tagsOf fs))
  tests : wr.heap[tb]? = some (.cells testArr 83 (0, 0))
  seen : MapS encBool 9 wr mb i (seenOf ts)
  l1 : w.heap.size + 1 < tb
  l2 : tb < mb
  l3 : mb < B0
  l4 : B0 ≤ wr.heap.size
section
variable {w wr wx : World} {rules : List RuleM} {fs : List FldM} {rb ro : Nat} {kd lv : UInt8} {fa : Option Addr} {fc tb mb B0 i : Nat} {ts : List (List UInt8)}
theorem CkW.below (h : CkW w wr rules fs rb ro kd lv fa fc tb mb B0 i ts) (hb : Below B0 wr wx) : CkW w wx rules fs rb ro kd lv fa fc tb mb B0 i ts := by
  have l1 := h.l1
  have l2 := h.l2
  have l3 := h.l3
  exact ⟨h.bel.trans (hb.mono (by omega)), (hb.block _ (by omega)).trans h.box, h.tags.same (hb.block _ (by omega)), (hb.block _ (by omega)).trans h.tests, h.seen.same (hb.block _ (by omega)), h.l1, h.l2, h.l3, Nat.le_trans h.l4 hb.size⟩
theorem CkW.boxes (h : CkW w wr rules fs rb ro kd lv fa fc tb mb B0 i ts) : wr.cell? ⟨w.heap.size, 0, none⟩ = some (.int .u8 (kd.toNat : Int)) ∧ wr.cell? ⟨w.heap.size, 1, none⟩ = some (.int .u8 (lv.toNat : Int)) ∧ wr.cell? ⟨w.heap.size, 2, none⟩ = some (.slice fa fs.length fc) :=
  ⟨by rw [cell_at h.box]; rfl, by rw [cell_at h.box]; rfl, by rw [cell_at h.box]; rfl⟩
/-- The tag of one more field is kept. -/
theorem CkW.mark (h : CkW w wr rules fs rb ro kd lv fa fc tb mb B0 i ts) (hg : wr.grownBy wx (some mb)) (t : List UInt8) (hm : MapS encBool 9 wx mb (i + 1) (putS (seenOf ts) t true)) : CkW w wx rules fs rb ro kd lv fa fc tb mb B0 (i + 1) (ts ++ [t]) := by
  have l1 := h.l1
  have l2 := h.l2
  have l3 := h.l3
  have l4 := h.l4
  have hne : ∀ g, g ≠ mb → g < wr.heap.size → wx.heap[g]? = wr.heap[g]? := fun g hne hl => hg.block g hl (by simpa using hne)
  refine ⟨h.bel.grown hg h.bel.size (fun j hj => by cases hj; omega), (hne _ (by omega) (by omega)).trans h.box, h.tags.same (hne _ (by omega) (by omega)), (hne _ (by omega) (by omega)).trans h.tests, by rw [← seenOf_put]; exact hm, h.l1, h.l2, h.l3, Nat.le_trans h.l4 hg.size⟩
end
end Go.Proofs.Ytfccpepmjklodaa
