/-
  The tests of a field: its shape, whether it has a rule, whether it is repeated.
-/
import Derived.Test.YtfccpepmjklodaaSTags
namespace Go.Proofs.Ytfccpepmjklodaa
open Go.RowKit Go.Shelf
set_option linter.unusedVariables false
set_option linter.unusedSimpArgs false

/-- A field with what is said of its tag. -/
def visV (f : FldM) (a : Option Addr) (c : Nat) (p : Option Addr) (again : Bool) : Value := .agg #[str f.tag, str f.ind, str f.data, .slice a f.subs.length c, .pointer p, .bool again]
def visC (f : FldM) (a : Option Addr) (c : Nat) (p : Option Addr) (again : Bool) : Array Value := #[str f.tag, str f.ind, str f.data, .slice a f.subs.length c, .pointer p, .bool again]
def BP (x : Bool) (w : World) (e : Ending) (w' : World) : Prop := e = .returned (.bool x) ∧ Below w.heap.size w w'
/-- The seven cells of a rule. -/
def RuleC (w : World) (b o : Nat) (r : RuleM) : Prop := w.cell? ⟨b, o, none⟩ = some (str r.tag) ∧ w.cell? ⟨b, o + 1, none⟩ = some (.bool r.must) ∧ w.cell? ⟨b, o + 2, none⟩ = some (.bool r.once) ∧
  w.cell? ⟨b, o + 3, none⟩ = some (str r.ind0) ∧ w.cell? ⟨b, o + 4, none⟩ = some (str r.ind1) ∧ w.cell? ⟨b, o + 5, none⟩ = some (str r.codes) ∧ w.cell? ⟨b, o + 6, none⟩ = some (str r.single)
theorem RuleC.below {w w' : World} {B b o : Nat} {r : RuleM} (h : RuleC w b o r) (hb : Below B w w') (hB : w.heap.size ≤ B) : RuleC w' b o r := by
  obtain ⟨c0, c1, c2, c3, c4, c5, c6⟩ := h
  exact ⟨cell_below hb hB c0, cell_below hb hB c1, cell_below hb hB c2, cell_below hb hB c3, cell_below hb hB c4, cell_below hb hB c5, cell_below hb hB c6⟩
theorem new_at (w : World) (o : Obj) : (w.alloc o).heap[w.heap.size]? = some o := Array.getElem?_push_size
theorem heap_below {B b : Nat} {w w' : World} {o : Obj} (hb : Below B w w') (hB : w.heap.size ≤ B) (h : w.heap[b]? = some o) : w'.heap[b]? = some o := (hb.block b (by have := lt_at h; omega)).trans h
/-- The visit in a block. -/
theorem vis_new (w : World) (f : FldM) (a : Option Addr) (c : Nat) (p : Option Addr) (again : Bool) : ∃ W1, w.alloc (.cells #[str f.tag, str f.ind, str f.data, .slice a f.subs.length c, .pointer p, .bool again] 75) = W1 ∧ Below w.heap.size w W1 ∧ W1.heap.size = w.heap.size + 1 ∧
    W1.cell? ⟨w.heap.size, 0, none⟩ = some (str f.tag) ∧ W1.cell? ⟨w.heap.size, 1, none⟩ = some (str f.ind) ∧ W1.cell? ⟨w.heap.size, 2, none⟩ = some (str f.data) ∧ W1.cell? ⟨w.heap.size, 3, none⟩ = some (.slice a f.subs.length c) ∧
    W1.cell? ⟨w.heap.size, 4, none⟩ = some (.pointer p) ∧ W1.cell? ⟨w.heap.size, 5, none⟩ = some (.bool again) := by
  refine ⟨_, rfl, below_new _ _, by simp, ?_, ?_, ?_, ?_, ?_, ?_⟩
  all_goals (rw [cell_at (new_at _ _)]; rfl)
theorem hasNoRule_c (f : FldM) (a : Option Addr) (c : Nat) (p : Option Addr) (again : Bool) (w : World) :
    Calls Try.prog 38 #[visV f a c p again] w (BP (p == none) w) := by
  obtain ⟨W1, h1, hb1, hs1, c0, c1, c2, c3, c4, c5⟩ := vis_new w f a c p again
  have Hb1 := Lib.hid hb1
  unfold BP visV
  clear hb1
  cases p with
  | none =>
    go_enter Try.func38, Try.ntmps38
    go_wp2
    go_ret
    exact ⟨rfl, Hb1.out⟩
  | some p =>
    go_enter Try.func38, Try.ntmps38
    go_wp2
    go_ret
    exact ⟨rfl, Hb1.out⟩
theorem isRepeated_c (f : FldM) (a : Option Addr) (c : Nat) (b o : Nat) (r : RuleM) (again : Bool) (w : World) (hr : RuleC w b o r) :
    Calls Try.prog 39 #[visV f a c (some ⟨b, o, none⟩) again] w (BP (r.once && again) w) := by
  obtain ⟨W1, h1, hb1, hs1, c0, c1, c2, c3, c4, c5⟩ := vis_new w f a c (some ⟨b, o, none⟩) again
  obtain ⟨-, -, q2, -⟩ := hr.below hb1 (Nat.le_refl _)
  have Hb1 := Lib.hid hb1
  unfold BP visV
  clear hb1 hr
  cases ho : r.once with
  | true =>
    rw [ho] at q2
    go_enter Try.func39, Try.ntmps39
    go_wp2
    go_ret
    exact ⟨rfl, Hb1.out⟩
  | false =>
    rw [ho] at q2
    go_enter Try.func39, Try.ntmps39
    go_wp2
    go_ret
    exact ⟨rfl, Hb1.out⟩
set_option maxRecDepth 100000 in
theorem isMisshapen_c (f : FldM) (a : Option Addr) (c : Nat) (p : Option Addr) (again : Bool) (w : World) :
    Calls Try.prog 37 #[visV f a c p again] w (BP (misB f) w) := by
  obtain ⟨W1, h1, hb1, hs1, c0, c1, c2, c3, c4, c5⟩ := vis_new w f a c p again
  obtain ⟨W2, h2⟩ : ∃ W2, W1.alloc (.cells #[str f.tag, str f.ind, str f.data, .slice a f.subs.length c] 46) = W2 := ⟨_, rfl⟩
  have hb2 : Below w.heap.size w W2 := by rw [← h2]; exact hb1.alloc hb1.size _
  have hn2 : W2.heap[w.heap.size + 1]? = some (.cells #[str f.tag, str f.ind, str f.data, .slice a f.subs.length c] 46 (0, 0)) := by rw [← hs1, ← h2]; exact new_at _ _
  have N := Lib.hid (isControl_c f (.slice a f.subs.length c) a f.subs.length c rfl W2)
  have Hb2 := Lib.hid hb2
  have Hn2 := Lib.hid hn2
  have d0 : W2.cell? ⟨w.heap.size + 1, 0, none⟩ = some (str f.tag) := by rw [cell_at hn2]; rfl
  have d1 : W2.cell? ⟨w.heap.size + 1, 1, none⟩ = some (str f.ind) := by rw [cell_at hn2]; rfl
  have d2 : W2.cell? ⟨w.heap.size + 1, 2, none⟩ = some (str f.data) := by rw [cell_at hn2]; rfl
  have d3 : W2.cell? ⟨w.heap.size + 1, 3, none⟩ = some (.slice a f.subs.length c) := by rw [cell_at hn2]; rfl
  unfold BP visV
  clear hb1 hb2 hn2
  have hmis : misB f = if ctlB f.tag then !f.ind.isEmpty || !f.subs.isEmpty else !f.data.isEmpty || !(f.ind.length == 2) || f.subs.isEmpty := rfl
  have szi := size_str f.ind
  cases hc : ctlB f.tag with
  | true =>
    rw [hc, if_pos rfl] at hmis
    rw [hc] at N
    rw [hmis]
    clear hmis
    go_enter Try.func37, Try.ntmps37
    go_wp2_with fail
    refine N.out.mono ?_
    rintro _ w3 ⟨rfl, hb3⟩
    have hn3 := heap_below hb3 (Nat.le_refl _) Hn2.out
    have e1 : w3.cell? ⟨w.heap.size + 1, 1, none⟩ = some (str f.ind) := by rw [cell_at hn3]; rfl
    have e3 : w3.cell? ⟨w.heap.size + 1, 3, none⟩ = some (.slice a f.subs.length c) := by rw [cell_at hn3]; rfl
    have Hb3 := Lib.hid (Hb2.out.trans (hb3.mono Hb2.out.size))
    clear hb3 hn3
    clear h1 h2 hs1 c0 c1 c2 c3 c4 c5 d0 d1 d2 d3 Hb2 Hn2 N szi
    by_cases hi : f.ind = []
    · have ii : f.ind.isEmpty = true := by rw [hi]; rfl
      have ll : (!f.ind.isEmpty || !f.subs.isEmpty) = ((f.subs.length : Int) != 0) := by rw [ii]; cases f.subs <;> simp; omega
      have LL := Lib.hid ll
      clear ll
      go_wp2_with fail
      go_ret
      exact ⟨by rw [LL.out]; rfl, Hb3.out⟩
    · have ii : f.ind.isEmpty = false := by simpa using hi
      have LL := Lib.hid (show (!f.ind.isEmpty || !f.subs.isEmpty) = true by rw [ii]; rfl)
      go_wp2_with fail
      go_ret
      exact ⟨by rw [LL.out]; rfl, Hb3.out⟩
  | false =>
    rw [hc, if_neg (by decide)] at hmis
    rw [hc] at N
    rw [hmis]
    clear hmis
    go_enter Try.func37, Try.ntmps37
    go_wp2_with fail
    refine N.out.mono ?_
    rintro _ w3 ⟨rfl, hb3⟩
    have hn3 := heap_below hb3 (Nat.le_refl _) Hn2.out
    have e1 : w3.cell? ⟨w.heap.size + 1, 1, none⟩ = some (str f.ind) := by rw [cell_at hn3]; rfl
    have e2 : w3.cell? ⟨w.heap.size + 1, 2, none⟩ = some (str f.data) := by rw [cell_at hn3]; rfl
    have e3 : w3.cell? ⟨w.heap.size + 1, 3, none⟩ = some (.slice a f.subs.length c) := by rw [cell_at hn3]; rfl
    have Hb3 := Lib.hid (Hb2.out.trans (hb3.mono Hb2.out.size))
    clear hb3 hn3
    clear h1 h2 hs1 c0 c1 c2 c3 c4 c5 d0 d1 d2 d3 Hb2 Hn2 N
    by_cases hi : f.data = []
    case neg =>
      have ii : f.data.isEmpty = false := by simpa using hi
      have LL := Lib.hid (show (!f.data.isEmpty || !(f.ind.length == 2) || f.subs.isEmpty) = true by rw [ii]; rfl)
      go_wp2_with fail
      go_ret
      exact ⟨by rw [LL.out]; rfl, Hb3.out⟩
    have ii : f.data.isEmpty = true := by rw [hi]; rfl
    by_cases hl : f.ind.length = 2
    case neg =>
      have jj : ((f.ind.length : Int) != 2) = true := by rw [bne_iff_ne]; omega
      have j2 : (f.ind.length == 2) = false := by rw [beq_eq_false_iff_ne]; exact hl
      have LL := Lib.hid (show (!f.data.isEmpty || !(f.ind.length == 2) || f.subs.isEmpty) = true by rw [ii, j2]; rfl)
      clear j2 hl
      go_wp2_with fail
      go_ret
      exact ⟨by rw [LL.out]; rfl, Hb3.out⟩
    have jj : ((f.ind.length : Int) != 2) = false := by rw [bne_eq_false_iff_eq]; omega
    have j2 : (f.ind.length == 2) = true := by rw [beq_iff_eq]; exact hl
    have LL := Lib.hid (show (!f.data.isEmpty || !(f.ind.length == 2) || f.subs.isEmpty) = ((f.subs.length : Int) == 0) by rw [ii, j2]; cases f.subs <;> simp; omega)
    clear j2 hl
    go_wp2_with fail
    go_ret
    exact ⟨by rw [LL.out]; rfl, Hb3.out⟩
end Go.Proofs.Ytfccpepmjklodaa
