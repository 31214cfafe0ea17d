/-
  The standard rules, as the program and as the reference give them.
-/
import Derived.Test.YtfccpepmjklodaaSCheck
import Derived.BigRegion
import Derived.Great.Walk
namespace Go.Proofs.Ytfccpepmjklodaa
open Go.RowKit Go.Shelf
set_option linter.unusedVariables false
set_option linter.unusedSimpArgs false

def stdR : List RuleM := [
  ⟨[48, 48, 49], true, true, [], [], [], []⟩,
  ⟨[48, 48, 51], false, true, [], [], [], []⟩,
  ⟨[48, 48, 53], false, true, [], [], [], []⟩,
  ⟨[48, 48, 56], false, true, [], [], [], []⟩,
  ⟨[48, 49, 48], false, true, [32], [32], [97, 122], [97]⟩,
  ⟨[48, 50, 48], false, false, [32], [32], [97, 99, 113, 122], [97, 99]⟩,
  ⟨[48, 50, 50], false, false, [48, 49, 32], [32], [97, 121, 122], [97]⟩,
  ⟨[48, 52, 48], false, true, [32], [32], [97, 98, 99, 100, 101], [97, 98, 99, 101]⟩,
  ⟨[48, 52, 49], false, false, [48, 49, 32], [32], [97, 98, 100, 104], []⟩,
  ⟨[48, 56, 50], false, false, [48, 49], [48, 52, 32], [97, 50], [50]⟩,
  ⟨[49, 48, 48], false, true, [48, 49, 51], [32], [48, 97, 98, 99, 100, 113], [48, 97, 98, 100, 113]⟩,
  ⟨[49, 49, 48], false, true, [48, 49, 50], [32], [48, 97, 98, 110], [48, 97]⟩,
  ⟨[50, 52, 53], true, true, [48, 49], [48, 49, 50, 51, 52, 53, 54, 55, 56, 57], [97, 98, 99, 104, 110, 112], [97, 98, 99, 104]⟩,
  ⟨[50, 52, 54], false, false, [48, 49, 50, 51], [48, 49, 50, 51, 52, 53, 54, 55, 56, 32], [97, 98, 105, 110, 112], [97, 98, 105]⟩,
  ⟨[50, 53, 48], false, false, [32], [32], [97, 98], [97, 98]⟩,
  ⟨[50, 54, 48], false, false, [50, 51, 32], [32], [97, 98, 99], []⟩,
  ⟨[51, 48, 48], false, false, [32], [32], [97, 98, 99, 101], [98, 101]⟩,
  ⟨[52, 57, 48], false, false, [48, 49], [32], [97, 118, 120], [120]⟩,
  ⟨[53, 48, 48], false, false, [32], [32], [97], [97]⟩,
  ⟨[54, 48, 48], false, false, [48, 49, 51], [48, 49, 50, 51, 52, 53, 54, 55], [48, 97, 98, 99, 100, 116, 118, 120, 121, 122], [48, 97, 98, 100, 116]⟩,
  ⟨[54, 53, 48], false, false, [48, 49, 50, 32], [48, 49, 50, 51, 52, 53, 54, 55], [48, 97, 118, 120, 121, 122], [48, 97]⟩,
  ⟨[55, 48, 48], false, false, [48, 49, 51], [50, 32], [48, 97, 98, 99, 100, 113, 116], [48, 97, 98, 100, 113, 116]⟩,
  ⟨[56, 53, 54], false, false, [48, 49, 50, 51, 52, 32], [48, 49, 50, 56, 32], [117, 121, 122, 51], [51]⟩,
  ⟨[57, 120, 120], false, false, [48, 49, 50, 51, 52, 53, 54, 55, 56, 57, 32], [48, 49, 50, 51, 52, 53, 54, 55, 56, 57, 32], [48, 49, 50, 51, 52, 53, 54, 55, 56, 57, 97, 98, 99, 100, 101, 102, 103, 104, 105, 106, 107, 108, 109, 110, 111, 112, 113, 114, 115, 116, 117, 118, 119, 120, 121, 122], []⟩]
def stdArr : Array Value := #[
  .string ⟨#[48, 48, 49]⟩, .bool true, .bool true, .string ⟨#[]⟩, .string ⟨#[]⟩, .string ⟨#[]⟩, .string ⟨#[]⟩,
  .string ⟨#[48, 48, 51]⟩, .bool false, .bool true, .string ⟨#[]⟩, .string ⟨#[]⟩, .string ⟨#[]⟩, .string ⟨#[]⟩,
  .string ⟨#[48, 48, 53]⟩, .bool false, .bool true, .string ⟨#[]⟩, .string ⟨#[]⟩, .string ⟨#[]⟩, .string ⟨#[]⟩,
  .string ⟨#[48, 48, 56]⟩, .bool false, .bool true, .string ⟨#[]⟩, .string ⟨#[]⟩, .string ⟨#[]⟩, .string ⟨#[]⟩,
  .string ⟨#[48, 49, 48]⟩, .bool false, .bool true, .string ⟨#[32]⟩, .string ⟨#[32]⟩, .string ⟨#[97, 122]⟩, .string ⟨#[97]⟩,
  .string ⟨#[48, 50, 48]⟩, .bool false, .bool false, .string ⟨#[32]⟩, .string ⟨#[32]⟩, .string ⟨#[97, 99, 113, 122]⟩, .string ⟨#[97, 99]⟩,
  .string ⟨#[48, 50, 50]⟩, .bool false, .bool false, .string ⟨#[48, 49, 32]⟩, .string ⟨#[32]⟩, .string ⟨#[97, 121, 122]⟩, .string ⟨#[97]⟩,
  .string ⟨#[48, 52, 48]⟩, .bool false, .bool true, .string ⟨#[32]⟩, .string ⟨#[32]⟩, .string ⟨#[97, 98, 99, 100, 101]⟩, .string ⟨#[97, 98, 99, 101]⟩,
  .string ⟨#[48, 52, 49]⟩, .bool false, .bool false, .string ⟨#[48, 49, 32]⟩, .string ⟨#[32]⟩, .string ⟨#[97, 98, 100, 104]⟩, .string ⟨#[]⟩,
  .string ⟨#[48, 56, 50]⟩, .bool false, .bool false, .string ⟨#[48, 49]⟩, .string ⟨#[48, 52, 32]⟩, .string ⟨#[97, 50]⟩, .string ⟨#[50]⟩,
  .string ⟨#[49, 48, 48]⟩, .bool false, .bool true, .string ⟨#[48, 49, 51]⟩, .string ⟨#[32]⟩, .string ⟨#[48, 97, 98, 99, 100, 113]⟩, .string ⟨#[48, 97, 98, 100, 113]⟩,
  .string ⟨#[49, 49, 48]⟩, .bool false, .bool true, .string ⟨#[48, 49, 50]⟩, .string ⟨#[32]⟩, .string ⟨#[48, 97, 98, 110]⟩, .string ⟨#[48, 97]⟩,
  .string ⟨#[50, 52, 53]⟩, .bool true, .bool true, .string ⟨#[48, 49]⟩, .string ⟨#[48, 49, 50, 51, 52, 53, 54, 55, 56, 57]⟩, .string ⟨#[97, 98, 99, 104, 110, 112]⟩, .string ⟨#[97, 98, 99, 104]⟩,
  .string ⟨#[50, 52, 54]⟩, .bool false, .bool false, .string ⟨#[48, 49, 50, 51]⟩, .string ⟨#[48, 49, 50, 51, 52, 53, 54, 55, 56, 32]⟩, .string ⟨#[97, 98, 105, 110, 112]⟩, .string ⟨#[97, 98, 105]⟩,
  .string ⟨#[50, 53, 48]⟩, .bool false, .bool false, .string ⟨#[32]⟩, .string ⟨#[32]⟩, .string ⟨#[97, 98]⟩, .string ⟨#[97, 98]⟩,
  .string ⟨#[50, 54, 48]⟩, .bool false, .bool false, .string ⟨#[50, 51, 32]⟩, .string ⟨#[32]⟩, .string ⟨#[97, 98, 99]⟩, .string ⟨#[]⟩,
  .string ⟨#[51, 48, 48]⟩, .bool false, .bool false, .string ⟨#[32]⟩, .string ⟨#[32]⟩, .string ⟨#[97, 98, 99, 101]⟩, .string ⟨#[98, 101]⟩,
  .string ⟨#[52, 57, 48]⟩, .bool false, .bool false, .string ⟨#[48, 49]⟩, .string ⟨#[32]⟩, .string ⟨#[97, 118, 120]⟩, .string ⟨#[120]⟩,
  .string ⟨#[53, 48, 48]⟩, .bool false, .bool false, .string ⟨#[32]⟩, .string ⟨#[32]⟩, .string ⟨#[97]⟩, .string ⟨#[97]⟩,
  .string ⟨#[54, 48, 48]⟩, .bool false, .bool false, .string ⟨#[48, 49, 51]⟩, .string ⟨#[48, 49, 50, 51, 52, 53, 54, 55]⟩, .string ⟨#[48, 97, 98, 99, 100, 116, 118, 120, 121, 122]⟩, .string ⟨#[48, 97, 98, 100, 116]⟩,
  .string ⟨#[54, 53, 48]⟩, .bool false, .bool false, .string ⟨#[48, 49, 50, 32]⟩, .string ⟨#[48, 49, 50, 51, 52, 53, 54, 55]⟩, .string ⟨#[48, 97, 118, 120, 121, 122]⟩, .string ⟨#[48, 97]⟩,
  .string ⟨#[55, 48, 48]⟩, .bool false, .bool false, .string ⟨#[48, 49, 51]⟩, .string ⟨#[50, 32]⟩, .string ⟨#[48, 97, 98, 99, 100, 113, 116]⟩, .string ⟨#[48, 97, 98, 100, 113, 116]⟩,
  .string ⟨#[56, 53, 54]⟩, .bool false, .bool false, .string ⟨#[48, 49, 50, 51, 52, 32]⟩, .string ⟨#[48, 49, 50, 56, 32]⟩, .string ⟨#[117, 121, 122, 51]⟩, .string ⟨#[51]⟩,
  .string ⟨#[57, 120, 120]⟩, .bool false, .bool false, .string ⟨#[48, 49, 50, 51, 52, 53, 54, 55, 56, 57, 32]⟩, .string ⟨#[48, 49, 50, 51, 52, 53, 54, 55, 56, 57, 32]⟩, .string ⟨#[48, 49, 50, 51, 52, 53, 54, 55, 56, 57, 97, 98, 99, 100, 101, 102, 103, 104, 105, 106, 107, 108, 109, 110, 111, 112, 113, 114, 115, 116, 117, 118, 119, 120, 121, 122]⟩, .string ⟨#[]⟩]
def ruleL (r : RuleM) : List Value := [str r.tag, .bool r.must, .bool r.once, str r.ind0, str r.ind1, str r.codes, str r.single]
theorem flat7 : ∀ (l : List RuleM) (i j : Nat) (h : i < l.length), j < 7 → (l.flatMap ruleL)[i * 7 + j]? = (ruleL l[i])[j]?
  | r :: l, 0, j, _, hj => by
    rw [List.flatMap_cons, Nat.zero_mul, Nat.zero_add, List.getElem?_append_left (by show j < 7; exact hj)]
    rfl
  | r :: l, i + 1, j, h, hj => by
    have ih := flat7 l i j (by simpa using h) hj
    rw [List.flatMap_cons, List.getElem?_append_right (by show 7 ≤ (i + 1) * 7 + j; omega)]
    rw [show (i + 1) * 7 + j - (ruleL r).length = i * 7 + j by show (i + 1) * 7 + j - 7 = i * 7 + j; omega, ih]
    rfl
theorem rules_at {w : World} {b : Nat} (l : List RuleM) (h : w.heap[b]? = some (.cells ⟨l.flatMap ruleL⟩ 27 (0, 0))) (hl : l.length ≤ maxLen) (c : Nat) : RulesAt w (.slice (some ⟨b, 0, none⟩) l.length c) l := by
  refine .inr ⟨b, 0, c, rfl, hl, lt_at h, fun i hi => ?_⟩
  simp only [cell_at h, Nat.zero_add]
  have f := fun j hj => flat7 l i j hi hj
  have hg : ∀ k, (Array.mk (l.flatMap ruleL))[k]? = (l.flatMap ruleL)[k]? := fun k => List.getElem?_toArray
  exact ⟨(hg _).trans (f 0 (by omega)), (hg _).trans (f 1 (by omega)), (hg _).trans (f 2 (by omega)), (hg _).trans (f 3 (by omega)), (hg _).trans (f 4 (by omega)), (hg _).trans (f 5 (by omega)), (hg _).trans (f 6 (by omega))⟩
theorem std_eq : stdArr = ⟨stdR.flatMap ruleL⟩ := by kernel_rfl
theorem std_at {w : World} {b : Nat} (h : w.heap[b]? = some (.cells stdArr 27 (0, 0))) (c : Nat) : RulesAt w (.slice (some ⟨b, 0, none⟩) 24 c) stdR :=
  rules_at stdR (by rw [← std_eq]; exact h) (by decide) c
theorem wp_buildTo {P : Program} {o : Oper} {a : Act} {w : World} {K : Act → World → Prop} {Q : Exit → Act → World → Prop} (t e : TypeId) (len : Nat) (parts : Array (Nat × Operand)) (ho : o.op = .buildSlice t len parts)
    (dst : Option Tmp) (hdst : o.dst = dst) (hu : P.underlying t = some (.slice e)) (cells : Array Value)
    (hf : P.builtSlice e len (parts.map fun (i, x) => (i, a.eval x)).toList = some cells)
    (h : K (a.put dst (.slice (some ⟨w.heap.size, 0, none⟩) len len)) (w.alloc (.cells cells e))) : o.wp P a w K Q := by
  subst hdst
  unfold Program.builtSlice at hf
  cases hie : P.info? e with
  | none => simp [hie] at hf
  | some ie =>
    simp only [hie] at hf
    cases hz : ie.zero with
    | none => simp [hz] at hf
    | some z =>
      simp only [hz] at hf
      by_cases hc : len * ie.size > 2 ^ 24 ∨ len * ie.size = 0
      · simp [hc] at hf
      · rw [if_neg hc] at hf
        exact wp_buildSlice t e len parts ho cells ie z hu hie hz (fun h' => hc (Or.inl h')) (fun h' => hc (Or.inr h')) hf h
def StdPost (w : World) (e : Ending) (w' : World) : Prop := e = .returned (.slice (some ⟨w.heap.size, 0, none⟩) 24 24) ∧ w'.heap[w.heap.size]? = some (.cells stdArr 27 (0, 0)) ∧ Below w.heap.size w w'
set_option maxRecDepth 100000 in
set_option maxHeartbeats 8000000 in
theorem standard_c (w : World) : Calls Try.prog 12 #[] w (StdPost w) := by
  have h1 := new_at w (.cells stdArr 27)
  have h2 := below_new w (.cells stdArr 27)
  obtain ⟨W, hW⟩ : ∃ W, w.alloc (.cells stdArr 27) = W := ⟨_, rfl⟩
  rw [hW] at h1 h2
  have H1 := Lib.hid h1
  have H2 := Lib.hid h2
  have HW := Lib.hid hW
  unfold StdPost
  clear h1 h2 hW
  go_enter Try.func12, Try.ntmps12
  go_wp2
  rename_i K hK
  refine wp_buildTo 23 27 24 _ rfl (some 45) rfl Try.underlying23 stdArr (by kernel_rfl) ?_
  rw [HW.out]
  refine hK _ _ ?_
  go_wp2
  go_ret
  exact ⟨rfl, H1.out, H2.out⟩
end Go.Proofs.Ytfccpepmjklodaa
