/-
  The reference's reader of characters, and IsText.
-/
import Derived.Test.YtpfnmjcomdckgaaDoorRMod
namespace Go.Proofs.YtpfnmjcomdckgaaDoor
open Go.RowKit Go.Shelf
set_option linter.unusedVariables false
set_option linter.unusedSimpArgs false

structure Ch where
  left : Nat
  low : Nat
  high : Nat
def nextC (s : Ch) (c : UInt8) : Option Ch :=
  if 0 < s.left then (if c.toNat < s.low ∨ s.high < c.toNat then none else some ⟨s.left - 1, 128, 191⟩)
  else if 32 ≤ c.toNat ∧ c.toNat < 128 then some ⟨0, 128, 191⟩
  else if 194 ≤ c.toNat ∧ c.toNat < 224 then some ⟨1, 128, 191⟩
  else if 224 ≤ c.toNat ∧ c.toNat < 240 then some ⟨2, if c.toNat = 224 then 160 else 128, if c.toNat = 237 then 159 else 191⟩
  else if 240 ≤ c.toNat ∧ c.toNat < 245 then some ⟨3, if c.toNat = 240 then 144 else 128, if c.toNat = 244 then 143 else 191⟩
  else none
def runC : Ch → List UInt8 → Option Ch
  | s, [] => some s
  | s, c :: r => match nextC s c with
    | none => none
    | some t => runC t r
def endC : Option Ch → Bool
  | none => false
  | some t => t.left == 0
theorem runC_none {s : Ch} {c : UInt8} (r : List UInt8) (h : nextC s c = none) : runC s (c :: r) = none := by
  show (match nextC s c with | none => none | some t => runC t r) = _
  rw [h]
theorem runC_some {s t : Ch} {c : UInt8} (r : List UInt8) (h : nextC s c = some t) : runC s (c :: r) = runC t r := by
  show (match nextC s c with | none => none | some t => runC t r) = _
  rw [h]

/-- The reader lies at block b. -/
def ChAt (w : World) (b : Nat) (s : Ch) : Prop := w.heap[b]? = some (.cells #[.int .i64 (s.left : Int), .int .i64 (s.low : Int), .int .i64 (s.high : Int)] 125 (0, 0))
theorem ChAt.cells {w : World} {b : Nat} {s : Ch} (h : ChAt w b s) : w.cell? ⟨b, 0, none⟩ = some (.int .i64 (s.left : Int)) ∧ w.cell? ⟨b, 1, none⟩ = some (.int .i64 (s.low : Int)) ∧ w.cell? ⟨b, 2, none⟩ = some (.int .i64 (s.high : Int)) ∧
    w.frozen? ⟨b, 0, none⟩ = false ∧ w.frozen? ⟨b, 1, none⟩ = false ∧ w.frozen? ⟨b, 2, none⟩ = false :=
  ⟨by rw [cell_at h]; rfl, by rw [cell_at h]; rfl, by rw [cell_at h]; rfl, Lib.frozen_of_heap h 0, Lib.frozen_of_heap h 1, Lib.frozen_of_heap h 2⟩
def NextPost (b : Nat) (r : Option Ch) (w : World) (e : Ending) (w' : World) : Prop := w.grownBy w' (some b) ∧ match r with
  | none => e = .returned (.bool false)
  | some t => e = .returned (.bool true) ∧ ChAt w' b t
theorem grow_refl (w : World) (r : Option Nat) : w.grownBy w r := ⟨rfl, rfl, rfl, Nat.le_refl _, fun _ _ _ => rfl⟩
theorem grow_tr {a b c : World} {r : Option Nat} (h : a.grownBy b r) (k : b.grownBy c r) : a.grownBy c r :=
  ⟨k.os.trans h.os, k.tape.trans h.tape, k.output.trans h.output, Nat.le_trans h.size k.size, fun i hi hr => (k.block i (Nat.lt_of_lt_of_le hi h.size) hr).trans (h.block i hi hr)⟩
theorem grow_cell (w : World) (b o : Nat) (v : Value) : w.grownBy (w.setCell ⟨b, o, none⟩ v) (some b) :=
  ⟨rfl, rfl, rfl, by simp [World.setCell], fun k _ hk => Below.heap_setCell _ _ _ _ (fun e => hk (by rw [e]))⟩
set_option maxRecDepth 100000 in
set_option maxHeartbeats 4000000 in
theorem next_c (b : Nat) (s : Ch) (c : UInt8) (w : World) (h : ChAt w b s) (hl : s.left ≤ 3) :
    Calls Tryd.prog 89 #[.pointer (some ⟨b, 0, none⟩), .int .u8 (c.toNat : Int)] w (NextPost b (nextC s c) w) := by
  obtain ⟨c0, c1, c2, f0, f1, f2⟩ := h.cells
  have hc := c.toNat_lt
  obtain ⟨l, lo, hi⟩ := s
  simp only at c0 c1 c2 hl
  obtain ⟨n, hn⟩ : ∃ n, c.toNat = n := ⟨_, rfl⟩
  have Hn := Lib.hid hn
  rw [hn] at hc ⊢
  have H := Lib.hid h
  clear h hn
  unfold NextPost nextC
  simp only [Hn.out]
  by_cases hp : 0 < l
  · rw [if_pos hp]
    have hp' : (0 : Int) < (l : Int) := by omega
    by_cases ho : n < lo ∨ hi < n
    · rw [if_pos ho]
      by_cases h1 : n < lo
      · go_enter Tryd.func89, Tryd.ntmps89
        go_wp2
        go_ret
        exact ⟨grow_refl _ _, rfl⟩
      · have h2 : hi < n := by omega
        go_enter Tryd.func89, Tryd.ntmps89
        go_wp2
        go_ret
        exact ⟨grow_refl _ _, rfl⟩
    · rw [if_neg ho]
      have h1 : ¬ n < lo := by omega
      have h2 : ¬ hi < n := by omega
      have Hh := Lib.hid (show w.heap[b]? = some (.cells #[.int .i64 (l : Int), .int .i64 (lo : Int), .int .i64 (hi : Int)] 125 (0, 0)) from H.out)
      go_enter Tryd.func89, Tryd.ntmps89
      go_wp2
      go_ret
      refine ⟨?_, rfl, by unfold ChAt; simp [World.setCell, Array.getElem?_modify, Hh.out] <;> omega⟩
      repeat (first | exact grow_refl _ _ | exact grow_cell _ _ _ _ | refine grow_tr ?_ (grow_cell _ _ _ _))
  · have hl0 : l = 0 := by omega
    subst hl0
    have Hh := Lib.hid (show w.heap[b]? = some (.cells #[.int .i64 ((0 : Nat) : Int), .int .i64 (lo : Int), .int .i64 (hi : Int)] 125 (0, 0)) from H.out)
    clear hl hp
    rw [if_neg (by omega)]
    by_cases a1 : 32 ≤ n ∧ n < 128
    · rw [if_pos a1]
      obtain ⟨x1, x2⟩ := a1
      go_enter Tryd.func89, Tryd.ntmps89
      go_wp2
      go_ret
      refine ⟨?_, rfl, by unfold ChAt; simp [World.setCell, Array.getElem?_modify, Hh.out]⟩
      repeat (first | exact grow_refl _ _ | exact grow_cell _ _ _ _ | refine grow_tr ?_ (grow_cell _ _ _ _))
    rw [if_neg a1]
    by_cases a2 : 194 ≤ n ∧ n < 224
    · rw [if_pos a2]
      obtain ⟨x1, x2⟩ := a2
      have x3 : ¬ n < 128 := by omega
      clear a1
      go_enter Tryd.func89, Tryd.ntmps89
      go_wp2
      go_ret
      refine ⟨?_, rfl, by unfold ChAt; simp [World.setCell, Array.getElem?_modify, Hh.out]⟩
      repeat (first | exact grow_refl _ _ | exact grow_cell _ _ _ _ | refine grow_tr ?_ (grow_cell _ _ _ _))
    rw [if_neg a2]
    by_cases a3 : 224 ≤ n ∧ n < 240
    · rw [if_pos a3]
      obtain ⟨x1, x2⟩ := a3
      have x3 : ¬ n < 128 := by omega
      have x4 : ¬ n < 224 := by omega
      clear a1 a2
      by_cases y1 : n = 224
      · subst y1
        rw [if_pos rfl, if_neg (by omega)]
        go_enter Tryd.func89, Tryd.ntmps89
        go_wp2
        go_ret
        refine ⟨?_, rfl, by unfold ChAt; simp [World.setCell, Array.getElem?_modify, Hh.out]⟩
        repeat (first | exact grow_refl _ _ | exact grow_cell _ _ _ _ | refine grow_tr ?_ (grow_cell _ _ _ _))
      · rw [if_neg y1]
        have y1' : ((n : Int) == 224) = false := by rw [beq_eq_false_iff_ne]; omega
        by_cases y2 : n = 237
        · subst y2
          rw [if_pos rfl]
          go_enter Tryd.func89, Tryd.ntmps89
          go_wp2
          go_ret
          refine ⟨?_, rfl, by unfold ChAt; simp [World.setCell, Array.getElem?_modify, Hh.out]⟩
          repeat (first | exact grow_refl _ _ | exact grow_cell _ _ _ _ | refine grow_tr ?_ (grow_cell _ _ _ _))
        · rw [if_neg y2]
          have y2' : ((n : Int) == 237) = false := by rw [beq_eq_false_iff_ne]; omega
          go_enter Tryd.func89, Tryd.ntmps89
          go_wp2
          go_ret
          refine ⟨?_, rfl, by unfold ChAt; simp [World.setCell, Array.getElem?_modify, Hh.out]⟩
          repeat (first | exact grow_refl _ _ | exact grow_cell _ _ _ _ | refine grow_tr ?_ (grow_cell _ _ _ _))
    rw [if_neg a3]
    by_cases a4 : 240 ≤ n ∧ n < 245
    · rw [if_pos a4]
      obtain ⟨x1, x2⟩ := a4
      have x3 : ¬ n < 128 := by omega
      have x4 : ¬ n < 224 := by omega
      have x5 : ¬ n < 240 := by omega
      clear a1 a2 a3
      by_cases y1 : n = 240
      · subst y1
        rw [if_pos rfl, if_neg (by omega)]
        go_enter Tryd.func89, Tryd.ntmps89
        go_wp2
        go_ret
        refine ⟨?_, rfl, by unfold ChAt; simp [World.setCell, Array.getElem?_modify, Hh.out]⟩
        repeat (first | exact grow_refl _ _ | exact grow_cell _ _ _ _ | refine grow_tr ?_ (grow_cell _ _ _ _))
      · rw [if_neg y1]
        have y1' : ((n : Int) == 240) = false := by rw [beq_eq_false_iff_ne]; omega
        by_cases y2 : n = 244
        · subst y2
          rw [if_pos rfl]
          go_enter Tryd.func89, Tryd.ntmps89
          go_wp2
          go_ret
          refine ⟨?_, rfl, by unfold ChAt; simp [World.setCell, Array.getElem?_modify, Hh.out]⟩
          repeat (first | exact grow_refl _ _ | exact grow_cell _ _ _ _ | refine grow_tr ?_ (grow_cell _ _ _ _))
        · rw [if_neg y2]
          have y2' : ((n : Int) == 244) = false := by rw [beq_eq_false_iff_ne]; omega
          go_enter Tryd.func89, Tryd.ntmps89
          go_wp2
          go_ret
          refine ⟨?_, rfl, by unfold ChAt; simp [World.setCell, Array.getElem?_modify, Hh.out]⟩
          repeat (first | exact grow_refl _ _ | exact grow_cell _ _ _ _ | refine grow_tr ?_ (grow_cell _ _ _ _))
    rw [if_neg a4]
    by_cases z1 : n < 32
    · clear a1 a2 a3 a4
      have z2 : ¬ 32 ≤ n := by omega
      have z3 : ¬ 194 ≤ n := by omega
      have z4 : ¬ 224 ≤ n := by omega
      have z5 : ¬ 240 ≤ n := by omega
      go_enter Tryd.func89, Tryd.ntmps89
      go_wp2
      go_ret
      refine ⟨?_, rfl⟩
      repeat (first | exact grow_refl _ _ | exact grow_cell _ _ _ _ | refine grow_tr ?_ (grow_cell _ _ _ _))
    by_cases z2 : n < 194
    · clear a2 a3 a4
      have z3 : ¬ n < 128 := by omega
      have z4 : ¬ 194 ≤ n := by omega
      have z5 : ¬ 224 ≤ n := by omega
      have z6 : ¬ 240 ≤ n := by omega
      clear a1
      go_enter Tryd.func89, Tryd.ntmps89
      go_wp2
      go_ret
      refine ⟨?_, rfl⟩
      repeat (first | exact grow_refl _ _ | exact grow_cell _ _ _ _ | refine grow_tr ?_ (grow_cell _ _ _ _))
    have z3 : 245 ≤ n := by omega
    clear a1 a2 a3 a4
    have z4 : ¬ n < 128 := by omega
    have z5 : ¬ n < 224 := by omega
    have z6 : ¬ n < 240 := by omega
    have z7 : ¬ n < 245 := by omega
    go_enter Tryd.func89, Tryd.ntmps89
    go_wp2
    go_ret
    refine ⟨?_, rfl⟩
    repeat (first | exact grow_refl _ _ | exact grow_cell _ _ _ _ | refine grow_tr ?_ (grow_cell _ _ _ _))
end Go.Proofs.YtpfnmjcomdckgaaDoor
