/-
  utf8.FullRuneInString. utf8.FullRuneInString at every string.
-/
import Derived.Test.YtpfnmjcomdckgaaDoorRShelf
import Derived.Test.YtpfnmjcomdckgaaDoorRPHead
import Derived.BigQuiet
import Derived.Deep.QuietTactic
import Derived.WalkSmall
namespace Go.Proofs.YtpfnmjcomdckgaaDoor
open Go.RowKit Go.Shelf Go.Lib
set_option linter.unusedVariables false
set_option linter.unusedSimpArgs false
set_option linter.unnecessarySimpa false

def FullPost (b : Bool) (w : World) (e : Ending) (w' : World) : Prop := e = .returned (.bool b) ∧ Below w.heap.size w w'

set_option maxRecDepth 100000 in
set_option maxHeartbeats 4000000 in
theorem full_nil (w : World) : Calls Tryd.prog 103 #[.string ⟨([] : List UInt8).toArray⟩] w (FullPost (fullM []) w) := by
  go_enter Tryd.func103, Tryd.ntmps103
  go_wp2
  go_ret
  exact ⟨rfl, Below.refl _ _⟩
theorem size_of (l : List UInt8) : (ByteArray.mk l.toArray).size = l.length := by simp [ByteArray.size]

set_option maxRecDepth 100000 in
set_option maxHeartbeats 4000000 in
theorem full_one (b0 : UInt8) (w : World) (hT : Tabs w) : Calls Tryd.prog 103 #[.string ⟨([b0] : List UInt8).toArray⟩] w (FullPost (fullM [b0]) w) := by
  have h0 := b0.toNat_lt
  have hc0 := hT.1 b0.toNat (by omega)
  obtain ⟨x0, hx0⟩ : ∃ x0, b0.toNat = x0 := ⟨_, rfl⟩
  have hfm : fullM [b0] = fullM [b0] := rfl
  conv at hfm => rhs; unfold fullM
  simp only [List.getD_cons_zero, List.getD_cons_succ, List.length_cons, List.length_nil, hx0] at hfm
  have hget0 : (ByteArray.mk ([b0] : List UInt8).toArray)[0]'(by rw [size_of]; simp) = b0 := rfl
  rw [hx0] at hc0 h0
  obtain ⟨X, hX⟩ : ∃ X, firstT x0 = X := ⟨_, rfl⟩
  have hX9 := firstT_cases x0
  rw [hX] at hc0 hX9 hfm
  obtain ⟨lo, hlo⟩ : ∃ lo, accLo (X / 16) = lo := ⟨_, rfl⟩
  obtain ⟨hi, hhi⟩ : ∃ hi, accHi (X / 16) = hi := ⟨_, rfl⟩
  have hX16 : X / 16 < 16 := by rcases hX9 with h | h | h | h | h | h | h | h | h <;> omega
  obtain ⟨ha, hb⟩ := hT.2 (X / 16) hX16
  rw [hlo] at ha hfm
  rw [hhi] at hb hfm
  have i1 : (x0 : Int) < 256 := by omega
  have hsz := size_of [b0]
  simp only [List.length_cons, List.length_nil, Nat.zero_add, Nat.reduceAdd] at hsz
  have hfalse : ∀ b, fullM [b0] = b → FullPost (fullM [b0]) w = FullPost b w := fun b h => by rw [h]
  clear hT hX hlo hhi hX16 h0
  rcases hX9 with rfl | rfl | rfl | rfl | rfl | rfl | rfl | rfl | rfl
  all_goals
    simp only [Nat.reduceMul, Nat.reduceAdd, Nat.reduceMod, Nat.reduceDiv] at ha hb
    skip
    simp [] at hfm
    rw [hfalse _ hfm]
    clear hfm hfalse
    go_enter Tryd.func103, Tryd.ntmps103
    go_wp2
    first
      | (go_ret; exact ⟨rfl, Below.refl _ _⟩)
      | (go_quiet (fail); go_wp2; go_ret; exact ⟨rfl, below_dr ((Below.refl _ _).alloc (Nat.le_refl _) _) _⟩)

set_option maxRecDepth 100000 in
set_option maxHeartbeats 4000000 in
theorem full_two (b0 b1 : UInt8) (w : World) (hT : Tabs w) : Calls Tryd.prog 103 #[.string ⟨([b0, b1] : List UInt8).toArray⟩] w (FullPost (fullM [b0, b1]) w) := by
  have h0 := b0.toNat_lt
  have hc0 := hT.1 b0.toNat (by omega)
  obtain ⟨x0, hx0⟩ : ∃ x0, b0.toNat = x0 := ⟨_, rfl⟩
  have hfm : fullM [b0, b1] = fullM [b0, b1] := rfl
  conv at hfm => rhs; unfold fullM
  simp only [List.getD_cons_zero, List.getD_cons_succ, List.length_cons, List.length_nil, hx0] at hfm
  have hget0 : (ByteArray.mk ([b0, b1] : List UInt8).toArray)[0]'(by rw [size_of]; simp) = b0 := rfl
  have hget1 : (ByteArray.mk ([b0, b1] : List UInt8).toArray)[1]'(by rw [size_of]; simp) = b1 := rfl
  obtain ⟨x1, hx1⟩ : ∃ x1, b1.toNat = x1 := ⟨_, rfl⟩
  simp only [hx1] at hfm
  rw [hx0] at hc0 h0
  obtain ⟨X, hX⟩ : ∃ X, firstT x0 = X := ⟨_, rfl⟩
  have hX9 := firstT_cases x0
  rw [hX] at hc0 hX9 hfm
  obtain ⟨lo, hlo⟩ : ∃ lo, accLo (X / 16) = lo := ⟨_, rfl⟩
  obtain ⟨hi, hhi⟩ : ∃ hi, accHi (X / 16) = hi := ⟨_, rfl⟩
  have hX16 : X / 16 < 16 := by rcases hX9 with h | h | h | h | h | h | h | h | h <;> omega
  obtain ⟨ha, hb⟩ := hT.2 (X / 16) hX16
  rw [hlo] at ha hfm
  rw [hhi] at hb hfm
  have i1 : (x0 : Int) < 256 := by omega
  have hsz := size_of [b0, b1]
  simp only [List.length_cons, List.length_nil, Nat.zero_add, Nat.reduceAdd] at hsz
  have hfalse : ∀ b, fullM [b0, b1] = b → FullPost (fullM [b0, b1]) w = FullPost b w := fun b h => by rw [h]
  clear hT hX hlo hhi hX16 h0
  have c1 : x1 < lo ∨ (lo ≤ x1 ∧ hi < x1) ∨ (lo ≤ x1 ∧ x1 ≤ hi) := by omega
  rcases c1 with c1 | c1 | c1
  · have d1 : (x1 : Int) < (lo : Int) := by omega
    rcases hX9 with rfl | rfl | rfl | rfl | rfl | rfl | rfl | rfl | rfl
    all_goals
      simp only [Nat.reduceMul, Nat.reduceAdd, Nat.reduceMod, Nat.reduceDiv] at ha hb
      skip
      simp [c1] at hfm
      rw [hfalse _ hfm]
      clear hfm hfalse
      go_enter Tryd.func103, Tryd.ntmps103
      go_wp2
      first
        | (go_ret; exact ⟨rfl, Below.refl _ _⟩)
        | (go_quiet (fail); go_wp2; go_ret; exact ⟨rfl, below_dr ((Below.refl _ _).alloc (Nat.le_refl _) _) _⟩)
  · have d1 : (lo : Int) ≤ (x1 : Int) := by omega
    have d2 : (hi : Int) < (x1 : Int) := by omega
    have e1 : ¬ x1 < lo := by omega
    have e2 : hi < x1 := by omega
    rcases hX9 with rfl | rfl | rfl | rfl | rfl | rfl | rfl | rfl | rfl
    all_goals
      simp only [Nat.reduceMul, Nat.reduceAdd, Nat.reduceMod, Nat.reduceDiv] at ha hb
      skip
      simp [e1, e2] at hfm
      rw [hfalse _ hfm]
      clear hfm hfalse
      go_enter Tryd.func103, Tryd.ntmps103
      go_wp2
      first
        | (go_ret; exact ⟨rfl, Below.refl _ _⟩)
        | (go_quiet (fail); go_wp2; go_ret; exact ⟨rfl, below_dr ((Below.refl _ _).alloc (Nat.le_refl _) _) _⟩)
  · have d1 : (lo : Int) ≤ (x1 : Int) := by omega
    have d2 : (x1 : Int) ≤ (hi : Int) := by omega
    have e1 : ¬ x1 < lo := by omega
    have e2 : ¬ hi < x1 := by omega
    rcases hX9 with rfl | rfl | rfl | rfl | rfl | rfl | rfl | rfl | rfl
    all_goals
      simp only [Nat.reduceMul, Nat.reduceAdd, Nat.reduceMod, Nat.reduceDiv] at ha hb
      skip
      simp [e1, e2] at hfm
      rw [hfalse _ hfm]
      clear hfm hfalse
      go_enter Tryd.func103, Tryd.ntmps103
      go_wp2
      first
        | (go_ret; exact ⟨rfl, Below.refl _ _⟩)
        | (go_quiet (fail); go_wp2; go_ret; exact ⟨rfl, below_dr ((Below.refl _ _).alloc (Nat.le_refl _) _) _⟩)

set_option maxRecDepth 100000 in
set_option maxHeartbeats 4000000 in
theorem full_three (b0 b1 b2 : UInt8) (w : World) (hT : Tabs w) : Calls Tryd.prog 103 #[.string ⟨([b0, b1, b2] : List UInt8).toArray⟩] w (FullPost (fullM [b0, b1, b2]) w) := by
  have h0 := b0.toNat_lt
  have hc0 := hT.1 b0.toNat (by omega)
  obtain ⟨x0, hx0⟩ : ∃ x0, b0.toNat = x0 := ⟨_, rfl⟩
  have hfm : fullM [b0, b1, b2] = fullM [b0, b1, b2] := rfl
  conv at hfm => rhs; unfold fullM
  simp only [List.getD_cons_zero, List.getD_cons_succ, List.length_cons, List.length_nil, hx0] at hfm
  have hget0 : (ByteArray.mk ([b0, b1, b2] : List UInt8).toArray)[0]'(by rw [size_of]; simp) = b0 := rfl
  have hget1 : (ByteArray.mk ([b0, b1, b2] : List UInt8).toArray)[1]'(by rw [size_of]; simp) = b1 := rfl
  obtain ⟨x1, hx1⟩ : ∃ x1, b1.toNat = x1 := ⟨_, rfl⟩
  simp only [hx1] at hfm
  have hget2 : (ByteArray.mk ([b0, b1, b2] : List UInt8).toArray)[2]'(by rw [size_of]; simp) = b2 := rfl
  obtain ⟨x2, hx2⟩ : ∃ x2, b2.toNat = x2 := ⟨_, rfl⟩
  simp only [hx2] at hfm
  rw [hx0] at hc0 h0
  obtain ⟨X, hX⟩ : ∃ X, firstT x0 = X := ⟨_, rfl⟩
  have hX9 := firstT_cases x0
  rw [hX] at hc0 hX9 hfm
  obtain ⟨lo, hlo⟩ : ∃ lo, accLo (X / 16) = lo := ⟨_, rfl⟩
  obtain ⟨hi, hhi⟩ : ∃ hi, accHi (X / 16) = hi := ⟨_, rfl⟩
  have hX16 : X / 16 < 16 := by rcases hX9 with h | h | h | h | h | h | h | h | h <;> omega
  obtain ⟨ha, hb⟩ := hT.2 (X / 16) hX16
  rw [hlo] at ha hfm
  rw [hhi] at hb hfm
  have i1 : (x0 : Int) < 256 := by omega
  have hsz := size_of [b0, b1, b2]
  simp only [List.length_cons, List.length_nil, Nat.zero_add, Nat.reduceAdd] at hsz
  have hfalse : ∀ b, fullM [b0, b1, b2] = b → FullPost (fullM [b0, b1, b2]) w = FullPost b w := fun b h => by rw [h]
  clear hT hX hlo hhi hX16 h0
  have c1 : x1 < lo ∨ (lo ≤ x1 ∧ hi < x1) ∨ (lo ≤ x1 ∧ x1 ≤ hi ∧ x2 < 128) ∨ (lo ≤ x1 ∧ x1 ≤ hi ∧ 128 ≤ x2 ∧ 191 < x2) ∨ (lo ≤ x1 ∧ x1 ≤ hi ∧ 128 ≤ x2 ∧ x2 ≤ 191) := by omega
  rcases c1 with c1 | c1 | c1 | c1 | c1
  · have d1 : (x1 : Int) < (lo : Int) := by omega
    rcases hX9 with rfl | rfl | rfl | rfl | rfl | rfl | rfl | rfl | rfl
    all_goals
      simp only [Nat.reduceMul, Nat.reduceAdd, Nat.reduceMod, Nat.reduceDiv] at ha hb
      skip
      simp [c1] at hfm
      rw [hfalse _ hfm]
      clear hfm hfalse
      go_enter Tryd.func103, Tryd.ntmps103
      go_wp2
      first
        | (go_ret; exact ⟨rfl, Below.refl _ _⟩)
        | (go_quiet (fail); go_wp2; go_ret; exact ⟨rfl, below_dr ((Below.refl _ _).alloc (Nat.le_refl _) _) _⟩)
  · have d1 : (lo : Int) ≤ (x1 : Int) := by omega
    have d2 : (hi : Int) < (x1 : Int) := by omega
    have e1 : ¬ x1 < lo := by omega
    have e2 : hi < x1 := by omega
    rcases hX9 with rfl | rfl | rfl | rfl | rfl | rfl | rfl | rfl | rfl
    all_goals
      simp only [Nat.reduceMul, Nat.reduceAdd, Nat.reduceMod, Nat.reduceDiv] at ha hb
      skip
      simp [e1, e2] at hfm
      rw [hfalse _ hfm]
      clear hfm hfalse
      go_enter Tryd.func103, Tryd.ntmps103
      go_wp2
      first
        | (go_ret; exact ⟨rfl, Below.refl _ _⟩)
        | (go_quiet (fail); go_wp2; go_ret; exact ⟨rfl, below_dr ((Below.refl _ _).alloc (Nat.le_refl _) _) _⟩)
  · have d1 : (lo : Int) ≤ (x1 : Int) := by omega
    have d2 : (x1 : Int) ≤ (hi : Int) := by omega
    have e1 : ¬ x1 < lo := by omega
    have e2 : ¬ hi < x1 := by omega
    have d3 : (x2 : Int) < 128 := by omega
    have e3 : x2 < 128 := by omega
    rcases hX9 with rfl | rfl | rfl | rfl | rfl | rfl | rfl | rfl | rfl
    all_goals
      simp only [Nat.reduceMul, Nat.reduceAdd, Nat.reduceMod, Nat.reduceDiv] at ha hb
      skip
      simp [e1, e2, e3] at hfm
      rw [hfalse _ hfm]
      clear hfm hfalse
      go_enter Tryd.func103, Tryd.ntmps103
      go_wp2
      first
        | (go_ret; exact ⟨rfl, Below.refl _ _⟩)
        | (go_quiet (fail); go_wp2; go_ret; exact ⟨rfl, below_dr ((Below.refl _ _).alloc (Nat.le_refl _) _) _⟩)
  · have d1 : (lo : Int) ≤ (x1 : Int) := by omega
    have d2 : (x1 : Int) ≤ (hi : Int) := by omega
    have e1 : ¬ x1 < lo := by omega
    have e2 : ¬ hi < x1 := by omega
    have d3 : (128 : Int) ≤ (x2 : Int) := by omega
    have d4 : (191 : Int) < (x2 : Int) := by omega
    have e3 : ¬ x2 < 128 := by omega
    have e4 : 191 < x2 := by omega
    rcases hX9 with rfl | rfl | rfl | rfl | rfl | rfl | rfl | rfl | rfl
    all_goals
      simp only [Nat.reduceMul, Nat.reduceAdd, Nat.reduceMod, Nat.reduceDiv] at ha hb
      skip
      simp [e1, e2, e3, e4] at hfm
      rw [hfalse _ hfm]
      clear hfm hfalse
      go_enter Tryd.func103, Tryd.ntmps103
      go_wp2
      first
        | (go_ret; exact ⟨rfl, Below.refl _ _⟩)
        | (go_quiet (fail); go_wp2; go_ret; exact ⟨rfl, below_dr ((Below.refl _ _).alloc (Nat.le_refl _) _) _⟩)
  · have d1 : (lo : Int) ≤ (x1 : Int) := by omega
    have d2 : (x1 : Int) ≤ (hi : Int) := by omega
    have e1 : ¬ x1 < lo := by omega
    have e2 : ¬ hi < x1 := by omega
    have d3 : (128 : Int) ≤ (x2 : Int) := by omega
    have d4 : (x2 : Int) ≤ 191 := by omega
    have e3 : ¬ x2 < 128 := by omega
    have e4 : ¬ 191 < x2 := by omega
    rcases hX9 with rfl | rfl | rfl | rfl | rfl | rfl | rfl | rfl | rfl
    all_goals
      simp only [Nat.reduceMul, Nat.reduceAdd, Nat.reduceMod, Nat.reduceDiv] at ha hb
      skip
      simp [e1, e2, e3, e4] at hfm
      rw [hfalse _ hfm]
      clear hfm hfalse
      go_enter Tryd.func103, Tryd.ntmps103
      go_wp2
      first
        | (go_ret; exact ⟨rfl, Below.refl _ _⟩)
        | (go_quiet (fail); go_wp2; go_ret; exact ⟨rfl, below_dr ((Below.refl _ _).alloc (Nat.le_refl _) _) _⟩)
end Go.Proofs.YtpfnmjcomdckgaaDoor

namespace Go.Proofs.YtpfnmjcomdckgaaDoor
open Go.RowKit Go.Shelf Go.Lib
set_option linter.unusedVariables false

set_option maxRecDepth 100000 in
set_option maxHeartbeats 4000000 in
theorem full_more (b0 : UInt8) (l : List UInt8) (hl0 : l.getD 0 0 = b0) (hl4 : 4 ≤ l.length) (hl : l.length ≤ 1099511627776) (w : World) (hT : Tabs w) : Calls Tryd.prog 103 #[.string ⟨l.toArray⟩] w (FullPost (fullM l) w) := by
  have h0 := b0.toNat_lt
  have hc0 := hT.1 b0.toNat (by omega)
  have hsz := size_of l
  have hget0 : (ByteArray.mk l.toArray)[0]'(by rw [hsz]; omega) = b0 := by
    rw [← hl0]
    have : l.getD 0 0 = l[0] := by simp [List.getD, show 0 < l.length by omega]
    rw [this]; rfl
  have hX9 := firstT_cases b0.toNat
  have hf : fullM l = true := by
    unfold fullM
    rw [hl0]
    have : firstT b0.toNat % 8 ≤ l.length := by rcases hX9 with h | h | h | h | h | h | h | h | h <;> rw [h] <;> omega
    have hne : l ≠ [] := by intro e; rw [e] at hl4; simp at hl4
    simp [this, hne]
  rw [hf]
  obtain ⟨x0, hx0⟩ : ∃ x0, b0.toNat = x0 := ⟨_, rfl⟩
  rw [hx0] at hc0 h0 hX9
  obtain ⟨X, hX⟩ : ∃ X, firstT x0 = X := ⟨_, rfl⟩
  rw [hX] at hc0 hX9
  have i1 : (x0 : Int) < 256 := by omega
  have i4 : (4 : Int) ≤ (l.length : Int) := by omega
  have i5 : (l.length : Int) ≤ 1099511627776 := by omega
  clear hT hX hf h0 hl0
  rcases hX9 with rfl | rfl | rfl | rfl | rfl | rfl | rfl | rfl | rfl
  all_goals
    go_enter Tryd.func103, Tryd.ntmps103
    go_wp2
    go_ret
    exact ⟨rfl, Below.refl _ _⟩

theorem full_c (l : List UInt8) (hl : l.length ≤ 1099511627776) (w : World) (hT : Tabs w) : Calls Tryd.prog 103 #[.string ⟨l.toArray⟩] w (FullPost (fullM l) w) := by
  match l, hl with
  | [], _ => exact full_nil w
  | [b0], _ => exact full_one b0 w hT
  | [b0, b1], _ => exact full_two b0 b1 w hT
  | [b0, b1, b2], _ => exact full_three b0 b1 b2 w hT
  | b0 :: b1 :: b2 :: b3 :: t, hl => exact full_more b0 _ rfl (by simp) hl w hT
end Go.Proofs.YtpfnmjcomdckgaaDoor
