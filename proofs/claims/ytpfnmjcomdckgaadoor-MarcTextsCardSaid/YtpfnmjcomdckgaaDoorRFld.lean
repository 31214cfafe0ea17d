/-
  The field reader's fail, sees, skip, take.
-/
import Derived.Test.YtpfnmjcomdckgaaDoorRPDir
import Derived.Test.YtpfnmjcomdckgaaDoorRFull2
import Derived.BigRegion
import Derived.BigQuiet
import Derived.Deep.QuietTactic
import Derived.Deep.RegionWith
namespace Go.Proofs.YtpfnmjcomdckgaaDoor
open Go.RowKit Go.Shelf
set_option linter.unusedVariables false
set_option linter.unusedSimpArgs false

/-- The reader at b: its bytes, where they begin in the record, how many were read. -/
def FR (b : Nat) (bs : List UInt8) (off a : Nat) (w : World) : Prop := w.heap[b]? = some (.cells #[str bs, .int .i64 off, .int .i64 a] 121 (0, 0))
theorem FR.c0 {b : Nat} {bs : List UInt8} {off a : Nat} {w : World} (h : FR b bs off a w) : w.cell? ⟨b, 0, none⟩ = some (str bs) := by rw [cell_at h]; rfl
theorem FR.c1 {b : Nat} {bs : List UInt8} {off a : Nat} {w : World} (h : FR b bs off a w) : w.cell? ⟨b, 1, none⟩ = some (.int .i64 off) := by rw [cell_at h]; rfl
theorem FR.c2 {b : Nat} {bs : List UInt8} {off a : Nat} {w : World} (h : FR b bs off a w) : w.cell? ⟨b, 2, none⟩ = some (.int .i64 a) := by rw [cell_at h]; rfl
theorem FR.f2 {b : Nat} {bs : List UInt8} {off a : Nat} {w : World} (h : FR b bs off a w) : w.frozen? ⟨b, 2, none⟩ = false := Lib.frozen_of_heap h 2
theorem FR.set {b : Nat} {bs : List UInt8} {off a : Nat} {w : World} (h : FR b bs off a w) (a' : Nat) : FR b bs off a' (w.setCell ⟨b, 2, none⟩ (.int .i64 a')) := by
  unfold FR at h ⊢
  simp [World.setCell, Array.getElem?_modify, h]
theorem grown_set (w : World) (b o : Nat) (v : Value) : w.grownBy (w.setCell ⟨b, o, none⟩ v) (some b) :=
  ⟨rfl, rfl, rfl, by simp [World.setCell], fun k _ hk => Below.heap_setCell _ _ _ _ (fun e => hk (by rw [e]))⟩
theorem grown_refl (w : World) (r : Option Nat) : w.grownBy w r := ⟨rfl, rfl, rfl, Nat.le_refl _, fun _ _ _ => rfl⟩
theorem grown_tr {a b c : World} {r : Option Nat} (h : a.grownBy b r) (k : b.grownBy c r) : a.grownBy c r :=
  ⟨k.os.trans h.os, k.tape.trans h.tape, k.output.trans h.output, Nat.le_trans h.size k.size, fun i hi hr => (k.block i (Nat.lt_of_lt_of_le hi h.size) hr).trans (h.block i hi hr)⟩
theorem grown_below {a b : World} {r : Option Nat} (h : Below a.heap.size a b) : a.grownBy b r := ⟨h.os, h.tape, h.output, h.size, fun i hi _ => h.block i hi⟩
set_option maxRecDepth 100000 in
theorem wrapI (n : Int) (h0 : -9223372036854775808 ≤ n) (h1 : n ≤ 9223372036854775807) : IntKind.i64.wrap n = n := by
  rw [IntKind.wrap_i64]; omega
def failAt (bs : List UInt8) (off a : Nat) : Nat := off + min a (bs.length - 1)
set_option maxRecDepth 100000 in
set_option maxHeartbeats 4000000 in
theorem failM_c (b : Nat) (bs : List UInt8) (off a : Nat) (w : World) (h : FR b bs off a w) (h1 : 1 ≤ bs.length) (hl : bs.length ≤ 1099511627776) (ho : off ≤ 1099511627776) :
    Calls Tryd.prog 97 #[.pointer (some ⟨b, 0, none⟩)] w fun e w' => e = pan (failAt bs off a : Nat) 14 ∧ Below w.heap.size w w' := by
  have c0 := h.c0
  have c1 := h.c1
  have c2 := h.c2
  have hsz := size_str bs
  have hm : min (a : Int) ((bs.length : Int) - 1) = ((min a (bs.length - 1) : Nat) : Int) := by omega
  have hb2 : min a (bs.length - 1) ≤ 1099511627776 := by omega
  unfold failAt
  obtain ⟨m, hmm⟩ : ∃ m, min a (bs.length - 1) = m := ⟨_, rfl⟩
  rw [hmm] at hm hb2 ⊢
  clear h hmm
  go_enter Tryd.func97, Tryd.ntmps97
  go_wp2_with fail
  have hw := Lib.hid ((Below.refl w.heap.size w).drew)
  have hval : IntKind.i64.wrap ((off : Int) + min (a : Int) (IntKind.i64.wrap ((bs.length : Int) - 1))) = (off : Int) + (m : Int) := by
    rw [wrapI ((bs.length : Int) - 1) (by omega) (by omega), hm, wrapI _ (by omega) (by omega)]
  have Hval := Lib.hid hval
  clear hval
  first
    | go_region_with (go_at_call 68; refine (fail_c _ _ _).mono ?_; rintro e W2 ⟨rfl, rfl⟩; refine (fun (_ : wpAny Tryd.prog .any #[] (fun _ _ _ => True) 0 #[] { tmps := #[], defers := [] } w) => ?_) ?_; focus (refine ⟨rfl, ?_⟩; exact ⟨by rw [Hval.out]; push_cast; rfl, hw.out⟩))
    | fail
  all_goals trivial
def seesB (bs : List UInt8) (a : Nat) (c : UInt8) : Bool := decide (a < bs.length) && (bs.getD a 0 == c)
set_option maxRecDepth 100000 in
set_option maxHeartbeats 1000000 in
theorem sees_c (b : Nat) (bs : List UInt8) (off a : Nat) (c : UInt8) (w : World) (h : FR b bs off a w) :
    Calls Tryd.prog 102 #[.pointer (some ⟨b, 0, none⟩), .int .u8 (c.toNat : Int)] w fun e w' => e = .returned (.bool (seesB bs a c)) ∧ Below w.heap.size w w' := by
  have c0 := h.c0
  have c2 := h.c2
  have hsz := size_str bs
  unfold seesB
  by_cases hlt : a < bs.length
  · have i0 : (0 : Int) ≤ (a : Int) := by omega
    have i1 : (a : Int) < (bs.length : Int) := by omega
    have hg : ∀ h, (ByteArray.mk bs.toArray)[a]'h = bs.getD a 0 := fun h => by rw [getD_at bs a hlt]; rfl
    rw [decide_eq_true hlt, Bool.true_and]
    have hbe : (bs.getD a 0 == c) = (((bs.getD a 0).toNat : Int) == (c.toNat : Int)) := by
      rw [Bool.eq_iff_iff]; simp only [beq_iff_eq]
      rw [← UInt8.toNat_inj]; omega
    rw [hbe]
    obtain ⟨x, hx⟩ : ∃ x, bs.getD a 0 = x := ⟨_, rfl⟩
    rw [hx] at hg ⊢
    clear h hbe hx
    go_enter Tryd.func102, Tryd.ntmps102
    go_wp2_with fail
    go_quiet (fail)
    go_wp2
    go_ret
    exact ⟨rfl, below_dr (Below.refl _ _) _⟩
  · have i1 : ¬ (a : Int) < (bs.length : Int) := by omega
    rw [decide_eq_false hlt, Bool.false_and]
    clear h
    go_enter Tryd.func102, Tryd.ntmps102
    go_wp2_with fail
    go_quiet (fail)
    go_wp2
    go_ret
    exact ⟨rfl, below_dr (Below.refl _ _) _⟩
end Go.Proofs.YtpfnmjcomdckgaaDoor
