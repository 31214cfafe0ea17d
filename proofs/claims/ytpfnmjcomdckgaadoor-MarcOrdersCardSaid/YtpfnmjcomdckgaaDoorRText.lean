/-
  The contracts of the library's strings.HasPrefix and internal/stringslite.Clone at this program: the shelf's theorems over any program, applied at this one's numbers. The longest text with which bytes begin: the program's lengthOfText.
-/
import Derived.Shelf.Strings.Prefix
import Derived.Shelf.Strconv.Clone
import Derived.Test.YtpfnmjcomdckgaaDoorProg
import Derived.Test.YtpfnmjcomdckgaaDoorRBase
import Derived.Lib.OthersKept
import Derived.Lib.Hide
namespace Go.Proofs.YtpfnmjcomdckgaaDoor
open Go.Shelf Go.RowKit
def renP : Go.Shelf.Ren := ⟨fun | 99 => 91 | 206 => 98 | 316 => 76 | n => n, fun | 0 => 0 | 3 => 3 | 4 => 4 | 5 => 5 | 9 => 9 | 20 => 20 | 37 => 42 | 46 => 136 | 51 => 137 | 70 => 72 | 71 => 99 | 72 => 74 | 75 => 81 | 80 => 83 | 119 => 132 | 127 => 101 | 138 => 134 | 139 => 135 | 146 => 138 | 164 => 113 | n => n, fun n => n⟩
set_option maxRecDepth 100000 in
theorem lays99 : Go.Proofs.Lays.n99 Tryd.prog renP := {
  mixed := by kernel_rfl
  f99 := Tryd.func91.trans (congrArg some (by kernel_rfl))
  f206 := Tryd.func98.trans (congrArg some (by kernel_rfl))
  t3 := Tryd.underlying3
  a3 := Tryd.isAgg3
  z3 := Tryd.sizeOf3
  v3 := Tryd.zeroValue3
  t4 := Tryd.underlying4
  a4 := Tryd.isAgg4
  z4 := Tryd.sizeOf4
  v4 := Tryd.zeroValue4
  t9 := Tryd.underlying9
  a9 := Tryd.isAgg9
  z9 := Tryd.sizeOf9
  v9 := Tryd.zeroValue9 }
theorem laysM316 : Go.Proofs.LaysM.n316 Tryd.prog renP := {
  mixed := by kernel_rfl
  f316 := Tryd.func76.trans (congrArg some (by kernel_rfl))
  t0 := Tryd.underlying0
  a0 := Tryd.isAgg0
  z0 := Tryd.sizeOf0
  v0 := Tryd.zeroValue0
  t3 := Tryd.underlying3
  a3 := Tryd.isAgg3
  z3 := Tryd.sizeOf3
  v3 := Tryd.zeroValue3
  t4 := Tryd.underlying4
  a4 := Tryd.isAgg4
  z4 := Tryd.sizeOf4
  v4 := Tryd.zeroValue4
  t9 := Tryd.underlying9
  a9 := Tryd.isAgg9
  z9 := Tryd.sizeOf9
  v9 := Tryd.zeroValue9
  t37 := Tryd.underlying42
  a37 := Tryd.isAgg42
  z37 := Tryd.sizeOf42
  v37 := Tryd.zeroValue42
  t127 := Tryd.underlying101
  a127 := Tryd.isAgg101
  z127 := Tryd.sizeOf101
  v127 := Tryd.zeroValue101
  t5 := Tryd.underlying5
  a5 := Tryd.isAgg5
  z5 := Tryd.sizeOf5
  v5 := Tryd.zeroValue5
  i0 := by kernel_rfl
  i3 := by kernel_rfl
  i4 := by kernel_rfl
  i5 := by kernel_rfl
  i9 := by kernel_rfl
  i37 := by kernel_rfl
  i127 := by kernel_rfl }
theorem hasPrefix (s p : ByteArray) (w : World) :
    Calls Tryd.prog 91 #[.string s, .string p] w fun e w' => e = .returned (.bool (Lib.hasPrefix s.data.toList p.data.toList)) ∧ w' = w :=
  Any.strings_HasPrefix lays99 s p w
theorem sliteClone (s : ByteArray) (w : World) (hlim : s.size ≤ 281474976710656) :
    Calls Tryd.prog 76 #[.string s] w fun e w' => e = .returned (.string s) ∧ Below w.heap.size w w' :=
  Any.stringslite_Clone laysM316 s w hlim
end Go.Proofs.YtpfnmjcomdckgaaDoor

namespace Go.Proofs.YtpfnmjcomdckgaaDoor
open Go.RowKit Go.Shelf
set_option linter.unusedVariables false
set_option linter.unusedSimpArgs false

theorem get_drop (l : List UInt8) (i k : Nat) : (ByteArray.mk l.toArray).get! (i + k) = (l.drop i).getD k 0 := by
  show l.toArray[i + k]! = _
  rw [List.getD_eq_getElem?_getD, List.getElem?_drop]
  by_cases h : i + k < l.length
  · simp [h]
  · rw [List.getElem?_eq_none (by omega)]
    simp [h]
    rfl
theorem decode_list (l : List UInt8) (i : Nat) : Utf8.decode ⟨l.toArray⟩ i = dec (l.drop i) := by
  rw [Lib.decode_at, size_str]
  unfold dec
  rw [List.length_drop, ← get_drop l i 0, ← get_drop l i 1, ← get_drop l i 2, ← get_drop l i 3]
  rfl
theorem dec_pos (r : List UInt8) : 1 ≤ (dec r).2 ∧ (dec r).1 ≤ 1114111 := by
  unfold dec Lib.decodeN
  repeat' split
  all_goals (simp only; omega)
theorem dec_le (r : List UInt8) (h : r ≠ []) : (dec r).2 ≤ r.length := by
  have : 1 ≤ r.length := by cases r with | nil => exact absurd rfl h | cons a t => simp
  unfold dec
  generalize r.length = n at *
  unfold Lib.decodeN
  repeat' split
  all_goals (simp only; omega)
theorem lenT_nil (f : Nat) : lenT f [] = 0 := by cases f <;> rfl
theorem lenT_stop (f : Nat) (r : List UInt8) (h : stopB (dec r).1 r = true) : lenT f r = 0 := by
  cases f with
  | zero => rfl
  | succ f => cases r with
    | nil => rfl
    | cons a t => show ite _ _ _ = _; rw [if_pos h]
theorem lenT_go (f : Nat) (r : List UInt8) (hr : r ≠ []) (h : stopB (dec r).1 r = false) : lenT (f + 1) r = (dec r).2 + lenT f (r.drop (dec r).2) := by
  cases r with
  | nil => exact absurd rfl hr
  | cons a t => show ite _ _ _ = _; rw [if_neg (by rw [h]; decide)]
theorem lenT_le : ∀ (f : Nat) (r : List UInt8), lenT f r ≤ r.length
  | 0, _ => Nat.zero_le _
  | f + 1, r => by
    by_cases hr : r = []
    · rw [hr]; simp [lenT_nil]
    · cases h : stopB (dec r).1 r with
      | true => rw [lenT_stop _ _ h]; exact Nat.zero_le _
      | false =>
        rw [lenT_go f r hr h]
        have h1 := lenT_le f (r.drop (dec r).2)
        have h2 := dec_le r hr
        rw [List.length_drop] at h1
        omega
/-- More fuel makes no difference. -/
theorem lenT_fuel : ∀ (f g : Nat) (r : List UInt8), r.length ≤ f → r.length ≤ g → lenT f r = lenT g r
  | 0, g, r, hf, _ => by
    have : r = [] := List.length_eq_zero_iff.1 (by omega)
    rw [this, lenT_nil, lenT_nil]
  | f + 1, 0, r, _, hg => by
    have : r = [] := List.length_eq_zero_iff.1 (by omega)
    rw [this, lenT_nil, lenT_nil]
  | f + 1, g + 1, r, hf, hg => by
    by_cases hr : r = []
    · rw [hr, lenT_nil, lenT_nil]
    · cases h : stopB (dec r).1 r with
      | true => rw [lenT_stop _ _ h, lenT_stop _ _ h]
      | false =>
        have hp := dec_pos r
        have : (r.drop (dec r).2).length < r.length := by
          rw [List.length_drop]
          have : 0 < r.length := by cases r with | nil => exact absurd rfl hr | cons a t => simp
          omega
        rw [lenT_go f r hr h, lenT_go g r hr h, lenT_fuel f g _ (by omega) (by omega)]
theorem textLen_le (l : List UInt8) : textLen l ≤ l.length := lenT_le _ _
theorem prefix_err (r : List UInt8) : Lib.hasPrefix r [239, 191, 189] = (r.take 3 == [239, 191, 189]) := by
  unfold Lib.hasPrefix
  match r with
  | [] => rfl
  | [a] => simp [List.isPrefixOf]
  | [a, b] => simp [List.isPrefixOf]
  | a :: b :: c :: t =>
    rw [Bool.eq_iff_iff]
    simp [List.isPrefixOf]
    constructor
    · rintro ⟨h1, h2, h3⟩; exact ⟨h1.symm, h2.symm, h3.symm⟩
    · rintro ⟨h1, h2, h3⟩; exact ⟨h1.symm, h2.symm, h3.symm⟩
set_option maxRecDepth 100000 in
set_option maxHeartbeats 1000000 in
theorem lengthOfText_c (l : List UInt8) (hl : l.length ≤ 1099511627776) (w : World) :
    Calls Tryd.prog 92 #[str l] w fun e w' => e = .returned (.int .i64 (textLen l)) ∧ Below w.heap.size w w' := by
  have hsz := size_str l
  have hnew : ((w.iter ⟨l.toArray⟩ 0).heap[w.heap.size]?) = some (.stringIter ⟨l.toArray⟩ 0) := by
    show (w.heap.push _)[w.heap.size]? = _
    simp
  have hb0 : Below w.heap.size w (w.iter ⟨l.toArray⟩ 0) := below_new _ _
  have Hnew := Lib.hid hnew
  have Hb0 := Lib.hid hb0
  clear hnew hb0
  go_enter Tryd.func92, Tryd.ntmps92
  go_wp2
  go_loopw [7] (fun _ wr => ∃ (pos fuel : Nat), wr.heap[w.heap.size]? = some (.stringIter ⟨l.toArray⟩ pos) ∧ pos ≤ l.length ∧ l.length ≤ pos + fuel ∧ textLen l = pos + lenT fuel (l.drop pos) ∧ Below w.heap.size w wr) (fun _ wr => l.length - wr.iterPos w.heap.size)
  case atStart => exact ⟨0, l.length, Hnew.out, Nat.zero_le _, by omega, by simp [textLen], Hb0.out⟩
  case round =>
    obtain ⟨pos, fuel, hit, hpl, hfu, htl, hb⟩ := hrel
    by_cases hpos : pos < l.length
    · obtain ⟨f, rfl⟩ : ∃ f, fuel = f + 1 := ⟨fuel - 1, by omega⟩
      have hp' : pos < (ByteArray.mk l.toArray).size := by rw [hsz]; exact hpos
      have hnx := Lib.run_next_any_at (P := Tryd.prog) wr w.heap.size ⟨l.toArray⟩ pos 0 hit hp'
      rw [decode_list] at hnx
      have hne : l.drop pos ≠ [] := by intro e; have := congrArg List.length e; simp at this; omega
      have hw1 := dec_pos (l.drop pos)
      have hw2 := dec_le (l.drop pos) hne
      rw [List.length_drop] at hw2
      have hgo := lenT_go f (l.drop pos) hne
      have hstop := lenT_stop (f + 1) (l.drop pos)
      rw [List.drop_drop] at hgo
      have hpre := prefix_err (l.drop pos)
      unfold stopB at hgo hstop
      obtain ⟨R, hR⟩ : ∃ R, (dec (l.drop pos)).1 = R := ⟨_, rfl⟩
      obtain ⟨S, hS⟩ : ∃ S, (dec (l.drop pos)).2 = S := ⟨_, rfl⟩
      rw [hR, hS] at hnx
      rw [hR] at hgo hstop hw1
      rw [hS] at hgo hw1 hw2
      have hit2 := Lib.iterAt_heap wr w.heap.size ⟨l.toArray⟩ pos (pos + S) hit
      have hbi : Below w.heap.size w (wr.iterAt w.heap.size ⟨l.toArray⟩ (pos + S)) := by
        exact hb.trans ⟨rfl, rfl, rfl, by rw [Lib.iterAt_size]; exact Nat.le_refl _, fun i hi => Lib.iterAt_other wr w.heap.size i ⟨l.toArray⟩ (pos + S) (by omega)⟩
      have hmz : l.length - (wr.iterAt w.heap.size ⟨l.toArray⟩ (pos + S)).iterPos w.heap.size < l.length - wr.iterPos w.heap.size := by
        have e1 : (wr.iterAt w.heap.size ⟨l.toArray⟩ (pos + S)).iterPos w.heap.size = pos + S := by unfold World.iterPos; rw [hit2]
        have e2 : wr.iterPos w.heap.size = pos := by unfold World.iterPos; rw [hit]
        rw [e1, e2]; omega
      have Hbi := Lib.hid hbi
      have Hit2 := Lib.hid hit2
      have Hmz := Lib.hid hmz
      have Hgo := Lib.hid hgo
      have Hstop := Lib.hid hstop
      have Htl := Lib.hid htl
      have hex := ext_drop l pos
      have i0 : (0 : Int) ≤ (pos : Int) := by omega
      have i1 : (pos : Int) ≤ (l.length : Int) := by omega
      obtain ⟨r, hr⟩ : ∃ r, l.drop pos = r := ⟨_, rfl⟩
      rw [hr] at hex hpre
      have hP := hasPrefix ⟨r.toArray⟩ ⟨#[239, 191, 189]⟩ (wr.iterAt w.heap.size ⟨l.toArray⟩ (pos + S))
      have HP := Lib.hid hP
      have Hr := Lib.hid hr
      clear hbi hit2 hmz hgo hstop htl hR hS hne hP hr hb
      by_cases h32 : R < 32
      · have j32 : (R : Int) < 32 := by omega
        go_wp2
        go_ret
        exact ⟨by rw [Htl.out, Hstop.out (by simp [h32])]; rfl, Hbi.out⟩
      · have j32 : ¬ (R : Int) < 32 := by omega
        by_cases hE : R = 65533
        · have jE : ((R : Int) == 65533) = true := by rw [hE]; rfl
          have HP' := HP.out
          cases hq : (r.take 3 == [239, 191, 189]) with
          | true =>
            rw [show Lib.hasPrefix (ByteArray.mk r.toArray).data.toList (ByteArray.mk #[239, 191, 189]).data.toList = true from hpre.trans hq] at HP'
            have HP := Lib.hid HP'
            clear HP'
            go_wp2_with fail
            refine HP.out.mono ?_
            rintro e w8 ⟨rfl, rfl⟩
            go_wp2
            go_roundw
            case rel => exact ⟨pos + S, f, Hit2.out, by omega, by omega, by rw [Htl.out, Hgo.out (by rw [Hr.out, hq]; simp [h32])]; omega, Hbi.out⟩
            case measure => exact Hmz.out
          | false =>
            rw [show Lib.hasPrefix (ByteArray.mk r.toArray).data.toList (ByteArray.mk #[239, 191, 189]).data.toList = false from hpre.trans hq] at HP'
            have HP := Lib.hid HP'
            clear HP'
            go_wp2_with fail
            refine HP.out.mono ?_
            rintro e w8 ⟨rfl, rfl⟩
            go_wp2
            go_ret
            exact ⟨by rw [Htl.out, Hstop.out (by rw [Hr.out, hq]; simp [hE])]; rfl, Hbi.out⟩
        · have jE : ((R : Int) == 65533) = false := by rw [beq_eq_false_iff_ne]; omega
          go_wp2
          go_roundw
          case rel => exact ⟨pos + S, f, Hit2.out, by omega, by omega, by rw [Htl.out, Hgo.out (by simp [h32, hE])]; omega, Hbi.out⟩
          case measure => exact Hmz.out
    · have hd : ¬ pos < (ByteArray.mk l.toArray).size := by rw [hsz]; exact hpos
      have hnx := Lib.run_next_end_at (P := Tryd.prog) wr w.heap.size ⟨l.toArray⟩ pos 0 hit hd
      have hT : textLen l = l.length := by
        rw [htl, List.drop_eq_nil_of_le (by omega), lenT_nil]; omega
      have HT := Lib.hid hT
      have Hb := Lib.hid hb
      clear htl hit hd hT hb
      go_wp2
      go_ret
      exact ⟨by rw [HT.out]; rfl, Hb.out⟩
end Go.Proofs.YtpfnmjcomdckgaaDoor
