/-
  Small laws on strings, blocks and frames. Records and their bytes, as lists: no program. marc.number, isTag, isControl. How records lie in memory. marc.isTag.
-/
import Derived.Shelf.Abstract
import Derived.WalkKit
import Derived.OwnWalkIn
import Derived.TacticsInMore
import Derived.LoopNIn
import Derived.LoopIn
import Derived.LoopTactic
import Derived.WalkLawsBesides
import Derived.WalkSmall
import Derived.Test.YtpfnmjcomdckgaaDoorProg
import Derived.Lib.DecodeN
import Derived.Lib.Hide
namespace Go.Proofs.YtpfnmjcomdckgaaDoor
open Go.RowKit Go.Shelf
set_option linter.unusedVariables false
set_option linter.unusedSimpArgs false

/-- A string of these bytes. -/
abbrev str (l : List UInt8) : Value := .string ⟨l.toArray⟩
theorem size_str (l : List UInt8) : (ByteArray.mk l.toArray).size = l.length := by
  simp [ByteArray.size]
theorem get_str (l : List UInt8) (k : Nat) (h : k < (ByteArray.mk l.toArray).size) : (ByteArray.mk l.toArray)[k]'h = l[k]'(by rw [size_str] at h; exact h) := rfl
theorem str_append (a b : List UInt8) : (⟨a.toArray⟩ : ByteArray) ++ ⟨b.toArray⟩ = ⟨(a ++ b).toArray⟩ := by
  apply ByteArray.ext
  simp
theorem add_str (a b : List UInt8) (h : a.length + b.length ≤ 9223372036854775807) (W : World) : (Op.stringOp .add ⟨a.toArray⟩ ⟨b.toArray⟩).run Tryd.prog W = .ok (str (a ++ b)) W := by
  rw [run_string_add_sum W _ _ (by rw [size_str, size_str]; exact h), str_append]
theorem ext_drop (l : List UInt8) (k : Nat) : (ByteArray.mk l.toArray).extract k l.length = ⟨(l.drop k).toArray⟩ := by
  apply ByteArray.ext
  rw [ByteArray.data_extract]
  apply Array.toList_inj.1
  rw [Array.toList_extract, List.extract_eq_take_drop]
  simp
  exact List.take_of_length_le (by simp)
theorem ext_mid (l : List UInt8) (i j : Nat) : (ByteArray.mk l.toArray).extract i j = ⟨((l.drop i).take (j - i)).toArray⟩ := by
  apply ByteArray.ext
  rw [ByteArray.data_extract]
  apply Array.toList_inj.1
  rw [Array.toList_extract, List.extract_eq_take_drop]
theorem ext_take (l : List UInt8) (k : Nat) : (ByteArray.mk l.toArray).extract 0 k = ⟨(l.take k).toArray⟩ := by
  rw [ext_mid]; simp
theorem below_tr {a b c : World} (h : Below a.heap.size a b) (k : Below b.heap.size b c) : Below a.heap.size a c := h.trans (k.mono h.size)
theorem below_new (w : World) (o : Obj) : Below w.heap.size w (w.alloc o) := (Below.refl _ w).alloc (Nat.le_refl _) o
theorem below_dr {B : Nat} {a w : World} (h : Below B a w) (n : Nat) : Below B a (w.drewN n) := h.trans ⟨rfl, rfl, rfl, Nat.le_refl _, fun _ _ => rfl⟩
theorem cell_at {w : World} {b : Nat} {cs : Array Value} {T : TypeId} (hb : w.heap[b]? = some (.cells cs T (0, 0))) (j : Nat) : w.cell? ⟨b, j, none⟩ = cs[j]? := Lib.cell_of_heap hb j
theorem lt_at {w : World} {b : Nat} {x : Obj} (hb : w.heap[b]? = some x) : b < w.heap.size := (Array.getElem?_eq_some_iff.1 hb).1
theorem lt_of_cell {w : World} {b o : Nat} {v : Value} (h : w.cell? ⟨b, o, none⟩ = some v) : b < w.heap.size := by
  rcases Nat.lt_or_ge b w.heap.size with h' | h'
  · exact h'
  · simp [World.cell?, Array.getElem?_eq_none h'] at h
end Go.Proofs.YtpfnmjcomdckgaaDoor

namespace Go.Proofs.YtpfnmjcomdckgaaDoor
open Go.RowKit Go.Shelf
set_option linter.unusedVariables false
set_option linter.unusedSimpArgs false

structure SubM where
  code : UInt8
  text : List UInt8
deriving DecidableEq
structure FldM where
  tag : List UInt8
  ind : List UInt8
  data : List UInt8
  subs : List SubM
deriving DecidableEq
structure RecM where
  kind : UInt8
  level : UInt8
  fields : List FldM
deriving DecidableEq

def digB (b : UInt8) : Bool := decide (48 ≤ b.toNat) && decide (b.toNat ≤ 57)
def lowB (b : UInt8) : Bool := decide (97 ≤ b.toNat) && decide (b.toNat ≤ 122)
def signB (b : UInt8) : Bool := decide (33 ≤ b.toNat) && decide (b.toNat ≤ 126)
def indB (b : UInt8) : Bool := decide (32 ≤ b.toNat) && decide (b.toNat ≤ 126)
/-- What digits denote. -/
def valL (l : List UInt8) : Nat := l.foldl (fun n c => 10 * n + (c.toNat - 48)) 0
def tagB (l : List UInt8) : Bool := l.all digB && (l.length == 3) && (l != [48, 48, 48])
def ctlB (l : List UInt8) : Bool := l.take 2 == [48, 48]
/-- A text ends in front of these bytes. -/
def stopB (c : Nat) (r : List UInt8) : Bool := decide (c < 32) || (c == 65533 && !(r.take 3 == [239, 191, 189]))
/-- The first character, and how many bytes it has. -/
def dec (r : List UInt8) : Nat × Nat := Lib.decodeN r.length (r.getD 0 0).toNat (r.getD 1 0).toNat (r.getD 2 0).toNat (r.getD 3 0).toNat
/-- How many bytes the longest text has with which these begin. -/
def lenT : Nat → List UInt8 → Nat
  | 0, _ => 0
  | f + 1, r => match r with
    | [] => 0
    | _ :: _ => if stopB (dec r).1 r then 0 else (dec r).2 + lenT f (r.drop (dec r).2)
def textLen (l : List UInt8) : Nat := lenT l.length l
def textB (l : List UInt8) : Bool := textLen l == l.length
def subB (s : SubM) : Bool := signB s.code && textB s.text
def fieldB (f : FldM) : Bool :=
  if ctlB f.tag then f.ind.isEmpty && f.subs.isEmpty && textB f.data
  else f.data.isEmpty && (f.ind.length == 2) && f.ind.all indB && f.subs.all subB && !f.subs.isEmpty
def subsN (l : List SubM) : Nat := (l.map fun s => 2 + s.text.length).sum
def sizeF (f : FldM) : Nat := f.data.length + f.ind.length + 1 + subsN f.subs
def subsL (l : List SubM) : List UInt8 := l.flatMap fun s => 31 :: s.code :: s.text
def bytesF (f : FldM) : List UInt8 := f.data ++ f.ind ++ subsL f.subs ++ [30]
def sizeH (n : Nat) : Nat := 24 + 12 * n + 1
def fieldsN (l : List FldM) : Nat := (l.map sizeF).sum
def sizeR (r : RecM) : Nat := sizeH r.fields.length + 1 + fieldsN r.fields
/-- A number in k digits. -/
def digsN (n : Nat) : Nat → List UInt8
  | 0 => []
  | k + 1 => digsN (n / 10) k ++ [UInt8.ofNat (48 + n % 10)]
def dirM : Nat → List FldM → List UInt8
  | _, [] => []
  | b, f :: fs => f.tag ++ digsN (sizeF f) 4 ++ digsN b 5 ++ dirM (b + sizeF f) fs
/-- The error of the first field that is not right. -/
def firstBad : List FldM → Nat
  | [] => 0
  | f :: fs => if tagB f.tag then (if fieldB f then firstBad fs else 14) else 13
def largeB (l : List FldM) : Bool := l.any fun f => decide (9999 < sizeF f)
def checkM (r : RecM) : Nat :=
  if lowB r.kind && lowB r.level then
    (if firstBad r.fields = 0 then
      (if decide (999 < r.fields.length) || largeB r.fields || decide (99999 < sizeR r) then 2 else 0)
    else firstBad r.fields)
  else 12
def leadM (r : RecM) : List UInt8 := digsN (sizeR r) 5 ++ [110, r.kind, r.level, 32, 97, 50, 50] ++ digsN (sizeH r.fields.length) 5 ++ [32, 32, 32, 52, 53, 48, 48]
def writeM (r : RecM) : List UInt8 := leadM r ++ dirM 0 r.fields ++ [30] ++ r.fields.flatMap bytesF ++ [29]

theorem bytesF_len (f : FldM) : (bytesF f).length = sizeF f := by
  have h : ∀ l : List SubM, (subsL l).length = subsN l := by
    intro l
    induction l with
    | nil => rfl
    | cons s r ih => simp only [subsL, subsN, List.flatMap_cons, List.length_append, List.length_cons, List.map_cons, List.sum_cons] at ih ⊢; omega
  unfold bytesF sizeF
  simp only [List.length_append, h, List.length_cons, List.length_nil]
  omega
theorem digsN_len : ∀ (k n : Nat), (digsN n k).length = k
  | 0, _ => rfl
  | k + 1, n => by simp [digsN, digsN_len k]
theorem subsN_snoc (l : List SubM) (k : Nat) (h : k < l.length) : subsN (l.take (k + 1)) = subsN (l.take k) + (2 + l[k].text.length) := by
  unfold subsN
  rw [List.take_succ_eq_append_getElem h, List.map_append, List.sum_append]
  simp
theorem subsN_le (l : List SubM) (k : Nat) : subsN (l.take k) ≤ subsN l := by
  unfold subsN
  conv => rhs; rw [← List.take_append_drop k l, List.map_append, List.sum_append]
  exact Nat.le_add_right _ _
theorem subsL_snoc (l : List SubM) (k : Nat) (h : k < l.length) : subsL (l.take (k + 1)) = subsL (l.take k) ++ (31 :: l[k].code :: l[k].text) := by
  unfold subsL
  rw [List.take_succ_eq_append_getElem h, List.flatMap_append]
  simp
theorem fieldsN_snoc (l : List FldM) (k : Nat) (h : k < l.length) : fieldsN (l.take (k + 1)) = fieldsN (l.take k) + sizeF l[k] := by
  unfold fieldsN
  rw [List.take_succ_eq_append_getElem h, List.map_append, List.sum_append]
  simp
theorem fieldsN_le (l : List FldM) (k : Nat) : fieldsN (l.take k) ≤ fieldsN l := by
  unfold fieldsN
  conv => rhs; rw [← List.take_append_drop k l, List.map_append, List.sum_append]
  exact Nat.le_add_right _ _
theorem sizeF_le (l : List FldM) (k : Nat) (h : k < l.length) : sizeF l[k] ≤ fieldsN l := by
  have := fieldsN_le l (k + 1)
  rw [fieldsN_snoc l k h] at this
  omega
end Go.Proofs.YtpfnmjcomdckgaaDoor

namespace Go.Proofs.YtpfnmjcomdckgaaDoor
open Go.RowKit Go.Shelf
set_option linter.unusedVariables false
set_option linter.unusedSimpArgs false

def numW (l : List UInt8) : Int := l.foldl (fun n c => wrap64 (wrap64 (10 * n) + ((c.toNat : Int) - 48))) 0
theorem numW_snoc (l : List UInt8) (c : UInt8) : numW (l ++ [c]) = wrap64 (wrap64 (10 * numW l) + ((c.toNat : Int) - 48)) := by simp [numW]
theorem valL_snoc (l : List UInt8) (c : UInt8) : valL (l ++ [c]) = 10 * valL l + (c.toNat - 48) := by simp [valL]
def numV (l : List UInt8) : Int := if l.all digB then numW l else 0
theorem take_snoc {α : Type} (l : List α) (k : Nat) (h : k < l.length) : l.take (k + 1) = l.take k ++ [l[k]] := by
  rw [List.take_succ_eq_append_getElem h]
theorem digB_iff {b : UInt8} : digB b = true ↔ 48 ≤ b.toNat ∧ b.toNat ≤ 57 := by unfold digB; simp
theorem valL_lt : ∀ (l : List UInt8), l.all digB = true → valL l < 10 ^ l.length := by
  intro l
  induction hn : l.length generalizing l with
  | zero => intro _; rw [List.length_eq_zero_iff.1 hn]; decide
  | succ n ih =>
    intro h
    obtain ⟨t, c, rfl⟩ : ∃ t c, l = t ++ [c] := by
      have hne : l ≠ [] := by intro e; rw [e] at hn; simp at hn
      exact ⟨l.dropLast, l.getLast hne, (List.dropLast_concat_getLast hne).symm⟩
    simp only [List.all_append, List.all_cons, List.all_nil, Bool.and_true, Bool.and_eq_true] at h
    have := ih t (by simpa using hn) h.1
    have := digB_iff.1 h.2
    rw [valL_snoc, Nat.pow_succ]
    omega
theorem numW_val : ∀ (l : List UInt8), l.all digB = true → l.length ≤ 18 → numW l = (valL l : Int) := by
  intro l
  induction hn : l.length generalizing l with
  | zero => intro _ _; rw [List.length_eq_zero_iff.1 hn]; rfl
  | succ n ih =>
    intro h hl
    obtain ⟨t, c, rfl⟩ : ∃ t c, l = t ++ [c] := by
      have hne : l ≠ [] := by intro e; rw [e] at hn; simp at hn
      exact ⟨l.dropLast, l.getLast hne, (List.dropLast_concat_getLast hne).symm⟩
    simp only [List.all_append, List.all_cons, List.all_nil, Bool.and_true, Bool.and_eq_true] at h
    have htl : t.length = n := by simpa using hn
    have h1 := ih t htl h.1 (by omega)
    have h2 := digB_iff.1 h.2
    have h3 := valL_lt t h.1
    have h4 : 10 ^ t.length ≤ 10 ^ 17 := Nat.pow_le_pow_right (by decide) (by omega)
    rw [numW_snoc, valL_snoc, h1]
    unfold wrap64
    omega
theorem numV_val {l : List UInt8} (h : l.all digB = true) (hl : l.length ≤ 18) : numV l = (valL l : Int) := by
  unfold numV; rw [if_pos h]; exact numW_val l h hl
theorem numV_bad {l : List UInt8} (h : l.all digB = false) : numV l = 0 := by unfold numV; rw [if_neg (by rw [h]; decide)]

set_option maxRecDepth 100000 in
set_option maxHeartbeats 1000000 in
theorem number_c (l : List UInt8) (hl : l.length ≤ 9223372036854775807) (w : World) :
    Calls Tryd.prog 75 #[str l] w fun e w' => e = .returned (.tuple #[.int .i64 (numV l), .bool (l.all digB)]) ∧ w' = w := by
  have hsz := size_str l
  go_enter Tryd.func75, Tryd.ntmps75
  go_wp2
  go_loopw [4, 8] (fun n i wr => ∃ k : Nat, k ≤ l.length ∧ i = .int .i64 k ∧ n = .int .i64 (numW (l.take k)) ∧ (l.take k).all digB = true ∧ wr = w) (fun _ i _ => l.length - (intOf i).toNat)
  case atStart => exact ⟨0, Nat.zero_le _, rfl, rfl, rfl, rfl⟩
  case round =>
    obtain ⟨k, hk, rfl, rfl, hall, rfl⟩ := hrel
    by_cases hlt : k < l.length
    · have hs := take_snoc l k hlt
      have hb := l[k].toNat_lt
      obtain ⟨c, hc⟩ : ∃ c, l[k] = c := ⟨_, rfl⟩
      have hg : ∀ h, (ByteArray.mk l.toArray)[k]'h = c := fun h => by rw [get_str, hc]
      rw [hc] at hs hb
      have i0 : (0 : Int) ≤ (k : Int) := by omega
      have i1 : (k : Int) < (l.length : Int) := by omega
      by_cases h1 : 48 ≤ c.toNat
      · have j1 : (48 : Int) ≤ (c.toNat : Int) := by omega
        by_cases h2 : c.toNat ≤ 57
        · have j2 : (c.toNat : Int) ≤ 57 := by omega
          have Hs := Lib.hid hs
          have hd : digB c = true := digB_iff.2 ⟨h1, h2⟩
          have Hd := Lib.hid hd
          have Hall := Lib.hid hall
          clear hs hd hall
          go_wp2
          go_roundw
          case rel => exact ⟨k + 1, by omega, by go_num, by rw [Hs.out, numW_snoc], by rw [Hs.out, List.all_append, Hall.out]; simp [Hd.out]⟩
          case measure => simp [intOf]; omega
        · have j2 : ¬ (c.toNat : Int) ≤ 57 := by omega
          have hbad : l.all digB = false := by
            rw [List.all_eq_false]
            exact ⟨c, hc ▸ List.getElem_mem _, by rw [digB_iff]; omega⟩
          have Hb := Lib.hid hbad
          clear hs hall hbad
          go_wp2
          go_ret2
          exact ⟨by rw [numV_bad Hb.out, Hb.out]; rfl, rfl⟩
      · have j1 : ¬ (48 : Int) ≤ (c.toNat : Int) := by omega
        have hbad : l.all digB = false := by
          rw [List.all_eq_false]
          exact ⟨c, hc ▸ List.getElem_mem _, by rw [digB_iff]; omega⟩
        have Hb := Lib.hid hbad
        clear hs hall hbad
        go_wp2
        go_ret2
        exact ⟨by rw [numV_bad Hb.out, Hb.out]; rfl, rfl⟩
    · have hkl : k = l.length := by omega
      subst hkl
      rw [List.take_length] at hall
      have hd : decide (l.length < l.length) = false := by simp
      go_wp2
      go_ret2
      exact ⟨by rw [List.take_length]; unfold numV; rw [if_pos hall, hall]; rfl, rfl⟩
end Go.Proofs.YtpfnmjcomdckgaaDoor

namespace Go.Proofs.YtpfnmjcomdckgaaDoor
open Go.RowKit Go.Shelf
set_option linter.unusedVariables false
set_option linter.unusedSimpArgs false

theorem cell_below {w w' : World} {B b o : Nat} {v : Value} (h : Below B w w') (hB : w.heap.size ≤ B) (hc : w.cell? ⟨b, o, none⟩ = some v) : w'.cell? ⟨b, o, none⟩ = some v := by
  have hlt := lt_of_cell hc
  exact (h.cell (p := ⟨b, o, none⟩) (by show b < B; omega)).trans hc

/-- A slice value reads as a list of subfields. -/
def SubsAt (w : World) (v : Value) (l : List SubM) : Prop :=
  (∃ a c, v = .slice a 0 c ∧ l = []) ∨
  ∃ b off cap, v = .slice (some ⟨b, off, none⟩) l.length cap ∧ l.length ≤ maxLen ∧ b < w.heap.size ∧
    ∀ i (h : i < l.length), w.cell? ⟨b, off + i * 2, none⟩ = some (.int .u8 (l[i].code.toNat : Int)) ∧ w.cell? ⟨b, off + i * 2 + 1, none⟩ = some (str l[i].text)
theorem SubsAt.below {w w' : World} {B : Nat} {v : Value} {l : List SubM} (h : SubsAt w v l) (hb : Below B w w') (hB : w.heap.size ≤ B) : SubsAt w' v l := by
  rcases h with h | ⟨b, off, cap, hv, hm, hlt, hc⟩
  · exact .inl h
  · exact .inr ⟨b, off, cap, hv, hm, Nat.lt_of_lt_of_le hlt hb.size, fun i hi => ⟨cell_below hb hB (hc i hi).1, cell_below hb hB (hc i hi).2⟩⟩
theorem SubsAt.slice {w : World} {v : Value} {l : List SubM} (h : SubsAt w v l) : ∃ a cap, v = .slice a l.length cap ∧ l.length ≤ maxLen ∧
    ∀ i (h : i < l.length), ∃ b off, a = some ⟨b, off, none⟩ ∧ b < w.heap.size ∧ w.cell? ⟨b, off + i * 2, none⟩ = some (.int .u8 (l[i].code.toNat : Int)) ∧ w.cell? ⟨b, off + i * 2 + 1, none⟩ = some (str l[i].text) := by
  rcases h with ⟨a, c, rfl, rfl⟩ | ⟨b, off, cap, hv, hm, hlt, hc⟩
  · exact ⟨a, c, rfl, Nat.zero_le _, fun i h => by simp at h⟩
  · exact ⟨_, _, hv, hm, fun i hi => ⟨b, off, rfl, hlt, hc i hi⟩⟩
/-- A value is a field. -/
def FldV (w : World) (v : Value) (f : FldM) : Prop := ∃ sv, v = .agg #[str f.tag, str f.ind, str f.data, sv] ∧ SubsAt w sv f.subs
theorem FldV.below {w w' : World} {B : Nat} {v : Value} {f : FldM} (h : FldV w v f) (hb : Below B w w') (hB : w.heap.size ≤ B) : FldV w' v f := by
  obtain ⟨sv, hv, hs⟩ := h
  exact ⟨sv, hv, hs.below hb hB⟩
/-- A slice value reads as a list of fields. -/
def FldsAt (w : World) (v : Value) (l : List FldM) : Prop :=
  (∃ a c, v = .slice a 0 c ∧ l = []) ∨
  ∃ b off cap, v = .slice (some ⟨b, off, none⟩) l.length cap ∧ l.length ≤ maxLen ∧ b < w.heap.size ∧
    ∀ i (h : i < l.length), w.cell? ⟨b, off + i * 4, none⟩ = some (str l[i].tag) ∧ w.cell? ⟨b, off + i * 4 + 1, none⟩ = some (str l[i].ind) ∧ w.cell? ⟨b, off + i * 4 + 2, none⟩ = some (str l[i].data) ∧
      ∃ sv, w.cell? ⟨b, off + i * 4 + 3, none⟩ = some sv ∧ SubsAt w sv l[i].subs
theorem FldsAt.below {w w' : World} {B : Nat} {v : Value} {l : List FldM} (h : FldsAt w v l) (hb : Below B w w') (hB : w.heap.size ≤ B) : FldsAt w' v l := by
  rcases h with h | ⟨b, off, cap, hv, hm, hlt, hc⟩
  · exact .inl h
  · refine .inr ⟨b, off, cap, hv, hm, Nat.lt_of_lt_of_le hlt hb.size, fun i hi => ?_⟩
    obtain ⟨h0, h1, h2, sv, h3, h4⟩ := hc i hi
    exact ⟨cell_below hb hB h0, cell_below hb hB h1, cell_below hb hB h2, sv, cell_below hb hB h3, h4.below hb hB⟩
theorem FldsAt.slice {w : World} {v : Value} {l : List FldM} (h : FldsAt w v l) : ∃ a cap, v = .slice a l.length cap ∧ l.length ≤ maxLen ∧
    ∀ i (h : i < l.length), ∃ b off, a = some ⟨b, off, none⟩ ∧ b < w.heap.size ∧ w.cell? ⟨b, off + i * 4, none⟩ = some (str l[i].tag) ∧ w.cell? ⟨b, off + i * 4 + 1, none⟩ = some (str l[i].ind) ∧ w.cell? ⟨b, off + i * 4 + 2, none⟩ = some (str l[i].data) ∧
      ∃ sv, w.cell? ⟨b, off + i * 4 + 3, none⟩ = some sv ∧ SubsAt w sv l[i].subs := by
  rcases h with ⟨a, c, rfl, rfl⟩ | ⟨b, off, cap, hv, hm, hlt, hc⟩
  · exact ⟨a, c, rfl, Nat.zero_le _, fun i h => by simp at h⟩
  · exact ⟨_, _, hv, hm, fun i hi => ⟨b, off, rfl, hlt, hc i hi⟩⟩
/-- A value is a record. -/
def RecV (w : World) (v : Value) (r : RecM) : Prop := ∃ fv, v = .agg #[.int .u8 (r.kind.toNat : Int), .int .u8 (r.level.toNat : Int), fv] ∧ FldsAt w fv r.fields
theorem RecV.below {w w' : World} {B : Nat} {v : Value} {r : RecM} (h : RecV w v r) (hb : Below B w w') (hB : w.heap.size ≤ B) : RecV w' v r := by
  obtain ⟨fv, hv, hs⟩ := h
  exact ⟨fv, hv, hs.below hb hB⟩
end Go.Proofs.YtpfnmjcomdckgaaDoor

namespace Go.Proofs.YtpfnmjcomdckgaaDoor
open Go.RowKit Go.Shelf
set_option linter.unusedVariables false
set_option linter.unusedSimpArgs false

set_option maxRecDepth 100000 in
set_option maxHeartbeats 1000000 in
theorem isTag_c (l : List UInt8) (hl : l.length ≤ 9223372036854775807) (w : World) :
    Calls Tryd.prog 55 #[str l] w fun e w' => e = .returned (.bool (tagB l)) ∧ w' = w := by
  have hsz := size_str l
  have N := Lib.hid (number_c l hl w)
  cases hd : l.all digB with
  | false =>
    have ht : tagB l = false := by unfold tagB; rw [hd]; rfl
    rw [hd] at N
    rw [ht]
    clear ht hd
    go_enter Tryd.func55, Tryd.ntmps55
    go_wp2_with fail
    refine N.out.mono ?_
    rintro e w1 ⟨rfl, rfl⟩
    go_wp2
    go_ret
    exact ⟨rfl, rfl⟩
  | true =>
    rw [hd] at N
    by_cases h3 : l.length = 3
    · have i3 : ((l.length : Int) == 3) = true := by rw [h3]; rfl
      have ht : tagB l = (l != [48, 48, 48]) := by unfold tagB; rw [hd, h3]; rfl
      rw [ht]
      clear ht hd
      go_enter Tryd.func55, Tryd.ntmps55
      go_wp2_with fail
      refine N.out.mono ?_
      rintro e w1 ⟨rfl, rfl⟩
      go_wp2
      go_ret
      exact ⟨rfl, rfl⟩
    · have i3 : ((l.length : Int) == 3) = false := by rw [beq_eq_false_iff_ne]; omega
      have ht : tagB l = false := by unfold tagB; simp [h3]
      rw [ht]
      clear ht hd
      go_enter Tryd.func55, Tryd.ntmps55
      go_wp2_with fail
      refine N.out.mono ?_
      rintro e w1 ⟨rfl, rfl⟩
      go_wp2
      go_ret
      exact ⟨rfl, rfl⟩
end Go.Proofs.YtpfnmjcomdckgaaDoor
