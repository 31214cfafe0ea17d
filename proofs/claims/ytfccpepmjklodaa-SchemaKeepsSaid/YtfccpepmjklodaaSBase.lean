/-
  Strings, blocks and records as they lie (stage 4's base).
-/
import Derived.Shelf.Abstract
import Derived.WalkKit
import Derived.OwnWalkIn
import Derived.TacticsInMore
import Derived.LoopNIn
import Derived.LoopIn
import Derived.LoopTactic
import Derived.WalkLawsBesides
import Derived.WalkSmall
import Derived.Test.YtfccpepmjklodaaProg
import Derived.Lib.Hide
namespace Go.Proofs.Ytfccpepmjklodaa
open Go.RowKit Go.Shelf
set_option linter.unusedVariables false
set_option linter.unusedSimpArgs false

/-- A string of these bytes. -/
abbrev str (l : List UInt8) : Value := .string ⟨l.toArray⟩
theorem size_str (l : List UInt8) : (ByteArray.mk l.toArray).size = l.length := by
  simp [ByteArray.size]
theorem get_str (l : List UInt8) (k : Nat) (h : k < (ByteArray.mk l.toArray).size) : (ByteArray.mk l.toArray)[k]'h = l[k]'(by rw [size_str] at h; exact h) := rfl
theorem str_append (a b : List UInt8) : (⟨a.toArray⟩ : ByteArray) ++ ⟨b.toArray⟩ = ⟨(a ++ b).toArray⟩ := by
  apply ByteArray.ext
  simp
theorem add_str (a b : List UInt8) (h : a.length + b.length ≤ 9223372036854775807) (W : World) : (Op.stringOp .add ⟨a.toArray⟩ ⟨b.toArray⟩).run Try.prog W = .ok (str (a ++ b)) W := by
  rw [run_string_add_sum W _ _ (by rw [size_str, size_str]; exact h), str_append]
theorem ext_drop (l : List UInt8) (k : Nat) : (ByteArray.mk l.toArray).extract k l.length = ⟨(l.drop k).toArray⟩ := by
  apply ByteArray.ext
  rw [ByteArray.data_extract]
  apply Array.toList_inj.1
  rw [Array.toList_extract, List.extract_eq_take_drop]
  simp
  exact List.take_of_length_le (by simp)
theorem ext_mid (l : List UInt8) (i j : Nat) : (ByteArray.mk l.toArray).extract i j = ⟨((l.drop i).take (j - i)).toArray⟩ := by
  apply ByteArray.ext
  rw [ByteArray.data_extract]
  apply Array.toList_inj.1
  rw [Array.toList_extract, List.extract_eq_take_drop]
theorem ext_take (l : List UInt8) (k : Nat) : (ByteArray.mk l.toArray).extract 0 k = ⟨(l.take k).toArray⟩ := by
  rw [ext_mid]; simp
theorem below_tr {a b c : World} (h : Below a.heap.size a b) (k : Below b.heap.size b c) : Below a.heap.size a c := h.trans (k.mono h.size)
theorem below_new (w : World) (o : Obj) : Below w.heap.size w (w.alloc o) := (Below.refl _ w).alloc (Nat.le_refl _) o
theorem below_dr {B : Nat} {a w : World} (h : Below B a w) (n : Nat) : Below B a (w.drewN n) := h.trans ⟨rfl, rfl, rfl, Nat.le_refl _, fun _ _ => rfl⟩
theorem cell_at {w : World} {b : Nat} {cs : Array Value} {T : TypeId} (hb : w.heap[b]? = some (.cells cs T (0, 0))) (j : Nat) : w.cell? ⟨b, j, none⟩ = cs[j]? := Lib.cell_of_heap hb j
theorem lt_at {w : World} {b : Nat} {x : Obj} (hb : w.heap[b]? = some x) : b < w.heap.size := (Array.getElem?_eq_some_iff.1 hb).1
theorem lt_of_cell {w : World} {b o : Nat} {v : Value} (h : w.cell? ⟨b, o, none⟩ = some v) : b < w.heap.size := by
  rcases Nat.lt_or_ge b w.heap.size with h' | h'
  · exact h'
  · simp [World.cell?, Array.getElem?_eq_none h'] at h
end Go.Proofs.Ytfccpepmjklodaa

namespace Go.Proofs.Ytfccpepmjklodaa
open Go.RowKit Go.Shelf
set_option linter.unusedVariables false
set_option linter.unusedSimpArgs false

structure SubM where
  code : UInt8
  text : List UInt8
deriving DecidableEq
structure FldM where
  tag : List UInt8
  ind : List UInt8
  data : List UInt8
  subs : List SubM
deriving DecidableEq
structure RecM where
  kind : UInt8
  level : UInt8
  fields : List FldM
deriving DecidableEq

theorem take_snoc {α : Type} (l : List α) (k : Nat) (h : k < l.length) : l.take (k + 1) = l.take k ++ [l[k]] := by
  rw [List.take_succ_eq_append_getElem h]

theorem cell_below {w w' : World} {B b o : Nat} {v : Value} (h : Below B w w') (hB : w.heap.size ≤ B) (hc : w.cell? ⟨b, o, none⟩ = some v) : w'.cell? ⟨b, o, none⟩ = some v := by
  have hlt := lt_of_cell hc
  exact (h.cell (p := ⟨b, o, none⟩) (by show b < B; omega)).trans hc

/-- A slice value reads as a list of subfields. -/
def SubsAt (w : World) (v : Value) (l : List SubM) : Prop :=
  (∃ a c, v = .slice a 0 c ∧ l = []) ∨
  ∃ b off cap, v = .slice (some ⟨b, off, none⟩) l.length cap ∧ l.length ≤ maxLen ∧ b < w.heap.size ∧
    ∀ i (h : i < l.length), w.cell? ⟨b, off + i * 2, none⟩ = some (.int .u8 (l[i].code.toNat : Int)) ∧ w.cell? ⟨b, off + i * 2 + 1, none⟩ = some (str l[i].text)
theorem SubsAt.below {w w' : World} {B : Nat} {v : Value} {l : List SubM} (h : SubsAt w v l) (hb : Below B w w') (hB : w.heap.size ≤ B) : SubsAt w' v l := by
  rcases h with h | ⟨b, off, cap, hv, hm, hlt, hc⟩
  · exact .inl h
  · exact .inr ⟨b, off, cap, hv, hm, Nat.lt_of_lt_of_le hlt hb.size, fun i hi => ⟨cell_below hb hB (hc i hi).1, cell_below hb hB (hc i hi).2⟩⟩
theorem SubsAt.slice {w : World} {v : Value} {l : List SubM} (h : SubsAt w v l) : ∃ a cap, v = .slice a l.length cap ∧ l.length ≤ maxLen ∧
    ∀ i (h : i < l.length), ∃ b off, a = some ⟨b, off, none⟩ ∧ b < w.heap.size ∧ w.cell? ⟨b, off + i * 2, none⟩ = some (.int .u8 (l[i].code.toNat : Int)) ∧ w.cell? ⟨b, off + i * 2 + 1, none⟩ = some (str l[i].text) := by
  rcases h with ⟨a, c, rfl, rfl⟩ | ⟨b, off, cap, hv, hm, hlt, hc⟩
  · exact ⟨a, c, rfl, Nat.zero_le _, fun i h => by simp at h⟩
  · exact ⟨_, _, hv, hm, fun i hi => ⟨b, off, rfl, hlt, hc i hi⟩⟩
/-- A value is a field. -/
def FldV (w : World) (v : Value) (f : FldM) : Prop := ∃ sv, v = .agg #[str f.tag, str f.ind, str f.data, sv] ∧ SubsAt w sv f.subs
theorem FldV.below {w w' : World} {B : Nat} {v : Value} {f : FldM} (h : FldV w v f) (hb : Below B w w') (hB : w.heap.size ≤ B) : FldV w' v f := by
  obtain ⟨sv, hv, hs⟩ := h
  exact ⟨sv, hv, hs.below hb hB⟩
/-- A slice value reads as a list of fields. -/
def FldsAt (w : World) (v : Value) (l : List FldM) : Prop :=
  (∃ a c, v = .slice a 0 c ∧ l = []) ∨
  ∃ b off cap, v = .slice (some ⟨b, off, none⟩) l.length cap ∧ l.length ≤ maxLen ∧ b < w.heap.size ∧
    ∀ i (h : i < l.length), w.cell? ⟨b, off + i * 4, none⟩ = some (str l[i].tag) ∧ w.cell? ⟨b, off + i * 4 + 1, none⟩ = some (str l[i].ind) ∧ w.cell? ⟨b, off + i * 4 + 2, none⟩ = some (str l[i].data) ∧
      ∃ sv, w.cell? ⟨b, off + i * 4 + 3, none⟩ = some sv ∧ SubsAt w sv l[i].subs
theorem FldsAt.below {w w' : World} {B : Nat} {v : Value} {l : List FldM} (h : FldsAt w v l) (hb : Below B w w') (hB : w.heap.size ≤ B) : FldsAt w' v l := by
  rcases h with h | ⟨b, off, cap, hv, hm, hlt, hc⟩
  · exact .inl h
  · refine .inr ⟨b, off, cap, hv, hm, Nat.lt_of_lt_of_le hlt hb.size, fun i hi => ?_⟩
    obtain ⟨h0, h1, h2, sv, h3, h4⟩ := hc i hi
    exact ⟨cell_below hb hB h0, cell_below hb hB h1, cell_below hb hB h2, sv, cell_below hb hB h3, h4.below hb hB⟩
theorem FldsAt.slice {w : World} {v : Value} {l : List FldM} (h : FldsAt w v l) : ∃ a cap, v = .slice a l.length cap ∧ l.length ≤ maxLen ∧
    ∀ i (h : i < l.length), ∃ b off, a = some ⟨b, off, none⟩ ∧ b < w.heap.size ∧ w.cell? ⟨b, off + i * 4, none⟩ = some (str l[i].tag) ∧ w.cell? ⟨b, off + i * 4 + 1, none⟩ = some (str l[i].ind) ∧ w.cell? ⟨b, off + i * 4 + 2, none⟩ = some (str l[i].data) ∧
      ∃ sv, w.cell? ⟨b, off + i * 4 + 3, none⟩ = some sv ∧ SubsAt w sv l[i].subs := by
  rcases h with ⟨a, c, rfl, rfl⟩ | ⟨b, off, cap, hv, hm, hlt, hc⟩
  · exact ⟨a, c, rfl, Nat.zero_le _, fun i h => by simp at h⟩
  · exact ⟨_, _, hv, hm, fun i hi => ⟨b, off, rfl, hlt, hc i hi⟩⟩
/-- A value is a record. -/
def RecV (w : World) (v : Value) (r : RecM) : Prop := ∃ fv, v = .agg #[.int .u8 (r.kind.toNat : Int), .int .u8 (r.level.toNat : Int), fv] ∧ FldsAt w fv r.fields
theorem RecV.below {w w' : World} {B : Nat} {v : Value} {r : RecM} (h : RecV w v r) (hb : Below B w w') (hB : w.heap.size ≤ B) : RecV w' v r := by
  obtain ⟨fv, hv, hs⟩ := h
  exact ⟨fv, hv, hs.below hb hB⟩
end Go.Proofs.Ytfccpepmjklodaa
