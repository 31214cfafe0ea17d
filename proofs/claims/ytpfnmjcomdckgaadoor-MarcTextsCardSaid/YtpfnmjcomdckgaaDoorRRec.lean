/-
  How records lie in memory.
-/
import Derived.Test.YtpfnmjcomdckgaaDoorRNum
namespace Go.Proofs.YtpfnmjcomdckgaaDoor
open Go.RowKit Go.Shelf
set_option linter.unusedVariables false
set_option linter.unusedSimpArgs false

theorem cell_below {w w' : World} {B b o : Nat} {v : Value} (h : Below B w w') (hB : w.heap.size ≤ B) (hc : w.cell? ⟨b, o, none⟩ = some v) : w'.cell? ⟨b, o, none⟩ = some v := by
  have hlt := lt_of_cell hc
  exact (h.cell (p := ⟨b, o, none⟩) (by show b < B; omega)).trans hc

/-- A slice value reads as a list of subfields. -/
def SubsAt (w : World) (v : Value) (l : List SubM) : Prop :=
  (∃ a c, v = .slice a 0 c ∧ l = []) ∨
  ∃ b off cap, v = .slice (some ⟨b, off, none⟩) l.length cap ∧ l.length ≤ maxLen ∧ b < w.heap.size ∧
    ∀ i (h : i < l.length), w.cell? ⟨b, off + i * 2, none⟩ = some (.int .u8 (l[i].code.toNat : Int)) ∧ w.cell? ⟨b, off + i * 2 + 1, none⟩ = some (str l[i].text)
theorem SubsAt.below {w w' : World} {B : Nat} {v : Value} {l : List SubM} (h : SubsAt w v l) (hb : Below B w w') (hB : w.heap.size ≤ B) : SubsAt w' v l := by
  rcases h with h | ⟨b, off, cap, hv, hm, hlt, hc⟩
  · exact .inl h
  · exact .inr ⟨b, off, cap, hv, hm, Nat.lt_of_lt_of_le hlt hb.size, fun i hi => ⟨cell_below hb hB (hc i hi).1, cell_below hb hB (hc i hi).2⟩⟩
theorem SubsAt.slice {w : World} {v : Value} {l : List SubM} (h : SubsAt w v l) : ∃ a cap, v = .slice a l.length cap ∧ l.length ≤ maxLen ∧
    ∀ i (h : i < l.length), ∃ b off, a = some ⟨b, off, none⟩ ∧ b < w.heap.size ∧ w.cell? ⟨b, off + i * 2, none⟩ = some (.int .u8 (l[i].code.toNat : Int)) ∧ w.cell? ⟨b, off + i * 2 + 1, none⟩ = some (str l[i].text) := by
  rcases h with ⟨a, c, rfl, rfl⟩ | ⟨b, off, cap, hv, hm, hlt, hc⟩
  · exact ⟨a, c, rfl, Nat.zero_le _, fun i h => by simp at h⟩
  · exact ⟨_, _, hv, hm, fun i hi => ⟨b, off, rfl, hlt, hc i hi⟩⟩
/-- A value is a field. -/
def FldV (w : World) (v : Value) (f : FldM) : Prop := ∃ sv, v = .agg #[str f.tag, str f.ind, str f.data, sv] ∧ SubsAt w sv f.subs
theorem FldV.below {w w' : World} {B : Nat} {v : Value} {f : FldM} (h : FldV w v f) (hb : Below B w w') (hB : w.heap.size ≤ B) : FldV w' v f := by
  obtain ⟨sv, hv, hs⟩ := h
  exact ⟨sv, hv, hs.below hb hB⟩
/-- A slice value reads as a list of fields. -/
def FldsAt (w : World) (v : Value) (l : List FldM) : Prop :=
  (∃ a c, v = .slice a 0 c ∧ l = []) ∨
  ∃ b off cap, v = .slice (some ⟨b, off, none⟩) l.length cap ∧ l.length ≤ maxLen ∧ b < w.heap.size ∧
    ∀ i (h : i < l.length), w.cell? ⟨b, off + i * 4, none⟩ = some (str l[i].tag) ∧ w.cell? ⟨b, off + i * 4 + 1, none⟩ = some (str l[i].ind) ∧ w.cell? ⟨b, off + i * 4 + 2, none⟩ = some (str l[i].data) ∧
      ∃ sv, w.cell? ⟨b, off + i * 4 + 3, none⟩ = some sv ∧ SubsAt w sv l[i].subs
theorem FldsAt.below {w w' : World} {B : Nat} {v : Value} {l : List FldM} (h : FldsAt w v l) (hb : Below B w w') (hB : w.heap.size ≤ B) : FldsAt w' v l := by
  rcases h with h | ⟨b, off, cap, hv, hm, hlt, hc⟩
  · exact .inl h
  · refine .inr ⟨b, off, cap, hv, hm, Nat.lt_of_lt_of_le hlt hb.size, fun i hi => ?_⟩
    obtain ⟨h0, h1, h2, sv, h3, h4⟩ := hc i hi
    exact ⟨cell_below hb hB h0, cell_below hb hB h1, cell_below hb hB h2, sv, cell_below hb hB h3, h4.below hb hB⟩
theorem FldsAt.slice {w : World} {v : Value} {l : List FldM} (h : FldsAt w v l) : ∃ a cap, v = .slice a l.length cap ∧ l.length ≤ maxLen ∧
    ∀ i (h : i < l.length), ∃ b off, a = some ⟨b, off, none⟩ ∧ b < w.heap.size ∧ w.cell? ⟨b, off + i * 4, none⟩ = some (str l[i].tag) ∧ w.cell? ⟨b, off + i * 4 + 1, none⟩ = some (str l[i].ind) ∧ w.cell? ⟨b, off + i * 4 + 2, none⟩ = some (str l[i].data) ∧
      ∃ sv, w.cell? ⟨b, off + i * 4 + 3, none⟩ = some sv ∧ SubsAt w sv l[i].subs := by
  rcases h with ⟨a, c, rfl, rfl⟩ | ⟨b, off, cap, hv, hm, hlt, hc⟩
  · exact ⟨a, c, rfl, Nat.zero_le _, fun i h => by simp at h⟩
  · exact ⟨_, _, hv, hm, fun i hi => ⟨b, off, rfl, hlt, hc i hi⟩⟩
/-- A value is a record. -/
def RecV (w : World) (v : Value) (r : RecM) : Prop := ∃ fv, v = .agg #[.int .u8 (r.kind.toNat : Int), .int .u8 (r.level.toNat : Int), fv] ∧ FldsAt w fv r.fields
theorem RecV.below {w w' : World} {B : Nat} {v : Value} {r : RecM} (h : RecV w v r) (hb : Below B w w') (hB : w.heap.size ≤ B) : RecV w' v r := by
  obtain ⟨fv, hv, hs⟩ := h
  exact ⟨fv, hv, hs.below hb hB⟩
end Go.Proofs.YtpfnmjcomdckgaaDoor
