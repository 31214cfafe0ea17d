/-
  A slice of integers as an argument; the rows that Laid keeps.
-/
import Derived.Test.YtpfnmjcomdckgaaDoorROrdM
import Derived.Test.YtpfnmjcomdckgaaDoorRArgs
import Derived.Test.YtpfnmjcomdckgaaDoorRLet
namespace Go.Proofs.YtpfnmjcomdckgaaDoor
open Go.ChangeShapes Go.WideShapes Go.ChangeAt Go.RowKit Go.Shelf
set_option linter.unusedVariables false
set_option linter.unusedSimpArgs false

/-- A slice value reads as a list of integers. -/
def IntsAt (w : World) (v : Value) (l : List Int) : Prop :=
  (∃ a c, v = .slice a 0 c ∧ l = []) ∨
  ∃ b off cap, v = .slice (some ⟨b, off, none⟩) l.length cap ∧ l.length ≤ maxLen ∧ (∀ i (h : i < l.length), w.cell? ⟨b, off + i, none⟩ = some (.int .i64 l[i])) ∧ b < w.heap.size
theorem IntsAt.slice {w : World} {v : Value} {l : List Int} (h : IntsAt w v l) : ∃ a cap, v = .slice a l.length cap ∧ l.length ≤ maxLen ∧ ∀ i (h : i < l.length), ∃ b off, a = some ⟨b, off, none⟩ ∧ w.cell? ⟨b, off + i, none⟩ = some (.int .i64 l[i]) ∧ b < w.heap.size := by
  rcases h with ⟨a, c, rfl, rfl⟩ | ⟨b, off, cap, hv, hm, hc, hlt⟩
  · exact ⟨a, c, rfl, Nat.zero_le _, fun i h => by simp at h⟩
  · exact ⟨_, _, hv, hm, fun i hi => ⟨b, off, rfl, hc i hi, hlt⟩⟩
theorem IntsAt.below {w w' : World} {B : Nat} {v : Value} {l : List Int} (h : IntsAt w v l) (hb : Below B w w') (hB : w.heap.size ≤ B) : IntsAt w' v l := by
  rcases h with h | ⟨b, off, cap, hv, hm, hc, hlt⟩
  · exact .inl h
  · exact .inr ⟨b, off, cap, hv, hm, fun i hi => cell_below hb hB (hc i hi), Nat.lt_of_lt_of_le hlt hb.size⟩
section
variable {H : Type} {enc : TypeId × Value → H} {P : Program} {W : World}
theorem open_si {t e : TypeId} (ht : P.underlying t = some (.slice e)) (he : P.underlying e = some (.int .i64)) (hc : P.cellsOf e = 1) {a0 : Option Addr} {len cap : Nat} {d : DataW H} {ps : List MemPlace}
    (h : DataW.Trod enc P W 0 (fun _ => true) true t (.slice a0 len cap) d ps) : ∃ l : List Int, IntsAt W (.slice a0 len cap) l ∧ ∀ n ∈ l, Fits n := by
  obtain ⟨fuel, hf⟩ := h
  rcases open_ints ht he hc hf with ⟨hcs, _⟩ | ⟨a, len', cap', zs, hcs, _, hl, hm, hz, _, hcell, hwz⟩
  · simp [Value.cells] at hcs
    obtain ⟨rfl, rfl, rfl⟩ := hcs
    exact ⟨[], .inl ⟨none, 0, rfl, rfl⟩, by simp⟩
  · simp [Value.cells] at hcs
    obtain ⟨rfl, rfl, rfl⟩ := hcs
    simp only [if_true] at hz
    by_cases h0 : len = 0
    · subst h0; exact ⟨[], .inl ⟨_, _, rfl, rfl⟩, by simp⟩
    · obtain ⟨b, off, rfl⟩ := spot_none (hcell 0 (by omega))
      have hln : (zs.take len).length = len := by simp; omega
      refine ⟨zs.take len, .inr ⟨b, off, cap, by rw [hln], by omega, ?_, block_lt (hcell 0 (by omega))⟩, fun n hn => fits_of (hwz n (List.mem_of_mem_take hn))⟩
      intro i hi
      have hi2 : i < len := by omega
      have := hcell i (by omega)
      rw [add_off] at this
      rw [this]
      have hg : zs.getD i 0 = zs[i]'(by omega) := by simp [List.getD, List.getElem?_eq_getElem (show i < zs.length by omega)]
      rw [hg]
      simp
end
theorem infoInt : (Tryd.prog.info? 3).map (fun i => (i.zero, i.size, i.bytes)) = some (some (.int .i64 0), 1, 8) := by kernel_rfl
theorem infoBool : (Tryd.prog.info? 4).map (fun i => (i.zero, i.size, i.bytes)) = some (some (.bool false), 1, 1) := by kernel_rfl
def atC (l : List Nat) : List Value := l.map fun x => .int .i64 (x : Nat)
def leftC (l : List Bool) : List Value := l.map Value.bool
/-- What Laid keeps in memory. -/
structure LayW (w wr : World) (kd lv : UInt8) (fa : Option Addr) (n fc : Nat) (at' : List Nat) (left : List Bool) : Prop where
  bel : Below w.heap.size w wr
  box : wr.heap[w.heap.size]? = some (.cells #[.int .u8 (kd.toNat : Int), .int .u8 (lv.toNat : Int), .slice fa n fc] 27 (0, 0))
  pa : wr.heap[w.heap.size + 1]? = some (.cells ⟨atC at'⟩ 3 (0, 0))
  pl : wr.heap[w.heap.size + 1 + 1]? = some (.cells ⟨leftC left⟩ 4 (0, 0))
theorem LayW.below {w wr wx : World} {kd lv : UInt8} {fa : Option Addr} {n fc : Nat} {at' : List Nat} {left : List Bool} (h : LayW w wr kd lv fa n fc at' left) (hb : Below wr.heap.size wr wx) : LayW w wx kd lv fa n fc at' left :=
  ⟨h.bel.trans (hb.mono h.bel.size), heap_below hb h.box, heap_below hb h.pa, heap_below hb h.pl⟩
theorem LayW.mark {w wr : World} {kd lv : UInt8} {fa : Option Addr} {n fc : Nat} {at' : List Nat} {left : List Bool} (h : LayW w wr kd lv fa n fc at' left) (k : Nat) : LayW w (wr.setCell ⟨w.heap.size + 1 + 1, k, none⟩ (.bool true)) kd lv fa n fc at' (left.set k true) := by
  refine ⟨h.bel.setCell (p := ⟨w.heap.size + 1 + 1, k, none⟩) (by show w.heap.size ≤ w.heap.size + 1 + 1; omega) _, (far_set _ _ _ _ (by omega)).trans h.box, (far_set _ _ _ _ (by omega)).trans h.pa, ?_⟩
  rw [blk_set h.pl]
  simp [leftC, List.map_set]
theorem LayW.put {w wr : World} {kd lv : UInt8} {fa : Option Addr} {n fc : Nat} {at' : List Nat} {left : List Bool} (h : LayW w wr kd lv fa n fc at' left) (k a : Nat) : LayW w (wr.setCell ⟨w.heap.size + 1, k, none⟩ (.int .i64 (a : Nat))) kd lv fa n fc (at'.set k a) left := by
  refine ⟨h.bel.setCell (p := ⟨w.heap.size + 1, k, none⟩) (by show w.heap.size ≤ w.heap.size + 1; omega) _, (far_set _ _ _ _ (by omega)).trans h.box, ?_, (far_set _ _ _ _ (by omega)).trans h.pl⟩
  rw [blk_set h.pa]
  simp [atC, List.map_set]
theorem LayW.left {w wr : World} {kd lv : UInt8} {fa : Option Addr} {n fc : Nat} {at' : List Nat} {left : List Bool} (h : LayW w wr kd lv fa n fc at' left) {k : Nat} {b : Bool} (hk : left[k]? = some b) :
    wr.cell? ⟨w.heap.size + 1 + 1, k, none⟩ = some (.bool b) ∧ wr.frozen? ⟨w.heap.size + 1 + 1, k, none⟩ = false :=
  ⟨by rw [cell_at h.pl]; simp [leftC, hk], Lib.frozen_of_heap h.pl k⟩
theorem LayW.at_ {w wr : World} {kd lv : UInt8} {fa : Option Addr} {n fc : Nat} {at' : List Nat} {left : List Bool} (h : LayW w wr kd lv fa n fc at' left) {k a : Nat} (hk : at'[k]? = some a) :
    wr.cell? ⟨w.heap.size + 1, k, none⟩ = some (.int .i64 (a : Nat)) ∧ wr.frozen? ⟨w.heap.size + 1, k, none⟩ = false :=
  ⟨by rw [cell_at h.pa]; simp [atC, hk], Lib.frozen_of_heap h.pa k⟩
theorem LayW.boxes {w wr : World} {kd lv : UInt8} {fa : Option Addr} {n fc : Nat} {at' : List Nat} {left : List Bool} (h : LayW w wr kd lv fa n fc at' left) :
    wr.cell? ⟨w.heap.size, 0, none⟩ = some (.int .u8 (kd.toNat : Int)) ∧ wr.cell? ⟨w.heap.size, 1, none⟩ = some (.int .u8 (lv.toNat : Int)) ∧ wr.cell? ⟨w.heap.size, 2, none⟩ = some (.slice fa n fc) :=
  ⟨by rw [cell_at h.box]; rfl, by rw [cell_at h.box]; rfl, by rw [cell_at h.box]; rfl⟩
/-- The distance from k to a free place j, going round. -/
def distN (n j k : Nat) : Nat := if k ≤ j then j - k else n + j - k
theorem dist_next {n j k : Nat} (hj : j < n) (hk : k < n) (h : k ≠ j) : distN n j ((k + 1) % n) < distN n j k := by
  unfold distN
  by_cases h1 : k + 1 = n
  · rw [h1, Nat.mod_self]
    simp
    split <;> omega
  · rw [Nat.mod_eq_of_lt (by omega)]
    split <;> split <;> omega
end Go.Proofs.YtpfnmjcomdckgaaDoor
