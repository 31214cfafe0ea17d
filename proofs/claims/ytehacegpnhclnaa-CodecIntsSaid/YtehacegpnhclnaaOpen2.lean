/-
  How rows' arguments are opened, more: a slice's capacity; a slice of pairs.
-/
import Derived.Test.YtehacegpnhclnaaOpen
namespace Go.Proofs.Ytehacegpnhclnaa
open Go.ChangeShapes Go.WideShapes Go.ChangeAt Go.RowKit Go.Shelf
section
variable {H : Type} {enc : TypeId × Value → H} {P : Program} {W : World}

theorem cap_of {t e : TypeId} (ht : P.underlying t = some (.slice e)) {a0 : Option Addr} {len cap : Nat} {d : DataW H} {ps : List MemPlace}
    (h : DataW.Trod enc P W 0 (fun _ => true) true t (.slice a0 len cap) d ps) : len ≤ cap ∧ cap ≤ 9223372036854775807 := by
  obtain ⟨fuel, hf⟩ := h
  rcases DataW.trod_slice ht hf with ⟨hcs, _⟩ | ⟨a, len', cap', elems, rest, n, _, hcs, _, _, hl, hm, _⟩
  · simp [Value.cells] at hcs
    omega
  · simp [Value.cells] at hcs
    obtain ⟨rfl, rfl, rfl⟩ := hcs
    unfold maxLen at hm
    omega

/-- The head of a slice reads as the head of its list. -/
theorem reads_take {α : Type} {en : α → Value} {w : World} {a0 : Option Addr} {cap : Nat} {l : List α} (h : Reads en w (.slice a0 l.length cap) l) (n : Nat) (hn : n ≤ l.length) : Reads en w (.slice a0 n cap) (l.take n) := by
  have hl : (l.take n).length = n := by rw [List.length_take]; omega
  rcases h with ⟨a, c, hv, hl0⟩ | ⟨b, off, c, hv, hm, hc, hlt⟩
  · refine .inl ⟨a0, cap, ?_, by rw [hl0]; simp⟩
    have : n = 0 := by rw [hl0] at hn; simpa using hn
    rw [this]
  · simp only [Value.slice.injEq] at hv
    obtain ⟨rfl, -, rfl⟩ := hv
    refine .inr ⟨b, off, cap, by rw [hl], by omega, ?_, hlt⟩
    intro i hi
    rw [hc i (by omega)]
    simp

/-- A slice value reads as a list of pairs, each in two cells. -/
def ReadsP (w : World) (v : Value) (l : List (Int × Int)) : Prop :=
  (∃ a c, v = .slice a 0 c ∧ l = []) ∨
  ∃ b off cap, v = .slice (some ⟨b, off, none⟩) l.length cap ∧ l.length ≤ maxLen ∧ (∀ i (h : i < l.length), w.cell? ⟨b, off + i * 2, none⟩ = some (.int .i64 l[i].1) ∧ w.cell? ⟨b, off + i * 2 + 1, none⟩ = some (.int .i64 l[i].2)) ∧ b < w.heap.size
theorem ReadsP.slice {w : World} {v : Value} {l : List (Int × Int)} (h : ReadsP w v l) : ∃ a cap, v = .slice a l.length cap ∧ l.length ≤ maxLen ∧ ∀ i (h : i < l.length), ∃ b off, a = some ⟨b, off, none⟩ ∧ w.cell? ⟨b, off + i * 2, none⟩ = some (.int .i64 l[i].1) ∧ w.cell? ⟨b, off + i * 2 + 1, none⟩ = some (.int .i64 l[i].2) ∧ b < w.heap.size := by
  rcases h with ⟨a, c, rfl, rfl⟩ | ⟨b, off, cap, rfl, hm, hc, hlt⟩
  · exact ⟨a, c, rfl, by simp, fun i h => by simp at h⟩
  · exact ⟨_, cap, rfl, hm, fun i h => ⟨b, off, rfl, (hc i h).1, (hc i h).2, hlt⟩⟩

/-- A slice of pairs of integers that came in reads as a list. -/
theorem open_sp {t e f : TypeId} (ht : P.underlying t = some (.slice e)) (he : P.underlying e = some (.array 2 f)) (hf : P.underlying f = some (.int .i64)) (hc : P.cellsOf e = 2) (hcf : P.cellsOf f = 1) {a0 : Option Addr} {len cap : Nat} {d : DataW H} {ps : List MemPlace}
    (h : DataW.Trod enc P W 0 (fun _ => true) true t (.slice a0 len cap) d ps) : ∃ l : List (Int × Int), ReadsP W (.slice a0 len cap) l := by
  obtain ⟨fuel, hfu⟩ := h
  rcases DataW.trod_slice ht hfu with ⟨hcs, _⟩ | ⟨a, len', cap', elems, rest, n, _, hcs, _, _, hl, hm, hlen, hel, _⟩
  · simp [Value.cells] at hcs
    obtain ⟨rfl, rfl, rfl⟩ := hcs
    exact ⟨[], .inl ⟨none, 0, rfl, rfl⟩⟩
  · simp [Value.cells] at hcs
    obtain ⟨rfl, rfl, rfl⟩ := hcs
    have each : ∀ i, i < len → ∃ x y : Int, W.cell? (a.add (i * 2)) = some (.int .i64 x) ∧ W.cell? ((a.add (i * 2)).add 1) = some (.int .i64 y) := by
      intro i hi
      have h1 := hel i hi
      rw [List.getElem?_eq_getElem (by omega), hc] at h1
      obtain ⟨cs, hcs, htr⟩ := Option.bind_eq_some_iff.1 h1
      obtain ⟨_, hn, hcell⟩ := World.cells?_some hcs
      match cs, hn with
      | [c0, c1], _ =>
        obtain ⟨xs, m, _, _, _, hlx, hx⟩ := DataW.trod_array he htr
        simp only [hcf] at hx
        have key : ∀ (c : Value) (i : Nat), i < 2 → DataW.trod enc P W 0 (fun _ => true) true m f [c] = xs[i]? → ∃ n, c = .int .i64 n := by
          intro c i hi hc
          rw [List.getElem?_eq_getElem (by omega)] at hc
          obtain ⟨n, h1, _, _⟩ := DataW.trod_int hf hc
          simp at h1
          exact ⟨n, h1⟩
        obtain ⟨x, rfl⟩ := key c0 0 (by omega) (by simpa using hx 0 (by omega))
        obtain ⟨y, rfl⟩ := key c1 1 (by omega) (by simpa using hx 1 (by omega))
        refine ⟨x, y, ?_, ?_⟩
        · have := hcell 0 (by omega); simpa [Addr.add] using this
        · have := hcell 1 (by omega); simpa using this
    by_cases h0 : len = 0
    · subst h0; exact ⟨[], .inl ⟨_, _, rfl, rfl⟩⟩
    · obtain ⟨b, off, rfl⟩ : ∃ b off, a = ⟨b, off, none⟩ := by
        obtain ⟨x, _, hx, _⟩ := each 0 (by omega)
        exact spot_none (by simpa using hx)
      obtain ⟨F, hF⟩ : ∃ F : Nat → Int × Int, ∀ i, i < len → W.cell? ⟨b, off + i * 2, none⟩ = some (.int .i64 (F i).1) ∧ W.cell? ⟨b, off + i * 2 + 1, none⟩ = some (.int .i64 (F i).2) := by
        have e2 : ∀ i, ∃ q : Int × Int, i < len → W.cell? ⟨b, off + i * 2, none⟩ = some (.int .i64 q.1) ∧ W.cell? ⟨b, off + i * 2 + 1, none⟩ = some (.int .i64 q.2) := by
          intro i
          by_cases hi : i < len
          · obtain ⟨x, y, hx, hy⟩ := each i hi
            rw [add_off] at hx hy
            rw [add_off] at hy
            exact ⟨(x, y), fun _ => ⟨hx, hy⟩⟩
          · exact ⟨(0, 0), fun h => absurd h hi⟩
        exact ⟨fun i => (e2 i).choose, fun i hi => (e2 i).choose_spec hi⟩
      refine ⟨(List.range len).map F, .inr ⟨b, off, cap, by simp, by simp; omega, ?_, ?_⟩⟩
      · intro i hi
        have hi2 : i < len := by simpa using hi
        simpa using hF i hi2
      · exact block_lt (hF 0 (by omega)).1
end
end Go.Proofs.Ytehacegpnhclnaa
