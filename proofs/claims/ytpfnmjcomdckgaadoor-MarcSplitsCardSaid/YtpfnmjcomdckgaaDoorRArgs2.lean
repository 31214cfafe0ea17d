/-
  The argument of MarcSplits: a slice of slices of triples.
-/
import Derived.Test.YtpfnmjcomdckgaaDoorRArgs
import Derived.Test.YtpfnmjcomdckgaaDoorWMarcSplits
namespace Go.Proofs.YtpfnmjcomdckgaaDoor
open Go.ChangeShapes Go.WideShapes Go.ChangeAt Go.RowKit Go.Shelf
set_option linter.unusedVariables false
set_option linter.unusedSimpArgs false

section
variable {H : Type} {enc : TypeId × Value → H} {P : Program} {W : World}
/-- A slice value of triples that was read. -/
theorem st_of_trod {t e f : TypeId} (ht : P.underlying t = some (.slice e)) (he : P.underlying e = some (.array 3 f)) (hf : P.underlying f = some (.int .i64)) (hc : P.cellsOf e = 3) (hcf : P.cellsOf f = 1) {fuel : Nat} {c : Value} {x : DataW H × List MemPlace}
    (h : DataW.trod enc P W 0 (fun _ => true) true fuel t [c] = some x) : ∃ l : List (Int × Int × Int), ReadsT W c l := by
  rcases DataW.trod_slice ht h with ⟨hcs, _⟩ | ⟨a, len, cap, elems, rest, n, _, hcs, _, _, hl, hm, hlen, hel, _⟩
  · obtain rfl : c = .slice none 0 0 := by simpa using hcs
    exact ⟨[], .inl ⟨none, 0, rfl, rfl⟩⟩
  · obtain rfl : c = .slice (some a) len cap := by simpa using hcs
    have each : ∀ i, i < len → ∃ x y z : Int, W.cell? (a.add (i * 3)) = some (.int .i64 x) ∧ W.cell? ((a.add (i * 3)).add 1) = some (.int .i64 y) ∧ W.cell? ((a.add (i * 3)).add 2) = some (.int .i64 z) ∧ Fits x ∧ Fits y ∧ Fits z := by
      intro i hi
      have h1 := hel i hi
      rw [List.getElem?_eq_getElem (by omega), hc] at h1
      obtain ⟨cs, hcs, htr⟩ := Option.bind_eq_some_iff.1 h1
      obtain ⟨_, hn, hcell⟩ := World.cells?_some hcs
      match cs, hn with
      | [c0, c1, c2], _ =>
        obtain ⟨xs, m, _, _, _, hlx, hx⟩ := DataW.trod_array he htr
        simp only [hcf] at hx
        have key : ∀ (c : Value) (i : Nat), i < 3 → DataW.trod enc P W 0 (fun _ => true) true m f [c] = xs[i]? → ∃ n, c = .int .i64 n ∧ Fits n := by
          intro c i hi hc
          rw [List.getElem?_eq_getElem (by omega)] at hc
          obtain ⟨n, h1, _, h3⟩ := DataW.trod_int hf hc
          simp at h1
          exact ⟨n, h1, fits_of h3⟩
        obtain ⟨x, rfl, fx⟩ := key c0 0 (by omega) (by simpa using hx 0 (by omega))
        obtain ⟨y, rfl, fy⟩ := key c1 1 (by omega) (by simpa using hx 1 (by omega))
        obtain ⟨z, rfl, fz⟩ := key c2 2 (by omega) (by simpa using hx 2 (by omega))
        refine ⟨x, y, z, ?_, ?_, ?_, fx, fy, fz⟩
        · have := hcell 0 (by omega); simpa [Addr.add] using this
        · have := hcell 1 (by omega); simpa using this
        · have := hcell 2 (by omega); simpa using this
    by_cases h0 : len = 0
    · subst h0; exact ⟨[], .inl ⟨_, _, rfl, rfl⟩⟩
    · obtain ⟨b, off, rfl⟩ : ∃ b off, a = ⟨b, off, none⟩ := by
        obtain ⟨x, _, _, hx, _⟩ := each 0 (by omega)
        exact spot_none (by simpa using hx)
      have e2 : ∀ i, ∃ q : Int × Int × Int, i < len → W.cell? ⟨b, off + i * 3, none⟩ = some (.int .i64 q.1) ∧ W.cell? ⟨b, off + i * 3 + 1, none⟩ = some (.int .i64 q.2.1) ∧ W.cell? ⟨b, off + i * 3 + 2, none⟩ = some (.int .i64 q.2.2) ∧ Fits q.1 ∧ Fits q.2.1 ∧ Fits q.2.2 := by
        intro i
        by_cases hi : i < len
        · obtain ⟨x, y, z, hx, hy, hz, hf⟩ := each i hi
          rw [add_off] at hx hy hz
          rw [add_off] at hy hz
          exact ⟨(x, y, z), fun _ => ⟨hx, hy, hz, hf⟩⟩
        · exact ⟨(0, 0, 0), fun h => absurd h hi⟩
      obtain ⟨F, hF⟩ : ∃ F : Nat → Int × Int × Int, ∀ i, i < len → W.cell? ⟨b, off + i * 3, none⟩ = some (.int .i64 (F i).1) ∧ W.cell? ⟨b, off + i * 3 + 1, none⟩ = some (.int .i64 (F i).2.1) ∧ W.cell? ⟨b, off + i * 3 + 2, none⟩ = some (.int .i64 (F i).2.2) ∧ Fits (F i).1 ∧ Fits (F i).2.1 ∧ Fits (F i).2.2 :=
        ⟨fun i => (e2 i).choose, fun i hi => (e2 i).choose_spec hi⟩
      refine ⟨(List.range len).map F, .inr ⟨b, off, cap, by simp, by simp; omega, ?_, ?_⟩⟩
      · exact block_lt (hF 0 (by omega)).1
      · intro i hi
        have hi2 : i < len := by simpa using hi
        simpa using hF i hi2
theorem open_stt {t s e f : TypeId} (ht : P.underlying t = some (.slice s)) (hs : P.underlying s = some (.slice e)) (he : P.underlying e = some (.array 3 f)) (hf : P.underlying f = some (.int .i64)) (hcs1 : P.cellsOf s = 1) (hc : P.cellsOf e = 3) (hcf : P.cellsOf f = 1) {r : Reach} {b0 : Nat} {v : Value} {d : DataW H} {ps : List MemPlace}
    (hval : Value.okWide P W r b0 t v) (h : DataW.Trod enc P W 0 (fun _ => true) true t v d ps) : ∃ ll : List (List (Int × Int × Int)), ReadsTT W v ll := by
  obtain ⟨a0, len, cap, rfl⟩ := okWide_slice ht hval
  obtain ⟨fuel, hfu⟩ := h
  rcases DataW.trod_slice ht hfu with ⟨hcs, _⟩ | ⟨a, len', cap', elems, rest, n, _, hcs, _, _, hl, hm, hlen, hel, _⟩
  · simp [Value.cells] at hcs
    obtain ⟨rfl, rfl, rfl⟩ := hcs
    exact ⟨[], .inl ⟨none, 0, rfl, rfl⟩⟩
  · simp [Value.cells] at hcs
    obtain ⟨rfl, rfl, rfl⟩ := hcs
    have each : ∀ i, i < len → ∃ (c : Value) (l : List (Int × Int × Int)), W.cell? (a.add i) = some c ∧ ReadsT W c l := by
      intro i hi
      have h1 := hel i hi
      rw [List.getElem?_eq_getElem (by omega), hcs1] at h1
      obtain ⟨cs, hcs, htr⟩ := Option.bind_eq_some_iff.1 h1
      obtain ⟨_, hn, hcell⟩ := World.cells?_some hcs
      match cs, hn with
      | [c0], _ =>
        obtain ⟨l, hl2⟩ := st_of_trod hs he hf hc hcf htr
        refine ⟨c0, l, ?_, hl2⟩
        have := hcell 0 (by omega)
        simpa [Addr.add] using this
    by_cases h0 : len = 0
    · subst h0; exact ⟨[], .inl ⟨_, _, rfl, rfl⟩⟩
    · obtain ⟨b, off, rfl⟩ : ∃ b off, a = ⟨b, off, none⟩ := by
        obtain ⟨x, _, hx, _⟩ := each 0 (by omega)
        exact spot_none (by simpa using hx)
      have e2 : ∀ i, ∃ q : Value × List (Int × Int × Int), i < len → W.cell? ⟨b, off + i, none⟩ = some q.1 ∧ ReadsT W q.1 q.2 := by
        intro i
        by_cases hi : i < len
        · obtain ⟨x, y, hx, hy⟩ := each i hi
          rw [add_off] at hx
          exact ⟨(x, y), fun _ => ⟨hx, hy⟩⟩
        · exact ⟨(.slice none 0 0, []), fun h => absurd h hi⟩
      obtain ⟨F, hF⟩ : ∃ F : Nat → Value × List (Int × Int × Int), ∀ i, i < len → W.cell? ⟨b, off + i, none⟩ = some (F i).1 ∧ ReadsT W (F i).1 (F i).2 :=
        ⟨fun i => (e2 i).choose, fun i hi => (e2 i).choose_spec hi⟩
      refine ⟨(List.range len).map (fun i => (F i).2), .inr ⟨b, off, cap, by simp, by simp; omega, ?_, ?_⟩⟩
      · exact block_lt (hF 0 (by omega)).1
      · intro i hi
        have hi2 : i < len := by simpa using hi
        refine ⟨(F i).1, (hF i hi2).1, ?_⟩
        simpa using (hF i hi2).2
end
end Go.Proofs.YtpfnmjcomdckgaaDoor
