/-
  Arguments of stage 4: slices of four integers, three integers by value. The model of Made.
-/
import Derived.Test.YtfccpepmjklodaaSRec
import Derived.Test.YtfccpepmjklodaaSOpen
namespace Go.Proofs.Ytfccpepmjklodaa
open Go.ChangeShapes Go.WideShapes Go.RowKit Go.Shelf
set_option linter.unusedVariables false
set_option linter.unusedSimpArgs false

theorem fits_of {n : Int} (h : (Lit.int .i64 n).wf = true) : Fits n := bounds_i64 h
/-- A slice value reads as a list of fours, each in four cells. -/
def ReadsQ (w : World) (v : Value) (l : List (Int × Int × Int × Int)) : Prop :=
  (∃ a c, v = .slice a 0 c ∧ l = []) ∨
  ∃ b off cap, v = .slice (some ⟨b, off, none⟩) l.length cap ∧ l.length ≤ maxLen ∧ b < w.heap.size ∧ ∀ i (h : i < l.length), (w.cell? ⟨b, off + i * 4, none⟩ = some (.int .i64 l[i].1) ∧ w.cell? ⟨b, off + i * 4 + 1, none⟩ = some (.int .i64 l[i].2.1) ∧ w.cell? ⟨b, off + i * 4 + 2, none⟩ = some (.int .i64 l[i].2.2.1) ∧ w.cell? ⟨b, off + i * 4 + 3, none⟩ = some (.int .i64 l[i].2.2.2)) ∧
    Fits l[i].1 ∧ Fits l[i].2.1 ∧ Fits l[i].2.2.1 ∧ Fits l[i].2.2.2
theorem ReadsQ.slice {w : World} {v : Value} {l : List (Int × Int × Int × Int)} (h : ReadsQ w v l) : ∃ a cap, v = .slice a l.length cap ∧ l.length ≤ maxLen ∧ ∀ i (h : i < l.length), ∃ b off, a = some ⟨b, off, none⟩ ∧ b < w.heap.size ∧
    (w.cell? ⟨b, off + i * 4, none⟩ = some (.int .i64 l[i].1) ∧ w.cell? ⟨b, off + i * 4 + 1, none⟩ = some (.int .i64 l[i].2.1) ∧ w.cell? ⟨b, off + i * 4 + 2, none⟩ = some (.int .i64 l[i].2.2.1) ∧ w.cell? ⟨b, off + i * 4 + 3, none⟩ = some (.int .i64 l[i].2.2.2)) ∧
    Fits l[i].1 ∧ Fits l[i].2.1 ∧ Fits l[i].2.2.1 ∧ Fits l[i].2.2.2 := by
  rcases h with ⟨a, c, rfl, rfl⟩ | ⟨b, off, cap, rfl, hm, hlt, hc⟩
  · exact ⟨a, c, rfl, Nat.zero_le _, fun i h => by simp at h⟩
  · exact ⟨_, cap, rfl, hm, fun i h => ⟨b, off, rfl, hlt, hc i h⟩⟩
theorem ReadsQ.below {w w' : World} {B : Nat} {v : Value} {l : List (Int × Int × Int × Int)} (h : ReadsQ w v l) (hb : Below B w w') (hB : w.heap.size ≤ B) : ReadsQ w' v l := by
  rcases h with ⟨a, c, rfl, rfl⟩ | ⟨b, off, cap, hv, hm, hlt, hc⟩
  · exact .inl ⟨a, c, rfl, rfl⟩
  · exact .inr ⟨b, off, cap, hv, hm, Nat.lt_of_lt_of_le hlt hb.size, fun i hi => by
      obtain ⟨⟨h0, h1, h2, h3⟩, h4⟩ := hc i hi
      exact ⟨⟨cell_below hb hB h0, cell_below hb hB h1, cell_below hb hB h2, cell_below hb hB h3⟩, h4⟩⟩
section
variable {H : Type} {enc : TypeId × Value → H} {P : Program} {W : World}
theorem spot_none {a : Addr} {v : Value} (h : W.cell? (a.add 0) = some v) : ∃ b off, a = ⟨b, off, none⟩ := by
  obtain ⟨b, off, spot⟩ := a
  have : spot = none := by simpa [Addr.add] using World.cell?_spot h
  exact ⟨b, off, by rw [this]⟩
theorem add_off (b off i : Nat) : (⟨b, off, none⟩ : Addr).add i = ⟨b, off + i, none⟩ := by
  unfold Addr.add
  split
  · rename_i h; subst h; rfl
  · rfl
/-- An array of three integers by value. -/
theorem open_a3 {t e : TypeId} (ht : P.underlying t = some (.array 3 e)) (he : P.underlying e = some (.int .i64)) (hc : P.cellsOf e = 1) (hc3 : P.cellsOf t = 3) {r : Reach} {b0 : Nat} {v : Value} {d : DataW H} {ps : List MemPlace}
    (hval : Value.okWide P W r b0 t v) (h : DataW.Trod enc P W 0 (fun _ => true) true t v d ps) : ∃ x y z : Int, v = .agg #[.int .i64 x, .int .i64 y, .int .i64 z] ∧ Fits x ∧ Fits y ∧ Fits z := by
  simp only [Value.okWide, ht] at hval
  obtain ⟨cs, rfl, hsz, _⟩ := hval
  rw [hc3] at hsz
  obtain ⟨cs⟩ := cs
  match cs, hsz with
  | [c0, c1, c2], _ =>
    obtain ⟨fuel, hf⟩ := h
    obtain ⟨xs, m, rfl, _, _, hl, hx⟩ := DataW.trod_array ht hf
    simp only [hc, Value.cells] at hx
    have key : ∀ (c : Value) (i : Nat), i < 3 → DataW.trod enc P W 0 (fun _ => true) true m e [c] = xs[i]? → ∃ n, c = .int .i64 n ∧ Fits n := by
      intro c i hi hc
      rw [List.getElem?_eq_getElem (by omega)] at hc
      obtain ⟨n, h1, _, hw⟩ := DataW.trod_int he hc
      simp at h1
      exact ⟨n, h1, fits_of hw⟩
    obtain ⟨n0, rfl, f0⟩ := key c0 0 (by omega) (by simpa using hx 0 (by omega))
    obtain ⟨n1, rfl, f1⟩ := key c1 1 (by omega) (by simpa using hx 1 (by omega))
    obtain ⟨n2, rfl, f2⟩ := key c2 2 (by omega) (by simpa using hx 2 (by omega))
    exact ⟨n0, n1, n2, rfl, f0, f1, f2⟩
/-- A slice of fours of integers that came in reads as a list. -/
theorem open_st4 {t e f : TypeId} (ht : P.underlying t = some (.slice e)) (he : P.underlying e = some (.array 4 f)) (hf : P.underlying f = some (.int .i64)) (hc : P.cellsOf e = 4) (hcf : P.cellsOf f = 1) {r : Reach} {b0 : Nat} {v : Value} {d : DataW H} {ps : List MemPlace}
    (hval : Value.okWide P W r b0 t v) (h : DataW.Trod enc P W 0 (fun _ => true) true t v d ps) : ∃ l : List (Int × Int × Int × Int), ReadsQ W v l := by
  obtain ⟨a0, len, cap, rfl⟩ := okWide_slice ht hval
  obtain ⟨fuel, hfu⟩ := h
  rcases DataW.trod_slice ht hfu with ⟨hcs, _⟩ | ⟨a, len', cap', elems, rest, n, _, hcs, _, _, hl, hm, hlen, hel, _⟩
  · simp [Value.cells] at hcs
    obtain ⟨rfl, rfl, rfl⟩ := hcs
    exact ⟨[], .inl ⟨none, 0, rfl, rfl⟩⟩
  · simp [Value.cells] at hcs
    obtain ⟨rfl, rfl, rfl⟩ := hcs
    have each : ∀ i, i < len → ∃ x y z u : Int, (W.cell? (a.add (i * 4)) = some (.int .i64 x) ∧ W.cell? ((a.add (i * 4)).add 1) = some (.int .i64 y) ∧ W.cell? ((a.add (i * 4)).add 2) = some (.int .i64 z) ∧ W.cell? ((a.add (i * 4)).add 3) = some (.int .i64 u)) ∧ Fits x ∧ Fits y ∧ Fits z ∧ Fits u := by
      intro i hi
      have h1 := hel i hi
      rw [List.getElem?_eq_getElem (by omega), hc] at h1
      obtain ⟨cs, hcs, htr⟩ := Option.bind_eq_some_iff.1 h1
      obtain ⟨_, hn, hcell⟩ := World.cells?_some hcs
      match cs, hn with
      | [c0, c1, c2, c3], _ =>
        obtain ⟨xs, m, _, _, _, hlx, hx⟩ := DataW.trod_array he htr
        simp only [hcf] at hx
        have key : ∀ (c : Value) (i : Nat), i < 4 → DataW.trod enc P W 0 (fun _ => true) true m f [c] = xs[i]? → ∃ n, c = .int .i64 n ∧ Fits n := by
          intro c i hi hc
          rw [List.getElem?_eq_getElem (by omega)] at hc
          obtain ⟨n, h1, _, h3⟩ := DataW.trod_int hf hc
          simp at h1
          exact ⟨n, h1, fits_of h3⟩
        obtain ⟨x, rfl, fx⟩ := key c0 0 (by omega) (by simpa using hx 0 (by omega))
        obtain ⟨y, rfl, fy⟩ := key c1 1 (by omega) (by simpa using hx 1 (by omega))
        obtain ⟨z, rfl, fz⟩ := key c2 2 (by omega) (by simpa using hx 2 (by omega))
        obtain ⟨u, rfl, fu⟩ := key c3 3 (by omega) (by simpa using hx 3 (by omega))
        refine ⟨x, y, z, u, ⟨?_, ?_, ?_, ?_⟩, fx, fy, fz, fu⟩
        · have := hcell 0 (by omega); simpa [Addr.add] using this
        · have := hcell 1 (by omega); simpa using this
        · have := hcell 2 (by omega); simpa using this
        · have := hcell 3 (by omega); simpa using this
    by_cases h0 : len = 0
    · subst h0; exact ⟨[], .inl ⟨_, _, rfl, rfl⟩⟩
    · obtain ⟨b, off, rfl⟩ : ∃ b off, a = ⟨b, off, none⟩ := by
        obtain ⟨x, _, _, _, ⟨hx, _⟩, _⟩ := each 0 (by omega)
        exact spot_none (by simpa using hx)
      have e2 : ∀ i, ∃ q : Int × Int × Int × Int, i < len → (W.cell? ⟨b, off + i * 4, none⟩ = some (.int .i64 q.1) ∧ W.cell? ⟨b, off + i * 4 + 1, none⟩ = some (.int .i64 q.2.1) ∧ W.cell? ⟨b, off + i * 4 + 2, none⟩ = some (.int .i64 q.2.2.1) ∧ W.cell? ⟨b, off + i * 4 + 3, none⟩ = some (.int .i64 q.2.2.2)) ∧ Fits q.1 ∧ Fits q.2.1 ∧ Fits q.2.2.1 ∧ Fits q.2.2.2 := by
        intro i
        by_cases hi : i < len
        · obtain ⟨x, y, z, u, ⟨hx, hy, hz, hu⟩, hf⟩ := each i hi
          rw [add_off] at hx hy hz hu
          rw [add_off] at hy hz hu
          exact ⟨(x, y, z, u), fun _ => ⟨⟨hx, hy, hz, hu⟩, hf⟩⟩
        · exact ⟨(0, 0, 0, 0), fun h => absurd h hi⟩
      obtain ⟨F, hF⟩ : ∃ F : Nat → Int × Int × Int × Int, ∀ i, i < len → (W.cell? ⟨b, off + i * 4, none⟩ = some (.int .i64 (F i).1) ∧ W.cell? ⟨b, off + i * 4 + 1, none⟩ = some (.int .i64 (F i).2.1) ∧ W.cell? ⟨b, off + i * 4 + 2, none⟩ = some (.int .i64 (F i).2.2.1) ∧ W.cell? ⟨b, off + i * 4 + 3, none⟩ = some (.int .i64 (F i).2.2.2)) ∧ Fits (F i).1 ∧ Fits (F i).2.1 ∧ Fits (F i).2.2.1 ∧ Fits (F i).2.2.2 :=
        ⟨fun i => (e2 i).choose, fun i hi => (e2 i).choose_spec hi⟩
      refine ⟨(List.range len).map F, .inr ⟨b, off, cap, by simp, by simp; omega, ?_, ?_⟩⟩
      · exact lt_of_cell (hF 0 (by omega)).1.1
      · intro i hi
        have hi2 : i < len := by simpa using hi
        simpa using hF i hi2
end
/-- What Made makes. -/
def codesL : List UInt8 := [97, 98, 99, 48, 97, 118, 120, 113]
def indsL : List (List UInt8) := [[49, 48], [32, 32], [49, 32], [48, 48], [48, 32], [32, 48], [51, 32], [49, 50]]
def indArr : Array Value := #[.string ⟨#[49, 48]⟩, .string ⟨#[32, 32]⟩, .string ⟨#[49, 32]⟩, .string ⟨#[48, 48]⟩, .string ⟨#[48, 32]⟩, .string ⟨#[32, 48]⟩, .string ⟨#[51, 32]⟩, .string ⟨#[49, 50]⟩]
theorem inds_at : ∀ {j : Nat}, j < 8 → indArr[j]? = some (str (indsL.getD j []))
  | 0, _ => rfl
  | 1, _ => rfl
  | 2, _ => rfl
  | 3, _ => rfl
  | 4, _ => rfl
  | 5, _ => rfl
  | 6, _ => rfl
  | 7, _ => rfl
  | n + 8, h => absurd h (by omega)
def codeX (x1 x2 : Int) (j : Nat) : Int := IntKind.i64.wrap (x2.tdiv 3 + IntKind.i64.wrap ((j : Int) * (1 + (modN x1 3 : Int))))
def textX (x3 : Int) (j : Nat) : Int := IntKind.i64.wrap (x3 + 3 * (j : Int))
def madeS (x1 x2 x3 : Int) (j : Nat) : SubM := ⟨codesL.getD (modN (codeX x1 x2 j) 8) 0, textM (textX x3 j)⟩
def madeSubs (x1 x2 x3 : Int) (n : Nat) : List SubM := (List.range n).map (madeS x1 x2 x3)
theorem madeSubs_snoc (x1 x2 x3 : Int) (n : Nat) : madeSubs x1 x2 x3 (n + 1) = madeSubs x1 x2 x3 n ++ [madeS x1 x2 x3 n] := by
  unfold madeSubs
  rw [List.range_succ, List.map_append]
  rfl
theorem madeSubs_len (x1 x2 x3 : Int) (n : Nat) : (madeSubs x1 x2 x3 n).length = n := by simp [madeSubs]
def madeF (x : Int × Int × Int × Int) : FldM :=
  if ctlB (tagM x.1) then ⟨tagM x.1, [], textM x.2.2.2, []⟩ else ⟨tagM x.1, indsL.getD (modN x.2.1 8) [], [], madeSubs x.2.1 x.2.2.1 x.2.2.2 (1 + modN x.2.2.1 3)⟩
def madeM (l : List (Int × Int × Int × Int)) : RecM := ⟨97, 109, (l.take 20).map madeF⟩
theorem tagM_len (n : Int) : (tagM n).length ≤ 3 := by
  have h := modN_lt (n := n) (m := 20) (by decide)
  unfold tagM
  obtain ⟨j, hj⟩ : ∃ j, modN n 20 = j := ⟨_, rfl⟩
  rw [hj] at h ⊢
  have : ∀ j, j < 20 → (tagsL.getD j []).length ≤ 3 := by decide
  exact this j (by omega)
end Go.Proofs.Ytfccpepmjklodaa
