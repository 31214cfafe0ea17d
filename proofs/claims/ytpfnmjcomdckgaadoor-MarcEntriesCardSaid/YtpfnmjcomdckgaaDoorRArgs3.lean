/-
  Arrays of integers as arguments; a []byte made of a string, changed in place, and turned back.
-/
import Derived.Test.YtpfnmjcomdckgaaDoorRArgs
import Derived.Test.YtpfnmjcomdckgaaDoorRBase
import Derived.Laws.IdiomStrings
namespace Go.Proofs.YtpfnmjcomdckgaaDoor
open Go.ChangeShapes Go.WideShapes Go.ChangeAt Go.RowKit Go.Shelf
set_option linter.unusedVariables false
set_option linter.unusedSimpArgs false

section
variable {H : Type} {enc : TypeId × Value → H} {P : Program} {W : World}
theorem pair_of {e f : TypeId} (he : P.underlying e = some (.array 2 f)) (hf : P.underlying f = some (.int .i64)) (hcf : P.cellsOf f = 1) {m : Nat} {a b : Value} {x : DataW H × List MemPlace}
    (h : DataW.trod enc P W 0 (fun _ => true) true m e [a, b] = some x) : ∃ p q : Int, a = .int .i64 p ∧ b = .int .i64 q ∧ Fits p ∧ Fits q := by
  obtain ⟨xs, m', _, _, _, hlx, hx⟩ := DataW.trod_array he h
  simp only [hcf] at hx
  have key : ∀ (c : Value) (i : Nat), i < 2 → DataW.trod enc P W 0 (fun _ => true) true m' f [c] = xs[i]? → ∃ n, c = .int .i64 n ∧ Fits n := by
    intro c i hi hc
    rw [List.getElem?_eq_getElem (by omega)] at hc
    obtain ⟨n, h1, _, h3⟩ := DataW.trod_int hf hc
    simp at h1
    exact ⟨n, h1, fits_of h3⟩
  obtain ⟨p, rfl, fp⟩ := key a 0 (by omega) (by simpa using hx 0 (by omega))
  obtain ⟨q, rfl, fq⟩ := key b 1 (by omega) (by simpa using hx 1 (by omega))
  exact ⟨p, q, rfl, rfl, fp, fq⟩
theorem open_a2 {t e : TypeId} (ht : P.underlying t = some (.array 2 e)) (he : P.underlying e = some (.int .i64)) (hk : True) (hc : P.cellsOf e = 1) (hc2 : P.cellsOf t = 2) {r : Reach} {b0 : Nat} {v : Value} {d : DataW H} {ps : List MemPlace}
    (hval : Value.okWide P W r b0 t v) (h : DataW.Trod enc P W 0 (fun _ => true) true t v d ps) : ∃ x y : Int, v = .agg #[.int .i64 x, .int .i64 y] ∧ Fits x ∧ Fits y := by
  simp only [Value.okWide, ht] at hval
  obtain ⟨cs, rfl, hsz, _⟩ := hval
  rw [hc2] at hsz
  obtain ⟨cs⟩ := cs
  match cs, hsz with
  | [c0, c1], _ =>
    obtain ⟨fuel, hf⟩ := h
    obtain ⟨p, q, rfl, rfl, fp, fq⟩ := pair_of (x := (d, ps)) ht he hc (by simpa [Value.cells] using hf)
    exact ⟨p, q, rfl, fp, fq⟩
theorem open_a22 {t e f : TypeId} (ht : P.underlying t = some (.array 2 e)) (he : P.underlying e = some (.array 2 f)) (hf : P.underlying f = some (.int .i64)) (hcf : P.cellsOf f = 1) (hce : P.cellsOf e = 2) (hct : P.cellsOf t = 4) {r : Reach} {b0 : Nat} {v : Value} {d : DataW H} {ps : List MemPlace}
    (hval : Value.okWide P W r b0 t v) (h : DataW.Trod enc P W 0 (fun _ => true) true t v d ps) : ∃ x y z u : Int, v = .agg #[.int .i64 x, .int .i64 y, .int .i64 z, .int .i64 u] ∧ Fits x ∧ Fits y ∧ Fits z ∧ Fits u := by
  simp only [Value.okWide, ht] at hval
  obtain ⟨cs, rfl, hsz, _⟩ := hval
  rw [hct] at hsz
  obtain ⟨cs⟩ := cs
  match cs, hsz with
  | [c0, c1, c2, c3], _ =>
    obtain ⟨fuel, hfu⟩ := h
    obtain ⟨xs, m, _, _, _, hlx, hx⟩ := DataW.trod_array ht hfu
    simp only [hce, Value.cells] at hx
    have h0 := hx 0 (by omega)
    have h1 := hx 1 (by omega)
    rw [List.getElem?_eq_getElem (by omega)] at h0 h1
    obtain ⟨p, q, rfl, rfl, fp, fq⟩ := pair_of (a := c0) (b := c1) he hf hcf (by simpa using h0)
    obtain ⟨p2, q2, rfl, rfl, fp2, fq2⟩ := pair_of (a := c2) (b := c3) he hf hcf (by simpa using h1)
    exact ⟨p, q, p2, q2, rfl, fp, fq, fp2, fq2⟩
end
/-- Block B holds the bytes l (and perhaps more cells), none of them frozen. -/
def BytesAt (w : World) (B : Nat) (l : List UInt8) : Prop :=
  ∃ C fz, w.heap[B]? = some (.cells C 5 fz) ∧ l.length ≤ C.size ∧ (∀ i (h : i < l.length), C[i]? = some (.int .u8 (l[i].toNat : Int))) ∧ C.size ≤ fz.1
theorem BytesAt.lt {w : World} {B : Nat} {l : List UInt8} (h : BytesAt w B l) : B < w.heap.size := by
  obtain ⟨C, fz, hh, _⟩ := h
  exact (Array.getElem?_eq_some_iff.1 hh).1
theorem BytesAt.cell {w : World} {B : Nat} {l : List UInt8} (h : BytesAt w B l) (i : Nat) (hi : i < l.length) : w.cell? ⟨B, i, none⟩ = some (.int .u8 (l[i].toNat : Int)) := by
  obtain ⟨C, fz, hh, _, hc, _⟩ := h
  rw [Lib.cell_of_heap hh]; exact hc i hi
theorem BytesAt.frozen {w : World} {B : Nat} {l : List UInt8} (h : BytesAt w B l) (i : Nat) (hi : i < l.length) : w.frozen? ⟨B, i, none⟩ = false := by
  obtain ⟨C, fz, hh, hl, _, hf⟩ := h
  obtain ⟨lo, hi2⟩ := fz
  simp only [World.frozen?, hh]
  simp at hf ⊢
  omega
theorem BytesAt.set {w : World} {B : Nat} {l : List UInt8} (h : BytesAt w B l) (i : Nat) (c : UInt8) : BytesAt (w.setCell ⟨B, i, none⟩ (.int .u8 (c.toNat : Int))) B (l.set i c) := by
  obtain ⟨C, fz, hh, hl, hc, hf⟩ := h
  refine ⟨C.setIfInBounds i (.int .u8 (c.toNat : Int)), fz, ?_, by simpa using hl, ?_, by simpa using hf⟩
  · simp [World.setCell, Array.getElem?_modify, hh]
  · intro j hj
    have hj2 : j < l.length := by simpa using hj
    rw [Array.getElem?_setIfInBounds]
    by_cases hij : i = j
    · subst hij
      rw [if_pos rfl, if_pos (by omega)]
      simp
    · rw [if_neg hij, List.getElem_set_ne hij]
      exact hc j hj2
theorem BytesAt.below {w w' : World} {B : Nat} {l : List UInt8} (h : BytesAt w B l) (hb : Below w.heap.size w w') : BytesAt w' B l := by
  have hlt := h.lt
  obtain ⟨C, fz, hh, r⟩ := h
  exact ⟨C, fz, (hb.block B hlt).trans hh, r⟩
theorem BytesAt.drew {w : World} {B : Nat} {l : List UInt8} (h : BytesAt w B l) : BytesAt w.drew B l := h
theorem BytesAt.str {w : World} {B : Nat} {l : List UInt8} (h : BytesAt w B l) (cap : Nat) :
    (convert 42 9 (.slice (some ⟨B, 0, none⟩) l.length cap)).run Tryd.prog w = .ok (Go.Proofs.YtpfnmjcomdckgaaDoor.str l) w := by
  refine run_convert_bytes_back w _ _ 5 ⟨B, 0, none⟩ cap l Tryd.underlying42 Tryd.underlying5 Tryd.underlying9 ?_
  intro j hj
  have := h.cell j hj
  unfold Addr.add
  split
  · rename_i h0; subst h0; exact this
  · simpa using this
theorem bytes_new (l : List UInt8) (w : World) : ∃ (cap : Nat) (w' : World), (convert 9 42 (str l)).run Tryd.prog w = .ok (.slice (some ⟨w.heap.size, 0, none⟩) l.length cap) w' ∧ BytesAt w' w.heap.size l ∧ Below w.heap.size w w' := by
  have h := run_bytes_of_string (P := Tryd.prog) w 9 42 5 ⟨l.toArray⟩ Tryd.underlying9 Tryd.underlying42 Tryd.underlying5
  rw [size_str] at h
  refine ⟨_, _, h, ?_, ((Below.refl _ w).drew).alloc (Nat.le_refl _) _⟩
  generalize hC : bytesRow ⟨l.toArray⟩ (grownCap w l.length 0 5) = C
  have hn := heap_alloc_new w.drew (.cells C 5 (C.size, C.size + 1))
  have hsz : w.drew.heap.size = w.heap.size := rfl
  rw [hsz] at hn
  refine ⟨C, _, hn, ?_, ?_, Nat.le_refl _⟩
  · rw [← hC]; simp [bytesRow]
  · intro i hi
    rw [← hC]
    unfold bytesRow
    rw [Array.getElem?_append_left (by simpa using hi)]
    simp [hi]
theorem wrap_u8 (y : Int) : ∃ c : UInt8, IntKind.u8.wrap y = (c.toNat : Int) := by
  refine ⟨UInt8.ofNat (y % 256).toNat, ?_⟩
  have : (UInt8.ofNat (y % 256).toNat).toNat = (y % 256).toNat := by rw [UInt8.toNat_ofNat']; omega
  rw [this, IntKind.wrap_u8]
  omega
end Go.Proofs.YtpfnmjcomdckgaaDoor
