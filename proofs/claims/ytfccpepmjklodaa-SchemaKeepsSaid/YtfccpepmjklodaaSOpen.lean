/-
  Arguments of stage 4: arrays of strings by value.
-/
import Derived.Test.YtfccpepmjklodaaSBase
import Derived.OpenShut
import Derived.SizedLaws
import Derived.ChangeArms
import Derived.ChangeOld
import Derived.WideKeyPair
namespace Go.Proofs.Ytfccpepmjklodaa
open Go.ChangeShapes Go.WideShapes Go.RowKit
set_option linter.unusedVariables false

section
variable {P : Program} {H : Type} {enc : TypeId × Value → H} {W : World}
theorem weights_mem_all {e : TypeId} {bytes : List UInt8} : ∀ {parts : List (DataW H)}, DataW.lit (.string bytes) ∈ parts → bytes.length ∈ DataW.weightsAll P e parts
  | d :: r, h => by
    rw [DataW.weightsAll, List.mem_append]
    rcases List.mem_cons.1 h with rfl | h
    · exact .inl (by simp [DataW.weights])
    · exact .inr (weights_mem_all h)
theorem sized_agg {ts : List TypeId} {ds : List (DataW H)} (h : (DataW.weightsEach P ts ds).all (· ≤ reachBytes) = true) {j n : Nat} {t e : TypeId} {parts : List (DataW H)} {bytes : List UInt8} (ht : ts[j]? = some t) (hd : ds[j]? = some (.agg parts))
    (hu : P.underlying t = some (.array n e)) (hp : DataW.lit (.string bytes) ∈ parts) : bytes.length ≤ 140737488351232 := by
  have := List.all_eq_true.1 h _ (DataW.weights_mem_each ht hd bytes.length (by rw [DataW.weights, hu]; exact weights_mem_all hp))
  have h1 : bytes.length ≤ reachBytes := by simpa using this
  simpa [reachBytes] using h1
theorem str_any (s : ByteArray) : ∃ l : List UInt8, s = ⟨l.toArray⟩ ∧ s.data.toList = l := ⟨s.data.toList, by apply ByteArray.ext; simp, rfl⟩
theorem part_str {e : TypeId} (he : P.underlying e = some .string) {m : Nat} {c : Value} {x : DataW H × List MemPlace} (h : DataW.trod enc P W 0 (fun _ => true) true m e [c] = some x) : ∃ l : List UInt8, c = str l ∧ x.1 = .lit (.string l) := by
  obtain ⟨s, h1, h2, _⟩ := DataW.trod_string he h
  obtain ⟨l, hl, hd⟩ := str_any s
  simp at h1
  subst h1
  exact ⟨l, by rw [hl], by rw [h2, hd]⟩
theorem open_s4 {t e : TypeId} (ht : P.underlying t = some (.array 4 e)) (he : P.underlying e = some .string) (hc : P.cellsOf e = 1) (hct : P.cellsOf t = 4) {r : Reach} {b0 : Nat} {v : Value} {d : DataW H} {ps : List MemPlace}
    (hval : Value.okWide P W r b0 t v) (h : DataW.Trod enc P W 0 (fun _ => true) true t v d ps) :
    ∃ s0 s1 s2 s3 : List UInt8, v = .agg #[str s0, str s1, str s2, str s3] ∧ d = .agg [.lit (.string s0), .lit (.string s1), .lit (.string s2), .lit (.string s3)] := by
  simp only [Value.okWide, ht] at hval
  obtain ⟨cs, rfl, hsz, _⟩ := hval
  rw [hct] at hsz
  obtain ⟨cs⟩ := cs
  match cs, hsz with
  | [c0, c1, c2, c3], _ =>
    obtain ⟨fuel, hf⟩ := h
    obtain ⟨xs, m, _, hx1, _, hl, hx⟩ := DataW.trod_array ht hf
    simp only [hc, Value.cells] at hx
    match xs, hl with
    | [x0, x1, x2, x3], _ =>
      obtain ⟨l0, rfl, e0⟩ := part_str (x := x0) he (by simpa using hx 0 (by omega))
      obtain ⟨l1, rfl, e1⟩ := part_str (x := x1) he (by simpa using hx 1 (by omega))
      obtain ⟨l2, rfl, e2⟩ := part_str (x := x2) he (by simpa using hx 2 (by omega))
      obtain ⟨l3, rfl, e3⟩ := part_str (x := x3) he (by simpa using hx 3 (by omega))
      simp only [Prod.mk.injEq] at hx1
      exact ⟨l0, l1, l2, l3, rfl, by rw [hx1.1]; simp [e0, e1, e2, e3]⟩
theorem open_s5 {t e : TypeId} (ht : P.underlying t = some (.array 5 e)) (he : P.underlying e = some .string) (hc : P.cellsOf e = 1) (hct : P.cellsOf t = 5) {r : Reach} {b0 : Nat} {v : Value} {d : DataW H} {ps : List MemPlace}
    (hval : Value.okWide P W r b0 t v) (h : DataW.Trod enc P W 0 (fun _ => true) true t v d ps) :
    ∃ s0 s1 s2 s3 s4 : List UInt8, v = .agg #[str s0, str s1, str s2, str s3, str s4] ∧ d = .agg [.lit (.string s0), .lit (.string s1), .lit (.string s2), .lit (.string s3), .lit (.string s4)] := by
  simp only [Value.okWide, ht] at hval
  obtain ⟨cs, rfl, hsz, _⟩ := hval
  rw [hct] at hsz
  obtain ⟨cs⟩ := cs
  match cs, hsz with
  | [c0, c1, c2, c3, c4], _ =>
    obtain ⟨fuel, hf⟩ := h
    obtain ⟨xs, m, _, hx1, _, hl, hx⟩ := DataW.trod_array ht hf
    simp only [hc, Value.cells] at hx
    match xs, hl with
    | [x0, x1, x2, x3, x4], _ =>
      obtain ⟨l0, rfl, e0⟩ := part_str (x := x0) he (by simpa using hx 0 (by omega))
      obtain ⟨l1, rfl, e1⟩ := part_str (x := x1) he (by simpa using hx 1 (by omega))
      obtain ⟨l2, rfl, e2⟩ := part_str (x := x2) he (by simpa using hx 2 (by omega))
      obtain ⟨l3, rfl, e3⟩ := part_str (x := x3) he (by simpa using hx 3 (by omega))
      obtain ⟨l4, rfl, e4⟩ := part_str (x := x4) he (by simpa using hx 4 (by omega))
      simp only [Prod.mk.injEq] at hx1
      exact ⟨l0, l1, l2, l3, l4, rfl, by rw [hx1.1]; simp [e0, e1, e2, e3, e4]⟩
end
end Go.Proofs.Ytfccpepmjklodaa
