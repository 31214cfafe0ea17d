/-
  How the rows' arguments are opened: what the walks are told of them.
-/
import Derived.Test.YtehacegpnhclnaaSane
import Derived.ProofKit
import Derived.OpenShut
import Derived.ShutString
import Derived.ChangeOld
import Derived.SliceStrings
import Derived.WideKeyPair
namespace Go.Proofs.Ytehacegpnhclnaa
open Go.ChangeShapes Go.WideShapes Go.ChangeAt Go.RowKit Go.Shelf

theorem str_of (s : ByteArray) (h : s.size ≤ maxLen) : ∃ l : List UInt8, s = ⟨l.toArray⟩ ∧ l.length ≤ maxLen :=
  ⟨s.data.toList, by apply ByteArray.ext; simp, by simpa using h⟩
theorem fits_of {n : Int} (h : (Lit.int .i64 n).wf = true) : Fits n := bounds_i64 h
theorem u64_of {n : Int} (h : (Lit.int .u64 n).wf = true) : ∃ m : Nat, n = (m : Int) ∧ m < 18446744073709551616 := by
  have := bounds_u64 h
  exact ⟨n.toNat, by omega, by omega⟩
theorem u32_of {n : Int} (h : (Lit.int .u32 n).wf = true) : ∃ m : BitVec 32, n = (m.toNat : Int) := by
  have := bounds_u32 h
  refine ⟨BitVec.ofNat 32 n.toNat, ?_⟩
  rw [BitVec.toNat_ofNat, Nat.mod_eq_of_lt (by omega)]; omega
theorem u8_of {n : Int} (h : (Lit.int .u8 n).wf = true) : ∃ c : UInt8, n = (c.toNat : Int) := by
  have := bounds_u8 h
  exact ⟨UInt8.ofNat n.toNat, by rw [ofNat_toNat (by omega)]; omega⟩

section
variable {H : Type} {enc : TypeId × Value → H} {P : Program} {W : World}

theorem spot_none {a : Addr} {v : Value} (h : W.cell? (a.add 0) = some v) : ∃ b off, a = ⟨b, off, none⟩ := by
  obtain ⟨b, off, spot⟩ := a
  have : spot = none := by simpa [Addr.add] using World.cell?_spot h
  exact ⟨b, off, by rw [this]⟩
theorem add_off (b off i : Nat) : (⟨b, off, none⟩ : Addr).add i = ⟨b, off + i, none⟩ := by
  unfold Addr.add
  split
  · rename_i h; subst h; rfl
  · rfl
theorem block_lt {a : Addr} {v : Value} (h : W.cell? a = some v) : a.block < W.heap.size := World.block_lt_of_cell? W _ h

/-- A slice of strings that came in reads as a list. -/
theorem open_ss {t e : TypeId} (ht : P.underlying t = some (.slice e)) (he : P.underlying e = some .string) (hc : P.cellsOf e = 1) {a0 : Option Addr} {len cap : Nat} {d : DataW H} {ps : List MemPlace}
    (h : DataW.Trod enc P W 0 (fun _ => true) true t (.slice a0 len cap) d ps) : ∃ l : List (List UInt8), Reads encS W (.slice a0 len cap) l := by
  obtain ⟨fuel, hf⟩ := h
  rcases open_strings ht he hc hf with ⟨hcs, _⟩ | ⟨a, len', cap', ss, hcs, _, hl, hm, hz, _, hcell, _⟩
  · simp [Value.cells] at hcs
    obtain ⟨rfl, rfl, rfl⟩ := hcs
    exact ⟨[], .inl ⟨none, 0, rfl, rfl⟩⟩
  · simp [Value.cells] at hcs
    obtain ⟨rfl, rfl, rfl⟩ := hcs
    simp only [if_true] at hz
    by_cases h0 : len = 0
    · subst h0; exact ⟨[], .inl ⟨_, _, rfl, rfl⟩⟩
    · obtain ⟨b, off, rfl⟩ := spot_none (hcell 0 (by omega))
      have hln : ((ss.take len).map (fun x => x.data.toList)).length = len := by simp; omega
      refine ⟨(ss.take len).map (fun x => x.data.toList), .inr ⟨b, off, cap, by rw [hln], by omega, ?_, block_lt (hcell 0 (by omega))⟩⟩
      intro i hi
      have hi2 : i < len := by omega
      have := hcell i (by omega)
      rw [add_off] at this
      rw [this]
      have hg : ss.getD i ByteArray.empty = ss[i]'(by omega) := by simp [List.getD, List.getElem?_eq_getElem (show i < ss.length by omega)]
      rw [hg]
      simp
/-- A slice of integers that came in reads as a list. -/
theorem open_si {t e : TypeId} (ht : P.underlying t = some (.slice e)) (he : P.underlying e = some (.int .i64)) (hc : P.cellsOf e = 1) {a0 : Option Addr} {len cap : Nat} {d : DataW H} {ps : List MemPlace}
    (h : DataW.Trod enc P W 0 (fun _ => true) true t (.slice a0 len cap) d ps) : ∃ l : List Int, Reads encI W (.slice a0 len cap) l ∧ ∀ n ∈ l, Fits n := by
  obtain ⟨fuel, hf⟩ := h
  rcases open_ints ht he hc hf with ⟨hcs, _⟩ | ⟨a, len', cap', zs, hcs, _, hl, hm, hz, _, hcell, hwz⟩
  · simp [Value.cells] at hcs
    obtain ⟨rfl, rfl, rfl⟩ := hcs
    exact ⟨[], .inl ⟨none, 0, rfl, rfl⟩, by simp⟩
  · simp [Value.cells] at hcs
    obtain ⟨rfl, rfl, rfl⟩ := hcs
    simp only [if_true] at hz
    by_cases h0 : len = 0
    · subst h0; exact ⟨[], .inl ⟨_, _, rfl, rfl⟩, by simp⟩
    · obtain ⟨b, off, rfl⟩ := spot_none (hcell 0 (by omega))
      have hln : (zs.take len).length = len := by simp; omega
      refine ⟨zs.take len, .inr ⟨b, off, cap, by rw [hln], by omega, ?_, block_lt (hcell 0 (by omega))⟩, fun n hn => fits_of (hwz n (List.mem_of_mem_take hn))⟩
      intro i hi
      have hi2 : i < len := by omega
      have := hcell i (by omega)
      rw [add_off] at this
      rw [this]
      have hg : zs.getD i 0 = zs[i]'(by omega) := by simp [List.getD, List.getElem?_eq_getElem (show i < zs.length by omega)]
      rw [hg]
      simp
/-- An array of two integers by value. -/
theorem open_a2 {t e : TypeId} (ht : P.underlying t = some (.array 2 e)) (he : P.underlying e = some (.int .i64)) (hk : P.plainKey e = true) (hc : P.cellsOf e = 1) (hc2 : P.cellsOf t = 2) {r : Reach} {b0 : Nat} {v : Value} {d : DataW H} {ps : List MemPlace}
    (hval : Value.okWide P W r b0 t v) (h : DataW.Trod enc P W 0 (fun _ => true) true t v d ps) : ∃ x y : Int, v = .agg #[.int .i64 x, .int .i64 y] ∧ Fits x ∧ Fits y := by
  obtain ⟨x, y, rfl, _, _, hx, hy⟩ := WideMaps.open_pair ⟨ht, hk, hc, hc2⟩ he hval h
  exact ⟨x, y, rfl, fits_of hx, fits_of hy⟩
/-- An array of three integers by value. -/
theorem open_a3 {t e : TypeId} (ht : P.underlying t = some (.array 3 e)) (he : P.underlying e = some (.int .i64)) (hc : P.cellsOf e = 1) (hc3 : P.cellsOf t = 3) {r : Reach} {b0 : Nat} {v : Value} {d : DataW H} {ps : List MemPlace}
    (hval : Value.okWide P W r b0 t v) (h : DataW.Trod enc P W 0 (fun _ => true) true t v d ps) : ∃ x y z : Int, v = .agg #[.int .i64 x, .int .i64 y, .int .i64 z] ∧ Fits x ∧ Fits y ∧ Fits z := by
  simp only [Value.okWide, ht] at hval
  obtain ⟨cs, rfl, hsz, _⟩ := hval
  rw [hc3] at hsz
  obtain ⟨cs⟩ := cs
  match cs, hsz with
  | [c0, c1, c2], _ =>
    obtain ⟨fuel, hf⟩ := h
    obtain ⟨xs, m, rfl, _, _, hl, hx⟩ := DataW.trod_array ht hf
    simp only [hc, Value.cells] at hx
    have key : ∀ (c : Value) (i : Nat), i < 3 → DataW.trod enc P W 0 (fun _ => true) true m e [c] = xs[i]? → ∃ n, c = .int .i64 n ∧ Fits n := by
      intro c i hi hc
      rw [List.getElem?_eq_getElem (by omega)] at hc
      obtain ⟨n, h1, _, hw⟩ := DataW.trod_int he hc
      simp at h1
      exact ⟨n, h1, fits_of hw⟩
    obtain ⟨n0, rfl, f0⟩ := key c0 0 (by omega) (by simpa using hx 0 (by omega))
    obtain ⟨n1, rfl, f1⟩ := key c1 1 (by omega) (by simpa using hx 1 (by omega))
    obtain ⟨n2, rfl, f2⟩ := key c2 2 (by omega) (by simpa using hx 2 (by omega))
    exact ⟨n0, n1, n2, rfl, f0, f1, f2⟩
end
end Go.Proofs.Ytehacegpnhclnaa
