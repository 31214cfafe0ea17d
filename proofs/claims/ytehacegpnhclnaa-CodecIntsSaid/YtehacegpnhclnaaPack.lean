/-
  codec.Pack and codec.Ints: loops over a slice that write into a builder.
-/
import Derived.Test.YtehacegpnhclnaaWrite
import Derived.Test.YtehacegpnhclnaaPackM
import Derived.Test.YtehacegpnhclnaaSign
namespace Go.Proofs.Ytehacegpnhclnaa
open Go.RowKit Go.Shelf

/-- A slice value reads as a list, each element in one cell. -/
def Reads {α : Type} (enc : α → Value) (w : World) (v : Value) (l : List α) : Prop :=
  (∃ a c, v = .slice a 0 c ∧ l = []) ∨
  ∃ b off cap, v = .slice (some ⟨b, off, none⟩) l.length cap ∧ l.length ≤ maxLen ∧ (∀ i (h : i < l.length), w.cell? ⟨b, off + i, none⟩ = some (enc l[i])) ∧ b < w.heap.size
theorem Reads.below {α : Type} {enc : α → Value} {w w' : World} {v : Value} {l : List α} {B : Nat} (h : Reads enc w v l) (hb : Below B w w') (hB : B = w.heap.size) : Reads enc w' v l := by
  subst hB
  rcases h with h | ⟨b, off, cap, hv, hm, hc, hlt⟩
  · exact .inl h
  · exact .inr ⟨b, off, cap, hv, hm, fun i hi => (hb.cell (p := ⟨b, off + i, none⟩) hlt).trans (hc i hi), Nat.lt_of_lt_of_le hlt hb.size⟩
theorem Reads.slice {α : Type} {enc : α → Value} {w : World} {v : Value} {l : List α} (h : Reads enc w v l) : ∃ a cap, v = .slice a l.length cap ∧ l.length ≤ maxLen ∧ ∀ i (h : i < l.length), ∃ b off, a = some ⟨b, off, none⟩ ∧ w.cell? ⟨b, off + i, none⟩ = some (enc l[i]) ∧ b < w.heap.size := by
  rcases h with ⟨a, c, rfl, rfl⟩ | ⟨b, off, cap, hv, hm, hc, hlt⟩
  · exact ⟨a, c, rfl, Nat.zero_le _, fun i h => by simp at h⟩
  · exact ⟨_, _, hv, hm, fun i hi => ⟨b, off, rfl, hc i hi, hlt⟩⟩

abbrev encS (s : List UInt8) : Value := str s
abbrev encI (n : Int) : Value := .int .i64 n

/-- codeL's prefixes. -/
theorem code_take_len {α : Type} (f : α → List UInt8) (l : List α) (k : Nat) : ((num l.length ++ (l.take k).flatMap f)).length ≤ (codeL f l).length := by
  unfold codeL
  simp only [List.length_append]
  have : ((l.take k).flatMap f).length ≤ (l.flatMap f).length := by
    conv => rhs; rw [← List.take_append_drop k l, List.flatMap_append, List.length_append]
    omega
  omega
theorem code_step {α : Type} (f : α → List UInt8) (l : List α) (k : Nat) (h : k < l.length) : (l.take (k + 1)).flatMap f = (l.take k).flatMap f ++ f l[k] := by
  rw [List.take_succ_eq_append_getElem h, List.flatMap_append]; simp

set_option maxRecDepth 100000 in
set_option maxHeartbeats 1000000 in
/-- codec.Pack. -/
theorem pack_c (sl : Value) (l : List (List UInt8)) (w : World) (hr : Reads encS w sl l) (hlen : (pack l).length + 10 ≤ 140737488355328) :
    Calls Try.prog 29 #[sl] w fun e w' => e = .returned (str (pack l)) ∧ Below w.heap.size w w' := by
  obtain ⟨a, cap, rfl, hm, hcell⟩ := hr.slice
  unfold maxLen at hm
  have h1 := writeNumber_c w.heap.size w.heap.size [] l.length _ (by omega) (fresh_builder w) (by simp) (by simp)
  rw [List.nil_append] at h1
  have H1 := Lib.hid h1
  have Hlen := Lib.hid hlen
  have Hcell := Lib.hid hcell
  clear h1 hlen hr hcell
  go_enter Try.func29, Try.ntmps29
  go_wp2_with fail
  refine H1.out.mono ?_
  clear H1
  rintro e w1 ⟨rfl, hb1, hw1, -⟩
  have hb10 := ((Below.refl _ w).alloc (Nat.le_refl _) _).trans hw1
  clear hw1
  go_wp2_with fail
  go_loopw [5, 12] (fun _ i wr => ∃ k : Nat, k ≤ l.length ∧ i = .int .i64 k ∧ Lib.IsBuilderF TB TY w.heap.size w.heap.size (Lib.byteCells (num l.length ++ (l.take k).flatMap strB)) wr ∧ Below w.heap.size w wr) (fun _ i _ => l.length - (intOf i).toNat)
  case atStart => exact ⟨0, Nat.zero_le _, rfl, by simpa using hb1, hb10⟩
  case round =>
    obtain ⟨k, hk, rfl, hb, hbel⟩ := hrel
    clear hb10 hb1
    by_cases hlt : k < l.length
    · obtain ⟨b, off, rfl, hc, hbl⟩ := Hcell.out k hlt
      have hcr : wr.cell? ⟨b, off + k, none⟩ = some (encS l[k]) := (hbel.cell (p := ⟨b, off + k, none⟩) hbl).trans hc
      clear hc hbl
      have hstep := code_step strB l k hlt
      have hpre := code_take_len strB l k
      have hpre2 := code_take_len strB l (k + 1)
      rw [hstep] at hpre2
      have hL := Hlen.out
      unfold pack at hL
      have hwB : w.heap.size ≤ wr.heap.size := hbel.size
      have hel : (strB l[k]).length = (num l[k].length).length + l[k].length := by simp [strB]
      simp only [List.length_append] at hpre hpre2
      have hsz : (ByteArray.mk l[k].toArray).size = l[k].length := size_str _
      have h1 := writeNumber_c w.heap.size w.heap.size _ l[k].length wr (by omega) hb (by simp only [List.length_append]; omega) hwB
      have H1 := Lib.hid h1
      have h2 := fun (W : World) (hW : Lib.IsBuilderF TB TY w.heap.size w.heap.size (Lib.byteCells (num l.length ++ (l.take k).flatMap strB ++ num l[k].length)) W) (hWB : w.heap.size ≤ W.heap.size) => writeString w.heap.size w.heap.size _ ⟨l[k].toArray⟩ W hW (by rw [Lib.byteCells_length, hsz]; simp only [List.length_append]; omega) hWB
      have H2 := Lib.hid h2
      have hbd : l[k].length ≤ 140737488355328 := by omega
      have hcat : Lib.byteCells (num l.length ++ (l.take k).flatMap strB ++ num l[k].length) ++ Lib.strCells ⟨l[k].toArray⟩ = Lib.byteCells (num l.length ++ (l.take (k + 1)).flatMap strB) := by
        rw [hstep]
        simp [Lib.byteCells, Lib.strCells, strB]
      have Hcat := Lib.hid hcat
      have Hbel := Lib.hid hbel
      clear h1 h2 hcat hstep hpre hpre2 hL hb hel hbel
      go_wp2_with fail
      refine H1.out.mono ?_
      clear H1
      rintro e w2 ⟨rfl, hb2, hw2, -⟩
      have h3 := H2.out w2 hb2 (by have := hw2.size; omega)
      rw [Hcat.out] at h3
      have H3 := Lib.hid h3
      clear h3 hb2 H2
      go_wp2_with fail
      refine H3.out.mono ?_
      clear H3
      rintro e w3 ⟨rfl, hb3, hw3, -⟩
      go_wp2
      go_roundw
      case rel => exact ⟨k + 1, by omega, by go_num, hb3, (Hbel.out.trans hw2).trans hw3⟩
      case measure => simp [intOf]; omega
    · have hkl : k = l.length := by omega
      subst hkl
      rw [List.take_length] at hb
      have h2 := builderString w.heap.size w.heap.size _ wr hb hbel.size
      have H2 := Lib.hid h2
      clear h2 hb
      go_wp2_with fail
      refine H2.out.mono ?_
      clear H2
      rintro e w2 ⟨rfl, -, hw2, -⟩
      go_wp2
      go_ret
      exact ⟨rfl, hbel.trans hw2⟩

/-- An integer's code, and the code of a list of integers. -/
def intB (n : Int) : List UInt8 := num (sg n).toNat
def intsL (l : List Int) : List UInt8 := codeL intB l
def Fits (n : Int) : Prop := -9223372036854775808 ≤ n ∧ n ≤ 9223372036854775807

set_option maxRecDepth 100000 in
set_option maxHeartbeats 1000000 in
/-- codec.Ints. -/
theorem ints_c (sl : Value) (l : List Int) (w : World) (hr : Reads encI w sl l) (hf : ∀ n ∈ l, Fits n) (hlen : (intsL l).length + 10 ≤ 140737488355328) :
    Calls Try.prog 34 #[sl] w fun e w' => e = .returned (str (intsL l)) ∧ Below w.heap.size w w' := by
  obtain ⟨a, cap, rfl, hm, hcell⟩ := hr.slice
  unfold maxLen at hm
  have h1 := writeNumber_c w.heap.size w.heap.size [] l.length _ (by omega) (fresh_builder w) (by simp) (by simp)
  rw [List.nil_append] at h1
  have H1 := Lib.hid h1
  have Hlen := Lib.hid hlen
  have Hcell := Lib.hid hcell
  have Hf := Lib.hid hf
  clear h1 hlen hr hcell hf
  go_enter Try.func34, Try.ntmps34
  go_wp2_with fail
  refine H1.out.mono ?_
  clear H1
  rintro e w1 ⟨rfl, hb1, hw1, -⟩
  have hb10 := ((Below.refl _ w).alloc (Nat.le_refl _) _).trans hw1
  clear hw1
  go_wp2_with fail
  go_loopw [5, 12] (fun _ i wr => ∃ k : Nat, k ≤ l.length ∧ i = .int .i64 k ∧ Lib.IsBuilderF TB TY w.heap.size w.heap.size (Lib.byteCells (num l.length ++ (l.take k).flatMap intB)) wr ∧ Below w.heap.size w wr) (fun _ i _ => l.length - (intOf i).toNat)
  case atStart => exact ⟨0, Nat.zero_le _, rfl, by simpa using hb1, hb10⟩
  case round =>
    obtain ⟨k, hk, rfl, hb, hbel⟩ := hrel
    clear hb10 hb1
    by_cases hlt : k < l.length
    · obtain ⟨b, off, rfl, hc, hbl⟩ := Hcell.out k hlt
      have hcr : wr.cell? ⟨b, off + k, none⟩ = some (encI l[k]) := (hbel.cell (p := ⟨b, off + k, none⟩) hbl).trans hc
      clear hc hbl
      have hstep := code_step intB l k hlt
      have hpre := code_take_len intB l k
      have hL := Hlen.out
      unfold intsL at hL
      have hwB : w.heap.size ≤ wr.heap.size := hbel.size
      simp only [List.length_append] at hpre
      obtain ⟨hf1, hf2⟩ := Hf.out l[k] (List.getElem_mem hlt)
      have hsr := sg_range l[k] hf1 hf2
      obtain ⟨q, hq⟩ : ∃ q : Nat, sg l[k] = (q : Int) := ⟨(sg l[k]).toNat, by omega⟩
      have h0 := signed_c l[k] wr hf1 hf2
      rw [hq] at h0 hsr
      have hib : intB l[k] = num q := by unfold intB; rw [hq]; rfl
      rw [hib, ← List.append_nil (num q)] at hstep
      rw [List.append_nil] at hstep
      have h1 := writeNumber_c w.heap.size w.heap.size _ q wr (by omega) hb (by simp only [List.length_append]; omega) hwB
      rw [List.append_assoc, ← hstep] at h1
      have H0 := Lib.hid h0
      have H1 := Lib.hid h1
      have Hbel := Lib.hid hbel
      clear h0 h1 hstep hpre hL hb hbel hib hq hsr hf1 hf2
      go_wp2_with fail
      refine H0.out.mono ?_
      clear H0
      rintro e w2 ⟨rfl, rfl⟩
      go_wp2_with fail
      refine H1.out.mono ?_
      clear H1
      rintro e w2 ⟨rfl, hb2, hw2, -⟩
      go_wp2
      go_roundw
      case rel => exact ⟨k + 1, by omega, by go_num, hb2, Hbel.out.trans hw2⟩
      case measure => simp [intOf]; omega
    · have hkl : k = l.length := by omega
      subst hkl
      rw [List.take_length] at hb
      have h2 := builderString w.heap.size w.heap.size _ wr hb hbel.size
      have H2 := Lib.hid h2
      clear h2 hb
      go_wp2_with fail
      refine H2.out.mono ?_
      clear H2
      rintro e w2 ⟨rfl, -, hw2, -⟩
      go_wp2
      go_ret
      exact ⟨rfl, hbel.trans hw2⟩
end Go.Proofs.Ytehacegpnhclnaa
