/-
  marc.isText, isControl, sizeOfField, sizeOfRecord.
-/
import Derived.Test.YtpfnmjcomdckgaaDoorRText
namespace Go.Proofs.YtpfnmjcomdckgaaDoor
open Go.RowKit Go.Shelf
set_option linter.unusedVariables false
set_option linter.unusedSimpArgs false

set_option maxRecDepth 100000 in
set_option maxHeartbeats 1000000 in
theorem isText_c (l : List UInt8) (hl : l.length ≤ 1099511627776) (w : World) :
    Calls Tryd.prog 78 #[str l] w fun e w' => e = .returned (.bool (textB l)) ∧ Below w.heap.size w w' := by
  have hsz := size_str l
  have N := Lib.hid (lengthOfText_c l hl w)
  have hle := textLen_le l
  have hb : textB l = ((textLen l : Int) == (l.length : Int)) := by
    unfold textB
    rw [Bool.eq_iff_iff]; simp only [beq_iff_eq]; omega
  rw [hb]
  obtain ⟨n, hn⟩ : ∃ n, textLen l = n := ⟨_, rfl⟩
  rw [hn] at N ⊢
  clear hb hn
  go_enter Tryd.func78, Tryd.ntmps78
  go_wp2_with fail
  refine N.out.mono ?_
  rintro e w1 ⟨rfl, hb1⟩
  have Hb1 := Lib.hid hb1
  clear hb1
  go_wp2
  go_ret
  exact ⟨rfl, Hb1.out⟩
theorem new_at (w : World) (o : Obj) : (w.alloc o).heap[w.heap.size]? = some o := by
  show (w.heap.push _)[w.heap.size]? = _
  simp
theorem prefix_ctl (r : List UInt8) : Lib.hasPrefix r [48, 48] = ctlB r := by
  unfold Lib.hasPrefix ctlB
  match r with
  | [] => rfl
  | [a] => simp [List.isPrefixOf]
  | a :: b :: t =>
    rw [Bool.eq_iff_iff]
    simp [List.isPrefixOf]
    constructor
    · rintro ⟨h1, h2⟩; exact ⟨h1.symm, h2.symm⟩
    · rintro ⟨h1, h2⟩; exact ⟨h1.symm, h2.symm⟩
set_option maxRecDepth 100000 in
theorem isControl_c (l : List UInt8) (w : World) :
    Calls Tryd.prog 77 #[str l] w fun e w' => e = .returned (.bool (ctlB l)) ∧ w' = w := by
  have N := hasPrefix ⟨l.toArray⟩ ⟨#[48, 48]⟩ w
  rw [show Lib.hasPrefix (ByteArray.mk l.toArray).data.toList (ByteArray.mk #[48, 48]).data.toList = ctlB l from prefix_ctl l] at N
  have N := Lib.hid N
  go_enter Tryd.func77, Tryd.ntmps77
  go_wp2_with fail
  refine N.out.mono ?_
  rintro e w1 ⟨rfl, rfl⟩
  go_wp2
  go_ret
  exact ⟨rfl, rfl⟩
set_option maxRecDepth 100000 in
set_option maxHeartbeats 1000000 in
theorem sizeOfField_c (v : Value) (f : FldM) (w : World) (hv : FldV w v f) (hs : sizeF f ≤ 1099511627776) :
    Calls Tryd.prog 57 #[v] w fun e w' => e = .returned (.int .i64 (sizeF f)) ∧ Below w.heap.size w w' := by
  obtain ⟨sv, rfl, hsub⟩ := hv
  obtain ⟨a, cap, rfl, hm, hc⟩ := hsub.slice
  have Hc := Lib.hid hc
  have hz1 := size_str f.data
  have hz2 := size_str f.ind
  unfold maxLen at hm
  unfold sizeF at hs ⊢
  clear hsub hc
  obtain ⟨W3, hW3⟩ : ∃ W3, w.alloc (.cells #[str f.tag, str f.ind, str f.data, .slice a f.subs.length cap] 62) = W3 := ⟨_, rfl⟩
  have hb3 : Below w.heap.size w W3 := by rw [← hW3]; exact below_new w _
  have hn3 := new_at w (.cells #[str f.tag, str f.ind, str f.data, .slice a f.subs.length cap] 62)
  rw [hW3] at hn3
  have g1 : W3.cell? ⟨w.heap.size, 1, none⟩ = some (str f.ind) := by rw [cell_at hn3]; rfl
  have g2 : W3.cell? ⟨w.heap.size, 2, none⟩ = some (str f.data) := by rw [cell_at hn3]; rfl
  have g3 : W3.cell? ⟨w.heap.size, 3, none⟩ = some (.slice a f.subs.length cap) := by rw [cell_at hn3]; rfl
  have Hb3 := Lib.hid hb3
  have hd : f.data.length + f.ind.length + 1 ≤ 1099511627776 := by omega
  have Hs := Lib.hid hs
  clear hb3 hs
  go_enter Tryd.func57, Tryd.ntmps57
  go_wp2
  clear hW3 g1 g2 g3 hn3
  go_loopw [3, 17] (fun n i wr => ∃ k : Nat, k ≤ f.subs.length ∧ i = .int .i64 k ∧ n = .int .i64 ((f.data.length : Int) + (f.ind.length : Int) + 1 + (subsN (f.subs.take k) : Int)) ∧ Below w.heap.size w wr) (fun _ i _ => f.subs.length - (intOf i).toNat)
  case atStart => exact ⟨0, Nat.zero_le _, rfl, by simp [subsN], Hb3.out⟩
  case round =>
    obtain ⟨k, hk, rfl, rfl, hb⟩ := hrel
    have hle := subsN_le f.subs k
    by_cases hlt : k < f.subs.length
    · obtain ⟨b, off, rfl, hbl, h0, h1⟩ := Hc.out k hlt
      have h0 := cell_below hb (Nat.le_refl _) h0
      have h1 := cell_below hb (Nat.le_refl _) h1
      have hs := subsN_snoc f.subs k hlt
      have hle2 := subsN_le f.subs (k + 1)
      have hsz := size_str f.subs[k].text
      have i0 : (0 : Int) ≤ (k : Int) := by omega
      have i1 : (k : Int) < (f.subs.length : Int) := by omega
      obtain ⟨N, hN⟩ : ∃ N, subsN (f.subs.take k) = N := ⟨_, rfl⟩
      have hbd : f.data.length + f.ind.length + 1 + N + (2 + f.subs[k].text.length) ≤ 1099511627776 := by have := Hs.out; omega
      rw [hN] at hs ⊢
      obtain ⟨L, hL⟩ : ∃ L, f.subs[k].text.length = L := ⟨_, rfl⟩
      rw [hL] at hs hbd hsz
      have Hs2 := Lib.hid hs
      have Hb := Lib.hid hb
      clear hs hle hle2 hN hb hbl
      go_wp2
      go_roundw
      case rel => exact ⟨k + 1, by omega, by go_num, by rw [Hs2.out]; go_num, Hb.out.alloc Hb.out.size _⟩
      case measure => simp [intOf]; omega
    · have hkl : k = f.subs.length := by omega
      subst hkl
      rw [List.take_length]
      have hd2 : decide (f.subs.length < f.subs.length) = false := by simp
      have Hb := Lib.hid hb
      clear hb
      go_wp2
      go_ret
      exact ⟨by push_cast; rfl, Hb.out⟩
end Go.Proofs.YtpfnmjcomdckgaaDoor
