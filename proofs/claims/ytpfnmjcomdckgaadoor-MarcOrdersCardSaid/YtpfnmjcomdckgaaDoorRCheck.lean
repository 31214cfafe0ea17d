/-
  marc.isText, isControl, sizeOfField, sizeOfRecord. marc.sizeOfRecord and isRightField. marc.isRightField. marc.isRightField at a field with indicators. marc.check and Right.
-/
import Derived.Test.YtpfnmjcomdckgaaDoorRText
namespace Go.Proofs.YtpfnmjcomdckgaaDoor
open Go.RowKit Go.Shelf
set_option linter.unusedVariables false
set_option linter.unusedSimpArgs false

set_option maxRecDepth 100000 in
set_option maxHeartbeats 1000000 in
theorem isText_c (l : List UInt8) (hl : l.length ≤ 1099511627776) (w : World) :
    Calls Tryd.prog 78 #[str l] w fun e w' => e = .returned (.bool (textB l)) ∧ Below w.heap.size w w' := by
  have hsz := size_str l
  have N := Lib.hid (lengthOfText_c l hl w)
  have hle := textLen_le l
  have hb : textB l = ((textLen l : Int) == (l.length : Int)) := by
    unfold textB
    rw [Bool.eq_iff_iff]; simp only [beq_iff_eq]; omega
  rw [hb]
  obtain ⟨n, hn⟩ : ∃ n, textLen l = n := ⟨_, rfl⟩
  rw [hn] at N ⊢
  clear hb hn
  go_enter Tryd.func78, Tryd.ntmps78
  go_wp2_with fail
  refine N.out.mono ?_
  rintro e w1 ⟨rfl, hb1⟩
  have Hb1 := Lib.hid hb1
  clear hb1
  go_wp2
  go_ret
  exact ⟨rfl, Hb1.out⟩
theorem new_at (w : World) (o : Obj) : (w.alloc o).heap[w.heap.size]? = some o := by
  show (w.heap.push _)[w.heap.size]? = _
  simp
theorem prefix_ctl (r : List UInt8) : Lib.hasPrefix r [48, 48] = ctlB r := by
  unfold Lib.hasPrefix ctlB
  match r with
  | [] => rfl
  | [a] => simp [List.isPrefixOf]
  | a :: b :: t =>
    rw [Bool.eq_iff_iff]
    simp [List.isPrefixOf]
    constructor
    · rintro ⟨h1, h2⟩; exact ⟨h1.symm, h2.symm⟩
    · rintro ⟨h1, h2⟩; exact ⟨h1.symm, h2.symm⟩
set_option maxRecDepth 100000 in
theorem isControl_c (l : List UInt8) (w : World) :
    Calls Tryd.prog 77 #[str l] w fun e w' => e = .returned (.bool (ctlB l)) ∧ w' = w := by
  have N := hasPrefix ⟨l.toArray⟩ ⟨#[48, 48]⟩ w
  rw [show Lib.hasPrefix (ByteArray.mk l.toArray).data.toList (ByteArray.mk #[48, 48]).data.toList = ctlB l from prefix_ctl l] at N
  have N := Lib.hid N
  go_enter Tryd.func77, Tryd.ntmps77
  go_wp2_with fail
  refine N.out.mono ?_
  rintro e w1 ⟨rfl, rfl⟩
  go_wp2
  go_ret
  exact ⟨rfl, rfl⟩
set_option maxRecDepth 100000 in
set_option maxHeartbeats 1000000 in
theorem sizeOfField_c (v : Value) (f : FldM) (w : World) (hv : FldV w v f) (hs : sizeF f ≤ 1099511627776) :
    Calls Tryd.prog 57 #[v] w fun e w' => e = .returned (.int .i64 (sizeF f)) ∧ Below w.heap.size w w' := by
  obtain ⟨sv, rfl, hsub⟩ := hv
  obtain ⟨a, cap, rfl, hm, hc⟩ := hsub.slice
  have Hc := Lib.hid hc
  have hz1 := size_str f.data
  have hz2 := size_str f.ind
  unfold maxLen at hm
  unfold sizeF at hs ⊢
  clear hsub hc
  obtain ⟨W3, hW3⟩ : ∃ W3, w.alloc (.cells #[str f.tag, str f.ind, str f.data, .slice a f.subs.length cap] 62) = W3 := ⟨_, rfl⟩
  have hb3 : Below w.heap.size w W3 := by rw [← hW3]; exact below_new w _
  have hn3 := new_at w (.cells #[str f.tag, str f.ind, str f.data, .slice a f.subs.length cap] 62)
  rw [hW3] at hn3
  have g1 : W3.cell? ⟨w.heap.size, 1, none⟩ = some (str f.ind) := by rw [cell_at hn3]; rfl
  have g2 : W3.cell? ⟨w.heap.size, 2, none⟩ = some (str f.data) := by rw [cell_at hn3]; rfl
  have g3 : W3.cell? ⟨w.heap.size, 3, none⟩ = some (.slice a f.subs.length cap) := by rw [cell_at hn3]; rfl
  have Hb3 := Lib.hid hb3
  have hd : f.data.length + f.ind.length + 1 ≤ 1099511627776 := by omega
  have Hs := Lib.hid hs
  clear hb3 hs
  go_enter Tryd.func57, Tryd.ntmps57
  go_wp2
  clear hW3 g1 g2 g3 hn3
  go_loopw [3, 17] (fun n i wr => ∃ k : Nat, k ≤ f.subs.length ∧ i = .int .i64 k ∧ n = .int .i64 ((f.data.length : Int) + (f.ind.length : Int) + 1 + (subsN (f.subs.take k) : Int)) ∧ Below w.heap.size w wr) (fun _ i _ => f.subs.length - (intOf i).toNat)
  case atStart => exact ⟨0, Nat.zero_le _, rfl, by simp [subsN], Hb3.out⟩
  case round =>
    obtain ⟨k, hk, rfl, rfl, hb⟩ := hrel
    have hle := subsN_le f.subs k
    by_cases hlt : k < f.subs.length
    · obtain ⟨b, off, rfl, hbl, h0, h1⟩ := Hc.out k hlt
      have h0 := cell_below hb (Nat.le_refl _) h0
      have h1 := cell_below hb (Nat.le_refl _) h1
      have hs := subsN_snoc f.subs k hlt
      have hle2 := subsN_le f.subs (k + 1)
      have hsz := size_str f.subs[k].text
      have i0 : (0 : Int) ≤ (k : Int) := by omega
      have i1 : (k : Int) < (f.subs.length : Int) := by omega
      obtain ⟨N, hN⟩ : ∃ N, subsN (f.subs.take k) = N := ⟨_, rfl⟩
      have hbd : f.data.length + f.ind.length + 1 + N + (2 + f.subs[k].text.length) ≤ 1099511627776 := by have := Hs.out; omega
      rw [hN] at hs ⊢
      obtain ⟨L, hL⟩ : ∃ L, f.subs[k].text.length = L := ⟨_, rfl⟩
      rw [hL] at hs hbd hsz
      have Hs2 := Lib.hid hs
      have Hb := Lib.hid hb
      clear hs hle hle2 hN hb hbl
      go_wp2
      go_roundw
      case rel => exact ⟨k + 1, by omega, by go_num, by rw [Hs2.out]; go_num, Hb.out.alloc Hb.out.size _⟩
      case measure => simp [intOf]; omega
    · have hkl : k = f.subs.length := by omega
      subst hkl
      rw [List.take_length]
      have hd2 : decide (f.subs.length < f.subs.length) = false := by simp
      have Hb := Lib.hid hb
      clear hb
      go_wp2
      go_ret
      exact ⟨by push_cast; rfl, Hb.out⟩
end Go.Proofs.YtpfnmjcomdckgaaDoor

namespace Go.Proofs.YtpfnmjcomdckgaaDoor
open Go.RowKit Go.Shelf
set_option linter.unusedVariables false
set_option linter.unusedSimpArgs false

set_option maxRecDepth 100000 in
theorem sizeOfHead_c (n : Nat) (h : n ≤ 1099511627776) (w : World) :
    Calls Tryd.prog 60 #[.int .i64 n] w fun e w' => e = .returned (.int .i64 (24 + 12 * (n : Int) + 1)) ∧ w' = w := by
  go_enter Tryd.func60, Tryd.ntmps60
  go_wp2
  go_ret
  exact ⟨rfl, rfl⟩
set_option maxRecDepth 100000 in
set_option maxHeartbeats 1000000 in
theorem sizeOfRecord_c (v : Value) (r : RecM) (w : World) (hv : RecV w v r) (hs : sizeR r ≤ 1099511627776) :
    Calls Tryd.prog 38 #[v] w fun e w' => e = .returned (.int .i64 (sizeR r)) ∧ Below w.heap.size w w' := by
  obtain ⟨fv, rfl, hf⟩ := hv
  obtain ⟨a, cap, rfl, hm, hc⟩ := hf.slice
  have Hc := Lib.hid hc
  unfold maxLen at hm
  unfold sizeR sizeH at hs ⊢
  clear hf hc
  obtain ⟨W3, hW3⟩ : ∃ W3, w.alloc (.cells #[.int .u8 (r.kind.toNat : Int), .int .u8 (r.level.toNat : Int), .slice a r.fields.length cap] 27) = W3 := ⟨_, rfl⟩
  have hb3 : Below w.heap.size w W3 := by rw [← hW3]; exact below_new w _
  have hn3 := new_at w (.cells #[.int .u8 (r.kind.toNat : Int), .int .u8 (r.level.toNat : Int), .slice a r.fields.length cap] 27)
  rw [hW3] at hn3
  have g2 : W3.cell? ⟨w.heap.size, 2, none⟩ = some (.slice a r.fields.length cap) := by rw [cell_at hn3]; rfl
  have Hb3 := Lib.hid hb3
  have hd : r.fields.length ≤ 1099511627776 := by omega
  have Hs := Lib.hid hs
  clear hb3 hs
  go_enter Tryd.func38, Tryd.ntmps38
  go_wp2_with fail
  refine (sizeOfHead_c _ hd _).mono ?_
  rintro e w4 ⟨rfl, rfl⟩
  go_wp2
  clear hW3 g2 hn3
  go_loopw [3, 14] (fun n i wr => ∃ k : Nat, k ≤ r.fields.length ∧ i = .int .i64 k ∧ n = .int .i64 (24 + 12 * (r.fields.length : Int) + 1 + 1 + (fieldsN (r.fields.take k) : Int)) ∧ Below w.heap.size w wr) (fun _ i _ => r.fields.length - (intOf i).toNat)
  case atStart => exact ⟨0, Nat.zero_le _, rfl, by simp [fieldsN], Hb3.out⟩
  case round =>
    obtain ⟨k, hk, rfl, rfl, hb⟩ := hrel
    have hle := fieldsN_le r.fields k
    by_cases hlt : k < r.fields.length
    · obtain ⟨b, off, rfl, hbl, h0, h1, h2, sv, h3, h4⟩ := Hc.out k hlt
      have h0 := cell_below hb (Nat.le_refl _) h0
      have h1 := cell_below hb (Nat.le_refl _) h1
      have h2 := cell_below hb (Nat.le_refl _) h2
      have h3 := cell_below hb (Nat.le_refl _) h3
      have h4 := h4.below hb (Nat.le_refl _)
      have hs := fieldsN_snoc r.fields k hlt
      have hle2 := fieldsN_le r.fields (k + 1)
      have i0 : (0 : Int) ≤ (k : Int) := by omega
      have i1 : (k : Int) < (r.fields.length : Int) := by omega
      obtain ⟨f, hf⟩ : ∃ f, r.fields[k] = f := ⟨_, rfl⟩
      rw [hf] at h0 h1 h2 h4 hs
      obtain ⟨sa, sc, hsv, -⟩ := h4.slice
      subst hsv
      obtain ⟨N, hN⟩ : ∃ N, fieldsN (r.fields.take k) = N := ⟨_, rfl⟩
      have hbd : 24 + 12 * r.fields.length + 1 + 1 + N + sizeF f ≤ 1099511627776 := by have := Hs.out; omega
      rw [hN] at hs ⊢
      have N1 := Lib.hid (fun W (hW : SubsAt W (.slice sa f.subs.length sc) f.subs) => sizeOfField_c (.agg #[str f.tag, str f.ind, str f.data, .slice sa f.subs.length sc]) f W ⟨_, rfl, hW⟩ (by omega))
      obtain ⟨L, hL⟩ : ∃ L, sizeF f = L := ⟨_, rfl⟩
      rw [hL] at hs hbd N1
      have h4' := h4.below (below_new wr (.cells #[str f.tag, str f.ind, str f.data, .slice sa f.subs.length sc] 62)) (Nat.le_refl _)
      have H4 := Lib.hid h4'
      have Hs2 := Lib.hid hs
      have Hb := Lib.hid (hb.alloc hb.size (.cells #[str f.tag, str f.ind, str f.data, .slice sa f.subs.length sc] 62))
      clear hs hle hle2 hN hb hbl hL hf h4 h4'
      go_wp2_with fail
      refine (N1.out _ H4.out).mono ?_
      rintro e w1 ⟨rfl, hb1⟩
      have Hb1 := Lib.hid (Hb.out.trans (hb1.mono Hb.out.size))
      clear hb1
      go_wp2
      go_roundw
      case rel => exact ⟨k + 1, by omega, by go_num, by rw [Hs2.out]; go_num, Hb1.out⟩
      case measure => simp [intOf]; omega
    · have hkl : k = r.fields.length := by omega
      subst hkl
      rw [List.take_length]
      have hd2 : decide (r.fields.length < r.fields.length) = false := by simp
      have Hb := Lib.hid hb
      clear hb
      go_wp2
      go_ret
      exact ⟨by push_cast; rfl, Hb.out⟩
end Go.Proofs.YtpfnmjcomdckgaaDoor

namespace Go.Proofs.YtpfnmjcomdckgaaDoor
open Go.RowKit Go.Shelf
set_option linter.unusedVariables false
set_option linter.unusedSimpArgs false

theorem indB_iff {b : UInt8} : indB b = true ↔ 32 ≤ b.toNat ∧ b.toNat ≤ 126 := by unfold indB; simp
theorem signB_iff {b : UInt8} : signB b = true ↔ 33 ≤ b.toNat ∧ b.toNat ≤ 126 := by unfold signB; simp
set_option maxRecDepth 100000 in
theorem isIndicator_c (b : UInt8) (w : World) :
    Calls Tryd.prog 79 #[.int .u8 (b.toNat : Int)] w fun e w' => e = .returned (.bool (indB b)) ∧ w' = w := by
  by_cases h1 : 32 ≤ b.toNat
  · have j1 : (32 : Int) ≤ (b.toNat : Int) := by omega
    by_cases h2 : b.toNat ≤ 126
    · have j2 : (b.toNat : Int) ≤ 126 := by omega
      rw [indB_iff.2 ⟨h1, h2⟩]
      go_enter Tryd.func79, Tryd.ntmps79
      go_wp2
      go_ret
      exact ⟨rfl, rfl⟩
    · have j2 : ¬ (b.toNat : Int) ≤ 126 := by omega
      rw [show indB b = false by rw [Bool.eq_false_iff, ne_eq, indB_iff]; omega]
      go_enter Tryd.func79, Tryd.ntmps79
      go_wp2
      go_ret
      exact ⟨rfl, rfl⟩
  · have j1 : ¬ (32 : Int) ≤ (b.toNat : Int) := by omega
    rw [show indB b = false by rw [Bool.eq_false_iff, ne_eq, indB_iff]; omega]
    go_enter Tryd.func79, Tryd.ntmps79
    go_wp2
    go_ret
    exact ⟨rfl, rfl⟩
set_option maxRecDepth 100000 in
theorem isSign_c (b : UInt8) (w : World) :
    Calls Tryd.prog 80 #[.int .u8 (b.toNat : Int)] w fun e w' => e = .returned (.bool (signB b)) ∧ w' = w := by
  by_cases h1 : 33 ≤ b.toNat
  · have j1 : (33 : Int) ≤ (b.toNat : Int) := by omega
    by_cases h2 : b.toNat ≤ 126
    · have j2 : (b.toNat : Int) ≤ 126 := by omega
      rw [signB_iff.2 ⟨h1, h2⟩]
      go_enter Tryd.func80, Tryd.ntmps80
      go_wp2
      go_ret
      exact ⟨rfl, rfl⟩
    · have j2 : ¬ (b.toNat : Int) ≤ 126 := by omega
      rw [show signB b = false by rw [Bool.eq_false_iff, ne_eq, signB_iff]; omega]
      go_enter Tryd.func80, Tryd.ntmps80
      go_wp2
      go_ret
      exact ⟨rfl, rfl⟩
  · have j1 : ¬ (33 : Int) ≤ (b.toNat : Int) := by omega
    rw [show signB b = false by rw [Bool.eq_false_iff, ne_eq, signB_iff]; omega]
    go_enter Tryd.func80, Tryd.ntmps80
    go_wp2
    go_ret
    exact ⟨rfl, rfl⟩

def RF (f : FldM) (w : World) (e : Ending) (w' : World) : Prop := e = .returned (.bool (fieldB f)) ∧ Below w.heap.size w w'
set_option maxRecDepth 100000 in
set_option maxHeartbeats 2000000 in
theorem isRightField_ctl (tag ind data : List UInt8) (subs : List SubM) (a : Option Addr) (cap : Nat) (w : World) (hd : data.length ≤ 1099511627776) (hm : subs.length ≤ maxLen) (hc : ctlB tag = true) :
    Calls Tryd.prog 56 #[.agg #[str tag, str ind, str data, .slice a subs.length cap]] w (RF ⟨tag, ind, data, subs⟩ w) := by
  obtain ⟨W3, hW3⟩ : ∃ W3, w.alloc (.cells #[str tag, str ind, str data, .slice a subs.length cap] 62) = W3 := ⟨_, rfl⟩
  have hb3 : Below w.heap.size w W3 := by rw [← hW3]; exact below_new w _
  have hn3 := new_at w (.cells #[str tag, str ind, str data, .slice a subs.length cap] 62)
  rw [hW3] at hn3
  have g0 : W3.cell? ⟨w.heap.size, 0, none⟩ = some (str tag) := by rw [cell_at hn3]; rfl
  have g1 : W3.cell? ⟨w.heap.size, 1, none⟩ = some (str ind) := by rw [cell_at hn3]; rfl
  have g2 : W3.cell? ⟨w.heap.size, 2, none⟩ = some (str data) := by rw [cell_at hn3]; rfl
  have g3 : W3.cell? ⟨w.heap.size, 3, none⟩ = some (.slice a subs.length cap) := by rw [cell_at hn3]; rfl
  have Hb3 := Lib.hid hb3
  have N0 := Lib.hid (isControl_c tag W3)
  rw [hc] at N0
  unfold maxLen at hm
  have hfb : fieldB ⟨tag, ind, data, subs⟩ = (ind.isEmpty && subs.isEmpty && textB data) := by unfold fieldB; rw [if_pos hc]
  unfold RF
  rw [hfb]
  clear hb3 hn3 hfb
  by_cases hi : ind = []
  · subst hi
    by_cases hs : subs = []
    · have hz : ((subs.length : Int) == 0) = true := by rw [hs]; rfl
      have he : subs.isEmpty = true := by rw [hs]; rfl
      rw [he]
      clear hs he
      have N1 := Lib.hid (isText_c data hd W3)
      go_enter Tryd.func56, Tryd.ntmps56
      go_wp2_with fail
      refine N0.out.mono ?_
      rintro e w4 ⟨rfl, rfl⟩
      go_wp2_with fail
      refine N1.out.mono ?_
      rintro e w5 ⟨rfl, hb5⟩
      have Hb5 := Lib.hid (below_tr Hb3.out hb5)
      clear hb5
      go_wp2
      go_ret
      exact ⟨rfl, Hb5.out⟩
    · have hz : ((subs.length : Int) == 0) = false := by rw [beq_eq_false_iff_ne]; have := List.length_pos_iff.2 hs; omega
      have he : subs.isEmpty = false := by simpa using hs
      rw [he]
      clear hs he
      go_enter Tryd.func56, Tryd.ntmps56
      go_wp2_with fail
      refine N0.out.mono ?_
      rintro e w4 ⟨rfl, rfl⟩
      go_wp2
      go_ret
      exact ⟨by simp, Hb3.out⟩
  · have hz : (ind == []) = false := by simpa using hi
    have he : ind.isEmpty = false := by simpa using hi
    rw [he]
    clear hi he
    go_enter Tryd.func56, Tryd.ntmps56
    go_wp2_with fail
    refine N0.out.mono ?_
    rintro e w4 ⟨rfl, rfl⟩
    go_wp2
    go_ret
    exact ⟨by simp, Hb3.out⟩
end Go.Proofs.YtpfnmjcomdckgaaDoor

namespace Go.Proofs.YtpfnmjcomdckgaaDoor
open Go.RowKit Go.Shelf
set_option linter.unusedVariables false
set_option linter.unusedSimpArgs false

set_option maxRecDepth 100000 in
set_option maxHeartbeats 4000000 in
theorem isRightField_var (tag ind data : List UInt8) (subs : List SubM) (sv : Value) (w : World) (hi : ind.length ≤ 1099511627776) (hsz : subsN subs ≤ 1099511627776) (hsub : SubsAt w sv subs) (hc : ctlB tag = false) :
    Calls Tryd.prog 56 #[.agg #[str tag, str ind, str data, sv]] w (RF ⟨tag, ind, data, subs⟩ w) := by
  obtain ⟨a, cap, rfl, hm, hcs⟩ := hsub.slice
  have Hc := Lib.hid hcs
  obtain ⟨W3, hW3⟩ : ∃ W3, w.alloc (.cells #[str tag, str ind, str data, .slice a subs.length cap] 62) = W3 := ⟨_, rfl⟩
  have hb3 : Below w.heap.size w W3 := by rw [← hW3]; exact below_new w _
  have hlt3 : w.heap.size < W3.heap.size := by rw [← hW3]; simp
  have hn3 := new_at w (.cells #[str tag, str ind, str data, .slice a subs.length cap] 62)
  rw [hW3] at hn3
  have g0 : W3.cell? ⟨w.heap.size, 0, none⟩ = some (str tag) := by rw [cell_at hn3]; rfl
  have g1 : W3.cell? ⟨w.heap.size, 1, none⟩ = some (str ind) := by rw [cell_at hn3]; rfl
  have g2 : W3.cell? ⟨w.heap.size, 2, none⟩ = some (str data) := by rw [cell_at hn3]; rfl
  have g3 : W3.cell? ⟨w.heap.size, 3, none⟩ = some (.slice a subs.length cap) := by rw [cell_at hn3]; rfl
  have Hb3 := Lib.hid hb3
  have N0 := Lib.hid (isControl_c tag W3)
  rw [hc] at N0
  unfold maxLen at hm
  have hfb : fieldB ⟨tag, ind, data, subs⟩ = (data.isEmpty && (ind.length == 2) && ind.all indB && subs.all subB && !subs.isEmpty) := by unfold fieldB; rw [if_neg (by rw [hc]; decide)]
  unfold RF
  rw [hfb]
  clear hb3 hn3 hfb hcs hsub
  by_cases hd : data = []
  · subst hd
    by_cases h2 : ind.length = 2
    · obtain ⟨x, y, rfl⟩ : ∃ x y, ind = [x, y] := by
        match ind, h2 with
        | [x, y], _ => exact ⟨x, y, rfl⟩
      have hg0 : ∀ h, (ByteArray.mk [x, y].toArray)[0]'h = x := fun h => rfl
      have hg1 : ∀ h, (ByteArray.mk [x, y].toArray)[1]'h = y := fun h => rfl
      have hz2 : (ByteArray.mk [x, y].toArray).size = 2 := rfl
      clear hi h2
      have N1 := Lib.hid (isIndicator_c x W3)
      cases hx : indB x with
      | false =>
        rw [hx] at N1
        go_enter Tryd.func56, Tryd.ntmps56
        go_wp2_with fail
        refine N0.out.mono ?_
        rintro e w4 ⟨rfl, rfl⟩
        go_wp2_with fail
        refine N1.out.mono ?_
        rintro e w5 ⟨rfl, rfl⟩
        go_wp2
        go_ret
        exact ⟨by simp [hx], Hb3.out⟩
      | true =>
        have N2 := Lib.hid (isIndicator_c y W3)
        rw [hx] at N1
        cases hy : indB y with
        | false =>
          rw [hy] at N2
          go_enter Tryd.func56, Tryd.ntmps56
          go_wp2_with fail
          refine N0.out.mono ?_
          rintro e w4 ⟨rfl, rfl⟩
          go_wp2_with fail
          refine N1.out.mono ?_
          rintro e w5 ⟨rfl, rfl⟩
          go_wp2_with fail
          refine N2.out.mono ?_
          rintro e w6 ⟨rfl, rfl⟩
          go_wp2
          go_ret
          exact ⟨by simp [hy], Hb3.out⟩
        | true =>
          rw [hy] at N2
          have hres : ((([] : List UInt8)).isEmpty && ([x, y].length == 2) && [x, y].all indB && subs.all subB && !subs.isEmpty) = (subs.all subB && !subs.isEmpty) := by simp [hx, hy]
          rw [hres]
          clear hres hx hy
          go_enter Tryd.func56, Tryd.ntmps56
          go_wp2_with fail
          refine N0.out.mono ?_
          rintro e w4 ⟨rfl, rfl⟩
          go_wp2_with fail
          refine N1.out.mono ?_
          rintro e w5 ⟨rfl, rfl⟩
          go_wp2_with fail
          refine N2.out.mono ?_
          rintro e w6 ⟨rfl, rfl⟩
          go_wp2
          clear g0 g1 g2 hg0 hg1 N0 N1 N2 hz2 hW3
          go_loopw [48] (fun i wr => ∃ k : Nat, k ≤ subs.length ∧ i = .int .i64 k ∧ (subs.take k).all subB = true ∧ Below w6.heap.size w6 wr) (fun i _ => subs.length - (intOf i).toNat)
          case atStart => exact ⟨0, Nat.zero_le _, rfl, rfl, Below.refl _ _⟩
          case round =>
            obtain ⟨k, hk, rfl, hall, hb⟩ := hrel
            have hle := subsN_le subs k
            by_cases hlt : k < subs.length
            · obtain ⟨b, off, rfl, hbl, h0, h1⟩ := Hc.out k hlt
              have hbw := Hb3.out.trans (hb.mono Hb3.out.size)
              have h0 := cell_below hbw (Nat.le_refl _) h0
              have h1 := cell_below hbw (Nat.le_refl _) h1
              have hs := subsN_snoc subs k hlt
              have hle2 := subsN_le subs (k + 1)
              have htk := take_snoc subs k hlt
              have hmem : subs[k] ∈ subs := List.getElem_mem hlt
              have i0 : (0 : Int) ≤ (k : Int) := by omega
              have i1 : (k : Int) < (subs.length : Int) := by omega
              obtain ⟨⟨c, t⟩, hct⟩ : ∃ s, subs[k] = s := ⟨_, rfl⟩
              rw [hct] at h0 h1 hs htk hmem
              have hbd : t.length ≤ 1099511627776 := by
                have h5 : subsN (subs.take (k + 1)) = subsN (subs.take k) + (2 + t.length) := hs
                omega
              have hba := hbw.alloc hbw.size (.cells #[.int .u8 (c.toNat : Int), str t] 64)
              have M1 := Lib.hid (isSign_c c (wr.alloc (.cells #[.int .u8 (c.toNat : Int), str t] 64)))
              have hn5 := new_at wr (.cells #[.int .u8 (c.toNat : Int), str t] 64)
              obtain ⟨W5, hW5⟩ : ∃ W5, wr.alloc (.cells #[.int .u8 (c.toNat : Int), str t] 64) = W5 := ⟨_, rfl⟩
              rw [hW5] at hba M1 hn5
              have e0 : W5.cell? ⟨wr.heap.size, 0, none⟩ = some (.int .u8 (c.toNat : Int)) := by rw [cell_at hn5]; rfl
              have e1 : W5.cell? ⟨wr.heap.size, 1, none⟩ = some (str t) := by rw [cell_at hn5]; rfl
              have hb6 : Below w6.heap.size w6 W5 := by rw [← hW5]; exact hb.alloc hb.size _
              have M2 := Lib.hid (isText_c t hbd W5)
              have Hba := Lib.hid hba
              have Hb6 := Lib.hid hb6
              have Htk := Lib.hid htk
              have Hall := Lib.hid hall
              have Hmem := Lib.hid hmem
              clear hs hle hle2 hbl hbw hba hb hn5 hb6 htk hall hmem hct
              cases hsg : signB c with
              | false =>
                rw [hsg] at M1
                have hres : subs.all subB = false := by
                  rw [List.all_eq_false]
                  exact ⟨_, Hmem.out, by unfold subB; simp [hsg]⟩
                have Hres := Lib.hid hres
                clear hres hsg
                go_wp2_with fail
                refine M1.out.mono ?_
                rintro e w7 ⟨rfl, rfl⟩
                go_wp2
                go_ret
                exact ⟨by rw [Hres.out]; rfl, Hba.out⟩
              | true =>
                rw [hsg] at M1
                have Hsg := Lib.hid hsg
                clear hsg
                cases htx : textB t with
                | false =>
                  rw [htx] at M2
                  have hres : subs.all subB = false := by
                    rw [List.all_eq_false]
                    exact ⟨_, Hmem.out, by unfold subB; simp [htx]⟩
                  have Hres := Lib.hid hres
                  clear hres htx
                  go_wp2_with fail
                  refine M1.out.mono ?_
                  rintro e w7 ⟨rfl, rfl⟩
                  go_wp2_with fail
                  refine M2.out.mono ?_
                  rintro e w8 ⟨rfl, hb8⟩
                  have Hb8 := Lib.hid (below_tr Hba.out hb8)
                  clear hb8
                  go_wp2
                  go_ret
                  exact ⟨by rw [Hres.out]; rfl, Hb8.out⟩
                | true =>
                  rw [htx] at M2
                  have Htx := Lib.hid htx
                  clear htx
                  go_wp2_with fail
                  refine M1.out.mono ?_
                  rintro e w7 ⟨rfl, rfl⟩
                  go_wp2_with fail
                  refine M2.out.mono ?_
                  rintro e w8 ⟨rfl, hb8⟩
                  have Hb8 := Lib.hid (below_tr Hb6.out hb8)
                  clear hb8
                  go_wp2
                  go_roundw
                  case rel => exact ⟨k + 1, by omega, by go_num, by rw [Htk.out, List.all_append, Hall.out]; simp [subB, Hsg.out, Htx.out], Hb8.out⟩
                  case measure => simp [intOf]; omega
            · have hkl : k = subs.length := by omega
              subst hkl
              rw [List.take_length] at hall
              have hd2 : decide (subs.length < subs.length) = false := by simp
              have hg3 := cell_below hb (Nat.le_refl _) g3
              have hbw := Lib.hid (Hb3.out.trans (hb.mono Hb3.out.size))
              have hp : (!subs.isEmpty) = decide (0 < subs.length) := by
                cases subs with
                | nil => rfl
                | cons s t => simp
              have Hall := Lib.hid hall
              have Hp := Lib.hid hp
              clear hp hall hb
              go_wp2
              go_ret
              exact ⟨by rw [Hall.out, Hp.out]; rfl, hbw.out⟩
    · have hz : ((ind.length : Int) == 2) = false := by rw [beq_eq_false_iff_ne]; omega
      have hz' : ¬ ((ind.length : Int) = 2) := by omega
      have he : (ind.length == 2) = false := by simpa using h2
      have hz2 := size_str ind
      rw [he]
      clear h2 he
      go_enter Tryd.func56, Tryd.ntmps56
      go_wp2_with fail
      refine N0.out.mono ?_
      rintro e w4 ⟨rfl, rfl⟩
      go_wp2
      go_ret
      exact ⟨by simp, Hb3.out⟩
  · have hz : (data == []) = false := by simpa using hd
    have he : data.isEmpty = false := by simpa using hd
    rw [he]
    clear hd he
    go_enter Tryd.func56, Tryd.ntmps56
    go_wp2_with fail
    refine N0.out.mono ?_
    rintro e w4 ⟨rfl, rfl⟩
    go_wp2
    go_ret
    exact ⟨by simp, Hb3.out⟩
end Go.Proofs.YtpfnmjcomdckgaaDoor

namespace Go.Proofs.YtpfnmjcomdckgaaDoor
open Go.RowKit Go.Shelf
set_option linter.unusedVariables false
set_option linter.unusedSimpArgs false

theorem isRightField_c (v : Value) (f : FldM) (w : World) (hv : FldV w v f) (hs : sizeF f ≤ 1099511627776) :
    Calls Tryd.prog 56 #[v] w (RF f w) := by
  obtain ⟨sv, rfl, hsub⟩ := hv
  obtain ⟨tag, ind, data, subs⟩ := f
  unfold sizeF at hs
  simp only at hs hsub
  cases hc : ctlB tag with
  | true =>
    obtain ⟨a, cap, rfl, hm, -⟩ := hsub.slice
    exact isRightField_ctl tag ind data subs a cap w (by omega) hm hc
  | false => exact isRightField_var tag ind data subs sv w (by omega) (by omega) hsub hc
theorem lowB_iff {b : UInt8} : lowB b = true ↔ 97 ≤ b.toNat ∧ b.toNat ≤ 122 := by unfold lowB; simp
set_option maxRecDepth 100000 in
theorem isLetter_c (b : UInt8) (w : World) :
    Calls Tryd.prog 54 #[.int .u8 (b.toNat : Int)] w fun e w' => e = .returned (.bool (lowB b)) ∧ w' = w := by
  by_cases h1 : 97 ≤ b.toNat
  · have j1 : (97 : Int) ≤ (b.toNat : Int) := by omega
    by_cases h2 : b.toNat ≤ 122
    · have j2 : (b.toNat : Int) ≤ 122 := by omega
      rw [lowB_iff.2 ⟨h1, h2⟩]
      go_enter Tryd.func54, Tryd.ntmps54
      go_wp2
      go_ret
      exact ⟨rfl, rfl⟩
    · have j2 : ¬ (b.toNat : Int) ≤ 122 := by omega
      rw [show lowB b = false by rw [Bool.eq_false_iff, ne_eq, lowB_iff]; omega]
      go_enter Tryd.func54, Tryd.ntmps54
      go_wp2
      go_ret
      exact ⟨rfl, rfl⟩
  · have j1 : ¬ (97 : Int) ≤ (b.toNat : Int) := by omega
    rw [show lowB b = false by rw [Bool.eq_false_iff, ne_eq, lowB_iff]; omega]
    go_enter Tryd.func54, Tryd.ntmps54
    go_wp2
    go_ret
    exact ⟨rfl, rfl⟩
theorem largeB_snoc (l : List FldM) (f : FldM) : largeB (l ++ [f]) = (largeB l || decide (9999 < sizeF f)) := by simp [largeB]
theorem firstBad_tag {f : FldM} {l : List FldM} (h : tagB f.tag = false) : firstBad (f :: l) = 13 := by simp [firstBad, h]
theorem firstBad_field {f : FldM} {l : List FldM} (h : tagB f.tag = true) (k : fieldB f = false) : firstBad (f :: l) = 14 := by simp [firstBad, h, k]
theorem firstBad_go {f : FldM} {l : List FldM} (h : tagB f.tag = true) (k : fieldB f = true) : firstBad (f :: l) = firstBad l := by simp [firstBad, h, k]
def CheckPost (r : RecM) (w : World) (e : Ending) (w' : World) : Prop := e = .returned (.int .i64 (checkM r : Nat)) ∧ Below w.heap.size w w'
set_option maxRecDepth 100000 in
set_option maxHeartbeats 4000000 in
theorem check_c (v : Value) (r : RecM) (w : World) (hv : RecV w v r) (hs : sizeR r ≤ 1099511627776) (ht : ∀ f ∈ r.fields, f.tag.length ≤ 1099511627776) :
    Calls Tryd.prog 36 #[v] w (CheckPost r w) := by
  obtain ⟨fv, rfl, hf⟩ := hv
  obtain ⟨a, cap, rfl, hm, hc⟩ := hf.slice
  have Hc := Lib.hid hc
  have Hfa := Lib.hid hf
  unfold maxLen at hm
  clear hf hc
  obtain ⟨W3, hW3⟩ : ∃ W3, w.alloc (.cells #[.int .u8 (r.kind.toNat : Int), .int .u8 (r.level.toNat : Int), .slice a r.fields.length cap] 27) = W3 := ⟨_, rfl⟩
  have hb3 : Below w.heap.size w W3 := by rw [← hW3]; exact below_new w _
  have hlt3 : w.heap.size < W3.heap.size := by rw [← hW3]; simp
  have hn3 := new_at w (.cells #[.int .u8 (r.kind.toNat : Int), .int .u8 (r.level.toNat : Int), .slice a r.fields.length cap] 27)
  rw [hW3] at hn3
  have g0 : W3.cell? ⟨w.heap.size, 0, none⟩ = some (.int .u8 (r.kind.toNat : Int)) := by rw [cell_at hn3]; rfl
  have g1 : W3.cell? ⟨w.heap.size, 1, none⟩ = some (.int .u8 (r.level.toNat : Int)) := by rw [cell_at hn3]; rfl
  have g2 : W3.cell? ⟨w.heap.size, 2, none⟩ = some (.slice a r.fields.length cap) := by rw [cell_at hn3]; rfl
  have Hb3 := Lib.hid hb3
  have Hs := Lib.hid hs
  have Ht := Lib.hid ht
  have N1 := Lib.hid (isLetter_c r.kind W3)
  have N2 := Lib.hid (isLetter_c r.level W3)
  have hsz : r.fields.length ≤ 1099511627776 := by unfold sizeR sizeH at hs; omega
  unfold CheckPost
  clear hb3 hs hn3 ht
  cases hk : lowB r.kind with
  | false =>
    have hr : checkM r = 12 := by unfold checkM; simp [hk]
    rw [hr]
    rw [hk] at N1
    clear hk hr
    go_enter Tryd.func36, Tryd.ntmps36
    go_wp2_with fail
    refine N1.out.mono ?_
    rintro e w4 ⟨rfl, rfl⟩
    go_wp2
    go_ret
    exact ⟨rfl, Hb3.out⟩
  | true =>
    rw [hk] at N1
    cases hl : lowB r.level with
    | false =>
      have hr : checkM r = 12 := by unfold checkM; simp [hl]
      rw [hr]
      rw [hl] at N2
      clear hk hr hl
      go_enter Tryd.func36, Tryd.ntmps36
      go_wp2_with fail
      refine N1.out.mono ?_
      rintro e w4 ⟨rfl, rfl⟩
      go_wp2_with fail
      refine N2.out.mono ?_
      rintro e w5 ⟨rfl, rfl⟩
      go_wp2
      go_ret
      exact ⟨rfl, Hb3.out⟩
    | true =>
      have hr : checkM r = (if firstBad r.fields = 0 then (if decide (999 < r.fields.length) || largeB r.fields || decide (99999 < sizeR r) then 2 else 0) else firstBad r.fields) := by unfold checkM; rw [if_pos (by rw [hk, hl]; rfl)]
      rw [hl] at N2
      have Hr := Lib.hid hr
      clear hr hk hl
      go_enter Tryd.func36, Tryd.ntmps36
      go_wp2_with fail
      refine N1.out.mono ?_
      rintro e w4 ⟨rfl, rfl⟩
      go_wp2_with fail
      refine N2.out.mono ?_
      rintro e w5 ⟨rfl, rfl⟩
      go_wp2
      clear hW3 N1 N2
      go_loopw [3, 23] (fun n i wr => ∃ k : Nat, k ≤ r.fields.length ∧ i = .int .i64 k ∧ n = .bool (decide ((999 : Int) < (r.fields.length : Int)) || largeB (r.fields.take k)) ∧ firstBad r.fields = firstBad (r.fields.drop k) ∧ Below w5.heap.size w5 wr) (fun _ i _ => r.fields.length - (intOf i).toNat)
      case atStart => exact ⟨0, Nat.zero_le _, rfl, by simp [largeB], by simp, Below.refl _ _⟩
      case round =>
        obtain ⟨k, hk, rfl, rfl, hfb, hb⟩ := hrel
        have hbw := Hb3.out.trans (hb.mono Hb3.out.size)
        obtain ⟨L, hL⟩ : ∃ L, (decide ((999 : Int) < (r.fields.length : Int)) || largeB (r.fields.take k)) = L := ⟨_, rfl⟩
        rw [hL]
        by_cases hlt : k < r.fields.length
        · obtain ⟨b, off, rfl, hbl, h0, h1, h2, sv, h3, h4⟩ := Hc.out k hlt
          have h0 := cell_below hbw (Nat.le_refl _) h0
          have h1 := cell_below hbw (Nat.le_refl _) h1
          have h2 := cell_below hbw (Nat.le_refl _) h2
          have h3 := cell_below hbw (Nat.le_refl _) h3
          have h4 := h4.below hbw (Nat.le_refl _)
          have hle := sizeF_le r.fields k hlt
          have hdr := List.drop_eq_getElem_cons hlt
          have htk := take_snoc r.fields k hlt
          have htg := Ht.out r.fields[k] (List.getElem_mem hlt)
          have i0 : (0 : Int) ≤ (k : Int) := by omega
          have i1 : (k : Int) < (r.fields.length : Int) := by omega
          obtain ⟨f, hf⟩ : ∃ f, r.fields[k] = f := ⟨_, rfl⟩
          rw [hf] at h0 h1 h2 h4 hle hdr htk htg
          have hsf : sizeF f ≤ 1099511627776 := by have := Hs.out; unfold sizeR at this; omega
          obtain ⟨sa, sc, hsv, -⟩ := h4.slice
          subst hsv
          obtain ⟨W5, hW5⟩ : ∃ W5, wr.alloc (.cells #[str f.tag, str f.ind, str f.data, .slice sa f.subs.length sc] 62) = W5 := ⟨_, rfl⟩
          have hn5 := new_at wr (.cells #[str f.tag, str f.ind, str f.data, .slice sa f.subs.length sc] 62)
          have hb6 : Below w5.heap.size w5 W5 := by rw [← hW5]; exact hb.alloc hb.size _
          have h45 : SubsAt W5 (.slice sa f.subs.length sc) f.subs := by rw [← hW5]; exact h4.below (below_new wr _) (Nat.le_refl _)
          have hlt5 : wr.heap.size < W5.heap.size := by rw [← hW5]; simp
          rw [hW5] at hn5
          have c0 : W5.cell? ⟨wr.heap.size, 0, none⟩ = some (str f.tag) := by rw [cell_at hn5]; rfl
          have hbt := Lib.hid (Hb3.out.trans (hb6.mono Hb3.out.size))
          have M1 := Lib.hid (isTag_c f.tag (by omega) W5)
          have M2 := Lib.hid (isRightField_c (.agg #[str f.tag, str f.ind, str f.data, .slice sa f.subs.length sc]) f W5 ⟨_, rfl, h45⟩ hsf)
          have M3 := Lib.hid (fun W (hW : SubsAt W (.slice sa f.subs.length sc) f.subs) => sizeOfField_c (.agg #[str f.tag, str f.ind, str f.data, .slice sa f.subs.length sc]) f W ⟨_, rfl, hW⟩ hsf)
          have H45 := Lib.hid h45
          have Hb6 := Lib.hid hb6
          have Hdr := Lib.hid hdr
          have Htk := Lib.hid htk
          have Hfb := Lib.hid hfb
          have HL := Lib.hid hL
          have c1 : W5.cell? ⟨wr.heap.size, 1, none⟩ = some (str f.ind) := by rw [cell_at hn5]; rfl
          have c2 : W5.cell? ⟨wr.heap.size, 2, none⟩ = some (str f.data) := by rw [cell_at hn5]; rfl
          have c3 : W5.cell? ⟨wr.heap.size, 3, none⟩ = some (.slice sa f.subs.length sc) := by rw [cell_at hn5]; rfl
          clear hbl hbw hb hf h4 hn5 h45 hb6 hdr htk hfb hL hle htg
          cases htag : tagB f.tag with
          | false =>
            rw [htag] at M1
            have hres : checkM r = 13 := by rw [Hr.out, Hfb.out, Hdr.out, firstBad_tag htag]; rfl
            have Hres := Lib.hid hres
            clear htag hres
            go_wp2_with fail
            refine M1.out.mono ?_
            rintro e w7 ⟨rfl, rfl⟩
            go_wp2
            go_ret
            exact ⟨by rw [Hres.out]; rfl, hbt.out⟩
          | true =>
            rw [htag] at M1
            cases hfd : fieldB f with
            | false =>
              have M2' := M2.out
              unfold RF at M2'
              rw [hfd] at M2'
              have M2 := Lib.hid M2'
              have hres : checkM r = 14 := by rw [Hr.out, Hfb.out, Hdr.out, firstBad_field htag hfd]; rfl
              have Hres := Lib.hid hres
              clear htag hres hfd M2'
              go_wp2_with fail
              refine M1.out.mono ?_
              rintro e w7 ⟨rfl, rfl⟩
              go_wp2_with fail
              refine M2.out.mono ?_
              rintro e w8 ⟨rfl, hb8⟩
              have Hb8 := Lib.hid (below_tr hbt.out hb8)
              clear hb8
              go_wp2
              go_ret
              exact ⟨by rw [Hres.out]; rfl, Hb8.out⟩
            | true =>
              have M2' := M2.out
              unfold RF at M2'
              rw [hfd] at M2'
              have M2 := Lib.hid M2'
              have hfb2 := firstBad_go (l := r.fields.drop (k + 1)) htag hfd
              rw [← Hdr.out, ← Hfb.out] at hfb2
              have Hfb2 := Lib.hid hfb2
              clear htag hfd M2' hfb2
              cases L with
              | true =>
                go_wp2_with fail
                refine M1.out.mono ?_
                rintro e w7 ⟨rfl, rfl⟩
                go_wp2_with fail
                refine M2.out.mono ?_
                rintro e w8 ⟨rfl, hb8⟩
                have Hb8 := Lib.hid (below_tr Hb6.out hb8)
                clear hb8
                go_wp2
                go_roundw
                case rel => exact ⟨k + 1, by omega, by go_num, by rw [Htk.out, largeB_snoc, ← Bool.or_assoc, HL.out]; rfl, Hfb2.out, Hb8.out⟩
                case measure => simp [intOf]; omega
              | false =>
                go_wp2_with fail
                refine M1.out.mono ?_
                rintro e w7 ⟨rfl, rfl⟩
                go_wp2_with fail
                refine M2.out.mono ?_
                rintro e w8 ⟨rfl, hb8⟩
                have c0 := cell_below hb8 (Nat.le_refl _) c0
                have c1 := cell_below hb8 (Nat.le_refl _) c1
                have c2 := cell_below hb8 (Nat.le_refl _) c2
                have c3 := cell_below hb8 (Nat.le_refl _) c3
                have H8 := Lib.hid (H45.out.below hb8 (Nat.le_refl _))
                have Hb8 := Lib.hid (below_tr Hb6.out hb8)
                clear hb8
                go_wp2_with fail
                refine (M3.out _ H8.out).mono ?_
                rintro e w9 ⟨rfl, hb9⟩
                have Hb9 := Lib.hid (below_tr Hb8.out hb9)
                clear hb9
                go_wp2
                go_roundw
                case rel => exact ⟨k + 1, by omega, by go_num, by rw [Htk.out, largeB_snoc, ← Bool.or_assoc, HL.out]; simp; omega, Hfb2.out, Hb9.out⟩
                case measure => simp [intOf]; omega
        · have hkl : k = r.fields.length := by omega
          subst hkl
          have hd2 : decide (r.fields.length < r.fields.length) = false := by simp
          rw [List.drop_length] at hfb
          rw [List.take_length] at hL
          have e0 := cell_below hb (Nat.le_refl _) g0
          have e1 := cell_below hb (Nat.le_refl _) g1
          have e2 := cell_below hb (Nat.le_refl _) g2
          have hres : checkM r = (if L || decide (99999 < sizeR r) then 2 else 0) := by
            rw [Hr.out, if_pos (by rw [hfb]; rfl), ← hL]
            have : decide (999 < r.fields.length) = decide ((999 : Int) < (r.fields.length : Int)) := by
              rw [decide_eq_decide]; omega
            rw [this]
          have M4 := Lib.hid (sizeOfRecord_c (.agg #[.int .u8 (r.kind.toNat : Int), .int .u8 (r.level.toNat : Int), .slice a r.fields.length cap]) r wr ⟨_, rfl, Hfa.out.below hbw (Nat.le_refl _)⟩ Hs.out)
          have Hres := Lib.hid hres
          have Hbw := Lib.hid hbw
          clear hfb hL hres hbw hb
          cases L with
          | true =>
            go_wp2
            go_ret
            exact ⟨by rw [Hres.out]; rfl, Hbw.out⟩
          | false =>
            by_cases hbig : 99999 < sizeR r
            · have hbi : (99999 : Int) < (sizeR r : Int) := by omega
              have Hres := Lib.hid (Hres.out.trans (by rw [decide_eq_true hbig, Bool.or_true]))
              clear hbig
              go_wp2_with fail
              refine M4.out.mono ?_
              rintro e w9 ⟨rfl, hb9⟩
              have Hb9 := Lib.hid (below_tr Hbw.out hb9)
              clear hb9
              go_wp2
              go_ret
              exact ⟨by rw [Hres.out]; rfl, Hb9.out⟩
            · have hbi : ¬ (99999 : Int) < (sizeR r : Int) := by omega
              have Hres := Lib.hid (Hres.out.trans (by rw [decide_eq_false hbig, Bool.or_false]))
              clear hbig
              go_wp2_with fail
              refine M4.out.mono ?_
              rintro e w9 ⟨rfl, hb9⟩
              have Hb9 := Lib.hid (below_tr Hbw.out hb9)
              clear hb9
              go_wp2
              go_ret
              exact ⟨by rw [Hres.out]; rfl, Hb9.out⟩
theorem check_le (r : RecM) : checkM r ≤ 14 := by
  have h : ∀ l : List FldM, firstBad l ≤ 14 := by
    intro l
    induction l with
    | nil => exact Nat.zero_le _
    | cons f t ih =>
      unfold firstBad
      split
      · split
        · exact ih
        · omega
      · omega
  unfold checkM
  split
  · split
    · split <;> omega
    · exact h _
  · omega
set_option maxRecDepth 100000 in
theorem right_c (v : Value) (r : RecM) (w : World) (hv : RecV w v r) (hs : sizeR r ≤ 1099511627776) (ht : ∀ f ∈ r.fields, f.tag.length ≤ 1099511627776) :
    Calls Tryd.prog 18 #[v] w fun e w' => e = .returned (.bool (checkM r == 0)) ∧ Below w.heap.size w w' := by
  obtain ⟨fv, rfl, hf⟩ := hv
  obtain ⟨a, cap, rfl, hm, -⟩ := hf.slice
  have N := check_c (.agg #[.int .u8 (r.kind.toNat : Int), .int .u8 (r.level.toNat : Int), .slice a r.fields.length cap]) r (w.alloc (.cells #[.int .u8 (r.kind.toNat : Int), .int .u8 (r.level.toNat : Int), .slice a r.fields.length cap] 27)) ⟨_, rfl, hf.below (below_new w _) (Nat.le_refl _)⟩ hs ht
  unfold CheckPost at N
  have hb : (checkM r == 0) = ((checkM r : Int) == 0) := by rw [Bool.eq_iff_iff]; simp only [beq_iff_eq]; omega
  rw [hb]
  obtain ⟨n, hn⟩ : ∃ n, checkM r = n := ⟨_, rfl⟩
  rw [hn] at N ⊢
  have N := Lib.hid N
  clear hb hn
  go_enter Tryd.func18, Tryd.ntmps18
  go_wp2_with fail
  refine N.out.mono ?_
  rintro e w1 ⟨rfl, hb1⟩
  have Hb1 := Lib.hid (below_tr (below_new w _) hb1)
  clear hb1
  go_wp2
  go_ret
  exact ⟨rfl, Hb1.out⟩
end Go.Proofs.YtpfnmjcomdckgaaDoor
