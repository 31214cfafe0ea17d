/-
  marc.sizeOfRecord and isRightField.
-/
import Derived.Test.YtpfnmjcomdckgaaDoorRSize
namespace Go.Proofs.YtpfnmjcomdckgaaDoor
open Go.RowKit Go.Shelf
set_option linter.unusedVariables false
set_option linter.unusedSimpArgs false

set_option maxRecDepth 100000 in
theorem sizeOfHead_c (n : Nat) (h : n ≤ 1099511627776) (w : World) :
    Calls Tryd.prog 60 #[.int .i64 n] w fun e w' => e = .returned (.int .i64 (24 + 12 * (n : Int) + 1)) ∧ w' = w := by
  go_enter Tryd.func60, Tryd.ntmps60
  go_wp2
  go_ret
  exact ⟨rfl, rfl⟩
set_option maxRecDepth 100000 in
set_option maxHeartbeats 1000000 in
theorem sizeOfRecord_c (v : Value) (r : RecM) (w : World) (hv : RecV w v r) (hs : sizeR r ≤ 1099511627776) :
    Calls Tryd.prog 38 #[v] w fun e w' => e = .returned (.int .i64 (sizeR r)) ∧ Below w.heap.size w w' := by
  obtain ⟨fv, rfl, hf⟩ := hv
  obtain ⟨a, cap, rfl, hm, hc⟩ := hf.slice
  have Hc := Lib.hid hc
  unfold maxLen at hm
  unfold sizeR sizeH at hs ⊢
  clear hf hc
  obtain ⟨W3, hW3⟩ : ∃ W3, w.alloc (.cells #[.int .u8 (r.kind.toNat : Int), .int .u8 (r.level.toNat : Int), .slice a r.fields.length cap] 27) = W3 := ⟨_, rfl⟩
  have hb3 : Below w.heap.size w W3 := by rw [← hW3]; exact below_new w _
  have hn3 := new_at w (.cells #[.int .u8 (r.kind.toNat : Int), .int .u8 (r.level.toNat : Int), .slice a r.fields.length cap] 27)
  rw [hW3] at hn3
  have g2 : W3.cell? ⟨w.heap.size, 2, none⟩ = some (.slice a r.fields.length cap) := by rw [cell_at hn3]; rfl
  have Hb3 := Lib.hid hb3
  have hd : r.fields.length ≤ 1099511627776 := by omega
  have Hs := Lib.hid hs
  clear hb3 hs
  go_enter Tryd.func38, Tryd.ntmps38
  go_wp2_with fail
  refine (sizeOfHead_c _ hd _).mono ?_
  rintro e w4 ⟨rfl, rfl⟩
  go_wp2
  clear hW3 g2 hn3
  go_loopw [3, 14] (fun n i wr => ∃ k : Nat, k ≤ r.fields.length ∧ i = .int .i64 k ∧ n = .int .i64 (24 + 12 * (r.fields.length : Int) + 1 + 1 + (fieldsN (r.fields.take k) : Int)) ∧ Below w.heap.size w wr) (fun _ i _ => r.fields.length - (intOf i).toNat)
  case atStart => exact ⟨0, Nat.zero_le _, rfl, by simp [fieldsN], Hb3.out⟩
  case round =>
    obtain ⟨k, hk, rfl, rfl, hb⟩ := hrel
    have hle := fieldsN_le r.fields k
    by_cases hlt : k < r.fields.length
    · obtain ⟨b, off, rfl, hbl, h0, h1, h2, sv, h3, h4⟩ := Hc.out k hlt
      have h0 := cell_below hb (Nat.le_refl _) h0
      have h1 := cell_below hb (Nat.le_refl _) h1
      have h2 := cell_below hb (Nat.le_refl _) h2
      have h3 := cell_below hb (Nat.le_refl _) h3
      have h4 := h4.below hb (Nat.le_refl _)
      have hs := fieldsN_snoc r.fields k hlt
      have hle2 := fieldsN_le r.fields (k + 1)
      have i0 : (0 : Int) ≤ (k : Int) := by omega
      have i1 : (k : Int) < (r.fields.length : Int) := by omega
      obtain ⟨f, hf⟩ : ∃ f, r.fields[k] = f := ⟨_, rfl⟩
      rw [hf] at h0 h1 h2 h4 hs
      obtain ⟨sa, sc, hsv, -⟩ := h4.slice
      subst hsv
      obtain ⟨N, hN⟩ : ∃ N, fieldsN (r.fields.take k) = N := ⟨_, rfl⟩
      have hbd : 24 + 12 * r.fields.length + 1 + 1 + N + sizeF f ≤ 1099511627776 := by have := Hs.out; omega
      rw [hN] at hs ⊢
      have N1 := Lib.hid (fun W (hW : SubsAt W (.slice sa f.subs.length sc) f.subs) => sizeOfField_c (.agg #[str f.tag, str f.ind, str f.data, .slice sa f.subs.length sc]) f W ⟨_, rfl, hW⟩ (by omega))
      obtain ⟨L, hL⟩ : ∃ L, sizeF f = L := ⟨_, rfl⟩
      rw [hL] at hs hbd N1
      have h4' := h4.below (below_new wr (.cells #[str f.tag, str f.ind, str f.data, .slice sa f.subs.length sc] 62)) (Nat.le_refl _)
      have H4 := Lib.hid h4'
      have Hs2 := Lib.hid hs
      have Hb := Lib.hid (hb.alloc hb.size (.cells #[str f.tag, str f.ind, str f.data, .slice sa f.subs.length sc] 62))
      clear hs hle hle2 hN hb hbl hL hf h4 h4'
      go_wp2_with fail
      refine (N1.out _ H4.out).mono ?_
      rintro e w1 ⟨rfl, hb1⟩
      have Hb1 := Lib.hid (Hb.out.trans (hb1.mono Hb.out.size))
      clear hb1
      go_wp2
      go_roundw
      case rel => exact ⟨k + 1, by omega, by go_num, by rw [Hs2.out]; go_num, Hb1.out⟩
      case measure => simp [intOf]; omega
    · have hkl : k = r.fields.length := by omega
      subst hkl
      rw [List.take_length]
      have hd2 : decide (r.fields.length < r.fields.length) = false := by simp
      have Hb := Lib.hid hb
      clear hb
      go_wp2
      go_ret
      exact ⟨by push_cast; rfl, Hb.out⟩
end Go.Proofs.YtpfnmjcomdckgaaDoor
