/-
  marc.writeField.
-/
import Derived.Test.YtpfnmjcomdckgaaDoorRDigits
namespace Go.Proofs.YtpfnmjcomdckgaaDoor
open Go.RowKit Go.Shelf
set_option linter.unusedVariables false
set_option linter.unusedSimpArgs false

theorem Bld.lt {B b : Nat} {l : List UInt8} {w : World} (h : Bld B b l w) : b < w.heap.size := by
  rcases h.1 with ⟨_, v, hb, _⟩ | ⟨_, v, hb, _⟩ <;> exact lt_at hb
theorem Bld.alloc {B b : Nat} {l : List UInt8} {w : World} (h : Bld B b l w) (o : Obj) : Bld B b l (w.alloc o) := ⟨h.1.alloc o, by simp; exact Nat.le_succ_of_le h.2⟩
theorem okept {b g : Nat} {W W' : World} {cs : Array Value} {T : TypeId} (h : Lib.OthersKept TY (some b) W W') (hn : W.heap[g]? = some (.cells cs T (0, 0))) (hT : T ≠ TY) (hg : g ≠ b) : W'.heap[g]? = some (.cells cs T (0, 0)) :=
  h g _ hn (fun e => hg (Option.some.inj e)) (fun c fz e => hT (by cases e; rfl))
theorem kept_new (b : Nat) (w : World) (o : Obj) : Lib.OthersKept TY (some b) w (w.alloc o) := (Lib.OthersKept.refl TY (some b) w).alloc o
set_option maxRecDepth 100000 in
set_option maxHeartbeats 4000000 in
/-- B: what lies below it is as it was: the field and its subfields lie there, the builder at b does not. -/
theorem writeField_c (B b : Nat) (sv : Value) (f : FldM) (l : List UInt8) (w0 w : World) (hsub : SubsAt w0 sv f.subs) (hw0 : w0.heap.size ≤ B) (hb0 : Below w0.heap.size w0 w)
    (hbld : Bld B b l w) (hlen : l.length + sizeF f + 10 ≤ 140737488355328) :
    Calls Tryd.prog 41 #[.pointer (some ⟨b, 0, none⟩), .agg #[str f.tag, str f.ind, str f.data, sv]] w (WPost B b (l ++ bytesF f) w) := by
  obtain ⟨a, cap, rfl, hm, hc⟩ := hsub.slice
  have Hc := Lib.hid hc
  unfold maxLen at hm
  unfold sizeF at hlen
  have hblt := hbld.lt
  have hBw := hbld.2
  clear hc hsub
  obtain ⟨W3, hW3⟩ : ∃ W3, w.alloc (.cells #[str f.tag, str f.ind, str f.data, .slice a f.subs.length cap] 62) = W3 := ⟨_, rfl⟩
  have hb3 : Below w.heap.size w W3 := by rw [← hW3]; exact below_new w _
  have hk3 : Lib.OthersKept TY (some b) w W3 := by rw [← hW3]; exact kept_new b w _
  have hn3 := new_at w (.cells #[str f.tag, str f.ind, str f.data, .slice a f.subs.length cap] 62)
  have hbl3 : Bld B b l W3 := by rw [← hW3]; exact hbld.alloc _
  rw [hW3] at hn3
  have g1 : W3.cell? ⟨w.heap.size, 1, none⟩ = some (str f.ind) := by rw [cell_at hn3]; rfl
  have g2 : W3.cell? ⟨w.heap.size, 2, none⟩ = some (str f.data) := by rw [cell_at hn3]; rfl
  have hgb : w.heap.size ≠ b := by omega
  have h03 : Below w0.heap.size w0 W3 := hb0.trans (hb3.mono hb0.size)
  have N1 := Lib.hid (bldStr B b l f.data W3 hbl3 (by omega))
  have N2 := Lib.hid (fun W h => bldStr B b (l ++ f.data) f.ind W h (by rw [List.length_append]; omega))
  have N5 := Lib.hid (fun W h => bldByte B b (l ++ f.data ++ f.ind ++ subsL f.subs) 30 30 rfl W h (by have := bytesF_len f; unfold bytesF at this; simp only [List.length_append, List.length_cons, List.length_nil] at this ⊢; unfold sizeF at this; omega))
  have H03 := Lib.hid h03
  have Hn3 := Lib.hid hn3
  have HB3 := Lib.hid ((Below.refl B w).alloc hBw (.cells #[str f.tag, str f.ind, str f.data, .slice a f.subs.length cap] 62))
  rw [hW3] at HB3
  have Hk3 := Lib.hid hk3
  have Hlen := Lib.hid hlen
  clear hb3 hn3 hbl3 hbld hb0 h03 hk3 hlen hblt hBw
  unfold WPost
  go_enter Tryd.func41, Tryd.ntmps41
  go_wp2_with fail
  refine N1.out.mono ?_
  clear N1 g1 g2 hW3
  rintro e w4 ⟨rfl, hl4, hb4, hk4⟩
  have hn4 := okept hk4 Hn3.out (by decide) hgb
  have g1 : w4.cell? ⟨w.heap.size, 1, none⟩ = some (str f.ind) := by rw [cell_at hn4]; rfl
  have H04 := Lib.hid (H03.out.trans (hb4.mono hw0))
  have HB4 := Lib.hid (HB3.out.trans hb4)
  have Hk4 := Lib.hid (Hk3.out.trans hk4)
  have N2 := Lib.hid (N2.out w4 hl4)
  have Hn4 := Lib.hid hn4
  clear hn4 hb4 hk4 hl4 H03 HB3 Hk3 Hn3
  go_wp2_with fail
  refine N2.out.mono ?_
  clear N2 g1
  rintro e w5 ⟨rfl, hl5, hb5, hk5⟩
  have hn5 := okept hk5 Hn4.out (by decide) hgb
  have g3 : w5.cell? ⟨w.heap.size, 3, none⟩ = some (.slice a f.subs.length cap) := by rw [cell_at hn5]; rfl
  have H05 := Lib.hid (H04.out.trans (hb5.mono hw0))
  have HB5 := Lib.hid (HB4.out.trans hb5)
  have Hk5 := Lib.hid (Hk4.out.trans hk5)
  have Hl5 := Lib.hid hl5
  clear hn5 hb5 hk5 hl5 H04 HB4 Hk4 Hn4
  go_wp2
  clear g3
  have hP : l.length + f.data.length + f.ind.length = (l ++ f.data ++ f.ind).length := by simp; omega
  obtain ⟨P, hPP⟩ : ∃ P, l ++ f.data ++ f.ind = P := ⟨_, rfl⟩
  have hfin : l ++ bytesF f = P ++ subsL f.subs ++ [30] := by rw [← hPP]; unfold bytesF; simp
  rw [hPP] at Hl5 N5 hP
  have Hfin := Lib.hid hfin
  clear hPP hfin
  go_loopw [17] (fun i wr => ∃ k : Nat, k ≤ f.subs.length ∧ i = .int .i64 k ∧ Bld B b (P ++ subsL (f.subs.take k)) wr ∧ Below w0.heap.size w0 wr ∧ Below B w wr ∧ Lib.OthersKept TY (some b) w wr) (fun i _ => f.subs.length - (intOf i).toNat)
  case atStart => exact ⟨0, Nat.zero_le _, rfl, by simpa [subsL] using Hl5.out, H05.out, HB5.out, Hk5.out⟩
  case round =>
    obtain ⟨k, hk, rfl, hbl, h0w, hBw, hkw⟩ := hrel
    clear Hl5 H05 HB5 Hk5
    by_cases hlt : k < f.subs.length
    · obtain ⟨b2, off, rfl, hb2, c0, c1⟩ := Hc.out k hlt
      have c0 := cell_below h0w (Nat.le_refl _) c0
      have c1 := cell_below h0w (Nat.le_refl _) c1
      have hs := subsL_snoc f.subs k hlt
      have hsl := subsN_snoc f.subs k hlt
      have hle := subsN_le f.subs (k + 1)
      have hsn : (subsL (f.subs.take k)).length = subsN (f.subs.take k) := by
        have : ∀ l : List SubM, (subsL l).length = subsN l := by
          intro l
          induction l with
          | nil => rfl
          | cons s r ih => simp only [subsL, subsN, List.flatMap_cons, List.length_append, List.length_cons, List.map_cons, List.sum_cons] at ih ⊢; omega
        exact this _
      have i0 : (0 : Int) ≤ (k : Int) := by omega
      have i1 : (k : Int) < (f.subs.length : Int) := by omega
      obtain ⟨⟨c, t⟩, hct⟩ : ∃ s, f.subs[k] = s := ⟨_, rfl⟩
      rw [hct] at c0 c1 hs hsl
      simp only at c0 c1 hs hsl
      obtain ⟨S, hS⟩ : ∃ S, subsL (f.subs.take k) = S := ⟨_, rfl⟩
      rw [hS] at hbl hs hsn
      have hlen := Hlen.out
      have hb9 : P.length + S.length + 2 + t.length + 10 ≤ 140737488355328 := by omega
      have hblt := hbl.lt
      have hgb : wr.heap.size ≠ b := by omega
      obtain ⟨W5, hW5⟩ : ∃ W5, wr.alloc (.cells #[.int .u8 (c.toNat : Int), str t] 64) = W5 := ⟨_, rfl⟩
      have hn5 := new_at wr (.cells #[.int .u8 (c.toNat : Int), str t] 64)
      have hbl5 : Bld B b (P ++ S) W5 := by rw [← hW5]; exact hbl.alloc _
      have h05 : Below w0.heap.size w0 W5 := by rw [← hW5]; exact h0w.alloc h0w.size _
      have hB5 : Below B w W5 := by rw [← hW5]; exact hBw.alloc hbl.2 _
      have hk5 : Lib.OthersKept TY (some b) w W5 := by rw [← hW5]; exact hkw.alloc _
      rw [hW5] at hn5
      have M1 := Lib.hid (bldByte B b (P ++ S) 31 31 rfl W5 hbl5 (by rw [List.length_append]; omega))
      have M2 := Lib.hid (fun W h => bldByte B b (P ++ S ++ [31]) c (c.toNat : Int) rfl W h (by rw [List.length_append, List.length_append]; simp; omega))
      have M3 := Lib.hid (fun W h => bldStr B b (P ++ S ++ [31] ++ [c]) t W h (by rw [List.length_append, List.length_append, List.length_append]; simp; omega))
      have H05 := Lib.hid h05
      have HB5 := Lib.hid hB5
      have Hk5 := Lib.hid hk5
      have Hn5 := Lib.hid hn5
      have Hs := Lib.hid hs
      clear hs hsl hle hsn hct hS hlen hb9 hblt hbl hn5 hbl5 h05 hB5 hk5 h0w hBw hkw hP
      go_wp2_with fail
      refine M1.out.mono ?_
      clear M1 hW5
      rintro e w6 ⟨rfl, hl6, hb6, hk6⟩
      have hn6 := okept hk6 Hn5.out (by decide) hgb
      have e0 : w6.cell? ⟨wr.heap.size, 0, none⟩ = some (.int .u8 (c.toNat : Int)) := by rw [cell_at hn6]; rfl
      have H06 := Lib.hid (H05.out.trans (hb6.mono hw0))
      have HB6 := Lib.hid (HB5.out.trans hb6)
      have Hk6 := Lib.hid (Hk5.out.trans hk6)
      have M2 := Lib.hid (M2.out w6 hl6)
      have Hn6 := Lib.hid hn6
      clear hn6 hb6 hk6 hl6 H05 HB5 Hk5 Hn5
      go_wp2_with fail
      refine M2.out.mono ?_
      clear M2 e0
      rintro e w7 ⟨rfl, hl7, hb7, hk7⟩
      have hn7 := okept hk7 Hn6.out (by decide) hgb
      have e1 : w7.cell? ⟨wr.heap.size, 1, none⟩ = some (str t) := by rw [cell_at hn7]; rfl
      have H07 := Lib.hid (H06.out.trans (hb7.mono hw0))
      have HB7 := Lib.hid (HB6.out.trans hb7)
      have Hk7 := Lib.hid (Hk6.out.trans hk7)
      have M3 := Lib.hid (M3.out w7 hl7)
      clear hn7 hb7 hk7 hl7 H06 HB6 Hk6 Hn6
      go_wp2_with fail
      refine M3.out.mono ?_
      clear M3 e1
      rintro e w8 ⟨rfl, hl8, hb8, hk8⟩
      have H08 := Lib.hid (H07.out.trans (hb8.mono hw0))
      have HB8 := Lib.hid (HB7.out.trans hb8)
      have Hk8 := Lib.hid (Hk7.out.trans hk8)
      have Hl8 := Lib.hid hl8
      clear hb8 hk8 hl8 H07 HB7 Hk7
      go_wp2
      go_roundw
      case rel => exact ⟨k + 1, by omega, by go_num, by rw [Hs.out]; have := Hl8.out; simpa using this, H08.out, HB8.out, Hk8.out⟩
      case measure => simp [intOf]; omega
    · have hkl : k = f.subs.length := by omega
      subst hkl
      rw [List.take_length] at hbl
      have hd2 : decide (f.subs.length < f.subs.length) = false := by simp
      have N5 := Lib.hid (N5.out wr hbl)
      have HBw := Lib.hid hBw
      have Hkw := Lib.hid hkw
      clear hbl h0w hBw hkw
      go_wp2_with fail
      refine N5.out.mono ?_
      clear N5
      rintro e w6 ⟨rfl, hl6, hb6, hk6⟩
      go_wp2
      go_end0
      exact ⟨rfl, by rw [Hfin.out]; exact hl6, HBw.out.trans hb6, Hkw.out.trans hk6⟩
end Go.Proofs.YtpfnmjcomdckgaaDoor
