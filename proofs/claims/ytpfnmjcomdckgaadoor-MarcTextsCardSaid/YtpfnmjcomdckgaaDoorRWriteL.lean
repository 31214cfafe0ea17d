/-
  marc.writeLeader.
-/
import Derived.Test.YtpfnmjcomdckgaaDoorRWriteD
namespace Go.Proofs.YtpfnmjcomdckgaaDoor
open Go.RowKit Go.Shelf
set_option linter.unusedVariables false
set_option linter.unusedSimpArgs false

set_option maxRecDepth 100000 in
set_option maxHeartbeats 4000000 in
theorem writeLead_c (B b : Nat) (v : Value) (r : RecM) (l : List UInt8) (w0 w : World) (hv : RecV w0 v r) (hw0 : w0.heap.size ≤ B) (hb0 : Below w0.heap.size w0 w)
    (hsz : sizeR r ≤ 1099511627776) (hbld : Bld B b l w) (hlen : l.length ≤ 1000) :
    Calls Tryd.prog 39 #[.pointer (some ⟨b, 0, none⟩), v] w (WPost B b (l ++ leadM r) w) := by
  obtain ⟨fv, rfl, hf⟩ := hv
  obtain ⟨a, cap, rfl, hm, -⟩ := hf.slice
  unfold maxLen at hm
  have hblt := hbld.lt
  have hgb : w.heap.size ≠ b := by omega
  have hfl : r.fields.length ≤ 1099511627776 := by unfold sizeR sizeH at hsz; omega
  have hh : sizeH r.fields.length ≤ 1099511627776 := by unfold sizeR at hsz; omega
  have hfin : leadM r = digsN (sizeR r) 5 ++ [110] ++ [r.kind] ++ [r.level] ++ [32, 97, 50, 50] ++ digsN (sizeH r.fields.length) 5 ++ [32, 32, 32, 52, 53, 48, 48] := by unfold leadM; simp
  rw [hfin]
  obtain ⟨W3, hW3⟩ : ∃ W3, w.alloc (.cells #[.int .u8 (r.kind.toNat : Int), .int .u8 (r.level.toNat : Int), .slice a r.fields.length cap] 27) = W3 := ⟨_, rfl⟩
  have hb3 : Below w.heap.size w W3 := by rw [← hW3]; exact below_new w _
  have hk3 : Lib.OthersKept TY (some b) w W3 := by rw [← hW3]; exact kept_new b w _
  have hB3 : Below B w W3 := by rw [← hW3]; exact (Below.refl B w).alloc hbld.2 _
  have hn3 := new_at w (.cells #[.int .u8 (r.kind.toNat : Int), .int .u8 (r.level.toNat : Int), .slice a r.fields.length cap] 27)
  have hbl3 : Bld B b l W3 := by rw [← hW3]; exact hbld.alloc _
  rw [hW3] at hn3
  have g0 : W3.cell? ⟨w.heap.size, 0, none⟩ = some (.int .u8 (r.kind.toNat : Int)) := by rw [cell_at hn3]; rfl
  have g1 : W3.cell? ⟨w.heap.size, 1, none⟩ = some (.int .u8 (r.level.toNat : Int)) := by rw [cell_at hn3]; rfl
  have g2 : W3.cell? ⟨w.heap.size, 2, none⟩ = some (.slice a r.fields.length cap) := by rw [cell_at hn3]; rfl
  have hrv : RecV W3 (.agg #[.int .u8 (r.kind.toNat : Int), .int .u8 (r.level.toNat : Int), .slice a r.fields.length cap]) r := ⟨_, rfl, hf.below (hb0.trans (hb3.mono hb0.size)) (Nat.le_refl _)⟩
  have N1 := Lib.hid (sizeOfRecord_c _ r W3 hrv hsz)
  have N2 := Lib.hid (fun W h => digits_c B b 4 (sizeR r) 5 (sizeR r : Nat) l W rfl rfl hsz (by omega) h (by omega))
  have N3 := Lib.hid (fun W h => bldByte B b (l ++ digsN (sizeR r) 5) 110 110 rfl W h (by rw [List.length_append, digsN_len]; omega))
  have N4 := Lib.hid (fun W h => bldByte B b (l ++ digsN (sizeR r) 5 ++ [110]) r.kind (r.kind.toNat : Int) rfl W h (by simp [digsN_len]; omega))
  have N5 := Lib.hid (fun W h => bldByte B b (l ++ digsN (sizeR r) 5 ++ [110] ++ [r.kind]) r.level (r.level.toNat : Int) rfl W h (by simp [digsN_len]; omega))
  have N6 := Lib.hid (fun W h => bldStr B b (l ++ digsN (sizeR r) 5 ++ [110] ++ [r.kind] ++ [r.level]) [32, 97, 50, 50] W h (by simp [digsN_len]; omega))
  have N7 := Lib.hid (fun W h => digits_c B b 4 (sizeH r.fields.length) 5 (24 + 12 * (r.fields.length : Int) + 1) (l ++ digsN (sizeR r) 5 ++ [110] ++ [r.kind] ++ [r.level] ++ [32, 97, 50, 50]) W rfl (by unfold sizeH; push_cast; rfl) hh (by omega) h (by simp [digsN_len]; omega))
  have N8 := Lib.hid (fun W h => bldStr B b (l ++ digsN (sizeR r) 5 ++ [110] ++ [r.kind] ++ [r.level] ++ [32, 97, 50, 50] ++ digsN (sizeH r.fields.length) 5) [32, 32, 32, 52, 53, 48, 48] W h (by simp [digsN_len]; omega))
  unfold WPost at N2 N7
  have HB := Lib.hid hB3
  have Hk := Lib.hid hk3
  have Hn := Lib.hid hn3
  have Hl := Lib.hid hbl3
  obtain ⟨Z, hZ⟩ : ∃ Z, sizeR r = Z := ⟨_, rfl⟩
  rw [hZ] at N1 N2 N3 N4 N5 N6 N7 N8 hsz ⊢
  obtain ⟨Y, hY⟩ : ∃ Y, sizeH r.fields.length = Y := ⟨_, rfl⟩
  rw [hY] at N7 N8 hh ⊢
  clear hb3 hn3 hbl3 hbld hb0 hk3 hB3 hblt hrv hfin hf hZ hY
  unfold WPost
  go_enter Tryd.func39, Tryd.ntmps39
  go_wp2_with fail
  refine N1.out.mono ?_
  clear N1 g0 g1 g2 hW3
  rintro e w4 ⟨rfl, hb4⟩
  have Hn4 := Lib.hid (heap_below hb4 Hn.out)
  have HB4 := Lib.hid (HB.out.trans (hb4.mono Hl.out.2))
  have Hk4 := Lib.hid (Hk.out.trans (kept_below b hb4))
  have M2 := Lib.hid (N2.out w4 (Hl.out.below hb4))
  clear hb4 HB Hk Hn Hl N2
  go_wp2_with fail
  refine M2.out.mono ?_
  clear M2
  rintro e w5 ⟨rfl, hl5, hb5, hk5⟩
  have Hn5 := Lib.hid (okept hk5 Hn4.out (by decide) hgb)
  have HB5 := Lib.hid (HB4.out.trans hb5)
  have Hk5 := Lib.hid (Hk4.out.trans hk5)
  have M3 := Lib.hid (N3.out w5 hl5)
  clear hb5 hk5 hl5 HB4 Hk4 Hn4 N3
  go_wp2_with fail
  refine M3.out.mono ?_
  clear M3
  rintro e w6 ⟨rfl, hl6, hb6, hk6⟩
  have Hn6 := Lib.hid (okept hk6 Hn5.out (by decide) hgb)
  have g0 : w6.cell? ⟨w.heap.size, 0, none⟩ = some (.int .u8 (r.kind.toNat : Int)) := by rw [cell_at Hn6.out]; rfl
  have HB6 := Lib.hid (HB5.out.trans hb6)
  have Hk6 := Lib.hid (Hk5.out.trans hk6)
  have M4 := Lib.hid (N4.out w6 hl6)
  clear hb6 hk6 hl6 HB5 Hk5 Hn5 N4
  go_wp2_with fail
  refine M4.out.mono ?_
  clear M4 g0
  rintro e w7 ⟨rfl, hl7, hb7, hk7⟩
  have Hn7 := Lib.hid (okept hk7 Hn6.out (by decide) hgb)
  have g1 : w7.cell? ⟨w.heap.size, 1, none⟩ = some (.int .u8 (r.level.toNat : Int)) := by rw [cell_at Hn7.out]; rfl
  have HB7 := Lib.hid (HB6.out.trans hb7)
  have Hk7 := Lib.hid (Hk6.out.trans hk7)
  have M5 := Lib.hid (N5.out w7 hl7)
  clear hb7 hk7 hl7 HB6 Hk6 Hn6 N5
  go_wp2_with fail
  refine M5.out.mono ?_
  clear M5 g1
  rintro e w8 ⟨rfl, hl8, hb8, hk8⟩
  have Hn8 := Lib.hid (okept hk8 Hn7.out (by decide) hgb)
  have HB8 := Lib.hid (HB7.out.trans hb8)
  have Hk8 := Lib.hid (Hk7.out.trans hk8)
  have M6 := Lib.hid (N6.out w8 hl8)
  clear hb8 hk8 hl8 HB7 Hk7 Hn7 N6
  go_wp2_with fail
  refine M6.out.mono ?_
  clear M6
  rintro e w9 ⟨rfl, hl9, hb9, hk9⟩
  have Hn9 := Lib.hid (okept hk9 Hn8.out (by decide) hgb)
  have g2 : w9.cell? ⟨w.heap.size, 2, none⟩ = some (.slice a r.fields.length cap) := by rw [cell_at Hn9.out]; rfl
  have HB9 := Lib.hid (HB8.out.trans hb9)
  have Hk9 := Lib.hid (Hk8.out.trans hk9)
  have M7 := Lib.hid (N7.out w9 hl9)
  clear hb9 hk9 hl9 HB8 Hk8 Hn8 N7
  go_wp2_with fail
  refine (sizeOfHead_c _ hfl _).mono ?_
  rintro e w10 ⟨rfl, rfl⟩
  go_wp2_with fail
  refine M7.out.mono ?_
  clear M7 g2
  rintro e w11 ⟨rfl, hl11, hb11, hk11⟩
  have HB11 := Lib.hid (HB9.out.trans hb11)
  have Hk11 := Lib.hid (Hk9.out.trans hk11)
  have M8 := Lib.hid (N8.out w11 hl11)
  clear hb11 hk11 hl11 HB9 Hk9 Hn9 N8
  go_wp2_with fail
  refine M8.out.mono ?_
  rintro e w12 ⟨rfl, hl12, hb12, hk12⟩
  go_wp2
  go_end0
  exact ⟨rfl, by simpa using hl12, HB11.out.trans hb12, Hk11.out.trans hk12⟩
end Go.Proofs.YtpfnmjcomdckgaaDoor
