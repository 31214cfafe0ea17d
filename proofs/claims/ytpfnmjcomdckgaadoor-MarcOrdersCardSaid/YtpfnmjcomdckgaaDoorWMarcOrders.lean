/-
  MarcOrders: the order of the fields in the data, gaps, and bytes that play no part do not change the record; Write makes it no longer.
-/
import Derived.Test.YtpfnmjcomdckgaaDoorROrdL
import Derived.Test.YtpfnmjcomdckgaaDoorRMadeK
import Derived.Test.YtpfnmjcomdckgaaDoorRSame
import Derived.Test.YtpfnmjcomdckgaaDoorRSan
import Derived.Test.YtpfnmjcomdckgaaDoorRBack
namespace Go.Proofs.YtpfnmjcomdckgaaDoor
open Go.RowKit Go.Shelf
set_option linter.unusedVariables false
set_option linter.unusedSimpArgs false

theorem rec_cells {W : World} {pb : Nat} {x y z : Value} (h : W.heap[pb]? = some (.cells #[x, y, z] 27 (0, 0))) :
    W.cell? ⟨pb, 0, none⟩ = some x ∧ W.cell? ⟨pb, 1, none⟩ = some y ∧ W.cell? ⟨pb, 2, none⟩ = some z :=
  ⟨by rw [cell_at h]; rfl, by rw [cell_at h]; rfl, by rw [cell_at h]; rfl⟩
set_option maxRecDepth 100000 in
set_option maxHeartbeats 20000000 in
theorem walk_MarcOrders (v ov : Value) (ll : List (Int × Int × Int)) (ol : List Int) (w : World) (hv : ReadsT w v ll) (ho : IntsAt w ov ol) (hfit : ∀ x ∈ ol, Fits x) (hT : Tabs w) :
    Calls Tryd.prog 8 #[v, ov] w (Yes w) := by
  obtain ⟨oa, oc, rfl, -, -⟩ := id ho.slice
  have hs := sanity_c w hT
  unfold Yes at hs
  have HS := Lib.hid hs
  have MA := Lib.hid (fun W (h : ReadsT W v ll) => made_k v ll W h)
  unfold MadePostK at MA
  have Hv := Lib.hid hv
  have Ho := Lib.hid ho
  have HT := Lib.hid hT
  have Hfit := Lib.hid hfit
  clear hs hv ho hT hfit
  unfold Yes
  go_enter Tryd.func8, Tryd.ntmps8
  go_wp2_with fail
  refine HS.out.mono ?_
  rintro _ w3 ⟨rfl, hb3⟩
  have Hw3 := Lib.hid hb3
  clear hb3 HS
  go_wp2_with fail
  refine (MA.out w3 (Hv.out.below Hw3.out (Nat.le_refl _))).mono ?_
  rintro _ w4 ⟨v0, r, rfl, hrv0, hck, hsz, hb4, -, -⟩
  obtain ⟨fv0, rfl, hf0⟩ := hrv0
  obtain ⟨fa, fc, rfl, -, -⟩ := id hf0.slice
  have hw4 := Hw3.out.trans (hb4.mono Hw3.out.size)
  obtain ⟨W5, hW5⟩ : ∃ W, w4.alloc (.cells #[.int .u8 (r.kind.toNat : Int), .int .u8 (r.level.toNat : Int), .slice fa r.fields.length fc] 27) = W := ⟨_, rfl⟩
  have hn5 : W5.heap[w4.heap.size]? = some (.cells #[.int .u8 (r.kind.toNat : Int), .int .u8 (r.level.toNat : Int), .slice fa r.fields.length fc] 27 (0, 0)) := by rw [← hW5]; exact new_at _ _
  have hba : Below w4.heap.size w4 W5 := by rw [← hW5]; exact below_new _ _
  replace hf0 := hf0.below hba (Nat.le_refl _)
  replace hw4 := hw4.trans (hba.mono hw4.size)
  obtain ⟨pb, hpb⟩ : ∃ k, w4.heap.size = k := ⟨_, rfl⟩
  rw [hpb] at hn5
  have hR := check_zero hck
  have hL := rLaid_c (.agg #[.int .u8 (r.kind.toNat : Int), .int .u8 (r.level.toNat : Int), .slice fa r.fields.length fc]) (.slice oa ol.length oc) r ol W5 ⟨_, rfl, hf0⟩ (Ho.out.below hw4 (Nat.le_refl _)) Hfit.out hsz (fun f hf => tagB_len (hR.tags f hf))
  unfold LaidPost at hL
  have HL := Lib.hid hL
  obtain ⟨a0, a1, a2⟩ := rec_cells hn5
  have Hw4 := Lib.hid hw4
  have Hn5 := Lib.hid hn5
  have Hf0 := Lib.hid hf0
  have Hck := Lib.hid hck
  have Hsz := Lib.hid hsz
  have HR := Lib.hid hR
  clear hw4 hn5 hf0 hck hsz hb4 hba Hw3 Hv MA hR hL Ho Hfit
  go_wp2_with fail
  clear hW5 hpb
  refine HL.out.mono ?_
  rintro _ w6 ⟨c, at', data, rfl, hlay, hs1, hs2, hb6⟩
  have hn999 : r.fields.length ≤ 999 := HR.out.many
  have hrs := sizeR_ge r
  have hps := parse_lay c HR.out hlay hs1 hn999 (by have := Hsz.out; unfold sizeR sizeH at this; omega)
  have hXl := layM_len c r (dirA at' r.fields) data
  have hdl := dirA_len hlay (fun f hf => tagB_len (HR.out.tags f hf))
  have hwl := writeM_len HR.out
  have hwr : writeR r = writeM r := by unfold writeR; rw [if_pos Hck.out]
  have hYX : (writeM r).length ≤ (layM c r (dirA at' r.fields) data).length := by rw [hwl, hXl, hdl]; unfold sizeR sizeH; omega
  have hXb : (layM c r (dirA at' r.fields) data).length ≤ 100000 := by have := Hsz.out; unfold sizeR sizeH at this; omega
  obtain ⟨X, hX⟩ : ∃ X, layM c r (dirA at' r.fields) data = X := ⟨_, rfl⟩
  obtain ⟨Y, hY⟩ : ∃ Y, writeM r = Y := ⟨_, rfl⟩
  rw [hX] at hps hYX hXb ⊢
  rw [hY] at hYX hwr
  have hw6 := Hw4.out.trans (hb6.mono Hw4.out.size)
  have hn6 := heap_below hb6 Hn5.out
  have hf6 := Hf0.out.below hb6 (Nat.le_refl _)
  have hp := Parse_c X (by omega) w6 (tabs_below HT.out hw6)
  rw [hps] at hp
  unfold PV at hp
  have Hpp := Lib.hid hp
  have Hw6 := Lib.hid hw6
  have Hn6 := Lib.hid hn6
  have Hf6 := Lib.hid hf6
  have Hwr := Lib.hid hwr
  have HYX := Lib.hid hYX
  clear hp hw6 hn6 hf6 hwr hYX hps hXl hdl hwl hlay hs1 hs2 hb6 hX hY hXb hn999 hrs Hw4 Hn5 Hf0 HL a0 a1 a2
  go_wp2_with fail
  refine Hpp.out.mono ?_
  rintro _ w10 ⟨gv, rfl, hb10, hgv⟩
  obtain ⟨ga, gc, rfl, -⟩ := hgv.slice
  have hn10 := heap_below hb10 Hn6.out
  have hf10 := Hf6.out.below hb10 (Nat.le_refl _)
  have hbw10 := Hw6.out.trans (hb10.mono Hw6.out.size)
  obtain ⟨W11, hW11⟩ : ∃ W11, w10.alloc (.cells #[.int .u8 (r.kind.toNat : Int), .int .u8 (r.level.toNat : Int), .slice ga r.fields.length gc] 27) = W11 := ⟨_, rfl⟩
  have hn11 : W11.heap[w10.heap.size]? = some (.cells #[.int .u8 (r.kind.toNat : Int), .int .u8 (r.level.toNat : Int), .slice ga r.fields.length gc] 27 (0, 0)) := by rw [← hW11]; exact new_at _ _
  have hbb : Below w10.heap.size w10 W11 := by rw [← hW11]; exact below_new _ _
  have hm11 := heap_below hbb hn10
  have hf11 := hf10.below hbb (Nat.le_refl _)
  have hg11 := hgv.below hbb (Nat.le_refl _)
  have hbw11 := hbw10.trans (hbb.mono hbw10.size)
  obtain ⟨gb, hgb⟩ : ∃ k, w10.heap.size = k := ⟨_, rfl⟩
  rw [hgb] at hn11
  obtain ⟨t0, t1, t2⟩ := rec_cells hn11
  have NW := write_c (.agg #[.int .u8 (r.kind.toNat : Int), .int .u8 (r.level.toNat : Int), .slice ga r.fields.length gc]) r W11 ⟨_, rfl, hg11⟩ (by have := Hsz.out; omega) (fun f hf => by have := tagB_len (HR.out.tags f hf); omega)
  unfold WritePost at NW
  rw [Hwr.out, Hck.out] at NW
  have NW := Lib.hid NW
  have Hn11 := Lib.hid hn11
  have Hm11 := Lib.hid hm11
  have Hf11 := Lib.hid hf11
  have Hg11 := Lib.hid hg11
  have Hbw11 := Lib.hid hbw11
  clear hn11 hm11 hf11 hg11 hbw11 hbb hn10 hf10 hbw10 hb10 hgv Hpp Hw6 Hn6 Hf6 Hwr
  go_wp2_with fail
  clear hW11 hgb
  refine NW.out.mono ?_
  rintro _ w12 ⟨rfl, hb12⟩
  have hn12 := heap_below hb12 Hn11.out
  have hm12 := heap_below hb12 Hm11.out
  have hf12 := Hf11.out.below hb12 (Nat.le_refl _)
  have hg12 := Hg11.out.below hb12 (Nat.le_refl _)
  have Hbw12 := Lib.hid (Hbw11.out.trans (hb12.mono Hbw11.out.size))
  clear t0 t1 t2
  obtain ⟨t0, t1, t2⟩ := rec_cells hn12
  obtain ⟨s0, s1, s2⟩ := rec_cells hm12
  have NS := same_c _ _ r r w12 ⟨_, rfl, hg12⟩ ⟨_, rfl, hf12⟩
  rw [decide_eq_true rfl] at NS
  unfold SP at NS
  have NS := Lib.hid NS
  have szY := size_str Y
  have szX := size_str X
  have n1 : (Y.length : Int) ≤ (X.length : Int) := by have := HYX.out; omega
  clear hn12 hm12 hf12 hg12 hb12 NW Hn11 Hm11 Hf11 Hg11 Hbw11
  go_wp2_with fail
  refine NS.out.mono ?_
  rintro _ w13 ⟨rfl, hb13⟩
  have Hbw13 := Lib.hid (Hbw12.out.trans (hb13.mono Hbw12.out.size))
  clear hb13
  go_wp2
  go_ret
  exact ⟨rfl, Hbw13.out⟩
end Go.Proofs.YtpfnmjcomdckgaaDoor
