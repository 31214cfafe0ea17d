/-
  The walk of MarcParses.
-/
import Derived.Test.YtpfnmjcomdckgaaDoorRWrap
import Derived.Test.YtpfnmjcomdckgaaDoorRParses
import Derived.Test.YtpfnmjcomdckgaaDoorRMade
import Derived.Test.YtpfnmjcomdckgaaDoorRRefZ
import Derived.Test.YtpfnmjcomdckgaaDoorRArgs3
namespace Go.Proofs.YtpfnmjcomdckgaaDoor
open Go.RowKit Go.Shelf
set_option linter.unusedVariables false
set_option linter.unusedSimpArgs false

set_option maxRecDepth 100000 in
set_option maxHeartbeats 8000000 in
theorem parses_walk (hP : ParsesC) (v : Value) (ll : List (Int × Int × Int)) (x y z u : Int) (t : List UInt8) (w : World) (hv : ReadsT w v ll) (hx : Fits x) (hy : Fits y) (hz : Fits z) (hu : Fits u) (ht : t.length ≤ 140737488351232) (hT : Tabs w) :
    Calls Tryd.prog 5 #[v, .agg #[.int .i64 x, .int .i64 y, .int .i64 z, .int .i64 u], str t] w (Yes w) := by
  obtain ⟨a, cap, rfl, -, -⟩ := id hv.slice
  obtain ⟨W0, hW0⟩ : ∃ W0, w.alloc (.cells #[.int .i64 x, .int .i64 y, .int .i64 z, .int .i64 u] 41) = W0 := ⟨_, rfl⟩
  have hn0 : W0.heap[w.heap.size]? = some (.cells #[.int .i64 x, .int .i64 y, .int .i64 z, .int .i64 u] 41 (0, 0)) := by rw [← hW0]; exact new_at _ _
  have hb0 : Below w.heap.size w W0 := by rw [← hW0]; exact below_new _ _
  have HT0 := Lib.hid (tabs_below hT hb0)
  have Hs := Lib.hid (sanity_c W0 HT0.out)
  unfold Yes at Hs ⊢
  have HP := Lib.hid hP
  have Hv := Lib.hid (hv.below hb0 (Nat.le_refl _))
  have Hn0 := Lib.hid hn0
  have Hb0 := Lib.hid hb0
  have HW0 := Lib.hid hW0
  have HTw := Lib.hid hT
  clear hT hP hv hn0 hb0 hW0
  go_enter Tryd.func5, Tryd.ntmps5
  go_wp2_with fail
  rw [HW0.out]
  refine Hs.out.mono ?_
  rintro e w1 ⟨rfl, hb1⟩
  have HM := Lib.hid (made_c _ _ w1 (Hv.out.below hb1 (Nat.le_refl _)))
  have Hb1 := Lib.hid (Hb0.out.trans (hb1.mono Hb0.out.size))
  have HT1 := Lib.hid (tabs_below HT0.out hb1)
  have Hn1 := Lib.hid (heap_below hb1 Hn0.out)
  clear hb1 Hs HT0 Hv Hn0 Hb0 HW0
  unfold MadePost at HM
  go_wp2_with fail
  refine HM.out.mono ?_
  rintro e w2 ⟨rv, r, rfl, hrv, hck, hsz, hb2⟩
  have hrs := sizeR_ge r
  have hwl := writeM_len (check_zero hck)
  have hwr : writeR r = writeM r := by unfold writeR; rw [if_pos hck]
  have htl : ∀ f ∈ r.fields, f.tag.length ≤ 1099511627776 := fun f hf => by have := tagB_len ((check_zero hck).tags f hf); omega
  have HW := Lib.hid (rWrite_c rv r w2 hrv (by omega) htl)
  unfold WrPost at HW
  rw [hwr, hck] at HW
  obtain ⟨X, hX⟩ : ∃ X, writeM r = X := ⟨_, rfl⟩
  rw [hX] at HW hwl
  have hXl : 26 ≤ X.length := by omega
  have hXu : X.length ≤ 5000 := by omega
  have Hb2 := Lib.hid (Hb1.out.trans (hb2.mono Hb1.out.size))
  have HT2 := Lib.hid (tabs_below HT1.out hb2)
  have Hn2 := Lib.hid (heap_below hb2 Hn1.out)
  clear hrv hck hsz hb2 htl hwr hX hrs hwl HM Hb1 HT1 Hn1
  go_wp2_with fail
  refine HW.out.mono ?_
  rintro e w3 ⟨rfl, hb3⟩
  obtain ⟨bc, w4, hrun, hbytes, hb4⟩ := bytes_new X w3
  have hb34 : Below w2.heap.size w2 w4 := hb3.trans (hb4.mono hb3.size)
  have Hb4 := Lib.hid (Hb2.out.trans (hb34.mono Hb2.out.size))
  have HT4 := Lib.hid (tabs_below HT2.out hb34)
  have Hn4 := Lib.hid (heap_below hb34 Hn2.out)
  have Hby := Lib.hid hbytes
  have hwB : w.heap.size < w3.heap.size := Nat.lt_of_lt_of_le (lt_at Hn2.out) hb3.size
  clear hb3 hb4 hb34 hbytes HW Hb2 HT2 Hn2
  go_wp2_with fail
  clear hrun
  obtain ⟨B, hB⟩ : ∃ B, w3.heap.size = B := ⟨_, rfl⟩
  rw [hB] at Hby hwB ⊢
  clear hB
  have hj1 := modN_lt (n := x) (m := (X.length : Int)) (by omega)
  have hj2 := modN_lt (n := z) (m := (X.length : Int)) (by omega)
  have MD1 := Lib.hid (fun W => mod_c x (X.length : Int) (by omega) (by omega) hx W)
  have MD2 := Lib.hid (fun W => mod_c z (X.length : Int) (by omega) (by omega) hz W)
  obtain ⟨p1, hp1⟩ : ∃ k, modN x (X.length : Int) = k := ⟨_, rfl⟩
  obtain ⟨p2, hp2⟩ : ∃ k, modN z (X.length : Int) = k := ⟨_, rfl⟩
  rw [hp1] at hj1 MD1
  rw [hp2] at hj2 MD2
  have hp1l : p1 < X.length := by omega
  have hp2l : p2 < X.length := by omega
  obtain ⟨c1, hc1⟩ := wrap_u8 y
  obtain ⟨c2, hc2⟩ := wrap_u8 u
  clear hp1 hp2 hj1 hj2
  go_loopw [11] (fun iv wr => ∃ (k : Nat) (Z : List UInt8), k ≤ 2 ∧ iv = .int .i64 k ∧ Z.length = X.length ∧ BytesAt wr B Z ∧ wr.heap[w.heap.size]? = some (.cells #[.int .i64 x, .int .i64 y, .int .i64 z, .int .i64 u] 41 (0, 0)) ∧ Below w.heap.size w wr) (fun iv _ => 2 - (intOf iv).toNat)
  case atStart => exact ⟨0, X, by decide, rfl, rfl, Hby.out, Hn4.out, Hb4.out⟩
  case round =>
    obtain ⟨k, Z, hk, rfl, hZl, hby, hn, hb⟩ := hrel
    have hTr := tabs_below HTw.out hb
    clear Hby Hn4 Hb4 HT4
    have q0 : wr.cell? ⟨w.heap.size, 0, none⟩ = some (.int .i64 x) := by rw [cell_at hn]; rfl
    have q1 : wr.cell? ⟨w.heap.size, 1, none⟩ = some (.int .i64 y) := by rw [cell_at hn]; rfl
    have q2 : wr.cell? ⟨w.heap.size, 2, none⟩ = some (.int .i64 z) := by rw [cell_at hn]; rfl
    have q3 : wr.cell? ⟨w.heap.size, 3, none⟩ = some (.int .i64 u) := by rw [cell_at hn]; rfl
    have Hby := Lib.hid hby
    have Hn := Lib.hid hn
    have Hb := Lib.hid hb
    have HTr := Lib.hid hTr
    match k, hk with
    | 0, _ =>
      have g0 := hby.cell p1 (by omega)
      have g1 := hby.frozen p1 (by omega)
      have i0 : (0 : Int) ≤ (p1 : Int) := by omega
      have i1 : (p1 : Int) < (X.length : Int) := by omega
      have HZl := Lib.hid hZl
      obtain ⟨o1, ho1⟩ : ∃ o, Z[p1]'(by omega) = o := ⟨_, rfl⟩
      rw [ho1] at g0
      clear hby hn hb hTr hZl ho1
      go_wp2_with fail
      go_region_with (go_at_call 22; refine (MD1.out _).mono ?_; rintro e W2 ⟨rfl, rfl⟩)
      all_goals
        have hset := Hby.out.set p1 c1
        have hn' : (wr.setCell ⟨B, p1, none⟩ (.int .u8 (c1.toNat : Int))).heap[w.heap.size]? = some (.cells #[.int .i64 x, .int .i64 y, .int .i64 z, .int .i64 u] 41 (0, 0)) := (far_set wr B p1 _ (by omega)).trans Hn.out
        have hb' := Hb.out.setCell (p := ⟨B, p1, none⟩) (Nat.le_of_lt hwB) (.int .u8 (c1.toNat : Int))
        obtain ⟨W9, hW9⟩ : ∃ W9, (wr.setCell ⟨B, p1, none⟩ (.int .u8 (c1.toNat : Int))).drew = W9 := ⟨_, rfl⟩
        have hset9 : BytesAt W9 B (Z.set p1 c1) := by rw [← hW9]; exact hset
        have hn9 : W9.heap[w.heap.size]? = some (.cells #[.int .i64 x, .int .i64 y, .int .i64 z, .int .i64 u] 41 (0, 0)) := by rw [← hW9]; exact hn'
        have hb9 : Below w.heap.size w W9 := by rw [← hW9]; exact hb'.drew
        rw [hW9]
        have Hset9 := Lib.hid hset9
        have Hn9 := Lib.hid hn9
        have Hb9 := Lib.hid hb9
        clear hset hn' hb' hW9 hset9 hn9 hb9 g0 g1 q0 q1 q2 q3
        go_wp2
        go_roundw
        case rel => exact ⟨1, Z.set p1 c1, by decide, by first | rfl | go_num, by rw [List.length_set]; exact HZl.out, Hset9.out, Hn9.out, Hb9.out⟩
        case measure => simp [intOf]
    | 1, _ =>
      have g0 := hby.cell p2 (by omega)
      have g1 := hby.frozen p2 (by omega)
      have i0 : (0 : Int) ≤ (p2 : Int) := by omega
      have i1 : (p2 : Int) < (X.length : Int) := by omega
      have HZl := Lib.hid hZl
      obtain ⟨o1, ho1⟩ : ∃ o, Z[p2]'(by omega) = o := ⟨_, rfl⟩
      rw [ho1] at g0
      clear hby hn hb hTr hZl ho1
      go_wp2_with fail
      go_region_with (go_at_call 22; refine (MD2.out _).mono ?_; rintro e W2 ⟨rfl, rfl⟩)
      all_goals
        have hset := Hby.out.set p2 c2
        have hn' : (wr.setCell ⟨B, p2, none⟩ (.int .u8 (c2.toNat : Int))).heap[w.heap.size]? = some (.cells #[.int .i64 x, .int .i64 y, .int .i64 z, .int .i64 u] 41 (0, 0)) := (far_set wr B p2 _ (by omega)).trans Hn.out
        have hb' := Hb.out.setCell (p := ⟨B, p2, none⟩) (Nat.le_of_lt hwB) (.int .u8 (c2.toNat : Int))
        obtain ⟨W9, hW9⟩ : ∃ W9, (wr.setCell ⟨B, p2, none⟩ (.int .u8 (c2.toNat : Int))).drew = W9 := ⟨_, rfl⟩
        have hset9 : BytesAt W9 B (Z.set p2 c2) := by rw [← hW9]; exact hset
        have hn9 : W9.heap[w.heap.size]? = some (.cells #[.int .i64 x, .int .i64 y, .int .i64 z, .int .i64 u] 41 (0, 0)) := by rw [← hW9]; exact hn'
        have hb9 : Below w.heap.size w W9 := by rw [← hW9]; exact hb'.drew
        rw [hW9]
        have Hset9 := Lib.hid hset9
        have Hn9 := Lib.hid hn9
        have Hb9 := Lib.hid hb9
        clear hset hn' hb' hW9 hset9 hn9 hb9 g0 g1 q0 q1 q2 q3
        go_wp2
        go_roundw
        case rel => exact ⟨2, Z.set p2 c2, by decide, by first | rfl | go_num, by rw [List.length_set]; exact HZl.out, Hset9.out, Hn9.out, Hb9.out⟩
        case measure => simp [intOf]
    | 2, _ =>
      have hrb := hby.str bc
      rw [hZl] at hrb
      have P1 := Lib.hid (HP.out Z wr (by omega) hTr)
      unfold Yes at P1
      obtain ⟨mm, hmm⟩ : ∃ mm, min t.length 100 = mm := ⟨_, rfl⟩
      have m0 : min (t.length : Int) 100 = (mm : Int) := by omega
      have m1 : (mm : Int) ≤ (t.length : Int) := by omega
      have m2 : (0 : Int) ≤ (mm : Int) := by omega
      have hszt := size_str t
      have hszX := size_str X
      have hex := ext_take t mm
      obtain ⟨V, hV⟩ : ∃ V, t.take mm = V := ⟨_, rfl⟩
      have hvl : V.length ≤ 100 := by rw [← hV]; simp; omega
      rw [hV] at hex
      have hadd := add_str X V (by omega)
      have hXV : (X ++ V).length ≤ 1099511627776 := by rw [List.length_append]; omega
      have MD0 := fun W => mod_c x ((X.length : Int) + 1) (by omega) (by omega) hx W
      have hj := modN_lt (n := x) (m := (X.length : Int) + 1) (by omega)
      obtain ⟨j, hjj⟩ : ∃ j, modN x ((X.length : Int) + 1) = j := ⟨_, rfl⟩
      rw [hjj] at hj MD0
      have MD := Lib.hid MD0
      have j0 : (0 : Int) ≤ (j : Int) := by omega
      have j1 : (j : Int) ≤ (X.length : Int) := by omega
      have hexj := ext_take X j
      have hXj : (X.take j).length ≤ 1099511627776 := by rw [List.length_take]; omega
      obtain ⟨XJ, hXJ⟩ : ∃ Y, X.take j = Y := ⟨_, rfl⟩
      obtain ⟨XV, hXVe⟩ : ∃ Y, X ++ V = Y := ⟨_, rfl⟩
      rw [hXJ] at hexj hXj
      rw [hXVe] at hadd hXV
      clear hby hn hTr hmm hV MD0 hj hjj hXJ hXVe hZl hb q1 q2 q3
      go_wp2_with fail
      refine P1.out.mono ?_
      rintro e w6 ⟨rfl, hb6⟩
      have q6 := cell_below hb6 (Nat.le_refl _) q0
      have Hb6 := Lib.hid (Hb.out.trans (hb6.mono Hb.out.size))
      clear hb6 P1 q0 hrb
      go_wp2_with fail
      refine (MD.out _).mono ?_
      rintro e w7 ⟨rfl, rfl⟩
      have P7 := Lib.hid (fun W (h : Below w.heap.size w W) => HP.out XJ W hXj (tabs_below HTw.out h))
      have P8 := Lib.hid (fun W (h : Below w.heap.size w W) => HP.out XV W hXV (tabs_below HTw.out h))
      have P9 := Lib.hid (fun W (h : Below w.heap.size w W) => HP.out V W (by omega) (tabs_below HTw.out h))
      unfold Yes at P7 P8 P9
      have P7' := Lib.hid (P7.out _ Hb6.out)
      go_wp2_with fail
      refine P7'.out.mono ?_
      rintro e w8 ⟨rfl, hb8⟩
      have Hb8 := Lib.hid (Hb6.out.trans (hb8.mono Hb6.out.size))
      have P8' := Lib.hid (P8.out _ Hb8.out)
      clear hb8 q6 P7'
      go_wp2_with fail
      refine P8'.out.mono ?_
      rintro e w9 ⟨rfl, hb9⟩
      have Hb9 := Lib.hid (Hb8.out.trans (hb9.mono Hb8.out.size))
      have P9' := Lib.hid (P9.out _ Hb9.out)
      clear hb9 P8'
      go_wp2_with fail
      refine P9'.out.mono ?_
      rintro e w10 ⟨rfl, hb10⟩
      have Hb10 := Lib.hid (Hb9.out.trans (hb10.mono Hb9.out.size))
      clear hb10 P9'
      go_wp2
      go_ret
      exact ⟨rfl, Hb10.out⟩
theorem walk_MarcParses (v : Value) (ll : List (Int × Int × Int)) (x y z u : Int) (t : List UInt8) (w : World) (hv : ReadsT w v ll) (hx : Fits x) (hy : Fits y) (hz : Fits z) (hu : Fits u) (ht : t.length ≤ 140737488351232) (hT : Tabs w) :
    Calls Tryd.prog 5 #[v, .agg #[.int .i64 x, .int .i64 y, .int .i64 z, .int .i64 u], str t] w (Yes w) :=
  parses_walk (fun l w hl hT => parses_c l hl w hT) v ll x y z u t w hv hx hy hz hu ht hT
end Go.Proofs.YtpfnmjcomdckgaaDoor
