/-
  The walk of MarcEntries.
-/
import Derived.Test.YtpfnmjcomdckgaaDoorRDigE
import Derived.Test.YtpfnmjcomdckgaaDoorRParses
import Derived.Test.YtpfnmjcomdckgaaDoorRMadeN
import Derived.Test.YtpfnmjcomdckgaaDoorRRefZ
import Derived.Test.YtpfnmjcomdckgaaDoorRArgs4
import Derived.Deep.RegionWith
import Derived.Deep.Cut
namespace Go.Proofs.YtpfnmjcomdckgaaDoor
open Go.RowKit Go.Shelf
set_option linter.unusedVariables false
set_option linter.unusedSimpArgs false

theorem infoTrip : (Tryd.prog.info? 23).map (fun i => (i.zero, i.size, i.bytes)) = some (some (.agg #[.int .i64 0, .int .i64 0, .int .i64 0]), 3, 24) := by kernel_rfl
/-- Digits, and what they leave as it was. -/
def DigK (qb : Nat) (x y : Int) (w : World) (l : List UInt8) (e : Ending) (w' : World) : Prop := e = .returned (str l) ∧ Below w.heap.size w w' ∧ w'.cell? ⟨qb, 0, none⟩ = some (.int .i64 x) ∧ w'.cell? ⟨qb, 1, none⟩ = some (.int .i64 y)
theorem digK {qb : Nat} {x y : Int} (v n : Nat) (hv : v ≤ 1099511627776) (hn : n ≤ 20) (w : World) (h0 : w.cell? ⟨qb, 0, none⟩ = some (.int .i64 x)) (h1 : w.cell? ⟨qb, 1, none⟩ = some (.int .i64 y)) :
    Calls Tryd.prog 26 #[.int .i64 (v : Int), .int .i64 (n : Int)] w (DigK qb x y w (digsN v n)) :=
  (lawDigE_c v n hv hn w).mono fun e w' ⟨he, hb⟩ => ⟨he, hb, cell_below hb (Nat.le_refl _) h0, cell_below hb (Nat.le_refl _) h1⟩
set_option maxRecDepth 100000 in
set_option maxHeartbeats 8000000 in
theorem entries_walk (hP : ParsesC) (v : Value) (ll : List (Int × Int × Int)) (c x y : Int) (w : World) (hv : ReadsT w v ll) (hm : ll.length * 24 ≤ 140737488351232) (hc : Fits c) (hx : Fits x) (hy : Fits y) (hT : Tabs w) :
    Calls Tryd.prog 9 #[v, .int .i64 c, .agg #[.int .i64 x, .int .i64 y]] w (Yes w) := by
  obtain ⟨a, cap, rfl, -, -⟩ := id hv.slice
  obtain ⟨W0, hW0⟩ : ∃ W0, w.alloc (.cells #[.int .i64 x, .int .i64 y] 40) = W0 := ⟨_, rfl⟩
  have hn0 : W0.heap[w.heap.size]? = some (.cells #[.int .i64 x, .int .i64 y] 40 (0, 0)) := by rw [← hW0]; exact new_at _ _
  have hb0 : Below w.heap.size w W0 := by rw [← hW0]; exact below_new _ _
  have HTw := Lib.hid hT
  have Hs := Lib.hid (sanity_c W0 (tabs_below hT hb0))
  unfold Yes at Hs ⊢
  have HP := Lib.hid hP
  have Hv := Lib.hid (hv.below hb0 (Nat.le_refl _))
  have Hn0 := Lib.hid hn0
  have Hb0 := Lib.hid hb0
  have HW0 := Lib.hid hW0
  clear hT hP hv hn0 hb0 hW0
  go_enter Tryd.func9, Tryd.ntmps9
  go_wp2_with fail
  rw [HW0.out]
  refine Hs.out.mono ?_
  rintro e w1 ⟨rfl, hb1⟩
  have Hv1 := Lib.hid (Hv.out.below hb1 (Nat.le_refl _))
  have Hb1 := Lib.hid (Hb0.out.trans (hb1.mono Hb0.out.size))
  have Hn1 := Lib.hid (heap_below hb1 Hn0.out)
  have hw1 : w.heap.size < w1.heap.size := lt_at Hn1.out
  clear hb1 Hs Hv Hn0 Hb0 HW0
  have hown1 := World.ownsRow_lit (base := w.heap.size + 1) (e := 23) (size := 3) w1 #[.int .i64 4, .int .i64 1, .int .i64 2, .int .i64 6, .int .i64 2, .int .i64 1] 2 (by omega) (by decide) rfl
  obtain ⟨i0', hi, hz0, hz1, hz2⟩ := info_parts infoTrip
  have Hown1 := Lib.hid hown1
  have Hv2 := Lib.hid (Hv1.out.below (below_new w1 (.cells #[.int .i64 4, .int .i64 1, .int .i64 2, .int .i64 6, .int .i64 2, .int .i64 1] 23)) (Nat.le_refl _))
  clear hown1
  go_wp2_with (at_builtin; refine wpList_append_trips _ rfl _ _ 22 rfl (w.heap.size + 1) 23 i0' _ 24 Tryd.underlying22 hi hz0 hz1 hz2 rfl _ _ _ rfl Hown1.out _ _ _ ll rfl Hv2.out rfl ?en1 ?en2 ?en3 ?_)
  case en1 => unfold maxLen; omega
  case en2 => omega
  case en3 => simp; omega
  intro v' w2 hown2 hgrow
  obtain ⟨l2, hl2⟩ : ∃ l2, ((4, 1, 2) :: (6, 2, 1) :: ll : List (Int × Int × Int)) = l2 := ⟨_, rfl⟩
  have hl2l : l2.length = 2 + ll.length := by rw [← hl2]; simp; omega
  have hrd : ReadsT w2 v' l2 := by
    refine trips_of_own (B := w.heap.size + 1) ?_ ?_
    · rw [hl2l, ← hl2]; exact hown2
    · intro q hq
      rw [← hl2] at hq
      rcases List.mem_cons.1 hq with rfl | hq
      · unfold Fits; simp
      rcases List.mem_cons.1 hq with rfl | hq
      · unfold Fits; simp
      · exact Hv1.out.fits q hq
  have hsz1 : (w1.alloc (.cells #[.int .i64 4, .int .i64 1, .int .i64 2, .int .i64 6, .int .i64 2, .int .i64 1] 23)).heap.size = w1.heap.size + 1 := by simp
  have hb2 : Below w.heap.size w w2 := (Hb1.out.alloc Hb1.out.size _).grown hgrow (by rw [hsz1]; omega) (fun k hk => by simp [Value.ownBlock] at hk; omega)
  have hn2 : w2.heap[w.heap.size]? = some (.cells #[.int .i64 x, .int .i64 y] 40 (0, 0)) :=
    ((hgrow.block w.heap.size (by rw [hsz1]; omega) (fun e => by simp [Value.ownBlock] at e; omega)).trans ((below_new w1 _).block w.heap.size hw1)).trans Hn1.out
  obtain ⟨va, vn, vc, rfl⟩ : ∃ va vn vc, v' = .slice va vn vc := by
    obtain ⟨va, vc, h, -⟩ := hrd.slice
    exact ⟨va, _, vc, h⟩
  have HM := Lib.hid (made_n _ l2 w2 hrd)
  have hl2n : 2 ≤ min l2.length 12 := by omega
  have hl2m : min l2.length 12 ≤ 12 := by omega
  obtain ⟨nf, hnf⟩ : ∃ nf, min l2.length 12 = nf := ⟨_, rfl⟩
  rw [hnf] at HM hl2n hl2m
  have Hb2 := Lib.hid hb2
  have Hn2 := Lib.hid hn2
  unfold MadePostN at HM
  clear hrd hown2 hgrow hb2 hn2 hl2 hl2l hsz1 hnf hi hz0 hz1 hz2 Hown1 Hv1 Hv2 Hb1 Hn1 hw1
  go_wp2_with fail
  refine HM.out.mono ?_
  rintro e w3 ⟨rv, r, rfl, hrv, hck, hsz, hb3, hrn⟩
  obtain ⟨fv, rfl, hfv⟩ := hrv
  obtain ⟨fa, fc, rfl, -⟩ := hfv.slice
  have hrs := sizeR_ge r
  have hwl := writeM_len (check_zero hck)
  have hwr : writeR r = writeM r := by unfold writeR; rw [if_pos hck]
  have htl : ∀ f ∈ r.fields, f.tag.length ≤ 1099511627776 := fun f hf => by have := tagB_len ((check_zero hck).tags f hf); omega
  obtain ⟨W4, hW4⟩ : ∃ W4, w3.alloc (.cells #[.int .u8 (r.kind.toNat : Int), .int .u8 (r.level.toNat : Int), .slice fa r.fields.length fc] 27) = W4 := ⟨_, rfl⟩
  have hr4 : W4.heap[w3.heap.size]? = some (.cells #[.int .u8 (r.kind.toNat : Int), .int .u8 (r.level.toNat : Int), .slice fa r.fields.length fc] 27 (0, 0)) := by rw [← hW4]; exact new_at _ _
  have hb23 := Hb2.out.trans (hb3.mono Hb2.out.size)
  have hb4 : Below w.heap.size w W4 := by rw [← hW4]; exact hb23.alloc hb23.size _
  have hq4 : W4.heap[w.heap.size]? = some (.cells #[.int .i64 x, .int .i64 y] 40 (0, 0)) := by rw [← hW4]; exact heap_below (below_new _ _) (heap_below hb3 Hn2.out)
  have hf4 : FldsAt W4 (.slice fa r.fields.length fc) r.fields := by rw [← hW4]; exact hfv.below (below_new _ _) (Nat.le_refl _)
  have r0 : W4.cell? ⟨w3.heap.size, 0, none⟩ = some (.int .u8 (r.kind.toNat : Int)) := by rw [cell_at hr4]; rfl
  have r1 : W4.cell? ⟨w3.heap.size, 1, none⟩ = some (.int .u8 (r.level.toNat : Int)) := by rw [cell_at hr4]; rfl
  have r2 : W4.cell? ⟨w3.heap.size, 2, none⟩ = some (.slice fa r.fields.length fc) := by rw [cell_at hr4]; rfl
  have HW := Lib.hid (rWrite_c _ r W4 ⟨_, rfl, hf4⟩ (by omega) htl)
  unfold WrPost at HW
  rw [hwr, hck] at HW
  obtain ⟨X, hX⟩ : ∃ X, writeM r = X := ⟨_, rfl⟩
  rw [hX] at HW hwl
  have Hrn := Lib.hid hrn
  have hXl : 26 + 12 * nf ≤ X.length := by omega
  have hXu : X.length ≤ 5000 := by omega
  have Hr4 := Lib.hid hr4
  have Hq4 := Lib.hid hq4
  have Hb4 := Lib.hid hb4
  clear hfv hck hsz hb3 hb23 htl hr4 hb4 hq4 hf4 hwr hX hrs hwl hrn HM Hb2 Hn2
  go_wp2_with fail
  clear hW4
  refine HW.out.mono ?_
  rintro e w5 ⟨rfl, hb5⟩
  have hr5 := heap_below hb5 Hr4.out
  have hq5 := heap_below hb5 Hq4.out
  have p2 : w5.cell? ⟨w3.heap.size, 2, none⟩ = some (.slice fa nf fc) := by rw [cell_at hr5, Hrn.out]; rfl
  have q0 : w5.cell? ⟨w.heap.size, 0, none⟩ = some (.int .i64 x) := by rw [cell_at hq5]; rfl
  have q1 : w5.cell? ⟨w.heap.size, 1, none⟩ = some (.int .i64 y) := by rw [cell_at hq5]; rfl
  have Hb5 := Lib.hid (Hb4.out.trans (hb5.mono Hb4.out.size))
  obtain ⟨rb, hrb⟩ : ∃ rb, w3.heap.size = rb := ⟨_, rfl⟩
  obtain ⟨qb, hqb⟩ : ∃ qb, w.heap.size = qb := ⟨_, rfl⟩
  rw [hrb] at p2 ⊢
  rw [hqb] at q0 q1 ⊢
  have Hqb := Lib.hid hqb
  clear hqb
  clear hr5 hq5 hb5 HW r0 r1 r2 Hr4 Hq4 Hb4 hrb
  have MD := Lib.hid (fun W => mod_c c (nf : Int) (by omega) (by omega) hc W)
  have hj := modN_lt (n := c) (m := (nf : Int)) (by omega)
  obtain ⟨j, hjj⟩ : ∃ k, modN c (nf : Int) = k := ⟨_, rfl⟩
  rw [hjj] at hj MD
  have hjn : j < nf := by omega
  obtain ⟨j12, hj12⟩ : ∃ k, 12 * j = k := ⟨_, rfl⟩
  obtain ⟨k, hk⟩ : ∃ k, 24 + j12 = k := ⟨_, rfl⟩
  have jj1 : (12 : Int) * (j : Int) = (j12 : Int) := by omega
  have jj2 : (24 : Int) + (j12 : Int) = (k : Int) := by omega
  have hk12 : k + 12 ≤ 24 + 12 * nf := by omega
  clear hjj hj hj12 hk
  go_wp2_with fail
  refine (MD.out _).mono ?_
  rintro e w6 ⟨rfl, rfl⟩
  go_upto_region 5 with fail
  have M1 := Lib.hid (fun W => mod_c x 10000 (by decide) (by decide) hx W)
  have M2 := Lib.hid (fun W => mod_c y 100000 (by decide) (by decide) hy W)
  have M3 := Lib.hid (fun W => mod_c x 60 (by decide) (by decide) hx W)
  have M4 := Lib.hid (fun W => mod_c y 60 (by decide) (by decide) hy W)
  have h1 := modN_lt (n := x) (m := 10000) (by decide)
  have h2 := modN_lt (n := y) (m := 100000) (by decide)
  have h3 := modN_lt (n := x) (m := 60) (by decide)
  have h4 := modN_lt (n := y) (m := 60) (by decide)
  obtain ⟨p1, hp1⟩ : ∃ k, modN x 10000 = k := ⟨_, rfl⟩
  obtain ⟨p2', hp2⟩ : ∃ k, modN y 100000 = k := ⟨_, rfl⟩
  obtain ⟨p3, hp3⟩ : ∃ k, modN x 60 = k := ⟨_, rfl⟩
  obtain ⟨p4, hp4⟩ : ∃ k, modN y 60 = k := ⟨_, rfl⟩
  rw [hp1] at h1 M1
  rw [hp2] at h2 M2
  rw [hp3] at h3 M3
  rw [hp4] at h4 M4
  have b1 : p1 < 10000 := by omega
  have b2 : p2' < 100000 := by omega
  have b3 : p3 < 60 := by omega
  have b4 : p4 < 60 := by omega
  have D1 := Lib.hid (fun (W : World) (h0 : W.cell? ⟨qb, 0, none⟩ = some (.int .i64 x)) (h1 : W.cell? ⟨qb, 1, none⟩ = some (.int .i64 y)) => show Calls Tryd.prog 26 #[.int .i64 (p1 : Int), .int .i64 4] W (DigK qb x y W (digsN p1 4)) from digK (qb := qb) (x := x) (y := y) p1 4 (by omega) (by decide) W h0 h1)
  have D2 := Lib.hid (fun (W : World) (h0 : W.cell? ⟨qb, 0, none⟩ = some (.int .i64 x)) (h1 : W.cell? ⟨qb, 1, none⟩ = some (.int .i64 y)) => show Calls Tryd.prog 26 #[.int .i64 (p2' : Int), .int .i64 5] W (DigK qb x y W (digsN p2' 5)) from digK (qb := qb) (x := x) (y := y) p2' 5 (by omega) (by decide) W h0 h1)
  have D3 := Lib.hid (fun (W : World) (h0 : W.cell? ⟨qb, 0, none⟩ = some (.int .i64 x)) (h1 : W.cell? ⟨qb, 1, none⟩ = some (.int .i64 y)) => show Calls Tryd.prog 26 #[.int .i64 (p3 : Int), .int .i64 4] W (DigK qb x y W (digsN p3 4)) from digK (qb := qb) (x := x) (y := y) p3 4 (by omega) (by decide) W h0 h1)
  have D4 := Lib.hid (fun (W : World) (h0 : W.cell? ⟨qb, 0, none⟩ = some (.int .i64 x)) (h1 : W.cell? ⟨qb, 1, none⟩ = some (.int .i64 y)) => show Calls Tryd.prog 26 #[.int .i64 (p4 : Int), .int .i64 5] W (DigK qb x y W (digsN p4 5)) from digK (qb := qb) (x := x) (y := y) p4 5 (by omega) (by decide) W h0 h1)
  unfold DigK at D1 D2 D3 D4
  have hszX := size_str X
  obtain ⟨k3, hk3⟩ : ∃ z, k + 3 = z := ⟨_, rfl⟩
  obtain ⟨k12, hkk⟩ : ∃ z, k + 12 = z := ⟨_, rfl⟩
  have jk3 : (k : Int) + 3 = (k3 : Int) := by omega
  have jk12 : (k : Int) + 12 = (k12 : Int) := by omega
  have g1 : (0 : Int) ≤ (k3 : Int) := by omega
  have g2 : (k3 : Int) ≤ (X.length : Int) := by omega
  have g3 : (0 : Int) ≤ (k12 : Int) := by omega
  have g4 : (k12 : Int) ≤ (X.length : Int) := by omega
  have wk3 := wrapI (k3 : Int) (by omega) (by omega)
  have wk12 := wrapI (k12 : Int) (by omega) (by omega)
  have ex1 := ext_take X k3
  have ex2 := ext_drop X k12
  obtain ⟨A0, hA0⟩ : ∃ A, X.take k3 = A := ⟨_, rfl⟩
  obtain ⟨A3, hA3⟩ : ∃ A, X.drop k12 = A := ⟨_, rfl⟩
  have hl0 : A0.length ≤ 5000 := by rw [← hA0, List.length_take]; omega
  have hl3 : A3.length ≤ 5000 := by rw [← hA3, List.length_drop]; omega
  rw [hA0] at ex1
  rw [hA3] at ex2
  have dl1 := digsN_len 4 p1
  have dl2 := digsN_len 5 p2'
  have dl3 := digsN_len 4 p3
  have dl4 := digsN_len 5 p4
  have a1 := add_str A0 (digsN p1 4) (by omega)
  have a2 := add_str (A0 ++ digsN p1 4) (digsN p2' 5) (by rw [List.length_append]; omega)
  have a3 := add_str (A0 ++ digsN p1 4 ++ digsN p2' 5) A3 (by rw [List.length_append, List.length_append]; omega)
  have c1 := add_str A0 (digsN p3 4) (by omega)
  have c2 := add_str (A0 ++ digsN p3 4) (digsN p4 5) (by rw [List.length_append]; omega)
  have c3 := add_str (A0 ++ digsN p3 4 ++ digsN p4 5) A3 (by rw [List.length_append, List.length_append]; omega)
  have y1l : (A0 ++ digsN p1 4 ++ digsN p2' 5 ++ A3).length ≤ 20000 := by simp only [List.length_append]; omega
  have y2l : (A0 ++ digsN p3 4 ++ digsN p4 5 ++ A3).length ≤ 20000 := by simp only [List.length_append]; omega
  obtain ⟨A1, hA1⟩ : ∃ A, A0 ++ digsN p1 4 = A := ⟨_, rfl⟩
  rw [hA1] at a1 a2 a3 y1l
  obtain ⟨A2, hA2⟩ : ∃ A, A1 ++ digsN p2' 5 = A := ⟨_, rfl⟩
  rw [hA2] at a2 a3 y1l
  obtain ⟨Y1, hY1⟩ : ∃ A, A2 ++ A3 = A := ⟨_, rfl⟩
  rw [hY1] at a3 y1l
  obtain ⟨C1, hC1⟩ : ∃ A, A0 ++ digsN p3 4 = A := ⟨_, rfl⟩
  rw [hC1] at c1 c2 c3 y2l
  obtain ⟨C2, hC2⟩ : ∃ A, C1 ++ digsN p4 5 = A := ⟨_, rfl⟩
  rw [hC2] at c2 c3 y2l
  obtain ⟨Y2, hY2⟩ : ∃ A, C2 ++ A3 = A := ⟨_, rfl⟩
  rw [hY2] at c3 y2l
  clear hp1 hp2 hp3 hp4 h1 h2 h3 h4 hk3 hkk hA0 hA3 dl1 dl2 dl3 dl4 hA1 hA2 hY1 hC1 hC2 hY2 jj1 jj2
  go_cut [12] from 37 (fun s12 wx => s12 = str Y1 ∧ Below w5.heap.size w5 wx)
  case first =>
    have q0d : (World.drew w5).cell? ⟨qb, 0, none⟩ = some (.int .i64 x) := q0
    have q1d : (World.drew w5).cell? ⟨qb, 1, none⟩ = some (.int .i64 y) := q1
    go_region_with (first
      | (go_at_call 22; with_reducible refine (M1.out _).mono ?_; rintro e W2 ⟨rfl, rfl⟩)
      | (go_at_call 22; with_reducible refine (M2.out _).mono ?_; rintro e W2 ⟨rfl, rfl⟩)
      | (go_at_call 26; with_reducible refine (D1.out _ (by assumption) (by assumption)).mono ?_; rintro e W2 ⟨rfl, hbd1, hd10, hd11⟩)
      | (go_at_call 26; with_reducible refine (D2.out _ (by assumption) (by assumption)).mono ?_; rintro e W2 ⟨rfl, hbd2, hd20, hd21⟩))
    all_goals (go_wp2_with fail; go_meet; exact ⟨rfl, by first | exact below_tr (below_tr (Below.refl _ w5).drew hbd1) hbd2 | exact below_tr (below_tr (Below.refl _ w5).drew hbd2) hbd1⟩)
  case rest =>
  obtain ⟨rfl, hbw⟩ := hcut
  have r0 := cell_below hbw (Nat.le_refl _) q0
  have r1 := cell_below hbw (Nat.le_refl _) q1
  have Hbw := Lib.hid (Hb5.out.trans (hbw.mono Hb5.out.size))
  clear hbw q0 q1 a1 a2 a3 M1 M2 D1 D2 b1 b2
  obtain ⟨W8, hW8⟩ : ∃ W8, wc = W8 := ⟨_, rfl⟩
  subst hW8
  have q0 := r0
  have q1 := r1
  clear r0 r1 p2
  go_upto_region 6 with fail
  go_cut [13] from 56 (fun s12 wx => s12 = str Y2 ∧ Below wc.heap.size wc wx)
  case first =>
    have q0d : (World.drew wc).cell? ⟨qb, 0, none⟩ = some (.int .i64 x) := q0
    have q1d : (World.drew wc).cell? ⟨qb, 1, none⟩ = some (.int .i64 y) := q1
    go_region_with (first
      | (go_at_call 22; with_reducible refine (M3.out _).mono ?_; rintro e W2 ⟨rfl, rfl⟩)
      | (go_at_call 22; with_reducible refine (M4.out _).mono ?_; rintro e W2 ⟨rfl, rfl⟩)
      | (go_at_call 26; with_reducible refine (D3.out _ (by assumption) (by assumption)).mono ?_; rintro e W2 ⟨rfl, hbd1, hd10, hd11⟩)
      | (go_at_call 26; with_reducible refine (D4.out _ (by assumption) (by assumption)).mono ?_; rintro e W2 ⟨rfl, hbd2, hd20, hd21⟩))
    all_goals (go_wp2_with fail; go_meet; exact ⟨rfl, by first | exact below_tr (below_tr (Below.refl _ wc).drew hbd1) hbd2 | exact below_tr (below_tr (Below.refl _ wc).drew hbd2) hbd1⟩)
  case rest =>
  obtain ⟨rfl, hbw2⟩ := hcut
  have Hbz := Lib.hid (Hbw.out.trans (hbw2.mono Hbw.out.size))
  clear hbw2 q0 q1 c1 c2 c3 M3 M4 D3 D4 ex1 ex2 g1 g2 g3 g4 wk3 wk12 jk3 jk12
  have x36 : (36 : Int) ≤ (X.length : Int) := by omega
  have x24 : (24 : Int) ≤ (X.length : Int) := by omega
  have x48 : (48 : Int) ≤ (X.length : Int) := by omega
  have ey1 := ext_take X 36
  have ey2 := ext_mid X 24 36
  have ey3 := ext_drop X 48
  obtain ⟨B0, hB0⟩ : ∃ A, X.take 36 = A := ⟨_, rfl⟩
  obtain ⟨B1, hB1⟩ : ∃ A, (X.drop 24).take (36 - 24) = A := ⟨_, rfl⟩
  obtain ⟨B2, hB2⟩ : ∃ A, X.drop 48 = A := ⟨_, rfl⟩
  have hl0' : B0.length ≤ 5000 := by rw [← hB0, List.length_take]; omega
  have hl1' : B1.length ≤ 5000 := by rw [← hB1, List.length_take, List.length_drop]; omega
  have hl2' : B2.length ≤ 5000 := by rw [← hB2, List.length_drop]; omega
  rw [hB0] at ey1
  rw [hB1] at ey2
  rw [hB2] at ey3
  have d1 := add_str B0 B1 (by omega)
  have d2 := add_str (B0 ++ B1) B2 (by rw [List.length_append]; omega)
  have y3l : (B0 ++ B1 ++ B2).length ≤ 20000 := by simp only [List.length_append]; omega
  obtain ⟨E1, hE1⟩ : ∃ A, B0 ++ B1 = A := ⟨_, rfl⟩
  rw [hE1] at d1 d2 y3l
  obtain ⟨Y3, hY3⟩ : ∃ A, E1 ++ B2 = A := ⟨_, rfl⟩
  rw [hY3] at d2 y3l
  clear hB0 hB1 hB2 hE1 hY3 hl0 hl3 hl0' hl1' hl2' b3 b4
  have P1 := Lib.hid (fun W (h : Below w.heap.size w W) => HP.out Y1 W (by omega) (tabs_below HTw.out h))
  have P2 := Lib.hid (fun W (h : Below w.heap.size w W) => HP.out Y2 W (by omega) (tabs_below HTw.out h))
  have P3 := Lib.hid (fun W (h : Below w.heap.size w W) => HP.out Y3 W (by omega) (tabs_below HTw.out h))
  unfold Yes at P1 P2 P3
  go_wp2_with fail
  go_region
  all_goals
    have Q1 := Lib.hid (P1.out _ Hbz.out.drew)
    go_wp2_with fail
    refine Q1.out.mono ?_
    rintro e w20 ⟨rfl, hb20⟩
    have Hb20 := Lib.hid (Hbz.out.trans ((Below.refl _ _).drew.trans (hb20.mono (Nat.le_refl _)) |>.mono Hbz.out.size))
    have Q2 := Lib.hid (P2.out _ Hb20.out)
    clear hb20 Q1
    go_wp2_with fail
    refine Q2.out.mono ?_
    rintro e w21 ⟨rfl, hb21⟩
    have Hb21 := Lib.hid (Hb20.out.trans (hb21.mono Hb20.out.size))
    have Q3 := Lib.hid (P3.out _ Hb21.out)
    clear hb21 Q2
    go_wp2_with fail
    refine Q3.out.mono ?_
    rintro e w22 ⟨rfl, hb22⟩
    have Hb22 := Lib.hid (Hb21.out.trans (hb22.mono Hb21.out.size))
    clear hb22 Q3
    go_wp2
    go_ret
    exact ⟨rfl, Hb22.out⟩
theorem walk_MarcEntries (v : Value) (ll : List (Int × Int × Int)) (c x y : Int) (w : World) (hv : ReadsT w v ll) (hm : ll.length * 24 ≤ 140737488351232) (hc : Fits c) (hx : Fits x) (hy : Fits y) (hT : Tabs w) :
    Calls Tryd.prog 9 #[v, .int .i64 c, .agg #[.int .i64 x, .int .i64 y]] w (Yes w) :=
  entries_walk (fun l w hl hT => parses_c l hl w hT) v ll c x y w hv hm hc hx hy hT
end Go.Proofs.YtpfnmjcomdckgaaDoor
