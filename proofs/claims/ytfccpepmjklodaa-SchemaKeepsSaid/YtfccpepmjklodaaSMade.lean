/-
  The reference's Made: which record it makes.
-/
import Derived.Test.YtfccpepmjklodaaSArgs
import Derived.Test.YtfccpepmjklodaaSRefM
import Derived.Deep.Cut
import Derived.Deep.CutRange
namespace Go.Proofs.Ytfccpepmjklodaa
open Go.RowKit Go.Shelf
set_option linter.unusedVariables false
set_option linter.unusedSimpArgs false

theorem fld_appN {w w4 : World} {o : Obj} {fb : Nat} {T I D : List UInt8} {sv : Value} (hnf : w.heap[fb]? = some (.cells #[str T, str I, str D, sv] 46 (0, 0))) (hne : Value.ownBlock sv ≠ some fb) (hg : (w.alloc o).grownBy w4 sv.ownBlock) :
    w4.heap[fb]? = some (.cells #[str T, str I, str D, sv] 46 (0, 0)) ∧ w4.frozen? ⟨fb, 3, none⟩ = false ∧ w4.cell? ⟨fb, 3, none⟩ = some sv := by
  have hlt := lt_at hnf
  have h4 : w4.heap[fb]? = some (.cells #[str T, str I, str D, sv] 46 (0, 0)) :=
    ((hg.block fb (show fb < (w.alloc o).heap.size by simp; omega) (Ne.symm hne)).trans ((below_new w o).block fb hlt)).trans hnf
  exact ⟨h4, Lib.frozen_of_heap h4 3, by rw [cell_at h4]; rfl⟩
theorem grown_cellN {w w4 : World} {o : Obj} {r : Option Nat} (hg : (w.alloc o).grownBy w4 r) {b off : Nat} {v : Value} (hc : w.cell? ⟨b, off, none⟩ = some v) (hne : r ≠ some b) : w4.cell? ⟨b, off, none⟩ = some v := by
  have hlt := lt_of_cell hc
  have h4 : w4.heap[b]? = w.heap[b]? := (hg.block b (show b < (w.alloc o).heap.size by simp; omega) (Ne.symm hne)).trans ((below_new w o).block b hlt)
  unfold World.cell? at hc ⊢
  simp only [h4] at hc ⊢
  exact hc
theorem fld_nextN {w w4 W8 : World} {o : Obj} {fb k : Nat} {T I D : List UInt8} {sv v' : Value} {ss : List SubM} {s : SubM} (hb : Below fb W8 w) (hnf : w.heap[fb]? = some (.cells #[str T, str I, str D, sv] 46 (0, 0)))
    (hown : w.ownsRow (fb + 1) 48 2 sv k (subCells ss)) (hown4 : w4.ownsRow (fb + 1) 48 2 v' (k + 1) (subCells ss ++ [.int .u8 (s.code.toNat : Int), str s.text])) (hg : (w.alloc o).grownBy w4 sv.ownBlock) (hl : ss.length = k) :
    (w4.setCell ⟨fb, 3, none⟩ v').heap[fb]? = some (.cells #[str T, str I, str D, v'] 46 (0, 0)) ∧ (w4.setCell ⟨fb, 3, none⟩ v').ownsRow (fb + 1) 48 2 v' (ss ++ [s]).length (subCells (ss ++ [s])) ∧ Below fb W8 (w4.setCell ⟨fb, 3, none⟩ v') := by
  have hne : Value.ownBlock sv ≠ some fb := fun e => absurd (hown.lt fb e).1 (by omega)
  have hlt := lt_at hnf
  obtain ⟨h4, -, -⟩ := fld_appN hnf hne hg
  refine ⟨?_, ?_, ?_⟩
  · have := blk_set h4 3 v'
    simpa using this
  · rw [List.length_append, hl, subCells_snoc]
    exact own_far hown4 (by omega)
  · refine Below.setCell ?_ (p := ⟨fb, 3, none⟩) (Nat.le_refl _) _
    refine hb.trans ?_
    refine Below.grown (w := w.alloc o) (Below.alloc (Below.refl fb w) (by omega) o) hg (by simp; omega) (fun k hk => by have := (hown.lt k hk).1; omega)
set_option maxRecDepth 100000 in
set_option maxHeartbeats 20000000 in
theorem made_c (v : Value) (l : List (Int × Int × Int × Int)) (w : World) (hv : ReadsQ w v l) :
    Calls Try.prog 15 #[v] w (MkPost w (madeM l)) := by
  obtain ⟨a, cap, rfl, hm, hc⟩ := hv.slice
  have Hc := Lib.hid hc
  unfold maxLen at hm
  clear hc hv
  obtain ⟨W1, hW1⟩ : ∃ W1, w.alloc (.cells #[.int .u8 0, .int .u8 0, .slice none 0 0] 32) = W1 := ⟨_, rfl⟩
  have hs1 : W1.heap.size = w.heap.size + 1 := by rw [← hW1]; simp
  have hb1 : Below w.heap.size w W1 := by rw [← hW1]; exact below_new _ _
  have hn1 : W1.heap[w.heap.size]? = some (.cells #[.int .u8 0, .int .u8 0, .slice none 0 0] 32 (0, 0)) := by rw [← hW1]; exact new_at _ _
  obtain ⟨W2, hW2⟩ : ∃ W2, W1.alloc (.cells #[.int .u8 97, .int .u8 109, .slice none 0 0] 32) = W2 := ⟨_, rfl⟩
  have hb2 : Below W1.heap.size W1 W2 := by rw [← hW2]; exact below_new _ _
  have hn2 : W2.heap[W1.heap.size]? = some (.cells #[.int .u8 97, .int .u8 109, .slice none 0 0] 32 (0, 0)) := by rw [← hW2]; exact new_at _ _
  have hM2 : Mk w W2 w.heap.size W1.heap.size 97 109 [] (.slice none 0 0) :=
    ⟨⟨hn2, World.ownsRow_nil _ _ _ _⟩, fun q hq => by simp at hq, heap_below hb2 (Nat.le_refl _) hn1, below_tr hb1 hb2, Nat.le_refl _, by omega⟩
  obtain ⟨R, hR⟩ : ∃ k, w.heap.size = k := ⟨_, rfl⟩
  obtain ⟨p, hp⟩ : ∃ k, W1.heap.size = k := ⟨_, rfl⟩
  rw [hR, hp] at hM2
  have hRp : R + 1 = p := by omega
  have HM2 := Lib.hid hM2
  have HW2 := Lib.hid hW2
  have HR := Lib.hid hR
  have HRp := Lib.hid hRp
  clear hs1 hb1 hn1 hb2 hn2 hM2 hW2 hR hRp
  go_enter Try.func15, Try.ntmps15
  go_wp2_with fail
  rw [HW2.out]
  rw [HR.out]
  clear hW1 hp HW2
  go_loopw [4] (fun iv  wr => ∃ (k : Nat) (acc : List (FldM × Value)) (sv : Value), k ≤ l.length ∧ k ≤ 20 ∧ iv = .int .i64 k ∧ acc.map (·.1) = (l.take k).map madeF ∧ Mk w wr R p 97 109 acc sv) (fun iv  _ => 20 - (intOf iv).toNat)
  case atStart => exact ⟨0, [], _, Nat.zero_le _, Nat.zero_le _, rfl, rfl, HM2.out⟩
  case round =>
    obtain ⟨k, acc, sv, hk, hk20, rfl, hacc, hmk⟩ := hrel
    clear HM2
    have hal : acc.length = k := by
      have := congrArg List.length hacc
      rw [List.length_map, List.length_map, List.length_take] at this
      omega
    have hal20 : acc.length ≤ 20 := by omega
    clear hal
    by_cases hlt : k < l.length ∧ k < 20
    · obtain ⟨hlt, hlt20⟩ := hlt
      obtain ⟨b, off, rfl, hbl, ⟨x0, x1, x2, x3⟩, f0, f1, f2, f3⟩ := Hc.out k hlt
      have x0 := cell_below hmk.bel (Nat.le_refl _) x0
      have x1 := cell_below hmk.bel (Nat.le_refl _) x1
      have x2 := cell_below hmk.bel (Nat.le_refl _) x2
      have x3 := cell_below hmk.bel (Nat.le_refl _) x3
      have i0 : (0 : Int) ≤ (k : Int) := by omega
      have i1 : (k : Int) < (l.length : Int) := by omega
      have i2 : (k : Int) < 20 := by omega
      have htk : (l.take (k + 1)).map madeF = acc.map (·.1) ++ [madeF l[k]] := by rw [take_snoc l k hlt, List.map_append, hacc]; rfl
      obtain ⟨⟨a0, a1, a2, a3⟩, hq⟩ : ∃ q, l[k] = q := ⟨_, rfl⟩
      rw [hq] at x0 x1 x2 x3 f0 f1 f2 f3 htk
      simp only at x0 x1 x2 x3 f0 f1 f2 f3
      obtain ⟨sa, sc, rfl⟩ := own_form hmk.rec_.2
      have Htk := Lib.hid htk
      have NT := Lib.hid (fun W => tag_c a0 f0 W)
      have hT3 := tagM_len a0
      obtain ⟨T, hT⟩ : ∃ T, tagM a0 = T := ⟨_, rfl⟩
      rw [hT] at NT hT3
      have HT := Lib.hid hT
      obtain ⟨W4, hW4⟩ : ∃ W4, wr.alloc (.cells #[.int .i64 a0, .int .i64 a1, .int .i64 a2, .int .i64 a3] 64) = W4 := ⟨_, rfl⟩
      have hb4 : Below wr.heap.size wr W4 := by rw [← hW4]; exact below_new _ _
      have hn4 : W4.heap[wr.heap.size]? = some (.cells #[.int .i64 a0, .int .i64 a1, .int .i64 a2, .int .i64 a3] 64 (0, 0)) := by rw [← hW4]; exact new_at _ _
      have q0 : W4.cell? ⟨wr.heap.size, 0, none⟩ = some (.int .i64 a0) := by rw [cell_at hn4]; rfl
      have Hmk4 := Lib.hid (hmk.below hb4)
      have Hn4 := Lib.hid hn4
      have HW4 := Lib.hid hW4
      clear hmk hbl hq htk hT hb4 hn4 hW4 hacc
      go_wp2_with fail
      rw [HW4.out]
      have x0 := x0
      clear x0 x1 x2 x3 HW4
      refine (NT.out _).mono ?_
      rintro e w5 ⟨rfl, hb5⟩
      have Hmk5 := Lib.hid (Hmk4.out.below hb5)
      have hn5 := heap_below hb5 (Nat.le_refl _) Hn4.out
      obtain ⟨qb, hqb⟩ : ∃ k, wr.heap.size = k := ⟨_, rfl⟩
      rw [hqb] at hn5 q0 ⊢
      obtain ⟨W6, hW6⟩ : ∃ W6, w5.alloc (.cells #[str T, .string ⟨#[]⟩, .string ⟨#[]⟩, .slice none 0 0] 46) = W6 := ⟨_, rfl⟩
      have hb6 : Below w5.heap.size w5 W6 := by rw [← hW6]; exact below_new _ _
      have hn6 : W6.heap[w5.heap.size]? = some (.cells #[str T, .string ⟨#[]⟩, .string ⟨#[]⟩, .slice none 0 0] 46 (0, 0)) := by rw [← hW6]; exact new_at _ _
      have hq6 := heap_below hb6 (Nat.le_refl _) hn5
      have hqf : qb < w5.heap.size := lt_at hn5
      have hpf : p < w5.heap.size := lt_at Hmk5.out.rec_.1
      obtain ⟨fb, hfb⟩ : ∃ k, w5.heap.size = k := ⟨_, rfl⟩
      rw [hfb] at hb6 hn6 hqf hpf
      have q1 : W6.cell? ⟨qb, 1, none⟩ = some (.int .i64 a1) := by rw [cell_at hq6]; rfl
      have q2 : W6.cell? ⟨qb, 2, none⟩ = some (.int .i64 a2) := by rw [cell_at hq6]; rfl
      have q3 : W6.cell? ⟨qb, 3, none⟩ = some (.int .i64 a3) := by rw [cell_at hq6]; rfl
      have d0 : W6.cell? ⟨fb, 0, none⟩ = some (str T) := by rw [cell_at hn6]; rfl
      have Hb6 := Lib.hid hb6
      have Hn6 := Lib.hid hn6
      have Hq6 := Lib.hid hq6
      have HW6 := Lib.hid hW6
      clear hb5 hn5 hqb hb6 hn6 hq6 hW6 Hmk4 Hn4 NT q0
      go_upto_region 7 with fail
      rw [HW6.out]
      have Hfb := Lib.hid hfb
      clear HW6 hfb
      have stt := size_str T
      go_cut [37] from 28 to 37 (fun s wx => s = .bool (ctlB T) ∧ wx = W6)
      case first =>
        by_cases h2 : 1 < T.length
        · have j2 : (1 : Int) < (T.length : Int) := by omega
          obtain ⟨t0, t1, tl, hTe⟩ : ∃ t0 t1 tl, T = t0 :: t1 :: tl := by
            rcases hTe : T with _ | ⟨x, _ | ⟨y, z⟩⟩
            · rw [hTe] at h2; simp at h2
            · rw [hTe] at h2; simp at h2
            · exact ⟨x, y, z, rfl⟩
          have hx2 : (ByteArray.mk T.toArray).extract 0 2 = ⟨(T.take 2).toArray⟩ := ext_take T 2
          have HC := Lib.hid (show ctlB T = (T.take 2 == [48, 48]) from rfl)
          obtain ⟨u, hu⟩ : ∃ u, T.take 2 = u := ⟨_, rfl⟩
          rw [hu] at hx2 HC
          clear hTe hu
          go_wp2
          go_meet
          case rel => exact ⟨by rw [HC.out], rfl⟩
        · have j2 : ¬ (1 : Int) < (T.length : Int) := by omega
          have hv := Lib.hid (show ctlB T = false from ctlB_short (by omega))
          clear h2
          go_wp2
          go_meet
          case rel => exact ⟨by rw [hv.out], rfl⟩
      case rest =>
        obtain ⟨rfl, rfl⟩ := hcut
        cases hct : ctlB T with
        | true =>
          have NX := Lib.hid (fun W => text_c a3 f3 W)
          obtain ⟨D, hD⟩ : ∃ D, textM a3 = D := ⟨_, rfl⟩
          rw [hD] at NX
          have HMF := Lib.hid (show madeF (a0, a1, a2, a3) = ⟨T, [], D, []⟩ by unfold madeF; simp only [HT.out, hct, hD, if_true])
          clear hD hct
          go_wp2_with fail
          refine (NX.out _).mono ?_
          rintro e w7 ⟨rfl, hb7⟩
          have hb57 : Below w5.heap.size w5 w7 := by rw [Hfb.out]; exact Hb6.out.trans (hb7.mono (Nat.le_of_lt (lt_at Hn6.out)))
          have hn7 := heap_below hb7 (Nat.le_refl _) Hn6.out
          have t2 : w7.cell? ⟨fb, 2, none⟩ = some (.string ⟨#[]⟩) := by rw [cell_at hn7]; rfl
          have t3 : w7.frozen? ⟨fb, 2, none⟩ = false := Lib.frozen_of_heap hn7 2
          obtain ⟨W8, hW8⟩ : ∃ W8, w7.setCell ⟨fb, 2, none⟩ (str D) = W8 := ⟨_, rfl⟩
          have hn8 : W8.heap[fb]? = some (.cells #[str T, .string ⟨#[]⟩, str D, .slice none 0 0] 46 (0, 0)) := by
            rw [← hW8]; have := blk_set hn7 2 (str D); simpa using this
          have hb8 : Below w5.heap.size w5 W8 := by rw [← hW8]; exact hb57.setCell (p := ⟨fb, 2, none⟩) (Nat.le_of_eq Hfb.out) _
          have Hmk8 := Lib.hid (Hmk5.out.below hb8)
          obtain ⟨-, -, s2, s5⟩ := Hmk8.out.rec_.cells
          have d0 : W8.cell? ⟨fb, 0, none⟩ = some (str T) := by rw [cell_at hn8]; rfl
          have d1 : W8.cell? ⟨fb, 1, none⟩ = some (.string ⟨#[]⟩) := by rw [cell_at hn8]; rfl
          have d2 : W8.cell? ⟨fb, 2, none⟩ = some (str D) := by rw [cell_at hn8]; rfl
          have d3 : W8.cell? ⟨fb, 3, none⟩ = some (.slice none 0 0) := by rw [cell_at hn8]; rfl
          clear hn8 hb8 hn7 hb7 hb57 q1 q2 q3 NX
          obtain ⟨i0', hi, hz0, hz1, hz2⟩ := info_parts infoFld
          go_wp2_with (at_builtin; refine wpList_append_own _ rfl _ _ 30 rfl (p + 1) 46 i0' _ 4 72 Try.underlying30 hi hz0 hz1 hz2 rfl (by decide) _ _ _ rfl (Hmk8.out.rec_.2.alloc _) ⟨W8.heap.size, 0, none⟩ 1 1 [str T, .string ⟨#[]⟩, str D, .slice none 0 0] rfl rfl ?c1 ?c2 ?c3 ?c4 ?c5 ?_)
          case c1 => exact fld_cells W8 _ _ _ _ _
          case c2 => simp [Value.oneCell']
          case c3 => unfold maxLen; omega
          case c4 => omega
          case c5 => have := lt_at Hmk8.out.rec_.1; simp; omega
          intro v' w8 hown8 hgrow _
          obtain ⟨na, nc, rfl⟩ := own_form hown8
          obtain ⟨y1, y2, hdone, -⟩ := Mk.app (f := (⟨T, [], D, []⟩ : FldM)) Hmk8.out hown8 hgrow (World.ownsRow_nil _ _ _ _)
          have hnx : (acc ++ [((⟨T, [], D, []⟩ : FldM), (.slice none 0 0 : Value))]).map (fun q => q.1) = (l.take (k + 1)).map madeF := by
            rw [Htk.out, List.map_append]
            congr 1
            show [(⟨T, [], D, []⟩ : FldM)] = [madeF (a0, a1, a2, a3)]
            rw [HMF.out]
          have Hdone := Lib.hid hdone
          have Hnx := Lib.hid hnx
          clear hown8 hgrow hdone hnx hi hz0 hz1 hz2 d0 d1 d2 d3 s2 s5
          go_wp2
          go_roundw
          case rel =>
  
            first
            | exact ⟨k + 1, _, _, by omega, by omega, by go_num, Hnx.out, Hdone.out⟩
            | ((repeat apply Exists.intro)
               refine ⟨⟨k + 1, _, _, by omega, by omega, ?_, Hnx.out, Hdone.out⟩, rfl⟩
               go_num)
          case measure => simp [intOf]; omega
        | false =>
          have NI := Lib.hid (fun W => mod_c a1 8 (by decide) (by decide) f1 W)
          have N3 := Lib.hid (fun W => mod_c a2 3 (by decide) (by decide) f2 W)
          have hji := modN_lt (n := a1) (m := 8) (by decide)
          have hj3 := modN_lt (n := a2) (m := 3) (by decide)
          have HMF := Lib.hid (show madeF (a0, a1, a2, a3) = ⟨T, indsL.getD (modN a1 8) [], [], madeSubs a1 a2 a3 (1 + modN a2 3)⟩ by unfold madeF; simp only [HT.out, hct]; rfl)
          obtain ⟨ji, hjj⟩ : ∃ j, modN a1 8 = j := ⟨_, rfl⟩
          rw [hjj] at NI hji HMF
          obtain ⟨n3, hn3⟩ : ∃ j, modN a2 3 = j := ⟨_, rfl⟩
          rw [hn3] at N3 hj3 HMF
          have hIa := inds_at (j := ji) (by omega)
          obtain ⟨I, hI⟩ : ∃ I, indsL.getD ji [] = I := ⟨_, rfl⟩
          rw [hI] at hIa HMF
          obtain ⟨Wi, hWi⟩ : ∃ Wi, wc.alloc (.cells indArr 9) = Wi := ⟨_, rfl⟩
          have hbi : Below wc.heap.size wc Wi := by rw [← hWi]; exact below_new _ _
          have hni : Wi.heap[wc.heap.size]? = some (.cells indArr 9 (0, 0)) := by rw [← hWi]; exact new_at _ _
          have hIc : Wi.cell? ⟨wc.heap.size, ji, none⟩ = some (str I) := by rw [cell_at hni]; exact hIa
          have hfi := heap_below hbi (Nat.le_refl _) Hn6.out
          have hqi := heap_below hbi (Nat.le_refl _) Hq6.out
          have q1 : Wi.cell? ⟨qb, 1, none⟩ = some (.int .i64 a1) := by rw [cell_at hqi]; rfl
          have m1 : Wi.cell? ⟨fb, 1, none⟩ = some (.string ⟨#[]⟩) := by rw [cell_at hfi]; rfl
          have m2 : Wi.frozen? ⟨fb, 1, none⟩ = false := Lib.frozen_of_heap hfi 1
          obtain ⟨W8, hW8⟩ : ∃ W8, Wi.setCell ⟨fb, 1, none⟩ (str I) = W8 := ⟨_, rfl⟩
          have hn8 : W8.heap[fb]? = some (.cells #[str T, str I, .string ⟨#[]⟩, .slice none 0 0] 46 (0, 0)) := by
            rw [← hW8]; have := blk_set hfi 1 (str I); simpa using this
          have hq8 : W8.heap[qb]? = some (.cells #[.int .i64 a0, .int .i64 a1, .int .i64 a2, .int .i64 a3] 64 (0, 0)) := by rw [← hW8]; exact (far_set _ _ _ _ (by omega)).trans hqi
          have q2 : W8.cell? ⟨qb, 2, none⟩ = some (.int .i64 a2) := by rw [cell_at hq8]; rfl
          have hb8 : Below w5.heap.size w5 W8 := by
            rw [← hW8, Hfb.out]
            exact (Hb6.out.trans (hbi.mono (Nat.le_of_lt (lt_at Hn6.out)))).setCell (p := ⟨fb, 1, none⟩) (Nat.le_refl _) _
          have Hn8 := Lib.hid hn8
          have Hq8 := Lib.hid hq8
          have Hb8 := Lib.hid hb8
          have hw8s : fb < W8.heap.size := lt_at hn8
          have i7 : (ji : Int) < 8 := by omega
          have i8 : (0 : Int) ≤ (ji : Int) := by omega
          unfold indArr at hWi
          clear hIa hfi hqi hni hbi hn8 hq8 hb8 hct hjj hn3 hI q3 d0
          go_wp2_with fail
          refine (NI.out _).mono ?_
          rintro e W10 ⟨rfl, rfl⟩
          go_wp2_with fail
          refine (N3.out _).mono ?_
          rintro e W10 ⟨rfl, rfl⟩
          clear hIc m1 m2 hWi hW8 q1 q2 NI N3
          go_wp2_with fail
          go_loopw [8] (fun jv w2 => ∃ (k2 : Nat) (sv2 : Value), k2 ≤ 1 + n3 ∧ jv = .int .i64 k2 ∧ w2.heap[fb]? = some (.cells #[str T, str I, .string ⟨#[]⟩, sv2] 46 (0, 0)) ∧
            w2.ownsRow (fb + 1) 48 2 sv2 k2 (subCells (madeSubs a1 a2 a3 k2)) ∧ Below fb W8 w2) (fun jv _ => 1 + n3 - (intOf jv).toNat)
          case atStart => exact ⟨0, _, Nat.zero_le _, rfl, Hn8.out, World.ownsRow_nil _ _ _ _, Below.refl _ _⟩
          case round =>
            obtain ⟨k2, sv2, hk2, rfl, hnf, hown, hb⟩ := hrel
            have hqw := (hb.block qb hqf).trans Hq8.out
            have q1 : wr.cell? ⟨qb, 1, none⟩ = some (.int .i64 a1) := by rw [cell_at hqw]; rfl
            have q2 : wr.cell? ⟨qb, 2, none⟩ = some (.int .i64 a2) := by rw [cell_at hqw]; rfl
            have q3 : wr.cell? ⟨qb, 3, none⟩ = some (.int .i64 a3) := by rw [cell_at hqw]; rfl
            have hfw := lt_at hnf
            have Hown := Lib.hid hown
            have Hnf := Lib.hid hnf
            have Hb := Lib.hid hb
            clear hqw
            by_cases hlt2 : k2 < 1 + n3
            · obtain ⟨ta, tc, rfl⟩ := own_form hown
              have s3 : wr.cell? ⟨fb, 3, none⟩ = some (.slice ta k2 tc) := by rw [cell_at hnf]; rfl
              have s4 : wr.frozen? ⟨fb, 3, none⟩ = false := Lib.frozen_of_heap hnf 3
              have l2 : (k2 : Int) < 1 + (n3 : Int) := by omega
              have hd3 := tdiv_fits f2 (b := 3) (by decide)
              have N1 := Lib.hid (fun W => mod_c a1 3 (by decide) (by decide) f1 W)
              have hn1 := modN_lt (n := a1) (m := 3) (by decide)
              have HMS := Lib.hid (show madeS a1 a2 a3 k2 = ⟨codesL.getD (modN (IntKind.i64.wrap (a2.tdiv 3 + IntKind.i64.wrap ((k2 : Int) * (1 + (modN a1 3 : Int))))) 8) 0, textM (IntKind.i64.wrap (a3 + 3 * (k2 : Int)))⟩ from rfl)
              obtain ⟨D3, hD3⟩ : ∃ D3, a2.tdiv 3 = D3 := ⟨_, rfl⟩
              rw [hD3] at hd3 HMS
              have hd3' : IntKind.i64.wrap D3 = D3 := IntWalk.i64_in _ hd3
              obtain ⟨n1, hn1'⟩ : ∃ j, modN a1 3 = j := ⟨_, rfl⟩
              rw [hn1'] at N1 hn1 HMS
              have hw1 : IntKind.i64.wrap (1 + (n1 : Int)) = 1 + (n1 : Int) := IntWalk.i64_in _ ⟨by omega, by omega⟩
              have hw3 : IntKind.i64.wrap (3 * (k2 : Int)) = 3 * (k2 : Int) := IntWalk.i64_in _ ⟨by omega, by omega⟩
              obtain ⟨Y0, hY0⟩ : ∃ Y0, IntKind.i64.wrap ((k2 : Int) * (1 + (n1 : Int))) = Y0 := ⟨_, rfl⟩
              rw [hY0] at HMS
              obtain ⟨X, hX⟩ : ∃ X, IntKind.i64.wrap (D3 + Y0) = X := ⟨_, rfl⟩
              rw [hX] at HMS
              obtain ⟨Y, hY⟩ : ∃ Y, IntKind.i64.wrap (a3 + 3 * (k2 : Int)) = Y := ⟨_, rfl⟩
              rw [hY] at HMS
              have fX : Fits X := by rw [← hX]; exact wrap_fits _
              have fY : Fits Y := by rw [← hY]; exact wrap_fits _
              have NJ := Lib.hid (fun W => mod_c X 8 (by decide) (by decide) fX W)
              have NX := Lib.hid (fun W => text_c Y fY W)
              have hjc := modN_lt (n := X) (m := 8) (by decide)
              obtain ⟨jc, hjc'⟩ : ∃ j, modN X 8 = j := ⟨_, rfl⟩
              rw [hjc'] at hjc NJ HMS
              obtain ⟨t, ht⟩ : ∃ t, textM Y = t := ⟨_, rfl⟩
              rw [ht] at NX HMS
              have hcs : (ByteArray.mk #[97, 98, 99, 48, 97, 118, 120, 113]).size = 8 := rfl
              have hget : ∀ j (h : j < (ByteArray.mk #[97, 98, 99, 48, 97, 118, 120, 113]).size), (ByteArray.mk #[97, 98, 99, 48, 97, 118, 120, 113])[j]'h = codesL.getD j 0 := by
                intro j h
                rw [hcs] at h
                match j, h with
                | 0, _ => rfl
                | 1, _ => rfl
                | 2, _ => rfl
                | 3, _ => rfl
                | 4, _ => rfl
                | 5, _ => rfl
                | 6, _ => rfl
                | 7, _ => rfl
              have hgc := hget jc
              obtain ⟨c, hc'⟩ : ∃ c, codesL.getD jc 0 = c := ⟨_, rfl⟩
              rw [hc'] at hgc HMS
              have i11 : (jc : Int) < 8 := by omega
              have i12 : (0 : Int) ≤ (jc : Int) := by omega
              have hk23 : k2 ≤ 3 := by omega
              obtain ⟨i0', hi, hz0, hz1, hz2⟩ := info_parts infoSub
              have avf : Value.ownBlock (.slice ta k2 tc) ≠ some fb := fun e => absurd (Hown.out.lt fb e).1 (by omega)
              have avq : Value.ownBlock (.slice ta k2 tc) ≠ some qb := fun e => absurd (Hown.out.lt qb e).1 (by omega)
              clear hown hnf hb hn1' hjc' ht hc' hget hd3 fX fY
              go_wp2_with fail
              obtain ⟨S, hSd⟩ : ∃ S : World → Prop, S = (fun w' : World => w'.cell? ⟨fb, 3, none⟩ = some (.slice ta k2 tc) ∧ w'.cell? ⟨qb, 2, none⟩ = some (.int .i64 a2) ∧ w'.cell? ⟨qb, 1, none⟩ = some (.int .i64 a1) ∧ w'.cell? ⟨qb, 3, none⟩ = some (.int .i64 a3)) := ⟨_, rfl⟩
              have hS1 : ∀ w', S w' → w'.cell? ⟨fb, 3, none⟩ = some (.slice ta k2 tc) := fun w' h => by rw [hSd] at h; exact h.1
              have hS2 : ∀ w', S w' → w'.cell? ⟨qb, 2, none⟩ = some (.int .i64 a2) := fun w' h => by rw [hSd] at h; exact h.2.1
              have hS3 : ∀ w', S w' → w'.cell? ⟨qb, 1, none⟩ = some (.int .i64 a1) := fun w' h => by rw [hSd] at h; exact h.2.2.1
              have hS4 : ∀ w', S w' → w'.cell? ⟨qb, 3, none⟩ = some (.int .i64 a3) := fun w' h => by rw [hSd] at h; exact h.2.2.2
              have hS0 : S wr.drew := by rw [hSd]; exact ⟨s3, q2, q1, q3⟩
              have hSm : ∀ w' : World, (w'.cell? ⟨fb, 3, none⟩ = some (.slice ta k2 tc) ∧ w'.cell? ⟨qb, 2, none⟩ = some (.int .i64 a2) ∧ w'.cell? ⟨qb, 1, none⟩ = some (.int .i64 a1) ∧ w'.cell? ⟨qb, 3, none⟩ = some (.int .i64 a3)) → S w' := fun w5 h => by rw [hSd]; exact h
              clear hSd
              refine wp_region_C 24 25 S rfl rfl ?_
              refine wpAnyC_takeD 0 64 (.pointer (some ⟨fb, 3, none⟩)) rfl rfl rfl (by kernel_rfl) (by kernel_rfl) (by kernel_rfl) (by kernel_rfl) (fun _ _ _ h => h) (fun w5 hw5 => ?_) hS0 ?_
              · have z1 := hS1 w5 hw5; have z2 := hS2 w5 hw5; have z3 := hS3 w5 hw5; have z4 := hS4 w5 hw5
                simp only [List.getElem_toArray, List.getElem_cons_zero, List.getElem_cons_succ]
                go_simp
              simp only [Act.put, List.setIfInBounds_toArray, List.set_cons_zero, List.set_cons_succ]
              refine wpAnyC_takeD 1 65 (.slice ta k2 tc) rfl rfl rfl (by kernel_rfl) (by kernel_rfl) (by kernel_rfl) (by kernel_rfl) (fun _ _ _ h => h) (fun w5 hw5 => ?_) hS0 ?_
              · have z1 := hS1 w5 hw5; have z2 := hS2 w5 hw5; have z3 := hS3 w5 hw5; have z4 := hS4 w5 hw5
                simp only [List.getElem_toArray, List.getElem_cons_zero, List.getElem_cons_succ]
                go_simp
              simp only [Act.put, List.setIfInBounds_toArray, List.set_cons_zero, List.set_cons_succ]
              refine wpAnyC_takeD 2 66 (.pointer (some ⟨qb, 2, none⟩)) rfl rfl rfl (by kernel_rfl) (by kernel_rfl) (by kernel_rfl) (by kernel_rfl) (fun _ _ _ h => h) (fun w5 hw5 => ?_) hS0 ?_
              · have z1 := hS1 w5 hw5; have z2 := hS2 w5 hw5; have z3 := hS3 w5 hw5; have z4 := hS4 w5 hw5
                simp only [List.getElem_toArray, List.getElem_cons_zero, List.getElem_cons_succ]
                go_simp
              simp only [Act.put, List.setIfInBounds_toArray, List.set_cons_zero, List.set_cons_succ]
              refine wpAnyC_takeD 3 67 (.int .i64 a2) rfl rfl rfl (by kernel_rfl) (by kernel_rfl) (by kernel_rfl) (by kernel_rfl) (fun _ _ _ h => h) (fun w5 hw5 => ?_) hS0 ?_
              · have z1 := hS1 w5 hw5; have z2 := hS2 w5 hw5; have z3 := hS3 w5 hw5; have z4 := hS4 w5 hw5
                simp only [List.getElem_toArray, List.getElem_cons_zero, List.getElem_cons_succ]
                go_simp
              simp only [Act.put, List.setIfInBounds_toArray, List.set_cons_zero, List.set_cons_succ]
              refine wpAnyC_takeD 4 68 (.int .i64 D3) rfl rfl rfl (by kernel_rfl) (by kernel_rfl) (by kernel_rfl) (by kernel_rfl) (fun _ _ _ h => h) (fun w5 hw5 => ?_) hS0 ?_
              · have z1 := hS1 w5 hw5; have z2 := hS2 w5 hw5; have z3 := hS3 w5 hw5; have z4 := hS4 w5 hw5
                simp only [List.getElem_toArray, List.getElem_cons_zero, List.getElem_cons_succ]
                go_simp
              simp only [Act.put, List.setIfInBounds_toArray, List.set_cons_zero, List.set_cons_succ]
              refine wpAnyC_takeD 5 69 (.int .i64 k2) rfl rfl rfl (by kernel_rfl) (by kernel_rfl) (by kernel_rfl) (by kernel_rfl) (fun _ _ _ h => h) (fun w5 hw5 => ?_) hS0 ?_
              · have z1 := hS1 w5 hw5; have z2 := hS2 w5 hw5; have z3 := hS3 w5 hw5; have z4 := hS4 w5 hw5
                simp only [List.getElem_toArray, List.getElem_cons_zero, List.getElem_cons_succ]
                go_simp
              simp only [Act.put, List.setIfInBounds_toArray, List.set_cons_zero, List.set_cons_succ]
              refine wpAnyC_takeD 6 70 (.pointer (some ⟨qb, 1, none⟩)) rfl rfl rfl (by kernel_rfl) (by kernel_rfl) (by kernel_rfl) (by kernel_rfl) (fun _ _ _ h => h) (fun w5 hw5 => ?_) hS0 ?_
              · have z1 := hS1 w5 hw5; have z2 := hS2 w5 hw5; have z3 := hS3 w5 hw5; have z4 := hS4 w5 hw5
                simp only [List.getElem_toArray, List.getElem_cons_zero, List.getElem_cons_succ]
                go_simp
              simp only [Act.put, List.setIfInBounds_toArray, List.set_cons_zero, List.set_cons_succ]
              refine wpAnyC_takeD 7 71 (.int .i64 a1) rfl rfl rfl (by kernel_rfl) (by kernel_rfl) (by kernel_rfl) (by kernel_rfl) (fun _ _ _ h => h) (fun w5 hw5 => ?_) hS0 ?_
              · have z1 := hS1 w5 hw5; have z2 := hS2 w5 hw5; have z3 := hS3 w5 hw5; have z4 := hS4 w5 hw5
                simp only [List.getElem_toArray, List.getElem_cons_zero, List.getElem_cons_succ]
                go_simp
              simp only [Act.put, List.setIfInBounds_toArray, List.set_cons_zero, List.set_cons_succ]
              refine wpAnyC_takeD 14 78 (.pointer (some ⟨qb, 3, none⟩)) rfl rfl rfl (by kernel_rfl) (by kernel_rfl) (by kernel_rfl) (by kernel_rfl) (fun _ _ _ h => h) (fun w5 hw5 => ?_) hS0 ?_
              · have z1 := hS1 w5 hw5; have z2 := hS2 w5 hw5; have z3 := hS3 w5 hw5; have z4 := hS4 w5 hw5
                simp only [List.getElem_toArray, List.getElem_cons_zero, List.getElem_cons_succ]
                go_simp
              simp only [Act.put, List.setIfInBounds_toArray, List.set_cons_zero, List.set_cons_succ]
              refine wpAnyC_takeD 15 79 (.int .i64 a3) rfl rfl rfl (by kernel_rfl) (by kernel_rfl) (by kernel_rfl) (by kernel_rfl) (fun _ _ _ h => h) (fun w5 hw5 => ?_) hS0 ?_
              · have z1 := hS1 w5 hw5; have z2 := hS2 w5 hw5; have z3 := hS3 w5 hw5; have z4 := hS4 w5 hw5
                simp only [List.getElem_toArray, List.getElem_cons_zero, List.getElem_cons_succ]
                go_simp
              simp only [Act.put, List.setIfInBounds_toArray, List.set_cons_zero, List.set_cons_succ]
              refine wpAnyC_takeD 16 80 (.int .i64 k2) rfl rfl rfl (by kernel_rfl) (by kernel_rfl) (by kernel_rfl) (by kernel_rfl) (fun _ _ _ h => h) (fun w5 hw5 => ?_) hS0 ?_
              · have z1 := hS1 w5 hw5; have z2 := hS2 w5 hw5; have z3 := hS3 w5 hw5; have z4 := hS4 w5 hw5
                simp only [List.getElem_toArray, List.getElem_cons_zero, List.getElem_cons_succ]
                go_simp
              simp only [Act.put, List.setIfInBounds_toArray, List.set_cons_zero, List.set_cons_succ]
              refine wpAnyC_takeD 17 81 (.int .i64 (3 * (k2 : Int))) rfl rfl rfl (by kernel_rfl) (by kernel_rfl) (by kernel_rfl) (by kernel_rfl) (fun _ _ _ h => h) (fun w5 hw5 => ?_) hS0 ?_
              · have z1 := hS1 w5 hw5; have z2 := hS2 w5 hw5; have z3 := hS3 w5 hw5; have z4 := hS4 w5 hw5
                simp only [List.getElem_toArray, List.getElem_cons_zero, List.getElem_cons_succ]
                go_simp
              simp only [Act.put, List.setIfInBounds_toArray, List.set_cons_zero, List.set_cons_succ]
              refine wpAnyC_takeD 18 82 (.int .i64 Y) rfl rfl rfl (by kernel_rfl) (by kernel_rfl) (by kernel_rfl) (by kernel_rfl) (fun _ _ _ h => h) (fun w5 hw5 => ?_) hS0 ?_
              · have z1 := hS1 w5 hw5; have z2 := hS2 w5 hw5; have z3 := hS3 w5 hw5; have z4 := hS4 w5 hw5
                simp only [List.getElem_toArray, List.getElem_cons_zero, List.getElem_cons_succ]
                go_simp
              simp only [Act.put, List.setIfInBounds_toArray, List.set_cons_zero, List.set_cons_succ]
              refine wpAnyC_step (k := 8) rfl (by kernel_rfl) (fun K hK => ?_)
              rw [if_pos (by rfl)]
              go_wp2_with (go_at_call 25; refine (N1.out _).mono ?_; rintro e W2 ⟨rfl, rfl⟩)
              refine hK _ _ (fun _ => hS0) ?_
              clear hK
              refine wpAnyC_takeD 9 73 (.int .i64 (1 + (n1 : Int))) rfl rfl rfl (by kernel_rfl) (by kernel_rfl) (by kernel_rfl) (by kernel_rfl) (fun _ _ _ h => h) (fun w5 hw5 => ?_) hS0 ?_
              · have z1 := hS1 w5 hw5; have z2 := hS2 w5 hw5; have z3 := hS3 w5 hw5; have z4 := hS4 w5 hw5
                simp only [List.getElem_toArray, List.getElem_cons_zero, List.getElem_cons_succ]
                go_simp
              simp only [Act.put, List.setIfInBounds_toArray, List.set_cons_zero, List.set_cons_succ]
              refine wpAnyC_takeD 10 74 (.int .i64 Y0) rfl rfl rfl (by kernel_rfl) (by kernel_rfl) (by kernel_rfl) (by kernel_rfl) (fun _ _ _ h => h) (fun w5 hw5 => ?_) hS0 ?_
              · have z1 := hS1 w5 hw5; have z2 := hS2 w5 hw5; have z3 := hS3 w5 hw5; have z4 := hS4 w5 hw5
                simp only [List.getElem_toArray, List.getElem_cons_zero, List.getElem_cons_succ]
                go_simp
              simp only [Act.put, List.setIfInBounds_toArray, List.set_cons_zero, List.set_cons_succ]
              refine wpAnyC_takeD 11 75 (.int .i64 X) rfl rfl rfl (by kernel_rfl) (by kernel_rfl) (by kernel_rfl) (by kernel_rfl) (fun _ _ _ h => h) (fun w5 hw5 => ?_) hS0 ?_
              · have z1 := hS1 w5 hw5; have z2 := hS2 w5 hw5; have z3 := hS3 w5 hw5; have z4 := hS4 w5 hw5
                simp only [List.getElem_toArray, List.getElem_cons_zero, List.getElem_cons_succ]
                go_simp
              simp only [Act.put, List.setIfInBounds_toArray, List.set_cons_zero, List.set_cons_succ]
              refine wpAnyC_step (k := 12) rfl (by kernel_rfl) (fun K hK => ?_)
              rw [if_pos (by rfl)]
              go_wp2_with (go_at_call 25; refine (NJ.out _).mono ?_; rintro e W2 ⟨rfl, rfl⟩)
              refine hK _ _ (fun _ => hS0) ?_
              clear hK
              refine wpAnyC_takeD 13 77 (.int .u8 (c.toNat : Int)) rfl rfl rfl (by kernel_rfl) (by kernel_rfl) (by kernel_rfl) (by kernel_rfl) (fun _ _ _ h => h) (fun w5 hw5 => ?_) hS0 ?_
              · have z1 := hS1 w5 hw5; have z2 := hS2 w5 hw5; have z3 := hS3 w5 hw5; have z4 := hS4 w5 hw5
                simp only [List.getElem_toArray, List.getElem_cons_zero, List.getElem_cons_succ]
                go_simp
              simp only [Act.put, List.setIfInBounds_toArray, List.set_cons_zero, List.set_cons_succ]
              refine wpAnyC_step (k := 19) rfl (by kernel_rfl) (fun K hK => ?_)
              rw [if_pos (by rfl)]
              go_wp2_with (go_at_call 27; refine (NX.out _).mono ?_; rintro e W12 ⟨rfl, hb12⟩)
              have hbr : Below wr.heap.size wr W12 := below_tr ((Below.refl _ wr).drew) hb12
              have s3 := cell_below hbr (Nat.le_refl _) s3
              have q1 := cell_below hbr (Nat.le_refl _) q1
              have q2 := cell_below hbr (Nat.le_refl _) q2
              have q3 := cell_below hbr (Nat.le_refl _) q3
              have hS12 : S W12 := hSm _ ⟨s3, q2, q1, q3⟩
              have Hnf := Lib.hid (heap_below hbr (Nat.le_refl _) Hnf.out)
              have Hown := Lib.hid (own_bel Hown.out hbr)
              have Hb := Lib.hid (Hb.out.trans (hbr.mono (Nat.le_of_lt hfw)))
              have hfw12 := lt_at Hnf.out
              refine hK _ _ (fun _ => hS12) ?_
              clear hK hb12 hbr
              refine wpAnyC_takeD 20 84 (.agg #[.int .u8 (c.toNat : Int), str t]) rfl rfl rfl (by kernel_rfl) (by kernel_rfl) (by kernel_rfl) (by kernel_rfl) (fun _ _ _ h => h) (fun w5 hw5 => ?_) hS12 ?_
              · have z1 := hS1 w5 hw5; have z2 := hS2 w5 hw5; have z3 := hS3 w5 hw5; have z4 := hS4 w5 hw5
                simp only [List.getElem_toArray, List.getElem_cons_zero, List.getElem_cons_succ]
                go_simp
              simp only [Act.put, List.setIfInBounds_toArray, List.set_cons_zero, List.set_cons_succ]
              refine wpAnyC_step (k := 21) rfl (by kernel_rfl) (fun K hK => ?_)
              rw [if_pos (by rfl)]
              go_wp2_with fail
              refine hK _ _ (fun _ => hSm _ ⟨cell_al _ s3, cell_al _ q2, cell_al _ q1, cell_al _ q3⟩) ?_
              clear hK
              refine wpAnyC_step (k := 22) rfl (by kernel_rfl) (fun K hK => ?_)
              rw [if_pos (by rfl)]
              refine wp_append_lies _ _ _ _ (by rfl) (fb + 1) 48 i0' _ 2 24 Try.underlying44 hi hz0 hz1 hz2 rfl (by omega) _ k2 _ (by rfl) (Hown.out.alloc _) ⟨W12.heap.size, 0, none⟩ 1 1 [.int .u8 (c.toNat : Int), str t] (by rfl) (by rfl) (two_cells W12 _ _ _) (by simp [Value.oneCell']) (by omega) (by unfold maxLen; omega) (by omega) (by simp; omega) (W12.heap.size + 1) (by simp) ?_
              intro gg cap2 w4 hown4 hgrow hat hlt4
              simp only [Act.put, List.setIfInBounds_toArray, List.set_cons_zero, List.set_cons_succ]
              obtain ⟨hnf4, hfz4, hc4⟩ := fld_appN Hnf.out avf hgrow
              have hq14 := grown_cellN hgrow q1 avq
              have hq24 := grown_cellN hgrow q2 avq
              have hq34 := grown_cellN hgrow q3 avq
              refine hK _ _ (fun _ => hSm _ ⟨hc4, hq24, hq14, hq34⟩) ?_
              clear hK
              refine wpAnyC_step (k := 23) rfl (by kernel_rfl) (fun K hK => ?_)
              rw [if_pos (by rfl)]
              go_wp2_with fail
              refine hK _ _ (fun _ => hSm _ ⟨hc4, hq24, hq14, hq34⟩) ?_
              clear hK
              refine wpAnyC_step (k := 24) rfl (by kernel_rfl) (fun K hK => ?_)
              rw [if_pos (by rfl)]
              go_wp2_with fail
              refine hK _ _ (fun h => absurd (of_decide_eq_true h) (by decide)) ?_
              clear hK
              refine wpAnyC_done (by kernel_rfl) ?_
              clear hS0 hSm hS1 hS2 hS3 hS4 hS12
              obtain ⟨e1, e2, e3⟩ := fld_nextN (s := ⟨c, t⟩) Hb.out Hnf.out Hown.out hown4 hgrow (madeSubs_len a1 a2 a3 k2)
              rw [← HMS.out, ← madeSubs_snoc, madeSubs_len] at e2
              have E1 := Lib.hid e1
              have E2 := Lib.hid e2
              have E3 := Lib.hid e3
              clear e1 e2 e3 hown4 hgrow hnf4 hfz4 hc4 hq14 hq24 hq34 hat hlt4 hi hz0 hz1 hz2 avf avq s3 s4 q1 q2 q3
              go_wp2
              go_roundw
              case rel => exact ⟨k2 + 1, _, by omega, by go_num, E1.out, E2.out, E3.out⟩
              case measure => simp [intOf]; omega
            · have hk3 : k2 = 1 + n3 := by omega
              subst hk3
              obtain ⟨ta, tc, rfl⟩ := own_form hown
              have hb5w : Below w5.heap.size w5 wr := Hb8.out.trans (by rw [Hfb.out]; exact hb)
              have Hmk8 := Lib.hid (Hmk5.out.below hb5w)
              obtain ⟨-, -, s2, s5⟩ := Hmk8.out.rec_.cells
              have d0 : wr.cell? ⟨fb, 0, none⟩ = some (str T) := by rw [cell_at hnf]; rfl
              have d1 : wr.cell? ⟨fb, 1, none⟩ = some (str I) := by rw [cell_at hnf]; rfl
              have d2 : wr.cell? ⟨fb, 2, none⟩ = some (.string ⟨#[]⟩) := by rw [cell_at hnf]; rfl
              have d3 : wr.cell? ⟨fb, 3, none⟩ = some (.slice ta (1 + n3) tc) := by rw [cell_at hnf]; rfl
              have hsubw : wr.ownsRow (p + 1) 48 2 (.slice ta (1 + n3) tc) (madeSubs a1 a2 a3 (1 + n3)).length (subCells (madeSubs a1 a2 a3 (1 + n3))) := by
                rw [madeSubs_len]; exact own_le hown (by omega)
              have Hsubw := Lib.hid hsubw
              have nlt : ¬ (((1 + n3 : Nat) : Int) < 1 + (n3 : Int)) := by omega
              clear hnf hown hb hb5w q1 q2 q3 hlt2 hsubw
              obtain ⟨i0', hi, hz0, hz1, hz2⟩ := info_parts infoFld
              go_wp2_with (at_builtin; refine wpList_append_own _ rfl _ _ 30 rfl (p + 1) 46 i0' _ 4 72 Try.underlying30 hi hz0 hz1 hz2 rfl (by decide) _ _ _ rfl (Hmk8.out.rec_.2.alloc _) ⟨wr.heap.size, 0, none⟩ 1 1 [str T, str I, .string ⟨#[]⟩, .slice ta (1 + n3) tc] rfl rfl ?c1 ?c2 ?c3 ?c4 ?c5 ?_)
              case c2 => simp [Value.oneCell']
              case c3 => unfold maxLen; omega
              case c4 => omega
              case c5 => first | (have := lt_at Hmk8.out.rec_.1; simp; omega) | exact fld_cells wr _ _ _ _ _
              intro v' w8 hown8 hgrow _
              obtain ⟨na, nc, rfl⟩ := own_form hown8
              obtain ⟨y1, y2, hdone, -⟩ := Mk.app (f := (⟨T, I, [], madeSubs a1 a2 a3 (1 + n3)⟩ : FldM)) Hmk8.out hown8 hgrow Hsubw.out
              have hnx : (acc ++ [((⟨T, I, [], madeSubs a1 a2 a3 (1 + n3)⟩ : FldM), (.slice ta (1 + n3) tc : Value))]).map (fun q => q.1) = (l.take (k + 1)).map madeF := by
                rw [Htk.out, List.map_append]
                congr 1
                show [(⟨T, I, [], madeSubs a1 a2 a3 (1 + n3)⟩ : FldM)] = [madeF (a0, a1, a2, a3)]
                rw [HMF.out]
              have Hdone := Lib.hid hdone
              have Hnx := Lib.hid hnx
              clear hown8 hgrow hdone hnx hi hz0 hz1 hz2 d0 d1 d2 d3 s2 s5
              go_wp2
              go_roundw
              case rel =>
      
                first
                | exact ⟨k + 1, _, _, by omega, by omega, by go_num, Hnx.out, Hdone.out⟩
                | ((repeat apply Exists.intro)
                   refine ⟨⟨k + 1, _, _, by omega, by omega, ?_, Hnx.out, Hdone.out⟩, rfl⟩
                   go_num)
              case measure => simp [intOf]; omega
    · have hkk : k = l.length ∨ k = 20 := by omega
      have hfin : acc.map (·.1) = (l.take 20).map madeF := by
        rw [hacc]
        congr 1
        rcases hkk with h | h
        · rw [h, List.take_of_length_le (Nat.le_refl _), List.take_of_length_le (by omega)]
        · rw [h]
      obtain ⟨ta, tc, rfl⟩ := own_form hmk.rec_.2
      have hE := mk_end hmk (madeM l) (by unfold madeM; rw [hfin])
      obtain ⟨e1, ⟨c0, c1, c2⟩, ⟨r0, g0⟩, ⟨r1, g1⟩, r2, g2⟩ := hE
      obtain ⟨p0, p1, p2, -⟩ := hmk.rec_.cells
      unfold fin3 at e1 c0 c1 c2
      simp only [show ((97 : UInt8).toNat : Int) = 97 from rfl, show ((109 : UInt8).toNat : Int) = 109 from rfl] at e1 c0 c1 c2 r0 g0 r1 g1 r2 g2 p0 p1
      obtain ⟨Z, hZ⟩ : ∃ Z, ((wr.setCell ⟨R, 0, none⟩ (.int .u8 97)).setCell ⟨R, 1, none⟩ (.int .u8 109)).setCell ⟨R, 2, none⟩ (.slice ta acc.length tc) = Z := ⟨_, rfl⟩
      rw [hZ] at e1 c0 c1 c2
      have E1 := Lib.hid e1
      have n1 : ¬ (k : Int) < (l.length : Int) ∨ ((k : Int) < (l.length : Int) ∧ ¬ (k : Int) < 20) := by omega
      clear hmk e1 hfin hkk hacc hlt
      rcases n1 with n1 | ⟨n1, n2⟩
      · go_wp2
        refine bodyPost_ret (v := .agg #[.int .u8 97, .int .u8 109, .slice ta acc.length tc]) ?_ rfl E1.out
        simp [results, Try.results15, go_sem, c0, c1, c2]
      · go_wp2
        refine bodyPost_ret (v := .agg #[.int .u8 97, .int .u8 109, .slice ta acc.length tc]) ?_ rfl E1.out
        simp [results, Try.results15, go_sem, c0, c1, c2]
end Go.Proofs.Ytfccpepmjklodaa
