/-
  The reference's Bent: which record it makes.
-/
import Derived.Test.YtfccpepmjklodaaSBentM
import Derived.Deep.CutBlock
import Derived.Test.YtfccpepmjklodaaSRawM
import Derived.Laws.IdiomStrings
namespace Go.Proofs.Ytfccpepmjklodaa
open Go.RowKit Go.Shelf
set_option linter.unusedVariables false
set_option linter.unusedSimpArgs false

set_option maxRecDepth 100000 in
set_option maxHeartbeats 20000000 in
theorem bent_c (v : Value) (r : RecM) (q0 q1 q2 : Int) (w : World) (hv : RecV w v r) (hsm : r.fields.length ≤ 1000 ∧ ∀ f ∈ r.fields, f.subs.length ≤ 1000 ∧ f.tag.length ≤ 1000) (g0 : Fits q0) (g1 : Fits q1) (g2 : Fits q2) :
    Calls Try.prog 14 #[v, .agg #[.int .i64 q0, .int .i64 q1, .int .i64 q2]] w (MkPost w (bentM r q0 q1 q2)) := by
  obtain ⟨fv, rfl, hf⟩ := hv
  obtain ⟨fa, fc, rfl, hm, hc⟩ := id hf.slice
  have Hc := Lib.hid hc
  obtain ⟨kd, lv, fs⟩ := r
  simp only at hm Hc hf hsm ⊢
  obtain ⟨hsm, hsb⟩ := hsm
  have Hsb := Lib.hid hsb
  clear hc hsb
  obtain ⟨W1, hW1⟩ : ∃ W1, w.alloc (.cells #[.int .u8 (kd.toNat : Int), .int .u8 (lv.toNat : Int), .slice fa fs.length fc] 32) = W1 := ⟨_, rfl⟩
  have hs1 : W1.heap.size = w.heap.size + 1 := by rw [← hW1]; simp
  have hb1 : Below w.heap.size w W1 := by rw [← hW1]; exact below_new _ _
  have hn1 : W1.heap[w.heap.size]? = some (.cells #[.int .u8 (kd.toNat : Int), .int .u8 (lv.toNat : Int), .slice fa fs.length fc] 32 (0, 0)) := by rw [← hW1]; exact new_at _ _
  obtain ⟨W2, hW2⟩ : ∃ W2, W1.alloc (.cells #[.int .i64 q0, .int .i64 q1, .int .i64 q2] 29) = W2 := ⟨_, rfl⟩
  have hs2 : W2.heap.size = w.heap.size + 1 + 1 := by rw [← hW2, World.size_alloc, hs1]
  have hb2 : Below W1.heap.size W1 W2 := by rw [← hW2]; exact below_new _ _
  have hn2 : W2.heap[w.heap.size + 1]? = some (.cells #[.int .i64 q0, .int .i64 q1, .int .i64 q2] 29 (0, 0)) := by rw [← hW2, ← hs1]; exact new_at _ _
  obtain ⟨W3, hW3⟩ : ∃ W3, W2.alloc (.cells #[.int .u8 0, .int .u8 0, .slice none 0 0] 32) = W3 := ⟨_, rfl⟩
  have hs3 : W3.heap.size = w.heap.size + 1 + 1 + 1 := by rw [← hW3, World.size_alloc, hs2]
  have hb3 : Below W2.heap.size W2 W3 := by rw [← hW3]; exact below_new _ _
  have hn3 : W3.heap[w.heap.size + 1 + 1]? = some (.cells #[.int .u8 0, .int .u8 0, .slice none 0 0] 32 (0, 0)) := by rw [← hW3, ← hs2]; exact new_at _ _
  obtain ⟨W4, hW4⟩ : ∃ W4, W3.alloc (.cells #[.int .u8 (kd.toNat : Int), .int .u8 (lv.toNat : Int), .slice none 0 0] 32) = W4 := ⟨_, rfl⟩
  have hb4 : Below W3.heap.size W3 W4 := by rw [← hW4]; exact below_new _ _
  have hn4 : W4.heap[w.heap.size + 1 + 1 + 1]? = some (.cells #[.int .u8 (kd.toNat : Int), .int .u8 (lv.toNat : Int), .slice none 0 0] 32 (0, 0)) := by rw [← hW4, ← hs3]; exact new_at _ _
  have k1 := heap_below hb3 (Nat.le_refl _) (heap_below hb2 (Nat.le_refl _) hn1)
  have e0 : W3.cell? ⟨w.heap.size, 0, none⟩ = some (.int .u8 (kd.toNat : Int)) := by rw [cell_at k1]; rfl
  have e1 : W3.cell? ⟨w.heap.size, 1, none⟩ = some (.int .u8 (lv.toNat : Int)) := by rw [cell_at k1]; rfl
  have hB4 : BxB W4 w.heap.size kd lv (.slice fa fs.length fc) q0 q1 q2 := ⟨heap_below hb4 (Nat.le_refl _) k1, heap_below hb4 (Nat.le_refl _) (heap_below hb3 (Nat.le_refl _) hn2)⟩
  have hM4 : Mk w W4 (w.heap.size + 1 + 1) (w.heap.size + 1 + 1 + 1) kd lv [] (.slice none 0 0) :=
    ⟨⟨hn4, World.ownsRow_nil _ _ _ _⟩, fun q hq => by simp at hq, heap_below hb4 (Nat.le_refl _) hn3, below_tr (below_tr (below_tr hb1 hb2) hb3) hb4, by omega, by omega⟩
  obtain ⟨b, hb⟩ : ∃ k, w.heap.size = k := ⟨_, rfl⟩
  have HM4 := Lib.hid hM4
  have HB4 := Lib.hid hB4
  have HW4 := Lib.hid hW4
  have Hf := Lib.hid hf
  have Hb := Lib.hid hb
  clear hb1 hb2 hb3 hb4 hn1 hn2 hn3 hn4 k1 hW4 hM4 hB4 hf hb
  go_enter Try.func14, Try.ntmps14
  go_wp2_with fail
  rw [HW4.out]
  clear hW1 hW2 hW3 HW4 e0 e1 hs1 hs2 hs3
  go_loopw [6] (fun iv wr => ∃ (k : Nat) (acc : List (FldM × Value)) (sv : Value), k ≤ fs.length ∧ iv = .int .i64 k ∧ acc.map (·.1) = fs.take k ∧ Mk w wr (w.heap.size + 1 + 1) (w.heap.size + 1 + 1 + 1) kd lv acc sv ∧ Dist acc ∧ BxB wr w.heap.size kd lv (.slice fa fs.length fc) q0 q1 q2) (fun iv _ => fs.length - (intOf iv).toNat)
  case atStart => exact ⟨0, [], _, Nat.zero_le _, rfl, rfl, HM4.out, List.Pairwise.nil, HB4.out⟩
  case round =>
    obtain ⟨k, acc, sv, hk, rfl, hmap, hinv, hdist, hB⟩ := hrel
    clear HM4 HB4
    have hacc : acc.length = k := by
      have := congrArg List.length hmap
      rw [List.length_map, List.length_take] at this
      omega
    have hal : acc.length ≤ 1000 := by omega
    have Hacc := Lib.hid hacc
    clear hacc
    have t2 : wr.cell? ⟨w.heap.size, 2, none⟩ = some (.slice fa fs.length fc) := by rw [cell_at hB.r]; rfl
    by_cases hlt : k < fs.length
    · obtain ⟨bb, off, rfl, hbl, c0, c1, c2, s0, c3, hsub⟩ := Hc.out k hlt
      have c0 := cell_below hinv.bel (Nat.le_refl _) c0
      have c1 := cell_below hinv.bel (Nat.le_refl _) c1
      have c2 := cell_below hinv.bel (Nat.le_refl _) c2
      have c3 := cell_below hinv.bel (Nat.le_refl _) c3
      have hsub := hsub.below hinv.bel (Nat.le_refl _)
      have i0 : (0 : Int) ≤ (k : Int) := by omega
      have i1 : (k : Int) < (fs.length : Int) := by omega
      have htk := take_snoc fs k hlt
      have hsn := (Hsb.out fs[k] (List.getElem_mem hlt)).1
      obtain ⟨f, hfe⟩ : ∃ f, fs[k] = f := ⟨_, rfl⟩
      rw [hfe] at c0 c1 c2 hsub htk hsn
      obtain ⟨sa, sc, rfl, hsm1, -⟩ := id hsub.slice
      obtain ⟨W5, hW5⟩ : ∃ W5, wr.alloc (.cells #[str f.tag, str f.ind, str f.data, .slice sa f.subs.length sc] 46) = W5 := ⟨_, rfl⟩
      have hn5 : W5.heap[wr.heap.size]? = some (.cells #[str f.tag, str f.ind, str f.data, .slice sa f.subs.length sc] 46 (0, 0)) := by rw [← hW5]; exact new_at _ _
      have hz5 : W5.heap.size = wr.heap.size + 1 := by rw [← hW5]; simp
      have hb5 : Below wr.heap.size wr W5 := by rw [← hW5]; exact below_new _ _
      obtain ⟨fb, hfb⟩ : ∃ fb, wr.heap.size = fb := ⟨_, rfl⟩
      rw [hfb] at hn5 hz5
      have x3 : W5.cell? ⟨fb, 3, none⟩ = some (.slice sa f.subs.length sc) := by rw [cell_at hn5]; rfl
      have hlit := own_of_lit W5 (B := fb + 1) (by omega)
      rw [hz5] at hlit
      have hsub6 := (hsub.below hb5 (Nat.le_refl _)).below (below_new W5 (.cells #[] 48)) (Nat.le_refl _)
      have x36 : (W5.alloc (.cells #[] 48)).cell? ⟨fb, 3, none⟩ = some (.slice sa f.subs.length sc) := cell_below (below_new W5 _) (Nat.le_refl _) x3
      obtain ⟨i0', hi, hz0, hz1, hz2⟩ := info_parts infoSub
      have Hlit := Lib.hid hlit
      have Hsub6 := Lib.hid hsub6
      have Hinv := Lib.hid hinv
      have HB := Lib.hid hB
      have Hb5 := Lib.hid hb5
      have Hn5 := Lib.hid hn5
      have Hmap := Lib.hid hmap
      have Htk := Lib.hid htk
      have Hfb := Lib.hid hfb
      have Hdist := Lib.hid hdist
      clear hlit hsub6 hinv hB hb5 hn5 hmap htk hfe hsub hsm1 x3 hdist
      go_wp2_with (at_builtin; refine wpList_append_src _ rfl _ _ 44 rfl (fb + 1) 48 i0' _ 2 24 Try.underlying44 hi hz0 hz1 hz2 rfl (by decide) _ 0 [] rfl Hlit.out sa f.subs.length sc (subCells f.subs) rfl (subCells_size _) Hsub6.out.cells Hsub6.out.len.2 (subCells_one _) ?sa1 ?sa2 ?sa3 ?_)
      case sa1 => unfold maxLen; omega
      case sa2 => omega
      case sa3 => simp [hz5]
      intro v7 w7 hown7 hgrow7 hblk7
      obtain ⟨va, vc, rfl⟩ := own_form hown7
      have hz6 : (W5.alloc (.cells #[] 48)).heap.size = fb + 1 + 1 := by simp [hz5]
      have hb7 : Below wr.heap.size wr w7 := ((Hb5.out.alloc Hb5.out.size _).grown hgrow7 (by have := Hfb.out; omega) (fun g hg => by simp [Value.ownBlock] at hg; have := Hfb.out; omega))
      have hn7 : w7.heap[fb]? = some (.cells #[str f.tag, str f.ind, str f.data, .slice sa f.subs.length sc] 46 (0, 0)) := ((hgrow7.block fb (by omega) (fun e => by simp [Value.ownBlock] at e <;> omega)).trans ((below_new W5 _).block fb (by omega))).trans Hn5.out
      have y3 : w7.cell? ⟨fb, 3, none⟩ = some (.slice sa f.subs.length sc) := by rw [cell_at hn7]; rfl
      have y4 : w7.frozen? ⟨fb, 3, none⟩ = false := Lib.frozen_of_heap hn7 3
      obtain ⟨W8, hW8⟩ : ∃ W8, w7.setCell ⟨fb, 3, none⟩ (.slice va f.subs.length vc) = W8 := ⟨_, rfl⟩
      have hn8 : W8.heap[fb]? = some (.cells #[str f.tag, str f.ind, str f.data, .slice va f.subs.length vc] 46 (0, 0)) := by
        rw [← hW8]
        have := blk_set hn7 3 (.slice va f.subs.length vc)
        simpa using this
      have hb8 : Below wr.heap.size wr W8 := by rw [← hW8]; exact hb7.setCell (p := ⟨fb, 3, none⟩) (Nat.le_of_eq Hfb.out) _
      have hinv8 := Hinv.out.below hb8
      have hobf : w.heap.size + 1 + 1 + 1 < fb := by have := lt_at Hinv.out.rec_.1; have := Hfb.out; omega
      have hB8 := HB.out.below hb8 (by rw [Hfb.out]; omega)
      have hown8 : W8.ownsRow (w.heap.size + 1 + 1 + 1 + 1) 48 2 (.slice va f.subs.length vc) f.subs.length (subCells f.subs) := by
        rw [← hW8]
        exact own_le (own_same hown7 (fun g hg _ => far_set _ _ _ _ (by omega))) (by omega)
      have hdist8 : ∀ q ∈ acc, q.2.ownBlock = none ∨ q.2.ownBlock ≠ (Value.slice va f.subs.length vc).ownBlock := by
        intro q hq
        cases hqb : q.2.ownBlock with
        | none => exact .inl rfl
        | some g =>
          right
          have hg := ((Hinv.out.accs q hq).lt g hqb).2
          rw [Hfb.out] at hg
          rcases hblk7 with h | h
          · rw [h]; simp [Value.ownBlock]; omega
          · rw [h]; simp; omega
      have u0 : W8.cell? ⟨fb, 0, none⟩ = some (str f.tag) := by rw [cell_at hn8]; rfl
      have u1 : W8.cell? ⟨fb, 1, none⟩ = some (str f.ind) := by rw [cell_at hn8]; rfl
      have u2 : W8.cell? ⟨fb, 2, none⟩ = some (str f.data) := by rw [cell_at hn8]; rfl
      have u3 : W8.cell? ⟨fb, 3, none⟩ = some (.slice va f.subs.length vc) := by rw [cell_at hn8]; rfl
      obtain ⟨oa, oc, rfl⟩ := own_form hinv8.rec_.2
      obtain ⟨-, -, o2, o5⟩ := hinv8.rec_.cells
      obtain ⟨i1', hi1, hy0, hy1, hy2⟩ := info_parts infoFld
      have hsz8 : fb < W8.heap.size := lt_at hn8
      have Hinv8 := Lib.hid hinv8
      have HB8 := Lib.hid hB8
      have Hown8 := Lib.hid hown8
      have Hdist8 := Lib.hid hdist8
      clear hown7 hgrow7 hblk7 hz6 hb7 hn7 hn8 hb8 hinv8 hB8 hown8 hdist8 hi hz0 hz1 hz2 Hlit Hsub6 hW5 x36 c0 c1 c2 c3
      go_wp2_with (at_builtin; refine wpList_append_own _ rfl _ _ 30 rfl (w.heap.size + 1 + 1 + 1 + 1) 46 i1' _ 4 72 Try.underlying30 hi1 hy0 hy1 hy2 rfl (by decide) _ _ _ rfl (Hinv8.out.rec_.2.alloc _) ⟨W8.heap.size, 0, none⟩ 1 1 [str f.tag, str f.ind, str f.data, .slice va f.subs.length vc] rfl rfl ?sb1 ?sb2 ?sb3 ?sb4 ?sb5 ?_)
      case sb1 => exact fld_cells W8 _ _ _ _ _
      case sb2 => simp [Value.oneCell']
      case sb3 => unfold maxLen; omega
      case sb4 => omega
      case sb5 => simp; omega
      intro v9 w9 hown9 hgrow9 _
      obtain ⟨na, nc, rfl⟩ := own_form hown9
      obtain ⟨g1, g2, g3, g4⟩ := Mk.app (f := f) Hinv8.out hown9 hgrow9 Hown8.out
      have hd9 : Dist (acc ++ [(f, Value.slice va f.subs.length vc)]) := by
        unfold Dist
        rw [List.pairwise_append]
        exact ⟨Hdist.out, List.pairwise_singleton _ _, fun a ha b hb => by rw [List.mem_singleton.1 hb]; exact Hdist8.out a ha⟩
      have hB9 := HB8.out.below g4 (by omega)
      have HI9 := Lib.hid g3
      have HB9 := Lib.hid hB9
      have HD9 := Lib.hid hd9
      have Hmap9 := Lib.hid (show (acc ++ [(f, Value.slice va f.subs.length vc)]).map (·.1) = fs.take (k + 1) by rw [List.map_append, Hmap.out, Htk.out]; rfl)
      clear g3 g4 hd9 hB9 hown9 hgrow9 hi1 hy0 hy1 hy2 o2 o5 u0 u1 u2 u3 y3 y4 t2 hW8
      go_wp2
      go_roundw
      case rel => exact ⟨k + 1, acc ++ [(f, .slice va f.subs.length vc)], _, by omega, by go_num, Hmap9.out, HI9.out, HD9.out, HB9.out⟩
      case measure => simp [intOf]; omega
    · have hkn : k = fs.length := by omega
      subst hkn
      rw [List.take_length] at hmap
      have i1 : ¬ (fs.length : Int) < (fs.length : Int) := by omega
      by_cases hn0 : fs.length = 0
      · obtain ⟨oa, oc, rfl⟩ := own_form hinv.rec_.2
        have d0 : ((acc.length : Int) == 0) = true := by rw [beq_iff_eq]; have := Hacc.out; omega
        have hfs : fs = [] := List.length_eq_zero_iff.1 hn0
        have hrr : bentM ⟨kd, lv, fs⟩ q0 q1 q2 = ⟨kd, lv, acc.map (·.1)⟩ := by
          rw [hmap, hfs]; rfl
        clear hB hdist
        have hE := mk_end hinv (bentM ⟨kd, lv, fs⟩ q0 q1 q2) (hrr)
        obtain ⟨e1, ⟨c0, c1, c2⟩, ⟨r0, f0⟩, ⟨r1, f1⟩, r2, f2⟩ := hE
        obtain ⟨p0, p1, p2, -⟩ := hinv.rec_.cells
        unfold fin3 at e1 c0 c1 c2
        obtain ⟨Z, hZ⟩ : ∃ Z, ((wr.setCell ⟨w.heap.size + 1 + 1, 0, none⟩ (.int .u8 (kd.toNat : Int))).setCell ⟨w.heap.size + 1 + 1, 1, none⟩ (.int .u8 (lv.toNat : Int))).setCell ⟨w.heap.size + 1 + 1, 2, none⟩ (.slice oa acc.length oc) = Z := ⟨_, rfl⟩
        rw [hZ] at e1 c0 c1 c2
        have E1 := Lib.hid e1
        clear e1 hinv hmap hfs hn0 hrr
        go_wp2
        refine bodyPost_ret (v := .agg #[.int .u8 (kd.toNat : Int), .int .u8 (lv.toNat : Int), .slice oa acc.length oc]) ?_ rfl E1.out
        simp [results, Try.results14, go_sem, c0, c1, c2]
      have hne : acc ≠ [] := by intro e; have := Hacc.out; rw [e] at this; simp at this; omega
      obtain ⟨g, cap, rfl⟩ : ∃ g cap, sv = .slice (some ⟨g, 0, none⟩) acc.length cap := by
        rcases hinv.rec_.2.2 with ⟨_, h0⟩ | ⟨g, cap, cur, hv, _⟩
        · exact absurd (List.length_eq_zero_iff.1 h0) hne
        · exact ⟨g, cap, hv⟩
      have hpos : 0 < acc.length := by have := Hacc.out; omega
      have d0 : ((acc.length : Int) == 0) = false := by rw [beq_eq_false_iff_ne]; omega
      have MM := Lib.hid (fun W => mod_c q1 (acc.length : Int) (by omega) (by omega) g1 W)
      have hml := modN_lt (n := q1) (m := (acc.length : Int)) (by omega)
      have hbm : bentM ⟨kd, lv, fs⟩ q0 q1 q2 = ⟨kd, lv, fs.set (modN q1 (acc.length : Int)) (bentF (modN q0 9) q2 (fs.getD (modN q1 (acc.length : Int)) ⟨[], [], [], []⟩))⟩ := by
        unfold bentM
        rw [dif_pos (show 0 < fs.length by omega), Hacc.out]
      obtain ⟨m, hme⟩ : ∃ k, modN q1 (acc.length : Int) = k := ⟨_, rfl⟩
      rw [hme] at hml MM hbm
      have hma : m < acc.length := by omega
      have hmf : m < fs.length := by have := Hacc.out; omega
      have M9 := Lib.hid (fun W => mod_c q0 9 (by decide) (by decide) g0 W)
      have hj9 := modN_lt (n := q0) (m := 9) (by decide)
      obtain ⟨jm, hjm⟩ : ∃ k, modN q0 9 = k := ⟨_, rfl⟩
      rw [hjm] at hj9 M9 hbm
      have hslot := (hinv.but m).slot rfl m hma
      have hfm : acc[m].1 = fs[m] := by
        have h1 : (acc.map (·.1))[m]'(by rw [List.length_map]; exact hma) = fs[m] := by simp only [hmap]
        rw [List.getElem_map] at h1
        exact h1
      have hgd : fs.getD m ⟨[], [], [], []⟩ = fs[m] := by rw [List.getD_eq_getElem?_getD, List.getElem?_eq_getElem hmf]; rfl
      rw [hgd, ← hfm] at hbm
      have hsn := (Hsb.out fs[m] (List.getElem_mem hmf))
      rw [← hfm] at hsn
      have hsub := hinv.accs acc[m] (List.getElem_mem hma)
      obtain ⟨q, hq⟩ : ∃ q, acc[m] = q := ⟨_, rfl⟩
      have Hq := Lib.hid (show ∃ h : m < acc.length, acc[m] = q from ⟨hma, hq⟩)
      rw [hq] at hslot hbm hsn hsub
      obtain ⟨f, s⟩ := q
      simp only at hbm hsn hsub
      obtain ⟨ta, tc, rfl⟩ := own_form hsub
      have z0 : wr.cell? ⟨g, m * 4, none⟩ = some (str f.tag) := (hslot 0 (by omega)).1
      have z1 : wr.cell? ⟨g, m * 4 + 1, none⟩ = some (str f.ind) := (hslot 1 (by omega)).1
      have z2 : wr.cell? ⟨g, m * 4 + 2, none⟩ = some (str f.data) := (hslot 2 (by omega)).1
      have z3 : wr.cell? ⟨g, m * 4 + 3, none⟩ = some (.slice ta f.subs.length tc) := (hslot 3 (by omega)).1
      have a1 : wr.cell? ⟨w.heap.size + 1, 1, none⟩ = some (.int .i64 q1) := by rw [cell_at hB.q]; rfl
      obtain ⟨W9, hW9⟩ : ∃ W9, wr.alloc (.cells #[str f.tag, str f.ind, str f.data, .slice ta f.subs.length tc] 46) = W9 := ⟨_, rfl⟩
      have hb9 : Below wr.heap.size wr W9 := by rw [← hW9]; exact below_new _ _
      have hn9 : W9.heap[wr.heap.size]? = some (.cells #[str f.tag, str f.ind, str f.data, .slice ta f.subs.length tc] 46 (0, 0)) := by rw [← hW9]; exact new_at _ _
      have hB9 := hB.below hb9 (by have := lt_at hinv.rec_.1; omega)
      have a0 : W9.cell? ⟨w.heap.size + 1, 0, none⟩ = some (.int .i64 q0) := by rw [cell_at hB9.q]; rfl
      have hpf : w.heap.size + 1 + 1 + 1 < wr.heap.size := lt_at hinv.rec_.1
      have hM9 := (hinv.below hb9).but m
      have hs9 := own_bel hsub hb9
      obtain ⟨-, -, p2, -⟩ := hinv.rec_.cells
      have m0 : (0 : Int) ≤ (m : Int) := by omega
      have m1 : (m : Int) < (acc.length : Int) := by omega
      obtain ⟨f9, hf9⟩ : ∃ k, wr.heap.size = k := ⟨_, rfl⟩
      rw [hf9] at hn9 hpf
      have HM9 := Lib.hid hM9
      have Hs9 := Lib.hid hs9
      have Hn9 := Lib.hid hn9
      have HB9 := Lib.hid hB9
      have HW9 := Lib.hid hW9
      have Hbm := Lib.hid hbm
      have Hmap := Lib.hid hmap
      have Hdist := Lib.hid hdist
      have hgr : g ≠ f9 := by
        intro e
        have := (hinv.rec_.2.lt g rfl).2
        omega
      clear hslot hfm hgd hsub hq hb9 hn9 hB9 hM9 hs9 hbm hinv hmap hdist hB hme hjm hml hne
      go_wp2_with fail
      refine (MM.out _).mono ?_
      rintro e W2 ⟨rfl, rfl⟩
      go_wp2_with fail
      refine (M9.out _).mono ?_
      rintro e W2 ⟨rfl, rfl⟩
      go_upto_block 2 with fail
      go_cut [8] from 57 to 96 (fun s8 wx => s8 = .int .i64 m ∧ BentR w wx (w.heap.size + 1 + 1) (w.heap.size + 1 + 1 + 1) kd lv acc (.slice (some ⟨g, 0, none⟩) acc.length cap) m f9 (bentF jm q2 f))
      case first =>
        have c0 : W9.cell? ⟨f9, 0, none⟩ = some (str f.tag) := by rw [cell_at Hn9.out]; rfl
        have c1 : W9.cell? ⟨f9, 1, none⟩ = some (str f.ind) := by rw [cell_at Hn9.out]; rfl
        have c2 : W9.cell? ⟨f9, 2, none⟩ = some (str f.data) := by rw [cell_at Hn9.out]; rfl
        have c3 : W9.cell? ⟨f9, 3, none⟩ = some (.slice ta f.subs.length tc) := by rw [cell_at Hn9.out]; rfl
        have y0 : W9.frozen? ⟨f9, 0, none⟩ = false := Lib.frozen_of_heap Hn9.out 0
        have y1 : W9.frozen? ⟨f9, 1, none⟩ = false := Lib.frozen_of_heap Hn9.out 1
        have y2 : W9.frozen? ⟨f9, 2, none⟩ = false := Lib.frozen_of_heap Hn9.out 2
        have y3 : W9.frozen? ⟨f9, 3, none⟩ = false := Lib.frozen_of_heap Hn9.out 3
        have hgo : (Value.slice (some ⟨g, 0, none⟩) acc.length cap).ownBlock ≠ some f9 := by intro e; exact hgr (by simpa [Value.ownBlock] using e)
        have a2 : W9.cell? ⟨w.heap.size + 1, 2, none⟩ = some (.int .i64 q2) := by rw [cell_at HB9.out.q]; rfl
        have Hgo := Lib.hid hgo
        clear HW9 hgo z0 z1 z2 z3 a0 a1 p2
        by_cases j0 : jm = 0
        · have k0 : ((jm : Int) == 0) = true := by rw [beq_iff_eq]; omega
          have J0 := Lib.hid j0
          clear j0
          have HR := Lib.hid (show BentR w (W9.setCell ⟨f9, 1, none⟩ (.string ⟨#[49]⟩)) (w.heap.size + 1 + 1) (w.heap.size + 1 + 1 + 1) kd lv acc (.slice (some ⟨g, 0, none⟩) acc.length cap) m f9 (bentF jm q2 f) by
            rw [J0.out]
            exact bentR_set (f := bentF 0 q2 f) HM9.out Hn9.out (Hs9.out) hpf Hgo.out 1 _ rfl)
          go_wp2
          go_meet
          case rel => exact ⟨rfl, HR.out⟩
        have k0 : ((jm : Int) == 0) = false := by rw [beq_eq_false_iff_ne]; omega
        by_cases j1 : jm = 1
        · have k1 : ((jm : Int) == 1) = true := by rw [beq_iff_eq]; omega
          have J1 := Lib.hid j1
          clear j1
          have HR := Lib.hid (show BentR w (W9.setCell ⟨f9, 2, none⟩ (.string ⟨#[120]⟩)) (w.heap.size + 1 + 1) (w.heap.size + 1 + 1 + 1) kd lv acc (.slice (some ⟨g, 0, none⟩) acc.length cap) m f9 (bentF jm q2 f) by
            rw [J1.out]
            exact bentR_set (f := bentF 1 q2 f) HM9.out Hn9.out (Hs9.out) hpf Hgo.out 2 _ rfl)
          go_wp2
          go_meet
          case rel => exact ⟨rfl, HR.out⟩
        have k1 : ((jm : Int) == 1) = false := by rw [beq_eq_false_iff_ne]; omega
        by_cases j2 : jm = 2
        · have k2 : ((jm : Int) == 2) = true := by rw [beq_iff_eq]; omega
          have J2 := Lib.hid j2
          clear j2
          have HR := Lib.hid (show BentR w (W9.setCell ⟨f9, 3, none⟩ (.slice none 0 0)) (w.heap.size + 1 + 1) (w.heap.size + 1 + 1 + 1) kd lv acc (.slice (some ⟨g, 0, none⟩) acc.length cap) m f9 (bentF jm q2 f) by
            rw [J2.out]
            exact bentR_set (f := bentF 2 q2 f) HM9.out Hn9.out (World.ownsRow_nil _ _ _ _) hpf Hgo.out 3 _ rfl)
          go_wp2
          go_meet
          case rel => exact ⟨rfl, HR.out⟩
        have k2 : ((jm : Int) == 2) = false := by rw [beq_eq_false_iff_ne]; omega
        by_cases j3 : jm = 3
        · have k3 : ((jm : Int) == 3) = true := by rw [beq_iff_eq]; omega
          have J3 := Lib.hid j3
          clear j3
          obtain ⟨W10, hW10⟩ : ∃ x, W9.alloc (.cells #[.int .u8 ((byteOf q2).toNat : Int), .string ⟨#[121]⟩] 48) = x := ⟨_, rfl⟩
          have hb10 : Below W9.heap.size W9 W10 := by rw [← hW10]; exact below_new _ _
          have hn10 : W10.heap[W9.heap.size]? = some (.cells #[.int .u8 ((byteOf q2).toNat : Int), .string ⟨#[121]⟩] 48 (0, 0)) := by rw [← hW10]; exact new_at _ _
          have hs10 := own_bel Hs9.out hb10
          have hf10 := heap_below hb10 (Nat.le_refl _) Hn9.out
          have hM10 := HM9.out.below hb10
          have hq2 := byteOf_eq q2
          obtain ⟨i0', hi, hz0, hz1, hz2⟩ := info_parts infoSub
          have hnews : ∀ ad, (some (⟨W9.heap.size, 0, none⟩ : Addr)) = some ad → ∀ j u, [Value.int .u8 ((byteOf q2).toNat : Int), .string ⟨#[121]⟩][j]? = some u → W10.cell? (ad.add j) = some u := by
            intro ad had j u hu
            cases had
            exact cells_src hn10 j u hu
          have hsz10 : w.heap.size + 1 + 1 + 1 + 1 ≤ W10.heap.size := by have := lt_at hf10; omega
          have Hs10 := Lib.hid hs10
          have Hf10 := Lib.hid hf10
          have HM10 := Lib.hid hM10
          have Hnews := Lib.hid hnews
          have hs1000 := hsn.1
          clear hb10 hn10 hs10 hf10 hM10 hnews
          go_wp2_with (at_builtin; go_loud (refine wpList_append_src _ rfl _ _ 44 rfl (w.heap.size + 1 + 1 + 1 + 1) 48 i0' _ 2 24 Try.underlying44 hi hz0 hz1 hz2 rfl (by decide) _ f.subs.length (subCells f.subs) rfl Hs10.out (some ⟨W9.heap.size, 0, none⟩) 1 1 [.int .u8 ((byteOf q2).toNat : Int), .string ⟨#[121]⟩] rfl rfl Hnews.out (by intro h; cases h) ?sd1 ?sd2 ?sd3 ?sd4 ?_))
          case sd1 => simp [Value.oneCell']
          case sd2 => unfold maxLen; omega
          case sd3 => omega
          case sd4 => exact hsz10
          intro v11 w11 hown11 hgrow11 _
          obtain ⟨va, vc, rfl⟩ := own_form hown11
          have hf11 : w11.heap[f9]? = some (.cells #[str f.tag, str f.ind, str f.data, .slice ta f.subs.length tc] 46 (0, 0)) :=
            (hgrow11.block f9 (lt_at Hf10.out) (own_ty Hs10.out Hf10.out (by decide))).trans Hf10.out
          have hM11 : MkB w w11 (w.heap.size + 1 + 1) (w.heap.size + 1 + 1 + 1) kd lv acc (.slice (some ⟨g, 0, none⟩) acc.length cap) m := by
            refine HM10.out.keep hgrow11.size (HM10.out.bel.grown hgrow11 HM10.out.bel.size (fun k hk => ?_)) (fun k hk hk2 => hgrow11.block k hk (fun e => ?_))
            · have := (Hs10.out.lt k hk).1
              omega
            · have hk3 := (Hs10.out.lt k e.symm).1
              rcases hk2 with e2 | e2 | e2 | ⟨i, hil, hne, e2⟩
              · omega
              · omega
              · obtain ⟨cur, hcur⟩ : ∃ cur, W10.heap[g]? = some (.cells cur 46 (0, 0)) := (HM10.out.slot rfl m hma 0 (by omega)).2
                obtain rfl : k = g := by simpa [Value.ownBlock] using e2
                exact own_ty Hs10.out hcur (by decide) e
              · obtain ⟨hm2, hq2⟩ := Hq.out
                have := dist_ne Hdist.out hil hm2 hne e2
                rw [hq2] at this
                exact this e.symm
          have hown11' : w11.ownsRow (w.heap.size + 1 + 1 + 1 + 1) 48 2 (.slice va (f.subs.length + 1) vc) (bentF 3 q2 f).subs.length (subCells (bentF 3 q2 f).subs) := by
            show w11.ownsRow _ _ 2 _ (f.subs ++ [(⟨byteOf q2, [121]⟩ : SubM)]).length (subCells (f.subs ++ [(⟨byteOf q2, [121]⟩ : SubM)]))
            rw [List.length_append, subCells_snoc]
            exact hown11
          have x3 : w11.cell? ⟨f9, 3, none⟩ = some (.slice ta f.subs.length tc) := by rw [cell_at hf11]; rfl
          have x4 : w11.frozen? ⟨f9, 3, none⟩ = false := Lib.frozen_of_heap hf11 3
          have HR := Lib.hid (show BentR w (w11.setCell ⟨f9, 3, none⟩ (.slice va (f.subs.length + 1) vc)) (w.heap.size + 1 + 1) (w.heap.size + 1 + 1 + 1) kd lv acc (.slice (some ⟨g, 0, none⟩) acc.length cap) m f9 (bentF jm q2 f) by
            rw [J3.out]
            exact bentR_set (f := bentF 3 q2 f) hM11 hf11 hown11' hpf Hgo.out 3 _ rfl)
          clear hf11 hM11 hown11' hown11 hgrow11 hW10 hi hz0 hz1 hz2
          go_wp2
          go_meet
          case rel => exact ⟨rfl, HR.out⟩
        have k3 : ((jm : Int) == 3) = false := by rw [beq_eq_false_iff_ne]; omega
        by_cases j4 : jm = 4
        · have k4 : ((jm : Int) == 4) = true := by rw [beq_iff_eq]; omega
          have J4 := Lib.hid j4
          clear j4
          have NT := Lib.hid (fun W => tag_c q2 g2 W)
          obtain ⟨T, hT⟩ : ∃ T, tagM q2 = T := ⟨_, rfl⟩
          rw [hT] at NT
          have HT := Lib.hid hT
          clear hT
          go_wp2_with fail
          refine (NT.out _).mono ?_
          rintro e W10 ⟨rfl, hb10⟩
          have hf10 := heap_below hb10 (Nat.le_refl _) Hn9.out
          have x0 : W10.cell? ⟨f9, 0, none⟩ = some (str f.tag) := by rw [cell_at hf10]; rfl
          have x1 : W10.frozen? ⟨f9, 0, none⟩ = false := Lib.frozen_of_heap hf10 0
          have HR := Lib.hid (show BentR w (W10.setCell ⟨f9, 0, none⟩ (str T)) (w.heap.size + 1 + 1) (w.heap.size + 1 + 1 + 1) kd lv acc (.slice (some ⟨g, 0, none⟩) acc.length cap) m f9 (bentF jm q2 f) by
            rw [J4.out]
            exact bentR_set (f := bentF 4 q2 f) (HM9.out.below hb10) hf10 (own_bel Hs9.out hb10) hpf Hgo.out 0 _ (by show _ = #[str (tagM q2), _, _, _]; rw [HT.out]; rfl))
          clear hf10 hb10
          go_wp2
          go_meet
          case rel => exact ⟨rfl, HR.out⟩
        have k4 : ((jm : Int) == 4) = false := by rw [beq_eq_false_iff_ne]; omega
        by_cases j5 : jm = 5
        · have k5 : ((jm : Int) == 5) = true := by rw [beq_iff_eq]; omega
          have J5 := Lib.hid j5
          clear j5
          have hq2 := byteOf_eq q2
          obtain ⟨W10, hW10⟩ : ∃ x, W9.alloc (.cells #[.int .u8 ((byteOf q2).toNat : Int), .int .u8 32] 5) = x := ⟨_, rfl⟩
          have hb10 : Below W9.heap.size W9 W10 := by rw [← hW10]; exact below_new _ _
          have hn10 : W10.heap[W9.heap.size]? = some (.cells #[.int .u8 ((byteOf q2).toNat : Int), .int .u8 32] 5 (0, 0)) := by rw [← hW10]; exact new_at _ _
          have hconv : (convert 63 9 (.slice (some ⟨W9.heap.size, 0, none⟩) 2 2)).run Try.prog W10 = .ok (str [byteOf q2, 32]) W10 := by
            exact run_convert_bytes_back (P := Try.prog) W10 63 9 5 ⟨W9.heap.size, 0, none⟩ 2 [byteOf q2, 32] Try.underlying63 Try.underlying5 Try.underlying9 (fun j hj => by
              rw [add_off, Nat.zero_add, cell_at hn10]
              match j, hj with
              | 0, _ => rfl
              | 1, _ => rfl)
          have hf10 := heap_below hb10 (Nat.le_refl _) Hn9.out
          have x0 : W10.cell? ⟨f9, 1, none⟩ = some (str f.ind) := by rw [cell_at hf10]; rfl
          have x1 : W10.frozen? ⟨f9, 1, none⟩ = false := Lib.frozen_of_heap hf10 1
          have HR := Lib.hid (show BentR w (W10.setCell ⟨f9, 1, none⟩ (str [byteOf q2, 32])) (w.heap.size + 1 + 1) (w.heap.size + 1 + 1 + 1) kd lv acc (.slice (some ⟨g, 0, none⟩) acc.length cap) m f9 (bentF jm q2 f) by
            rw [J5.out]
            exact bentR_set (f := bentF 5 q2 f) (HM9.out.below hb10) hf10 (own_bel Hs9.out hb10) hpf Hgo.out 1 _ rfl)
          clear hf10 hb10 hn10
          go_wp2
          go_meet
          case rel => exact ⟨rfl, HR.out⟩
        have k5 : ((jm : Int) == 5) = false := by rw [beq_eq_false_iff_ne]; omega
        by_cases j6 : jm = 6
        · have k6 : ((jm : Int) == 6) = true := by rw [beq_iff_eq]; omega
          have J6 := Lib.hid j6
          clear j6
          have hadd := fun W => add_str f.tag [48] (by simp; omega) W
          have HR := Lib.hid (show BentR w (W9.setCell ⟨f9, 0, none⟩ (str (f.tag ++ [48]))) (w.heap.size + 1 + 1) (w.heap.size + 1 + 1 + 1) kd lv acc (.slice (some ⟨g, 0, none⟩) acc.length cap) m f9 (bentF jm q2 f) by
            rw [J6.out]
            exact bentR_set (f := bentF 6 q2 f) HM9.out Hn9.out Hs9.out hpf Hgo.out 0 _ rfl)
          go_wp2
          go_meet
          case rel => exact ⟨rfl, HR.out⟩
        have k6 : ((jm : Int) == 6) = false := by rw [beq_eq_false_iff_ne]; omega
        have hbf : bentF jm q2 f = f := by
          match jm, j0, j1, j2, j3, j4, j5, j6 with
          | 0, h, _, _, _, _, _, _ => exact absurd rfl h
          | 1, _, h, _, _, _, _, _ => exact absurd rfl h
          | 2, _, _, h, _, _, _, _ => exact absurd rfl h
          | 3, _, _, _, h, _, _, _ => exact absurd rfl h
          | 4, _, _, _, _, h, _, _ => exact absurd rfl h
          | 5, _, _, _, _, _, h, _ => exact absurd rfl h
          | 6, _, _, _, _, _, _, h => exact absurd rfl h
          | n + 7, _, _, _, _, _, _, _ => rfl
        have HR := Lib.hid (show BentR w W9 (w.heap.size + 1 + 1) (w.heap.size + 1 + 1 + 1) kd lv acc (.slice (some ⟨g, 0, none⟩) acc.length cap) m f9 (bentF jm q2 f) by rw [hbf]; exact ⟨_, Hn9.out, Hs9.out, HM9.out⟩)
        clear hbf
        go_wp2
        go_meet
        case rel => exact ⟨rfl, HR.out⟩
      case rest =>
        obtain ⟨rfl, s', hf9', hs9', hM9'⟩ := hcut
        obtain ⟨fx, hfx⟩ : ∃ x, bentF jm q2 f = x := ⟨_, rfl⟩
        rw [hfx] at hf9' hs9' Hbm
        obtain ⟨ta2, tc2, rfl⟩ := own_form hs9'
        have hsl := hM9'.slot rfl m hma
        have z0 := (hsl 0 (by omega)).1
        have z1 := (hsl 1 (by omega)).1
        have z2 := (hsl 2 (by omega)).1
        have z3 := (hsl 3 (by omega)).1
        obtain ⟨cur, hcur⟩ := (hsl 0 (by omega)).2
        have z0 : wc.cell? ⟨g, m * 4, none⟩ = some (str acc[m].1.tag) := z0
        obtain ⟨y0, ⟨v1, y1⟩, ⟨v2, y2⟩, v3, y3⟩ := row_store (x0 := str acc[m].1.tag) hcur z1 z2 z3 (str fx.tag) (str fx.ind) (str fx.data)
        have c0 : wc.cell? ⟨f9, 0, none⟩ = some (str fx.tag) := by rw [cell_at hf9']; rfl
        have c1 : wc.cell? ⟨f9, 1, none⟩ = some (str fx.ind) := by rw [cell_at hf9']; rfl
        have c2 : wc.cell? ⟨f9, 2, none⟩ = some (str fx.data) := by rw [cell_at hf9']; rfl
        have c3 : wc.cell? ⟨f9, 3, none⟩ = some (.slice ta2 fx.subs.length tc2) := by rw [cell_at hf9']; rfl
        have hMk := hM9'.fin rfl hma fx (.slice ta2 fx.subs.length tc2) hs9'
        obtain ⟨-, -, p2, -⟩ := hM9'.rec_.cells
        obtain ⟨X, hX⟩ : ∃ X, (((wc.setCell ⟨g, m * 4, none⟩ (str fx.tag)).setCell ⟨g, m * 4 + 1, none⟩ (str fx.ind)).setCell ⟨g, m * 4 + 2, none⟩ (str fx.data)).setCell ⟨g, m * 4 + 3, none⟩ (.slice ta2 fx.subs.length tc2) = X := ⟨_, rfl⟩
        rw [hX] at hMk
        have hrr : bentM ⟨kd, lv, fs⟩ q0 q1 q2 = ⟨kd, lv, (acc.set m (fx, .slice ta2 fx.subs.length tc2)).map (·.1)⟩ := by
          rw [Hbm.out, List.map_set, Hmap.out]
        have HMk := Lib.hid hMk
        have Hrr := Lib.hid hrr
        clear hf9' hs9' hM9' hsl hcur hMk hrr hfx
        have hE := mk_end HMk.out (bentM ⟨kd, lv, fs⟩ q0 q1 q2) Hrr.out
        obtain ⟨e1, ⟨d0, d1, d2⟩, ⟨r0, x0⟩, ⟨r1, x1⟩, r2, x2⟩ := hE
        obtain ⟨l0, l1, l2, -⟩ := HMk.out.rec_.cells
        unfold fin3 at e1 d0 d1 d2
        obtain ⟨Z, hZ⟩ : ∃ Z, ((X.setCell ⟨w.heap.size + 1 + 1, 0, none⟩ (.int .u8 (kd.toNat : Int))).setCell ⟨w.heap.size + 1 + 1, 1, none⟩ (.int .u8 (lv.toNat : Int))).setCell ⟨w.heap.size + 1 + 1, 2, none⟩ (.slice (some ⟨g, 0, none⟩) acc.length cap) = Z := ⟨_, rfl⟩
        rw [hZ] at e1 d0 d1 d2
        have E1 := Lib.hid e1
        clear e1 hgr
        go_wp2
        refine bodyPost_ret (v := .agg #[.int .u8 (kd.toNat : Int), .int .u8 (lv.toNat : Int), .slice (some ⟨g, 0, none⟩) acc.length cap]) ?_ rfl E1.out
        simp [results, Try.results14, go_sem, d0, d1, d2]
end Go.Proofs.Ytfccpepmjklodaa
