/-
  The reference's Spoiled: a record of a size that is bounded.
-/
import Derived.Test.YtpfnmjcomdckgaaDoorRSpoF
import Derived.Test.YtpfnmjcomdckgaaDoorRLong
import Derived.Test.YtpfnmjcomdckgaaDoorRFloat
import Derived.Test.YtpfnmjcomdckgaaDoorRKept
import Derived.Deep.RegionWith
import Derived.Deep.Cut
namespace Go.Proofs.YtpfnmjcomdckgaaDoor
open Go.RowKit Go.Shelf
set_option linter.unusedVariables false
set_option linter.unusedSimpArgs false

/-- What came in, and the result, as they lie. -/
structure SpB (W : World) (b : Nat) (kd lv : UInt8) (fv : Value) (q0 q1 q2 : Int) : Prop where
  r : W.heap[b]? = some (.cells #[.int .u8 (kd.toNat : Int), .int .u8 (lv.toNat : Int), fv] 27 (0, 0))
  q : W.heap[b + 1]? = some (.cells #[.int .i64 q0, .int .i64 q1, .int .i64 q2] 23 (0, 0))
  z : W.heap[b + 1 + 1]? = some (.cells #[.int .u8 0, .int .u8 0, .slice none 0 0] 27 (0, 0))
theorem SpB.below {W W' : World} {b : Nat} {kd lv : UInt8} {fv : Value} {q0 q1 q2 : Int} (h : SpB W b kd lv fv q0 q1 q2) (hb : Below W.heap.size W W') : SpB W' b kd lv fv q0 q1 q2 := ⟨heap_below hb h.r, heap_below hb h.q, heap_below hb h.z⟩
theorem SpB.keep {W W' : World} {b : Nat} {kd lv : UInt8} {fv : Value} {q0 q1 q2 : Int} (h : SpB W b kd lv fv q0 q1 q2) (hk : ∀ g, g ≤ b + 1 + 1 → W'.heap[g]? = W.heap[g]?) : SpB W' b kd lv fv q0 q1 q2 :=
  ⟨(hk b (by omega)).trans h.r, (hk (b + 1) (by omega)).trans h.q, (hk _ (Nat.le_refl _)).trans h.z⟩
def SpPost (S : Nat) (w : World) (e : Ending) (w' : World) : Prop := ∃ v r', e = .returned v ∧ RecV w' v r' ∧ SizeOk S r' ∧ Below w.heap.size w w' ∧ KeptV w.heap.size w' v r'
theorem spb_new (w : World) (kd lv : UInt8) (fv : Value) (q0 q1 q2 : Int) : ∃ W2, ((w.alloc (.cells #[.int .u8 (kd.toNat : Int), .int .u8 (lv.toNat : Int), fv] 27)).alloc (.cells #[.int .i64 q0, .int .i64 q1, .int .i64 q2] 23)).alloc (.cells #[.int .u8 0, .int .u8 0, .slice none 0 0] 27) = W2 ∧
    SpB W2 w.heap.size kd lv fv q0 q1 q2 ∧ Below w.heap.size w W2 ∧ W2.heap.size = w.heap.size + 1 + 1 + 1 := by
  obtain ⟨A, hA⟩ : ∃ A, w.alloc (.cells #[.int .u8 (kd.toNat : Int), .int .u8 (lv.toNat : Int), fv] 27) = A := ⟨_, rfl⟩
  have a1 : A.heap[w.heap.size]? = some (.cells #[.int .u8 (kd.toNat : Int), .int .u8 (lv.toNat : Int), fv] 27 (0, 0)) := by rw [← hA]; exact new_at _ _
  have a2 : A.heap.size = w.heap.size + 1 := by rw [← hA]; simp
  have a3 : Below w.heap.size w A := by rw [← hA]; exact below_new _ _
  rw [hA]
  obtain ⟨B, hB⟩ : ∃ B, A.alloc (.cells #[.int .i64 q0, .int .i64 q1, .int .i64 q2] 23) = B := ⟨_, rfl⟩
  have b1 : B.heap[A.heap.size]? = some (.cells #[.int .i64 q0, .int .i64 q1, .int .i64 q2] 23 (0, 0)) := by rw [← hB]; exact new_at _ _
  have b2 : B.heap.size = A.heap.size + 1 := by rw [← hB]; simp
  have b3 : Below A.heap.size A B := by rw [← hB]; exact below_new _ _
  rw [hB]
  have c3 : Below B.heap.size B (B.alloc (.cells #[.int .u8 0, .int .u8 0, .slice none 0 0] 27)) := below_new _ _
  have c1 : (B.alloc (.cells #[.int .u8 0, .int .u8 0, .slice none 0 0] 27)).heap[B.heap.size]? = some (.cells #[.int .u8 0, .int .u8 0, .slice none 0 0] 27 (0, 0)) := new_at _ _
  rw [a2] at b1
  rw [b2, a2] at c1
  exact ⟨_, rfl, ⟨heap_below c3 (heap_below b3 a1), heap_below c3 b1, c1⟩, a3.trans ((b3.mono a3.size).trans (c3.mono (Nat.le_trans a3.size b3.size))), by simp [b2, a2]⟩
theorem subsN_end (l : List SubM) (s : SubM) : subsN (l ++ [s]) = subsN l + (2 + s.text.length) := by
  unfold subsN
  simp
theorem subsN_len (l : List SubM) : l.length ≤ subsN l := by
  induction l with
  | nil => simp
  | cons a r ih => unfold subsN at *; simp only [List.map_cons, List.sum_cons, List.length_cons]; omega
theorem fieldsN_rep (fs : List FldM) (k : Nat) (f : FldM) : fieldsN (fs ++ List.replicate k f) = fieldsN fs + k * sizeF f := by
  unfold fieldsN
  simp
theorem rep_ok {S : Nat} {fs : List FldM} (hS : 26 + 12 * fs.length + fieldsN fs ≤ S ∧ ∀ f ∈ fs, f.tag.length ≤ 4) (k : Nat) (hk : k ≤ 1010) (a b : UInt8) : SizeOk (S + 30000) ⟨a, b, fs ++ List.replicate k ⟨[48, 48, 51], [], [100], []⟩⟩ := by
  refine ⟨?_, fun g hg => ?_⟩
  · have h := fieldsN_rep fs k ⟨[48, 48, 51], [], [100], []⟩
    have h2 : sizeF ⟨[48, 48, 51], [], [100], []⟩ = 2 := by decide
    rw [h2] at h
    unfold sizeR sizeH
    simp only [List.length_append, List.length_replicate]
    omega
  · rcases List.mem_append.1 hg with hg | hg
    · exact hS.2 g hg
    · rw [List.eq_of_mem_replicate hg]; decide
theorem app_ok {S : Nat} {fs : List FldM} (hS : 26 + 12 * fs.length + fieldsN fs ≤ S ∧ ∀ f ∈ fs, f.tag.length ≤ 4) (f : FldM) (hf : sizeF f ≤ 20000) (ht : f.tag.length ≤ 4) (a b : UInt8) : SizeOk (S + 30000) ⟨a, b, fs ++ [f]⟩ := by
  refine ⟨?_, fun g hg => ?_⟩
  · unfold sizeR sizeH fieldsN
    have := hS.1
    unfold fieldsN at this
    simp only [List.length_append, List.length_singleton, List.map_append, List.sum_append, List.map_cons, List.map_nil, List.sum_cons, List.sum_nil]
    omega
  · rcases List.mem_append.1 hg with hg | hg
    · exact hS.2 g hg
    · rw [List.mem_singleton.1 hg]; exact ht
/-- The row of the record that is changed, which is not empty: its block and the cells of one field. -/
theorem sp_row {w W : World} {ob : Nat} {kd lv : UInt8} {acc : List (FldM × Value)} {sv : Value} (h : SpI w W ob kd lv acc sv) (hn : acc.length ≠ 0) :
    ∃ g cap, sv = .slice (some ⟨g, 0, none⟩) acc.length cap ∧ ob + 1 ≤ g ∧ g < W.heap.size ∧ ∀ m (hm : m < acc.length) j, j < 4 → W.cell? ⟨g, m * 4 + j, none⟩ = [str acc[m].1.tag, str acc[m].1.ind, str acc[m].1.data, acc[m].2][j]? ∧ W.frozen? ⟨g, m * 4 + j, none⟩ = false := by
  rcases h.rec_.2.2 with ⟨_, h0⟩ | ⟨g, cap, cur, hv, hb, hg, hle, hmx, hsz, htk⟩
  · exact absurd h0 hn
  · refine ⟨g, cap, hv, hb, lt_at hg, fun m hm j hj => ⟨?_, Lib.frozen_of_heap hg _⟩⟩
    obtain ⟨k0, k1, k2, k3⟩ := fld_cell acc m hm
    have hi : m * 4 + j < acc.length * 4 := by omega
    have hc : W.cell? ⟨g, m * 4 + j, none⟩ = (fldCells acc)[m * 4 + j]? := by
      rw [cell_at hg, ← htk, List.getElem?_take_of_lt hi, Array.getElem?_toList]
    rw [hc]
    match j, hj with
    | 0, _ => exact k0
    | 1, _ => exact k1
    | 2, _ => exact k2
    | 3, _ => exact k3
/-- The end: what is returned. -/
theorem sp_done {S : Nat} {w W : World} {kd lv : UInt8} {acc : List (FldM × Value)} {sv : Value} (hI : SpI w W (w.heap.size + 1 + 1 + 1) kd lv acc sv) (hz : W.heap[w.heap.size + 1 + 1]? = some (.cells #[.int .u8 0, .int .u8 0, .slice none 0 0] 27 (0, 0))) (fs : List FldM) (hfs : acc.map (fun p => p.1) = fs) (hS : SizeOk S ⟨kd, lv, fs⟩) :
    SpPost S w (.returned (.agg #[.int .u8 (kd.toNat : Int), .int .u8 (lv.toNat : Int), sv])) (fin3 W (w.heap.size + 1 + 1) (.int .u8 (kd.toNat : Int)) (.int .u8 (lv.toNat : Int)) sv) ∧
    (fin3 W (w.heap.size + 1 + 1) (.int .u8 (kd.toNat : Int)) (.int .u8 (lv.toNat : Int)) sv).cell? ⟨w.heap.size + 1 + 1, 0, none⟩ = some (.int .u8 (kd.toNat : Int)) ∧
    (fin3 W (w.heap.size + 1 + 1) (.int .u8 (kd.toNat : Int)) (.int .u8 (lv.toNat : Int)) sv).cell? ⟨w.heap.size + 1 + 1, 1, none⟩ = some (.int .u8 (lv.toNat : Int)) ∧
    (fin3 W (w.heap.size + 1 + 1) (.int .u8 (kd.toNat : Int)) (.int .u8 (lv.toNat : Int)) sv).cell? ⟨w.heap.size + 1 + 1, 2, none⟩ = some sv := by
  subst hfs
  obtain ⟨h1, h2, h3, h4, h5⟩ := sp_fin hI hz (by omega)
  refine ⟨⟨_, _, rfl, h2, hS, h1, fun W2 h6 => ?_⟩, h3, h4, h5⟩
  have h7 : ∀ g, w.heap.size + 1 + 1 < g → W2.heap[g]? = W.heap[g]? := fun g hg => by
    rw [h6 g (by omega)]
    unfold fin3
    rw [far_set _ _ 2 _ (by omega), far_set _ _ 1 _ (by omega), far_set _ _ 0 _ (by omega)]
  have hrec2 : RecO W2 (w.heap.size + 1 + 1 + 1) kd lv acc sv := ⟨(h7 _ (by omega)).trans hI.rec_.1, own_same hI.rec_.2 (fun g hg _ => h7 g (by omega))⟩
  exact hrec2.recV (fun q hq => subs_of_own (own_same (hI.subs q hq) (fun g hg _ => h7 g (by omega))))
set_option maxRecDepth 100000 in
set_option maxHeartbeats 20000000 in
theorem spoiled_c (v : Value) (r : RecM) (q0 q1 q2 : Int) (w : World) (hv : RecV w v r) (S0 : Nat) (hSS : S0 ≤ 100000) (hS : SizeOk S0 r) (f0 : -9223372036854775808 ≤ q0 ∧ q0 ≤ 9223372036854775807) (f1 : -9223372036854775808 ≤ q1 ∧ q1 ≤ 9223372036854775807) (f2 : -9223372036854775808 ≤ q2 ∧ q2 ≤ 9223372036854775807) :
    Calls Tryd.prog 15 #[v, .agg #[.int .i64 q0, .int .i64 q1, .int .i64 q2]] w (SpPost (S0 + 30000) w) := by
  obtain ⟨fv, rfl, hf⟩ := hv
  obtain ⟨fa, fc, rfl, hm, hc⟩ := id hf.slice
  have Hc := Lib.hid hc
  obtain ⟨rk, rl, fs⟩ := r
  simp only at hm Hc hf ⊢
  have hsz := hS.1
  have htags := Lib.hid hS.2
  unfold sizeR sizeH at hsz
  simp only at hsz
  have HsZ := Lib.hid hsz
  have HSS := Lib.hid hSS
  replace hsz := Nat.le_trans hsz hSS
  clear hSS
  clear hc
  obtain ⟨W2, hW2, hB2, hb2, hs2⟩ := spb_new w rk rl (.slice fa fs.length fc) q0 q1 q2
  have e0 : W2.cell? ⟨w.heap.size, 0, none⟩ = some (.int .u8 (rk.toNat : Int)) := by rw [cell_at hB2.r]; rfl
  have e1 : W2.cell? ⟨w.heap.size, 1, none⟩ = some (.int .u8 (rl.toNat : Int)) := by rw [cell_at hB2.r]; rfl
  obtain ⟨W3, hW3⟩ : ∃ W3, W2.alloc (.cells #[.int .u8 (rk.toNat : Int), .int .u8 (rl.toNat : Int), .slice none 0 0] 27) = W3 := ⟨_, rfl⟩
  have hB3 : SpB W3 w.heap.size rk rl (.slice fa fs.length fc) q0 q1 q2 := by rw [← hW3]; exact hB2.below (below_new _ _)
  have hI3 : SpI w W3 (w.heap.size + 1 + 1 + 1) rk rl [] (.slice none 0 0) := by
    rw [← hW3, ← hs2]
    exact ⟨⟨new_at _ _, World.ownsRow_nil _ _ _ _⟩, fun q hq => by simp at hq, List.Pairwise.nil, hb2.alloc hb2.size _, by rw [hs2]; omega⟩
  have HB3 := Lib.hid hB3
  have HI3 := Lib.hid hI3
  have HW2 := Lib.hid hW2
  have HW3 := Lib.hid hW3
  have Hf := Lib.hid hf
  clear hW2 hB2 hb2 hW3 hB3 hI3 hf hS
  go_enter Tryd.func15, Tryd.ntmps15
  go_wp2_with fail
  rw [HW2.out, HW3.out]
  clear HW2 HW3 e0 e1 hs2
  go_loopw [6] (fun iv wr => ∃ (k : Nat) (acc : List (FldM × Value)) (sv : Value), k ≤ fs.length ∧ iv = .int .i64 k ∧ acc.map (fun p => p.1) = fs.take k ∧ acc.length = k ∧ SpI w wr (w.heap.size + 1 + 1 + 1) rk rl acc sv ∧ SpB wr w.heap.size rk rl (.slice fa fs.length fc) q0 q1 q2) (fun iv _ => fs.length - (intOf iv).toNat)
  case atStart => exact ⟨0, [], _, Nat.zero_le _, rfl, rfl, rfl, HI3.out, HB3.out⟩
  case round =>
    obtain ⟨k, acc, sv, hk, rfl, hmap, hacc, hinv, hB⟩ := hrel
    clear HI3 HB3
    have t2 : wr.cell? ⟨w.heap.size, 2, none⟩ = some (.slice fa fs.length fc) := by rw [cell_at hB.r]; rfl
    by_cases hlt : k < fs.length
    · obtain ⟨b, off, rfl, hbl, c0, c1, c2, s0, c3, hsub⟩ := Hc.out k hlt
      have c0 := cell_below hinv.bel (Nat.le_refl _) c0
      have c1 := cell_below hinv.bel (Nat.le_refl _) c1
      have c2 := cell_below hinv.bel (Nat.le_refl _) c2
      have c3 := cell_below hinv.bel (Nat.le_refl _) c3
      have hsub := hsub.below hinv.bel (Nat.le_refl _)
      have i0 : (0 : Int) ≤ (k : Int) := by omega
      have i1 : (k : Int) < (fs.length : Int) := by omega
      have hfl := sizeF_le fs k hlt
      have htk := take_snoc fs k hlt
      have hfle := fieldsN_le fs (k + 1)
      obtain ⟨f, hfe⟩ : ∃ f, fs[k] = f := ⟨_, rfl⟩
      rw [hfe] at c0 c1 c2 hsub hfl htk
      obtain ⟨sa, sc, rfl, hsm, -⟩ := id hsub.slice
      have hsn : f.subs.length ≤ 100000 := by
        have h1 : subsN f.subs ≤ sizeF f := by unfold sizeF; omega
        have h2 : ∀ l : List SubM, l.length ≤ subsN l := by
          intro l
          induction l with
          | nil => simp
          | cons a r ih => unfold subsN at ih ⊢; rw [List.map_cons, List.sum_cons, List.length_cons]; omega
        have := h2 f.subs
        omega
      obtain ⟨W5, hW5⟩ : ∃ W5, wr.alloc (.cells #[str f.tag, str f.ind, str f.data, .slice sa f.subs.length sc] 62) = W5 := ⟨_, rfl⟩
      have hn5 : W5.heap[wr.heap.size]? = some (.cells #[str f.tag, str f.ind, str f.data, .slice sa f.subs.length sc] 62 (0, 0)) := by rw [← hW5]; exact new_at _ _
      have hz5 : W5.heap.size = wr.heap.size + 1 := by rw [← hW5]; simp
      have hb5 : Below wr.heap.size wr W5 := by rw [← hW5]; exact below_new _ _
      obtain ⟨fb, hfb⟩ : ∃ fb, wr.heap.size = fb := ⟨_, rfl⟩
      rw [hfb] at hn5 hz5
      have x3 : W5.cell? ⟨fb, 3, none⟩ = some (.slice sa f.subs.length sc) := by rw [cell_at hn5]; rfl
      have hlit := World.ownsRow_lit (base := fb + 1) (e := 64) (size := 2) W5 #[] 0 (by omega) (by decide) rfl
      rw [hz5] at hlit
      have hsub6 := (hsub.below hb5 (Nat.le_refl _)).below (below_new W5 (.cells #[] 64)) (Nat.le_refl _)
      have x36 : (W5.alloc (.cells #[] 64)).cell? ⟨fb, 3, none⟩ = some (.slice sa f.subs.length sc) := by rw [(below_new W5 _).cell (p := ⟨fb, 3, none⟩) (by show fb < W5.heap.size; omega)]; exact x3
      obtain ⟨i0', hi, hz0, hz1, hz2⟩ := info_parts infoSub
      have Hlit := Lib.hid hlit
      have Hsub6 := Lib.hid hsub6
      have Hinv := Lib.hid hinv
      have HB := Lib.hid hB
      have Hb5 := Lib.hid hb5
      have Hn5 := Lib.hid hn5
      have Hmap := Lib.hid hmap
      have Hacc := Lib.hid hacc
      have Htk := Lib.hid htk
      have Hfb := Lib.hid hfb
      clear hlit hsub6 hinv hB hb5 hn5 hmap hacc htk hfe hfl hfle hsub hsm x3
      go_wp2_with (at_builtin; refine wpList_append_src _ rfl _ _ 60 rfl (fb + 1) 64 i0' _ 2 24 Tryd.underlying60 hi hz0 hz1 hz2 rfl (by decide) _ 0 [] rfl Hlit.out sa f.subs.length sc (subCells f.subs) rfl (subCells_size _) Hsub6.out.cells Hsub6.out.len.2 (subCells_one _) ?sa1 ?sa2 ?sa3 ?_)
      case sa1 => unfold maxLen; omega
      case sa2 => omega
      intro v7 w7 hown7 hgrow7 hblk7
      obtain ⟨va, vc, rfl⟩ := own_form hown7
      have hz6 : (W5.alloc (.cells #[] 64)).heap.size = fb + 1 + 1 := by simp [hz5]
      have hb7 : Below wr.heap.size wr w7 := ((Hb5.out.alloc Hb5.out.size _).grown hgrow7 (by have := Hfb.out; omega) (fun g hg => by simp [Value.ownBlock] at hg; have := Hfb.out; omega))
      have hn7 : w7.heap[fb]? = some (.cells #[str f.tag, str f.ind, str f.data, .slice sa f.subs.length sc] 62 (0, 0)) := ((hgrow7.block fb (by omega) (fun e => by simp [Value.ownBlock] at e <;> omega)).trans ((below_new W5 _).block fb (by omega))).trans Hn5.out
      have y3 : w7.cell? ⟨fb, 3, none⟩ = some (.slice sa f.subs.length sc) := by rw [cell_at hn7]; rfl
      have y4 : w7.frozen? ⟨fb, 3, none⟩ = false := Lib.frozen_of_heap hn7 3
      obtain ⟨W8, hW8⟩ : ∃ W8, w7.setCell ⟨fb, 3, none⟩ (.slice va f.subs.length vc) = W8 := ⟨_, rfl⟩
      have hn8 : W8.heap[fb]? = some (.cells #[str f.tag, str f.ind, str f.data, .slice va f.subs.length vc] 62 (0, 0)) := by
        rw [← hW8]
        have := blk_set hn7 3 (.slice va f.subs.length vc)
        simpa using this
      have hb8 : Below wr.heap.size wr W8 := by rw [← hW8]; exact hb7.setCell (p := ⟨fb, 3, none⟩) (Nat.le_of_eq Hfb.out) _
      have hinv8 := Hinv.out.below hb8
      have hB8 := HB.out.below hb8
      have hobf : w.heap.size + 1 + 1 + 1 < fb := by have := lt_at Hinv.out.rec_.1; have := Hfb.out; omega
      have hown8 : W8.ownsRow (w.heap.size + 1 + 1 + 1 + 1) 64 2 (.slice va f.subs.length vc) f.subs.length (subCells f.subs) := by
        rw [← hW8]
        exact own_le (own_same hown7 (fun g hg _ => far_set _ _ _ _ (by omega))) (by omega)
      have hdist : ∀ q ∈ acc, q.2.ownBlock = none ∨ q.2.ownBlock ≠ (Value.slice va f.subs.length vc).ownBlock := by
        intro q hq
        cases hqb : q.2.ownBlock with
        | none => exact .inl rfl
        | some g =>
          right
          have hg := ((Hinv.out.subs q hq).lt g hqb).2
          rw [Hfb.out] at hg
          rcases hblk7 with h | h
          · rw [h]; simp [Value.ownBlock]; omega
          · rw [h]; simp; omega
      have u0 : W8.cell? ⟨fb, 0, none⟩ = some (str f.tag) := by rw [cell_at hn8]; rfl
      have u1 : W8.cell? ⟨fb, 1, none⟩ = some (str f.ind) := by rw [cell_at hn8]; rfl
      have u2 : W8.cell? ⟨fb, 2, none⟩ = some (str f.data) := by rw [cell_at hn8]; rfl
      have u3 : W8.cell? ⟨fb, 3, none⟩ = some (.slice va f.subs.length vc) := by rw [cell_at hn8]; rfl
      obtain ⟨oa, oc, rfl⟩ := hinv8.rec_.form
      obtain ⟨-, -, o2, -, -, o5⟩ := hinv8.rec_.cells
      obtain ⟨i1', hi1, hy0, hy1, hy2⟩ := info_parts infoFld
      have hal : acc.length ≤ 100000 := by have := Hacc.out; omega
      have hsz8 : fb < W8.heap.size := lt_at hn8
      have Hinv8 := Lib.hid hinv8
      have HB8 := Lib.hid hB8
      have Hown8 := Lib.hid hown8
      have Hdist := Lib.hid hdist
      clear hown7 hgrow7 hblk7 hz6 hb7 hn7 hn8 hb8 hinv8 hB8 hown8 hdist hi hz0 hz1 hz2 Hlit Hsub6 hW5 x36 c0 c1 c2 c3
      go_wp2_with (at_builtin; refine wpList_append_own _ rfl _ _ 25 rfl (w.heap.size + 1 + 1 + 1 + 1) 62 i1' _ 4 72 Tryd.underlying25 hi1 hy0 hy1 hy2 rfl (by decide) _ _ _ rfl (Hinv8.out.rec_.2.alloc _) ⟨W8.heap.size, 0, none⟩ 1 1 [str f.tag, str f.ind, str f.data, .slice va f.subs.length vc] rfl rfl ?sb1 ?sb2 ?sb3 ?sb4 ?sb5 ?_)
      case sb1 => exact fld_cells W8 _ _ _ _ _
      case sb2 => simp [Value.oneCell']
      case sb3 => unfold maxLen; omega
      case sb4 => omega
      case sb5 => simp; omega
      intro v9 w9 hown9 hgrow9 _
      obtain ⟨na, nc, rfl⟩ := own_form hown9
      obtain ⟨g1, g2, g3, g4, g5⟩ := RecO.app (f := f) Hinv8.out.rec_ hown9 hgrow9
      have hsub9 : SubsOwn (w9.setCell ⟨w.heap.size + 1 + 1 + 1, 2, none⟩ (.slice na (acc.length + 1) nc)) (w.heap.size + 1 + 1 + 1 + 1) (acc ++ [(f, .slice va f.subs.length vc)]) := by
        intro q hq
        rcases List.mem_append.1 hq with hq | hq
        · exact sub_kept Hinv8.out.rec_ g5 (Hinv8.out.subs q hq)
        · rw [List.mem_singleton.1 hq]; exact sub_kept Hinv8.out.rec_ g5 Hown8.out
      have hd9 : Dist (acc ++ [(f, Value.slice va f.subs.length vc)]) := by
        unfold Dist
        rw [List.pairwise_append]
        exact ⟨Hinv8.out.dist, List.pairwise_singleton _ _, fun a ha b hb => by rw [List.mem_singleton.1 hb]; exact Hdist.out a ha⟩
      have hI9 : SpI w (w9.setCell ⟨w.heap.size + 1 + 1 + 1, 2, none⟩ (.slice na (acc.length + 1) nc)) (w.heap.size + 1 + 1 + 1) rk rl (acc ++ [(f, .slice va f.subs.length vc)]) (.slice na (acc.length + 1) nc) :=
        ⟨g1, hsub9, hd9, Hinv8.out.bel.trans (g4 _ (by omega)), Hinv8.out.hob⟩
      have hB9 : SpB (w9.setCell ⟨w.heap.size + 1 + 1 + 1, 2, none⟩ (.slice na (acc.length + 1) nc)) w.heap.size rk rl (.slice (some ⟨b, off, none⟩) fs.length fc) q0 q1 q2 :=
        HB8.out.keep (fun g hg => g5 g (by omega) (by omega) (fun e => by have := (Hinv8.out.rec_.2.lt g e.symm).1; omega))
      have HI9 := Lib.hid hI9
      have HB9 := Lib.hid hB9
      clear g1 g4 g5 hsub9 hd9 hI9 hB9 hown9 hgrow9 hi1 hy0 hy1 hy2 o2 o5 u0 u1 u2 u3 y3 y4 t2 hW8
      go_wp2
      go_roundw
      case rel => exact ⟨k + 1, acc ++ [(f, .slice va f.subs.length vc)], _, by omega, by go_num, by rw [List.map_append, Hmap.out, Htk.out]; rfl, by rw [List.length_append, Hacc.out]; rfl, HI9.out, HB9.out⟩
      case measure => simp [intOf]; omega
    · have hkn : k = fs.length := by omega
      subst hkn
      rw [List.take_length] at hmap
      have Hmap := Lib.hid hmap
      have Hinv := Lib.hid hinv
      have HB := Lib.hid hB
      have HsS := Lib.hid (show 26 + 12 * fs.length + fieldsN fs ≤ S0 ∧ ∀ f ∈ fs, f.tag.length ≤ 4 from ⟨by have := HsZ.out; omega, htags.out⟩)
      have hd0 : decide ((fs.length : Int) < (fs.length : Int)) = false := by simp
      obtain ⟨W10, hW10⟩ : ∃ W10, wr.alloc (.cells textsA 9) = W10 := ⟨_, rfl⟩
      have hn10 : W10.heap[wr.heap.size]? = some (.cells textsA 9 (0, 0)) := by rw [← hW10]; exact new_at _ _
      have hb10 : Below wr.heap.size wr W10 := by rw [← hW10]; exact below_new _ _
      have MT := Lib.hid (fun W => mod_c q2 11 (by decide) (by decide) f2 W)
      have hjt := modN_lt (n := q2) (m := 11) (by decide)
      obtain ⟨jt, hjte⟩ : ∃ k, modN q2 11 = k := ⟨_, rfl⟩
      rw [hjte] at hjt MT
      have hjt11 : jt < 11 := by omega
      have i0 : (0 : Int) ≤ (jt : Int) := by omega
      have i1 : (jt : Int) < 11 := by omega
      have x0 : W10.cell? ⟨wr.heap.size, jt, none⟩ = some (str (textsL.getD jt [])) := by rw [cell_at hn10]; exact texts_at hjt11
      have hTl := texts_le hjt11
      obtain ⟨T, hT⟩ : ∃ T, textsL.getD jt [] = T := ⟨_, rfl⟩
      rw [hT] at x0 hTl
      have hB10 := hB.below hb10
      have hI10 := hinv.below hb10
      have hobn := lt_at hI10.rec_.1
      have z1 : W10.cell? ⟨w.heap.size + 1, 0, none⟩ = some (.int .i64 q0) := by rw [cell_at hB10.q]; rfl
      have z2 : W10.cell? ⟨w.heap.size + 1, 1, none⟩ = some (.int .i64 q1) := by rw [cell_at hB10.q]; rfl
      have z3 : W10.cell? ⟨w.heap.size + 1, 2, none⟩ = some (.int .i64 q2) := by rw [cell_at hB10.q]; rfl
      have y0 : W10.cell? ⟨w.heap.size + 1 + 1, 0, none⟩ = some (.int .u8 0) := by rw [cell_at hB10.z]; rfl
      have y1 : W10.cell? ⟨w.heap.size + 1 + 1, 1, none⟩ = some (.int .u8 0) := by rw [cell_at hB10.z]; rfl
      have y2 : W10.cell? ⟨w.heap.size + 1 + 1, 2, none⟩ = some (.slice none 0 0) := by rw [cell_at hB10.z]; rfl
      have y3 : W10.frozen? ⟨w.heap.size + 1 + 1, 0, none⟩ = false := Lib.frozen_of_heap hB10.z 0
      have y4 : W10.frozen? ⟨w.heap.size + 1 + 1, 1, none⟩ = false := Lib.frozen_of_heap hB10.z 1
      have y5 : W10.frozen? ⟨w.heap.size + 1 + 1, 2, none⟩ = false := Lib.frozen_of_heap hB10.z 2
      obtain ⟨oa, oc, rfl⟩ := hI10.rec_.form
      obtain ⟨o0, o1, o2, o3, o4, o5⟩ := hI10.rec_.cells
      have hlen : acc.length = fs.length := hacc
      rw [hlen] at o2
      have Hlen := Lib.hid hlen
      have HB10 := Lib.hid hB10
      have HI10 := Lib.hid hI10
      unfold textsA at hW10
      clear hn10 hb10 hB10 hI10 hjt hjte hT hmap hinv hB hlen
      go_wp2_with fail
      with_reducible refine (MT.out _).mono ?_
      rintro _ _ ⟨rfl, rfl⟩
      by_cases hn0 : fs.length = 0
      · have d0 : ((fs.length : Int) == 0) = true := by rw [beq_iff_eq]; omega
        obtain ⟨kd, hkd⟩ := u8_wrap q1
        have hfin := sp_done (HI10.out.kind kd) ((far_set _ _ _ _ (by omega)).trans HB10.out.z) fs Hmap.out (size_same (T := S0 + 30000) (kd := 0) (lv := 0) HsS.out kd rl (by omega))
        obtain ⟨WF, hWF⟩ : ∃ WF, fin3 (W10.setCell ⟨w.heap.size + 1 + 1 + 1, 0, none⟩ (.int .u8 (kd.toNat : Int))) (w.heap.size + 1 + 1) (.int .u8 (kd.toNat : Int)) (.int .u8 (rl.toNat : Int)) (.slice oa fs.length oc) = WF := ⟨_, rfl⟩
        rw [Hlen.out, hWF] at hfin
        unfold fin3 at hWF
        rw [hn0] at hWF
        have Hfin := Lib.hid hfin
        have HWF := Lib.hid hWF
        clear hfin hWF
        go_wp2_with fail
        rw [HWF.out]
        obtain ⟨hp, c0, c1, c2⟩ := Hfin.out
        simp only [hn0, Int.natCast_zero] at hp c2 ⊢
        simp [bodyPost, results, Tryd.results15, go_sem, c0, c1, c2]
        exact hp
      · have d0 : ((fs.length : Int) == 0) = false := by rw [beq_eq_false_iff_ne]; omega
        obtain ⟨g, cap, hgv, hg1, hg2, hgc⟩ := sp_row HI10.out (by rw [Hlen.out]; exact hn0)
        obtain ⟨rfl, rfl⟩ : oa = some ⟨g, 0, none⟩ ∧ oc = cap := by simpa using hgv
        clear hgv
        have MM := Lib.hid (fun W => mod_c q1 (fs.length : Int) (by omega) (by omega) f1 W)
        have hm := modN_lt (n := q1) (m := (fs.length : Int)) (by omega)
        obtain ⟨m, hme⟩ : ∃ k, modN q1 (fs.length : Int) = k := ⟨_, rfl⟩
        rw [hme] at hm MM
        have hm2 : m < fs.length := by omega
        have hma : m < acc.length := by rw [Hlen.out]; exact hm2
        have l0 : (0 : Int) ≤ (m : Int) := by omega
        have l1 : (m : Int) < (fs.length : Int) := by omega
        have Hgc := Lib.hid hgc
        clear hgc hme hm
        go_upto_region 13 with fail
        go_cut [10] from 58 (fun s10 wx => s10 = .pointer (some ⟨g, m * 4, none⟩) ∧ wx = W10.drew)
        case first =>
          go_region_with (go_at_call 22; with_reducible refine (MM.out _).mono ?_; rintro e W2 ⟨rfl, rfl⟩)
          all_goals (go_wp2_with fail; go_meet; exact ⟨rfl, rfl⟩)
        case rest =>
        obtain ⟨rfl, rfl⟩ := hcut
        obtain ⟨W11, hW11⟩ : ∃ W11, W10.drew = W11 := ⟨_, rfl⟩
        have hI11 := HI10.out.below (Below.refl _ W10).drew
        have hB11 := HB10.out.below (Below.refl _ W10).drew
        have a0 : W10.drew.cell? ⟨w.heap.size + 1, 0, none⟩ = some (.int .i64 q0) := z1
        have a1 : W10.drew.cell? ⟨w.heap.size + 1, 1, none⟩ = some (.int .i64 q1) := z2
        have a2 : W10.drew.cell? ⟨w.heap.size + 1, 2, none⟩ = some (.int .i64 q2) := z3
        have r0 : W10.drew.cell? ⟨w.heap.size + 1 + 1, 0, none⟩ = some (.int .u8 0) := y0
        have r1 : W10.drew.cell? ⟨w.heap.size + 1 + 1, 1, none⟩ = some (.int .u8 0) := y1
        have r2 : W10.drew.cell? ⟨w.heap.size + 1 + 1, 2, none⟩ = some (.slice none 0 0) := y2
        have r3 : W10.drew.frozen? ⟨w.heap.size + 1 + 1, 0, none⟩ = false := y3
        have r4 : W10.drew.frozen? ⟨w.heap.size + 1 + 1, 1, none⟩ = false := y4
        have r5 : W10.drew.frozen? ⟨w.heap.size + 1 + 1, 2, none⟩ = false := y5
        obtain ⟨v0, v1, v2, v3, v4, v5⟩ := hI11.rec_.cells
        rw [Hlen.out] at v2
        have hgc11 := fun j hj => Hgc.out m hma j hj
        have M0 := Lib.hid (fun W => mod_c q0 10 (by decide) (by decide) f0 W)
        have hk := modN_lt (n := q0) (m := 10) (by decide)
        obtain ⟨k0, hk0e⟩ : ∃ k, modN q0 10 = k := ⟨_, rfl⟩
        rw [hk0e] at hk M0
        have hk10 : k0 < 10 := by omega
        have HI11 := Lib.hid hI11
        have HB11 := Lib.hid hB11
        have Hgc11 := Lib.hid hgc11
        clear hk hk0e hI11 hB11 hgc11 z1 z2 z3 y0 y1 y2 y3 y4 y5 o0 o1 o2 o3 o4 o5 MM MT HI10 HB10 Hgc i0 i1 x0
        rw [hW11] at *
        go_wp2_with fail
        with_reducible refine (M0.out _).mono ?_
        rintro _ _ ⟨rfl, rfl⟩
        by_cases j0 : k0 = 0
        · have k0a : ((k0 : Int) == 0) = true := by rw [beq_iff_eq]; omega
          obtain ⟨kd, hkd⟩ := u8_wrap q2
          have hfin := sp_done (HI11.out.kind kd) ((far_set _ _ _ _ (by omega)).trans HB11.out.z) fs Hmap.out (size_same (T := S0 + 30000) (kd := 0) (lv := 0) HsS.out kd rl (by omega))
          obtain ⟨WF, hWF⟩ : ∃ WF, fin3 (W11.setCell ⟨w.heap.size + 1 + 1 + 1, 0, none⟩ (.int .u8 (kd.toNat : Int))) (w.heap.size + 1 + 1) (.int .u8 (kd.toNat : Int)) (.int .u8 (rl.toNat : Int)) (.slice (some ⟨g, 0, none⟩) fs.length oc) = WF := ⟨_, rfl⟩
          rw [Hlen.out, hWF] at hfin
          unfold fin3 at hWF
          have Hfin := Lib.hid hfin
          have HWF := Lib.hid hWF
          clear hfin hWF
          go_wp2_with fail
          rw [HWF.out]
          obtain ⟨hp, c0, c1, c2⟩ := Hfin.out
          simp [bodyPost, results, Tryd.results15, go_sem, c0, c1, c2]
          exact hp
        have k0a : ((k0 : Int) == 0) = false := by rw [beq_eq_false_iff_ne]; omega
        by_cases j1 : k0 = 1
        · have k1a : ((k0 : Int) == 1) = true := by rw [beq_iff_eq]; omega
          obtain ⟨lv, hlv⟩ := u8_wrap q2
          have hfin := sp_done (HI11.out.level lv) ((far_set _ _ _ _ (by omega)).trans HB11.out.z) fs Hmap.out (size_same (T := S0 + 30000) (kd := 0) (lv := 0) HsS.out rk lv (by omega))
          obtain ⟨WF, hWF⟩ : ∃ WF, fin3 (W11.setCell ⟨w.heap.size + 1 + 1 + 1, 1, none⟩ (.int .u8 (lv.toNat : Int))) (w.heap.size + 1 + 1) (.int .u8 (rk.toNat : Int)) (.int .u8 (lv.toNat : Int)) (.slice (some ⟨g, 0, none⟩) fs.length oc) = WF := ⟨_, rfl⟩
          rw [Hlen.out, hWF] at hfin
          unfold fin3 at hWF
          have Hfin := Lib.hid hfin
          have HWF := Lib.hid hWF
          clear hfin hWF
          go_wp2_with fail
          rw [HWF.out]
          obtain ⟨hp, c0, c1, c2⟩ := Hfin.out
          simp [bodyPost, results, Tryd.results15, go_sem, c0, c1, c2]
          exact hp
        have k1a : ((k0 : Int) == 1) = false := by rw [beq_eq_false_iff_ne]; omega
        by_cases j2 : k0 = 2
        · have k2a : ((k0 : Int) == 2) = true := by rw [beq_iff_eq]; omega
          obtain ⟨W12, hW12⟩ : ∃ W12, W11.alloc (.cells btagsA 9) = W12 := ⟨_, rfl⟩
          have hb12 : Below W11.heap.size W11 W12 := by rw [← hW12]; exact below_new _ _
          have hn12 : W12.heap[W11.heap.size]? = some (.cells btagsA 9 (0, 0)) := by rw [← hW12]; exact new_at _ _
          have hI12 := HI11.out.below hb12
          have hB12 := HB11.out.below hb12
          have a2' : W12.cell? ⟨w.heap.size + 1, 2, none⟩ = some (.int .i64 q2) := by rw [cell_at hB12.q]; rfl
          have r0' : W12.cell? ⟨w.heap.size + 1 + 1, 0, none⟩ = some (.int .u8 0) := by rw [cell_at hB12.z]; rfl
          have r1' : W12.cell? ⟨w.heap.size + 1 + 1, 1, none⟩ = some (.int .u8 0) := by rw [cell_at hB12.z]; rfl
          have r2' : W12.cell? ⟨w.heap.size + 1 + 1, 2, none⟩ = some (.slice none 0 0) := by rw [cell_at hB12.z]; rfl
          have r3' : W12.frozen? ⟨w.heap.size + 1 + 1, 0, none⟩ = false := Lib.frozen_of_heap hB12.z 0
          have r4' : W12.frozen? ⟨w.heap.size + 1 + 1, 1, none⟩ = false := Lib.frozen_of_heap hB12.z 1
          have r5' : W12.frozen? ⟨w.heap.size + 1 + 1, 2, none⟩ = false := Lib.frozen_of_heap hB12.z 2
          obtain ⟨v0', v1', v2', v3', v4', v5'⟩ := hI12.rec_.cells
          rw [Hlen.out] at v2'
          obtain ⟨g1', g2', c0', c1', c2', c3', gf⟩ := sp_at hI12 hma
          have gf0 := gf (m * 4)
          have gf1 := gf (m * 4 + 1)
          have gf2 := gf (m * 4 + 2)
          have gf3 := gf (m * 4 + 3)
          have MB := Lib.hid (fun W => mod_c q2 7 (by decide) (by decide) f2 W)
          have hjb := modN_lt (n := q2) (m := 7) (by decide)
          obtain ⟨jb, hjbe⟩ : ∃ k, modN q2 7 = k := ⟨_, rfl⟩
          rw [hjbe] at hjb MB
          have hjb2 : jb < 7 := by omega
          have p0 : (0 : Int) ≤ (jb : Int) := by omega
          have p1 : (jb : Int) < 7 := by omega
          have x1 : W12.cell? ⟨W11.heap.size, jb, none⟩ = some (str (btagsL.getD jb [])) := by rw [cell_at hn12]; exact btags_at hjb2
          have hT2 := btags_le hjb2
          obtain ⟨T2, hT2e⟩ : ∃ T, btagsL.getD jb [] = T := ⟨_, rfl⟩
          rw [hT2e] at x1 hT2
          have hfin := sp_done (hI12.tag rfl m hma T2) ((far_set _ _ _ _ (by omega)).trans hB12.z) (fs.set m {acc[m].1 with tag := T2}) (by rw [map_set_fst, Hmap.out]) (put_ok Hmap.out HsS.out hma {acc[m].1 with tag := T2} (by unfold sizeF; simp only; omega) (by exact hT2) rk rl)
          unfold btagsA at hW12
          clear hn12 hb12 hI12 hB12 hjb hjbe hT2e a0 a1 a2 r0 r1 r2 r3 r4 r5 v0 v1 v2 v3 v4 v5 gf
          obtain ⟨WF, hWF⟩ : ∃ WF, fin3 (W12.setCell ⟨g, m * 4, none⟩ (str T2)) (w.heap.size + 1 + 1) (.int .u8 (rk.toNat : Int)) (.int .u8 (rl.toNat : Int)) (.slice (some ⟨g, 0, none⟩) fs.length oc) = WF := ⟨_, rfl⟩
          rw [Hlen.out, hWF] at hfin
          unfold fin3 at hWF
          have Hfin := Lib.hid hfin
          have HWF := Lib.hid hWF
          clear hfin hWF
          go_wp2_with fail
          with_reducible refine (MB.out _).mono ?_
          rintro _ _ ⟨rfl, rfl⟩
          go_wp2_with fail
          rw [HWF.out]
          obtain ⟨hp, c0, c1, c2⟩ := Hfin.out
          simp [bodyPost, results, Tryd.results15, go_sem, c0, c1, c2]
          exact hp
        have k2a : ((k0 : Int) == 2) = false := by rw [beq_eq_false_iff_ne]; omega
        by_cases j3 : k0 = 3
        · have k3a : ((k0 : Int) == 3) = true := by rw [beq_iff_eq]; omega
          obtain ⟨W12, hW12⟩ : ∃ W12, W11 = W12 := ⟨_, rfl⟩
          have hI12 := HI11.out
          have hB12 := HB11.out
          rw [hW12] at hI12 hB12
          have a2' : W12.cell? ⟨w.heap.size + 1, 2, none⟩ = some (.int .i64 q2) := by rw [cell_at hB12.q]; rfl
          have r0' : W12.cell? ⟨w.heap.size + 1 + 1, 0, none⟩ = some (.int .u8 0) := by rw [cell_at hB12.z]; rfl
          have r1' : W12.cell? ⟨w.heap.size + 1 + 1, 1, none⟩ = some (.int .u8 0) := by rw [cell_at hB12.z]; rfl
          have r2' : W12.cell? ⟨w.heap.size + 1 + 1, 2, none⟩ = some (.slice none 0 0) := by rw [cell_at hB12.z]; rfl
          have r3' : W12.frozen? ⟨w.heap.size + 1 + 1, 0, none⟩ = false := Lib.frozen_of_heap hB12.z 0
          have r4' : W12.frozen? ⟨w.heap.size + 1 + 1, 1, none⟩ = false := Lib.frozen_of_heap hB12.z 1
          have r5' : W12.frozen? ⟨w.heap.size + 1 + 1, 2, none⟩ = false := Lib.frozen_of_heap hB12.z 2
          obtain ⟨v0', v1', v2', v3', v4', v5'⟩ := hI12.rec_.cells
          rw [Hlen.out] at v2'
          obtain ⟨g1', g2', c0', c1', c2', c3', gf⟩ := sp_at hI12 hma
          have gf0 := gf (m * 4)
          have gf1 := gf (m * 4 + 1)
          have gf2 := gf (m * 4 + 2)
          have gf3 := gf (m * 4 + 3)
          have hsF := sizeF_at Hmap.out HsS.out hma
          have hdl : acc[m].1.data.length ≤ 100000 := by have := HSS.out; unfold sizeF at hsF; omega
          have ad := add_str acc[m].1.data T (by omega)
          have hfin := sp_done (hI12.data rfl m hma (acc[m].1.data ++ T)) ((far_set _ _ _ _ (by omega)).trans hB12.z) (fs.set m {acc[m].1 with data := acc[m].1.data ++ T}) (by rw [map_set_fst, Hmap.out]) (put_ok Hmap.out HsS.out hma {acc[m].1 with data := acc[m].1.data ++ T} (by unfold sizeF; simp only [List.length_append]; omega) (tag_le Hmap.out HsS.out.2 hma) rk rl)
          clear hI12 hB12 a0 a1 a2 r0 r1 r2 r3 r4 r5 v0 v1 v2 v3 v4 v5 gf
          rw [hW12]
          obtain ⟨WF, hWF⟩ : ∃ WF, fin3 (W12.setCell ⟨g, m * 4 + 2, none⟩ (str (acc[m].1.data ++ T))) (w.heap.size + 1 + 1) (.int .u8 (rk.toNat : Int)) (.int .u8 (rl.toNat : Int)) (.slice (some ⟨g, 0, none⟩) fs.length oc) = WF := ⟨_, rfl⟩
          rw [Hlen.out, hWF] at hfin
          unfold fin3 at hWF
          have Hfin := Lib.hid hfin
          have HWF := Lib.hid hWF
          clear hfin hWF
          go_wp2_with fail
          rw [HWF.out]
          obtain ⟨hp, c0, c1, c2⟩ := Hfin.out
          simp [bodyPost, results, Tryd.results15, go_sem, c0, c1, c2]
          exact hp
        have k3a : ((k0 : Int) == 3) = false := by rw [beq_eq_false_iff_ne]; omega
        by_cases j4 : k0 = 4
        · have k4a : ((k0 : Int) == 4) = true := by rw [beq_iff_eq]; omega
          obtain ⟨W12, hW12⟩ : ∃ W12, W11.alloc (.cells bindsA 9) = W12 := ⟨_, rfl⟩
          have hb12 : Below W11.heap.size W11 W12 := by rw [← hW12]; exact below_new _ _
          have hn12 : W12.heap[W11.heap.size]? = some (.cells bindsA 9 (0, 0)) := by rw [← hW12]; exact new_at _ _
          have hI12 := HI11.out.below hb12
          have hB12 := HB11.out.below hb12
          have a2' : W12.cell? ⟨w.heap.size + 1, 2, none⟩ = some (.int .i64 q2) := by rw [cell_at hB12.q]; rfl
          have r0' : W12.cell? ⟨w.heap.size + 1 + 1, 0, none⟩ = some (.int .u8 0) := by rw [cell_at hB12.z]; rfl
          have r1' : W12.cell? ⟨w.heap.size + 1 + 1, 1, none⟩ = some (.int .u8 0) := by rw [cell_at hB12.z]; rfl
          have r2' : W12.cell? ⟨w.heap.size + 1 + 1, 2, none⟩ = some (.slice none 0 0) := by rw [cell_at hB12.z]; rfl
          have r3' : W12.frozen? ⟨w.heap.size + 1 + 1, 0, none⟩ = false := Lib.frozen_of_heap hB12.z 0
          have r4' : W12.frozen? ⟨w.heap.size + 1 + 1, 1, none⟩ = false := Lib.frozen_of_heap hB12.z 1
          have r5' : W12.frozen? ⟨w.heap.size + 1 + 1, 2, none⟩ = false := Lib.frozen_of_heap hB12.z 2
          obtain ⟨v0', v1', v2', v3', v4', v5'⟩ := hI12.rec_.cells
          rw [Hlen.out] at v2'
          obtain ⟨g1', g2', c0', c1', c2', c3', gf⟩ := sp_at hI12 hma
          have gf0 := gf (m * 4)
          have gf1 := gf (m * 4 + 1)
          have gf2 := gf (m * 4 + 2)
          have gf3 := gf (m * 4 + 3)
          have MB := Lib.hid (fun W => mod_c q2 6 (by decide) (by decide) f2 W)
          have hjb := modN_lt (n := q2) (m := 6) (by decide)
          obtain ⟨jb, hjbe⟩ : ∃ k, modN q2 6 = k := ⟨_, rfl⟩
          rw [hjbe] at hjb MB
          have hjb2 : jb < 6 := by omega
          have p0 : (0 : Int) ≤ (jb : Int) := by omega
          have p1 : (jb : Int) < 6 := by omega
          have x1 : W12.cell? ⟨W11.heap.size, jb, none⟩ = some (str (bindsL.getD jb [])) := by rw [cell_at hn12]; exact binds_at hjb2
          have hT2 := binds_le hjb2
          obtain ⟨T2, hT2e⟩ : ∃ T, bindsL.getD jb [] = T := ⟨_, rfl⟩
          rw [hT2e] at x1 hT2
          have hfin := sp_done (hI12.ind rfl m hma T2) ((far_set _ _ _ _ (by omega)).trans hB12.z) (fs.set m {acc[m].1 with ind := T2}) (by rw [map_set_fst, Hmap.out]) (put_ok Hmap.out HsS.out hma {acc[m].1 with ind := T2} (by unfold sizeF; simp only; omega) (by exact tag_le Hmap.out HsS.out.2 hma) rk rl)
          unfold bindsA at hW12
          clear hn12 hb12 hI12 hB12 hjb hjbe hT2e a0 a1 a2 r0 r1 r2 r3 r4 r5 v0 v1 v2 v3 v4 v5 gf
          obtain ⟨WF, hWF⟩ : ∃ WF, fin3 (W12.setCell ⟨g, m * 4 + 1, none⟩ (str T2)) (w.heap.size + 1 + 1) (.int .u8 (rk.toNat : Int)) (.int .u8 (rl.toNat : Int)) (.slice (some ⟨g, 0, none⟩) fs.length oc) = WF := ⟨_, rfl⟩
          rw [Hlen.out, hWF] at hfin
          unfold fin3 at hWF
          have Hfin := Lib.hid hfin
          have HWF := Lib.hid hWF
          clear hfin hWF
          go_wp2_with fail
          with_reducible refine (MB.out _).mono ?_
          rintro _ _ ⟨rfl, rfl⟩
          go_wp2_with fail
          rw [HWF.out]
          obtain ⟨hp, c0, c1, c2⟩ := Hfin.out
          simp [bodyPost, results, Tryd.results15, go_sem, c0, c1, c2]
          exact hp
        have k4a : ((k0 : Int) == 4) = false := by rw [beq_eq_false_iff_ne]; omega
        by_cases j5 : k0 = 5
        · have k5a : ((k0 : Int) == 5) = true := by rw [beq_iff_eq]; omega
          obtain ⟨W12, hW12⟩ : ∃ W12, W11 = W12 := ⟨_, rfl⟩
          have hI12 := HI11.out
          have hB12 := HB11.out
          rw [hW12] at hI12 hB12
          have a2' : W12.cell? ⟨w.heap.size + 1, 2, none⟩ = some (.int .i64 q2) := by rw [cell_at hB12.q]; rfl
          have r0' : W12.cell? ⟨w.heap.size + 1 + 1, 0, none⟩ = some (.int .u8 0) := by rw [cell_at hB12.z]; rfl
          have r1' : W12.cell? ⟨w.heap.size + 1 + 1, 1, none⟩ = some (.int .u8 0) := by rw [cell_at hB12.z]; rfl
          have r2' : W12.cell? ⟨w.heap.size + 1 + 1, 2, none⟩ = some (.slice none 0 0) := by rw [cell_at hB12.z]; rfl
          have r3' : W12.frozen? ⟨w.heap.size + 1 + 1, 0, none⟩ = false := Lib.frozen_of_heap hB12.z 0
          have r4' : W12.frozen? ⟨w.heap.size + 1 + 1, 1, none⟩ = false := Lib.frozen_of_heap hB12.z 1
          have r5' : W12.frozen? ⟨w.heap.size + 1 + 1, 2, none⟩ = false := Lib.frozen_of_heap hB12.z 2
          obtain ⟨v0', v1', v2', v3', v4', v5'⟩ := hI12.rec_.cells
          rw [Hlen.out] at v2'
          obtain ⟨g1', g2', c0', c1', c2', c3', gf⟩ := sp_at hI12 hma
          have gf0 := gf (m * 4)
          have gf1 := gf (m * 4 + 1)
          have gf2 := gf (m * 4 + 2)
          have gf3 := gf (m * 4 + 3)
          have hfin := sp_done (hI12.nosubs rfl m hma) ((far_set _ _ _ _ (by omega)).trans hB12.z) (fs.set m {acc[m].1 with subs := []}) (by rw [map_set_fst, Hmap.out]) (put_ok Hmap.out HsS.out hma {acc[m].1 with subs := []} (by unfold sizeF subsN; simp; omega) (tag_le Hmap.out HsS.out.2 hma) rk rl)
          clear hI12 hB12 a0 a1 a2 r0 r1 r2 r3 r4 r5 v0 v1 v2 v3 v4 v5 gf
          rw [hW12]
          obtain ⟨WF, hWF⟩ : ∃ WF, fin3 (W12.setCell ⟨g, m * 4 + 3, none⟩ (.slice none 0 0)) (w.heap.size + 1 + 1) (.int .u8 (rk.toNat : Int)) (.int .u8 (rl.toNat : Int)) (.slice (some ⟨g, 0, none⟩) fs.length oc) = WF := ⟨_, rfl⟩
          rw [Hlen.out, hWF] at hfin
          unfold fin3 at hWF
          have Hfin := Lib.hid hfin
          have HWF := Lib.hid hWF
          clear hfin hWF
          go_wp2_with fail
          rw [HWF.out]
          obtain ⟨hp, c0, c1, c2⟩ := Hfin.out
          simp [bodyPost, results, Tryd.results15, go_sem, c0, c1, c2]
          exact hp
        have k5a : ((k0 : Int) == 5) = false := by rw [beq_eq_false_iff_ne]; omega
        by_cases j6 : k0 = 6
        · have k6a : ((k0 : Int) == 6) = true := by rw [beq_iff_eq]; omega
          obtain ⟨cd, hcd⟩ := u8_wrap q1
          go_wp2_with fail
          obtain ⟨W12, hW12⟩ : ∃ W12, W11.drew = W12 := ⟨_, rfl⟩
          have hI12 := HI11.out.below (Below.refl _ W11).drew
          have hB12 := HB11.out.below (Below.refl _ W11).drew
          rw [hW12] at hI12 hB12
          have a1' : W12.cell? ⟨w.heap.size + 1, 1, none⟩ = some (.int .i64 q1) := by rw [cell_at hB12.q]; rfl
          have hsF := sizeF_at Hmap.out HsS.out hma
          have hsl : acc[m].1.subs.length ≤ 100000 := by have := HSS.out; have := subsN_len acc[m].1.subs; unfold sizeF at hsF; omega
          have hsub : W12.ownsRow (w.heap.size + 1 + 1 + 1 + 1) 64 2 acc[m].2 acc[m].1.subs.length (subCells acc[m].1.subs) := hI12.subs acc[m] (List.getElem_mem hma)
          obtain ⟨sa, sc, hsv⟩ := own_form hsub
          obtain ⟨-, -, -, -, -, c3', -⟩ := sp_at hI12 hma
          rw [hsv] at hsub c3'
          obtain ⟨i0', hi, hz0, hz1, hz2⟩ := info_parts infoSub
          have hob12 : w.heap.size + 1 + 1 + 1 + 1 ≤ W12.heap.size := by have := lt_at hI12.rec_.1; omega
          have HI12 := Lib.hid hI12
          have HB12 := Lib.hid hB12
          have Hsub := Lib.hid hsub
          have Hsv := Lib.hid hsv
          have Hsl := Lib.hid hsl
          obtain ⟨S, hSd⟩ : ∃ S : World → Prop, S = (fun w' : World => w'.cell? ⟨g, m * 4 + 3, none⟩ = some (.slice sa acc[m].1.subs.length sc) ∧ w'.cell? ⟨w.heap.size + 1, 1, none⟩ = some (.int .i64 q1)) := ⟨_, rfl⟩
          have hS1 : ∀ w', S w' → w'.cell? ⟨g, m * 4 + 3, none⟩ = some (.slice sa acc[m].1.subs.length sc) := fun w' h => by rw [hSd] at h; exact h.1
          have hS2 : ∀ w', S w' → w'.cell? ⟨w.heap.size + 1, 1, none⟩ = some (.int .i64 q1) := fun w' h => by rw [hSd] at h; exact h.2
          have hS0 : S W12 := by rw [hSd]; exact ⟨c3', a1'⟩
          have hSm : ∀ w5 : World, (w5.cell? ⟨g, m * 4 + 3, none⟩ = some (.slice sa acc[m].1.subs.length sc) ∧ w5.cell? ⟨w.heap.size + 1, 1, none⟩ = some (.int .i64 q1)) → S w5 := fun w5 h => by rw [hSd]; exact h
          clear hSd hsub hI12 hB12 hsv hsl hsF a0 a1 a2 r0 r1 r2 r3 r4 r5 v0 v1 v2 v3 v4 v5
          refine wp_region_C 14 15 S rfl rfl ?_
          rw [hW12]
          clear hW12
          refine wpAnyC_takeD 0 122 (.pointer (some ⟨g, m * 4, none⟩)) rfl rfl rfl (by kernel_rfl) (by kernel_rfl) (by kernel_rfl) (by kernel_rfl) (fun _ _ _ h => h) (fun w5 hw5 => ?_) hS0 ?_
          · have z1 := hS1 w5 hw5; have z2 := hS2 w5 hw5
            simp only [List.getElem_toArray, List.getElem_cons_zero, List.getElem_cons_succ]
            go_simp
          try simp only [Act.put, List.setIfInBounds_toArray, List.set_cons_zero, List.set_cons_succ]
          refine wpAnyC_takeD 1 123 (.pointer (some ⟨g, m * 4, none⟩)) rfl rfl rfl (by kernel_rfl) (by kernel_rfl) (by kernel_rfl) (by kernel_rfl) (fun _ _ _ h => h) (fun w5 hw5 => ?_) hS0 ?_
          · have z1 := hS1 w5 hw5; have z2 := hS2 w5 hw5
            simp only [List.getElem_toArray, List.getElem_cons_zero, List.getElem_cons_succ]
            go_simp
          try simp only [Act.put, List.setIfInBounds_toArray, List.set_cons_zero, List.set_cons_succ]
          refine wpAnyC_takeD 2 124 (.pointer (some ⟨g, m * 4, none⟩)) rfl rfl rfl (by kernel_rfl) (by kernel_rfl) (by kernel_rfl) (by kernel_rfl) (fun _ _ _ h => h) (fun w5 hw5 => ?_) hS0 ?_
          · have z1 := hS1 w5 hw5; have z2 := hS2 w5 hw5
            simp only [List.getElem_toArray, List.getElem_cons_zero, List.getElem_cons_succ]
            go_simp
          try simp only [Act.put, List.setIfInBounds_toArray, List.set_cons_zero, List.set_cons_succ]
          refine wpAnyC_takeD 3 125 (.pointer (some ⟨g, m * 4 + 3, none⟩)) rfl rfl rfl (by kernel_rfl) (by kernel_rfl) (by kernel_rfl) (by kernel_rfl) (fun _ _ _ h => h) (fun w5 hw5 => ?_) hS0 ?_
          · have z1 := hS1 w5 hw5; have z2 := hS2 w5 hw5
            simp only [List.getElem_toArray, List.getElem_cons_zero, List.getElem_cons_succ]
            go_simp
          try simp only [Act.put, List.setIfInBounds_toArray, List.set_cons_zero, List.set_cons_succ]
          refine wpAnyC_takeD 4 126 (.slice sa acc[m].1.subs.length sc) rfl rfl rfl (by kernel_rfl) (by kernel_rfl) (by kernel_rfl) (by kernel_rfl) (fun _ _ _ h => h) (fun w5 hw5 => ?_) hS0 ?_
          · have z1 := hS1 w5 hw5; have z2 := hS2 w5 hw5
            simp only [List.getElem_toArray, List.getElem_cons_zero, List.getElem_cons_succ]
            go_simp
          try simp only [Act.put, List.setIfInBounds_toArray, List.set_cons_zero, List.set_cons_succ]
          refine wpAnyC_takeD 5 127 (.pointer (some ⟨w.heap.size + 1, 1, none⟩)) rfl rfl rfl (by kernel_rfl) (by kernel_rfl) (by kernel_rfl) (by kernel_rfl) (fun _ _ _ h => h) (fun w5 hw5 => ?_) hS0 ?_
          · have z1 := hS1 w5 hw5; have z2 := hS2 w5 hw5
            simp only [List.getElem_toArray, List.getElem_cons_zero, List.getElem_cons_succ]
            go_simp
          try simp only [Act.put, List.setIfInBounds_toArray, List.set_cons_zero, List.set_cons_succ]
          refine wpAnyC_takeD 6 128 (.int .i64 q1) rfl rfl rfl (by kernel_rfl) (by kernel_rfl) (by kernel_rfl) (by kernel_rfl) (fun _ _ _ h => h) (fun w5 hw5 => ?_) hS0 ?_
          · have z1 := hS1 w5 hw5; have z2 := hS2 w5 hw5
            simp only [List.getElem_toArray, List.getElem_cons_zero, List.getElem_cons_succ]
            go_simp
          try simp only [Act.put, List.setIfInBounds_toArray, List.set_cons_zero, List.set_cons_succ]
          refine wpAnyC_takeD 7 129 (.int .u8 (cd.toNat : Int)) rfl rfl rfl (by kernel_rfl) (by kernel_rfl) (by kernel_rfl) (by kernel_rfl) (fun _ _ _ h => h) (fun w5 hw5 => ?_) hS0 ?_
          · have z1 := hS1 w5 hw5; have z2 := hS2 w5 hw5
            simp only [List.getElem_toArray, List.getElem_cons_zero, List.getElem_cons_succ]
            go_simp
          try simp only [Act.put, List.setIfInBounds_toArray, List.set_cons_zero, List.set_cons_succ]
          refine wpAnyC_takeD 8 130 (str T) rfl rfl rfl (by kernel_rfl) (by kernel_rfl) (by kernel_rfl) (by kernel_rfl) (fun _ _ _ h => h) (fun w5 hw5 => ?_) hS0 ?_
          · have z1 := hS1 w5 hw5; have z2 := hS2 w5 hw5
            simp only [List.getElem_toArray, List.getElem_cons_zero, List.getElem_cons_succ]
            go_simp
          try simp only [Act.put, List.setIfInBounds_toArray, List.set_cons_zero, List.set_cons_succ]
          refine wpAnyC_takeD 9 131 (.agg #[.int .u8 (cd.toNat : Int), str T]) rfl rfl rfl (by kernel_rfl) (by kernel_rfl) (by kernel_rfl) (by kernel_rfl) (fun _ _ _ h => h) (fun w5 hw5 => ?_) hS0 ?_
          · have z1 := hS1 w5 hw5; have z2 := hS2 w5 hw5
            simp only [List.getElem_toArray, List.getElem_cons_zero, List.getElem_cons_succ]
            go_simp
          try simp only [Act.put, List.setIfInBounds_toArray, List.set_cons_zero, List.set_cons_succ]
          refine wpAnyC_step (k := 10) rfl (by kernel_rfl) (fun K hK => ?_)
          simp only [List.getElem_toArray, List.getElem_cons_zero, List.getElem_cons_succ]
          go_simp
          refine hK _ _ (fun _ => hSm _ ⟨cell_al _ c3', cell_al _ a1'⟩) ?_
          clear hK
          refine wpAnyC_step (k := 11) rfl (by kernel_rfl) (fun K hK => ?_)
          simp only [List.getElem_toArray, List.getElem_cons_zero, List.getElem_cons_succ]
          rw [if_pos (by rfl)]
          refine wp_append_lies _ _ _ _ (by rfl) (w.heap.size + 1 + 1 + 1 + 1) 64 i0' _ 2 24 Tryd.underlying60 hi hz0 hz1 hz2 rfl (by omega) _ acc[m].1.subs.length _ (by rfl) (Hsub.out.alloc _) ⟨W12.heap.size, 0, none⟩ 1 1 [.int .u8 (cd.toNat : Int), str T] (by rfl) (by rfl) (two_cells W12 _ _ _) (by simp [Value.oneCell']) (by omega) (by have := Hsl.out; unfold maxLen; omega) (by have := Hsl.out; omega) (by simp; omega) (W12.heap.size + 1) (by simp) ?_
          intro gg cap2 w8 hown8 hgrow8 hat8 hlt8
          try simp only [Act.put, List.setIfInBounds_toArray, List.set_cons_zero, List.set_cons_succ]
          rw [← Hsv.out] at hgrow8 hat8
          have happ := HI12.out.app m hma ⟨cd, T⟩ (by rw [subCells_snoc]; exact hown8) hgrow8 (by
            rcases hat8 with h | h
            · exact .inl (by rw [h]; rfl)
            · exact .inr ⟨gg, rfl, by omega⟩)
          obtain ⟨hI9, d3, d4, gr9⟩ := happ
          rw [Hsv.out] at d3
          have a18 : w8.cell? ⟨w.heap.size + 1, 1, none⟩ = some (.int .i64 q1) := by rw [cell_at ((gr9 (w.heap.size + 1) (by omega)).trans HB12.out.q)]; rfl
          refine hK _ _ (fun _ => hSm _ ⟨d3, a18⟩) ?_
          clear hK
          refine wpAnyC_step (k := 12) rfl (by kernel_rfl) (fun K hK => ?_)
          simp only [List.getElem_toArray, List.getElem_cons_zero, List.getElem_cons_succ]
          go_simp
          refine hK _ _ (fun _ => hSm _ ⟨d3, a18⟩) ?_
          clear hK
          refine wpAnyC_step (k := 13) rfl (by kernel_rfl) (fun K hK => ?_)
          simp only [List.getElem_toArray, List.getElem_cons_zero, List.getElem_cons_succ]
          go_simp
          refine hK _ _ (fun _ => hSm _ ⟨d3, a18⟩) ?_
          clear hK
          refine wpAnyC_step (k := 14) rfl (by kernel_rfl) (fun K hK => ?_)
          simp only [List.getElem_toArray, List.getElem_cons_zero, List.getElem_cons_succ]
          go_simp
          refine hK _ _ (fun h => absurd (of_decide_eq_true h) (by decide)) ?_
          clear hK
          refine wpAnyC_done (by kernel_rfl) ?_
          clear hS0 hSm hS1 hS2 S
          have hz9 := (gr9 (w.heap.size + 1 + 1) (by omega)).trans HB12.out.z
          have hr9 := gr9 (w.heap.size + 1 + 1 + 1) (Nat.le_refl _)
          have s0 : w8.cell? ⟨w.heap.size + 1 + 1, 0, none⟩ = some (.int .u8 0) := by rw [cell_at hz9]; rfl
          have s1 : w8.cell? ⟨w.heap.size + 1 + 1, 1, none⟩ = some (.int .u8 0) := by rw [cell_at hz9]; rfl
          have s2 : w8.cell? ⟨w.heap.size + 1 + 1, 2, none⟩ = some (.slice none 0 0) := by rw [cell_at hz9]; rfl
          have s3 : w8.frozen? ⟨w.heap.size + 1 + 1, 0, none⟩ = false := Lib.frozen_of_heap hz9 0
          have s4 : w8.frozen? ⟨w.heap.size + 1 + 1, 1, none⟩ = false := Lib.frozen_of_heap hz9 1
          have s5 : w8.frozen? ⟨w.heap.size + 1 + 1, 2, none⟩ = false := Lib.frozen_of_heap hz9 2
          have hrec9 := hr9.trans HI12.out.rec_.1
          have o0 : w8.cell? ⟨w.heap.size + 1 + 1 + 1, 0, none⟩ = some (.int .u8 (rk.toNat : Int)) := by rw [cell_at hrec9]; rfl
          have o1 : w8.cell? ⟨w.heap.size + 1 + 1 + 1, 1, none⟩ = some (.int .u8 (rl.toNat : Int)) := by rw [cell_at hrec9]; rfl
          have o2 : w8.cell? ⟨w.heap.size + 1 + 1 + 1, 2, none⟩ = some (.slice (some ⟨g, 0, none⟩) fs.length oc) := by rw [cell_at hrec9, ← Hlen.out]; rfl
          have hfin := sp_done hI9 ((far_set _ _ _ _ (by omega)).trans hz9) (fs.set m {acc[m].1 with subs := acc[m].1.subs ++ [⟨cd, T⟩]}) (by rw [map_set_fst, Hmap.out]) (put_ok Hmap.out HsS.out hma {acc[m].1 with subs := acc[m].1.subs ++ [⟨cd, T⟩]} (by have hs := subsN_end acc[m].1.subs ⟨cd, T⟩; have ht : (SubM.mk cd T).text.length ≤ 4 := hTl; unfold sizeF; simp only at hs ht ⊢; omega) (tag_le Hmap.out HsS.out.2 hma) rk rl)
          clear hown8 hgrow8 hat8 hlt8 hI9 gr9 hz9 hr9 hrec9 hi hz0 hz1 hz2 hob12 c3' a1' a18
          obtain ⟨WF, hWF⟩ : ∃ WF, fin3 (w8.setCell ⟨g, m * 4 + 3, none⟩ (.slice (some ⟨gg, 0, none⟩) (acc[m].1.subs.length + 1) cap2)) (w.heap.size + 1 + 1) (.int .u8 (rk.toNat : Int)) (.int .u8 (rl.toNat : Int)) (.slice (some ⟨g, 0, none⟩) fs.length oc) = WF := ⟨_, rfl⟩
          rw [Hlen.out, hWF] at hfin
          unfold fin3 at hWF
          have Hfin := Lib.hid hfin
          have HWF := Lib.hid hWF
          clear hfin hWF
          go_wp2_with fail
          rw [HWF.out]
          obtain ⟨hp, c0, c1, c2⟩ := Hfin.out
          simp [bodyPost, results, Tryd.results15, go_sem, c0, c1, c2]
          exact hp
        have k6a : ((k0 : Int) == 6) = false := by rw [beq_eq_false_iff_ne]; omega
        by_cases j7 : k0 = 7
        · have k7a : ((k0 : Int) == 7) = true := by rw [beq_iff_eq]; omega
          obtain ⟨W12, hW12⟩ : ∃ W12, W11.alloc (.cells #[.int .u8 122, str T] 64) = W12 := ⟨_, rfl⟩
          have hb12 : Below W11.heap.size W11 W12 := by rw [← hW12]; exact below_new _ _
          have hn12 : W12.heap[W11.heap.size]? = some (.cells #[.int .u8 122, str T] 64 (0, 0)) := by rw [← hW12]; exact new_at _ _
          have hI12 := HI11.out.below hb12
          have hB12 := HB11.out.below hb12
          have a2' : W12.cell? ⟨w.heap.size + 1, 2, none⟩ = some (.int .i64 q2) := by rw [cell_at hB12.q]; rfl
          have r0' : W12.cell? ⟨w.heap.size + 1 + 1, 0, none⟩ = some (.int .u8 0) := by rw [cell_at hB12.z]; rfl
          have r1' : W12.cell? ⟨w.heap.size + 1 + 1, 1, none⟩ = some (.int .u8 0) := by rw [cell_at hB12.z]; rfl
          have r2' : W12.cell? ⟨w.heap.size + 1 + 1, 2, none⟩ = some (.slice none 0 0) := by rw [cell_at hB12.z]; rfl
          have r3' : W12.frozen? ⟨w.heap.size + 1 + 1, 0, none⟩ = false := Lib.frozen_of_heap hB12.z 0
          have r4' : W12.frozen? ⟨w.heap.size + 1 + 1, 1, none⟩ = false := Lib.frozen_of_heap hB12.z 1
          have r5' : W12.frozen? ⟨w.heap.size + 1 + 1, 2, none⟩ = false := Lib.frozen_of_heap hB12.z 2
          obtain ⟨v0', v1', v2', v3', v4', v5'⟩ := hI12.rec_.cells
          rw [Hlen.out] at v2'
          obtain ⟨g1', g2', c0', c1', c2', c3', gf⟩ := sp_at hI12 hma
          have gf0 := gf (m * 4)
          have gf1 := gf (m * 4 + 1)
          have gf2 := gf (m * 4 + 2)
          have gf3 := gf (m * 4 + 3)
          have hsF := sizeF_at Hmap.out HsS.out hma
          have hsl : acc[m].1.subs.length ≤ 100000 := by have := HSS.out; have := subsN_len acc[m].1.subs; unfold sizeF at hsF; omega
          have hsub : W12.ownsRow (w.heap.size + 1 + 1 + 1 + 1) 64 2 acc[m].2 acc[m].1.subs.length (subCells acc[m].1.subs) := hI12.subs acc[m] (List.getElem_mem hma)
          obtain ⟨sa, sc, hsv⟩ := own_form hsub
          obtain ⟨-, -, -, -, -, c3'', -⟩ := sp_at HI11.out hma
          rw [hsv] at hsub c3' c3''
          obtain ⟨i0', hi, hz0, hz1, hz2⟩ := info_parts infoSub
          have hsz12 : W12.heap.size = W11.heap.size + 1 := by rw [← hW12]; simp
          have hob12 : w.heap.size + 1 + 1 + 1 + 1 ≤ W12.heap.size := by omega
          have hnews : ∀ ad, some (⟨W11.heap.size, 0, none⟩ : Addr) = some ad → ∀ j u, [.int .u8 122, str T][j]? = some u → W12.cell? (ad.add j) = some u := by
            rintro ad ⟨rfl⟩ j u hu
            have hj : (⟨W11.heap.size, 0, none⟩ : Addr).add j = ⟨W11.heap.size, j, none⟩ := by
              unfold Addr.add
              split
              · rename_i h0; rw [h0]
              · simp
            rw [hj, cell_at hn12]
            simpa using hu
          have HI12 := Lib.hid hI12
          have HB12 := Lib.hid hB12
          have Hsub := Lib.hid hsub
          have Hnews := Lib.hid hnews
          have Hsv := Lib.hid hsv
          have Hsl := Lib.hid hsl
          have HW12 := Lib.hid hW12
          have Hsz12 := Lib.hid hsz12
          clear hI12 hB12 hn12 hb12 hsub hnews hsv hsF hsl hsz12 a0 a1 a2 r0 r1 r2 r3 r4 r5 v0 v1 v2 v3 v4 v5 gf
          go_wp2_with (at_builtin; refine wpList_append_src _ rfl _ _ 60 rfl (w.heap.size + 1 + 1 + 1 + 1) 64 i0' _ 2 24 Tryd.underlying60 hi hz0 hz1 hz2 rfl (by decide) _ acc[m].1.subs.length (subCells acc[m].1.subs) rfl Hsub.out (some ⟨W11.heap.size, 0, none⟩) 1 1 [.int .u8 122, str T] rfl rfl Hnews.out (by intro h; cases h) ?sd1 ?sd2 ?sd3 ?sd4 ?_)
          case sd1 => simp [Value.oneCell']
          case sd2 => have := Hsl.out; unfold maxLen; omega
          case sd3 => have := Hsl.out; omega
          case sd4 => exact hob12
          intro v8 w8 hown8 hgrow8 hblk8
          obtain ⟨va, vc, rfl⟩ := own_form hown8
          rw [← HW12.out, ← Hsv.out] at hgrow8
          rw [← Hsv.out] at hblk8
          have happ := HI11.out.app m hma ⟨122, T⟩ (by rw [subCells_snoc]; exact hown8) hgrow8 (hblk8.imp id (fun h => ⟨_, h, by have := Hsz12.out; omega⟩))
          obtain ⟨hI9, d3, d4, gr9⟩ := happ
          rw [Hsv.out] at d3
          have hz9 := (gr9 (w.heap.size + 1 + 1) (by omega)).trans HB11.out.z
          have hI9b := hI9.rec_.cells
          have hr9 := gr9 (w.heap.size + 1 + 1 + 1) (Nat.le_refl _)
          have s0 : w8.cell? ⟨w.heap.size + 1 + 1, 0, none⟩ = some (.int .u8 0) := by rw [cell_at hz9]; rfl
          have s1 : w8.cell? ⟨w.heap.size + 1 + 1, 1, none⟩ = some (.int .u8 0) := by rw [cell_at hz9]; rfl
          have s2 : w8.cell? ⟨w.heap.size + 1 + 1, 2, none⟩ = some (.slice none 0 0) := by rw [cell_at hz9]; rfl
          have s3 : w8.frozen? ⟨w.heap.size + 1 + 1, 0, none⟩ = false := Lib.frozen_of_heap hz9 0
          have s4 : w8.frozen? ⟨w.heap.size + 1 + 1, 1, none⟩ = false := Lib.frozen_of_heap hz9 1
          have s5 : w8.frozen? ⟨w.heap.size + 1 + 1, 2, none⟩ = false := Lib.frozen_of_heap hz9 2
          have hrec9 := hr9.trans HI11.out.rec_.1
          have o0 : w8.cell? ⟨w.heap.size + 1 + 1 + 1, 0, none⟩ = some (.int .u8 (rk.toNat : Int)) := by rw [cell_at hrec9]; rfl
          have o1 : w8.cell? ⟨w.heap.size + 1 + 1 + 1, 1, none⟩ = some (.int .u8 (rl.toNat : Int)) := by rw [cell_at hrec9]; rfl
          have o2 : w8.cell? ⟨w.heap.size + 1 + 1 + 1, 2, none⟩ = some (.slice (some ⟨g, 0, none⟩) fs.length oc) := by rw [cell_at hrec9, ← Hlen.out]; rfl
          have hfin := sp_done hI9 ((far_set _ _ _ _ (by omega)).trans hz9) (fs.set m {acc[m].1 with subs := acc[m].1.subs ++ [⟨122, T⟩]}) (by rw [map_set_fst, Hmap.out]) (put_ok Hmap.out HsS.out hma {acc[m].1 with subs := acc[m].1.subs ++ [⟨122, T⟩]} (by have hs := subsN_end acc[m].1.subs ⟨122, T⟩; have ht : (SubM.mk 122 T).text.length ≤ 4 := hTl; unfold sizeF; simp only at hs ht ⊢; omega) (tag_le Hmap.out HsS.out.2 hma) rk rl)
          clear hown8 hgrow8 hblk8 hI9 gr9 hz9 hI9b hr9 hrec9 hi hz0 hz1 hz2 hob12 c0' c1' c2' c3' c3'' a2' r0' r1' r2' r3' r4' r5' v0' v1' v2' v3' v4' v5' gf0 gf1 gf2 gf3
          obtain ⟨WF, hWF⟩ : ∃ WF, fin3 (w8.setCell ⟨g, m * 4 + 3, none⟩ (.slice va (acc[m].1.subs.length + 1) vc)) (w.heap.size + 1 + 1) (.int .u8 (rk.toNat : Int)) (.int .u8 (rl.toNat : Int)) (.slice (some ⟨g, 0, none⟩) fs.length oc) = WF := ⟨_, rfl⟩
          rw [Hlen.out, hWF] at hfin
          unfold fin3 at hWF
          have Hfin := Lib.hid hfin
          have HWF := Lib.hid hWF
          clear hfin hWF
          go_wp2_with fail
          rw [HWF.out]
          obtain ⟨hp, c0, c1, c2⟩ := Hfin.out
          simp [bodyPost, results, Tryd.results15, go_sem, c0, c1, c2]
          exact hp
        have k7a : ((k0 : Int) == 7) = false := by rw [beq_eq_false_iff_ne]; omega
        by_cases j8 : k0 = 8
        · have k8a : ((k0 : Int) == 8) = true := by rw [beq_iff_eq]; omega
          have M8 := Lib.hid (fun W => mod_c q2 12 (by decide) (by decide) f2 W)
          have hj8 := modN_lt (n := q2) (m := 12) (by decide)
          obtain ⟨j8, hj8e⟩ : ∃ k, modN q2 12 = k := ⟨_, rfl⟩
          rw [hj8e] at hj8 M8
          have hj8' : j8 < 12 := by omega
          obtain ⟨N, hN⟩ : ∃ N, 9990 + j8 = N := ⟨_, rfl⟩
          obtain ⟨D, hD⟩ : ∃ D : List UInt8, List.replicate N 108 = D := ⟨_, rfl⟩
          have hDl : D.length = N := by rw [← hD, List.length_replicate]
          have ML := Lib.hid (fun W => rlong_w j8 N hj8' hN D hD W)
          have HN := Lib.hid (show N ≤ 10001 by omega)
          have HDl := Lib.hid hDl
          have w58 : IntKind.i64.wrap (9990 + (j8 : Int)) = 9990 + (j8 : Int) := wrapI _ (by omega) (by omega)
          clear hj8 hj8e hj8' hN hD hDl
          go_wp2_with fail
          obtain ⟨W12, hW12⟩ : ∃ W12, W11.drew = W12 := ⟨_, rfl⟩
          have hI12 := HI11.out.below (Below.refl _ W11).drew
          have hB12 := HB11.out.below (Below.refl _ W11).drew
          rw [hW12] at hI12 hB12
          have a2' : W12.cell? ⟨w.heap.size + 1, 2, none⟩ = some (.int .i64 q2) := by rw [cell_at hB12.q]; rfl
          have c2' : W12.cell? ⟨w.heap.size + 1 + 1 + 1, 2, none⟩ = some (.slice (some ⟨g, 0, none⟩) fs.length oc) := by rw [cell_at hI12.rec_.1, ← Hlen.out]; rfl
          obtain ⟨i1', hi1, hy0, hy1, hy2⟩ := info_parts infoFld
          have hob12 : w.heap.size + 1 + 1 + 1 + 1 ≤ W12.heap.size := by have := lt_at hI12.rec_.1; omega
          have hsl : fs.length ≤ 100000 := by have := HSS.out; have := HsS.out.1; omega
          have HI12 := Lib.hid hI12
          have HB12 := Lib.hid hB12
          have Hsl := Lib.hid hsl
          obtain ⟨S, hSd⟩ : ∃ S : World → Prop, S = (fun w' : World => w'.cell? ⟨w.heap.size + 1 + 1 + 1, 2, none⟩ = some (.slice (some ⟨g, 0, none⟩) fs.length oc) ∧ w'.cell? ⟨w.heap.size + 1, 2, none⟩ = some (.int .i64 q2)) := ⟨_, rfl⟩
          have hS1 : ∀ w', S w' → w'.cell? ⟨w.heap.size + 1 + 1 + 1, 2, none⟩ = some (.slice (some ⟨g, 0, none⟩) fs.length oc) := fun w' h => by rw [hSd] at h; exact h.1
          have hS2 : ∀ w', S w' → w'.cell? ⟨w.heap.size + 1, 2, none⟩ = some (.int .i64 q2) := fun w' h => by rw [hSd] at h; exact h.2
          have hS0 : S W12 := by rw [hSd]; exact ⟨c2', a2'⟩
          have hSm : ∀ w5 : World, (w5.cell? ⟨w.heap.size + 1 + 1 + 1, 2, none⟩ = some (.slice (some ⟨g, 0, none⟩) fs.length oc) ∧ w5.cell? ⟨w.heap.size + 1, 2, none⟩ = some (.int .i64 q2)) → S w5 := fun w5 h => by rw [hSd]; exact h
          clear hSd hI12 hB12 hsl a0 a1 a2 r0 r1 r2 r3 r4 r5 v0 v1 v2 v3 v4 v5
          refine wp_region_C 14 15 S rfl rfl ?_
          rw [hW12]
          clear hW12
          refine wpAnyC_takeD 0 151 (.pointer (some ⟨w.heap.size + 1 + 1 + 1, 2, none⟩)) rfl rfl rfl (by kernel_rfl) (by kernel_rfl) (by kernel_rfl) (by kernel_rfl) (fun _ _ _ h => h) (fun w5 hw5 => ?_) hS0 ?_
          · have z1 := hS1 w5 hw5; have z2 := hS2 w5 hw5
            simp only [List.getElem_toArray, List.getElem_cons_zero, List.getElem_cons_succ]
            go_simp
          try simp only [Act.put, List.setIfInBounds_toArray, List.set_cons_zero, List.set_cons_succ]
          refine wpAnyC_takeD 1 152 (.slice (some ⟨g, 0, none⟩) fs.length oc) rfl rfl rfl (by kernel_rfl) (by kernel_rfl) (by kernel_rfl) (by kernel_rfl) (fun _ _ _ h => h) (fun w5 hw5 => ?_) hS0 ?_
          · have z1 := hS1 w5 hw5; have z2 := hS2 w5 hw5
            simp only [List.getElem_toArray, List.getElem_cons_zero, List.getElem_cons_succ]
            go_simp
          try simp only [Act.put, List.setIfInBounds_toArray, List.set_cons_zero, List.set_cons_succ]
          refine wpAnyC_takeD 2 153 (.pointer (some ⟨w.heap.size + 1, 2, none⟩)) rfl rfl rfl (by kernel_rfl) (by kernel_rfl) (by kernel_rfl) (by kernel_rfl) (fun _ _ _ h => h) (fun w5 hw5 => ?_) hS0 ?_
          · have z1 := hS1 w5 hw5; have z2 := hS2 w5 hw5
            simp only [List.getElem_toArray, List.getElem_cons_zero, List.getElem_cons_succ]
            go_simp
          try simp only [Act.put, List.setIfInBounds_toArray, List.set_cons_zero, List.set_cons_succ]
          refine wpAnyC_takeD 3 154 (.int .i64 q2) rfl rfl rfl (by kernel_rfl) (by kernel_rfl) (by kernel_rfl) (by kernel_rfl) (fun _ _ _ h => h) (fun w5 hw5 => ?_) hS0 ?_
          · have z1 := hS1 w5 hw5; have z2 := hS2 w5 hw5
            simp only [List.getElem_toArray, List.getElem_cons_zero, List.getElem_cons_succ]
            go_simp
          try simp only [Act.put, List.setIfInBounds_toArray, List.set_cons_zero, List.set_cons_succ]
          refine wpAnyC_step (k := 4) rfl (by kernel_rfl) (fun K hK => ?_)
          simp only [List.getElem_toArray, List.getElem_cons_zero, List.getElem_cons_succ]
          go_simp
          go_wp2_with fail
          refine (M8.out _).mono ?_
          rintro _ _ ⟨rfl, rfl⟩
          go_wp2_with fail
          refine hK _ _ (fun _ => hS0) ?_
          clear hK
          try simp only [Act.put, List.setIfInBounds_toArray, List.set_cons_zero, List.set_cons_succ]
          refine wpAnyC_takeD 5 156 (.int .i64 (9990 + (j8 : Int))) rfl rfl rfl (by kernel_rfl) (by kernel_rfl) (by kernel_rfl) (by kernel_rfl) (fun _ _ _ h => h) (fun w5 hw5 => ?_) hS0 ?_
          · have z1 := hS1 w5 hw5; have z2 := hS2 w5 hw5
            simp only [List.getElem_toArray, List.getElem_cons_zero, List.getElem_cons_succ]
            go_simp
          try simp only [Act.put, List.setIfInBounds_toArray, List.set_cons_zero, List.set_cons_succ]
          refine wpAnyC_step (k := 6) rfl (by kernel_rfl) (fun K hK => ?_)
          simp only [List.getElem_toArray, List.getElem_cons_zero, List.getElem_cons_succ]
          go_simp
          go_wp2_with fail
          refine (ML.out _).mono ?_
          rintro _ Wl ⟨rfl, hcv, hbl⟩
          go_wp2_with fail
          have c2l := cell_below hbl (Nat.le_refl _) c2'
          have a2l := cell_below hbl (Nat.le_refl _) a2'
          have hTl9 := hSm _ ⟨c2l, a2l⟩
          refine hK _ _ (fun _ => hTl9) ?_
          clear hK
          try simp only [Act.put, List.setIfInBounds_toArray, List.set_cons_zero, List.set_cons_succ]
          refine wpAnyC_step (k := 7) rfl (by kernel_rfl) (fun K hK => ?_)
          simp only [List.getElem_toArray, List.getElem_cons_zero, List.getElem_cons_succ]
          go_simp
          refine hK _ _ (fun _ => hTl9) ?_
          clear hK
          try simp only [Act.put, List.setIfInBounds_toArray, List.set_cons_zero, List.set_cons_succ]
          refine wpAnyC_step (k := 8) rfl (by kernel_rfl) (fun K hK => ?_)
          simp only [List.getElem_toArray, List.getElem_cons_zero, List.getElem_cons_succ]
          go_simp
          refine hK _ _ (fun _ => hTl9) ?_
          clear hK
          try simp only [Act.put, List.setIfInBounds_toArray, List.set_cons_zero, List.set_cons_succ]
          refine wpAnyC_step (k := 9) rfl (by kernel_rfl) (fun K hK => ?_)
          simp only [List.getElem_toArray, List.getElem_cons_zero, List.getElem_cons_succ]
          go_simp
          refine hK _ _ (fun _ => hSm _ ⟨cell_al _ c2l, cell_al _ a2l⟩) ?_
          clear hK
          try simp only [Act.put, List.setIfInBounds_toArray, List.set_cons_zero, List.set_cons_succ]
          obtain ⟨Wa, hWa⟩ : ∃ Wa, Wl.alloc (.cells #[.int .u8 97, str D] 64) = Wa := ⟨_, rfl⟩
          have hba : Below W12.heap.size W12 Wa := by rw [← hWa]; exact hbl.alloc hbl.size _
          have hlit := World.ownsRow_lit (base := w.heap.size + 1 + 1 + 1 + 1) (e := 64) (size := 2) Wl #[.int .u8 97, str D] 1 (by have := hbl.size; omega) (by decide) rfl
          have c2a : Wa.cell? ⟨w.heap.size + 1 + 1 + 1, 2, none⟩ = some (.slice (some ⟨g, 0, none⟩) fs.length oc) := by rw [← hWa]; exact cell_al _ c2l
          have a2a : Wa.cell? ⟨w.heap.size + 1, 2, none⟩ = some (.int .i64 q2) := by rw [← hWa]; exact cell_al _ a2l
          rw [hWa] at hlit ⊢
          have hIa := HI12.out.below hba
          have hBa := HB12.out.below hba
          have hrow : Wa.ownsRow (w.heap.size + 1 + 1 + 1 + 1) 62 4 (.slice (some ⟨g, 0, none⟩) fs.length oc) fs.length (fldCells acc) := by have := hIa.rec_.2; rwa [Hlen.out] at this
          have HIa := Lib.hid hIa
          have HBa := Lib.hid hBa
          have Hrow := Lib.hid hrow
          have Hlit8 := Lib.hid hlit
          have hsza := lt_at hIa.rec_.1
          clear hIa hBa hrow hlit hba
          refine wpAnyC_step (k := 10) rfl (by kernel_rfl) (fun K hK => ?_)
          simp only [List.getElem_toArray, List.getElem_cons_zero, List.getElem_cons_succ]
          go_simp
          refine hK _ _ (fun _ => hSm _ ⟨c2a, a2a⟩) ?_
          clear hK
          try simp only [Act.put, List.setIfInBounds_toArray, List.set_cons_zero, List.set_cons_succ]
          refine wpAnyC_step (k := 11) rfl (by kernel_rfl) (fun K hK => ?_)
          simp only [List.getElem_toArray, List.getElem_cons_zero, List.getElem_cons_succ]
          go_simp
          refine hK _ _ (fun _ => hSm _ ⟨cell_al _ c2a, cell_al _ a2a⟩) ?_
          clear hK
          try simp only [Act.put, List.setIfInBounds_toArray, List.set_cons_zero, List.set_cons_succ]
          refine wpAnyC_step (k := 12) rfl (by kernel_rfl) (fun K hK => ?_)
          simp only [List.getElem_toArray, List.getElem_cons_zero, List.getElem_cons_succ]
          rw [if_pos (by rfl)]
          refine wp_append_lies _ _ _ _ (by rfl) (w.heap.size + 1 + 1 + 1 + 1) 62 i1' _ 4 72 Tryd.underlying25 hi1 hy0 hy1 hy2 rfl (by omega) _ fs.length _ (by rfl) (Hrow.out.alloc _) ⟨Wa.heap.size, 0, none⟩ 1 1 [str [53, 48, 48], str [32, 32], .string ⟨#[]⟩, .slice (some ⟨Wl.heap.size, 0, none⟩) 1 1] (by rfl) (by rfl) (fld_cells Wa _ _ _ _ _) (by simp [Value.oneCell']) (by omega) (by have := Hsl.out; unfold maxLen; omega) (by have := Hsl.out; omega) (by simp; omega) (Wa.heap.size + 1) (by simp) ?_
          intro gg cap2 w8 hown8 hgrow8 hat8 hlt8
          try simp only [Act.put, List.setIfInBounds_toArray, List.set_cons_zero, List.set_cons_succ]
          obtain ⟨g1, g2, g3, g4, g5⟩ := RecO.app (f := ⟨[53, 48, 48], [32, 32], [], [⟨97, D⟩]⟩) (v' := .slice (some ⟨gg, 0, none⟩) (fs.length + 1) cap2) HIa.out.rec_ (by rw [Hlen.out]; exact hown8) hgrow8
          rw [Hlen.out] at g2
          have a28 : w8.cell? ⟨w.heap.size + 1, 2, none⟩ = some (.int .i64 q2) := by
            have h1 := hgrow8.block (w.heap.size + 1) (by simp; omega) (fun e => by have := (Hrow.out.lt _ e.symm).1; omega)
            rw [cell_at ((h1.trans ((below_new Wa _).block _ (by omega))).trans HBa.out.q)]; rfl
          refine hK _ _ (fun _ => hSm _ ⟨g2, a28⟩) ?_
          clear hK
          refine wpAnyC_step (k := 13) rfl (by kernel_rfl) (fun K hK => ?_)
          simp only [List.getElem_toArray, List.getElem_cons_zero, List.getElem_cons_succ]
          go_simp
          refine hK _ _ (fun _ => hSm _ ⟨g2, a28⟩) ?_
          clear hK
          refine wpAnyC_step (k := 14) rfl (by kernel_rfl) (fun K hK => ?_)
          simp only [List.getElem_toArray, List.getElem_cons_zero, List.getElem_cons_succ]
          go_simp
          refine hK _ _ (fun h => absurd (of_decide_eq_true h) (by decide)) ?_
          clear hK
          refine wpAnyC_done (by kernel_rfl) ?_
          clear hS0 hTl9 hSm hS1 hS2 S
          have hsub9 : SubsOwn (w8.setCell ⟨w.heap.size + 1 + 1 + 1, 2, none⟩ (.slice (some ⟨gg, 0, none⟩) (fs.length + 1) cap2)) (w.heap.size + 1 + 1 + 1 + 1) (acc ++ [(⟨[53, 48, 48], [32, 32], [], [⟨97, D⟩]⟩, .slice (some ⟨Wl.heap.size, 0, none⟩) 1 1)]) := by
            intro q hq
            rcases List.mem_append.1 hq with hq | hq
            · exact sub_kept HIa.out.rec_ g5 (HIa.out.subs q hq)
            · rw [List.mem_singleton.1 hq]; exact sub_kept HIa.out.rec_ g5 Hlit8.out
          have hd9 : Dist (acc ++ [((⟨[53, 48, 48], [32, 32], [], [⟨97, D⟩]⟩ : FldM), Value.slice (some ⟨Wl.heap.size, 0, none⟩) 1 1)]) := by
            unfold Dist
            rw [List.pairwise_append]
            refine ⟨HIa.out.dist, List.pairwise_singleton _ _, fun a ha b hb => ?_⟩
            rw [List.mem_singleton.1 hb]
            cases hq : a.2.ownBlock with
            | none => exact .inl rfl
            | some g =>
              right
              have := ((HI12.out.subs a ha).lt g hq).2
              have := hbl.size
              simp [Value.ownBlock]
              omega
          have hI9 : SpI w (w8.setCell ⟨w.heap.size + 1 + 1 + 1, 2, none⟩ (.slice (some ⟨gg, 0, none⟩) (fs.length + 1) cap2)) (w.heap.size + 1 + 1 + 1) rk rl (acc ++ [(⟨[53, 48, 48], [32, 32], [], [⟨97, D⟩]⟩, .slice (some ⟨Wl.heap.size, 0, none⟩) 1 1)]) (.slice (some ⟨gg, 0, none⟩) (fs.length + 1) cap2) :=
            ⟨g1, hsub9, hd9, HIa.out.bel.trans (g4 _ (by omega)), HIa.out.hob⟩
          have hB9 : SpB (w8.setCell ⟨w.heap.size + 1 + 1 + 1, 2, none⟩ (.slice (some ⟨gg, 0, none⟩) (fs.length + 1) cap2)) w.heap.size rk rl (.slice fa fs.length fc) q0 q1 q2 :=
            HBa.out.keep (fun g hg => g5 g (by omega) (by omega) (fun e => by have := (Hrow.out.lt g e.symm).1; omega))
          obtain ⟨W9, hW9⟩ : ∃ W9, w8.setCell ⟨w.heap.size + 1 + 1 + 1, 2, none⟩ (.slice (some ⟨gg, 0, none⟩) (fs.length + 1) cap2) = W9 := ⟨_, rfl⟩
          rw [hW9] at hI9 hB9 ⊢
          have s0 : W9.cell? ⟨w.heap.size + 1 + 1, 0, none⟩ = some (.int .u8 0) := by rw [cell_at hB9.z]; rfl
          have s1 : W9.cell? ⟨w.heap.size + 1 + 1, 1, none⟩ = some (.int .u8 0) := by rw [cell_at hB9.z]; rfl
          have s2 : W9.cell? ⟨w.heap.size + 1 + 1, 2, none⟩ = some (.slice none 0 0) := by rw [cell_at hB9.z]; rfl
          have s3 : W9.frozen? ⟨w.heap.size + 1 + 1, 0, none⟩ = false := Lib.frozen_of_heap hB9.z 0
          have s4 : W9.frozen? ⟨w.heap.size + 1 + 1, 1, none⟩ = false := Lib.frozen_of_heap hB9.z 1
          have s5 : W9.frozen? ⟨w.heap.size + 1 + 1, 2, none⟩ = false := Lib.frozen_of_heap hB9.z 2
          have o0 : W9.cell? ⟨w.heap.size + 1 + 1 + 1, 0, none⟩ = some (.int .u8 (rk.toNat : Int)) := by rw [cell_at hI9.rec_.1]; rfl
          have o1 : W9.cell? ⟨w.heap.size + 1 + 1 + 1, 1, none⟩ = some (.int .u8 (rl.toNat : Int)) := by rw [cell_at hI9.rec_.1]; rfl
          have o2 : W9.cell? ⟨w.heap.size + 1 + 1 + 1, 2, none⟩ = some (.slice (some ⟨gg, 0, none⟩) (fs.length + 1) cap2) := by rw [cell_at hI9.rec_.1]; rfl
          have hfin := sp_done hI9 hB9.z (fs ++ [⟨[53, 48, 48], [32, 32], [], [⟨97, D⟩]⟩]) (by rw [List.map_append, Hmap.out]; rfl) (app_ok HsS.out _ (by unfold sizeF subsN; simp [HDl.out]; have := HN.out; omega) (by show 3 ≤ 4; omega) rk rl)
          obtain ⟨WF, hWF⟩ : ∃ WF, fin3 W9 (w.heap.size + 1 + 1) (.int .u8 (rk.toNat : Int)) (.int .u8 (rl.toNat : Int)) (.slice (some ⟨gg, 0, none⟩) (fs.length + 1) cap2) = WF := ⟨_, rfl⟩
          rw [hWF] at hfin
          unfold fin3 at hWF
          have Hfin := Lib.hid hfin
          have HWF := Lib.hid hWF
          clear hfin hWF hI9 hB9 hW9 hsub9 hd9 g1 g2 g3 g4 g5 hown8 hgrow8 hat8 hlt8 hi1 hy0 hy1 hy2 hbl hcv c2' a2' c2l a2l c2a a2a a28 hWa Hlit8
          go_wp2_with fail
          rw [HWF.out]
          obtain ⟨hp, c0, c1, c2⟩ := Hfin.out
          simp [bodyPost, results, Tryd.results15, go_sem, c0, c1, c2]
          exact hp
        have k8a : ((k0 : Int) == 8) = false := by rw [beq_eq_false_iff_ne]; omega
        have k9 : k0 = 9 := by omega
        have k9a : ((k0 : Int) == 9) = true := by rw [beq_iff_eq]; omega
        have M20 := Lib.hid (fun W => mod_c q2 20 (by decide) (by decide) f2 W)
        have hjn := modN_lt (n := q2) (m := 20) (by decide)
        obtain ⟨jn, hjne⟩ : ∃ k, modN q2 20 = k := ⟨_, rfl⟩
        rw [hjne] at hjn M20
        have hjn20 : jn < 20 := by omega
        clear hjn hjne
        go_wp2_with fail
        clear a0 a1 a2 r0 r1 r2 r3 r4 r5 v0 v1 v2 v3 v4 v5 Hgc11
        go_loopw [11] (fun iv wx => ∃ (k : Nat) (acc2 : List (FldM × Value)) (sv : Value), k ≤ 990 + jn ∧ iv = .int .i64 k ∧ acc2.map (fun p => p.1) = fs ++ List.replicate k ⟨[48, 48, 51], [], [100], []⟩ ∧ acc2.length = fs.length + k ∧ SpI w wx (w.heap.size + 1 + 1 + 1) rk rl acc2 sv ∧ SpB wx w.heap.size rk rl (.slice fa fs.length fc) q0 q1 q2) (fun iv _ => 1010 - (intOf iv).toNat)
        case atStart => exact ⟨0, acc, _, by omega, rfl, by rw [Hmap.out]; simp, by rw [Hlen.out]; rfl, HI11.out, HB11.out⟩
        case round =>
          obtain ⟨k, acc2, sv2, hk2, rfl, hmap2, hacc2, hinv2, hBx⟩ := hrel
          have z2 : wr.cell? ⟨w.heap.size + 1, 2, none⟩ = some (.int .i64 q2) := by rw [cell_at hBx.q]; rfl
          have wjn : IntKind.i64.wrap (990 + (jn : Int)) = 990 + (jn : Int) := wrapI _ (by omega) (by omega)
          by_cases hlt2 : k < 990 + jn
          · have n1 : (k : Int) < 990 + (jn : Int) := by omega
            go_wp2_with fail
            with_reducible refine (M20.out _).mono ?_
            rintro _ _ ⟨rfl, rfl⟩
            obtain ⟨oa2, oc2, rfl⟩ := hinv2.rec_.form
            obtain ⟨-, -, o2, -, -, o5⟩ := hinv2.rec_.cells
            obtain ⟨i1', hi1, hy0, hy1, hy2⟩ := info_parts infoFld
            have Hinv2 := Lib.hid hinv2
            have HBx := Lib.hid hBx
            have Hmap2 := Lib.hid hmap2
            have Hacc2 := Lib.hid hacc2
            have hal : acc2.length ≤ 101010 := by have := HSS.out; have := HsS.out.1; omega
            have hobx := lt_at hinv2.rec_.1
            clear hinv2 hBx hmap2 hacc2
            go_wp2_with (at_builtin; refine wpList_append_own _ rfl _ _ 25 rfl (w.heap.size + 1 + 1 + 1 + 1) 62 i1' _ 4 72 Tryd.underlying25 hi1 hy0 hy1 hy2 rfl (by decide) _ _ _ rfl (Hinv2.out.rec_.2.alloc _) ⟨wr.heap.size, 0, none⟩ 1 1 [str [48, 48, 51], .string ⟨#[]⟩, str [100], .slice none 0 0] rfl rfl ?se1 ?se2 ?se3 ?se4 ?se5 ?_)
            case se1 => exact fld_cells wr _ _ _ _ _
            case se2 => simp [Value.oneCell']
            case se3 => unfold maxLen; omega
            case se4 => omega
            case se5 => simp; omega
            intro v9 w9 hown9 hgrow9 _
            obtain ⟨na, nc, rfl⟩ := own_form hown9
            obtain ⟨g1, g2, g3, g4, g5⟩ := RecO.app (f := ⟨[48, 48, 51], [], [100], []⟩) Hinv2.out.rec_ hown9 hgrow9
            have hsub9 : SubsOwn (w9.setCell ⟨w.heap.size + 1 + 1 + 1, 2, none⟩ (.slice na (acc2.length + 1) nc)) (w.heap.size + 1 + 1 + 1 + 1) (acc2 ++ [(⟨[48, 48, 51], [], [100], []⟩, .slice none 0 0)]) := by
              intro q hq
              rcases List.mem_append.1 hq with hq | hq
              · exact sub_kept Hinv2.out.rec_ g5 (Hinv2.out.subs q hq)
              · rw [List.mem_singleton.1 hq]; exact World.ownsRow_nil _ _ _ _
            have hd9 : Dist (acc2 ++ [((⟨[48, 48, 51], [], [100], []⟩ : FldM), Value.slice none 0 0)]) := by
              unfold Dist
              rw [List.pairwise_append]
              refine ⟨Hinv2.out.dist, List.pairwise_singleton _ _, fun a ha b hb => ?_⟩
              rw [List.mem_singleton.1 hb]
              cases hq : a.2.ownBlock with
              | none => exact .inl rfl
              | some g => right; simp [Value.ownBlock]
            have hI9 : SpI w (w9.setCell ⟨w.heap.size + 1 + 1 + 1, 2, none⟩ (.slice na (acc2.length + 1) nc)) (w.heap.size + 1 + 1 + 1) rk rl (acc2 ++ [(⟨[48, 48, 51], [], [100], []⟩, .slice none 0 0)]) (.slice na (acc2.length + 1) nc) :=
              ⟨g1, hsub9, hd9, Hinv2.out.bel.trans (g4 _ (by omega)), Hinv2.out.hob⟩
            have hB9 : SpB (w9.setCell ⟨w.heap.size + 1 + 1 + 1, 2, none⟩ (.slice na (acc2.length + 1) nc)) w.heap.size rk rl (.slice fa fs.length fc) q0 q1 q2 :=
              HBx.out.keep (fun g hg => g5 g (by omega) (by omega) (fun e => by have := (Hinv2.out.rec_.2.lt g e.symm).1; omega))
            have HI9 := Lib.hid hI9
            have HB9 := Lib.hid hB9
            clear g1 g4 g5 hsub9 hd9 hI9 hB9 hown9 hgrow9 hi1 hy0 hy1 hy2 o2 o5 z2
            go_wp2
            go_roundw
            case rel => exact ⟨k + 1, _, _, by omega, by go_num, by rw [List.map_append, Hmap2.out, List.replicate_succ', List.append_assoc]; rfl, by rw [List.length_append, Hacc2.out]; rfl, HI9.out, HB9.out⟩
            case measure => simp [intOf]; omega
          · have hkn2 : k = 990 + jn := by omega
            have n1 : ¬ ((k : Int) < 990 + (jn : Int)) := by omega
            obtain ⟨oa2, oc2, rfl⟩ := hinv2.rec_.form
            obtain ⟨o0, o1, o2, -, -, -⟩ := hinv2.rec_.cells
            have s0 : wr.cell? ⟨w.heap.size + 1 + 1, 0, none⟩ = some (.int .u8 0) := by rw [cell_at hBx.z]; rfl
            have s1 : wr.cell? ⟨w.heap.size + 1 + 1, 1, none⟩ = some (.int .u8 0) := by rw [cell_at hBx.z]; rfl
            have s2 : wr.cell? ⟨w.heap.size + 1 + 1, 2, none⟩ = some (.slice none 0 0) := by rw [cell_at hBx.z]; rfl
            have s3 : wr.frozen? ⟨w.heap.size + 1 + 1, 0, none⟩ = false := Lib.frozen_of_heap hBx.z 0
            have s4 : wr.frozen? ⟨w.heap.size + 1 + 1, 1, none⟩ = false := Lib.frozen_of_heap hBx.z 1
            have s5 : wr.frozen? ⟨w.heap.size + 1 + 1, 2, none⟩ = false := Lib.frozen_of_heap hBx.z 2
            have hfin := sp_done hinv2 hBx.z _ hmap2 (rep_ok HsS.out k (by omega) rk rl)
            obtain ⟨WF, hWF⟩ : ∃ WF, fin3 wr (w.heap.size + 1 + 1) (.int .u8 (rk.toNat : Int)) (.int .u8 (rl.toNat : Int)) (.slice oa2 acc2.length oc2) = WF := ⟨_, rfl⟩
            rw [hWF] at hfin
            unfold fin3 at hWF
            have Hfin := Lib.hid hfin
            have HWF := Lib.hid hWF
            clear hfin hWF hinv2 hBx hmap2 hacc2
            go_wp2_with fail
            with_reducible refine (M20.out _).mono ?_
            rintro _ _ ⟨rfl, rfl⟩
            go_wp2_with fail
            rw [HWF.out]
            obtain ⟨hp, c0, c1, c2⟩ := Hfin.out
            simp [bodyPost, results, Tryd.results15, go_sem, c0, c1, c2]
            exact hp
end Go.Proofs.YtpfnmjcomdckgaaDoor
