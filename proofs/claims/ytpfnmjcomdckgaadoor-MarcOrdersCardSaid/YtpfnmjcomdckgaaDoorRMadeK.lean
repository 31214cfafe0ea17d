/-
  The reference's Made with the number of its fields, and what is changed below does not reach the record.
-/
import Derived.Test.YtpfnmjcomdckgaaDoorRMade
import Derived.Test.YtpfnmjcomdckgaaDoorRKept
namespace Go.Proofs.YtpfnmjcomdckgaaDoor
open Go.RowKit Go.Shelf Go.Deep
set_option linter.unusedVariables false
set_option linter.unusedSimpArgs false

def MadePostK (m : Nat) (w : World) (e : Ending) (w' : World) : Prop := ∃ v r, e = .returned v ∧ RecV w' v r ∧ checkM r = 0 ∧ sizeR r ≤ 5000 ∧ Below w.heap.size w w' ∧ r.fields.length = m ∧ KeptV w.heap.size w' v r
theorem made_end_k {w W : World} {p : Nat} {kd lv : UInt8} {acc : List (FldM × Value)} {sv : Value} (hrec : RecO W p kd lv acc sv) (hacc : Accs W (p + 1) acc) (hb : Below w.heap.size w W)
    (hn0 : W.heap[w.heap.size]? = some (.cells #[.int .u8 0, .int .u8 0, .slice none 0 0] 27 (0, 0))) (hwp : w.heap.size < p) (hk : lowB kd = true) (hl : lowB lv = true) (hn : acc.length ≤ 12) :
    MadePostK acc.length w (.returned (.agg #[.int .u8 (kd.toNat : Int), .int .u8 (lv.toNat : Int), sv])) (fin3 W w.heap.size (.int .u8 (kd.toNat : Int)) (.int .u8 (lv.toNat : Int)) sv) ∧
    (fin3 W w.heap.size (.int .u8 (kd.toNat : Int)) (.int .u8 (lv.toNat : Int)) sv).cell? ⟨w.heap.size, 0, none⟩ = some (.int .u8 (kd.toNat : Int)) ∧
    (fin3 W w.heap.size (.int .u8 (kd.toNat : Int)) (.int .u8 (lv.toNat : Int)) sv).cell? ⟨w.heap.size, 1, none⟩ = some (.int .u8 (lv.toNat : Int)) ∧
    (fin3 W w.heap.size (.int .u8 (kd.toNat : Int)) (.int .u8 (lv.toNat : Int)) sv).cell? ⟨w.heap.size, 2, none⟩ = some sv := by
  have far : ∀ g, g ≠ w.heap.size → (fin3 W w.heap.size (.int .u8 (kd.toNat : Int)) (.int .u8 (lv.toNat : Int)) sv).heap[g]? = W.heap[g]? := fun g hg => by
    unfold fin3
    rw [far_set _ _ 2 _ hg, far_set _ _ 1 _ hg, far_set _ _ 0 _ hg]
  have hnew : (fin3 W w.heap.size (.int .u8 (kd.toNat : Int)) (.int .u8 (lv.toNat : Int)) sv).heap[w.heap.size]? = some (.cells #[.int .u8 (kd.toNat : Int), .int .u8 (lv.toNat : Int), sv] 27 (0, 0)) := by
    have := blk_set (blk_set (blk_set hn0 0 (.int .u8 (kd.toNat : Int))) 1 (.int .u8 (lv.toNat : Int))) 2 sv
    unfold fin3
    simpa using this
  have hbel : Below w.heap.size w (fin3 W w.heap.size (.int .u8 (kd.toNat : Int)) (.int .u8 (lv.toNat : Int)) sv) := by
    unfold fin3
    exact ((hb.setCell (p := ⟨w.heap.size, 0, none⟩) (Nat.le_refl _) _).setCell (p := ⟨w.heap.size, 1, none⟩) (Nat.le_refl _) _).setCell (p := ⟨w.heap.size, 2, none⟩) (Nat.le_refl _) _
  refine ⟨?_, by rw [cell_at hnew]; rfl, by rw [cell_at hnew]; rfl, by rw [cell_at hnew]; rfl⟩
  have hrec' : RecO (fin3 W w.heap.size (.int .u8 (kd.toNat : Int)) (.int .u8 (lv.toNat : Int)) sv) p kd lv acc sv := ⟨(far p (by omega)).trans hrec.1, own_same hrec.2 (fun g hg _ => far g (by omega))⟩
  have hs : ∀ q ∈ acc, SubsAt (fin3 W w.heap.size (.int .u8 (kd.toNat : Int)) (.int .u8 (lv.toNat : Int)) sv) q.2 q.1.subs := fun q hq => subs_of_own (own_same (hacc q hq).2 (fun g hg _ => far g (by omega)))
  obtain ⟨h1, h2⟩ := nice_right (fs := acc.map (fun q => q.1)) hk hl (fun f hf => by obtain ⟨q, hq, rfl⟩ := List.mem_map.1 hf; exact (hacc q hq).1) (by simpa using hn)
  refine ⟨_, _, rfl, hrec'.recV hs, h1, h2, hbel, by simp, fun W2 h2 => ?_⟩
  have h3 : ∀ g, w.heap.size < g → W2.heap[g]? = W.heap[g]? := fun g hg => (h2 g (by omega)).trans (far g (by omega))
  have hrec2 : RecO W2 p kd lv acc sv := ⟨(h3 p (by omega)).trans hrec.1, own_same hrec.2 (fun g hg _ => h3 g (by omega))⟩
  exact hrec2.recV (fun q hq => subs_of_own (own_same (hacc q hq).2 (fun g hg _ => h3 g (by omega))))
set_option maxRecDepth 100000 in
set_option maxHeartbeats 8000000 in
theorem made_k (v : Value) (l : List (Int × Int × Int)) (w : World) (hv : ReadsT w v l) :
    Calls Tryd.prog 14 #[v] w (MadePostK (min l.length 12) w) := by
  obtain ⟨a, cap, rfl, hm, hc⟩ := hv.slice
  have Hc := Lib.hid hc
  unfold maxLen at hm
  unfold MadePostK
  clear hc hv
  go_enter Tryd.func14, Tryd.ntmps14
  go_wp2_with fail
  have hR0 : RecO ((w.alloc (.cells #[.int .u8 0, .int .u8 0, .slice none 0 0] 27)).alloc (.cells #[.int .u8 97, .int .u8 109, .slice none 0 0] 27)) (w.heap.size + 1) 97 109 [] (.slice none 0 0) := by
    have h := RecO.new (w := w.alloc (.cells #[.int .u8 0, .int .u8 0, .slice none 0 0] 27)) 97 109
    rw [show (w.alloc (.cells #[.int .u8 0, .int .u8 0, .slice none 0 0] 27)).heap.size = w.heap.size + 1 by simp] at h
    exact h
  obtain ⟨W2, hW2⟩ : ∃ W2, (w.alloc (.cells #[.int .u8 0, .int .u8 0, .slice none 0 0] 27)).alloc (.cells #[.int .u8 97, .int .u8 109, .slice none 0 0] 27) = W2 := ⟨_, rfl⟩
  have hz2 : W2.heap.size = w.heap.size + 1 + 1 := by rw [← hW2]; simp
  have hb2 : Below w.heap.size w W2 := by rw [← hW2]; exact ((Below.refl _ _).alloc (Nat.le_refl _) _).alloc (by simp) _
  have hn2 : W2.heap[w.heap.size]? = some (.cells #[.int .u8 0, .int .u8 0, .slice none 0 0] 27 (0, 0)) := by
    rw [← hW2]; exact heap_below (below_new _ _) (new_at w _)
  rw [hW2] at hR0 ⊢
  obtain ⟨W3, hW3⟩ : ∃ W3, W2.alloc (.cells tagsA 9) = W3 := ⟨_, rfl⟩
  have hb3 : Below W2.heap.size W2 W3 := by rw [← hW3]; exact below_new _ _
  have hn3 : W3.heap[w.heap.size + 1 + 1]? = some (.cells tagsA 9 (0, 0)) := by rw [← hW3, ← hz2]; exact new_at _ _
  have hR3 := hR0.below hb3 (Nat.le_refl _)
  have hn30 := heap_below hb3 hn2
  have hb30 := hb2.trans (hb3.mono hb2.size)
  unfold tagsA at hW3
  rw [hW3]
  have HN3 := Lib.hid hn3
  have HR3 := Lib.hid hR3
  have HN30 := Lib.hid hn30
  have HB30 := Lib.hid hb30
  clear hW2 hW3 hz2 hb2 hn2 hR0 hb3 hn3 hR3 hn30 hb30
  go_loopw [5] (fun iv wr => ∃ (k : Nat) (acc : List (FldM × Value)) (sv : Value) (kd lv : UInt8), k ≤ l.length ∧ k ≤ 12 ∧ iv = .int .i64 k ∧ acc.length = k ∧ RecO wr (w.heap.size + 1) kd lv acc sv ∧ lowB kd = true ∧ lowB lv = true ∧ Accs wr (w.heap.size + 1 + 1) acc ∧
    wr.heap[w.heap.size + 1 + 1]? = some (.cells tagsA 9 (0, 0)) ∧ wr.heap[w.heap.size]? = some (.cells #[.int .u8 0, .int .u8 0, .slice none 0 0] 27 (0, 0)) ∧ Below w.heap.size w wr) (fun iv _ => l.length - (intOf iv).toNat)
  case atStart => exact ⟨0, [], _, 97, 109, Nat.zero_le _, Nat.zero_le _, rfl, rfl, HR3.out, by decide, by decide, fun q hq => by simp at hq, HN3.out, HN30.out, HB30.out⟩
  case round =>
    obtain ⟨k, acc, sv, kd, lv, hk, hk12, rfl, hacc, hrec, hkd, hlv, haccs, hntb, hn0, hb⟩ := hrel
    clear HN3 HR3 HN30 HB30
    by_cases hlt : k < l.length ∧ k < 12
    · obtain ⟨hlt, hlt12⟩ := hlt
      obtain ⟨b, off, rfl, hbl, x0, x1, x2, f0, f1, f2⟩ := Hc.out k hlt
      have x0 := cell_below hb (Nat.le_refl _) x0
      have x1 := cell_below hb (Nat.le_refl _) x1
      have x2 := cell_below hb (Nat.le_refl _) x2
      have i0 : (0 : Int) ≤ (k : Int) := by omega
      have i1 : (k : Int) < (l.length : Int) := by omega
      have i2 : (k : Int) < 12 := by omega
      obtain ⟨⟨a0, a1, a2⟩, hq⟩ : ∃ q, l[k] = q := ⟨_, rfl⟩
      rw [hq] at x0 x1 x2 f0 f1 f2
      simp only at x0 x1 x2 f0 f1 f2
      have hp1 := lt_at hrec.1
      obtain ⟨sa, sc, rfl⟩ := hrec.form
      rw [hacc] at hrec
      have hal : acc.length ≤ 12 := by omega
      have Hacc := Lib.hid hacc
      clear hacc
      obtain ⟨W4, hW4⟩ : ∃ W4, wr.alloc (.cells #[.int .i64 a0, .int .i64 a1, .int .i64 a2] 23) = W4 := ⟨_, rfl⟩
      have hb4 : Below wr.heap.size wr W4 := by rw [← hW4]; exact below_new _ _
      have hn4 := new_at wr (.cells #[.int .i64 a0, .int .i64 a1, .int .i64 a2] 23)
      rw [hW4] at hn4
      have hmid : Mid w W4 (w.heap.size + 1) wr.heap.size a0 a1 a2 kd lv acc (.slice sa k sc) :=
        ⟨hrec.below hb4 (Nat.le_refl _), hkd, hlv, haccs.below hb4, heap_below hb4 hntb, heap_below hb4 hn0, hn4, hb.trans (hb4.mono hb.size)⟩
      obtain ⟨q0, q1, q2⟩ := hmid.qs
      obtain ⟨r0, r1, r2, e0, e1, e2⟩ := hmid.rec_.cells
      have hp2 : w.heap.size + 1 + 1 < wr.heap.size := lt_at hntb
      have Hmid := Lib.hid hmid
      have HW4 := Lib.hid hW4
      have hTag := modN_lt (n := a0) (m := 12) (by decide)
      have MT := Lib.hid (fun W => mod_c a0 12 (by decide) (by decide) f0 W)
      obtain ⟨jt, hjt⟩ : ∃ j, modN a0 12 = j := ⟨_, rfl⟩
      rw [hjt] at hTag MT
      have hjt12 : jt < 12 := by omega
      have hta := tags_at hjt12
      have hto := tags_ok hjt12
      obtain ⟨T, hT⟩ : ∃ T, tagsL.getD jt [] = T := ⟨_, rfl⟩
      rw [hT] at hta hto
      have Hta := Lib.hid hta
      have hT3 := hto.2
      have Hto := Lib.hid hto.1
      have NC := Lib.hid (fun W => rControl_c T (by omega) (by omega) W)
      clear hrec haccs hntb hn0 hb hb4 hn4 hq hbl hmid hta hto hT hjt
      by_cases hk0 : k = 0
      · subst hk0
        simp only [Nat.zero_mul, Nat.add_zero] at x0 x1 x2
        have M1 := Lib.hid (fun W => mod_c a2 5 (by decide) (by decide) f2 W)
        have M2 := Lib.hid (fun W => mod_c a1 2 (by decide) (by decide) f1 W)
        have m1 := modN_lt (n := a2) (m := 5) (by decide)
        have m2 := modN_lt (n := a1) (m := 2) (by decide)
        obtain ⟨j1, hj1⟩ : ∃ j, modN a2 5 = j := ⟨_, rfl⟩
        obtain ⟨j2, hj2⟩ : ∃ j, modN a1 2 = j := ⟨_, rfl⟩
        rw [hj1] at M1 m1
        rw [hj2] at M2 m2
        have hs5 : (ByteArray.mk #[97, 99, 101, 103, 106]).size = 5 := rfl
        have hs2 : (ByteArray.mk #[109, 115]).size = 2 := rfl
        have h5 : j1 < (ByteArray.mk #[97, 99, 101, 103, 106]).size := by rw [hs5]; omega
        have h2 : j2 < (ByteArray.mk #[109, 115]).size := by rw [hs2]; omega
        have l1 := kinds_ok h5
        have l2 := levels_ok h2
        clear hj1 hj2
        go_wp2_with fail
        refine (M1.out _).mono ?_
        rintro e W9 ⟨rfl, rfl⟩
        go_wp2_with fail
        refine (M2.out _).mono ?_
        rintro e W9 ⟨rfl, rfl⟩
        go_wp2_with fail
        have hmid := Hmid.out.kind (by omega) (by omega) l1 l2
        obtain ⟨W5, hW5⟩ : ∃ W5, (W4.setCell ⟨w.heap.size + 1, 0, none⟩ (.int .u8 (((ByteArray.mk #[97, 99, 101, 103, 106])[j1]'h5).toNat : Int))).setCell ⟨w.heap.size + 1, 1, none⟩ (.int .u8 (((ByteArray.mk #[109, 115])[j2]'h2).toNat : Int)) = W5 := ⟨_, rfl⟩
        rw [hW5] at hmid ⊢
        have Hmid5 := Lib.hid hmid
        clear hmid hW5 Hmid M1 M2 q0 q1 q2 r0 r1 r2 e0 e1 e2 x0 x1 x2
        refine (words_e _).mono ?_
        rintro e w6 ⟨wb, rfl, hw6, hwb, hb6⟩
        have hmid := Hmid5.out.below hb6
        have htb6 : w6.cell? ⟨w.heap.size + 1 + 1, jt, none⟩ = some (str T) := by rw [cell_at hmid.tags]; exact Hta.out
        obtain ⟨q0, q1, q2⟩ := hmid.qs
        have hqb5 := lt_at Hmid5.out.q
        have hqw : wr.heap.size < wb := by omega
        have hwb6 := lt_at hw6
        have Hmid6 := Lib.hid hmid
        have Hw6 := Lib.hid hw6
        have i3 : (jt : Int) < 12 := by omega
        have i4 : (0 : Int) ≤ (jt : Int) := by omega
        clear hmid hw6 hb6 Hmid5
        go_wp2_with fail
        refine (MT.out _).mono ?_
        rintro e W9 ⟨rfl, rfl⟩
        go_wp2_with fail
        obtain ⟨W7, hW7⟩ : ∃ W7, w6.alloc (.cells #[str T, .string ⟨#[]⟩, .string ⟨#[]⟩, .slice none 0 0] 62) = W7 := ⟨_, rfl⟩
        have hb7 : Below w6.heap.size w6 W7 := by rw [← hW7]; exact below_new _ _
        have hn7 := new_at w6 (.cells #[str T, .string ⟨#[]⟩, .string ⟨#[]⟩, .slice none 0 0] 62)
        rw [hW7] at hn7 ⊢
        have hmid7 := Hmid6.out.below hb7
        have hw7 := heap_below hb7 Hw6.out
        obtain ⟨fb, hfb⟩ : ∃ fb, w6.heap.size = fb := ⟨_, rfl⟩
        rw [hfb] at hn7 hwb6 ⊢
        have Hfb := Lib.hid hfb
        have hfb7 := lt_at hn7
        obtain ⟨q0, q1, q2⟩ := hmid7.qs
        have Hn7 := Lib.hid hn7
        have Hb7 := Lib.hid hb7
        have Hmid7 := Lib.hid hmid7
        have Hw7 := Lib.hid hw7
        have g0 : W7.cell? ⟨fb, 0, none⟩ = some (str T) := by rw [cell_at hn7]; rfl
        have g1 : W7.cell? ⟨fb, 1, none⟩ = some (.string ⟨#[]⟩) := by rw [cell_at hn7]; rfl
        have g2 : W7.cell? ⟨fb, 2, none⟩ = some (.string ⟨#[]⟩) := by rw [cell_at hn7]; rfl
        have g3 : W7.cell? ⟨fb, 3, none⟩ = some (.slice none 0 0) := by rw [cell_at hn7]; rfl
        have k1 : W7.frozen? ⟨fb, 1, none⟩ = false := Lib.frozen_of_heap hn7 1
        have k2 : W7.frozen? ⟨fb, 2, none⟩ = false := Lib.frozen_of_heap hn7 2
        clear hmid7 hw7 hn7 hb7 hW7 hfb htb6
        refine (NC.out _).mono ?_
        rintro e W9 ⟨rfl, rfl⟩
        cases hct : ctlB T with
        | true =>
          have MW := Lib.hid (fun W => mod_c a1 10 (by decide) (by decide) f1 W)
          have hjw := modN_lt (n := a1) (m := 10) (by decide)
          obtain ⟨jw, hjj⟩ : ∃ j, modN a1 10 = j := ⟨_, rfl⟩
          rw [hjj] at MW hjw
          have hjw10 : jw < 10 := by omega
          have hwt : W9.cell? ⟨wb, jw, none⟩ = some (str (wordsL.getD jw [])) := by rw [cell_at Hw7.out]; exact words_at hjw10
          obtain ⟨hD1, hD2⟩ := words_ok hjw10
          obtain ⟨D, hD⟩ : ∃ D, wordsL.getD jw [] = D := ⟨_, rfl⟩
          rw [hD] at hwt hD1 hD2
          have Hnice := Lib.hid (nice_ctl Hto.out hct hD1 hD2)
          have i5 : (jw : Int) < 10 := by omega
          have i6 : (0 : Int) ≤ (jw : Int) := by omega
          have hwp : w.heap.size < w.heap.size + 1 := by omega
          obtain ⟨W8, hW8⟩ : ∃ W8, W9.setCell ⟨fb, 2, none⟩ (str D) = W8 := ⟨_, rfl⟩
          have hn8 : W8.heap[fb]? = some (.cells #[str T, .string ⟨#[]⟩, str D, .slice none 0 0] 62 (0, 0)) := by
            rw [← hW8]; have := blk_set Hn7.out 2 (str D); simpa using this
          have hb8 : Below w6.heap.size w6 W8 := by rw [← hW8]; exact Hb7.out.setCell (p := ⟨fb, 2, none⟩) (Nat.le_of_eq Hfb.out) _
          have hmid8 := Hmid6.out.below hb8
          have Hn8 := Lib.hid hn8
          have Hmid8 := Lib.hid hmid8
          obtain ⟨-, -, s2, -, -, s5⟩ := hmid8.rec_.cells
          have d0 : W8.cell? ⟨fb, 0, none⟩ = some (str T) := by rw [cell_at hn8]; rfl
          have d1 : W8.cell? ⟨fb, 1, none⟩ = some (.string ⟨#[]⟩) := by rw [cell_at hn8]; rfl
          have d2 : W8.cell? ⟨fb, 2, none⟩ = some (str D) := by rw [cell_at hn8]; rfl
          have d3 : W8.cell? ⟨fb, 3, none⟩ = some (.slice none 0 0) := by rw [cell_at hn8]; rfl
          clear hn8 hb8 hmid8 hD hD1 hD2 hjj hct
          go_wp2_with fail
          refine (MW.out _).mono ?_
          rintro e W10 ⟨rfl, rfl⟩
          obtain ⟨i0', hi, hz0, hz1, hz2⟩ := info_parts infoFld
          go_wp2_with (at_builtin; refine wpList_append_own _ rfl _ _ 25 rfl (w.heap.size + 1 + 1) 62 i0' _ 4 72 Tryd.underlying25 hi hz0 hz1 hz2 rfl (by decide) _ _ _ rfl (Hmid8.out.rec_.2.alloc _) ⟨W8.heap.size, 0, none⟩ 1 1 [str T, .string ⟨#[]⟩, str D, .slice none 0 0] rfl rfl ?c1 ?c2 ?c3 ?c4 ?c5 ?_)
          case c1 => exact fld_cells W8 _ _ _ _ _
          case c2 => simp [Value.oneCell']
          case c3 => unfold maxLen; omega
          case c4 => omega
          case c5 => have := lt_at Hmid8.out.tags; simp; omega
          intro v' w8 hown8 hgrow _
          obtain ⟨na, nc, rfl⟩ := own_form hown8
          obtain ⟨y1, y2, hdone⟩ := Mid.done (f := ⟨T, [], D, []⟩) Hmid8.out hwp hown8 hgrow Hnice.out (World.ownsRow_nil _ _ _ _)
          have Hdone := Lib.hid hdone
          have Hkl := Lib.hid (And.intro Hmid8.out.kd_ Hmid8.out.lv_)
          clear hown8 hgrow hdone hi hz0 hz1 hz2 d0 d1 d2 d3 s2 s5 hW8 g0 g1 g2 g3 k1 k2 q0 q1 q2 hwt
          go_wp2
          go_roundw
          case rel => first
            | exact ⟨k + 1, _, _, _, _, by omega, by omega, by go_num, by rw [List.length_append, Hacc.out]; rfl, Hdone.out.rec_, Hkl.out.1, Hkl.out.2, Hdone.out.accs, Hdone.out.tags, Hdone.out.res, Hdone.out.bel⟩
            | exact ⟨1, _, _, _, _, by omega, by omega, by go_num, by rw [List.length_append, Hacc.out]; rfl, Hdone.out.rec_, Hkl.out.1, Hkl.out.2, Hdone.out.accs, Hdone.out.tags, Hdone.out.res, Hdone.out.bel⟩
          case measure => simp [intOf]; omega
        | false =>
          have MI := Lib.hid (fun W => mod_c a2 5 (by decide) (by decide) f2 W)
          have M3 := Lib.hid (fun W => mod_c a1 3 (by decide) (by decide) f1 W)
          have hji := modN_lt (n := a2) (m := 5) (by decide)
          have hj3 := modN_lt (n := a1) (m := 3) (by decide)
          obtain ⟨ji, hjj⟩ : ∃ j, modN a2 5 = j := ⟨_, rfl⟩
          rw [hjj] at MI hji
          obtain ⟨n3, hn3⟩ : ∃ j, modN a1 3 = j := ⟨_, rfl⟩
          rw [hn3] at M3 hj3
          have hji5 : ji < 5 := by omega
          obtain ⟨hI1, hI2⟩ := inds_ok hji5
          obtain ⟨Wi, hWi⟩ : ∃ Wi, W9.alloc (.cells #[.string ⟨#[32, 32]⟩, .string ⟨#[49, 48]⟩, .string ⟨#[48, 52]⟩, .string ⟨#[32, 48]⟩, .string ⟨#[49, 32]⟩] 9) = Wi := ⟨_, rfl⟩
          have hbi : Below W9.heap.size W9 Wi := by rw [← hWi]; exact below_new _ _
          have hni : Wi.heap[W9.heap.size]? = some (.cells indsA 9 (0, 0)) := by rw [← hWi]; exact new_at _ _
          have hIc : Wi.cell? ⟨W9.heap.size, ji, none⟩ = some (str (indsL.getD ji [])) := by rw [cell_at hni]; exact inds_at hji5
          obtain ⟨I, hI⟩ : ∃ I, indsL.getD ji [] = I := ⟨_, rfl⟩
          rw [hI] at hI1 hI2 hIc
          have hnfi := heap_below hbi Hn7.out
          have m1 : Wi.cell? ⟨fb, 1, none⟩ = some (.string ⟨#[]⟩) := by rw [cell_at hnfi]; rfl
          have m2 : Wi.frozen? ⟨fb, 1, none⟩ = false := Lib.frozen_of_heap hnfi 1
          have hmidi := Hmid7.out.below hbi
          obtain ⟨-, -, qi2⟩ := hmidi.qs
          obtain ⟨W8, hW8⟩ : ∃ W8, Wi.setCell ⟨fb, 1, none⟩ (str I) = W8 := ⟨_, rfl⟩
          have hn8 : W8.heap[fb]? = some (.cells #[str T, str I, .string ⟨#[]⟩, .slice none 0 0] 62 (0, 0)) := by
            rw [← hW8]; have := blk_set hnfi 1 (str I); simpa using this
          have hb8 : Below w6.heap.size w6 W8 := by
            rw [← hW8]
            exact (Hb7.out.trans (hbi.mono Hb7.out.size)).setCell (p := ⟨fb, 1, none⟩) (Nat.le_of_eq Hfb.out) _
          have hmid8 := Hmid6.out.below hb8
          have hw8 := heap_below hb8 Hw6.out
          have Hn8 := Lib.hid hn8
          have Hb8 := Lib.hid hb8
          have Hmid8 := Lib.hid hmid8
          have Hw8 := Lib.hid hw8
          have HI := Lib.hid (And.intro hI1 hI2)
          have Hct := Lib.hid hct
          have i7 : (ji : Int) < 5 := by omega
          have i8 : (0 : Int) ≤ (ji : Int) := by omega
          clear hnfi hni hbi hn8 hb8 hmid8 hw8 hI1 hI2 hI hjj hn3 hct hmidi
          go_wp2_with fail
          refine (MI.out _).mono ?_
          rintro e W10 ⟨rfl, rfl⟩
          go_wp2_with fail
          clear hIc m1 m2 qi2 hWi hW8 g0 g1 g2 g3 k1 k2 q0 q1 q2
          generalize hqb : wr.heap.size = qb at *
          have Hqb := Lib.hid hqb
          clear hqb
          go_loopw [9] (fun jv w2 => ∃ (k2 : Nat) (ss : List SubM) (sv2 : Value), k2 ≤ 1 + n3 ∧ jv = .int .i64 k2 ∧ ss.length = k2 ∧ (∀ s ∈ ss, subB s = true ∧ s.text.length ≤ 20) ∧ w2.heap[fb]? = some (.cells #[str T, str I, .string ⟨#[]⟩, sv2] 62 (0, 0)) ∧ w2.ownsRow (fb + 1) 64 2 sv2 ss.length (subCells ss) ∧ Below fb W8 w2) (fun jv _ => 1 + n3 - (intOf jv).toNat)
          case atStart => exact ⟨0, [], _, Nat.zero_le _, rfl, rfl, by simp, Hn8.out, World.ownsRow_nil _ _ _ _, Below.refl _ _⟩
          case round =>
            obtain ⟨k2, ss, sv2, hk2, rfl, hss, hall, hnf, hown, hb⟩ := hrel
            obtain ⟨q0', q1', q2'⟩ := Hmid8.out.qs
            have q1 := (hb.cell (p := ⟨qb, 1, none⟩) (by show qb < fb; omega)).trans q1'
            have q2 := (hb.cell (p := ⟨qb, 2, none⟩) (by show qb < fb; omega)).trans q2'
            have Hall := Lib.hid hall
            have Hown := Lib.hid hown
            have Hnf := Lib.hid hnf
            have Hb := Lib.hid hb
            have Hss := Lib.hid hss
            have hfw := lt_at hnf
            clear q0' q1' q2' hall
            by_cases hlt2 : k2 < 1 + n3
            · obtain ⟨ta, tc, rfl⟩ := own_form hown
              rw [hss] at Hnf Hown hnf
              have s3 : wr.cell? ⟨fb, 3, none⟩ = some (.slice ta k2 tc) := by rw [cell_at hnf]; rfl
              have s4 : wr.frozen? ⟨fb, 3, none⟩ = false := Lib.frozen_of_heap hnf 3
              clear hown hnf hb hss
              go_wp2_with fail
              refine (M3.out _).mono ?_
              rintro e W11 ⟨rfl, rfl⟩
              have hd3 := tdiv3 f1
              obtain ⟨D3, hD3⟩ : ∃ D3, a1.tdiv 3 = D3 := ⟨_, rfl⟩
              rw [hD3] at hd3
              have hd3' : IntKind.i64.wrap D3 = D3 := IntWalk.i64_in _ hd3
              obtain ⟨X, hX⟩ : ∃ X, IntKind.i64.wrap (a2 + (k2 : Int)) = X := ⟨_, rfl⟩
              obtain ⟨Y0, hY0⟩ : ∃ Y0, IntKind.i64.wrap ((k2 : Int) * a2) = Y0 := ⟨_, rfl⟩
              obtain ⟨Y, hY⟩ : ∃ Y, IntKind.i64.wrap (D3 + Y0) = Y := ⟨_, rfl⟩
              have fX : Fits X := by rw [← hX]; exact wrap_fits _
              have fY : Fits Y := by rw [← hY]; exact wrap_fits _
              have hjc := modN_lt (n := X) (m := 4) (by decide)
              have hjw := modN_lt (n := Y) (m := 10) (by decide)
              obtain ⟨jc, hjc'⟩ : ∃ j, modN X 4 = j := ⟨_, rfl⟩
              rw [hjc'] at hjc
              obtain ⟨jw, hjw'⟩ : ∃ j, modN Y 10 = j := ⟨_, rfl⟩
              rw [hjw'] at hjw
              have hjw10 : jw < 10 := by omega
              have hws := (Hb.out.block wb (by omega)).trans Hw8.out
              have hwt : wr.cell? ⟨wb, jw, none⟩ = some (str (wordsL.getD jw [])) := by rw [cell_at hws]; exact words_at hjw10
              obtain ⟨hD1, hD2⟩ := words_ok hjw10
              obtain ⟨t, ht⟩ : ∃ t, wordsL.getD jw [] = t := ⟨_, rfl⟩
              rw [ht] at hwt hD1 hD2
              have hs4 : (ByteArray.mk #[97, 98, 99, 48]).size = 4 := rfl
              have h4 : jc < (ByteArray.mk #[97, 98, 99, 48]).size := by rw [hs4]; omega
              have hcs := codes_ok h4
              have i9 : (jw : Int) < 10 := by omega
              have i10 : (0 : Int) ≤ (jw : Int) := by omega
              have i11 : (jc : Int) < 4 := by omega
              have i12 : (0 : Int) ≤ (jc : Int) := by omega
              have hlen2 := Hss.out
              have hsl : ss.length ≤ 3 := by omega
              have Ht := Lib.hid (And.intro hD1 hD2)
              have Hcs := Lib.hid hcs
              obtain ⟨i0', hi, hz0, hz1, hz2⟩ := info_parts infoSub
              have avf : Value.ownBlock (.slice ta k2 tc) ≠ some fb := fun e => absurd (Hown.out.lt fb e).1 (by omega)
              have avq : Value.ownBlock (.slice ta k2 tc) ≠ some qb := fun e => absurd (Hown.out.lt qb e).1 (by omega)
              have avw : Value.ownBlock (.slice ta k2 tc) ≠ some wb := fun e => absurd (Hown.out.lt wb e).1 (by omega)
              clear hws ht hD1 hD2 hcs hlen2
              go_wp2_with fail
              have hcur : cur fb 3 wr.drew = .slice ta k2 tc := cur_eq s3
              obtain ⟨S, hSd⟩ : ∃ S : World → Prop, S = (fun w' : World => w'.cell? ⟨fb, 3, none⟩ = some (.slice ta k2 tc) ∧ w'.cell? ⟨qb, 2, none⟩ = some (.int .i64 a2) ∧ w'.cell? ⟨qb, 1, none⟩ = some (.int .i64 a1) ∧ w'.cell? ⟨wb, jw, none⟩ = some (str t)) := ⟨_, rfl⟩
              have hS1 : ∀ w', S w' → w'.cell? ⟨fb, 3, none⟩ = some (.slice ta k2 tc) := fun w' h => by rw [hSd] at h; exact h.1
              have hS2 : ∀ w', S w' → w'.cell? ⟨qb, 2, none⟩ = some (.int .i64 a2) := fun w' h => by rw [hSd] at h; exact h.2.1
              have hS3 : ∀ w', S w' → w'.cell? ⟨qb, 1, none⟩ = some (.int .i64 a1) := fun w' h => by rw [hSd] at h; exact h.2.2.1
              have hS4 : ∀ w', S w' → w'.cell? ⟨wb, jw, none⟩ = some (str t) := fun w' h => by rw [hSd] at h; exact h.2.2.2
              have hS0 : S wr.drew := by rw [hSd]; exact ⟨s3, q2, q1, hwt⟩
              have hSm : ∀ w5 : World, (w5.cell? ⟨fb, 3, none⟩ = some (.slice ta k2 tc) ∧ w5.cell? ⟨qb, 2, none⟩ = some (.int .i64 a2) ∧ w5.cell? ⟨qb, 1, none⟩ = some (.int .i64 a1) ∧ w5.cell? ⟨wb, jw, none⟩ = some (str t)) → S w5 := fun w5 h => by rw [hSd]; exact h
              clear hSd
              refine wp_region_C 26 27 S rfl rfl ?_
              refine wpAnyC_takeD 0 75 (.pointer (some ⟨fb, 3, none⟩)) rfl rfl rfl (by kernel_rfl) (by kernel_rfl) (by kernel_rfl) (by kernel_rfl) (fun _ _ _ h => h) (fun w5 hw5 => ?_) hS0 ?_
              · have z1 := hS1 w5 hw5; have z2 := hS2 w5 hw5; have z3 := hS3 w5 hw5; have z4 := hS4 w5 hw5
                simp only [List.getElem_toArray, List.getElem_cons_zero, List.getElem_cons_succ]
                go_simp
              simp only [Act.put, List.setIfInBounds_toArray, List.set_cons_zero, List.set_cons_succ]
              refine wpAnyC_takeD 1 76 (.slice ta k2 tc) rfl rfl rfl (by kernel_rfl) (by kernel_rfl) (by kernel_rfl) (by kernel_rfl) (fun _ _ _ h => h) (fun w5 hw5 => ?_) hS0 ?_
              · have z1 := hS1 w5 hw5; have z2 := hS2 w5 hw5; have z3 := hS3 w5 hw5; have z4 := hS4 w5 hw5
                simp only [List.getElem_toArray, List.getElem_cons_zero, List.getElem_cons_succ]
                go_simp
              simp only [Act.put, List.setIfInBounds_toArray, List.set_cons_zero, List.set_cons_succ]
              refine wpAnyC_takeD 2 77 (.pointer (some ⟨qb, 2, none⟩)) rfl rfl rfl (by kernel_rfl) (by kernel_rfl) (by kernel_rfl) (by kernel_rfl) (fun _ _ _ h => h) (fun w5 hw5 => ?_) hS0 ?_
              · have z1 := hS1 w5 hw5; have z2 := hS2 w5 hw5; have z3 := hS3 w5 hw5; have z4 := hS4 w5 hw5
                simp only [List.getElem_toArray, List.getElem_cons_zero, List.getElem_cons_succ]
                go_simp
              simp only [Act.put, List.setIfInBounds_toArray, List.set_cons_zero, List.set_cons_succ]
              refine wpAnyC_takeD 3 78 (.int .i64 a2) rfl rfl rfl (by kernel_rfl) (by kernel_rfl) (by kernel_rfl) (by kernel_rfl) (fun _ _ _ h => h) (fun w5 hw5 => ?_) hS0 ?_
              · have z1 := hS1 w5 hw5; have z2 := hS2 w5 hw5; have z3 := hS3 w5 hw5; have z4 := hS4 w5 hw5
                simp only [List.getElem_toArray, List.getElem_cons_zero, List.getElem_cons_succ]
                go_simp
              simp only [Act.put, List.setIfInBounds_toArray, List.set_cons_zero, List.set_cons_succ]
              refine wpAnyC_takeD 4 79 (.int .i64 k2) rfl rfl rfl (by kernel_rfl) (by kernel_rfl) (by kernel_rfl) (by kernel_rfl) (fun _ _ _ h => h) (fun w5 hw5 => ?_) hS0 ?_
              · have z1 := hS1 w5 hw5; have z2 := hS2 w5 hw5; have z3 := hS3 w5 hw5; have z4 := hS4 w5 hw5
                simp only [List.getElem_toArray, List.getElem_cons_zero, List.getElem_cons_succ]
                go_simp
              simp only [Act.put, List.setIfInBounds_toArray, List.set_cons_zero, List.set_cons_succ]
              refine wpAnyC_takeD 5 80 (.int .i64 X) rfl rfl rfl (by kernel_rfl) (by kernel_rfl) (by kernel_rfl) (by kernel_rfl) (fun _ _ _ h => h) (fun w5 hw5 => ?_) hS0 ?_
              · have z1 := hS1 w5 hw5; have z2 := hS2 w5 hw5; have z3 := hS3 w5 hw5; have z4 := hS4 w5 hw5
                simp only [List.getElem_toArray, List.getElem_cons_zero, List.getElem_cons_succ]
                go_simp
              simp only [Act.put, List.setIfInBounds_toArray, List.set_cons_zero, List.set_cons_succ]
              refine wpAnyC_takeD 8 83 (.slice (some ⟨wb, 0, none⟩) 10 10) rfl rfl rfl (by kernel_rfl) (by kernel_rfl) (by kernel_rfl) (by kernel_rfl) (fun _ _ _ h => h) (fun w5 hw5 => ?_) hS0 ?_
              · have z1 := hS1 w5 hw5; have z2 := hS2 w5 hw5; have z3 := hS3 w5 hw5; have z4 := hS4 w5 hw5
                simp only [List.getElem_toArray, List.getElem_cons_zero, List.getElem_cons_succ]
                go_simp
              simp only [Act.put, List.setIfInBounds_toArray, List.set_cons_zero, List.set_cons_succ]
              refine wpAnyC_takeD 9 84 (.pointer (some ⟨qb, 1, none⟩)) rfl rfl rfl (by kernel_rfl) (by kernel_rfl) (by kernel_rfl) (by kernel_rfl) (fun _ _ _ h => h) (fun w5 hw5 => ?_) hS0 ?_
              · have z1 := hS1 w5 hw5; have z2 := hS2 w5 hw5; have z3 := hS3 w5 hw5; have z4 := hS4 w5 hw5
                simp only [List.getElem_toArray, List.getElem_cons_zero, List.getElem_cons_succ]
                go_simp
              simp only [Act.put, List.setIfInBounds_toArray, List.set_cons_zero, List.set_cons_succ]
              refine wpAnyC_takeD 10 85 (.int .i64 a1) rfl rfl rfl (by kernel_rfl) (by kernel_rfl) (by kernel_rfl) (by kernel_rfl) (fun _ _ _ h => h) (fun w5 hw5 => ?_) hS0 ?_
              · have z1 := hS1 w5 hw5; have z2 := hS2 w5 hw5; have z3 := hS3 w5 hw5; have z4 := hS4 w5 hw5
                simp only [List.getElem_toArray, List.getElem_cons_zero, List.getElem_cons_succ]
                go_simp
              simp only [Act.put, List.setIfInBounds_toArray, List.set_cons_zero, List.set_cons_succ]
              refine wpAnyC_takeD 11 86 (.int .i64 D3) rfl rfl rfl (by kernel_rfl) (by kernel_rfl) (by kernel_rfl) (by kernel_rfl) (fun _ _ _ h => h) (fun w5 hw5 => ?_) hS0 ?_
              · have z1 := hS1 w5 hw5; have z2 := hS2 w5 hw5; have z3 := hS3 w5 hw5; have z4 := hS4 w5 hw5
                simp only [List.getElem_toArray, List.getElem_cons_zero, List.getElem_cons_succ]
                go_simp
              simp only [Act.put, List.setIfInBounds_toArray, List.set_cons_zero, List.set_cons_succ]
              refine wpAnyC_takeD 12 87 (.int .i64 k2) rfl rfl rfl (by kernel_rfl) (by kernel_rfl) (by kernel_rfl) (by kernel_rfl) (fun _ _ _ h => h) (fun w5 hw5 => ?_) hS0 ?_
              · have z1 := hS1 w5 hw5; have z2 := hS2 w5 hw5; have z3 := hS3 w5 hw5; have z4 := hS4 w5 hw5
                simp only [List.getElem_toArray, List.getElem_cons_zero, List.getElem_cons_succ]
                go_simp
              simp only [Act.put, List.setIfInBounds_toArray, List.set_cons_zero, List.set_cons_succ]
              refine wpAnyC_takeD 13 88 (.pointer (some ⟨qb, 2, none⟩)) rfl rfl rfl (by kernel_rfl) (by kernel_rfl) (by kernel_rfl) (by kernel_rfl) (fun _ _ _ h => h) (fun w5 hw5 => ?_) hS0 ?_
              · have z1 := hS1 w5 hw5; have z2 := hS2 w5 hw5; have z3 := hS3 w5 hw5; have z4 := hS4 w5 hw5
                simp only [List.getElem_toArray, List.getElem_cons_zero, List.getElem_cons_succ]
                go_simp
              simp only [Act.put, List.setIfInBounds_toArray, List.set_cons_zero, List.set_cons_succ]
              refine wpAnyC_takeD 14 89 (.int .i64 a2) rfl rfl rfl (by kernel_rfl) (by kernel_rfl) (by kernel_rfl) (by kernel_rfl) (fun _ _ _ h => h) (fun w5 hw5 => ?_) hS0 ?_
              · have z1 := hS1 w5 hw5; have z2 := hS2 w5 hw5; have z3 := hS3 w5 hw5; have z4 := hS4 w5 hw5
                simp only [List.getElem_toArray, List.getElem_cons_zero, List.getElem_cons_succ]
                go_simp
              simp only [Act.put, List.setIfInBounds_toArray, List.set_cons_zero, List.set_cons_succ]
              refine wpAnyC_takeD 15 90 (.int .i64 Y0) rfl rfl rfl (by kernel_rfl) (by kernel_rfl) (by kernel_rfl) (by kernel_rfl) (fun _ _ _ h => h) (fun w5 hw5 => ?_) hS0 ?_
              · have z1 := hS1 w5 hw5; have z2 := hS2 w5 hw5; have z3 := hS3 w5 hw5; have z4 := hS4 w5 hw5
                simp only [List.getElem_toArray, List.getElem_cons_zero, List.getElem_cons_succ]
                go_simp
              simp only [Act.put, List.setIfInBounds_toArray, List.set_cons_zero, List.set_cons_succ]
              refine wpAnyC_takeD 16 91 (.int .i64 Y) rfl rfl rfl (by kernel_rfl) (by kernel_rfl) (by kernel_rfl) (by kernel_rfl) (fun _ _ _ h => h) (fun w5 hw5 => ?_) hS0 ?_
              · have z1 := hS1 w5 hw5; have z2 := hS2 w5 hw5; have z3 := hS3 w5 hw5; have z4 := hS4 w5 hw5
                simp only [List.getElem_toArray, List.getElem_cons_zero, List.getElem_cons_succ]
                go_simp
              simp only [Act.put, List.setIfInBounds_toArray, List.set_cons_zero, List.set_cons_succ]
              refine wpAnyC_takeD 17 92 (.slice (some ⟨wb, 0, none⟩) 10 10) rfl rfl rfl (by kernel_rfl) (by kernel_rfl) (by kernel_rfl) (by kernel_rfl) (fun _ _ _ h => h) (fun w5 hw5 => ?_) hS0 ?_
              · have z1 := hS1 w5 hw5; have z2 := hS2 w5 hw5; have z3 := hS3 w5 hw5; have z4 := hS4 w5 hw5
                simp only [List.getElem_toArray, List.getElem_cons_zero, List.getElem_cons_succ]
                go_simp
              simp only [Act.put, List.setIfInBounds_toArray, List.set_cons_zero, List.set_cons_succ]
              refine wpAnyC_takeD 18 93 (.int .i64 10) rfl rfl rfl (by kernel_rfl) (by kernel_rfl) (by kernel_rfl) (by kernel_rfl) (fun _ _ _ h => h) (fun w5 hw5 => ?_) hS0 ?_
              · have z1 := hS1 w5 hw5; have z2 := hS2 w5 hw5; have z3 := hS3 w5 hw5; have z4 := hS4 w5 hw5
                simp only [List.getElem_toArray, List.getElem_cons_zero, List.getElem_cons_succ]
                go_simp
              simp only [Act.put, List.setIfInBounds_toArray, List.set_cons_zero, List.set_cons_succ]
              refine wpAnyC_step (k := 6) rfl (by kernel_rfl) (fun K hK => ?_)
              simp only [List.getElem_toArray, List.getElem_cons_zero, List.getElem_cons_succ]
              go_simp
              go_wp2_with (go_at_call 22; refine (mod_f X 4 (by decide) (by decide) (by assumption) _).mono ?_; rintro e W2 ⟨rfl, rfl⟩)
              refine hK _ _ (fun _ => hS0) ?_
              clear hK
              refine wpAnyC_takeD 7 82 (.int .u8 (((ByteArray.mk #[97, 98, 99, 48])[jc]'h4).toNat : Int)) rfl rfl rfl (by kernel_rfl) (by kernel_rfl) (by kernel_rfl) (by kernel_rfl) (fun _ _ _ h => h) (fun w5 hw5 => ?_) hS0 ?_
              · have z1 := hS1 w5 hw5; have z2 := hS2 w5 hw5; have z3 := hS3 w5 hw5; have z4 := hS4 w5 hw5
                simp only [List.getElem_toArray, List.getElem_cons_zero, List.getElem_cons_succ]
                go_simp
              simp only [Act.put, List.setIfInBounds_toArray, List.set_cons_zero, List.set_cons_succ]
              refine wpAnyC_step (k := 19) rfl (by kernel_rfl) (fun K hK => ?_)
              simp only [List.getElem_toArray, List.getElem_cons_zero, List.getElem_cons_succ]
              go_simp
              go_wp2_with (go_at_call 22; refine (mod_f Y 10 (by decide) (by decide) (by assumption) _).mono ?_; rintro e W2 ⟨rfl, rfl⟩)
              refine hK _ _ (fun _ => hS0) ?_
              clear hK
              refine wpAnyC_takeD 20 95 (.pointer (some ⟨wb, jw, none⟩)) rfl rfl rfl (by kernel_rfl) (by kernel_rfl) (by kernel_rfl) (by kernel_rfl) (fun _ _ _ h => h) (fun w5 hw5 => ?_) hS0 ?_
              · have z1 := hS1 w5 hw5; have z2 := hS2 w5 hw5; have z3 := hS3 w5 hw5; have z4 := hS4 w5 hw5
                simp only [List.getElem_toArray, List.getElem_cons_zero, List.getElem_cons_succ]
                go_simp
              simp only [Act.put, List.setIfInBounds_toArray, List.set_cons_zero, List.set_cons_succ]
              refine wpAnyC_takeD 21 96 (str t) rfl rfl rfl (by kernel_rfl) (by kernel_rfl) (by kernel_rfl) (by kernel_rfl) (fun _ _ _ h => h) (fun w5 hw5 => ?_) hS0 ?_
              · have z1 := hS1 w5 hw5; have z2 := hS2 w5 hw5; have z3 := hS3 w5 hw5; have z4 := hS4 w5 hw5
                simp only [List.getElem_toArray, List.getElem_cons_zero, List.getElem_cons_succ]
                go_simp
              simp only [Act.put, List.setIfInBounds_toArray, List.set_cons_zero, List.set_cons_succ]
              refine wpAnyC_takeD 22 97 (.agg #[.int .u8 (((ByteArray.mk #[97, 98, 99, 48])[jc]'h4).toNat : Int), str t]) rfl rfl rfl (by kernel_rfl) (by kernel_rfl) (by kernel_rfl) (by kernel_rfl) (fun _ _ _ h => h) (fun w5 hw5 => ?_) hS0 ?_
              · have z1 := hS1 w5 hw5; have z2 := hS2 w5 hw5; have z3 := hS3 w5 hw5; have z4 := hS4 w5 hw5
                simp only [List.getElem_toArray, List.getElem_cons_zero, List.getElem_cons_succ]
                go_simp
              simp only [Act.put, List.setIfInBounds_toArray, List.set_cons_zero, List.set_cons_succ]
              refine wpAnyC_step (k := 23) rfl (by kernel_rfl) (fun K hK => ?_)
              simp only [List.getElem_toArray, List.getElem_cons_zero, List.getElem_cons_succ]
              go_simp
              refine hK _ _ (fun _ => hSm _ ⟨cell_al _ s3, cell_al _ q2, cell_al _ q1, cell_al _ hwt⟩) ?_
              clear hK
              refine wpAnyC_step (k := 24) rfl (by kernel_rfl) (fun K hK => ?_)
              simp only [List.getElem_toArray, List.getElem_cons_zero, List.getElem_cons_succ]
              rw [if_pos (by rfl)]
              refine wp_append_lies _ _ _ _ (by rfl) (fb + 1) 64 i0' _ 2 24 Tryd.underlying60 hi hz0 hz1 hz2 rfl (by omega) _ k2 _ (by rfl) ((Hown.out.alloc _).drew) ⟨wr.heap.size, 0, none⟩ 1 1 [.int .u8 (((ByteArray.mk #[97, 98, 99, 48])[jc]'h4).toNat : Int), str t] (by rfl) (by rfl) (two_cells wr _ _ _) (by simp [Value.oneCell']) (by omega) (by unfold maxLen; omega) (by omega) (by simp; omega) (wr.heap.size + 1) (by simp) ?_
              intro gg cap2 w4 hown4 hgrow hat hlt4
              simp only [Act.put, List.setIfInBounds_toArray, List.set_cons_zero, List.set_cons_succ]
              obtain ⟨hnf4, hfz4, hc4⟩ := fld_app Hnf.out avf hgrow
              have hq24 := grown_cell4 hgrow q2 avq
              have hq14 := grown_cell4 hgrow q1 avq
              have hw44 := grown_cell4 hgrow hwt avw
              refine hK _ _ (fun _ => hSm _ ⟨hc4, hq24, hq14, hw44⟩) ?_
              clear hK
              refine wpAnyC_step (k := 25) rfl (by kernel_rfl) (fun K hK => ?_)
              simp only [List.getElem_toArray, List.getElem_cons_zero, List.getElem_cons_succ]
              go_simp
              refine hK _ _ (fun _ => hSm _ ⟨hc4, hq24, hq14, hw44⟩) ?_
              clear hK
              refine wpAnyC_step (k := 26) rfl (by kernel_rfl) (fun K hK => ?_)
              simp only [List.getElem_toArray, List.getElem_cons_zero, List.getElem_cons_succ]
              go_simp
              refine hK _ _ (fun h => absurd (of_decide_eq_true h) (by decide)) ?_
              clear hK
              refine wpAnyC_done (by kernel_rfl) ?_
              clear hS0 hSm hS1 hS2 hS3 hS4
              obtain ⟨e1, e2, e3⟩ := fld_next (s := ⟨(ByteArray.mk #[97, 98, 99, 48])[jc]'h4, t⟩) Hb.out Hnf.out Hown.out hown4 hgrow Hss.out
              have hall3 : ∀ s ∈ ss ++ [(⟨(ByteArray.mk #[97, 98, 99, 48])[jc]'h4, t⟩ : SubM)], subB s = true ∧ s.text.length ≤ 20 := by
                intro s hs
                rcases List.mem_append.1 hs with hs | hs
                · exact Hall.out s hs
                · rw [List.mem_singleton.1 hs]; exact ⟨by unfold subB; rw [Bool.and_eq_true]; exact ⟨Hcs.out, Ht.out.1⟩, Ht.out.2⟩
              have Hall3 := Lib.hid hall3
              have E1 := Lib.hid e1
              have E2 := Lib.hid e2
              have E3 := Lib.hid e3
              clear e1 e2 e3 hall3 hown4 hgrow hnf4 hfz4 hc4 hq24 hq14 hw44 hat hlt4 hi hz0 hz1 hz2 avf avq avw s3 s4 hwt q1 q2
              go_wp2
              go_roundw
              case rel => exact ⟨k2 + 1, ss ++ [⟨(ByteArray.mk #[97, 98, 99, 48])[jc]'h4, t⟩], _, by omega, by go_num, by rw [List.length_append, Hss.out]; rfl, Hall3.out, E1.out, E2.out, E3.out⟩
              case measure => simp [intOf]; omega
            · have hk3 : k2 = 1 + n3 := by omega
              obtain ⟨ta, tc, rfl⟩ := own_form hown
              have hb6w : Below w6.heap.size w6 wr := Hb8.out.trans (by rw [Hfb.out]; exact hb)
              have hmidw := Hmid6.out.below hb6w
              have hwp : w.heap.size < w.heap.size + 1 := by omega
              have Hnice := Lib.hid (nice_var Hto.out Hct.out HI.out.1 HI.out.2 Hall.out (by intro e; rw [e] at hss; simp at hss; omega) (by omega))
              obtain ⟨-, -, s2, -, -, s5⟩ := hmidw.rec_.cells
              have d0 : wr.cell? ⟨fb, 0, none⟩ = some (str T) := by rw [cell_at hnf]; rfl
              have d1 : wr.cell? ⟨fb, 1, none⟩ = some (str I) := by rw [cell_at hnf]; rfl
              have d2 : wr.cell? ⟨fb, 2, none⟩ = some (.string ⟨#[]⟩) := by rw [cell_at hnf]; rfl
              have d3 : wr.cell? ⟨fb, 3, none⟩ = some (.slice ta ss.length tc) := by rw [cell_at hnf]; rfl
              have Hmidw := Lib.hid hmidw
              have Hsub := Lib.hid (own_le hown (show w.heap.size + 1 + 1 ≤ fb + 1 by omega))
              have nlt : ¬ ((k2 : Int) < 1 + (n3 : Int)) := by omega
              clear hnf hown hb hss hmidw hb6w q2 hk3
              obtain ⟨i0', hi, hz0, hz1, hz2⟩ := info_parts infoFld
              go_wp2_with fail
              refine (M3.out _).mono ?_
              rintro e W11 ⟨rfl, rfl⟩
              clear q1
              go_wp2_with (at_builtin; refine wpList_append_own _ rfl _ _ 25 rfl (w.heap.size + 1 + 1) 62 i0' _ 4 72 Tryd.underlying25 hi hz0 hz1 hz2 rfl (by decide) _ _ _ rfl (Hmidw.out.rec_.2.alloc _) ⟨wr.heap.size, 0, none⟩ 1 1 [str T, str I, .string ⟨#[]⟩, .slice ta ss.length tc] rfl rfl ?c1 ?c2 ?c3 ?c4 ?c5 ?_)
              case c1 => exact fld_cells wr _ _ _ _ _
              case c2 => simp [Value.oneCell']
              case c3 => unfold maxLen; omega
              case c4 => omega
              case c5 => have := lt_at Hmidw.out.tags; simp; omega
              intro v' w8 hown8 hgrow _
              obtain ⟨na, nc, rfl⟩ := own_form hown8
              obtain ⟨y1, y2, hdone⟩ := Mid.done (f := ⟨T, I, [], ss⟩) Hmidw.out hwp hown8 hgrow Hnice.out Hsub.out
              have Hdone := Lib.hid hdone
              have Hkl := Lib.hid (And.intro Hmidw.out.kd_ Hmidw.out.lv_)
              clear hown8 hgrow hdone hi hz0 hz1 hz2 d0 d1 d2 d3 s2 s5
              go_wp2
              go_roundw
              case rel => first
                | exact ⟨k + 1, _, _, _, _, by omega, by omega, by go_num, by rw [List.length_append, Hacc.out]; rfl, Hdone.out.rec_, Hkl.out.1, Hkl.out.2, Hdone.out.accs, Hdone.out.tags, Hdone.out.res, Hdone.out.bel⟩
                | exact ⟨1, _, _, _, _, by omega, by omega, by go_num, by rw [List.length_append, Hacc.out]; rfl, Hdone.out.rec_, Hkl.out.1, Hkl.out.2, Hdone.out.accs, Hdone.out.tags, Hdone.out.res, Hdone.out.bel⟩
              case measure => simp [intOf]; omega
      · have j0 : ((k : Int) == 0) = false := by rw [beq_eq_false_iff_ne]; omega
        go_wp2_with fail
        have Hmid5 := Hmid
        clear Hmid q0 q1 q2 r0 r1 r2 e0 e1 e2 x0 x1 x2 hk0 j0
        refine (words_e _).mono ?_
        rintro e w6 ⟨wb, rfl, hw6, hwb, hb6⟩
        have hmid := Hmid5.out.below hb6
        have htb6 : w6.cell? ⟨w.heap.size + 1 + 1, jt, none⟩ = some (str T) := by rw [cell_at hmid.tags]; exact Hta.out
        obtain ⟨q0, q1, q2⟩ := hmid.qs
        have hqb5 := lt_at Hmid5.out.q
        have hqw : wr.heap.size < wb := by omega
        have hwb6 := lt_at hw6
        have Hmid6 := Lib.hid hmid
        have Hw6 := Lib.hid hw6
        have i3 : (jt : Int) < 12 := by omega
        have i4 : (0 : Int) ≤ (jt : Int) := by omega
        clear hmid hw6 hb6 Hmid5
        go_wp2_with fail
        refine (MT.out _).mono ?_
        rintro e W9 ⟨rfl, rfl⟩
        go_wp2_with fail
        obtain ⟨W7, hW7⟩ : ∃ W7, w6.alloc (.cells #[str T, .string ⟨#[]⟩, .string ⟨#[]⟩, .slice none 0 0] 62) = W7 := ⟨_, rfl⟩
        have hb7 : Below w6.heap.size w6 W7 := by rw [← hW7]; exact below_new _ _
        have hn7 := new_at w6 (.cells #[str T, .string ⟨#[]⟩, .string ⟨#[]⟩, .slice none 0 0] 62)
        rw [hW7] at hn7 ⊢
        have hmid7 := Hmid6.out.below hb7
        have hw7 := heap_below hb7 Hw6.out
        obtain ⟨fb, hfb⟩ : ∃ fb, w6.heap.size = fb := ⟨_, rfl⟩
        rw [hfb] at hn7 hwb6 ⊢
        have Hfb := Lib.hid hfb
        have hfb7 := lt_at hn7
        obtain ⟨q0, q1, q2⟩ := hmid7.qs
        have Hn7 := Lib.hid hn7
        have Hb7 := Lib.hid hb7
        have Hmid7 := Lib.hid hmid7
        have Hw7 := Lib.hid hw7
        have g0 : W7.cell? ⟨fb, 0, none⟩ = some (str T) := by rw [cell_at hn7]; rfl
        have g1 : W7.cell? ⟨fb, 1, none⟩ = some (.string ⟨#[]⟩) := by rw [cell_at hn7]; rfl
        have g2 : W7.cell? ⟨fb, 2, none⟩ = some (.string ⟨#[]⟩) := by rw [cell_at hn7]; rfl
        have g3 : W7.cell? ⟨fb, 3, none⟩ = some (.slice none 0 0) := by rw [cell_at hn7]; rfl
        have k1 : W7.frozen? ⟨fb, 1, none⟩ = false := Lib.frozen_of_heap hn7 1
        have k2 : W7.frozen? ⟨fb, 2, none⟩ = false := Lib.frozen_of_heap hn7 2
        clear hmid7 hw7 hn7 hb7 hW7 hfb htb6
        refine (NC.out _).mono ?_
        rintro e W9 ⟨rfl, rfl⟩
        cases hct : ctlB T with
        | true =>
          have MW := Lib.hid (fun W => mod_c a1 10 (by decide) (by decide) f1 W)
          have hjw := modN_lt (n := a1) (m := 10) (by decide)
          obtain ⟨jw, hjj⟩ : ∃ j, modN a1 10 = j := ⟨_, rfl⟩
          rw [hjj] at MW hjw
          have hjw10 : jw < 10 := by omega
          have hwt : W9.cell? ⟨wb, jw, none⟩ = some (str (wordsL.getD jw [])) := by rw [cell_at Hw7.out]; exact words_at hjw10
          obtain ⟨hD1, hD2⟩ := words_ok hjw10
          obtain ⟨D, hD⟩ : ∃ D, wordsL.getD jw [] = D := ⟨_, rfl⟩
          rw [hD] at hwt hD1 hD2
          have Hnice := Lib.hid (nice_ctl Hto.out hct hD1 hD2)
          have i5 : (jw : Int) < 10 := by omega
          have i6 : (0 : Int) ≤ (jw : Int) := by omega
          have hwp : w.heap.size < w.heap.size + 1 := by omega
          obtain ⟨W8, hW8⟩ : ∃ W8, W9.setCell ⟨fb, 2, none⟩ (str D) = W8 := ⟨_, rfl⟩
          have hn8 : W8.heap[fb]? = some (.cells #[str T, .string ⟨#[]⟩, str D, .slice none 0 0] 62 (0, 0)) := by
            rw [← hW8]; have := blk_set Hn7.out 2 (str D); simpa using this
          have hb8 : Below w6.heap.size w6 W8 := by rw [← hW8]; exact Hb7.out.setCell (p := ⟨fb, 2, none⟩) (Nat.le_of_eq Hfb.out) _
          have hmid8 := Hmid6.out.below hb8
          have Hn8 := Lib.hid hn8
          have Hmid8 := Lib.hid hmid8
          obtain ⟨-, -, s2, -, -, s5⟩ := hmid8.rec_.cells
          have d0 : W8.cell? ⟨fb, 0, none⟩ = some (str T) := by rw [cell_at hn8]; rfl
          have d1 : W8.cell? ⟨fb, 1, none⟩ = some (.string ⟨#[]⟩) := by rw [cell_at hn8]; rfl
          have d2 : W8.cell? ⟨fb, 2, none⟩ = some (str D) := by rw [cell_at hn8]; rfl
          have d3 : W8.cell? ⟨fb, 3, none⟩ = some (.slice none 0 0) := by rw [cell_at hn8]; rfl
          clear hn8 hb8 hmid8 hD hD1 hD2 hjj hct
          go_wp2_with fail
          refine (MW.out _).mono ?_
          rintro e W10 ⟨rfl, rfl⟩
          obtain ⟨i0', hi, hz0, hz1, hz2⟩ := info_parts infoFld
          go_wp2_with (at_builtin; refine wpList_append_own _ rfl _ _ 25 rfl (w.heap.size + 1 + 1) 62 i0' _ 4 72 Tryd.underlying25 hi hz0 hz1 hz2 rfl (by decide) _ _ _ rfl (Hmid8.out.rec_.2.alloc _) ⟨W8.heap.size, 0, none⟩ 1 1 [str T, .string ⟨#[]⟩, str D, .slice none 0 0] rfl rfl ?c1 ?c2 ?c3 ?c4 ?c5 ?_)
          case c1 => exact fld_cells W8 _ _ _ _ _
          case c2 => simp [Value.oneCell']
          case c3 => unfold maxLen; omega
          case c4 => omega
          case c5 => have := lt_at Hmid8.out.tags; simp; omega
          intro v' w8 hown8 hgrow _
          obtain ⟨na, nc, rfl⟩ := own_form hown8
          obtain ⟨y1, y2, hdone⟩ := Mid.done (f := ⟨T, [], D, []⟩) Hmid8.out hwp hown8 hgrow Hnice.out (World.ownsRow_nil _ _ _ _)
          have Hdone := Lib.hid hdone
          have Hkl := Lib.hid (And.intro Hmid8.out.kd_ Hmid8.out.lv_)
          clear hown8 hgrow hdone hi hz0 hz1 hz2 d0 d1 d2 d3 s2 s5 hW8 g0 g1 g2 g3 k1 k2 q0 q1 q2 hwt
          go_wp2
          go_roundw
          case rel => first
            | exact ⟨k + 1, _, _, _, _, by omega, by omega, by go_num, by rw [List.length_append, Hacc.out]; rfl, Hdone.out.rec_, Hkl.out.1, Hkl.out.2, Hdone.out.accs, Hdone.out.tags, Hdone.out.res, Hdone.out.bel⟩
            | exact ⟨1, _, _, _, _, by omega, by omega, by go_num, by rw [List.length_append, Hacc.out]; rfl, Hdone.out.rec_, Hkl.out.1, Hkl.out.2, Hdone.out.accs, Hdone.out.tags, Hdone.out.res, Hdone.out.bel⟩
          case measure => simp [intOf]; omega
        | false =>
          have MI := Lib.hid (fun W => mod_c a2 5 (by decide) (by decide) f2 W)
          have M3 := Lib.hid (fun W => mod_c a1 3 (by decide) (by decide) f1 W)
          have hji := modN_lt (n := a2) (m := 5) (by decide)
          have hj3 := modN_lt (n := a1) (m := 3) (by decide)
          obtain ⟨ji, hjj⟩ : ∃ j, modN a2 5 = j := ⟨_, rfl⟩
          rw [hjj] at MI hji
          obtain ⟨n3, hn3⟩ : ∃ j, modN a1 3 = j := ⟨_, rfl⟩
          rw [hn3] at M3 hj3
          have hji5 : ji < 5 := by omega
          obtain ⟨hI1, hI2⟩ := inds_ok hji5
          obtain ⟨Wi, hWi⟩ : ∃ Wi, W9.alloc (.cells #[.string ⟨#[32, 32]⟩, .string ⟨#[49, 48]⟩, .string ⟨#[48, 52]⟩, .string ⟨#[32, 48]⟩, .string ⟨#[49, 32]⟩] 9) = Wi := ⟨_, rfl⟩
          have hbi : Below W9.heap.size W9 Wi := by rw [← hWi]; exact below_new _ _
          have hni : Wi.heap[W9.heap.size]? = some (.cells indsA 9 (0, 0)) := by rw [← hWi]; exact new_at _ _
          have hIc : Wi.cell? ⟨W9.heap.size, ji, none⟩ = some (str (indsL.getD ji [])) := by rw [cell_at hni]; exact inds_at hji5
          obtain ⟨I, hI⟩ : ∃ I, indsL.getD ji [] = I := ⟨_, rfl⟩
          rw [hI] at hI1 hI2 hIc
          have hnfi := heap_below hbi Hn7.out
          have m1 : Wi.cell? ⟨fb, 1, none⟩ = some (.string ⟨#[]⟩) := by rw [cell_at hnfi]; rfl
          have m2 : Wi.frozen? ⟨fb, 1, none⟩ = false := Lib.frozen_of_heap hnfi 1
          have hmidi := Hmid7.out.below hbi
          obtain ⟨-, -, qi2⟩ := hmidi.qs
          obtain ⟨W8, hW8⟩ : ∃ W8, Wi.setCell ⟨fb, 1, none⟩ (str I) = W8 := ⟨_, rfl⟩
          have hn8 : W8.heap[fb]? = some (.cells #[str T, str I, .string ⟨#[]⟩, .slice none 0 0] 62 (0, 0)) := by
            rw [← hW8]; have := blk_set hnfi 1 (str I); simpa using this
          have hb8 : Below w6.heap.size w6 W8 := by
            rw [← hW8]
            exact (Hb7.out.trans (hbi.mono Hb7.out.size)).setCell (p := ⟨fb, 1, none⟩) (Nat.le_of_eq Hfb.out) _
          have hmid8 := Hmid6.out.below hb8
          have hw8 := heap_below hb8 Hw6.out
          have Hn8 := Lib.hid hn8
          have Hb8 := Lib.hid hb8
          have Hmid8 := Lib.hid hmid8
          have Hw8 := Lib.hid hw8
          have HI := Lib.hid (And.intro hI1 hI2)
          have Hct := Lib.hid hct
          have i7 : (ji : Int) < 5 := by omega
          have i8 : (0 : Int) ≤ (ji : Int) := by omega
          clear hnfi hni hbi hn8 hb8 hmid8 hw8 hI1 hI2 hI hjj hn3 hct hmidi
          go_wp2_with fail
          refine (MI.out _).mono ?_
          rintro e W10 ⟨rfl, rfl⟩
          go_wp2_with fail
          clear hIc m1 m2 qi2 hWi hW8 g0 g1 g2 g3 k1 k2 q0 q1 q2
          generalize hqb : wr.heap.size = qb at *
          have Hqb := Lib.hid hqb
          clear hqb
          go_loopw [9] (fun jv w2 => ∃ (k2 : Nat) (ss : List SubM) (sv2 : Value), k2 ≤ 1 + n3 ∧ jv = .int .i64 k2 ∧ ss.length = k2 ∧ (∀ s ∈ ss, subB s = true ∧ s.text.length ≤ 20) ∧ w2.heap[fb]? = some (.cells #[str T, str I, .string ⟨#[]⟩, sv2] 62 (0, 0)) ∧ w2.ownsRow (fb + 1) 64 2 sv2 ss.length (subCells ss) ∧ Below fb W8 w2) (fun jv _ => 1 + n3 - (intOf jv).toNat)
          case atStart => exact ⟨0, [], _, Nat.zero_le _, rfl, rfl, by simp, Hn8.out, World.ownsRow_nil _ _ _ _, Below.refl _ _⟩
          case round =>
            obtain ⟨k2, ss, sv2, hk2, rfl, hss, hall, hnf, hown, hb⟩ := hrel
            obtain ⟨q0', q1', q2'⟩ := Hmid8.out.qs
            have q1 := (hb.cell (p := ⟨qb, 1, none⟩) (by show qb < fb; omega)).trans q1'
            have q2 := (hb.cell (p := ⟨qb, 2, none⟩) (by show qb < fb; omega)).trans q2'
            have Hall := Lib.hid hall
            have Hown := Lib.hid hown
            have Hnf := Lib.hid hnf
            have Hb := Lib.hid hb
            have Hss := Lib.hid hss
            have hfw := lt_at hnf
            clear q0' q1' q2' hall
            by_cases hlt2 : k2 < 1 + n3
            · obtain ⟨ta, tc, rfl⟩ := own_form hown
              rw [hss] at Hnf Hown hnf
              have s3 : wr.cell? ⟨fb, 3, none⟩ = some (.slice ta k2 tc) := by rw [cell_at hnf]; rfl
              have s4 : wr.frozen? ⟨fb, 3, none⟩ = false := Lib.frozen_of_heap hnf 3
              clear hown hnf hb hss
              go_wp2_with fail
              refine (M3.out _).mono ?_
              rintro e W11 ⟨rfl, rfl⟩
              have hd3 := tdiv3 f1
              obtain ⟨D3, hD3⟩ : ∃ D3, a1.tdiv 3 = D3 := ⟨_, rfl⟩
              rw [hD3] at hd3
              have hd3' : IntKind.i64.wrap D3 = D3 := IntWalk.i64_in _ hd3
              obtain ⟨X, hX⟩ : ∃ X, IntKind.i64.wrap (a2 + (k2 : Int)) = X := ⟨_, rfl⟩
              obtain ⟨Y0, hY0⟩ : ∃ Y0, IntKind.i64.wrap ((k2 : Int) * a2) = Y0 := ⟨_, rfl⟩
              obtain ⟨Y, hY⟩ : ∃ Y, IntKind.i64.wrap (D3 + Y0) = Y := ⟨_, rfl⟩
              have fX : Fits X := by rw [← hX]; exact wrap_fits _
              have fY : Fits Y := by rw [← hY]; exact wrap_fits _
              have hjc := modN_lt (n := X) (m := 4) (by decide)
              have hjw := modN_lt (n := Y) (m := 10) (by decide)
              obtain ⟨jc, hjc'⟩ : ∃ j, modN X 4 = j := ⟨_, rfl⟩
              rw [hjc'] at hjc
              obtain ⟨jw, hjw'⟩ : ∃ j, modN Y 10 = j := ⟨_, rfl⟩
              rw [hjw'] at hjw
              have hjw10 : jw < 10 := by omega
              have hws := (Hb.out.block wb (by omega)).trans Hw8.out
              have hwt : wr.cell? ⟨wb, jw, none⟩ = some (str (wordsL.getD jw [])) := by rw [cell_at hws]; exact words_at hjw10
              obtain ⟨hD1, hD2⟩ := words_ok hjw10
              obtain ⟨t, ht⟩ : ∃ t, wordsL.getD jw [] = t := ⟨_, rfl⟩
              rw [ht] at hwt hD1 hD2
              have hs4 : (ByteArray.mk #[97, 98, 99, 48]).size = 4 := rfl
              have h4 : jc < (ByteArray.mk #[97, 98, 99, 48]).size := by rw [hs4]; omega
              have hcs := codes_ok h4
              have i9 : (jw : Int) < 10 := by omega
              have i10 : (0 : Int) ≤ (jw : Int) := by omega
              have i11 : (jc : Int) < 4 := by omega
              have i12 : (0 : Int) ≤ (jc : Int) := by omega
              have hlen2 := Hss.out
              have hsl : ss.length ≤ 3 := by omega
              have Ht := Lib.hid (And.intro hD1 hD2)
              have Hcs := Lib.hid hcs
              obtain ⟨i0', hi, hz0, hz1, hz2⟩ := info_parts infoSub
              have avf : Value.ownBlock (.slice ta k2 tc) ≠ some fb := fun e => absurd (Hown.out.lt fb e).1 (by omega)
              have avq : Value.ownBlock (.slice ta k2 tc) ≠ some qb := fun e => absurd (Hown.out.lt qb e).1 (by omega)
              have avw : Value.ownBlock (.slice ta k2 tc) ≠ some wb := fun e => absurd (Hown.out.lt wb e).1 (by omega)
              clear hws ht hD1 hD2 hcs hlen2
              go_wp2_with fail
              have hcur : cur fb 3 wr.drew = .slice ta k2 tc := cur_eq s3
              obtain ⟨S, hSd⟩ : ∃ S : World → Prop, S = (fun w' : World => w'.cell? ⟨fb, 3, none⟩ = some (.slice ta k2 tc) ∧ w'.cell? ⟨qb, 2, none⟩ = some (.int .i64 a2) ∧ w'.cell? ⟨qb, 1, none⟩ = some (.int .i64 a1) ∧ w'.cell? ⟨wb, jw, none⟩ = some (str t)) := ⟨_, rfl⟩
              have hS1 : ∀ w', S w' → w'.cell? ⟨fb, 3, none⟩ = some (.slice ta k2 tc) := fun w' h => by rw [hSd] at h; exact h.1
              have hS2 : ∀ w', S w' → w'.cell? ⟨qb, 2, none⟩ = some (.int .i64 a2) := fun w' h => by rw [hSd] at h; exact h.2.1
              have hS3 : ∀ w', S w' → w'.cell? ⟨qb, 1, none⟩ = some (.int .i64 a1) := fun w' h => by rw [hSd] at h; exact h.2.2.1
              have hS4 : ∀ w', S w' → w'.cell? ⟨wb, jw, none⟩ = some (str t) := fun w' h => by rw [hSd] at h; exact h.2.2.2
              have hS0 : S wr.drew := by rw [hSd]; exact ⟨s3, q2, q1, hwt⟩
              have hSm : ∀ w5 : World, (w5.cell? ⟨fb, 3, none⟩ = some (.slice ta k2 tc) ∧ w5.cell? ⟨qb, 2, none⟩ = some (.int .i64 a2) ∧ w5.cell? ⟨qb, 1, none⟩ = some (.int .i64 a1) ∧ w5.cell? ⟨wb, jw, none⟩ = some (str t)) → S w5 := fun w5 h => by rw [hSd]; exact h
              clear hSd
              refine wp_region_C 26 27 S rfl rfl ?_
              refine wpAnyC_takeD 0 75 (.pointer (some ⟨fb, 3, none⟩)) rfl rfl rfl (by kernel_rfl) (by kernel_rfl) (by kernel_rfl) (by kernel_rfl) (fun _ _ _ h => h) (fun w5 hw5 => ?_) hS0 ?_
              · have z1 := hS1 w5 hw5; have z2 := hS2 w5 hw5; have z3 := hS3 w5 hw5; have z4 := hS4 w5 hw5
                simp only [List.getElem_toArray, List.getElem_cons_zero, List.getElem_cons_succ]
                go_simp
              simp only [Act.put, List.setIfInBounds_toArray, List.set_cons_zero, List.set_cons_succ]
              refine wpAnyC_takeD 1 76 (.slice ta k2 tc) rfl rfl rfl (by kernel_rfl) (by kernel_rfl) (by kernel_rfl) (by kernel_rfl) (fun _ _ _ h => h) (fun w5 hw5 => ?_) hS0 ?_
              · have z1 := hS1 w5 hw5; have z2 := hS2 w5 hw5; have z3 := hS3 w5 hw5; have z4 := hS4 w5 hw5
                simp only [List.getElem_toArray, List.getElem_cons_zero, List.getElem_cons_succ]
                go_simp
              simp only [Act.put, List.setIfInBounds_toArray, List.set_cons_zero, List.set_cons_succ]
              refine wpAnyC_takeD 2 77 (.pointer (some ⟨qb, 2, none⟩)) rfl rfl rfl (by kernel_rfl) (by kernel_rfl) (by kernel_rfl) (by kernel_rfl) (fun _ _ _ h => h) (fun w5 hw5 => ?_) hS0 ?_
              · have z1 := hS1 w5 hw5; have z2 := hS2 w5 hw5; have z3 := hS3 w5 hw5; have z4 := hS4 w5 hw5
                simp only [List.getElem_toArray, List.getElem_cons_zero, List.getElem_cons_succ]
                go_simp
              simp only [Act.put, List.setIfInBounds_toArray, List.set_cons_zero, List.set_cons_succ]
              refine wpAnyC_takeD 3 78 (.int .i64 a2) rfl rfl rfl (by kernel_rfl) (by kernel_rfl) (by kernel_rfl) (by kernel_rfl) (fun _ _ _ h => h) (fun w5 hw5 => ?_) hS0 ?_
              · have z1 := hS1 w5 hw5; have z2 := hS2 w5 hw5; have z3 := hS3 w5 hw5; have z4 := hS4 w5 hw5
                simp only [List.getElem_toArray, List.getElem_cons_zero, List.getElem_cons_succ]
                go_simp
              simp only [Act.put, List.setIfInBounds_toArray, List.set_cons_zero, List.set_cons_succ]
              refine wpAnyC_takeD 4 79 (.int .i64 k2) rfl rfl rfl (by kernel_rfl) (by kernel_rfl) (by kernel_rfl) (by kernel_rfl) (fun _ _ _ h => h) (fun w5 hw5 => ?_) hS0 ?_
              · have z1 := hS1 w5 hw5; have z2 := hS2 w5 hw5; have z3 := hS3 w5 hw5; have z4 := hS4 w5 hw5
                simp only [List.getElem_toArray, List.getElem_cons_zero, List.getElem_cons_succ]
                go_simp
              simp only [Act.put, List.setIfInBounds_toArray, List.set_cons_zero, List.set_cons_succ]
              refine wpAnyC_takeD 5 80 (.int .i64 X) rfl rfl rfl (by kernel_rfl) (by kernel_rfl) (by kernel_rfl) (by kernel_rfl) (fun _ _ _ h => h) (fun w5 hw5 => ?_) hS0 ?_
              · have z1 := hS1 w5 hw5; have z2 := hS2 w5 hw5; have z3 := hS3 w5 hw5; have z4 := hS4 w5 hw5
                simp only [List.getElem_toArray, List.getElem_cons_zero, List.getElem_cons_succ]
                go_simp
              simp only [Act.put, List.setIfInBounds_toArray, List.set_cons_zero, List.set_cons_succ]
              refine wpAnyC_takeD 8 83 (.slice (some ⟨wb, 0, none⟩) 10 10) rfl rfl rfl (by kernel_rfl) (by kernel_rfl) (by kernel_rfl) (by kernel_rfl) (fun _ _ _ h => h) (fun w5 hw5 => ?_) hS0 ?_
              · have z1 := hS1 w5 hw5; have z2 := hS2 w5 hw5; have z3 := hS3 w5 hw5; have z4 := hS4 w5 hw5
                simp only [List.getElem_toArray, List.getElem_cons_zero, List.getElem_cons_succ]
                go_simp
              simp only [Act.put, List.setIfInBounds_toArray, List.set_cons_zero, List.set_cons_succ]
              refine wpAnyC_takeD 9 84 (.pointer (some ⟨qb, 1, none⟩)) rfl rfl rfl (by kernel_rfl) (by kernel_rfl) (by kernel_rfl) (by kernel_rfl) (fun _ _ _ h => h) (fun w5 hw5 => ?_) hS0 ?_
              · have z1 := hS1 w5 hw5; have z2 := hS2 w5 hw5; have z3 := hS3 w5 hw5; have z4 := hS4 w5 hw5
                simp only [List.getElem_toArray, List.getElem_cons_zero, List.getElem_cons_succ]
                go_simp
              simp only [Act.put, List.setIfInBounds_toArray, List.set_cons_zero, List.set_cons_succ]
              refine wpAnyC_takeD 10 85 (.int .i64 a1) rfl rfl rfl (by kernel_rfl) (by kernel_rfl) (by kernel_rfl) (by kernel_rfl) (fun _ _ _ h => h) (fun w5 hw5 => ?_) hS0 ?_
              · have z1 := hS1 w5 hw5; have z2 := hS2 w5 hw5; have z3 := hS3 w5 hw5; have z4 := hS4 w5 hw5
                simp only [List.getElem_toArray, List.getElem_cons_zero, List.getElem_cons_succ]
                go_simp
              simp only [Act.put, List.setIfInBounds_toArray, List.set_cons_zero, List.set_cons_succ]
              refine wpAnyC_takeD 11 86 (.int .i64 D3) rfl rfl rfl (by kernel_rfl) (by kernel_rfl) (by kernel_rfl) (by kernel_rfl) (fun _ _ _ h => h) (fun w5 hw5 => ?_) hS0 ?_
              · have z1 := hS1 w5 hw5; have z2 := hS2 w5 hw5; have z3 := hS3 w5 hw5; have z4 := hS4 w5 hw5
                simp only [List.getElem_toArray, List.getElem_cons_zero, List.getElem_cons_succ]
                go_simp
              simp only [Act.put, List.setIfInBounds_toArray, List.set_cons_zero, List.set_cons_succ]
              refine wpAnyC_takeD 12 87 (.int .i64 k2) rfl rfl rfl (by kernel_rfl) (by kernel_rfl) (by kernel_rfl) (by kernel_rfl) (fun _ _ _ h => h) (fun w5 hw5 => ?_) hS0 ?_
              · have z1 := hS1 w5 hw5; have z2 := hS2 w5 hw5; have z3 := hS3 w5 hw5; have z4 := hS4 w5 hw5
                simp only [List.getElem_toArray, List.getElem_cons_zero, List.getElem_cons_succ]
                go_simp
              simp only [Act.put, List.setIfInBounds_toArray, List.set_cons_zero, List.set_cons_succ]
              refine wpAnyC_takeD 13 88 (.pointer (some ⟨qb, 2, none⟩)) rfl rfl rfl (by kernel_rfl) (by kernel_rfl) (by kernel_rfl) (by kernel_rfl) (fun _ _ _ h => h) (fun w5 hw5 => ?_) hS0 ?_
              · have z1 := hS1 w5 hw5; have z2 := hS2 w5 hw5; have z3 := hS3 w5 hw5; have z4 := hS4 w5 hw5
                simp only [List.getElem_toArray, List.getElem_cons_zero, List.getElem_cons_succ]
                go_simp
              simp only [Act.put, List.setIfInBounds_toArray, List.set_cons_zero, List.set_cons_succ]
              refine wpAnyC_takeD 14 89 (.int .i64 a2) rfl rfl rfl (by kernel_rfl) (by kernel_rfl) (by kernel_rfl) (by kernel_rfl) (fun _ _ _ h => h) (fun w5 hw5 => ?_) hS0 ?_
              · have z1 := hS1 w5 hw5; have z2 := hS2 w5 hw5; have z3 := hS3 w5 hw5; have z4 := hS4 w5 hw5
                simp only [List.getElem_toArray, List.getElem_cons_zero, List.getElem_cons_succ]
                go_simp
              simp only [Act.put, List.setIfInBounds_toArray, List.set_cons_zero, List.set_cons_succ]
              refine wpAnyC_takeD 15 90 (.int .i64 Y0) rfl rfl rfl (by kernel_rfl) (by kernel_rfl) (by kernel_rfl) (by kernel_rfl) (fun _ _ _ h => h) (fun w5 hw5 => ?_) hS0 ?_
              · have z1 := hS1 w5 hw5; have z2 := hS2 w5 hw5; have z3 := hS3 w5 hw5; have z4 := hS4 w5 hw5
                simp only [List.getElem_toArray, List.getElem_cons_zero, List.getElem_cons_succ]
                go_simp
              simp only [Act.put, List.setIfInBounds_toArray, List.set_cons_zero, List.set_cons_succ]
              refine wpAnyC_takeD 16 91 (.int .i64 Y) rfl rfl rfl (by kernel_rfl) (by kernel_rfl) (by kernel_rfl) (by kernel_rfl) (fun _ _ _ h => h) (fun w5 hw5 => ?_) hS0 ?_
              · have z1 := hS1 w5 hw5; have z2 := hS2 w5 hw5; have z3 := hS3 w5 hw5; have z4 := hS4 w5 hw5
                simp only [List.getElem_toArray, List.getElem_cons_zero, List.getElem_cons_succ]
                go_simp
              simp only [Act.put, List.setIfInBounds_toArray, List.set_cons_zero, List.set_cons_succ]
              refine wpAnyC_takeD 17 92 (.slice (some ⟨wb, 0, none⟩) 10 10) rfl rfl rfl (by kernel_rfl) (by kernel_rfl) (by kernel_rfl) (by kernel_rfl) (fun _ _ _ h => h) (fun w5 hw5 => ?_) hS0 ?_
              · have z1 := hS1 w5 hw5; have z2 := hS2 w5 hw5; have z3 := hS3 w5 hw5; have z4 := hS4 w5 hw5
                simp only [List.getElem_toArray, List.getElem_cons_zero, List.getElem_cons_succ]
                go_simp
              simp only [Act.put, List.setIfInBounds_toArray, List.set_cons_zero, List.set_cons_succ]
              refine wpAnyC_takeD 18 93 (.int .i64 10) rfl rfl rfl (by kernel_rfl) (by kernel_rfl) (by kernel_rfl) (by kernel_rfl) (fun _ _ _ h => h) (fun w5 hw5 => ?_) hS0 ?_
              · have z1 := hS1 w5 hw5; have z2 := hS2 w5 hw5; have z3 := hS3 w5 hw5; have z4 := hS4 w5 hw5
                simp only [List.getElem_toArray, List.getElem_cons_zero, List.getElem_cons_succ]
                go_simp
              simp only [Act.put, List.setIfInBounds_toArray, List.set_cons_zero, List.set_cons_succ]
              refine wpAnyC_step (k := 6) rfl (by kernel_rfl) (fun K hK => ?_)
              simp only [List.getElem_toArray, List.getElem_cons_zero, List.getElem_cons_succ]
              go_simp
              go_wp2_with (go_at_call 22; refine (mod_f X 4 (by decide) (by decide) (by assumption) _).mono ?_; rintro e W2 ⟨rfl, rfl⟩)
              refine hK _ _ (fun _ => hS0) ?_
              clear hK
              refine wpAnyC_takeD 7 82 (.int .u8 (((ByteArray.mk #[97, 98, 99, 48])[jc]'h4).toNat : Int)) rfl rfl rfl (by kernel_rfl) (by kernel_rfl) (by kernel_rfl) (by kernel_rfl) (fun _ _ _ h => h) (fun w5 hw5 => ?_) hS0 ?_
              · have z1 := hS1 w5 hw5; have z2 := hS2 w5 hw5; have z3 := hS3 w5 hw5; have z4 := hS4 w5 hw5
                simp only [List.getElem_toArray, List.getElem_cons_zero, List.getElem_cons_succ]
                go_simp
              simp only [Act.put, List.setIfInBounds_toArray, List.set_cons_zero, List.set_cons_succ]
              refine wpAnyC_step (k := 19) rfl (by kernel_rfl) (fun K hK => ?_)
              simp only [List.getElem_toArray, List.getElem_cons_zero, List.getElem_cons_succ]
              go_simp
              go_wp2_with (go_at_call 22; refine (mod_f Y 10 (by decide) (by decide) (by assumption) _).mono ?_; rintro e W2 ⟨rfl, rfl⟩)
              refine hK _ _ (fun _ => hS0) ?_
              clear hK
              refine wpAnyC_takeD 20 95 (.pointer (some ⟨wb, jw, none⟩)) rfl rfl rfl (by kernel_rfl) (by kernel_rfl) (by kernel_rfl) (by kernel_rfl) (fun _ _ _ h => h) (fun w5 hw5 => ?_) hS0 ?_
              · have z1 := hS1 w5 hw5; have z2 := hS2 w5 hw5; have z3 := hS3 w5 hw5; have z4 := hS4 w5 hw5
                simp only [List.getElem_toArray, List.getElem_cons_zero, List.getElem_cons_succ]
                go_simp
              simp only [Act.put, List.setIfInBounds_toArray, List.set_cons_zero, List.set_cons_succ]
              refine wpAnyC_takeD 21 96 (str t) rfl rfl rfl (by kernel_rfl) (by kernel_rfl) (by kernel_rfl) (by kernel_rfl) (fun _ _ _ h => h) (fun w5 hw5 => ?_) hS0 ?_
              · have z1 := hS1 w5 hw5; have z2 := hS2 w5 hw5; have z3 := hS3 w5 hw5; have z4 := hS4 w5 hw5
                simp only [List.getElem_toArray, List.getElem_cons_zero, List.getElem_cons_succ]
                go_simp
              simp only [Act.put, List.setIfInBounds_toArray, List.set_cons_zero, List.set_cons_succ]
              refine wpAnyC_takeD 22 97 (.agg #[.int .u8 (((ByteArray.mk #[97, 98, 99, 48])[jc]'h4).toNat : Int), str t]) rfl rfl rfl (by kernel_rfl) (by kernel_rfl) (by kernel_rfl) (by kernel_rfl) (fun _ _ _ h => h) (fun w5 hw5 => ?_) hS0 ?_
              · have z1 := hS1 w5 hw5; have z2 := hS2 w5 hw5; have z3 := hS3 w5 hw5; have z4 := hS4 w5 hw5
                simp only [List.getElem_toArray, List.getElem_cons_zero, List.getElem_cons_succ]
                go_simp
              simp only [Act.put, List.setIfInBounds_toArray, List.set_cons_zero, List.set_cons_succ]
              refine wpAnyC_step (k := 23) rfl (by kernel_rfl) (fun K hK => ?_)
              simp only [List.getElem_toArray, List.getElem_cons_zero, List.getElem_cons_succ]
              go_simp
              refine hK _ _ (fun _ => hSm _ ⟨cell_al _ s3, cell_al _ q2, cell_al _ q1, cell_al _ hwt⟩) ?_
              clear hK
              refine wpAnyC_step (k := 24) rfl (by kernel_rfl) (fun K hK => ?_)
              simp only [List.getElem_toArray, List.getElem_cons_zero, List.getElem_cons_succ]
              rw [if_pos (by rfl)]
              refine wp_append_lies _ _ _ _ (by rfl) (fb + 1) 64 i0' _ 2 24 Tryd.underlying60 hi hz0 hz1 hz2 rfl (by omega) _ k2 _ (by rfl) ((Hown.out.alloc _).drew) ⟨wr.heap.size, 0, none⟩ 1 1 [.int .u8 (((ByteArray.mk #[97, 98, 99, 48])[jc]'h4).toNat : Int), str t] (by rfl) (by rfl) (two_cells wr _ _ _) (by simp [Value.oneCell']) (by omega) (by unfold maxLen; omega) (by omega) (by simp; omega) (wr.heap.size + 1) (by simp) ?_
              intro gg cap2 w4 hown4 hgrow hat hlt4
              simp only [Act.put, List.setIfInBounds_toArray, List.set_cons_zero, List.set_cons_succ]
              obtain ⟨hnf4, hfz4, hc4⟩ := fld_app Hnf.out avf hgrow
              have hq24 := grown_cell4 hgrow q2 avq
              have hq14 := grown_cell4 hgrow q1 avq
              have hw44 := grown_cell4 hgrow hwt avw
              refine hK _ _ (fun _ => hSm _ ⟨hc4, hq24, hq14, hw44⟩) ?_
              clear hK
              refine wpAnyC_step (k := 25) rfl (by kernel_rfl) (fun K hK => ?_)
              simp only [List.getElem_toArray, List.getElem_cons_zero, List.getElem_cons_succ]
              go_simp
              refine hK _ _ (fun _ => hSm _ ⟨hc4, hq24, hq14, hw44⟩) ?_
              clear hK
              refine wpAnyC_step (k := 26) rfl (by kernel_rfl) (fun K hK => ?_)
              simp only [List.getElem_toArray, List.getElem_cons_zero, List.getElem_cons_succ]
              go_simp
              refine hK _ _ (fun h => absurd (of_decide_eq_true h) (by decide)) ?_
              clear hK
              refine wpAnyC_done (by kernel_rfl) ?_
              clear hS0 hSm hS1 hS2 hS3 hS4
              obtain ⟨e1, e2, e3⟩ := fld_next (s := ⟨(ByteArray.mk #[97, 98, 99, 48])[jc]'h4, t⟩) Hb.out Hnf.out Hown.out hown4 hgrow Hss.out
              have hall3 : ∀ s ∈ ss ++ [(⟨(ByteArray.mk #[97, 98, 99, 48])[jc]'h4, t⟩ : SubM)], subB s = true ∧ s.text.length ≤ 20 := by
                intro s hs
                rcases List.mem_append.1 hs with hs | hs
                · exact Hall.out s hs
                · rw [List.mem_singleton.1 hs]; exact ⟨by unfold subB; rw [Bool.and_eq_true]; exact ⟨Hcs.out, Ht.out.1⟩, Ht.out.2⟩
              have Hall3 := Lib.hid hall3
              have E1 := Lib.hid e1
              have E2 := Lib.hid e2
              have E3 := Lib.hid e3
              clear e1 e2 e3 hall3 hown4 hgrow hnf4 hfz4 hc4 hq24 hq14 hw44 hat hlt4 hi hz0 hz1 hz2 avf avq avw s3 s4 hwt q1 q2
              go_wp2
              go_roundw
              case rel => exact ⟨k2 + 1, ss ++ [⟨(ByteArray.mk #[97, 98, 99, 48])[jc]'h4, t⟩], _, by omega, by go_num, by rw [List.length_append, Hss.out]; rfl, Hall3.out, E1.out, E2.out, E3.out⟩
              case measure => simp [intOf]; omega
            · have hk3 : k2 = 1 + n3 := by omega
              obtain ⟨ta, tc, rfl⟩ := own_form hown
              have hb6w : Below w6.heap.size w6 wr := Hb8.out.trans (by rw [Hfb.out]; exact hb)
              have hmidw := Hmid6.out.below hb6w
              have hwp : w.heap.size < w.heap.size + 1 := by omega
              have Hnice := Lib.hid (nice_var Hto.out Hct.out HI.out.1 HI.out.2 Hall.out (by intro e; rw [e] at hss; simp at hss; omega) (by omega))
              obtain ⟨-, -, s2, -, -, s5⟩ := hmidw.rec_.cells
              have d0 : wr.cell? ⟨fb, 0, none⟩ = some (str T) := by rw [cell_at hnf]; rfl
              have d1 : wr.cell? ⟨fb, 1, none⟩ = some (str I) := by rw [cell_at hnf]; rfl
              have d2 : wr.cell? ⟨fb, 2, none⟩ = some (.string ⟨#[]⟩) := by rw [cell_at hnf]; rfl
              have d3 : wr.cell? ⟨fb, 3, none⟩ = some (.slice ta ss.length tc) := by rw [cell_at hnf]; rfl
              have Hmidw := Lib.hid hmidw
              have Hsub := Lib.hid (own_le hown (show w.heap.size + 1 + 1 ≤ fb + 1 by omega))
              have nlt : ¬ ((k2 : Int) < 1 + (n3 : Int)) := by omega
              clear hnf hown hb hss hmidw hb6w q2 hk3
              obtain ⟨i0', hi, hz0, hz1, hz2⟩ := info_parts infoFld
              go_wp2_with fail
              refine (M3.out _).mono ?_
              rintro e W11 ⟨rfl, rfl⟩
              clear q1
              go_wp2_with (at_builtin; refine wpList_append_own _ rfl _ _ 25 rfl (w.heap.size + 1 + 1) 62 i0' _ 4 72 Tryd.underlying25 hi hz0 hz1 hz2 rfl (by decide) _ _ _ rfl (Hmidw.out.rec_.2.alloc _) ⟨wr.heap.size, 0, none⟩ 1 1 [str T, str I, .string ⟨#[]⟩, .slice ta ss.length tc] rfl rfl ?c1 ?c2 ?c3 ?c4 ?c5 ?_)
              case c1 => exact fld_cells wr _ _ _ _ _
              case c2 => simp [Value.oneCell']
              case c3 => unfold maxLen; omega
              case c4 => omega
              case c5 => have := lt_at Hmidw.out.tags; simp; omega
              intro v' w8 hown8 hgrow _
              obtain ⟨na, nc, rfl⟩ := own_form hown8
              obtain ⟨y1, y2, hdone⟩ := Mid.done (f := ⟨T, I, [], ss⟩) Hmidw.out hwp hown8 hgrow Hnice.out Hsub.out
              have Hdone := Lib.hid hdone
              have Hkl := Lib.hid (And.intro Hmidw.out.kd_ Hmidw.out.lv_)
              clear hown8 hgrow hdone hi hz0 hz1 hz2 d0 d1 d2 d3 s2 s5
              go_wp2
              go_roundw
              case rel => first
                | exact ⟨k + 1, _, _, _, _, by omega, by omega, by go_num, by rw [List.length_append, Hacc.out]; rfl, Hdone.out.rec_, Hkl.out.1, Hkl.out.2, Hdone.out.accs, Hdone.out.tags, Hdone.out.res, Hdone.out.bel⟩
                | exact ⟨1, _, _, _, _, by omega, by omega, by go_num, by rw [List.length_append, Hacc.out]; rfl, Hdone.out.rec_, Hkl.out.1, Hkl.out.2, Hdone.out.accs, Hdone.out.tags, Hdone.out.res, Hdone.out.bel⟩
              case measure => simp [intOf]; omega
    · subst hacc
      have Hmin := Lib.hid (show acc.length = min l.length 12 by omega)
      obtain ⟨sa, sc, rfl⟩ := hrec.form
      obtain ⟨r0, r1, r2, e0, e1, e2⟩ := hrec.cells
      have t0 : wr.cell? ⟨w.heap.size, 0, none⟩ = some (.int .u8 0) := by rw [cell_at hn0]; rfl
      have t1 : wr.cell? ⟨w.heap.size, 1, none⟩ = some (.int .u8 0) := by rw [cell_at hn0]; rfl
      have t2 : wr.cell? ⟨w.heap.size, 2, none⟩ = some (.slice none 0 0) := by rw [cell_at hn0]; rfl
      have f0 : wr.frozen? ⟨w.heap.size, 0, none⟩ = false := Lib.frozen_of_heap hn0 0
      have f1 : wr.frozen? ⟨w.heap.size, 1, none⟩ = false := Lib.frozen_of_heap hn0 1
      have f2 : wr.frozen? ⟨w.heap.size, 2, none⟩ = false := Lib.frozen_of_heap hn0 2
      have hfin := made_end_k hrec haccs hb hn0 (by omega) hkd hlv (by omega)
      obtain ⟨WF, hWF⟩ : ∃ WF, ((wr.setCell ⟨w.heap.size, 0, none⟩ (.int .u8 (kd.toNat : Int))).setCell ⟨w.heap.size, 1, none⟩ (.int .u8 (lv.toNat : Int))).setCell ⟨w.heap.size, 2, none⟩ (.slice sa acc.length sc) = WF := ⟨_, rfl⟩
      unfold fin3 MadePostK at hfin
      rw [hWF] at hfin
      have Hfin := Lib.hid hfin
      have HWF := Lib.hid hWF
      clear hfin hrec haccs hb hn0 hntb hWF
      have i2 : (0 : Int) ≤ (acc.length : Int) := by omega
      by_cases hkl : acc.length < l.length
      · have n1 : (acc.length : Int) < (l.length : Int) := by omega
        have n2 : ¬ ((acc.length : Int) < 12) := by omega
        go_wp2_with fail
        rw [HWF.out]
        obtain ⟨hp, c0, c1, c2⟩ := Hfin.out
        simp [bodyPost, results, Tryd.results14, go_sem, c0, c1, c2]
        obtain ⟨v, r, hv, h1, h2, h3, h4, h5, h6⟩ := hp
        cases hv
        exact ⟨r, h1, h2, h3, h4, h5.trans Hmin.out, h6⟩
      · have n1 : ¬ ((acc.length : Int) < (l.length : Int)) := by omega
        go_wp2_with fail
        rw [HWF.out]
        obtain ⟨hp, c0, c1, c2⟩ := Hfin.out
        simp [bodyPost, results, Tryd.results14, go_sem, c0, c1, c2]
        obtain ⟨v, r, hv, h1, h2, h3, h4, h5, h6⟩ := hp
        cases hv
        exact ⟨r, h1, h2, h3, h4, h5.trans Hmin.out, h6⟩
end Go.Proofs.YtpfnmjcomdckgaaDoor
