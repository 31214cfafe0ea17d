/-
  marc.Write.
-/
import Derived.Test.YtpfnmjcomdckgaaDoorRWriteL
namespace Go.Proofs.YtpfnmjcomdckgaaDoor
open Go.RowKit Go.Shelf
set_option linter.unusedVariables false
set_option linter.unusedSimpArgs false

structure RightM (r : RecM) : Prop where
  kind : lowB r.kind = true
  level : lowB r.level = true
  tags : ∀ f ∈ r.fields, tagB f.tag = true
  flds : ∀ f ∈ r.fields, fieldB f = true
  small : ∀ f ∈ r.fields, sizeF f ≤ 9999
  many : r.fields.length ≤ 999
  size : sizeR r ≤ 99999
theorem firstBad_zero : ∀ {l : List FldM}, firstBad l = 0 → ∀ f ∈ l, tagB f.tag = true ∧ fieldB f = true
  | [], _, f, h => by cases h
  | g :: r, h0, f, h => by
    unfold firstBad at h0
    cases ht : tagB g.tag with
    | false => simp [ht] at h0
    | true =>
      cases hf : fieldB g with
      | false => simp [ht, hf] at h0
      | true =>
        simp only [ht, hf, if_true] at h0
        rcases List.mem_cons.1 h with e | e
        · subst e; exact ⟨ht, hf⟩
        · exact firstBad_zero h0 f e
theorem check_zero {r : RecM} (h : checkM r = 0) : RightM r := by
  unfold checkM at h
  split at h
  · rename_i h1
    split at h
    · rename_i h2
      split at h
      · cases h
      · rename_i h3
        simp only [Bool.and_eq_true] at h1
        simp only [Bool.or_eq_true, decide_eq_true_eq, not_or] at h3
        obtain ⟨⟨h3, h4⟩, h5⟩ := h3
        refine ⟨h1.1, h1.2, fun f hf => (firstBad_zero h2 f hf).1, fun f hf => (firstBad_zero h2 f hf).2, fun f hf => ?_, by omega, by omega⟩
        unfold largeB at h4
        rw [List.any_eq_true] at h4
        have : ¬ decide (9999 < sizeF f) = true := fun e => h4 ⟨f, hf, e⟩
        simpa using this
    · rename_i h2; exact absurd h h2
  · cases h
theorem tag_len {t : List UInt8} (h : tagB t = true) : t.length = 3 := by
  unfold tagB at h
  simp only [Bool.and_eq_true, beq_iff_eq] at h
  exact h.1.2
def writeR (r : RecM) : List UInt8 := if checkM r = 0 then writeM r else []
def WritePost (r : RecM) (w : World) (e : Ending) (w' : World) : Prop := e = .returned (.tuple #[str (writeR r), .int .i64 (checkM r : Nat)]) ∧ Below w.heap.size w w'
theorem flat_len : ∀ l : List FldM, (l.flatMap bytesF).length = fieldsN l
  | [] => rfl
  | f :: r => by rw [List.flatMap_cons, List.length_append, bytesF_len, flat_len r]; simp [fieldsN]
theorem lead_len (r : RecM) : (leadM r).length = 24 := by unfold leadM; simp [digsN_len]
set_option maxRecDepth 100000 in
set_option maxHeartbeats 4000000 in
theorem write_c (v : Value) (r : RecM) (w : World) (hv : RecV w v r) (hs : sizeR r ≤ 1099511627776) (ht : ∀ f ∈ r.fields, f.tag.length ≤ 1099511627776) :
    Calls Tryd.prog 16 #[v] w (WritePost r w) := by
  obtain ⟨fv, rfl, hf⟩ := hv
  obtain ⟨a, cap, rfl, hm, hc⟩ := hf.slice
  obtain ⟨W3, hW3⟩ : ∃ W3, w.alloc (.cells #[.int .u8 (r.kind.toNat : Int), .int .u8 (r.level.toNat : Int), .slice a r.fields.length cap] 27) = W3 := ⟨_, rfl⟩
  have hb3 : Below w.heap.size w W3 := by rw [← hW3]; exact below_new w _
  have hlt3 : w.heap.size < W3.heap.size := by rw [← hW3]; simp
  have hn3 := new_at w (.cells #[.int .u8 (r.kind.toNat : Int), .int .u8 (r.level.toNat : Int), .slice a r.fields.length cap] 27)
  rw [hW3] at hn3
  have g0 : W3.cell? ⟨w.heap.size, 0, none⟩ = some (.int .u8 (r.kind.toNat : Int)) := by rw [cell_at hn3]; rfl
  have g1 : W3.cell? ⟨w.heap.size, 1, none⟩ = some (.int .u8 (r.level.toNat : Int)) := by rw [cell_at hn3]; rfl
  have g2 : W3.cell? ⟨w.heap.size, 2, none⟩ = some (.slice a r.fields.length cap) := by rw [cell_at hn3]; rfl
  have hrv : RecV W3 (.agg #[.int .u8 (r.kind.toNat : Int), .int .u8 (r.level.toNat : Int), .slice a r.fields.length cap]) r := ⟨_, rfl, hf.below hb3 (Nat.le_refl _)⟩
  have N1' := check_c _ r W3 hrv hs ht
  unfold CheckPost at N1'
  have N1 := Lib.hid N1'
  have Hrv := Lib.hid hrv
  have Hf := Lib.hid hf
  have Hb3 := Lib.hid hb3
  have Hn3 := Lib.hid hn3
  unfold maxLen at hm
  unfold WritePost writeR
  by_cases h0 : checkM r = 0
  · have hR := check_zero h0
    rw [if_pos h0, h0]
    rw [h0] at N1
    have hs2 := hR.size
    have hmany := hR.many
    have HR := Lib.hid hR
    clear hb3 hn3 N1' hrv hs ht hf hc h0 hR
    go_enter Tryd.func16, Tryd.ntmps16
    go_wp2_with fail
    refine N1.out.mono ?_
    clear N1
    rintro e w5 ⟨rfl, hb5⟩
    have Hn5 := Lib.hid (heap_below hb5 Hn3.out)
    have Hb5 := Lib.hid hb5
    have Hrv5 := Lib.hid (Hrv.out.below hb5 (Nat.le_refl _))
    clear hb5 hW3 g0 g1 g2
    obtain ⟨W6, hW6⟩ : ∃ W6, w5.alloc (.cells #[.pointer none, .slice none 0 0] 74) = W6 := ⟨_, rfl⟩
    have hb6 : Below w5.heap.size w5 W6 := by rw [← hW6]; exact below_new w5 _
    have hn6 := new_at w5 (.cells #[.pointer none, .slice none 0 0] 74)
    rw [hW6] at hn6
    have hlt6 : w5.heap.size < W6.heap.size := lt_at hn6
    have hr6 := heap_below hb6 Hn5.out
    have g0 : W6.cell? ⟨w.heap.size, 0, none⟩ = some (.int .u8 (r.kind.toNat : Int)) := by rw [cell_at hr6]; rfl
    have g1 : W6.cell? ⟨w.heap.size, 1, none⟩ = some (.int .u8 (r.level.toNat : Int)) := by rw [cell_at hr6]; rfl
    have g2 : W6.cell? ⟨w.heap.size, 2, none⟩ = some (.slice a r.fields.length cap) := by rw [cell_at hr6]; rfl
    have M1 := Lib.hid (sizeOfRecord_c _ r W6 (Hrv5.out.below hb6 (Nat.le_refl _)) (by omega))
    have Hb6 := Lib.hid hb6
    have Hn6 := Lib.hid hn6
    clear hb6 hn6 hr6
    go_wp2_with fail
    refine M1.out.mono ?_
    clear M1 g0 g1 g2 hW6
    rintro e w7 ⟨rfl, hb7⟩
    have hn7 := heap_below hb7 Hn6.out
    have hBw7 : w5.heap.size ≤ w7.heap.size := by have := hb7.size; omega
    have M2 := Lib.hid (growFresh w5.heap.size w5.heap.size (sizeR r) w7 (Nat.le_refl _) hn7 hBw7 (by omega))
    have H37 := Lib.hid (((Hb5.out).trans (Hb6.out.mono Hb5.out.size)).trans (hb7.mono (by have := Hb5.out.size; omega)))
    have hr7 := heap_below hb7 (heap_below Hb6.out Hn5.out)
    have Hn7 := Lib.hid hr7
    clear hb7 hn7 hr7 Hb6 Hn6 Hn5 Hrv5
    obtain ⟨b, hb⟩ : ∃ b, w5.heap.size = b := ⟨_, rfl⟩
    have hw3b : W3.heap.size ≤ b := by have := Hb5.out.size; omega
    have hwb : w.heap.size < b := by omega
    rw [hb] at M2 hlt6 hBw7 ⊢
    clear hb Hb5
    go_wp2_with fail
    refine M2.out.mono ?_
    clear M2
    rintro e w8 ⟨rfl, hbl8, hb8⟩
    have hb8' : Bld b b [] w8 := ⟨hbl8, by have := hb8.size; omega⟩
    have H38 := Lib.hid (H37.out.trans (hb8.mono hw3b))
    have hr8 : w8.heap[w.heap.size]? = _ := (hb8.block _ hwb).trans Hn7.out
    have g0 : w8.cell? ⟨w.heap.size, 0, none⟩ = some (.int .u8 (r.kind.toNat : Int)) := by rw [cell_at hr8]; rfl
    have g1 : w8.cell? ⟨w.heap.size, 1, none⟩ = some (.int .u8 (r.level.toNat : Int)) := by rw [cell_at hr8]; rfl
    have g2 : w8.cell? ⟨w.heap.size, 2, none⟩ = some (.slice a r.fields.length cap) := by rw [cell_at hr8]; rfl
    have M3' := writeLead_c b b _ r [] W3 w8 Hrv.out hw3b H38.out (by omega) hb8' (by simp)
    unfold WPost at M3'
    rw [List.nil_append] at M3'
    have M3 := Lib.hid M3'
    have Hn8 := Lib.hid hr8
    clear M3' hbl8 hb8 hb8' hr8 H37 Hn7
    go_wp2_with fail
    refine M3.out.mono ?_
    clear M3 g0 g1 g2
    rintro e w9 ⟨rfl, hl9, hb9, -⟩
    have H39 := Lib.hid (H38.out.trans (hb9.mono hw3b))
    have hr9 : w9.heap[w.heap.size]? = _ := (hb9.block _ hwb).trans Hn8.out
    have g2 : w9.cell? ⟨w.heap.size, 2, none⟩ = some (.slice a r.fields.length cap) := by rw [cell_at hr9]; rfl
    have hfn : fieldsN r.fields ≤ 99999 := by unfold sizeR at hs2; omega
    have hdl := dirM_len r.fields 0 (fun f hf => tag_len (HR.out.tags f hf))
    have hll := lead_len r
    have hfl := flat_len r.fields
    have M4' := writeDir_c b b (.slice a r.fields.length cap) r.fields (leadM r) W3 w9 (Hf.out.below Hb3.out (Nat.le_refl _)) hw3b H39.out (fun f hf => tag_len (HR.out.tags f hf)) (by omega) (by omega) hl9 (by omega)
    unfold WPost at M4'
    have M4 := Lib.hid M4'
    have Hn9 := Lib.hid hr9
    clear M4' hl9 hb9 hr9 H38 Hn8
    go_wp2_with fail
    refine M4.out.mono ?_
    clear M4 g2
    rintro e w10 ⟨rfl, hl10, hb10, -⟩
    have H310 := Lib.hid (H39.out.trans (hb10.mono hw3b))
    have hr10 : w10.heap[w.heap.size]? = _ := (hb10.block _ hwb).trans Hn9.out
    have g2 : w10.cell? ⟨w.heap.size, 2, none⟩ = some (.slice a r.fields.length cap) := by rw [cell_at hr10]; rfl
    obtain ⟨P, hP⟩ : ∃ P, leadM r ++ dirM 0 r.fields ++ [30] = P := ⟨_, rfl⟩
    have hPl : P.length ≤ 100000 := by rw [← hP]; simp only [List.length_append, List.length_cons, List.length_nil, hdl, hll]; omega
    have hfin : writeM r = P ++ r.fields.flatMap bytesF ++ [29] := by rw [← hP]; rfl
    rw [hP] at hl10
    have Hl10 := Lib.hid hl10
    have Hfin := Lib.hid hfin
    have Hc2 := Lib.hid (Hf.out.below Hb3.out (Nat.le_refl _)).slice
    clear hl10 hb10 hr10 H39 Hn9 hP hfin hdl hll
    go_wp2
    clear g2
    go_loopw [24] (fun i wr => ∃ k : Nat, k ≤ r.fields.length ∧ i = .int .i64 k ∧ Bld b b (P ++ (r.fields.take k).flatMap bytesF) wr ∧ Below W3.heap.size W3 wr) (fun i _ => r.fields.length - (intOf i).toNat)
    case atStart => exact ⟨0, Nat.zero_le _, rfl, by simpa using Hl10.out, H310.out⟩
    case round =>
      obtain ⟨k, hk, rfl, hbl, h0w⟩ := hrel
      clear Hl10 H310
      by_cases hlt : k < r.fields.length
      · obtain ⟨a2, cap2, hsl, -, hcs⟩ := Hc2.out
        obtain ⟨rfl, -, rfl⟩ : a = a2 ∧ True ∧ cap = cap2 := by cases hsl; exact ⟨rfl, trivial, rfl⟩
        obtain ⟨b2, off, rfl, hb2, c0, c1, c2, sv, c3, h4⟩ := hcs k hlt
        have c0 := cell_below h0w (Nat.le_refl _) c0
        have c1 := cell_below h0w (Nat.le_refl _) c1
        have c2 := cell_below h0w (Nat.le_refl _) c2
        have c3 := cell_below h0w (Nat.le_refl _) c3
        have htk := take_snoc r.fields k hlt
        have hfe := sizeF_le r.fields k hlt
        have hfk := flat_len (r.fields.take k)
        have hfle := fieldsN_le r.fields k
        have i0 : (0 : Int) ≤ (k : Int) := by omega
        have i1 : (k : Int) < (r.fields.length : Int) := by omega
        obtain ⟨f, hf⟩ : ∃ f, r.fields[k] = f := ⟨_, rfl⟩
        rw [hf] at c0 c1 c2 h4 hfe htk
        have hsn : (r.fields.take (k + 1)).flatMap bytesF = (r.fields.take k).flatMap bytesF ++ bytesF f := by rw [htk, List.flatMap_append]; simp
        obtain ⟨S, hS⟩ : ∃ S, (r.fields.take k).flatMap bytesF = S := ⟨_, rfl⟩
        rw [hS] at hbl hsn hfk
        obtain ⟨sa, sc, hsv, -⟩ := h4.slice
        subst hsv
        obtain ⟨W5, hW5⟩ : ∃ W5, wr.alloc (.cells #[str f.tag, str f.ind, str f.data, .slice sa f.subs.length sc] 62) = W5 := ⟨_, rfl⟩
        have hn5 := new_at wr (.cells #[str f.tag, str f.ind, str f.data, .slice sa f.subs.length sc] 62)
        have hbl5 : Bld b b (P ++ S) W5 := by rw [← hW5]; exact hbl.alloc _
        have h05 : Below W3.heap.size W3 W5 := by rw [← hW5]; exact h0w.alloc h0w.size _
        rw [hW5] at hn5
        have e0 : W5.cell? ⟨wr.heap.size, 0, none⟩ = some (str f.tag) := by rw [cell_at hn5]; rfl
        have e1 : W5.cell? ⟨wr.heap.size, 1, none⟩ = some (str f.ind) := by rw [cell_at hn5]; rfl
        have e2 : W5.cell? ⟨wr.heap.size, 2, none⟩ = some (str f.data) := by rw [cell_at hn5]; rfl
        have e3 : W5.cell? ⟨wr.heap.size, 3, none⟩ = some (.slice sa f.subs.length sc) := by rw [cell_at hn5]; rfl
        have M5' := writeField_c b b (.slice sa f.subs.length sc) f (P ++ S) W3 W5 h4 hw3b h05 hbl5 (by rw [List.length_append]; omega)
        unfold WPost at M5'
        have M5 := Lib.hid M5'
        have H05 := Lib.hid h05
        have Hsn := Lib.hid hsn
        clear M5' hn5 hbl5 h05 hsn h4 htk hfe hfk hf hS hbl h0w hcs hsl
        go_wp2_with fail
        refine M5.out.mono ?_
        clear M5 hW5 e0 e1 e2 e3
        rintro e w6 ⟨rfl, hl6, hb6, -⟩
        have Hl6 := Lib.hid hl6
        have H06 := Lib.hid (H05.out.trans (hb6.mono hw3b))
        clear hl6 hb6 H05
        go_wp2
        go_roundw
        case rel => exact ⟨k + 1, by omega, by go_num, by rw [Hsn.out]; have := Hl6.out; simpa using this, H06.out⟩
        case measure => simp [intOf]; omega
      · have hkl : k = r.fields.length := by omega
        subst hkl
        rw [List.take_length] at hbl
        have hd2 : decide (r.fields.length < r.fields.length) = false := by simp
        have M6 := Lib.hid (bldByte b b _ 29 29 rfl wr hbl (by rw [List.length_append, hfl]; omega))
        have Hw := Lib.hid (Hb3.out.trans (h0w.mono (by omega)))
        clear hbl h0w
        go_wp2_with fail
        refine M6.out.mono ?_
        clear M6
        rintro e w6 ⟨rfl, hl6, hb6, -⟩
        rw [← Hfin.out] at hl6
        have M7 := Lib.hid (builderString b b (writeM r) w6 hl6.1 hl6.2)
        have Hw6 := Lib.hid (Hw.out.trans (hb6.mono (by omega)))
        clear hl6 hb6
        go_wp2_with fail
        refine M7.out.mono ?_
        clear M7
        rintro e w7 ⟨rfl, -, hb7, -⟩
        have Hw7 := Lib.hid (Hw6.out.trans (hb7.mono (by omega)))
        clear hb7
        go_wp2
        go_ret2
        exact ⟨rfl, Hw7.out⟩
  · have hne : ((checkM r : Int) != 0) = true := by rw [bne_iff_ne]; omega
    rw [if_neg h0]
    obtain ⟨n, hn⟩ : ∃ n, checkM r = n := ⟨_, rfl⟩
    rw [hn] at N1 hne ⊢
    clear hb3 hn3 N1' hrv hs ht hf hc h0 hn
    go_enter Tryd.func16, Tryd.ntmps16
    go_wp2_with fail
    refine N1.out.mono ?_
    clear N1
    rintro e w5 ⟨rfl, hb5⟩
    have Hb5 := Lib.hid (below_tr Hb3.out hb5)
    clear hb5
    go_wp2
    go_ret2
    exact ⟨rfl, Hb5.out⟩
end Go.Proofs.YtpfnmjcomdckgaaDoor
