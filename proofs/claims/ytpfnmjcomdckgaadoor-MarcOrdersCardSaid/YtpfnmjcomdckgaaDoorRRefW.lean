/-
  The reference's Wrong and Right.
-/
import Derived.Test.YtpfnmjcomdckgaaDoorRRefR
import Derived.Test.YtpfnmjcomdckgaaDoorRRefB
namespace Go.Proofs.YtpfnmjcomdckgaaDoor
open Go.RowKit Go.Shelf
set_option linter.unusedVariables false
set_option linter.unusedSimpArgs false

theorem rRight_c (v : Value) (f : FldM) (w : World) (hv : FldV w v f) (htm : f.tag.length ≤ 1099511627776) (hs : sizeF f ≤ 1099511627776) :
    Calls Tryd.prog 64 #[v] w (RFPost (rfN f) w) := by
  obtain ⟨sv, rfl, hsub⟩ := hv
  obtain ⟨tag, ind, data, subs⟩ := f
  unfold sizeF at hs
  simp only at hs htm hsub ⊢
  cases ht : tagB tag with
  | false =>
    obtain ⟨a, cap, rfl, hm, -⟩ := hsub.slice
    exact rRight_tag tag ind data subs a cap w htm hm ht
  | true =>
    cases hc : ctlB tag with
    | true =>
      obtain ⟨a, cap, rfl, hm, -⟩ := hsub.slice
      exact rRight_ctl tag ind data subs a cap w htm (by omega) hm ht hc
    | false => exact rRight_var tag ind data subs sv w htm (by omega) (by omega) hsub ht hc
theorem firstBad_step {f : FldM} {r : List FldM} : firstBad (f :: r) = if rfN f = 0 then firstBad r else rfN f := by
  show (if tagB f.tag then (if fieldB f then firstBad r else 14) else 13) = _
  unfold rfN
  cases tagB f.tag <;> cases fieldB f <;> simp
theorem drop_at {α : Type} {l : List α} {k : Nat} (h : k < l.length) : l.drop k = l[k] :: l.drop (k + 1) := List.drop_eq_getElem_cons h
set_option maxRecDepth 100000 in
set_option maxHeartbeats 8000000 in
theorem rWrong_c (v : Value) (r : RecM) (w : World) (hv : RecV w v r) (hs : sizeR r ≤ 1099511627776) (ht : ∀ f ∈ r.fields, f.tag.length ≤ 1099511627776) :
    Calls Tryd.prog 44 #[v] w (RFPost (checkM r) w) := by
  obtain ⟨fv, rfl, hf⟩ := hv
  obtain ⟨kd, lv, fs⟩ := r
  obtain ⟨a, cap, rfl, hm, hc⟩ := hf.slice
  have Hc := Lib.hid hc
  have Ht := Lib.hid ht
  unfold maxLen at hm
  unfold sizeR sizeH at hs
  simp only at hs hm Hc Ht ⊢
  clear hf hc ht
  obtain ⟨W3, hW3⟩ : ∃ W3, w.alloc (.cells #[.int .u8 (kd.toNat : Int), .int .u8 (lv.toNat : Int), .slice a fs.length cap] 27) = W3 := ⟨_, rfl⟩
  have hb3 : Below w.heap.size w W3 := by rw [← hW3]; exact below_new w _
  have hn3 := new_at w (.cells #[.int .u8 (kd.toNat : Int), .int .u8 (lv.toNat : Int), .slice a fs.length cap] 27)
  rw [hW3] at hn3
  have hlt3 : w.heap.size < W3.heap.size := lt_at hn3
  have g0 : W3.cell? ⟨w.heap.size, 0, none⟩ = some (.int .u8 (kd.toNat : Int)) := by rw [cell_at hn3]; rfl
  have g1 : W3.cell? ⟨w.heap.size, 1, none⟩ = some (.int .u8 (lv.toNat : Int)) := by rw [cell_at hn3]; rfl
  have g2 : W3.cell? ⟨w.heap.size, 2, none⟩ = some (.slice a fs.length cap) := by rw [cell_at hn3]; rfl
  have Hb3 := Lib.hid hb3
  have L1 := Lib.hid (rLetter_c kd W3)
  have L2 := Lib.hid (rLetter_c lv W3)
  unfold RFPost
  clear hb3 hn3
  have hck : checkM ⟨kd, lv, fs⟩ = if lowB kd && lowB lv then (if firstBad fs = 0 then (if decide (999 < fs.length) || largeB fs || decide (99999 < 26 + 12 * fs.length + fieldsN fs) then 2 else 0) else firstBad fs) else 12 := by
    have he : sizeR ⟨kd, lv, fs⟩ = 26 + 12 * fs.length + fieldsN fs := by unfold sizeR sizeH; simp only; omega
    unfold checkM
    rw [he]
  obtain ⟨C, hC⟩ : ∃ C, checkM ⟨kd, lv, fs⟩ = C := ⟨_, rfl⟩
  rw [hC] at hck ⊢
  clear hC
  cases h1 : lowB kd with
  | false =>
    rw [h1] at L1 hck
    rw [if_neg (by simp)] at hck
    subst hck
    clear h1
    go_enter Tryd.func44, Tryd.ntmps44
    go_wp2_with fail
    refine L1.out.mono ?_
    rintro e w4 ⟨rfl, rfl⟩
    go_wp2
    go_ret
    exact ⟨rfl, Hb3.out⟩
  | true =>
  rw [h1] at L1
  cases h2 : lowB lv with
  | false =>
    rw [h1, h2] at hck
    rw [h2] at L2
    rw [if_neg (by simp)] at hck
    subst hck
    clear h1 h2
    go_enter Tryd.func44, Tryd.ntmps44
    go_wp2_with fail
    refine L1.out.mono ?_
    rintro e w4 ⟨rfl, rfl⟩
    go_wp2_with fail
    refine L2.out.mono ?_
    rintro e w4 ⟨rfl, rfl⟩
    go_wp2
    go_ret
    exact ⟨rfl, Hb3.out⟩
  | true =>
  rw [h1, h2, if_pos (show (true && true) = true from rfl)] at hck
  rw [h2] at L2
  have Hck := Lib.hid hck
  clear h1 h2 hck
  go_enter Tryd.func44, Tryd.ntmps44
  go_wp2_with fail
  refine L1.out.mono ?_
  rintro e w4 ⟨rfl, rfl⟩
  go_wp2_with fail
  refine L2.out.mono ?_
  rintro e w5 ⟨rfl, rfl⟩
  go_wp2
  clear hW3 g0 g1 L1 L2
  go_loopw [3] (fun i wr => ∃ k : Nat, k ≤ fs.length ∧ i = .int .i64 k ∧ firstBad fs = firstBad (fs.drop k) ∧ Below w5.heap.size w5 wr) (fun i _ => fs.length - (intOf i).toNat)
  case atStart => exact ⟨0, Nat.zero_le _, rfl, by rw [List.drop_zero], Below.refl _ _⟩
  case round =>
    obtain ⟨k, hk, rfl, hbad, hb⟩ := hrel
    have g2w := cell_below hb (Nat.le_refl _) g2
    by_cases hlt : k < fs.length
    · obtain ⟨b, off, rfl, hbl, c0, c1, c2, sv, c3, hsub⟩ := Hc.out k hlt
      have hbw := Hb3.out.trans (hb.mono Hb3.out.size)
      have c0 := cell_below hbw (Nat.le_refl _) c0
      have c1 := cell_below hbw (Nat.le_refl _) c1
      have c2 := cell_below hbw (Nat.le_refl _) c2
      have c3 := cell_below hbw (Nat.le_refl _) c3
      have hsub := hsub.below hbw (Nat.le_refl _)
      have hfl := sizeF_le fs k hlt
      have htl := Ht.out _ (List.getElem_mem hlt)
      have hdr := drop_at hlt
      have i0 : (0 : Int) ≤ (k : Int) := by omega
      have i1 : (k : Int) < (fs.length : Int) := by omega
      obtain ⟨f, hfe⟩ : ∃ f, fs[k] = f := ⟨_, rfl⟩
      rw [hfe] at c0 c1 c2 hsub hfl htl hdr
      rw [hdr, firstBad_step] at hbad
      have M := rRight_c _ f wr ⟨sv, rfl, hsub⟩ htl (by omega)
      unfold RFPost at M
      by_cases hz : rfN f = 0
      · rw [if_pos hz] at hbad
        rw [hz] at M
        have M := Lib.hid M
        have Hbad := Lib.hid hbad
        have Hb := Lib.hid hb
        clear hbw hsub hfl htl hdr hfe hbad hz hb hbl
        go_wp2_with fail
        refine M.out.mono ?_
        rintro e w7 ⟨rfl, hb7⟩
        have Hb7 := Lib.hid (Hb.out.trans (hb7.mono Hb.out.size))
        clear hb7 c0 c1 c2 c3 g2w
        go_wp2
        go_roundw
        case rel => exact ⟨k + 1, by omega, by go_num, Hbad.out, Hb7.out⟩
        case measure => simp [intOf]; omega
      · rw [if_neg hz] at hbad
        have hne : (((rfN f : Nat) : Int) != 0) = true := by rw [bne_iff_ne]; omega
        have hCe : C = rfN f := by rw [Hck.out, if_neg (by rw [hbad]; exact hz), hbad]
        obtain ⟨n, hn⟩ : ∃ n, rfN f = n := ⟨_, rfl⟩
        rw [hn] at M hne hCe
        have M := Lib.hid M
        have HCe := Lib.hid hCe
        have Hb := Lib.hid hbw
        clear hbw hsub hfl htl hdr hfe hbad hz hb hbl hCe hn
        go_wp2_with fail
        refine M.out.mono ?_
        rintro e w7 ⟨rfl, hb7⟩
        have Hb7 := Lib.hid (Hb.out.trans (hb7.mono Hb.out.size))
        clear hb7 c0 c1 c2 c3 g2w
        go_wp2
        go_ret
        exact ⟨by rw [HCe.out]; rfl, Hb7.out⟩
    · have hkl : k = fs.length := by omega
      subst hkl
      rw [List.drop_length] at hbad
      have hd2 : decide (fs.length < fs.length) = false := by simp
      have hck := Hck.out
      rw [if_pos (show firstBad fs = 0 from hbad)] at hck
      have Hck := Lib.hid hck
      have hWr := hb.size
      have Hbr := Lib.hid hb
      have G2 := Lib.hid g2w
      clear hbad hck hb g2
      go_wp2
      clear g2w
      go_loopw [5, 6] (fun t i w2 => ∃ k : Nat, k ≤ fs.length ∧ i = .int .i64 k ∧ t = .int .i64 ((26 : Int) + 12 * (k : Int) + (fieldsN (fs.take k) : Int)) ∧ largeB (fs.take k) = false ∧ Below wr.heap.size wr w2) (fun _ i _ => fs.length - (intOf i).toNat)
      case atStart => exact ⟨0, Nat.zero_le _, rfl, by simp [fieldsN], rfl, Below.refl _ _⟩
      case round =>
        obtain ⟨k, hk, rfl, rfl, hlg, hb⟩ := hrel
        have g2w := cell_below hb (Nat.le_refl _) G2.out
        have hfle := fieldsN_le fs k
        by_cases hlt : k < fs.length
        · obtain ⟨b, off, rfl, hbl, c0, c1, c2, sv, c3, hsub⟩ := Hc.out k hlt
          have hbw := Hb3.out.trans ((Hbr.out.trans (hb.mono Hbr.out.size)).mono Hb3.out.size)
          have c0 := cell_below hbw (Nat.le_refl _) c0
          have c1 := cell_below hbw (Nat.le_refl _) c1
          have c2 := cell_below hbw (Nat.le_refl _) c2
          have c3 := cell_below hbw (Nat.le_refl _) c3
          have hsub := hsub.below hbw (Nat.le_refl _)
          have hfl := sizeF_le fs k hlt
          have hsn := fieldsN_snoc fs k hlt
          have hle2 := fieldsN_le fs (k + 1)
          have htk := take_snoc fs k hlt
          have hmem : fs[k] ∈ fs := List.getElem_mem hlt
          have i0 : (0 : Int) ≤ (k : Int) := by omega
          have i1 : (k : Int) < (fs.length : Int) := by omega
          obtain ⟨f, hfe⟩ : ∃ f, fs[k] = f := ⟨_, rfl⟩
          rw [hfe] at c0 c1 c2 hsub hfl hsn htk hmem
          have M := Lib.hid (rBytes_c _ f _ ⟨sv, rfl, hsub⟩ (by omega))
          unfold StrPost at M
          have hbl2 := bytesF_len f
          have hbs := size_str (bytesF f)
          obtain ⟨B, hB⟩ : ∃ B, bytesF f = B := ⟨_, rfl⟩
          rw [hB] at M hbl2 hbs
          obtain ⟨n, hn⟩ : ∃ n, sizeF f = n := ⟨_, rfl⟩
          rw [hn] at hbl2 hsn hfl
          rw [hbl2] at hbs
          have hlgf : decide (9999 < n) = true → largeB fs = true := by
            intro h
            unfold largeB
            rw [List.any_eq_true]
            exact ⟨f, hmem, by rw [hn]; exact h⟩
          have hlgk : ¬ 9999 < n → largeB (fs.take (k + 1)) = false := by
            intro h
            unfold largeB at hlg ⊢
            rw [htk, List.any_append, hlg]
            simp [hn, h]
          obtain ⟨T, hT⟩ : ∃ T, fieldsN (fs.take k) = T := ⟨_, rfl⟩
          rw [hT] at hsn hfle ⊢
          have hTb : 26 + 12 * k + T + (12 + n) ≤ 1099511627776 := by omega
          have Hsn := Lib.hid hsn
          have Hb := Lib.hid hb
          have Hbw := Lib.hid hbw
          have Hlgf := Lib.hid hlgf
          have Hlgk := Lib.hid hlgk
          clear hbw hsub hsn hle2 htk hmem hfe hB hn hlg hT hb hbl hlgf hlgk hbl2
          by_cases hbig : 9999 < n
          · have hCe : C = 2 := by rw [Hck.out, Hlgf.out (decide_eq_true hbig)]; simp
            have HCe := Lib.hid hCe
            clear hCe
            go_wp2_with fail
            refine M.out.mono ?_
            rintro e w7 ⟨rfl, hb7⟩
            have Hb7 := Lib.hid (Hbw.out.trans (hb7.mono Hbw.out.size))
            clear hb7 c0 c1 c2 c3 g2w
            go_wp2
            go_ret
            exact ⟨by rw [HCe.out]; rfl, Hb7.out⟩
          · go_wp2_with fail
            refine M.out.mono ?_
            rintro e w7 ⟨rfl, hb7⟩
            have Hb7 := Lib.hid (Hb.out.trans (hb7.mono Hb.out.size))
            clear hb7 c0 c1 c2 c3 g2w
            go_wp2
            go_roundw
            case rel => exact ⟨k + 1, by omega, by go_num, by rw [Hsn.out]; go_num, Hlgk.out hbig, Hb7.out⟩
            case measure => simp [intOf]; omega
        · have hkl : k = fs.length := by omega
          subst hkl
          rw [List.take_length] at hlg ⊢
          have hck := Hck.out
          rw [hlg] at hck
          have Hfin := Lib.hid (Hb3.out.trans ((Hbr.out.trans (hb.mono Hbr.out.size)).mono Hb3.out.size))
          obtain ⟨T, hT⟩ : ∃ T, fieldsN fs = T := ⟨_, rfl⟩
          rw [hT] at hck hs ⊢
          have hd2 : decide (fs.length < fs.length) = false := by simp
          clear hlg hb hT hfle
          by_cases hmany : 999 < fs.length
          · have hCe : C = 2 := by rw [hck, decide_eq_true hmany]; rfl
            have HCe := Lib.hid hCe
            clear hCe hck
            go_wp2
            go_ret
            exact ⟨by rw [HCe.out]; rfl, Hfin.out⟩
          · by_cases hbig : 99999 < 26 + 12 * fs.length + T
            · have hbig' : (99999 : Int) < 26 + 12 * (fs.length : Int) + (T : Int) := by omega
              have hCe : C = 2 := by rw [hck, decide_eq_true hbig]; simp
              have HCe := Lib.hid hCe
              clear hCe hck
              go_wp2
              go_ret
              exact ⟨by rw [HCe.out]; rfl, Hfin.out⟩
            · have hbig' : ¬ (99999 : Int) < 26 + 12 * (fs.length : Int) + (T : Int) := by omega
              have hCe : C = 0 := by rw [hck, decide_eq_false hbig, decide_eq_false hmany]; rfl
              have HCe := Lib.hid hCe
              clear hCe hck
              go_wp2
              go_ret
              exact ⟨by rw [HCe.out]; rfl, Hfin.out⟩
set_option maxRecDepth 100000 in
theorem rRightR_c (v : Value) (r : RecM) (w : World) (hv : RecV w v r) (hs : sizeR r ≤ 1099511627776) (ht : ∀ f ∈ r.fields, f.tag.length ≤ 1099511627776) :
    Calls Tryd.prog 19 #[v] w fun e w' => e = .returned (.bool (checkM r == 0)) ∧ Below w.heap.size w w' := by
  obtain ⟨fv, rfl, hf⟩ := hv
  obtain ⟨a, cap, rfl, -, -⟩ := hf.slice
  obtain ⟨W3, hW3⟩ : ∃ W3, w.alloc (.cells #[.int .u8 (r.kind.toNat : Int), .int .u8 (r.level.toNat : Int), .slice a r.fields.length cap] 27) = W3 := ⟨_, rfl⟩
  have hb3 : Below w.heap.size w W3 := by rw [← hW3]; exact below_new w _
  have hn3 := new_at w (.cells #[.int .u8 (r.kind.toNat : Int), .int .u8 (r.level.toNat : Int), .slice a r.fields.length cap] 27)
  rw [hW3] at hn3
  have g0 : W3.cell? ⟨w.heap.size, 0, none⟩ = some (.int .u8 (r.kind.toNat : Int)) := by rw [cell_at hn3]; rfl
  have g1 : W3.cell? ⟨w.heap.size, 1, none⟩ = some (.int .u8 (r.level.toNat : Int)) := by rw [cell_at hn3]; rfl
  have g2 : W3.cell? ⟨w.heap.size, 2, none⟩ = some (.slice a r.fields.length cap) := by rw [cell_at hn3]; rfl
  have M := rWrong_c _ r W3 ⟨_, rfl, hf.below hb3 (Nat.le_refl _)⟩ hs ht
  unfold RFPost at M
  have M := Lib.hid M
  have Hb3 := Lib.hid hb3
  have hq : (checkM r == 0) = ((checkM r : Int) == 0) := by rw [Bool.eq_iff_iff, beq_iff_eq, beq_iff_eq]; omega
  rw [hq]
  obtain ⟨n, hn⟩ : ∃ n, checkM r = n := ⟨_, rfl⟩
  rw [hn] at M ⊢
  clear hb3 hn3 hf hs ht hn hq
  go_enter Tryd.func19, Tryd.ntmps19
  go_wp2_with fail
  refine M.out.mono ?_
  rintro e w7 ⟨rfl, hb7⟩
  have Hb7 := Lib.hid (Hb3.out.trans (hb7.mono Hb3.out.size))
  clear hb7
  go_wp2
  go_ret
  exact ⟨rfl, Hb7.out⟩
end Go.Proofs.YtpfnmjcomdckgaaDoor
