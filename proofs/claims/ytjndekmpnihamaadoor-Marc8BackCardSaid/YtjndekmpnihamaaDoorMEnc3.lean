/-
  The encoder's letters.
-/
import Derived.Test.YtjndekmpnihamaaDoorMEnc2
import Derived.LoopTactic
namespace Go.Proofs.YtjndekmpnihamaaDoor
open Go.RowKit Go.Shelf
set_option linter.unusedVariables false

def LetPost (K : EK) (s : EM) (c : Int) (w : World) (e : Ending) (w' : World) : Prop := match letterM s c with
  | some s' => Left K s' w (.bool true) e w'
  | none => Left K (releaseM s) w (.bool false) e w'
theorem releaseM_len (s : EM) : (releaseM s).out.length ≤ s.out.length + 1 ∧ (releaseM s).cur = s.cur := by unfold releaseM; split <;> simp
theorem setHeldB {K : EK} {s : EM} {w : World} (h : ESt K s w) {b : Int} (r : 0 ≤ b ∧ b < 256) : ESt K (hold s b) (w.setCell ⟨K.b, 2, none⟩ (.int .u8 b)) ∧ EB K w (w.setCell ⟨K.b, 2, none⟩ (.int .u8 b)) := by
  have := h.setHeld (codeB b)
  rw [codeB_val r.1 r.2] at this
  exact this
def nameAt (i : Nat) : UInt8 := [66, 83, 78].getD i 0
theorem nameAt_is {i : Nat} (h : i < 3) : isName ((nameAt i).toNat : Int) := by
  have : i = 0 ∨ i = 1 ∨ i = 2 := by omega
  rcases this with rfl | rfl | rfl
  · exact .inl rfl
  · exact .inr (.inl rfl)
  · exact .inr (.inr rfl)
theorem nameAt_get {i : Nat} (h : i < (ByteArray.mk #[66, 83, 78]).size) : (ByteArray.mk #[66, 83, 78])[i] = nameAt i := by
  have h3 : i < 3 := h
  have : i = 0 ∨ i = 1 ∨ i = 2 := by omega
  rcases this with rfl | rfl | rfl <;> rfl
theorem nameAt_drop {i : Nat} (h : i < 3) : ([66, 83, 78] : List UInt8).drop i = nameAt i :: ([66, 83, 78] : List UInt8).drop (i + 1) := by
  have : i = 0 ∨ i = 1 ∨ i = 2 := by omega
  rcases this with rfl | rfl | rfl <;> rfl

set_option maxRecDepth 100000 in
set_option maxHeartbeats 2000000 in
theorem letter_e (K : EK) (s : EM) (c : Int) (hc : wfC c) (w : World) (h : ESt K s w) (hlen : s.out.length + 8 ≤ 140737488355328) :
    Calls Tryd.prog 44 #[.pointer (some ⟨K.b, 0, none⟩), .int .i32 c] w (LetPost K s c w) := by
  have N1 := Lib.hid (release_c K s w h (by omega))
  have hrl := (releaseM_len s).1
  obtain ⟨s1, hs1⟩ : ∃ s1, releaseM s = s1 := ⟨_, rfl⟩
  rw [hs1] at N1 hrl
  cases hch : charC c with
  | some b =>
    have hm : letterM s c = some (hold s1 b) := by unfold letterM letterR; rw [hs1, hch]
    have Hm := Lib.hid hm
    have hr := charC_range hch
    have Hch := Lib.hid hch
    clear hm hch h
    go_enter Tryd.func44, Tryd.ntmps44
    go_wp2_with fail
    refine N1.out.mono ?_
    rintro e w1 ⟨rfl, h1, hb1⟩
    obtain ⟨_, _, _, c5, _⟩ := h1.cells
    have hl := lookC_some h1.chars hc Hch.out
    have hfz := h1.frozen 2
    have H1 := Lib.hid h1
    have Hb1 := Lib.hid hb1
    clear h1 hb1
    go_wp2_with fail
    go_ret
    unfold LetPost
    rw [Hm.out]
    obtain ⟨x1, x2⟩ := setHeldB H1.out hr
    exact ⟨rfl, x1, Hb1.out.trans x2⟩
  | none =>
    have Hch := Lib.hid hch
    cases hsc : setC s1.cur c with
    | some b =>
      have hm : letterM s c = some (hold s1 b) := by unfold letterM letterR; rw [hs1, hch]; simp only [hsc]
      have Hm := Lib.hid hm
      have hr := setC_range hsc
      have Hsc := Lib.hid hsc
      clear hm hch h hsc
      go_enter Tryd.func44, Tryd.ntmps44
      go_wp2_with fail
      refine N1.out.mono ?_
      rintro e w1 ⟨rfl, h1, hb1⟩
      obtain ⟨_, c3, _, c5, _⟩ := h1.cells
      have hl := lookC_none h1.chars hc Hch.out
      have N2 := Lib.hid (named_c K s1 s1.cur h1.name w1 h1)
      have Hb1 := Lib.hid hb1
      clear h1 hb1
      go_wp2_with fail
      refine N2.out.mono ?_
      rintro e w2 ⟨m, rfl, h2, hcd, hb2⟩
      have hl2 := lookC_some hcd hc Hsc.out
      have hfz := h2.frozen 2
      have d2 := h2.cells.1
      have H2 := Lib.hid h2
      have Hb2 := Lib.hid hb2
      clear h2 hb2 hcd N2
      go_wp2_with fail
      go_ret
      unfold LetPost
      rw [Hm.out]
      obtain ⟨x1, x2⟩ := setHeldB H2.out hr
      exact ⟨rfl, x1, (Hb1.out.trans Hb2.out).trans x2⟩
    | none =>
      have hm : letterM s c = namesM s1 c (([66, 83, 78] : List UInt8).drop 0) := by unfold letterM letterR; rw [hs1, hch]; simp only [hsc]; rfl
      have Hm := Lib.hid hm
      have Hsc := Lib.hid hsc
      have Hs1 := Lib.hid hs1
      clear hm hch h hsc hs1
      go_enter Tryd.func44, Tryd.ntmps44
      go_wp2_with fail
      refine N1.out.mono ?_
      rintro e w1 ⟨rfl, h1, hb1⟩
      obtain ⟨_, c3, _, c5, _⟩ := h1.cells
      have hl := lookC_none h1.chars hc Hch.out
      have N2 := Lib.hid (named_c K s1 s1.cur h1.name w1 h1)
      have Hb1 := Lib.hid hb1
      clear h1 hb1
      go_wp2_with fail
      refine N2.out.mono ?_
      rintro e w2 ⟨m, rfl, h2, hcd, hb2⟩
      have hl2 := lookC_none hcd hc Hsc.out
      have H2 := Lib.hid h2
      have Hb2 := Lib.hid (Hb1.out.trans hb2)
      clear h2 hb2 hcd N2
      go_wp2_with fail
      go_loopw [44] (fun iv wr => ∃ i : Nat, i ≤ 3 ∧ iv = .int .i64 i ∧ ESt K s1 wr ∧ EB K w wr ∧ letterM s c = namesM s1 c (([66, 83, 78] : List UInt8).drop i)) (fun iv _ => 3 - (intOf iv).toNat)
      case atStart => exact ⟨0, by omega, rfl, H2.out, Hb2.out, Hm.out⟩
      case round =>
        obtain ⟨i, hi, rfl, h3, hb3, hm3⟩ := hrel
        have Hb3 := Lib.hid hb3
        have Hm3 := Lib.hid hm3
        clear hb3 hm3 hl hl2 c3 c5
        by_cases hi3 : i < 3
        · have hget := nameAt_get (i := i) (show i < 3 from hi3)
          have hnm := nameAt_is hi3
          have Hnm := Lib.hid hnm
          have N3 := Lib.hid (named_c K s1 (nameAt i) hnm wr h3)
          have hdr := nameAt_drop hi3
          have i0 : (0 : Int) ≤ (i : Int) := by omega
          have i1 : (i : Int) < 3 := by omega
          cases hsn : setC (nameAt i) c with
          | some b =>
            have hmm : letterM s c = some (hold (chooseM s1 (nameAt i)) b) := by rw [Hm3.out, hdr]; unfold namesM; rw [hsn]
            have Hmm := Lib.hid hmm
            have Hsn := Lib.hid hsn
            have hr := setC_range hsn
            have Hdr := Lib.hid hdr
            clear hmm hsn hnm h3 hdr
            go_wp2_with fail
            refine N3.out.mono ?_
            rintro e w4 ⟨m4, rfl, h4, hcd4, hb4⟩
            have hl4 := lookC_some hcd4 hc Hsn.out
            have N4 := Lib.hid (echoose_c K s1 (nameAt i) Hnm.out w4 h4 (by omega))
            have Hb4 := Lib.hid (Hb3.out.trans hb4)
            clear h4 hb4 hcd4 N3
            go_wp2_with fail
            refine N4.out.mono ?_
            rintro e w5 ⟨rfl, h5, hb5⟩
            have hfz := h5.frozen 2
            have d2 := h5.cells.1
            have H5 := Lib.hid h5
            have Hb5 := Lib.hid (Hb4.out.trans hb5)
            clear h5 hb5 N4
            go_wp2_with fail
            go_ret
            unfold LetPost
            rw [Hmm.out]
            obtain ⟨x1, x2⟩ := setHeldB H5.out hr
            exact ⟨rfl, x1, Hb5.out.trans x2⟩
          | none =>
            have hmm : letterM s c = namesM s1 c (([66, 83, 78] : List UInt8).drop (i + 1)) := by rw [Hm3.out, hdr]; conv => lhs; unfold namesM; rw [hsn]
            have Hmm := Lib.hid hmm
            have Hsn := Lib.hid hsn
            clear hmm hsn hnm h3 hdr
            go_wp2_with fail
            refine N3.out.mono ?_
            rintro e w4 ⟨m4, rfl, h4, hcd4, hb4⟩
            have hl4 := lookC_none hcd4 hc Hsn.out
            have H4 := Lib.hid h4
            have Hb4 := Lib.hid (Hb3.out.trans hb4)
            clear h4 hb4 hcd4 N3
            go_wp2_with fail
            go_roundw
            case rel => exact ⟨i + 1, by omega, by go_num, H4.out, Hb4.out, Hmm.out⟩
            case measure => simp [intOf]; omega
        · have hmm : letterM s c = none := by rw [Hm3.out, List.drop_eq_nil_of_le (by simp; omega)]; rfl
          have Hmm := Lib.hid hmm
          have H3 := Lib.hid h3
          have i1 : (3 : Int) ≤ (i : Int) := by omega
          clear hmm h3 hi3
          go_wp2_with fail
          go_ret
          unfold LetPost
          rw [Hmm.out]
          exact ⟨rfl, by rw [Hs1.out]; exact H3.out, Hb3.out⟩
end Go.Proofs.YtjndekmpnihamaaDoor
