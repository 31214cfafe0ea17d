/-
  The decoder's escapes.
-/
import Derived.Test.YtjndekmpnihamaaDoorMDec
namespace Go.Proofs.YtjndekmpnihamaaDoor
open Go.RowKit Go.Shelf
set_option linter.unusedVariables false

theorem ext_drop (l : List UInt8) (k : Nat) : (ByteArray.mk l.toArray).extract k l.length = ⟨(l.drop k).toArray⟩ := by
  apply ByteArray.ext
  rw [ByteArray.data_extract]
  apply Array.toList_inj.1
  rw [Array.toList_extract, List.extract_eq_take_drop]
  simp
  exact List.take_of_length_le (by simp)
theorem hasPrefix_c (s p : ByteArray) (w : World) :
    Calls Tryd.prog 55 #[.string s, .string p] w fun e w' => e = .returned (.bool (Lib.hasPrefix s.data.toList p.data.toList)) ∧ w = w' :=
  (hasPrefix s p w).mono fun _ _ ⟨h1, h2⟩ => ⟨h1, h2.symm⟩

def StepPost (K : DK) (at' : Nat) (out : List UInt8) (w : World) (s : Step) (e : Ending) (w' : World) : Prop := match s with
  | .bad a k => e = pan a k ∧ Below K.B w w'
  | .ok cur n o => e = .returned (.tuple #[]) ∧ (∃ cv, DSt K (at' + n) (out ++ o) cv w' ∧ DCur K cur cv w') ∧ Below K.B w w'

theorem below_drewN (B : Nat) (w : World) (n : Nat) : Below B w (w.drewN n) := ⟨rfl, rfl, rfl, Nat.le_refl _, fun _ _ => rfl⟩
theorem DSt.drewN {K : DK} {at' : Nat} {out : List UInt8} {cv : Value} {w : World} (h : DSt K at' out cv w) (n : Nat) : DSt K at' out cv (w.drewN n) := h.below (below_drewN _ _ n)
theorem DCur.drewN {K : DK} {cur : Int} {cv : Value} {w : World} (h : DCur K cur cv w) (n : Nat) : DCur K cur cv (w.drewN n) := h.mk' (fun _ _ _ h => h)

set_option maxRecDepth 100000 in
set_option maxHeartbeats 1000000 in
theorem escape_c (K : DK) (at' : Nat) (out : List UInt8) (cv : Value) (cur : Int) (w : World) (h : DSt K at' out cv w) (hc : DCur K cur cv w) (hat : at' < K.text.length) (ht : K.text.length ≤ 1099511627776) :
    Calls Tryd.prog 49 #[.pointer (some ⟨K.b, 0, none⟩)] w (StepPost K at' out w (escD at' (K.text.drop at'))) := by
  obtain ⟨c0, c1, _, _, _, _⟩ := h.cells
  have hsz := size_str K.text
  have hex := ext_drop K.text at'
  have hp1 := hasPrefix_c ⟨#[27, 40]⟩ ⟨(K.text.drop at').toArray⟩
  have hp2 := hasPrefix_c ⟨(K.text.drop at').toArray⟩ ⟨#[27, 40]⟩
  obtain ⟨r, hr⟩ : ∃ r, K.text.drop at' = r := ⟨_, rfl⟩
  rw [hr] at hex hp1 hp2 ⊢
  have hb := h.base
  have H := Lib.hid h
  have Hr := Lib.hid hr
  have i0 : (0 : Int) ≤ (at' : Int) := by omega
  have i1 : (at' : Int) < (K.text.length : Int) := by omega
  have i2 : (at' : Int) ≤ (K.text.length : Int) := by omega
  obtain ⟨b1, hb1⟩ : ∃ b1, Lib.hasPrefix [27, 40] r = b1 := ⟨_, rfl⟩
  obtain ⟨b2, hb2⟩ : ∃ b2, Lib.hasPrefix r [27, 40] = b2 := ⟨_, rfl⟩
  simp only [hb1, hb2] at hp1 hp2
  have P1 := Lib.hid hp1
  have P2 := Lib.hid hp2
  have Hc := Lib.hid hc
  clear h hr hp1 hp2 hc
  cases b1 with
  | true =>
    have hs : escD at' r = .bad at' 10 := by unfold escD; rw [if_pos hb1]
    rw [hs]
    clear hb1 hb2 hs
    go_enter Tryd.func49, Tryd.ntmps49
    go_wp2
    go_quiet (fail)
    go_wp2_with fail
    refine (P1.out _).mono ?_
    rintro e w' ⟨rfl, rfl⟩
    go_wp2_with fail
    refine (fail_c _ _ _).mono ?_
    rintro e w' ⟨rfl, rfl⟩
    go_wp2
    exact ⟨rfl, rfl, below_drewN _ _ _⟩
  | false =>
    have hs0 : ¬ Lib.hasPrefix [27, 40] r = true := by rw [hb1]; simp
    cases b2 with
    | false =>
      have hs : escD at' r = .bad at' 15 := by
        unfold escD
        rw [if_neg hs0]
        split
        · simp [Lib.hasPrefix] at hb2
        · rfl
      rw [hs]
      clear hb1 hb2 hs hs0
      go_enter Tryd.func49, Tryd.ntmps49
      go_wp2
      go_quiet (fail)
      go_wp2_with fail
      refine (P1.out _).mono ?_
      rintro e w' ⟨rfl, rfl⟩
      go_wp2_with fail
      refine (P2.out _).mono ?_
      rintro e w' ⟨rfl, rfl⟩
      go_wp2_with fail
      refine (fail_c _ _ _).mono ?_
      rintro e w' ⟨rfl, rfl⟩
      go_wp2
      exact ⟨rfl, rfl, below_drewN _ _ _⟩
    | true =>
      obtain ⟨nm, t, rfl⟩ : ∃ nm t, r = 27 :: 40 :: nm :: t := by
        match r, hb1, hb2 with
        | [], _, h => simp [Lib.hasPrefix] at h
        | [_], _, h => simp [Lib.hasPrefix] at h
        | [a, b], h1, h => simp [Lib.hasPrefix] at h; obtain ⟨rfl, rfl⟩ := h; simp [Lib.hasPrefix] at h1
        | a :: b :: nm :: t, _, h => simp [Lib.hasPrefix] at h; obtain ⟨rfl, rfl⟩ := h; exact ⟨nm, t, rfl⟩
      have hl : K.text.length - at' = t.length + 3 := by
        have := congrArg List.length Hr.out
        simpa using this
      have hsz3 := size_str (27 :: 40 :: nm :: t)
      have i3 : 2 < (ByteArray.mk (27 :: 40 :: nm :: t).toArray).size := by rw [hsz3]; simp
      by_cases hn : isName (nm.toNat : Int)
      · have hs : escD at' (27 :: 40 :: nm :: t) = .ok (nm.toNat : Int) 3 [] := by
          unfold escD
          rw [if_neg hs0]
          have : isNameB (nm.toNat : Int) = true := by unfold isName at hn; unfold isNameB; simpa [or_assoc] using hn
          simp [this]
        rw [hs]
        clear hb1 hb2 hs hs0
        go_enter Tryd.func49, Tryd.ntmps49
        go_wp2
        go_quiet (fail)
        go_wp2_with fail
        refine (P1.out _).mono ?_
        rintro e w' ⟨rfl, rfl⟩
        go_wp2_with fail
        refine (P2.out _).mono ?_
        rintro e w' ⟨rfl, rfl⟩
        go_wp2_with fail
        rw [show (ByteArray.mk (27 :: 40 :: nm :: t).toArray)[2]'i3 = nm from rfl]
        refine (choose_yes K at' out cv _ _ (H.out.drewN _) hn).mono ?_
        rintro e w2 ⟨rfl, hch⟩
        obtain ⟨cv2, h2, hc2⟩ := hch.ex
        have Hbel := Lib.hid ((below_drewN K.B w nq).trans hch.below)
        obtain ⟨_, d1, _, _, _, _⟩ := h2.cells
        have hfz := h2.frozen 1
        have H2 := Lib.hid h2
        have Hc2 := Lib.hid hc2
        clear hch h2 hc2 c0 c1 hex hsz3 i3 P1 P2
        go_wp2
        go_end0
        obtain ⟨x1, x2, x3⟩ := H2.out.setAt (a2 := at' + 3)
        exact ⟨rfl, ⟨cv2, by rw [List.append_nil]; exact x1, Hc2.out.mk' x2⟩, Hbel.out.trans x3⟩
      · have hs : escD at' (27 :: 40 :: nm :: t) = .bad at' 15 := by
          unfold escD
          rw [if_neg hs0]
          have : isNameB (nm.toNat : Int) = false := by
            cases hb : isNameB (nm.toNat : Int) with
            | false => rfl
            | true => exact absurd (by unfold isNameB at hb; unfold isName; simpa [or_assoc] using hb) hn
          simp [this]
        rw [hs]
        clear hb1 hb2 hs hs0
        go_enter Tryd.func49, Tryd.ntmps49
        go_wp2
        go_quiet (fail)
        go_wp2_with fail
        refine (P1.out _).mono ?_
        rintro e w' ⟨rfl, rfl⟩
        go_wp2_with fail
        refine (P2.out _).mono ?_
        rintro e w' ⟨rfl, rfl⟩
        go_wp2_with fail
        rw [show (ByteArray.mk (27 :: 40 :: nm :: t).toArray)[2]'i3 = nm from rfl]
        refine (choose_no K at' out cv _ _ (H.out.drewN _) hn).mono ?_
        rintro e w2 ⟨rfl, hb2⟩
        have h2 := (H.out.drewN nq).below hb2
        obtain ⟨_, d1, _, _, _, _⟩ := h2.cells
        have Hbel := Lib.hid ((below_drewN K.B w nq).trans (hb2.mono (by have := hb.2; have := hb.1; show K.B ≤ w.heap.size; omega)))
        clear hb2 h2 c0 c1 hex hsz3 i3 P1 P2
        go_wp2_with fail
        refine (fail_c _ _ _).mono ?_
        rintro e w' ⟨rfl, rfl⟩
        go_wp2
        exact ⟨rfl, rfl, Hbel.out⟩
end Go.Proofs.YtjndekmpnihamaaDoor
