/-
  The field reader's skip and take.
-/
import Derived.Test.YtpfnmjcomdckgaaDoorRFld
import Derived.BigQuiet
import Derived.Deep.QuietTactic
namespace Go.Proofs.YtpfnmjcomdckgaaDoor
open Go.RowKit Go.Shelf
set_option linter.unusedVariables false
set_option linter.unusedSimpArgs false

/-- What a step of the reader comes to: its error, or a value and how many bytes were read. -/
def MPost (b : Nat) (bs : List UInt8) (off : Nat) (x : PR (Value × Nat)) (w : World) (e : Ending) (w' : World) : Prop := match x with
  | .bad p k => e = pan p k ∧ w.grownBy w' (some b)
  | .ok y => e = .returned y.1 ∧ FR b bs off y.2 w' ∧ w.grownBy w' (some b)
theorem FR.below {b : Nat} {bs : List UInt8} {off a : Nat} {w w' : World} (h : FR b bs off a w) (hb : Below w.heap.size w w') : FR b bs off a w' := heap_below hb h
def skipM (bs : List UInt8) (off a : Nat) (c : UInt8) : PR (Value × Nat) := if seesB bs a c then .ok (.tuple #[], a + 1) else .bad (failAt bs off a) 14
set_option maxRecDepth 100000 in
set_option maxHeartbeats 1000000 in
theorem skip_c (b : Nat) (bs : List UInt8) (off a : Nat) (c : UInt8) (w : World) (h : FR b bs off a w) (h1 : 1 ≤ bs.length) (hl : bs.length ≤ 1099511627776) (ho : off ≤ 1099511627776) (ha : a ≤ bs.length) :
    Calls Tryd.prog 96 #[.pointer (some ⟨b, 0, none⟩), .int .u8 (c.toNat : Int)] w (MPost b bs off (skipM bs off a c) w) := by
  have N := Lib.hid (sees_c b bs off a c w h)
  have F := Lib.hid (fun W hW => failM_c b bs off a W hW h1 hl ho)
  have H := Lib.hid h
  unfold skipM
  cases hs : seesB bs a c with
  | false =>
    rw [hs] at N
    rw [if_neg (by decide)]
    unfold MPost
    clear h hs
    go_enter Tryd.func96, Tryd.ntmps96
    go_wp2_with fail
    refine N.out.mono ?_
    rintro e w1 ⟨rfl, hb1⟩
    have Hb1 := Lib.hid hb1
    have F1 := Lib.hid (F.out w1 (H.out.below hb1))
    clear hb1
    go_wp2_with fail
    refine F1.out.mono ?_
    rintro e w2 ⟨rfl, hb2⟩
    go_wp2_with fail
    exact ⟨rfl, rfl, grown_below (below_tr Hb1.out hb2)⟩
  | true =>
    rw [hs] at N
    rw [if_pos rfl]
    unfold MPost
    clear h hs
    go_enter Tryd.func96, Tryd.ntmps96
    go_wp2_with fail
    refine N.out.mono ?_
    rintro e w1 ⟨rfl, hb1⟩
    have h1' := H.out.below hb1
    have c2 := h1'.c2
    have f2 := h1'.f2
    have H1 := Lib.hid (h1'.set (a + 1))
    have G1 := Lib.hid (grown_tr (grown_below (r := some b) hb1) (grown_set w1 b 2 (.int .i64 (a + 1 : Nat))))
    clear hb1 h1'
    go_wp2
    go_end0
    exact ⟨rfl, by have := H1.out; push_cast at this; exact this, by have := G1.out; push_cast at this; exact this⟩

def takeM (p : UInt8 → Bool) (bs : List UInt8) (off a : Nat) : PR (Value × Nat) := if decide (a < bs.length) && p (bs.getD a 0) then .ok (.int .u8 ((bs.getD a 0).toNat : Int), a + 1) else .bad (failAt bs off a) 14
set_option maxRecDepth 100000 in
set_option maxHeartbeats 1000000 in
theorem take_c (fid : FuncId) (p : UInt8 → Bool) (he : ∀ args w, (callFunc fid args).run Tryd.prog w = .ok (.enter fid args) w) (hp : ∀ (c : UInt8) (W : World), Calls Tryd.prog fid #[.int .u8 (c.toNat : Int)] W fun e w' => e = .returned (.bool (p c)) ∧ w' = W)
    (b : Nat) (bs : List UInt8) (off a : Nat) (w : World) (h : FR b bs off a w) (h1 : 1 ≤ bs.length) (hl : bs.length ≤ 1099511627776) (ho : off ≤ 1099511627776) (ha : a ≤ bs.length) :
    Calls Tryd.prog 100 #[.pointer (some ⟨b, 0, none⟩), .func (.func fid) #[] #[]] w (MPost b bs off (takeM p bs off a) w) := by
  have F := Lib.hid (fun W hW => failM_c b bs off a W hW h1 hl ho)
  have H := Lib.hid h
  have c0 := h.c0
  have c2 := h.c2
  have f2 := h.f2
  have hsz := size_str bs
  unfold takeM
  by_cases hlt : a < bs.length
  · have i0 : (0 : Int) ≤ (a : Int) := by omega
    have i1 : (a : Int) < (bs.length : Int) := by omega
    have iE : ((a : Int) == (bs.length : Int)) = false := by rw [beq_eq_false_iff_ne]; omega
    have iN : ¬ ((a : Int) = (bs.length : Int)) := by omega
    have hg : ∀ h, (ByteArray.mk bs.toArray)[a]'h = bs.getD a 0 := fun h => by rw [getD_at bs a hlt]; rfl
    rw [decide_eq_true hlt, Bool.true_and]
    obtain ⟨x, hx⟩ : ∃ x, bs.getD a 0 = x := ⟨_, rfl⟩
    rw [hx] at hg ⊢
    have N := fun W => hp x W
    cases hpx : p x with
    | false =>
      rw [hpx] at N
      have N := Lib.hid N
      rw [if_neg (by decide)]
      unfold MPost
      clear h hpx hx
      go_enter Tryd.func100, Tryd.ntmps100
      go_wp2_with fail
      go_quiet (exact Calls.quiet_of_same (N.out _))
      have F1 := Lib.hid (F.out (w.drewN nq) H.out)
      go_wp2_with fail
      refine F1.out.mono ?_
      rintro e w2 ⟨rfl, hb2⟩
      go_wp2_with fail
      exact ⟨rfl, rfl, grown_below ((below_dr (Below.refl _ _) _).trans hb2)⟩
    | true =>
      rw [hpx] at N
      have N := Lib.hid N
      rw [if_pos rfl]
      unfold MPost
      clear h hpx
      have H1 := Lib.hid (H.out.set (a + 1))
      have G1 := Lib.hid (grown_set w b 2 (.int .i64 (a + 1 : Nat)))
      go_enter Tryd.func100, Tryd.ntmps100
      go_wp2_with fail
      go_quiet (exact Calls.quiet_of_same (N.out _))
      have c2' : (w.drewN nq).cell? ⟨b, 2, none⟩ = some (.int .i64 a) := c2
      have f2' : (w.drewN nq).frozen? ⟨b, 2, none⟩ = false := f2
      have hF : FR b bs off (a + 1) ((w.drewN nq).setCell ⟨b, 2, none⟩ (.int .i64 (a + 1 : Nat))) := FR.set (w := w.drewN nq) H.out (a + 1)
      have hG : w.grownBy ((w.drewN nq).setCell ⟨b, 2, none⟩ (.int .i64 (a + 1 : Nat))) (some b) := grown_tr (grown_below (below_dr (Below.refl _ _) _)) (grown_set (w.drewN nq) b 2 (.int .i64 (a + 1 : Nat)))
      push_cast at hF hG
      obtain ⟨W5, hW5⟩ : ∃ W5, (w.drewN nq).setCell ⟨b, 2, none⟩ (.int .i64 ((a : Int) + 1)) = W5 := ⟨_, rfl⟩
      rw [hW5] at hF hG
      have e0 := hF.c0
      have e2 := hF.c2
      push_cast at e2
      have HF := Lib.hid hF
      have HG := Lib.hid hG
      clear hF hG
      go_wp2_with fail
      have w1 := wrapI ((a : Int) + 1 - 1) (by omega) (by omega)
      have w2 := wrapI (a : Int) (by omega) (by omega)
      have w3 : (a : Int) + 1 - 1 = (a : Int) := by omega
      go_quiet (fail)
      go_wp2
      go_ret
      exact ⟨rfl, HF.out, grown_tr HG.out (grown_below (below_dr (Below.refl _ _) _))⟩
  · have iE : ((a : Int) == (bs.length : Int)) = true := by rw [beq_iff_eq]; omega
    have iN : (a : Int) = (bs.length : Int) := by omega
    rw [decide_eq_false hlt, Bool.false_and, if_neg (by decide)]
    unfold MPost
    have F1 := Lib.hid (F.out w h)
    clear h
    go_enter Tryd.func100, Tryd.ntmps100
    go_wp2_with fail
    go_quiet (fail)
    have F1 := Lib.hid (F.out (w.drewN nq) H.out)
    go_wp2_with fail
    refine F1.out.mono ?_
    rintro e w2 ⟨rfl, hb2⟩
    go_wp2_with fail
    exact ⟨rfl, rfl, grown_below ((below_dr (Below.refl _ _) _).trans hb2)⟩
end Go.Proofs.YtpfnmjcomdckgaaDoor
