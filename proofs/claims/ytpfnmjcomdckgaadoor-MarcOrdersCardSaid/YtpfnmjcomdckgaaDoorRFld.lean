/-
  The field reader's fail, sees, skip, take. The field reader's skip and take. The field reader's text and indicators; lengthOfBeginning. The field reader's indicators.
-/
import Derived.Test.YtpfnmjcomdckgaaDoorRPDir
import Derived.Test.YtpfnmjcomdckgaaDoorRFull
import Derived.BigRegion
import Derived.BigQuiet
import Derived.Deep.QuietTactic
import Derived.Deep.RegionWith
import Derived.Test.YtpfnmjcomdckgaaDoorRCheck
namespace Go.Proofs.YtpfnmjcomdckgaaDoor
open Go.RowKit Go.Shelf
set_option linter.unusedVariables false
set_option linter.unusedSimpArgs false

/-- The reader at b: its bytes, where they begin in the record, how many were read. -/
def FR (b : Nat) (bs : List UInt8) (off a : Nat) (w : World) : Prop := w.heap[b]? = some (.cells #[str bs, .int .i64 off, .int .i64 a] 121 (0, 0))
theorem FR.c0 {b : Nat} {bs : List UInt8} {off a : Nat} {w : World} (h : FR b bs off a w) : w.cell? ⟨b, 0, none⟩ = some (str bs) := by rw [cell_at h]; rfl
theorem FR.c1 {b : Nat} {bs : List UInt8} {off a : Nat} {w : World} (h : FR b bs off a w) : w.cell? ⟨b, 1, none⟩ = some (.int .i64 off) := by rw [cell_at h]; rfl
theorem FR.c2 {b : Nat} {bs : List UInt8} {off a : Nat} {w : World} (h : FR b bs off a w) : w.cell? ⟨b, 2, none⟩ = some (.int .i64 a) := by rw [cell_at h]; rfl
theorem FR.f2 {b : Nat} {bs : List UInt8} {off a : Nat} {w : World} (h : FR b bs off a w) : w.frozen? ⟨b, 2, none⟩ = false := Lib.frozen_of_heap h 2
theorem FR.set {b : Nat} {bs : List UInt8} {off a : Nat} {w : World} (h : FR b bs off a w) (a' : Nat) : FR b bs off a' (w.setCell ⟨b, 2, none⟩ (.int .i64 a')) := by
  unfold FR at h ⊢
  simp [World.setCell, Array.getElem?_modify, h]
theorem grown_set (w : World) (b o : Nat) (v : Value) : w.grownBy (w.setCell ⟨b, o, none⟩ v) (some b) :=
  ⟨rfl, rfl, rfl, by simp [World.setCell], fun k _ hk => Below.heap_setCell _ _ _ _ (fun e => hk (by rw [e]))⟩
theorem grown_refl (w : World) (r : Option Nat) : w.grownBy w r := ⟨rfl, rfl, rfl, Nat.le_refl _, fun _ _ _ => rfl⟩
theorem grown_tr {a b c : World} {r : Option Nat} (h : a.grownBy b r) (k : b.grownBy c r) : a.grownBy c r :=
  ⟨k.os.trans h.os, k.tape.trans h.tape, k.output.trans h.output, Nat.le_trans h.size k.size, fun i hi hr => (k.block i (Nat.lt_of_lt_of_le hi h.size) hr).trans (h.block i hi hr)⟩
theorem grown_below {a b : World} {r : Option Nat} (h : Below a.heap.size a b) : a.grownBy b r := ⟨h.os, h.tape, h.output, h.size, fun i hi _ => h.block i hi⟩
set_option maxRecDepth 100000 in
theorem wrapI (n : Int) (h0 : -9223372036854775808 ≤ n) (h1 : n ≤ 9223372036854775807) : IntKind.i64.wrap n = n := by
  rw [IntKind.wrap_i64]; omega
def failAt (bs : List UInt8) (off a : Nat) : Nat := off + min a (bs.length - 1)
set_option maxRecDepth 100000 in
set_option maxHeartbeats 4000000 in
theorem failM_c (b : Nat) (bs : List UInt8) (off a : Nat) (w : World) (h : FR b bs off a w) (h1 : 1 ≤ bs.length) (hl : bs.length ≤ 1099511627776) (ho : off ≤ 1099511627776) :
    Calls Tryd.prog 97 #[.pointer (some ⟨b, 0, none⟩)] w fun e w' => e = pan (failAt bs off a : Nat) 14 ∧ Below w.heap.size w w' := by
  have c0 := h.c0
  have c1 := h.c1
  have c2 := h.c2
  have hsz := size_str bs
  have hm : min (a : Int) ((bs.length : Int) - 1) = ((min a (bs.length - 1) : Nat) : Int) := by omega
  have hb2 : min a (bs.length - 1) ≤ 1099511627776 := by omega
  unfold failAt
  obtain ⟨m, hmm⟩ : ∃ m, min a (bs.length - 1) = m := ⟨_, rfl⟩
  rw [hmm] at hm hb2 ⊢
  clear h hmm
  go_enter Tryd.func97, Tryd.ntmps97
  go_wp2_with fail
  have hw := Lib.hid ((Below.refl w.heap.size w).drew)
  have hval : IntKind.i64.wrap ((off : Int) + min (a : Int) (IntKind.i64.wrap ((bs.length : Int) - 1))) = (off : Int) + (m : Int) := by
    rw [wrapI ((bs.length : Int) - 1) (by omega) (by omega), hm, wrapI _ (by omega) (by omega)]
  have Hval := Lib.hid hval
  clear hval
  first
    | go_region_with (go_at_call 68; refine (fail_c _ _ _).mono ?_; rintro e W2 ⟨rfl, rfl⟩; refine (fun (_ : wpAny Tryd.prog .any #[] (fun _ _ _ => True) 0 #[] { tmps := #[], defers := [] } w) => ?_) ?_; focus (refine ⟨rfl, ?_⟩; exact ⟨by rw [Hval.out]; push_cast; rfl, hw.out⟩))
    | fail
  all_goals trivial
def seesB (bs : List UInt8) (a : Nat) (c : UInt8) : Bool := decide (a < bs.length) && (bs.getD a 0 == c)
set_option maxRecDepth 100000 in
set_option maxHeartbeats 1000000 in
theorem sees_c (b : Nat) (bs : List UInt8) (off a : Nat) (c : UInt8) (w : World) (h : FR b bs off a w) :
    Calls Tryd.prog 102 #[.pointer (some ⟨b, 0, none⟩), .int .u8 (c.toNat : Int)] w fun e w' => e = .returned (.bool (seesB bs a c)) ∧ Below w.heap.size w w' := by
  have c0 := h.c0
  have c2 := h.c2
  have hsz := size_str bs
  unfold seesB
  by_cases hlt : a < bs.length
  · have i0 : (0 : Int) ≤ (a : Int) := by omega
    have i1 : (a : Int) < (bs.length : Int) := by omega
    have hg : ∀ h, (ByteArray.mk bs.toArray)[a]'h = bs.getD a 0 := fun h => by rw [getD_at bs a hlt]; rfl
    rw [decide_eq_true hlt, Bool.true_and]
    have hbe : (bs.getD a 0 == c) = (((bs.getD a 0).toNat : Int) == (c.toNat : Int)) := by
      rw [Bool.eq_iff_iff]; simp only [beq_iff_eq]
      rw [← UInt8.toNat_inj]; omega
    rw [hbe]
    obtain ⟨x, hx⟩ : ∃ x, bs.getD a 0 = x := ⟨_, rfl⟩
    rw [hx] at hg ⊢
    clear h hbe hx
    go_enter Tryd.func102, Tryd.ntmps102
    go_wp2_with fail
    go_quiet (fail)
    go_wp2
    go_ret
    exact ⟨rfl, below_dr (Below.refl _ _) _⟩
  · have i1 : ¬ (a : Int) < (bs.length : Int) := by omega
    rw [decide_eq_false hlt, Bool.false_and]
    clear h
    go_enter Tryd.func102, Tryd.ntmps102
    go_wp2_with fail
    go_quiet (fail)
    go_wp2
    go_ret
    exact ⟨rfl, below_dr (Below.refl _ _) _⟩
end Go.Proofs.YtpfnmjcomdckgaaDoor

namespace Go.Proofs.YtpfnmjcomdckgaaDoor
open Go.RowKit Go.Shelf
set_option linter.unusedVariables false
set_option linter.unusedSimpArgs false

/-- What a step of the reader comes to: its error, or a value and how many bytes were read. -/
def MPost (b : Nat) (bs : List UInt8) (off : Nat) (x : PR (Value × Nat)) (w : World) (e : Ending) (w' : World) : Prop := match x with
  | .bad p k => e = pan p k ∧ w.grownBy w' (some b)
  | .ok y => e = .returned y.1 ∧ FR b bs off y.2 w' ∧ w.grownBy w' (some b)
theorem FR.below {b : Nat} {bs : List UInt8} {off a : Nat} {w w' : World} (h : FR b bs off a w) (hb : Below w.heap.size w w') : FR b bs off a w' := heap_below hb h
def skipM (bs : List UInt8) (off a : Nat) (c : UInt8) : PR (Value × Nat) := if seesB bs a c then .ok (.tuple #[], a + 1) else .bad (failAt bs off a) 14
set_option maxRecDepth 100000 in
set_option maxHeartbeats 1000000 in
theorem skip_c (b : Nat) (bs : List UInt8) (off a : Nat) (c : UInt8) (w : World) (h : FR b bs off a w) (h1 : 1 ≤ bs.length) (hl : bs.length ≤ 1099511627776) (ho : off ≤ 1099511627776) (ha : a ≤ bs.length) :
    Calls Tryd.prog 96 #[.pointer (some ⟨b, 0, none⟩), .int .u8 (c.toNat : Int)] w (MPost b bs off (skipM bs off a c) w) := by
  have N := Lib.hid (sees_c b bs off a c w h)
  have F := Lib.hid (fun W hW => failM_c b bs off a W hW h1 hl ho)
  have H := Lib.hid h
  unfold skipM
  cases hs : seesB bs a c with
  | false =>
    rw [hs] at N
    rw [if_neg (by decide)]
    unfold MPost
    clear h hs
    go_enter Tryd.func96, Tryd.ntmps96
    go_wp2_with fail
    refine N.out.mono ?_
    rintro e w1 ⟨rfl, hb1⟩
    have Hb1 := Lib.hid hb1
    have F1 := Lib.hid (F.out w1 (H.out.below hb1))
    clear hb1
    go_wp2_with fail
    refine F1.out.mono ?_
    rintro e w2 ⟨rfl, hb2⟩
    go_wp2_with fail
    exact ⟨rfl, rfl, grown_below (below_tr Hb1.out hb2)⟩
  | true =>
    rw [hs] at N
    rw [if_pos rfl]
    unfold MPost
    clear h hs
    go_enter Tryd.func96, Tryd.ntmps96
    go_wp2_with fail
    refine N.out.mono ?_
    rintro e w1 ⟨rfl, hb1⟩
    have h1' := H.out.below hb1
    have c2 := h1'.c2
    have f2 := h1'.f2
    have H1 := Lib.hid (h1'.set (a + 1))
    have G1 := Lib.hid (grown_tr (grown_below (r := some b) hb1) (grown_set w1 b 2 (.int .i64 (a + 1 : Nat))))
    clear hb1 h1'
    go_wp2
    go_end0
    exact ⟨rfl, by have := H1.out; push_cast at this; exact this, by have := G1.out; push_cast at this; exact this⟩

def takeM (p : UInt8 → Bool) (bs : List UInt8) (off a : Nat) : PR (Value × Nat) := if decide (a < bs.length) && p (bs.getD a 0) then .ok (.int .u8 ((bs.getD a 0).toNat : Int), a + 1) else .bad (failAt bs off a) 14
set_option maxRecDepth 100000 in
set_option maxHeartbeats 1000000 in
theorem take_c (fid : FuncId) (p : UInt8 → Bool) (he : ∀ args w, (callFunc fid args).run Tryd.prog w = .ok (.enter fid args) w) (hp : ∀ (c : UInt8) (W : World), Calls Tryd.prog fid #[.int .u8 (c.toNat : Int)] W fun e w' => e = .returned (.bool (p c)) ∧ w' = W)
    (b : Nat) (bs : List UInt8) (off a : Nat) (w : World) (h : FR b bs off a w) (h1 : 1 ≤ bs.length) (hl : bs.length ≤ 1099511627776) (ho : off ≤ 1099511627776) (ha : a ≤ bs.length) :
    Calls Tryd.prog 100 #[.pointer (some ⟨b, 0, none⟩), .func (.func fid) #[] #[]] w (MPost b bs off (takeM p bs off a) w) := by
  have F := Lib.hid (fun W hW => failM_c b bs off a W hW h1 hl ho)
  have H := Lib.hid h
  have c0 := h.c0
  have c2 := h.c2
  have f2 := h.f2
  have hsz := size_str bs
  unfold takeM
  by_cases hlt : a < bs.length
  · have i0 : (0 : Int) ≤ (a : Int) := by omega
    have i1 : (a : Int) < (bs.length : Int) := by omega
    have iE : ((a : Int) == (bs.length : Int)) = false := by rw [beq_eq_false_iff_ne]; omega
    have iN : ¬ ((a : Int) = (bs.length : Int)) := by omega
    have hg : ∀ h, (ByteArray.mk bs.toArray)[a]'h = bs.getD a 0 := fun h => by rw [getD_at bs a hlt]; rfl
    rw [decide_eq_true hlt, Bool.true_and]
    obtain ⟨x, hx⟩ : ∃ x, bs.getD a 0 = x := ⟨_, rfl⟩
    rw [hx] at hg ⊢
    have N := fun W => hp x W
    cases hpx : p x with
    | false =>
      rw [hpx] at N
      have N := Lib.hid N
      rw [if_neg (by decide)]
      unfold MPost
      clear h hpx hx
      go_enter Tryd.func100, Tryd.ntmps100
      go_wp2_with fail
      go_quiet (exact Calls.quiet_of_same (N.out _))
      have F1 := Lib.hid (F.out (w.drewN nq) H.out)
      go_wp2_with fail
      refine F1.out.mono ?_
      rintro e w2 ⟨rfl, hb2⟩
      go_wp2_with fail
      exact ⟨rfl, rfl, grown_below ((below_dr (Below.refl _ _) _).trans hb2)⟩
    | true =>
      rw [hpx] at N
      have N := Lib.hid N
      rw [if_pos rfl]
      unfold MPost
      clear h hpx
      have H1 := Lib.hid (H.out.set (a + 1))
      have G1 := Lib.hid (grown_set w b 2 (.int .i64 (a + 1 : Nat)))
      go_enter Tryd.func100, Tryd.ntmps100
      go_wp2_with fail
      go_quiet (exact Calls.quiet_of_same (N.out _))
      have c2' : (w.drewN nq).cell? ⟨b, 2, none⟩ = some (.int .i64 a) := c2
      have f2' : (w.drewN nq).frozen? ⟨b, 2, none⟩ = false := f2
      have hF : FR b bs off (a + 1) ((w.drewN nq).setCell ⟨b, 2, none⟩ (.int .i64 (a + 1 : Nat))) := FR.set (w := w.drewN nq) H.out (a + 1)
      have hG : w.grownBy ((w.drewN nq).setCell ⟨b, 2, none⟩ (.int .i64 (a + 1 : Nat))) (some b) := grown_tr (grown_below (below_dr (Below.refl _ _) _)) (grown_set (w.drewN nq) b 2 (.int .i64 (a + 1 : Nat)))
      push_cast at hF hG
      obtain ⟨W5, hW5⟩ : ∃ W5, (w.drewN nq).setCell ⟨b, 2, none⟩ (.int .i64 ((a : Int) + 1)) = W5 := ⟨_, rfl⟩
      rw [hW5] at hF hG
      have e0 := hF.c0
      have e2 := hF.c2
      push_cast at e2
      have HF := Lib.hid hF
      have HG := Lib.hid hG
      clear hF hG
      go_wp2_with fail
      have w1 := wrapI ((a : Int) + 1 - 1) (by omega) (by omega)
      have w2 := wrapI (a : Int) (by omega) (by omega)
      have w3 : (a : Int) + 1 - 1 = (a : Int) := by omega
      go_quiet (fail)
      go_wp2
      go_ret
      exact ⟨rfl, HF.out, grown_tr HG.out (grown_below (below_dr (Below.refl _ _) _))⟩
  · have iE : ((a : Int) == (bs.length : Int)) = true := by rw [beq_iff_eq]; omega
    have iN : (a : Int) = (bs.length : Int) := by omega
    rw [decide_eq_false hlt, Bool.false_and, if_neg (by decide)]
    unfold MPost
    have F1 := Lib.hid (F.out w h)
    clear h
    go_enter Tryd.func100, Tryd.ntmps100
    go_wp2_with fail
    go_quiet (fail)
    have F1 := Lib.hid (F.out (w.drewN nq) H.out)
    go_wp2_with fail
    refine F1.out.mono ?_
    rintro e w2 ⟨rfl, hb2⟩
    go_wp2_with fail
    exact ⟨rfl, rfl, grown_below ((below_dr (Below.refl _ _) _).trans hb2)⟩
end Go.Proofs.YtpfnmjcomdckgaaDoor

namespace Go.Proofs.YtpfnmjcomdckgaaDoor
open Go.RowKit Go.Shelf
set_option linter.unusedVariables false
set_option linter.unusedSimpArgs false

theorem tabs_below {w w' : World} (hT : Tabs w) (h : Below w.heap.size w w') : Tabs w' := by
  have hold : ∀ (p : Addr) (v : Value), w.cell? p = some v → w'.cell? p = some v := fun p v hv => by
    have hlt : p.block < w.heap.size := World.block_lt_of_cell? w _ hv
    exact (h.cell hlt).trans hv
  exact ⟨fun c hc => hold _ _ (hT.1 c hc), fun i hi => ⟨hold _ _ (hT.2 i hi).1, hold _ _ (hT.2 i hi).2⟩⟩
theorem begN_le : ∀ (f k : Nat) (r : List UInt8), k ≤ r.length → begN f k r ≤ r.length
  | 0, k, r, h => h
  | f + 1, k, r, h => by
    unfold begN
    split
    · rename_i hc
      simp only [Bool.and_eq_true, decide_eq_true_eq] at hc
      exact begN_le f (k + 1) r (by omega)
    · exact h
set_option maxRecDepth 100000 in
set_option maxHeartbeats 1000000 in
theorem lengthOfBeginning_c (r : List UInt8) (hl : r.length ≤ 1099511627776) (w : World) (hT : Tabs w) :
    Calls Tryd.prog 99 #[str r] w fun e w' => e = .returned (.int .i64 (begL r)) ∧ Below w.heap.size w w' := by
  have hsz := size_str r
  have HT := Lib.hid hT
  unfold begL
  clear hT
  go_enter Tryd.func99, Tryd.ntmps99
  go_wp2
  go_loopw [3] (fun n wr => ∃ (k f : Nat), k ≤ r.length ∧ n = .int .i64 k ∧ r.length ≤ k + f ∧ begN r.length 0 r = begN f k r ∧ Below w.heap.size w wr) (fun n _ => r.length - (intOf n).toNat)
  case atStart => exact ⟨0, r.length, Nat.zero_le _, rfl, by omega, rfl, Below.refl _ _⟩
  case round =>
    obtain ⟨k, f, hk, rfl, hf, heq, hb⟩ := hrel
    by_cases hlt : k < r.length
    · obtain ⟨g, rfl⟩ : ∃ g, f = g + 1 := ⟨f - 1, by omega⟩
      have hex := ext_take r (k + 1)
      have i0 : (0 : Int) ≤ (k : Int) := by omega
      have i1 : (k : Int) < (r.length : Int) := by omega
      have i2 : (k : Int) + 1 ≤ (r.length : Int) := by omega
      have N := Lib.hid (full_c (r.take (k + 1)) (by rw [List.length_take]; omega) wr (tabs_below HT.out hb))
      have hstep : begN (g + 1) k r = if !fullM (r.take (k + 1)) then begN g (k + 1) r else k := by
        show ite _ _ _ = _; rw [decide_eq_true hlt, Bool.true_and]
      rw [hstep] at heq
      have Hb := Lib.hid hb
      clear hb hstep
      cases hf : fullM (r.take (k + 1)) with
      | true =>
        rw [hf] at N heq
        have Heq := Lib.hid heq
        unfold FullPost at N
        obtain ⟨R, hR⟩ : ∃ R, r.take (k + 1) = R := ⟨_, rfl⟩
        rw [hR] at hex N
        clear hf hR heq
        go_wp2_with fail
        refine N.out.mono ?_
        rintro e w1 ⟨rfl, hb1⟩
        have Hb1 := Lib.hid (Hb.out.trans (hb1.mono Hb.out.size))
        clear hb1
        go_wp2
        go_ret
        exact ⟨by rw [Heq.out]; rfl, Hb1.out⟩
      | false =>
        rw [hf] at N heq
        have Heq := Lib.hid heq
        unfold FullPost at N
        obtain ⟨R, hR⟩ : ∃ R, r.take (k + 1) = R := ⟨_, rfl⟩
        rw [hR] at hex N
        clear hf hR heq
        go_wp2_with fail
        refine N.out.mono ?_
        rintro e w1 ⟨rfl, hb1⟩
        have Hb1 := Lib.hid (Hb.out.trans (hb1.mono Hb.out.size))
        clear hb1
        go_wp2
        go_roundw
        case rel => exact ⟨k + 1, g, by omega, by go_num, by omega, by rw [Heq.out]; rfl, Hb1.out⟩
        case measure => simp [intOf]; omega
    · have i1 : ¬ (k : Int) < (r.length : Int) := by omega
      have hk2 : begN f k r = k := by
        cases f with
        | zero => rfl
        | succ f => show ite _ _ _ = _; rw [decide_eq_false hlt, Bool.false_and, if_neg (by decide)]
      rw [hk2] at heq
      have Heq := Lib.hid heq
      have Hb := Lib.hid hb
      clear heq hk2 hb
      go_wp2
      go_ret
      exact ⟨by rw [Heq.out]; rfl, Hb.out⟩
/-- A text is read, from a place on. -/
def textM (bs : List UInt8) (off a : Nat) : PR (Value × Nat) :=
  if decide (a + textLen (bs.drop a) < bs.length) && decide (32 ≤ (bs.getD (a + textLen (bs.drop a)) 0).toNat) then .bad (failAt bs off (a + textLen (bs.drop a) + begL (bs.drop (a + textLen (bs.drop a))))) 14
  else .ok (str ((bs.drop a).take (textLen (bs.drop a))), a + textLen (bs.drop a))
end Go.Proofs.YtpfnmjcomdckgaaDoor

namespace Go.Proofs.YtpfnmjcomdckgaaDoor
open Go.RowKit Go.Shelf
set_option linter.unusedVariables false
set_option linter.unusedSimpArgs false

def indM (bs : List UInt8) (off : Nat) : PR (Value × Nat) := match takeM indB bs off 0 with
  | .bad p k => .bad p k
  | .ok _ => match takeM indB bs off 1 with
    | .bad p k => .bad p k
    | .ok _ => .ok (str (bs.take 2), 2)
theorem enterInd : ∀ args w, (callFunc 79 args).run Tryd.prog w = .ok (.enter 79 args) w := enters_of Tryd.func79 (by kernel_rfl) rfl
theorem enterSign : ∀ args w, (callFunc 80 args).run Tryd.prog w = .ok (.enter 80 args) w := enters_of Tryd.func80 (by kernel_rfl) rfl
theorem takeM_cases (p : UInt8 → Bool) (bs : List UInt8) (off a : Nat) : (takeM p bs off a = .bad (failAt bs off a) 14) ∨ (takeM p bs off a = .ok (.int .u8 ((bs.getD a 0).toNat : Int), a + 1) ∧ a < bs.length ∧ p (bs.getD a 0) = true) := by
  unfold takeM
  by_cases h : (decide (a < bs.length) && p (bs.getD a 0)) = true
  · rw [if_pos h]
    simp only [Bool.and_eq_true, decide_eq_true_eq] at h
    exact .inr ⟨rfl, h.1, h.2⟩
  · rw [if_neg h]; exact .inl rfl
set_option maxRecDepth 100000 in
set_option maxHeartbeats 1000000 in
theorem ind_c (b : Nat) (bs : List UInt8) (off : Nat) (w : World) (h : FR b bs off 0 w) (h1 : 1 ≤ bs.length) (hl : bs.length ≤ 1099511627776) (ho : off ≤ 1099511627776) :
    Calls Tryd.prog 94 #[.pointer (some ⟨b, 0, none⟩)] w (MPost b bs off (indM bs off) w) := by
  have N1 := take_c _ indB enterInd isIndicator_c b bs off 0 w h h1 hl ho (Nat.zero_le _)
  unfold indM
  rcases takeM_cases indB bs off 0 with hb | ⟨hb, hlt, -⟩
  · rw [hb] at N1 ⊢
    unfold MPost at N1 ⊢
    have N1 := Lib.hid N1
    clear h hb
    go_enter Tryd.func94, Tryd.ntmps94
    go_wp2_with fail
    refine N1.out.mono ?_
    rintro e w2 ⟨rfl, hg2⟩
    go_wp2_with fail
    exact ⟨rfl, rfl, hg2⟩
  · rw [hb] at N1 ⊢
    have N2 := fun W hW => take_c _ indB enterInd isIndicator_c b bs off 1 W hW h1 hl ho (by omega)
    rcases takeM_cases indB bs off 1 with hb2 | ⟨hb2, hlt2, -⟩
    · simp only [hb2] at N2 ⊢
      unfold MPost at N1 N2 ⊢
      have N1 := Lib.hid N1
      have N2 := Lib.hid N2
      clear h hb hb2
      go_enter Tryd.func94, Tryd.ntmps94
      go_wp2_with fail
      refine N1.out.mono ?_
      rintro e w2 ⟨rfl, hf2, hg2⟩
      have N3 := Lib.hid (N2.out w2 hf2)
      have Hg2 := Lib.hid hg2
      clear hf2 hg2
      go_wp2_with fail
      refine N3.out.mono ?_
      rintro e w3 ⟨rfl, hg3⟩
      go_wp2_with fail
      exact ⟨rfl, rfl, grown_tr Hg2.out hg3⟩
    · simp only [hb2] at N2 ⊢
      unfold MPost at N1 N2 ⊢
      have N1 := Lib.hid N1
      have N2 := Lib.hid N2
      have hsz := size_str bs
      have hex := ext_take bs 2
      have i2 : (2 : Int) ≤ (bs.length : Int) := by omega
      clear h hb hb2
      go_enter Tryd.func94, Tryd.ntmps94
      go_wp2_with fail
      refine N1.out.mono ?_
      rintro e w2 ⟨rfl, hf2, hg2⟩
      have N3 := Lib.hid (N2.out w2 hf2)
      have Hg2 := Lib.hid hg2
      clear hf2 hg2
      go_wp2_with fail
      refine N3.out.mono ?_
      rintro e w3 ⟨rfl, hf3, hg3⟩
      have c0 := hf3.c0
      have c2 := hf3.c2
      have Hf3 := Lib.hid hf3
      have Hg3 := Lib.hid (grown_tr Hg2.out hg3)
      clear hf3 hg3
      go_wp2_with fail
      go_quiet (fail)
      go_wp2
      go_ret
      exact ⟨rfl, Hf3.out, grown_tr Hg3.out (grown_below (below_dr (Below.refl _ _) _))⟩
end Go.Proofs.YtpfnmjcomdckgaaDoor
