/-
  The field reader's text.
-/
import Derived.Test.YtpfnmjcomdckgaaDoorRText2
import Derived.BigQuiet
import Derived.Deep.QuietTactic
import Derived.Deep.RegionWith
namespace Go.Proofs.YtpfnmjcomdckgaaDoor
open Go.RowKit Go.Shelf
set_option linter.unusedVariables false
set_option linter.unusedSimpArgs false

set_option maxRecDepth 100000 in
set_option maxHeartbeats 4000000 in
theorem text_end (b : Nat) (bs : List UInt8) (off a t : Nat) (w : World) (h : FR b bs off a w) (h1 : 1 ≤ bs.length) (hl : bs.length ≤ 1099511627776) (ho : off ≤ 1099511627776) (ha : a ≤ bs.length) (hT : Tabs w) (ht : textLen (bs.drop a) = t) (hle : a + t ≤ bs.length)
    (hend : a + t = bs.length) :
    Calls Tryd.prog 93 #[.pointer (some ⟨b, 0, none⟩)] w (MPost b bs off (.ok (str ((bs.drop a).take t), a + t)) w) := by
  have c0 := h.c0
  have c2 := h.c2
  have f2 := h.f2
  have hsz := size_str bs
  have hex := ext_drop bs a
  have hex2 := ext_mid bs a (a + t)
  rw [show a + t - a = t by omega] at hex2
  have N := fun W => lengthOfText_c (bs.drop a) (by rw [List.length_drop]; omega) W
  rw [ht] at N
  have F := Lib.hid (fun x W hW => failM_c b bs off x W hW h1 hl ho)
  have H := Lib.hid h
  have HT := Lib.hid hT
  obtain ⟨D, hD⟩ : ∃ D, bs.drop a = D := ⟨_, rfl⟩
  obtain ⟨E, hE⟩ : ∃ E, (bs.drop a).take t = E := ⟨_, rfl⟩
  rw [hE] at hex2 ⊢
  rw [hD] at N hex
  have N := Lib.hid N
  have i0 : (0 : Int) ≤ (a : Int) := by omega
  have i1 : (a : Int) ≤ (bs.length : Int) := by omega
  obtain ⟨z, hz⟩ : ∃ z, a + t = z := ⟨_, rfl⟩
  have hzI : (a : Int) + (t : Int) = (z : Int) := by omega
  rw [hz] at hex2 ⊢
  have i2 : (a : Int) ≤ (z : Int) := by omega
  have i3 : (z : Int) ≤ (bs.length : Int) := by omega
  have i4 : (0 : Int) ≤ (z : Int) := by omega
  have hblt : b < w.heap.size := lt_at h
  have w1 := wrapI (z : Int) (by omega) (by omega)
  have j1 : ¬ (z : Int) < (bs.length : Int) := by omega
  have jn : ¬ z < bs.length := by omega
  have jd : decide (z < bs.length) = false := decide_eq_false jn
  clear h hT hD hE ht hz
  unfold MPost
  go_enter Tryd.func93, Tryd.ntmps93
  go_wp2_with fail
  go_region_with (go_at_call 92; refine (N.out _).mono ?_; rintro e W2 ⟨rfl, hb2⟩; have c2' : W2.cell? ⟨b, 2, none⟩ = some (.int .i64 a) := (hb2.cell (p := ⟨b, 2, none⟩) hblt).trans c2; have f2' : W2.frozen? ⟨b, 2, none⟩ = false := (hb2.frozen (p := ⟨b, 2, none⟩) hblt).trans f2)
  all_goals
    have hF : FR b bs off z (W2.setCell ⟨b, 2, none⟩ (.int .i64 z)) := FR.set (w := W2) (a := a) ((hb2.block b hblt).trans H.out) z
    have hG : w.grownBy (W2.setCell ⟨b, 2, none⟩ (.int .i64 z)) (some b) := grown_tr (grown_below (show Below w.heap.size w W2 from ((Below.refl w.heap.size w).drew).trans hb2)) (grown_set W2 b 2 (.int .i64 z))
    obtain ⟨W5, hW5⟩ : ∃ W5, W2.setCell ⟨b, 2, none⟩ (.int .i64 z) = W5 := ⟨_, rfl⟩
    rw [hW5] at hF hG ⊢
    have e0 := hF.c0
    have e2 := hF.c2
    have g2 := hF.f2
    have HF := Lib.hid hF
    have HG := Lib.hid hG
    clear hF hG hW5 c2' f2' hb2
    go_wp2_with fail
    go_quiet (fail)
    go_wp2_with fail
    go_quiet (fail)
    go_wp2
    go_ret
    exact ⟨rfl, HF.out, grown_tr HG.out (grown_below (below_dr (below_dr (Below.refl _ _) _) _))⟩
set_option maxRecDepth 100000 in
set_option maxHeartbeats 4000000 in
theorem text_stop (b : Nat) (bs : List UInt8) (off a t : Nat) (w : World) (h : FR b bs off a w) (h1 : 1 ≤ bs.length) (hl : bs.length ≤ 1099511627776) (ho : off ≤ 1099511627776) (ha : a ≤ bs.length) (hT : Tabs w) (ht : textLen (bs.drop a) = t) (hle : a + t ≤ bs.length)
    (hlt : a + t < bs.length) (hx : (bs.getD (a + t) 0).toNat < 32) :
    Calls Tryd.prog 93 #[.pointer (some ⟨b, 0, none⟩)] w (MPost b bs off (.ok (str ((bs.drop a).take t), a + t)) w) := by
  have c0 := h.c0
  have c2 := h.c2
  have f2 := h.f2
  have hsz := size_str bs
  have hex := ext_drop bs a
  have hex2 := ext_mid bs a (a + t)
  rw [show a + t - a = t by omega] at hex2
  have N := fun W => lengthOfText_c (bs.drop a) (by rw [List.length_drop]; omega) W
  rw [ht] at N
  have F := Lib.hid (fun x W hW => failM_c b bs off x W hW h1 hl ho)
  have H := Lib.hid h
  have HT := Lib.hid hT
  obtain ⟨D, hD⟩ : ∃ D, bs.drop a = D := ⟨_, rfl⟩
  obtain ⟨E, hE⟩ : ∃ E, (bs.drop a).take t = E := ⟨_, rfl⟩
  rw [hE] at hex2 ⊢
  rw [hD] at N hex
  have N := Lib.hid N
  have i0 : (0 : Int) ≤ (a : Int) := by omega
  have i1 : (a : Int) ≤ (bs.length : Int) := by omega
  obtain ⟨z, hz⟩ : ∃ z, a + t = z := ⟨_, rfl⟩
  have hzI : (a : Int) + (t : Int) = (z : Int) := by omega
  rw [hz] at hex2 ⊢
  have i2 : (a : Int) ≤ (z : Int) := by omega
  have i3 : (z : Int) ≤ (bs.length : Int) := by omega
  have i4 : (0 : Int) ≤ (z : Int) := by omega
  have hblt : b < w.heap.size := lt_at h
  have w1 := wrapI (z : Int) (by omega) (by omega)
  have j1 : (z : Int) < (bs.length : Int) := by omega
  have hg : ∀ h, (ByteArray.mk bs.toArray)[z]'h = bs.getD z 0 := fun h => by rw [getD_at bs z (by omega)]; rfl
  obtain ⟨x, hxx⟩ : ∃ x, bs.getD z 0 = x := ⟨_, rfl⟩
  rw [hz, hxx] at hx
  rw [hxx] at hg
  have jd : decide (z < bs.length) = true := decide_eq_true (by omega)
  have j2 : ¬ (32 : Int) ≤ (x.toNat : Int) := by omega
  clear hxx hx
  clear h hT hD hE ht hz
  unfold MPost
  go_enter Tryd.func93, Tryd.ntmps93
  go_wp2_with fail
  go_region_with (go_at_call 92; refine (N.out _).mono ?_; rintro e W2 ⟨rfl, hb2⟩; have c2' : W2.cell? ⟨b, 2, none⟩ = some (.int .i64 a) := (hb2.cell (p := ⟨b, 2, none⟩) hblt).trans c2; have f2' : W2.frozen? ⟨b, 2, none⟩ = false := (hb2.frozen (p := ⟨b, 2, none⟩) hblt).trans f2)
  all_goals
    have hF : FR b bs off z (W2.setCell ⟨b, 2, none⟩ (.int .i64 z)) := FR.set (w := W2) (a := a) ((hb2.block b hblt).trans H.out) z
    have hG : w.grownBy (W2.setCell ⟨b, 2, none⟩ (.int .i64 z)) (some b) := grown_tr (grown_below (show Below w.heap.size w W2 from ((Below.refl w.heap.size w).drew).trans hb2)) (grown_set W2 b 2 (.int .i64 z))
    obtain ⟨W5, hW5⟩ : ∃ W5, W2.setCell ⟨b, 2, none⟩ (.int .i64 z) = W5 := ⟨_, rfl⟩
    rw [hW5] at hF hG ⊢
    have e0 := hF.c0
    have e2 := hF.c2
    have g2 := hF.f2
    have HF := Lib.hid hF
    have HG := Lib.hid hG
    clear hF hG hW5 c2' f2' hb2
    go_wp2_with fail
    go_quiet (fail)
    go_wp2_with fail
    go_quiet (fail)
    go_wp2
    go_ret
    exact ⟨rfl, HF.out, grown_tr HG.out (grown_below (below_dr (below_dr (Below.refl _ _) _) _))⟩
end Go.Proofs.YtpfnmjcomdckgaaDoor
