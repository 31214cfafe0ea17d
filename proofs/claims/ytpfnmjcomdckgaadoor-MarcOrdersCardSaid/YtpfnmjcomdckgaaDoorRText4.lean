/-
  The field reader's text. The field reader's text.
-/
import Derived.Test.YtpfnmjcomdckgaaDoorRFld
import Derived.BigQuiet
import Derived.Deep.QuietTactic
import Derived.Deep.RegionWith
namespace Go.Proofs.YtpfnmjcomdckgaaDoor
open Go.RowKit Go.Shelf
set_option linter.unusedVariables false
set_option linter.unusedSimpArgs false

set_option maxRecDepth 100000 in
set_option maxHeartbeats 4000000 in
theorem text_end (b : Nat) (bs : List UInt8) (off a t : Nat) (w : World) (h : FR b bs off a w) (h1 : 1 ≤ bs.length) (hl : bs.length ≤ 1099511627776) (ho : off ≤ 1099511627776) (ha : a ≤ bs.length) (hT : Tabs w) (ht : textLen (bs.drop a) = t) (hle : a + t ≤ bs.length)
    (hend : a + t = bs.length) :
    Calls Tryd.prog 93 #[.pointer (some ⟨b, 0, none⟩)] w (MPost b bs off (.ok (str ((bs.drop a).take t), a + t)) w) := by
  have c0 := h.c0
  have c2 := h.c2
  have f2 := h.f2
  have hsz := size_str bs
  have hex := ext_drop bs a
  have hex2 := ext_mid bs a (a + t)
  rw [show a + t - a = t by omega] at hex2
  have N := fun W => lengthOfText_c (bs.drop a) (by rw [List.length_drop]; omega) W
  rw [ht] at N
  have F := Lib.hid (fun x W hW => failM_c b bs off x W hW h1 hl ho)
  have H := Lib.hid h
  have HT := Lib.hid hT
  obtain ⟨D, hD⟩ : ∃ D, bs.drop a = D := ⟨_, rfl⟩
  obtain ⟨E, hE⟩ : ∃ E, (bs.drop a).take t = E := ⟨_, rfl⟩
  rw [hE] at hex2 ⊢
  rw [hD] at N hex
  have N := Lib.hid N
  have i0 : (0 : Int) ≤ (a : Int) := by omega
  have i1 : (a : Int) ≤ (bs.length : Int) := by omega
  obtain ⟨z, hz⟩ : ∃ z, a + t = z := ⟨_, rfl⟩
  have hzI : (a : Int) + (t : Int) = (z : Int) := by omega
  rw [hz] at hex2 ⊢
  have i2 : (a : Int) ≤ (z : Int) := by omega
  have i3 : (z : Int) ≤ (bs.length : Int) := by omega
  have i4 : (0 : Int) ≤ (z : Int) := by omega
  have hblt : b < w.heap.size := lt_at h
  have w1 := wrapI (z : Int) (by omega) (by omega)
  have j1 : ¬ (z : Int) < (bs.length : Int) := by omega
  have jn : ¬ z < bs.length := by omega
  have jd : decide (z < bs.length) = false := decide_eq_false jn
  clear h hT hD hE ht hz
  unfold MPost
  go_enter Tryd.func93, Tryd.ntmps93
  go_wp2_with fail
  go_region_with (go_at_call 92; refine (N.out _).mono ?_; rintro e W2 ⟨rfl, hb2⟩; have c2' : W2.cell? ⟨b, 2, none⟩ = some (.int .i64 a) := (hb2.cell (p := ⟨b, 2, none⟩) hblt).trans c2; have f2' : W2.frozen? ⟨b, 2, none⟩ = false := (hb2.frozen (p := ⟨b, 2, none⟩) hblt).trans f2)
  all_goals
    have hF : FR b bs off z (W2.setCell ⟨b, 2, none⟩ (.int .i64 z)) := FR.set (w := W2) (a := a) ((hb2.block b hblt).trans H.out) z
    have hG : w.grownBy (W2.setCell ⟨b, 2, none⟩ (.int .i64 z)) (some b) := grown_tr (grown_below (show Below w.heap.size w W2 from ((Below.refl w.heap.size w).drew).trans hb2)) (grown_set W2 b 2 (.int .i64 z))
    obtain ⟨W5, hW5⟩ : ∃ W5, W2.setCell ⟨b, 2, none⟩ (.int .i64 z) = W5 := ⟨_, rfl⟩
    rw [hW5] at hF hG ⊢
    have e0 := hF.c0
    have e2 := hF.c2
    have g2 := hF.f2
    have HF := Lib.hid hF
    have HG := Lib.hid hG
    clear hF hG hW5 c2' f2' hb2
    go_wp2_with fail
    go_quiet (fail)
    go_wp2_with fail
    go_quiet (fail)
    go_wp2
    go_ret
    exact ⟨rfl, HF.out, grown_tr HG.out (grown_below (below_dr (below_dr (Below.refl _ _) _) _))⟩
set_option maxRecDepth 100000 in
set_option maxHeartbeats 4000000 in
theorem text_stop (b : Nat) (bs : List UInt8) (off a t : Nat) (w : World) (h : FR b bs off a w) (h1 : 1 ≤ bs.length) (hl : bs.length ≤ 1099511627776) (ho : off ≤ 1099511627776) (ha : a ≤ bs.length) (hT : Tabs w) (ht : textLen (bs.drop a) = t) (hle : a + t ≤ bs.length)
    (hlt : a + t < bs.length) (hx : (bs.getD (a + t) 0).toNat < 32) :
    Calls Tryd.prog 93 #[.pointer (some ⟨b, 0, none⟩)] w (MPost b bs off (.ok (str ((bs.drop a).take t), a + t)) w) := by
  have c0 := h.c0
  have c2 := h.c2
  have f2 := h.f2
  have hsz := size_str bs
  have hex := ext_drop bs a
  have hex2 := ext_mid bs a (a + t)
  rw [show a + t - a = t by omega] at hex2
  have N := fun W => lengthOfText_c (bs.drop a) (by rw [List.length_drop]; omega) W
  rw [ht] at N
  have F := Lib.hid (fun x W hW => failM_c b bs off x W hW h1 hl ho)
  have H := Lib.hid h
  have HT := Lib.hid hT
  obtain ⟨D, hD⟩ : ∃ D, bs.drop a = D := ⟨_, rfl⟩
  obtain ⟨E, hE⟩ : ∃ E, (bs.drop a).take t = E := ⟨_, rfl⟩
  rw [hE] at hex2 ⊢
  rw [hD] at N hex
  have N := Lib.hid N
  have i0 : (0 : Int) ≤ (a : Int) := by omega
  have i1 : (a : Int) ≤ (bs.length : Int) := by omega
  obtain ⟨z, hz⟩ : ∃ z, a + t = z := ⟨_, rfl⟩
  have hzI : (a : Int) + (t : Int) = (z : Int) := by omega
  rw [hz] at hex2 ⊢
  have i2 : (a : Int) ≤ (z : Int) := by omega
  have i3 : (z : Int) ≤ (bs.length : Int) := by omega
  have i4 : (0 : Int) ≤ (z : Int) := by omega
  have hblt : b < w.heap.size := lt_at h
  have w1 := wrapI (z : Int) (by omega) (by omega)
  have j1 : (z : Int) < (bs.length : Int) := by omega
  have hg : ∀ h, (ByteArray.mk bs.toArray)[z]'h = bs.getD z 0 := fun h => by rw [getD_at bs z (by omega)]; rfl
  obtain ⟨x, hxx⟩ : ∃ x, bs.getD z 0 = x := ⟨_, rfl⟩
  rw [hz, hxx] at hx
  rw [hxx] at hg
  have jd : decide (z < bs.length) = true := decide_eq_true (by omega)
  have j2 : ¬ (32 : Int) ≤ (x.toNat : Int) := by omega
  clear hxx hx
  clear h hT hD hE ht hz
  unfold MPost
  go_enter Tryd.func93, Tryd.ntmps93
  go_wp2_with fail
  go_region_with (go_at_call 92; refine (N.out _).mono ?_; rintro e W2 ⟨rfl, hb2⟩; have c2' : W2.cell? ⟨b, 2, none⟩ = some (.int .i64 a) := (hb2.cell (p := ⟨b, 2, none⟩) hblt).trans c2; have f2' : W2.frozen? ⟨b, 2, none⟩ = false := (hb2.frozen (p := ⟨b, 2, none⟩) hblt).trans f2)
  all_goals
    have hF : FR b bs off z (W2.setCell ⟨b, 2, none⟩ (.int .i64 z)) := FR.set (w := W2) (a := a) ((hb2.block b hblt).trans H.out) z
    have hG : w.grownBy (W2.setCell ⟨b, 2, none⟩ (.int .i64 z)) (some b) := grown_tr (grown_below (show Below w.heap.size w W2 from ((Below.refl w.heap.size w).drew).trans hb2)) (grown_set W2 b 2 (.int .i64 z))
    obtain ⟨W5, hW5⟩ : ∃ W5, W2.setCell ⟨b, 2, none⟩ (.int .i64 z) = W5 := ⟨_, rfl⟩
    rw [hW5] at hF hG ⊢
    have e0 := hF.c0
    have e2 := hF.c2
    have g2 := hF.f2
    have HF := Lib.hid hF
    have HG := Lib.hid hG
    clear hF hG hW5 c2' f2' hb2
    go_wp2_with fail
    go_quiet (fail)
    go_wp2_with fail
    go_quiet (fail)
    go_wp2
    go_ret
    exact ⟨rfl, HF.out, grown_tr HG.out (grown_below (below_dr (below_dr (Below.refl _ _) _) _))⟩
end Go.Proofs.YtpfnmjcomdckgaaDoor

namespace Go.Proofs.YtpfnmjcomdckgaaDoor
open Go.RowKit Go.Shelf
set_option linter.unusedVariables false
set_option linter.unusedSimpArgs false

theorem tabs_grown {b : Nat} {bs : List UInt8} {off a : Nat} {w w' : World} (hT : Tabs w) (hF : FR b bs off a w) (hg : w.grownBy w' (some b)) : Tabs w' := by
  have hne : ∀ (p : Addr) (n : Int), w.cell? p = some (.int .u8 n) → p.block = b → p.off ≠ 0 := by
    rintro ⟨g, o, sp⟩ n hp rfl rfl
    have hsp : sp = none := World.cell?_spot hp
    subst hsp
    rw [hF.c0] at hp
    cases hp
  have hold : ∀ (p : Addr) (v : Value), w.cell? p = some v → p.block ≠ b → w'.cell? p = some v := fun p v hv hb => by
    have hlt : p.block < w.heap.size := World.block_lt_of_cell? w _ hv
    have := hg.block p.block hlt (fun e => hb (Option.some.inj e))
    unfold World.cell? at hv ⊢
    rw [this]
    exact hv
  have k1 := hT.1 0 (by decide)
  have k2 := (hT.2 0 (by decide)).1
  refine ⟨fun c hc => hold _ _ (hT.1 c hc) (fun e => hne _ _ k1 e rfl), fun i hi => ⟨hold _ _ (hT.2 i hi).1 (fun e => hne _ _ k2 e rfl), hold _ _ (hT.2 i hi).2 (fun e => hne _ _ k2 e rfl)⟩⟩
set_option maxRecDepth 100000 in
set_option maxHeartbeats 4000000 in
theorem text_bad (b : Nat) (bs : List UInt8) (off a t : Nat) (w : World) (h : FR b bs off a w) (h1 : 1 ≤ bs.length) (hl : bs.length ≤ 1099511627776) (ho : off ≤ 1099511627776) (ha : a ≤ bs.length) (hT : Tabs w) (ht : textLen (bs.drop a) = t) (hle : a + t ≤ bs.length)
    (hlt : a + t < bs.length) (hx : 32 ≤ (bs.getD (a + t) 0).toNat) :
    Calls Tryd.prog 93 #[.pointer (some ⟨b, 0, none⟩)] w (MPost b bs off (.bad (failAt bs off (a + t + begL (bs.drop (a + t)))) 14) w) := by
  have c0 := h.c0
  have c2 := h.c2
  have f2 := h.f2
  have hsz := size_str bs
  have hex := ext_drop bs a
  have hex2 := ext_mid bs a (a + t)
  rw [show a + t - a = t by omega] at hex2
  have N := fun W => lengthOfText_c (bs.drop a) (by rw [List.length_drop]; omega) W
  rw [ht] at N
  have F := Lib.hid (fun x W hW => failM_c b bs off x W hW h1 hl ho)
  have H := Lib.hid h
  have HT := Lib.hid hT
  obtain ⟨D, hD⟩ : ∃ D, bs.drop a = D := ⟨_, rfl⟩
  obtain ⟨E, hE⟩ : ∃ E, (bs.drop a).take t = E := ⟨_, rfl⟩
  rw [hE] at hex2
  rw [hD] at N hex
  have N := Lib.hid N
  have i0 : (0 : Int) ≤ (a : Int) := by omega
  have i1 : (a : Int) ≤ (bs.length : Int) := by omega
  obtain ⟨z, hz⟩ : ∃ z, a + t = z := ⟨_, rfl⟩
  have hzI : (a : Int) + (t : Int) = (z : Int) := by omega
  rw [hz] at hex2 ⊢
  have i2 : (a : Int) ≤ (z : Int) := by omega
  have i3 : (z : Int) ≤ (bs.length : Int) := by omega
  have i4 : (0 : Int) ≤ (z : Int) := by omega
  have hblt : b < w.heap.size := lt_at h
  have w1 := wrapI (z : Int) (by omega) (by omega)
  have j1 : (z : Int) < (bs.length : Int) := by omega
  have hg : ∀ h, (ByteArray.mk bs.toArray)[z]'h = bs.getD z 0 := fun h => by rw [getD_at bs z (by omega)]; rfl
  obtain ⟨x, hxx⟩ : ∃ x, bs.getD z 0 = x := ⟨_, rfl⟩
  rw [hz, hxx] at hx
  rw [hxx] at hg
  have jd : decide (z < bs.length) = true := decide_eq_true (by omega)
  have j2 : (32 : Int) ≤ (x.toNat : Int) := by omega
  have hex3 := ext_drop bs z
  have N2 := fun W hW => lengthOfBeginning_c (bs.drop z) (by rw [List.length_drop]; omega) W hW
  have hsl := begN_le (bs.drop z).length 0 (bs.drop z) (Nat.zero_le _)
  rw [List.length_drop] at hsl
  obtain ⟨s, hs⟩ : ∃ s, begL (bs.drop z) = s := ⟨_, rfl⟩
  unfold begL at hs
  rw [List.length_drop] at hs
  rw [hs] at hsl
  have hs' : begL (bs.drop z) = s := by unfold begL; rw [List.length_drop]; exact hs
  rw [hs'] at N2 ⊢
  obtain ⟨G, hGG⟩ : ∃ G, bs.drop z = G := ⟨_, rfl⟩
  rw [hGG] at N2 hex3
  have N2 := Lib.hid N2
  obtain ⟨y, hy⟩ : ∃ y, z + s = y := ⟨_, rfl⟩
  have hyI : (z : Int) + (s : Int) = (y : Int) := by omega
  have w4 := wrapI (y : Int) (by omega) (by omega)
  rw [hy]
  clear hxx hx hs hs' hGG
  clear h hT hD hE ht hz
  unfold MPost
  go_enter Tryd.func93, Tryd.ntmps93
  go_wp2_with fail
  go_region_with (go_at_call 92; refine (N.out _).mono ?_; rintro e W2 ⟨rfl, hb2⟩; have c2' : W2.cell? ⟨b, 2, none⟩ = some (.int .i64 a) := (hb2.cell (p := ⟨b, 2, none⟩) hblt).trans c2; have f2' : W2.frozen? ⟨b, 2, none⟩ = false := (hb2.frozen (p := ⟨b, 2, none⟩) hblt).trans f2)
  all_goals
    have hF : FR b bs off z (W2.setCell ⟨b, 2, none⟩ (.int .i64 z)) := FR.set (w := W2) (a := a) ((hb2.block b hblt).trans H.out) z
    have hG : w.grownBy (W2.setCell ⟨b, 2, none⟩ (.int .i64 z)) (some b) := grown_tr (grown_below (show Below w.heap.size w W2 from ((Below.refl w.heap.size w).drew).trans hb2)) (grown_set W2 b 2 (.int .i64 z))
    obtain ⟨W5, hW5⟩ : ∃ W5, W2.setCell ⟨b, 2, none⟩ (.int .i64 z) = W5 := ⟨_, rfl⟩
    rw [hW5] at hF hG ⊢
    have e0 := hF.c0
    have e2 := hF.c2
    have g2 := hF.f2
    have HF := Lib.hid hF
    have HG := Lib.hid hG
    clear hF hG hW5 c2' f2' hb2
    go_wp2_with fail
    go_quiet (fail)
    obtain ⟨n1, rfl⟩ : ∃ n1, n1 = nq := ⟨_, rfl⟩
    go_wp2_with fail
    go_quiet (fail)
    have t5 : Tabs W5 := tabs_grown HT.out H.out HG.out
    have hlt5 : b < ((W5.drewN n1).drewN nq).heap.size := lt_at (show ((W5.drewN n1).drewN nq).heap[b]? = _ from HF.out)
    have hF7 : FR b bs off z ((W5.drewN n1).drewN nq) := HF.out
    have hG7 : w.grownBy ((W5.drewN n1).drewN nq) (some b) := grown_tr HG.out (grown_below (below_dr (below_dr (Below.refl _ _) _) _))
    have t7 : Tabs ((W5.drewN n1).drewN nq) := t5
    obtain ⟨W7, hW7⟩ : ∃ W7, (W5.drewN n1).drewN nq = W7 := ⟨_, rfl⟩
    rw [hW7] at hlt5 hF7 hG7 t7 ⊢
    have e0 := hF7.c0
    have e2 := hF7.c2
    have g2 := hF7.f2
    have HF7 := Lib.hid hF7
    have HG7 := Lib.hid hG7
    have HT7 := Lib.hid t7
    clear hF7 hG7 t7 t5 hW7 HF HG
    go_wp2_with fail
    go_region_with (go_at_call 99; refine (N2.out (World.drew W7) HT7.out).mono ?_; rintro e W8 ⟨rfl, hb8⟩; have c2'' : W8.cell? ⟨b, 2, none⟩ = some (.int .i64 z) := (hb8.cell (p := ⟨b, 2, none⟩) hlt5).trans e2; have f2'' : W8.frozen? ⟨b, 2, none⟩ = false := (hb8.frozen (p := ⟨b, 2, none⟩) hlt5).trans g2)
    all_goals
      have hF8 : FR b bs off y (W8.setCell ⟨b, 2, none⟩ (.int .i64 y)) := FR.set (w := W8) (a := z) ((hb8.block b hlt5).trans HF7.out) y
      have hG8 : w.grownBy (W8.setCell ⟨b, 2, none⟩ (.int .i64 y)) (some b) := grown_tr HG7.out (grown_tr (grown_below (show Below W7.heap.size W7 W8 from ((Below.refl W7.heap.size W7).drew).trans hb8)) (grown_set W8 b 2 (.int .i64 y)))
      have F1 := Lib.hid (F.out y _ hF8)
      have HG8 := Lib.hid hG8
      clear hF8 hG8 c2'' f2'' hb8
      go_wp2_with fail
      refine F1.out.mono ?_
      rintro e w2 ⟨rfl, hb2⟩
      go_wp2_with fail
      exact ⟨rfl, rfl, grown_tr HG8.out (grown_below hb2)⟩
end Go.Proofs.YtpfnmjcomdckgaaDoor
