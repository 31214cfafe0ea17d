/-
  The field reader's field, with indicators and subfields.
-/
import Derived.Test.YtpfnmjcomdckgaaDoorRFieldP
namespace Go.Proofs.YtpfnmjcomdckgaaDoor
open Go.RowKit Go.Shelf
set_option linter.unusedVariables false
set_option linter.unusedSimpArgs false

theorem indM_cases (bs : List UInt8) (off : Nat) : (∃ p, indM bs off = .bad p 14) ∨ (indM bs off = .ok (str (bs.take 2), 2) ∧ 2 ≤ bs.length) := by
  unfold indM
  rcases takeM_cases indB bs off 0 with h | ⟨h, hl, -⟩
  · rw [h]; exact .inl ⟨_, rfl⟩
  · rw [h]
    rcases takeM_cases indB bs off 1 with h2 | ⟨h2, hl2, -⟩
    · simp only [h2]; exact .inl ⟨_, rfl⟩
    · simp only [h2]; exact .inr ⟨trivial, by omega⟩
theorem stepM_le {bs : List UInt8} {off a : Nat} {y : SubM × Nat} (h : stepM bs off a = .ok y) : y.2 ≤ bs.length := by
  unfold stepM at h
  rcases skipM_cases bs off a 31 with h1 | ⟨h1, hl1⟩
  · rw [h1] at h; cases h
  · rw [h1] at h
    simp only at h
    rcases takeM_cases signB bs off (a + 1) with h2 | ⟨h2, hl2, -⟩
    · rw [h2] at h; cases h
    · rw [h2] at h
      simp only at h
      rcases textM_cases bs off (a + 2) (by omega) with ⟨p, h3⟩ | ⟨h3, hl3⟩
      · rw [h3] at h; cases h
      · rw [h3] at h
        cases h
        exact hl3
theorem subsM_le {bs : List UInt8} {off : Nat} : ∀ {f a : Nat} {acc : List SubM} {y : List SubM × Nat}, a ≤ bs.length → subsM bs off f a acc = .ok y → y.2 ≤ bs.length
  | 0, a, acc, y, ha, h => by cases h; exact ha
  | f + 1, a, acc, y, ha, h => by
    unfold subsM at h
    split at h
    · cases h; exact ha
    · cases hs : stepM bs off a with
      | bad p k => rw [hs] at h; cases h
      | ok z => rw [hs] at h; exact subsM_le (stepM_le hs) h
theorem own_low {w : World} {B C : Nat} {e : TypeId} {sz n : Nat} {v : Value} {xs : List Value} (h : w.ownsRow B e sz v n xs) (hC : C ≤ B) : w.ownsRow C e sz v n xs := by
  refine ⟨h.1, ?_⟩
  rcases h.2 with h0 | ⟨g, cap, cur, hv, hbg, rest⟩
  · exact .inl h0
  · exact .inr ⟨g, cap, cur, hv, Nat.le_trans hC hbg, rest⟩
theorem own_same {w w' : World} {B : Nat} {e : TypeId} {sz n : Nat} {v : Value} {xs : List Value} (h : w.ownsRow B e sz v n xs) (hs : ∀ g, B ≤ g → g < w.heap.size → w'.heap[g]? = w.heap[g]?) : w'.ownsRow B e sz v n xs := by
  refine ⟨h.1, ?_⟩
  rcases h.2 with h0 | ⟨g, cap, cur, hv, hbg, hg, rest⟩
  · exact .inl h0
  · exact .inr ⟨g, cap, cur, hv, hbg, (hs g hbg (lt_at hg)).trans hg, rest⟩
set_option maxRecDepth 100000 in
set_option maxHeartbeats 4000000 in
theorem field_var (b : Nat) (tag bs : List UInt8) (off : Nat) (w : World) (h : FR b bs off 0 w) (h1 : 1 ≤ bs.length) (hl : bs.length ≤ 1048576) (ho : off ≤ 1099511627776) (hT : Tabs w) (hc : ctlB tag = false) :
    Calls Tryd.prog 87 #[.pointer (some ⟨b, 0, none⟩), str tag] w (FPost b (fieldM tag bs off) w) := by
  have N0 := fun W => isControl_c tag W
  rw [hc] at N0
  have N0 := Lib.hid N0
  have hblt : b < w.heap.size := lt_at h
  obtain ⟨W3, hW3⟩ : ∃ W3, (w.alloc (.cells #[.string ⟨#[]⟩, .string ⟨#[]⟩, .string ⟨#[]⟩, .slice none 0 0] 62)).alloc (.cells #[str tag, .string ⟨#[]⟩, .string ⟨#[]⟩, .slice none 0 0] 62) = W3 := ⟨_, rfl⟩
  have hb3 : Below w.heap.size w W3 := by rw [← hW3]; exact ((Below.refl _ w).alloc (Nat.le_refl _) _).alloc (by simp) _
  have hn0 : W3.heap[w.heap.size]? = some (.cells #[.string ⟨#[]⟩, .string ⟨#[]⟩, .string ⟨#[]⟩, .slice none 0 0] 62 (0, 0)) := by rw [← hW3]; exact heap_below (below_new _ _) (new_at _ _)
  have hn1 : W3.heap[w.heap.size + 1]? = some (.cells #[str tag, .string ⟨#[]⟩, .string ⟨#[]⟩, .slice none 0 0] 62 (0, 0)) := by
    rw [← hW3]
    have := new_at (w.alloc (.cells #[.string ⟨#[]⟩, .string ⟨#[]⟩, .string ⟨#[]⟩, .slice none 0 0] 62)) (.cells #[str tag, .string ⟨#[]⟩, .string ⟨#[]⟩, .slice none 0 0] 62)
    rwa [World.size_alloc] at this
  have HW3 := Lib.hid hW3
  clear hW3
  have N1 := ind_c b bs off W3 (h.below hb3) h1 (by omega) ho
  have HF3 := Lib.hid (h.below hb3)
  have HT3 := Lib.hid (tabs_below hT hb3)
  have HG3 := Lib.hid (grown_below (r := some b) hb3)
  have Hn0 := Lib.hid hn0
  have Hn1 := Lib.hid hn1
  obtain ⟨R, hR⟩ : ∃ R, fieldM tag bs off = R := ⟨_, rfl⟩
  rw [hR]
  unfold fieldM at hR
  rw [if_neg (by rw [hc]; decide)] at hR
  clear hc h hT hb3 hn0 hn1
  have hgr : w.heap.size ≠ b := by omega
  have hgf : w.heap.size + 1 ≠ b := by omega
  have hrf : w.heap.size ≠ w.heap.size + 1 := by omega
  rcases indM_cases bs off with ⟨pp, hs⟩ | ⟨hs, hl2⟩
  · rw [hs] at N1 hR
    unfold MPost at N1
    have N1 := Lib.hid N1
    have HR := Lib.hid hR
    clear hs hR
    go_enter Tryd.func87, Tryd.ntmps87
    go_wp2_with fail
    refine (N0.out _).mono ?_
    rintro e w1 ⟨rfl, rfl⟩
    go_wp2_with fail
    rw [HW3.out]
    refine N1.out.mono ?_
    rintro e w4 ⟨rfl, hg4⟩
    go_wp2_with fail
    refine ⟨rfl, ?_⟩
    rw [← HR.out]
    exact ⟨rfl, grown_tr HG3.out hg4⟩
  rw [hs] at N1 hR
  simp only at hR
  unfold MPost at N1
  have N1 := Lib.hid N1
  clear hs
  have N2 := fun W hW hT => subs_c text_c b bs off 2 W hW h1 hl ho hl2 hT
  cases hss : subsM bs off (bs.length + 1) 2 [] with
  | bad pp kk =>
    rw [hss] at hR
    simp only [hss] at N2
    unfold SPost at N2
    have N2 := Lib.hid N2
    have HR := Lib.hid hR
    clear hss hR
    go_enter Tryd.func87, Tryd.ntmps87
    go_wp2_with fail
    refine (N0.out _).mono ?_
    rintro e w1 ⟨rfl, rfl⟩
    go_wp2_with fail
    rw [HW3.out]
    refine N1.out.mono ?_
    rintro e w4 ⟨rfl, hf4, hg4⟩
    have hn4 := (hg4.block _ (lt_at Hn1.out) (fun e => hgf (Option.some.inj e))).trans Hn1.out
    have hr4 := (hg4.block _ (lt_at Hn0.out) (fun e => hgr (Option.some.inj e))).trans Hn0.out
    have d2 : w4.cell? ⟨w.heap.size + 1, 1, none⟩ = some (.string ⟨#[]⟩) := by rw [cell_at hn4]; rfl
    have z2 : w4.frozen? ⟨w.heap.size + 1, 1, none⟩ = false := Lib.frozen_of_heap hn4 1
    have hfs : FR b bs off 2 (w4.setCell ⟨w.heap.size + 1, 1, none⟩ (str (bs.take 2))) := (far_set w4 _ 1 _ (Ne.symm hgf)).trans hf4
    have hT4 : Tabs (w4.setCell ⟨w.heap.size + 1, 1, none⟩ (str (bs.take 2))) := tabs_set (tabs_grown HT3.out HF3.out hg4) hn4 rfl
    have N3 := Lib.hid (N2.out _ hfs hT4)
    have HG4 := Lib.hid (grown_own (grown_tr HG3.out hg4) (show w.heap.size ≤ w.heap.size + 1 by omega) 1 (str (bs.take 2)))
    have Hn4 := Lib.hid (blk_set hn4 1 (str (bs.take 2)))
    have Hr4 := Lib.hid ((far_set w4 (w.heap.size + 1) 1 (str (bs.take 2)) hrf).trans hr4)
    have hz4 : w.heap.size + 2 ≤ (w4.setCell ⟨w.heap.size + 1, 1, none⟩ (str (bs.take 2))).heap.size := by have := lt_at Hn4.out; omega
    clear hn4 hr4 hf4 hg4 hfs hT4
    go_wp2_with fail
    obtain ⟨w5, hw5⟩ : ∃ w5, w4.setCell ⟨w.heap.size + 1, 1, none⟩ (str (bs.take 2)) = w5 := ⟨_, rfl⟩
    rw [hw5] at N3 HG4 Hn4 Hr4 hz4 ⊢
    clear hw5
    refine N3.out.mono ?_
    rintro e w6 ⟨rfl, hg6⟩
    go_wp2_with fail
    refine ⟨rfl, ?_⟩
    rw [← HR.out]
    exact ⟨rfl, grown_tr HG4.out hg6⟩
  | ok y =>
  have hq := subsM_le hl2 hss
  obtain ⟨ss, q⟩ := y
  simp only at hq
  rw [hss] at hR
  simp only at hR
  simp only [hss] at N2
  unfold SPost at N2
  have N2 := Lib.hid N2
  have N4 := fun W hW => skip_c b bs off q 30 W hW h1 (by omega) ho hq
  unfold endM at hR
  rcases skipM_cases bs off q 30 with hs2 | ⟨hs2, hlt⟩
  · rw [hs2] at hR
    simp only [hs2] at N4
    unfold MPost at N4
    have N4 := Lib.hid N4
    have HR := Lib.hid hR
    clear hss hR hs2
    go_enter Tryd.func87, Tryd.ntmps87
    go_wp2_with fail
    refine (N0.out _).mono ?_
    rintro e w1 ⟨rfl, rfl⟩
    go_wp2_with fail
    rw [HW3.out]
    refine N1.out.mono ?_
    rintro e w4 ⟨rfl, hf4, hg4⟩
    have hn4 := (hg4.block _ (lt_at Hn1.out) (fun e => hgf (Option.some.inj e))).trans Hn1.out
    have hr4 := (hg4.block _ (lt_at Hn0.out) (fun e => hgr (Option.some.inj e))).trans Hn0.out
    have d2 : w4.cell? ⟨w.heap.size + 1, 1, none⟩ = some (.string ⟨#[]⟩) := by rw [cell_at hn4]; rfl
    have z2 : w4.frozen? ⟨w.heap.size + 1, 1, none⟩ = false := Lib.frozen_of_heap hn4 1
    have hfs : FR b bs off 2 (w4.setCell ⟨w.heap.size + 1, 1, none⟩ (str (bs.take 2))) := (far_set w4 _ 1 _ (Ne.symm hgf)).trans hf4
    have hT4 : Tabs (w4.setCell ⟨w.heap.size + 1, 1, none⟩ (str (bs.take 2))) := tabs_set (tabs_grown HT3.out HF3.out hg4) hn4 rfl
    have N3 := Lib.hid (N2.out _ hfs hT4)
    have HG4 := Lib.hid (grown_own (grown_tr HG3.out hg4) (show w.heap.size ≤ w.heap.size + 1 by omega) 1 (str (bs.take 2)))
    have Hn4 := Lib.hid (blk_set hn4 1 (str (bs.take 2)))
    have Hr4 := Lib.hid ((far_set w4 (w.heap.size + 1) 1 (str (bs.take 2)) hrf).trans hr4)
    have hz4 : w.heap.size + 2 ≤ (w4.setCell ⟨w.heap.size + 1, 1, none⟩ (str (bs.take 2))).heap.size := by have := lt_at Hn4.out; omega
    clear hn4 hr4 hf4 hg4 hfs hT4
    go_wp2_with fail
    obtain ⟨w5, hw5⟩ : ∃ w5, w4.setCell ⟨w.heap.size + 1, 1, none⟩ (str (bs.take 2)) = w5 := ⟨_, rfl⟩
    rw [hw5] at N3 HG4 Hn4 Hr4 hz4 ⊢
    clear hw5
    refine N3.out.mono ?_
    rintro e w6 ⟨v, rfl, hf6, hg6, hown6⟩
    obtain ⟨va, vc, rfl⟩ := own_form hown6
    have hn6 := (hg6.block _ (lt_at Hn4.out) (fun e => hgf (Option.some.inj e))).trans Hn4.out
    have hr6 := (hg6.block _ (lt_at Hr4.out) (fun e => hgr (Option.some.inj e))).trans Hr4.out
    have d3 : w6.cell? ⟨w.heap.size + 1, 3, none⟩ = some (.slice none 0 0) := by rw [cell_at hn6]; rfl
    have z3 : w6.frozen? ⟨w.heap.size + 1, 3, none⟩ = false := Lib.frozen_of_heap hn6 3
    have hfs : FR b bs off q (w6.setCell ⟨w.heap.size + 1, 3, none⟩ (.slice va ss.length vc)) := (far_set w6 _ 3 _ (Ne.symm hgf)).trans hf6
    have N5 := Lib.hid (N4.out _ hfs)
    have HG6 := Lib.hid (grown_own (grown_tr HG4.out hg6) (show w.heap.size ≤ w.heap.size + 1 by omega) 3 (.slice va ss.length vc))
    have Hn6 := Lib.hid (blk_set hn6 3 (.slice va ss.length vc))
    have Hr6 := Lib.hid ((far_set w6 (w.heap.size + 1) 3 (.slice va ss.length vc) hrf).trans hr6)
    have Ho6 := Lib.hid (own_same hown6 (w' := w6.setCell ⟨w.heap.size + 1, 3, none⟩ (.slice va ss.length vc)) (fun g hg _ => far_set w6 _ 3 _ (by omega)))
    clear hn6 hr6 hf6 hg6 hfs hown6
    go_wp2_with fail
    obtain ⟨w7, hw7⟩ : ∃ w7, w6.setCell ⟨w.heap.size + 1, 3, none⟩ (.slice va ss.length vc) = w7 := ⟨_, rfl⟩
    rw [hw7] at N5 HG6 Hn6 Hr6 Ho6 ⊢
    clear hw7
    refine N5.out.mono ?_
    rintro e w8 ⟨rfl, hg8⟩
    go_wp2_with fail
    refine ⟨rfl, ?_⟩
    rw [← HR.out]
    exact ⟨rfl, grown_tr HG6.out hg8⟩
  rw [hs2] at hR
  simp only at hR
  simp only [hs2] at N4
  unfold MPost at N4
  have N4 := Lib.hid N4
  have hsz := size_str bs
  clear hs2 hss
  by_cases hmore : q + 1 < bs.length
  · have jm : ((q + 1 : Nat) : Int) < (bs.length : Int) := by omega
    rw [if_pos hmore] at hR
    have HR := Lib.hid hR
    have F := Lib.hid (fun W hW => failM_c b bs off (q + 1) W hW h1 (by omega) ho)
    clear hR
    go_enter Tryd.func87, Tryd.ntmps87
    go_wp2_with fail
    refine (N0.out _).mono ?_
    rintro e w1 ⟨rfl, rfl⟩
    go_wp2_with fail
    rw [HW3.out]
    refine N1.out.mono ?_
    rintro e w4 ⟨rfl, hf4, hg4⟩
    have hn4 := (hg4.block _ (lt_at Hn1.out) (fun e => hgf (Option.some.inj e))).trans Hn1.out
    have hr4 := (hg4.block _ (lt_at Hn0.out) (fun e => hgr (Option.some.inj e))).trans Hn0.out
    have d2 : w4.cell? ⟨w.heap.size + 1, 1, none⟩ = some (.string ⟨#[]⟩) := by rw [cell_at hn4]; rfl
    have z2 : w4.frozen? ⟨w.heap.size + 1, 1, none⟩ = false := Lib.frozen_of_heap hn4 1
    have hfs : FR b bs off 2 (w4.setCell ⟨w.heap.size + 1, 1, none⟩ (str (bs.take 2))) := (far_set w4 _ 1 _ (Ne.symm hgf)).trans hf4
    have hT4 : Tabs (w4.setCell ⟨w.heap.size + 1, 1, none⟩ (str (bs.take 2))) := tabs_set (tabs_grown HT3.out HF3.out hg4) hn4 rfl
    have N3 := Lib.hid (N2.out _ hfs hT4)
    have HG4 := Lib.hid (grown_own (grown_tr HG3.out hg4) (show w.heap.size ≤ w.heap.size + 1 by omega) 1 (str (bs.take 2)))
    have Hn4 := Lib.hid (blk_set hn4 1 (str (bs.take 2)))
    have Hr4 := Lib.hid ((far_set w4 (w.heap.size + 1) 1 (str (bs.take 2)) hrf).trans hr4)
    have hz4 : w.heap.size + 2 ≤ (w4.setCell ⟨w.heap.size + 1, 1, none⟩ (str (bs.take 2))).heap.size := by have := lt_at Hn4.out; omega
    clear hn4 hr4 hf4 hg4 hfs hT4
    go_wp2_with fail
    obtain ⟨w5, hw5⟩ : ∃ w5, w4.setCell ⟨w.heap.size + 1, 1, none⟩ (str (bs.take 2)) = w5 := ⟨_, rfl⟩
    rw [hw5] at N3 HG4 Hn4 Hr4 hz4 ⊢
    clear hw5
    refine N3.out.mono ?_
    rintro e w6 ⟨v, rfl, hf6, hg6, hown6⟩
    obtain ⟨va, vc, rfl⟩ := own_form hown6
    have hn6 := (hg6.block _ (lt_at Hn4.out) (fun e => hgf (Option.some.inj e))).trans Hn4.out
    have hr6 := (hg6.block _ (lt_at Hr4.out) (fun e => hgr (Option.some.inj e))).trans Hr4.out
    have d3 : w6.cell? ⟨w.heap.size + 1, 3, none⟩ = some (.slice none 0 0) := by rw [cell_at hn6]; rfl
    have z3 : w6.frozen? ⟨w.heap.size + 1, 3, none⟩ = false := Lib.frozen_of_heap hn6 3
    have hfs : FR b bs off q (w6.setCell ⟨w.heap.size + 1, 3, none⟩ (.slice va ss.length vc)) := (far_set w6 _ 3 _ (Ne.symm hgf)).trans hf6
    have N5 := Lib.hid (N4.out _ hfs)
    have HG6 := Lib.hid (grown_own (grown_tr HG4.out hg6) (show w.heap.size ≤ w.heap.size + 1 by omega) 3 (.slice va ss.length vc))
    have Hn6 := Lib.hid (blk_set hn6 3 (.slice va ss.length vc))
    have Hr6 := Lib.hid ((far_set w6 (w.heap.size + 1) 3 (.slice va ss.length vc) hrf).trans hr6)
    have Ho6 := Lib.hid (own_same hown6 (w' := w6.setCell ⟨w.heap.size + 1, 3, none⟩ (.slice va ss.length vc)) (fun g hg _ => far_set w6 _ 3 _ (by omega)))
    clear hn6 hr6 hf6 hg6 hfs hown6
    go_wp2_with fail
    obtain ⟨w7, hw7⟩ : ∃ w7, w6.setCell ⟨w.heap.size + 1, 3, none⟩ (.slice va ss.length vc) = w7 := ⟨_, rfl⟩
    rw [hw7] at N5 HG6 Hn6 Hr6 Ho6 ⊢
    clear hw7
    refine N5.out.mono ?_
    rintro e w8 ⟨rfl, hf8, hg8⟩
    have Hn8 := Lib.hid ((hg8.block _ (lt_at Hn6.out) (fun e => hgf (Option.some.inj e))).trans Hn6.out)
    have Hr8 := Lib.hid ((hg8.block _ (lt_at Hr6.out) (fun e => hgr (Option.some.inj e))).trans Hr6.out)
    have Ho8 := Lib.hid (own_same Ho6.out (fun g hg hlt => hg8.block g hlt (fun e => by have := Option.some.inj e; omega)))
    have c0 := hf8.c0
    have c2 := hf8.c2
    have Hf8 := Lib.hid hf8
    have HG8 := Lib.hid (grown_tr HG6.out hg8)
    clear hf8 hg8
    go_wp2_with fail
    go_quiet (fail)
    have F1 := Lib.hid (F.out (w8.drewN nq) Hf8.out)
    go_wp2_with fail
    refine F1.out.mono ?_
    rintro e w9 ⟨rfl, hb9⟩
    go_wp2_with fail
    refine ⟨rfl, ?_⟩
    rw [← HR.out]
    exact ⟨rfl, grown_tr HG8.out (grown_below ((below_dr (Below.refl _ _) _).trans hb9))⟩
  · have jm : ¬ ((q + 1 : Nat) : Int) < (bs.length : Int) := by omega
    have jd : decide (q + 1 < bs.length) = false := decide_eq_false hmore
    rw [if_neg hmore] at hR
    have HR := Lib.hid hR
    clear hR
    go_enter Tryd.func87, Tryd.ntmps87
    go_wp2_with fail
    refine (N0.out _).mono ?_
    rintro e w1 ⟨rfl, rfl⟩
    go_wp2_with fail
    rw [HW3.out]
    refine N1.out.mono ?_
    rintro e w4 ⟨rfl, hf4, hg4⟩
    have hn4 := (hg4.block _ (lt_at Hn1.out) (fun e => hgf (Option.some.inj e))).trans Hn1.out
    have hr4 := (hg4.block _ (lt_at Hn0.out) (fun e => hgr (Option.some.inj e))).trans Hn0.out
    have d2 : w4.cell? ⟨w.heap.size + 1, 1, none⟩ = some (.string ⟨#[]⟩) := by rw [cell_at hn4]; rfl
    have z2 : w4.frozen? ⟨w.heap.size + 1, 1, none⟩ = false := Lib.frozen_of_heap hn4 1
    have hfs : FR b bs off 2 (w4.setCell ⟨w.heap.size + 1, 1, none⟩ (str (bs.take 2))) := (far_set w4 _ 1 _ (Ne.symm hgf)).trans hf4
    have hT4 : Tabs (w4.setCell ⟨w.heap.size + 1, 1, none⟩ (str (bs.take 2))) := tabs_set (tabs_grown HT3.out HF3.out hg4) hn4 rfl
    have N3 := Lib.hid (N2.out _ hfs hT4)
    have HG4 := Lib.hid (grown_own (grown_tr HG3.out hg4) (show w.heap.size ≤ w.heap.size + 1 by omega) 1 (str (bs.take 2)))
    have Hn4 := Lib.hid (blk_set hn4 1 (str (bs.take 2)))
    have Hr4 := Lib.hid ((far_set w4 (w.heap.size + 1) 1 (str (bs.take 2)) hrf).trans hr4)
    have hz4 : w.heap.size + 2 ≤ (w4.setCell ⟨w.heap.size + 1, 1, none⟩ (str (bs.take 2))).heap.size := by have := lt_at Hn4.out; omega
    clear hn4 hr4 hf4 hg4 hfs hT4
    go_wp2_with fail
    obtain ⟨w5, hw5⟩ : ∃ w5, w4.setCell ⟨w.heap.size + 1, 1, none⟩ (str (bs.take 2)) = w5 := ⟨_, rfl⟩
    rw [hw5] at N3 HG4 Hn4 Hr4 hz4 ⊢
    clear hw5
    refine N3.out.mono ?_
    rintro e w6 ⟨v, rfl, hf6, hg6, hown6⟩
    obtain ⟨va, vc, rfl⟩ := own_form hown6
    have hn6 := (hg6.block _ (lt_at Hn4.out) (fun e => hgf (Option.some.inj e))).trans Hn4.out
    have hr6 := (hg6.block _ (lt_at Hr4.out) (fun e => hgr (Option.some.inj e))).trans Hr4.out
    have d3 : w6.cell? ⟨w.heap.size + 1, 3, none⟩ = some (.slice none 0 0) := by rw [cell_at hn6]; rfl
    have z3 : w6.frozen? ⟨w.heap.size + 1, 3, none⟩ = false := Lib.frozen_of_heap hn6 3
    have hfs : FR b bs off q (w6.setCell ⟨w.heap.size + 1, 3, none⟩ (.slice va ss.length vc)) := (far_set w6 _ 3 _ (Ne.symm hgf)).trans hf6
    have N5 := Lib.hid (N4.out _ hfs)
    have HG6 := Lib.hid (grown_own (grown_tr HG4.out hg6) (show w.heap.size ≤ w.heap.size + 1 by omega) 3 (.slice va ss.length vc))
    have Hn6 := Lib.hid (blk_set hn6 3 (.slice va ss.length vc))
    have Hr6 := Lib.hid ((far_set w6 (w.heap.size + 1) 3 (.slice va ss.length vc) hrf).trans hr6)
    have Ho6 := Lib.hid (own_same hown6 (w' := w6.setCell ⟨w.heap.size + 1, 3, none⟩ (.slice va ss.length vc)) (fun g hg _ => far_set w6 _ 3 _ (by omega)))
    clear hn6 hr6 hf6 hg6 hfs hown6
    go_wp2_with fail
    obtain ⟨w7, hw7⟩ : ∃ w7, w6.setCell ⟨w.heap.size + 1, 3, none⟩ (.slice va ss.length vc) = w7 := ⟨_, rfl⟩
    rw [hw7] at N5 HG6 Hn6 Hr6 Ho6 ⊢
    clear hw7
    refine N5.out.mono ?_
    rintro e w8 ⟨rfl, hf8, hg8⟩
    have Hn8 := Lib.hid ((hg8.block _ (lt_at Hn6.out) (fun e => hgf (Option.some.inj e))).trans Hn6.out)
    have Hr8 := Lib.hid ((hg8.block _ (lt_at Hr6.out) (fun e => hgr (Option.some.inj e))).trans Hr6.out)
    have Ho8 := Lib.hid (own_same Ho6.out (fun g hg hlt => hg8.block g hlt (fun e => by have := Option.some.inj e; omega)))
    have c0 := hf8.c0
    have c2 := hf8.c2
    have Hf8 := Lib.hid hf8
    have HG8 := Lib.hid (grown_tr HG6.out hg8)
    clear hf8 hg8
    go_wp2_with fail
    go_quiet (fail)
    have hn6 : (w8.drewN nq).heap[w.heap.size + 1]? = _ := Hn8.out
    have hr6 : (w8.drewN nq).heap[w.heap.size]? = _ := Hr8.out
    have Ho9 := Lib.hid (own_same (w' := w8.drewN nq) Ho8.out (fun g _ _ => rfl))
    have HG9 := Lib.hid (grown_tr HG8.out (grown_below (r := some b) (below_dr (Below.refl w8.heap.size w8) nq)))
    obtain ⟨W7, hW7⟩ : ∃ W7, w8.drewN nq = W7 := ⟨_, rfl⟩
    rw [hW7] at hn6 hr6 HG9 Ho9 ⊢
    have b0 : W7.cell? ⟨w.heap.size + 1, 0, none⟩ = some (str tag) := by rw [cell_at hn6]; rfl
    have b1 : W7.cell? ⟨w.heap.size + 1, 1, none⟩ = some (str (bs.take 2)) := by rw [cell_at hn6]; rfl
    have b2 : W7.cell? ⟨w.heap.size + 1, 2, none⟩ = some (.string ⟨#[]⟩) := by rw [cell_at hn6]; rfl
    have b3 : W7.cell? ⟨w.heap.size + 1, 3, none⟩ = some (.slice va ss.length vc) := by rw [cell_at hn6]; rfl
    have a0 : W7.cell? ⟨w.heap.size, 0, none⟩ = some (.string ⟨#[]⟩) := by rw [cell_at hr6]; rfl
    have a1 : W7.cell? ⟨w.heap.size, 1, none⟩ = some (.string ⟨#[]⟩) := by rw [cell_at hr6]; rfl
    have a2 : W7.cell? ⟨w.heap.size, 2, none⟩ = some (.string ⟨#[]⟩) := by rw [cell_at hr6]; rfl
    have a3 : W7.cell? ⟨w.heap.size, 3, none⟩ = some (.slice none 0 0) := by rw [cell_at hr6]; rfl
    have f0 : W7.frozen? ⟨w.heap.size, 0, none⟩ = false := Lib.frozen_of_heap hr6 0
    have f1 : W7.frozen? ⟨w.heap.size, 1, none⟩ = false := Lib.frozen_of_heap hr6 1
    have f2 : W7.frozen? ⟨w.heap.size, 2, none⟩ = false := Lib.frozen_of_heap hr6 2
    have f3 : W7.frozen? ⟨w.heap.size, 3, none⟩ = false := Lib.frozen_of_heap hr6 3
    clear hn6 hr6 hW7 c0 c2 Hn8 Hr8 HG8 HG4 HG6 Hn4 Hr4 Hn6 Hr6 Ho6 Ho8 Hf8
    have Hz4 := Lib.hid hz4
    clear hz4
    go_wp2
    have HG10 := Lib.hid (grown_own (grown_own (grown_own (grown_own HG9.out (Nat.le_refl _) 0 (str tag)) (Nat.le_refl _) 1 (str (bs.take 2))) (Nat.le_refl _) 2 (.string ⟨#[]⟩)) (Nat.le_refl _) 3 (.slice va ss.length vc))
    have Ho10 := own_same (w' := (((W7.setCell ⟨w.heap.size, 0, none⟩ (str tag)).setCell ⟨w.heap.size, 1, none⟩ (str (bs.take 2))).setCell ⟨w.heap.size, 2, none⟩ (.string ⟨#[]⟩)).setCell ⟨w.heap.size, 3, none⟩ (.slice va ss.length vc)) Ho9.out
      (fun g hg _ => by have := Hz4.out; rw [far_set _ _ _ _ (show g ≠ w.heap.size by omega), far_set _ _ _ _ (show g ≠ w.heap.size by omega), far_set _ _ _ _ (show g ≠ w.heap.size by omega), far_set _ _ _ _ (show g ≠ w.heap.size by omega)])
    have Hsub := Lib.hid (own_low Ho10 (show w.heap.size ≤ _ by have := Hz4.out; omega))
    clear Ho10
    simp [bodyPost, results, Tryd.results87, go_sem, a0, a1, a2, a3]
    rw [← HR.out]
    exact ⟨.slice va ss.length vc, rfl, HG10.out, Hsub.out⟩
theorem field_c (b : Nat) (tag bs : List UInt8) (off : Nat) (w : World) (h : FR b bs off 0 w) (h1 : 1 ≤ bs.length) (hl : bs.length ≤ 1048576) (ho : off ≤ 1099511627776) (hT : Tabs w) :
    Calls Tryd.prog 87 #[.pointer (some ⟨b, 0, none⟩), str tag] w (FPost b (fieldM tag bs off) w) := by
  cases hc : ctlB tag with
  | true => exact field_ctl b tag bs off w h h1 hl ho hT hc
  | false => exact field_var b tag bs off w h h1 hl ho hT hc
end Go.Proofs.YtpfnmjcomdckgaaDoor
