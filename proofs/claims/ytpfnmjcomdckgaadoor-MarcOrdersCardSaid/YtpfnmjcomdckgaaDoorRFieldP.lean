/-
  The field reader's field.
-/
import Derived.Test.YtpfnmjcomdckgaaDoorRSubs
import Derived.Test.YtpfnmjcomdckgaaDoorRText4
namespace Go.Proofs.YtpfnmjcomdckgaaDoor
open Go.RowKit Go.Shelf
set_option linter.unusedVariables false
set_option linter.unusedSimpArgs false

theorem text_c : TextC := by
  intro b bs off a w h h1 hl ho ha hT
  have hle := textLen_le (bs.drop a)
  rw [List.length_drop] at hle
  unfold textM
  by_cases hlt : a + textLen (bs.drop a) < bs.length
  · by_cases hx : 32 ≤ (bs.getD (a + textLen (bs.drop a)) 0).toNat
    · rw [decide_eq_true hlt, decide_eq_true hx]
      exact text_bad b bs off a _ w h h1 hl ho ha hT rfl (by omega) hlt hx
    · rw [decide_eq_true hlt, decide_eq_false hx]
      exact text_stop b bs off a _ w h h1 hl ho ha hT rfl (by omega) hlt (by omega)
  · rw [decide_eq_false hlt]
    exact text_end b bs off a _ w h h1 hl ho ha hT rfl (by omega) (by omega)
def endM (bs : List UInt8) (off a : Nat) (f : FldM) : PR FldM := match skipM bs off a 30 with
  | .bad p k => .bad p k
  | .ok _ => if a + 1 < bs.length then .bad (failAt bs off (a + 1)) 14 else .ok f
def fieldM (tag bs : List UInt8) (off : Nat) : PR FldM :=
  if ctlB tag then match textM bs off 0 with
    | .bad p k => .bad p k
    | .ok y => endM bs off y.2 ⟨tag, [], (bs.drop 0).take (textLen (bs.drop 0)), []⟩
  else match indM bs off with
    | .bad p k => .bad p k
    | .ok _ => match subsM bs off (bs.length + 1) 2 [] with
      | .bad p k => .bad p k
      | .ok y => endM bs off y.2 ⟨tag, bs.take 2, [], y.1⟩
theorem subs_of_own {w : World} {B : Nat} {v : Value} {l : List SubM} (h : w.ownsRow B 64 2 v l.length (subCells l)) : SubsAt w v l := by
  rcases h.2 with ⟨rfl, h0⟩ | ⟨g, cap, cur, rfl, hB, hg, hnc, hcm, hsz, htake⟩
  · exact .inl ⟨_, _, rfl, List.eq_nil_of_length_eq_zero h0⟩
  · refine .inr ⟨g, 0, cap, rfl, Nat.le_trans hnc hcm, lt_at hg, fun i hi => ?_⟩
    have hat : ∀ (l : List SubM) (i : Nat) (h : i < l.length), (subCells l)[i * 2]? = some (.int .u8 (l[i].code.toNat : Int)) ∧ (subCells l)[i * 2 + 1]? = some (str l[i].text) := by
      intro l
      induction l with
      | nil => intro i h; simp at h
      | cons x r ih =>
        intro i h
        cases i with
        | zero => simp [subCells]
        | succ k =>
          have := ih k (by simpa using h)
          simp only [subCells, List.flatMap_cons, List.cons_append, List.nil_append, List.getElem_cons_succ] at this ⊢
          rw [show (k + 1) * 2 = k * 2 + 1 + 1 from by omega]
          simpa using this
    obtain ⟨a0, a1⟩ := hat l i hi
    rw [← htake] at a0 a1
    rw [List.getElem?_take_of_lt (by omega)] at a0 a1
    rw [cell_at hg, cell_at hg]
    simp only [Nat.zero_add]
    exact ⟨by simpa using a0, by simpa using a1⟩
def FPost (b : Nat) (x : PR FldM) (w : World) (e : Ending) (w' : World) : Prop := match x with
  | .bad p k => e = pan p k ∧ w.grownBy w' (some b)
  | .ok f => ∃ sv, e = .returned (.agg #[str f.tag, str f.ind, str f.data, sv]) ∧ w.grownBy w' (some b) ∧ w'.ownsRow w.heap.size 64 2 sv f.subs.length (subCells f.subs)
theorem grown_own {w w4 : World} {r : Option Nat} (h : w.grownBy w4 r) {g : Nat} (hg : w.heap.size ≤ g) (j : Nat) (v : Value) : w.grownBy (w4.setCell ⟨g, j, none⟩ v) r :=
  ⟨h.os, h.tape, h.output, by have := h.size; simpa [World.setCell] using this, fun k hk hr => (Below.heap_setCell _ _ _ _ (show k ≠ g by omega)).trans (h.block k hk hr)⟩
theorem blk_set {w : World} {g : Nat} {cs : Array Value} {T : TypeId} (h : w.heap[g]? = some (.cells cs T (0, 0))) (j : Nat) (v : Value) : (w.setCell ⟨g, j, none⟩ v).heap[g]? = some (.cells (cs.setIfInBounds j v) T (0, 0)) := by
  simp [World.setCell, Array.getElem?_modify, h]
theorem far_set (w : World) (g j : Nat) (v : Value) {k : Nat} (h : k ≠ g) : (w.setCell ⟨g, j, none⟩ v).heap[k]? = w.heap[k]? := Below.heap_setCell _ _ _ _ h
theorem tabs_set {w : World} {g j : Nat} {v : Value} {cs : Array Value} {T : TypeId} {s : ByteArray} (hT : Tabs w) (hn : w.heap[g]? = some (.cells cs T (0, 0))) (h0 : cs[0]? = some (.string s)) : Tabs (w.setCell ⟨g, j, none⟩ v) := by
  have c0 : w.cell? ⟨g, 0, none⟩ = some (.string s) := by rw [cell_at hn]; exact h0
  have hne : ∀ (p : Addr) (n : Int), w.cell? p = some (.int .u8 n) → p.block = g → p.off ≠ 0 := by
    rintro ⟨g', o, sp⟩ n hp rfl rfl
    have hsp : sp = none := World.cell?_spot hp
    subst hsp
    rw [c0] at hp
    cases hp
  have hold : ∀ (p : Addr) (x : Value), w.cell? p = some x → p.block ≠ g → (w.setCell ⟨g, j, none⟩ v).cell? p = some x := fun p x hv hb => by
    unfold World.cell? at hv ⊢
    rw [far_set w g j v hb]
    exact hv
  have k1 := hT.1 0 (by decide)
  have k2 := (hT.2 0 (by decide)).1
  exact ⟨fun c hc => hold _ _ (hT.1 c hc) (fun e => hne _ _ k1 e rfl), fun i hi => ⟨hold _ _ (hT.2 i hi).1 (fun e => hne _ _ k2 e rfl), hold _ _ (hT.2 i hi).2 (fun e => hne _ _ k2 e rfl)⟩⟩
set_option maxRecDepth 100000 in
set_option maxHeartbeats 4000000 in
theorem field_ctl (b : Nat) (tag bs : List UInt8) (off : Nat) (w : World) (h : FR b bs off 0 w) (h1 : 1 ≤ bs.length) (hl : bs.length ≤ 1048576) (ho : off ≤ 1099511627776) (hT : Tabs w) (hc : ctlB tag = true) :
    Calls Tryd.prog 87 #[.pointer (some ⟨b, 0, none⟩), str tag] w (FPost b (fieldM tag bs off) w) := by
  have N0 := fun W => isControl_c tag W
  rw [hc] at N0
  have N0 := Lib.hid N0
  have hblt : b < w.heap.size := lt_at h
  obtain ⟨W3, hW3⟩ : ∃ W3, (w.alloc (.cells #[.string ⟨#[]⟩, .string ⟨#[]⟩, .string ⟨#[]⟩, .slice none 0 0] 62)).alloc (.cells #[str tag, .string ⟨#[]⟩, .string ⟨#[]⟩, .slice none 0 0] 62) = W3 := ⟨_, rfl⟩
  have hb3 : Below w.heap.size w W3 := by rw [← hW3]; exact ((Below.refl _ w).alloc (Nat.le_refl _) _).alloc (by simp) _
  have hn0 : W3.heap[w.heap.size]? = some (.cells #[.string ⟨#[]⟩, .string ⟨#[]⟩, .string ⟨#[]⟩, .slice none 0 0] 62 (0, 0)) := by rw [← hW3]; exact heap_below (below_new _ _) (new_at _ _)
  have hn1 : W3.heap[w.heap.size + 1]? = some (.cells #[str tag, .string ⟨#[]⟩, .string ⟨#[]⟩, .slice none 0 0] 62 (0, 0)) := by
    rw [← hW3]
    have := new_at (w.alloc (.cells #[.string ⟨#[]⟩, .string ⟨#[]⟩, .string ⟨#[]⟩, .slice none 0 0] 62)) (.cells #[str tag, .string ⟨#[]⟩, .string ⟨#[]⟩, .slice none 0 0] 62)
    rwa [World.size_alloc] at this
  have HW3 := Lib.hid hW3
  clear hW3
  have N1 := text_c b bs off 0 W3 (h.below hb3) h1 (by omega) ho (Nat.zero_le _) (tabs_below hT hb3)
  have HF3 := Lib.hid (h.below hb3)
  have HG3 := Lib.hid (grown_below (r := some b) hb3)
  have Hn0 := Lib.hid hn0
  have Hn1 := Lib.hid hn1
  obtain ⟨R, hR⟩ : ∃ R, fieldM tag bs off = R := ⟨_, rfl⟩
  rw [hR]
  unfold fieldM at hR
  rw [if_pos hc] at hR
  clear hc h hT hb3 hn0 hn1
  rcases textM_cases bs off 0 (Nat.zero_le _) with ⟨pp, hs⟩ | ⟨hs, hle⟩
  · rw [hs] at N1 hR
    unfold MPost at N1
    have N1 := Lib.hid N1
    have HR := Lib.hid hR
    clear hs hR
    go_enter Tryd.func87, Tryd.ntmps87
    go_wp2_with fail
    refine (N0.out _).mono ?_
    rintro e w1 ⟨rfl, rfl⟩
    go_wp2_with fail
    rw [HW3.out]
    refine N1.out.mono ?_
    rintro e w4 ⟨rfl, hg4⟩
    go_wp2_with fail
    refine ⟨rfl, ?_⟩
    rw [← HR.out]
    exact ⟨rfl, grown_tr HG3.out hg4⟩
  rw [hs] at N1 hR
  simp only at hR
  obtain ⟨T, hT9⟩ : ∃ T, (bs.drop 0).take (textLen (bs.drop 0)) = T := ⟨_, rfl⟩
  obtain ⟨t, ht⟩ : ∃ t, 0 + textLen (bs.drop 0) = t := ⟨_, rfl⟩
  rw [hT9, ht] at N1 hR
  rw [ht] at hle
  unfold MPost at N1
  have N1 := Lib.hid N1
  clear hs hT9 ht
  have N2 := fun W hW => skip_c b bs off t 30 W hW h1 (by omega) ho hle
  unfold endM at hR
  have hgr : w.heap.size ≠ b := by omega
  have hgf : w.heap.size + 1 ≠ b := by omega
  have hrf : w.heap.size ≠ w.heap.size + 1 := by omega
  have hfr : w.heap.size + 1 ≠ w.heap.size := by omega
  rcases skipM_cases bs off t 30 with hs2 | ⟨hs2, hlt⟩
  · rw [hs2] at hR
    simp only [hs2] at N2
    unfold MPost at N2
    have N2 := Lib.hid N2
    have HR := Lib.hid hR
    clear hs2 hR
    go_enter Tryd.func87, Tryd.ntmps87
    go_wp2_with fail
    refine (N0.out _).mono ?_
    rintro e w1 ⟨rfl, rfl⟩
    go_wp2_with fail
    rw [HW3.out]
    refine N1.out.mono ?_
    rintro e w4 ⟨rfl, hf4, hg4⟩
    have hn4 := (hg4.block _ (lt_at Hn1.out) (fun e => hgf (Option.some.inj e))).trans Hn1.out
    have d2 : w4.cell? ⟨w.heap.size + 1, 2, none⟩ = some (.string ⟨#[]⟩) := by rw [cell_at hn4]; rfl
    have z2 : w4.frozen? ⟨w.heap.size + 1, 2, none⟩ = false := Lib.frozen_of_heap hn4 2
    have N3 := Lib.hid (N2.out (w4.setCell ⟨w.heap.size + 1, 2, none⟩ (str T)) ((far_set w4 _ 2 _ (Ne.symm hgf)).trans hf4))
    have HG4 := Lib.hid (grown_tr HG3.out hg4)
    clear hn4 hf4 hg4
    go_wp2_with fail
    refine N3.out.mono ?_
    rintro e w5 ⟨rfl, hg5⟩
    go_wp2_with fail
    refine ⟨rfl, ?_⟩
    rw [← HR.out]
    exact ⟨rfl, grown_tr (grown_own HG4.out (by omega) 2 (str T)) hg5⟩
  rw [hs2] at hR
  simp only at hR
  simp only [hs2] at N2
  unfold MPost at N2
  have N2 := Lib.hid N2
  have hsz := size_str bs
  clear hs2
  by_cases hmore : t + 1 < bs.length
  · have jm : ((t + 1 : Nat) : Int) < (bs.length : Int) := by omega
    rw [if_pos hmore] at hR
    have HR := Lib.hid hR
    have F := Lib.hid (fun W hW => failM_c b bs off (t + 1) W hW h1 (by omega) ho)
    clear hR
    go_enter Tryd.func87, Tryd.ntmps87
    go_wp2_with fail
    refine (N0.out _).mono ?_
    rintro e w1 ⟨rfl, rfl⟩
    go_wp2_with fail
    rw [HW3.out]
    refine N1.out.mono ?_
    rintro e w4 ⟨rfl, hf4, hg4⟩
    have hn4 := (hg4.block _ (lt_at Hn1.out) (fun e => hgf (Option.some.inj e))).trans Hn1.out
    have hr4 := (hg4.block _ (lt_at Hn0.out) (fun e => hgr (Option.some.inj e))).trans Hn0.out
    have d2 : w4.cell? ⟨w.heap.size + 1, 2, none⟩ = some (.string ⟨#[]⟩) := by rw [cell_at hn4]; rfl
    have z2 : w4.frozen? ⟨w.heap.size + 1, 2, none⟩ = false := Lib.frozen_of_heap hn4 2
    have hfs : FR b bs off t (w4.setCell ⟨w.heap.size + 1, 2, none⟩ (str T)) := (far_set w4 _ 2 _ (Ne.symm hgf)).trans hf4
    have N3 := Lib.hid (N2.out _ hfs)
    have HG4 := Lib.hid (grown_own (grown_tr HG3.out hg4) (show w.heap.size ≤ w.heap.size + 1 by omega) 2 (str T))
    have Hn4 := Lib.hid (blk_set hn4 2 (str T))
    have Hr4 := Lib.hid ((far_set w4 (w.heap.size + 1) 2 (str T) hrf).trans hr4)
    clear hn4 hr4 hf4 hg4 hfs
    go_wp2_with fail
    refine N3.out.mono ?_
    rintro e w5 ⟨rfl, hf5, hg5⟩
    have hn5 := (hg5.block _ (lt_at Hn4.out) (fun e => hgf (Option.some.inj e))).trans Hn4.out
    have hr5 := (hg5.block _ (lt_at Hr4.out) (fun e => hgr (Option.some.inj e))).trans Hr4.out
    have Hn5 := Lib.hid hn5
    have Hr5 := Lib.hid hr5
    clear hn5 hr5
    have c0 := hf5.c0
    have c2 := hf5.c2
    have Hf5 := Lib.hid hf5
    have HG5 := Lib.hid (grown_tr HG4.out hg5)
    clear hf5 hg5
    go_wp2_with fail
    go_quiet (fail)
    have F1 := Lib.hid (F.out (w5.drewN nq) Hf5.out)
    go_wp2_with fail
    refine F1.out.mono ?_
    rintro e w6 ⟨rfl, hb6⟩
    go_wp2_with fail
    refine ⟨rfl, ?_⟩
    rw [← HR.out]
    exact ⟨rfl, grown_tr HG5.out (grown_below ((below_dr (Below.refl _ _) _).trans hb6))⟩
  · have jm : ¬ ((t + 1 : Nat) : Int) < (bs.length : Int) := by omega
    have jd : decide (t + 1 < bs.length) = false := decide_eq_false hmore
    rw [if_neg hmore] at hR
    have HR := Lib.hid hR
    clear hR
    go_enter Tryd.func87, Tryd.ntmps87
    go_wp2_with fail
    refine (N0.out _).mono ?_
    rintro e w1 ⟨rfl, rfl⟩
    go_wp2_with fail
    rw [HW3.out]
    refine N1.out.mono ?_
    rintro e w4 ⟨rfl, hf4, hg4⟩
    have hn4 := (hg4.block _ (lt_at Hn1.out) (fun e => hgf (Option.some.inj e))).trans Hn1.out
    have hr4 := (hg4.block _ (lt_at Hn0.out) (fun e => hgr (Option.some.inj e))).trans Hn0.out
    have d2 : w4.cell? ⟨w.heap.size + 1, 2, none⟩ = some (.string ⟨#[]⟩) := by rw [cell_at hn4]; rfl
    have z2 : w4.frozen? ⟨w.heap.size + 1, 2, none⟩ = false := Lib.frozen_of_heap hn4 2
    have hfs : FR b bs off t (w4.setCell ⟨w.heap.size + 1, 2, none⟩ (str T)) := (far_set w4 _ 2 _ (Ne.symm hgf)).trans hf4
    have N3 := Lib.hid (N2.out _ hfs)
    have HG4 := Lib.hid (grown_own (grown_tr HG3.out hg4) (show w.heap.size ≤ w.heap.size + 1 by omega) 2 (str T))
    have Hn4 := Lib.hid (blk_set hn4 2 (str T))
    have Hr4 := Lib.hid ((far_set w4 (w.heap.size + 1) 2 (str T) hrf).trans hr4)
    clear hn4 hr4 hf4 hg4 hfs
    go_wp2_with fail
    refine N3.out.mono ?_
    rintro e w5 ⟨rfl, hf5, hg5⟩
    have hn5 := (hg5.block _ (lt_at Hn4.out) (fun e => hgf (Option.some.inj e))).trans Hn4.out
    have hr5 := (hg5.block _ (lt_at Hr4.out) (fun e => hgr (Option.some.inj e))).trans Hr4.out
    have Hn5 := Lib.hid hn5
    have Hr5 := Lib.hid hr5
    clear hn5 hr5
    have c0 := hf5.c0
    have c2 := hf5.c2
    have HG5 := Lib.hid (grown_tr HG4.out hg5)
    clear hf5 hg5
    go_wp2_with fail
    go_quiet (fail)
    have hn6 : (w5.drewN nq).heap[w.heap.size + 1]? = _ := Hn5.out
    have hr6 : (w5.drewN nq).heap[w.heap.size]? = _ := Hr5.out
    have HG6 := Lib.hid (grown_tr HG5.out (grown_below (r := some b) (below_dr (Below.refl w5.heap.size w5) nq)))
    obtain ⟨W7, hW7⟩ : ∃ W7, w5.drewN nq = W7 := ⟨_, rfl⟩
    rw [hW7] at hn6 hr6 HG6 ⊢
    have b0 : W7.cell? ⟨w.heap.size + 1, 0, none⟩ = some (str tag) := by rw [cell_at hn6]; rfl
    have b1 : W7.cell? ⟨w.heap.size + 1, 1, none⟩ = some (.string ⟨#[]⟩) := by rw [cell_at hn6]; rfl
    have b2 : W7.cell? ⟨w.heap.size + 1, 2, none⟩ = some (str T) := by rw [cell_at hn6]; rfl
    have b3 : W7.cell? ⟨w.heap.size + 1, 3, none⟩ = some (.slice none 0 0) := by rw [cell_at hn6]; rfl
    have a0 : W7.cell? ⟨w.heap.size, 0, none⟩ = some (.string ⟨#[]⟩) := by rw [cell_at hr6]; rfl
    have a1 : W7.cell? ⟨w.heap.size, 1, none⟩ = some (.string ⟨#[]⟩) := by rw [cell_at hr6]; rfl
    have a2 : W7.cell? ⟨w.heap.size, 2, none⟩ = some (.string ⟨#[]⟩) := by rw [cell_at hr6]; rfl
    have a3 : W7.cell? ⟨w.heap.size, 3, none⟩ = some (.slice none 0 0) := by rw [cell_at hr6]; rfl
    have f0 : W7.frozen? ⟨w.heap.size, 0, none⟩ = false := Lib.frozen_of_heap hr6 0
    have f1 : W7.frozen? ⟨w.heap.size, 1, none⟩ = false := Lib.frozen_of_heap hr6 1
    have f2 : W7.frozen? ⟨w.heap.size, 2, none⟩ = false := Lib.frozen_of_heap hr6 2
    have f3 : W7.frozen? ⟨w.heap.size, 3, none⟩ = false := Lib.frozen_of_heap hr6 3
    clear hn6 hr6 hW7 c0 c2 Hn5 Hr5 HG5 HG4
    go_wp2
    have HG9 := Lib.hid (grown_own (grown_own (grown_own (grown_own HG6.out (Nat.le_refl _) 0 (str tag)) (Nat.le_refl _) 1 (.string ⟨#[]⟩)) (Nat.le_refl _) 2 (str T)) (Nat.le_refl _) 3 (.slice none 0 0))
    simp [bodyPost, results, Tryd.results87, go_sem, a0, a1, a2, a3]
    rw [← HR.out]
    exact ⟨.slice none 0 0, rfl, HG9.out, World.ownsRow_nil _ _ _ _⟩
end Go.Proofs.YtpfnmjcomdckgaaDoor
