/-
  The field reader's subfields.
-/
import Derived.Test.YtpfnmjcomdckgaaDoorRFld
import Derived.Test.YtpfnmjcomdckgaaDoorRPDir
import Derived.Laws.AppendOwn
import Derived.Laws.MakeOwn
namespace Go.Proofs.YtpfnmjcomdckgaaDoor
open Go.RowKit Go.Shelf
set_option linter.unusedVariables false
set_option linter.unusedSimpArgs false

/-- What text's contract says (it is proved where it is used). -/
def TextC : Prop := ∀ (b : Nat) (bs : List UInt8) (off a : Nat) (w : World), FR b bs off a w → 1 ≤ bs.length → bs.length ≤ 1099511627776 → off ≤ 1099511627776 → a ≤ bs.length → Tabs w →
    Calls Tryd.prog 93 #[.pointer (some ⟨b, 0, none⟩)] w (MPost b bs off (textM bs off a) w)
theorem skipM_cases (bs : List UInt8) (off a : Nat) (c : UInt8) : (skipM bs off a c = .bad (failAt bs off a) 14) ∨ (skipM bs off a c = .ok (.tuple #[], a + 1) ∧ a < bs.length) := by
  unfold skipM seesB
  by_cases h : (decide (a < bs.length) && (bs.getD a 0 == c)) = true
  · rw [if_pos h]
    simp only [Bool.and_eq_true, decide_eq_true_eq] at h
    exact .inr ⟨rfl, h.1⟩
  · rw [if_neg h]; exact .inl rfl
theorem textM_cases (bs : List UInt8) (off a : Nat) (ha : a ≤ bs.length) : (∃ p, textM bs off a = .bad p 14) ∨ (textM bs off a = .ok (str ((bs.drop a).take (textLen (bs.drop a))), a + textLen (bs.drop a)) ∧ a + textLen (bs.drop a) ≤ bs.length) := by
  unfold textM
  have := textLen_le (bs.drop a)
  rw [List.length_drop] at this
  split
  · exact .inl ⟨_, rfl⟩
  · exact .inr ⟨rfl, by omega⟩
/-- One subfield, from a place on. -/
def stepM (bs : List UInt8) (off a : Nat) : PR (SubM × Nat) := match skipM bs off a 31 with
  | .bad p k => .bad p k
  | .ok _ => match takeM signB bs off (a + 1) with
    | .bad p k => .bad p k
    | .ok _ => match textM bs off (a + 2) with
      | .bad p k => .bad p k
      | .ok y => .ok (⟨bs.getD (a + 1) 0, (bs.drop (a + 2)).take (textLen (bs.drop (a + 2)))⟩, y.2)
def subsM (bs : List UInt8) (off : Nat) : Nat → Nat → List SubM → PR (List SubM × Nat)
  | 0, a, acc => .ok (acc, a)
  | f + 1, a, acc =>
    if !acc.isEmpty && seesB bs a 30 then .ok (acc, a)
    else match stepM bs off a with
      | .bad p k => .bad p k
      | .ok y => subsM bs off f y.2 (acc ++ [y.1])
def subCells (l : List SubM) : List Value := l.flatMap fun s => [.int .u8 (s.code.toNat : Int), str s.text]
theorem subCells_snoc (l : List SubM) (s : SubM) : subCells (l ++ [s]) = subCells l ++ [.int .u8 (s.code.toNat : Int), str s.text] := by simp [subCells]
theorem tabs_gr {b : Nat} {bs : List UInt8} {off a : Nat} {w w' : World} (hT : Tabs w) (hF : FR b bs off a w) (hg : w.grownBy w' (some b)) : Tabs w' := by
  have hne : ∀ (p : Addr) (n : Int), w.cell? p = some (.int .u8 n) → p.block = b → p.off ≠ 0 := by
    rintro ⟨g, o, sp⟩ n hp rfl rfl
    have hsp : sp = none := World.cell?_spot hp
    subst hsp
    rw [hF.c0] at hp
    cases hp
  have hold : ∀ (p : Addr) (v : Value), w.cell? p = some v → p.block ≠ b → w'.cell? p = some v := fun p v hv hb => by
    have hlt : p.block < w.heap.size := World.block_lt_of_cell? w _ hv
    have := hg.block p.block hlt (fun e => hb (Option.some.inj e))
    unfold World.cell? at hv ⊢
    rw [this]
    exact hv
  have k1 := hT.1 0 (by decide)
  have k2 := (hT.2 0 (by decide)).1
  refine ⟨fun c hc => hold _ _ (hT.1 c hc) (fun e => hne _ _ k1 e rfl), fun i hi => ⟨hold _ _ (hT.2 i hi).1 (fun e => hne _ _ k2 e rfl), hold _ _ (hT.2 i hi).2 (fun e => hne _ _ k2 e rfl)⟩⟩
def SPost (b : Nat) (bs : List UInt8) (off : Nat) (x : PR (List SubM × Nat)) (w : World) (e : Ending) (w' : World) : Prop := match x with
  | .bad p k => e = pan p k ∧ w.grownBy w' (some b)
  | .ok y => ∃ v, e = .returned v ∧ FR b bs off y.2 w' ∧ w.grownBy w' (some b) ∧ w'.ownsRow w.heap.size 64 2 v y.1.length (subCells y.1)
theorem infoSub : (Tryd.prog.info? 64).map (fun i => (i.zero, i.size, i.bytes)) = some (some (.agg #[.int .u8 0, .string ⟨#[]⟩]), 2, 24) := by kernel_rfl
/-- Where the reader stands. -/
def posOf (b : Nat) (w : World) : Nat := match w.cell? ⟨b, 2, none⟩ with
  | some (.int _ n) => n.toNat
  | _ => 0
theorem own_form {w : World} {B : Nat} {e : TypeId} {sz n : Nat} {v : Value} {xs : List Value} (h : w.ownsRow B e sz v n xs) : ∃ a cap, v = .slice a n cap := by
  rcases h.2 with ⟨rfl, h0⟩ | ⟨g, cap, cur, rfl, _⟩
  · exact ⟨none, 0, by rw [h0]⟩
  · exact ⟨_, _, rfl⟩
theorem posOf_eq {b : Nat} {bs : List UInt8} {off a : Nat} {w : World} (h : FR b bs off a w) : posOf b w = a := by
  unfold posOf; rw [h.c2]; simp
theorem subsM_stop {bs : List UInt8} {off f a : Nat} {acc : List SubM} (h : acc ≠ []) (hs : seesB bs a 30 = true) : subsM bs off (f + 1) a acc = .ok (acc, a) := by
  have : (!acc.isEmpty && seesB bs a 30) = true := by rw [hs]; simpa using h
  exact if_pos this
theorem subsM_go {bs : List UInt8} {off f a : Nat} {acc : List SubM} (h : (!acc.isEmpty && seesB bs a 30) = false) : subsM bs off (f + 1) a acc = (match stepM bs off a with | .bad p k => .bad p k | .ok y => subsM bs off f y.2 (acc ++ [y.1])) := if_neg (by rw [h]; decide)
set_option maxRecDepth 100000 in
set_option maxHeartbeats 4000000 in
theorem subs_c (hTx : TextC) (b : Nat) (bs : List UInt8) (off a : Nat) (w : World) (h : FR b bs off a w) (h1 : 1 ≤ bs.length) (hl : bs.length ≤ 1048576) (ho : off ≤ 1099511627776) (ha : a ≤ bs.length) (hT : Tabs w) :
    Calls Tryd.prog 95 #[.pointer (some ⟨b, 0, none⟩)] w (SPost b bs off (subsM bs off (bs.length + 1) a []) w) := by
  have c0 := h.c0
  have H := Lib.hid h
  have HT := Lib.hid hT
  have N := Lib.hid (countOne ⟨bs.toArray⟩ 31 w)
  clear h hT
  obtain ⟨R, hR⟩ : ∃ R, subsM bs off (bs.length + 1) a [] = R := ⟨_, rfl⟩
  rw [hR]
  have HR := Lib.hid hR
  clear hR
  go_enter Tryd.func95, Tryd.ntmps95
  go_wp2_with fail
  refine N.out.mono ?_
  rintro e w1 ⟨rfl, rfl⟩
  have hcb : Lib.countByte (ByteArray.mk bs.toArray).data.toList 31 ≤ bs.length := List.count_le_length
  obtain ⟨n, hn⟩ : ∃ n, Lib.countByte (ByteArray.mk bs.toArray).data.toList 31 = n := ⟨_, rfl⟩
  rw [hn] at hcb ⊢
  obtain ⟨i0', hi, hz0, hz1, hz2⟩ := info_parts infoSub
  obtain ⟨w2, hrun, hown2, hg2⟩ := run_make_own (P := Tryd.prog) w1 w1.heap.size 60 64 i0' _ 2 Tryd.underlying60 hi hz0 hz1 .i64 .i64 n (by rw [hz2]; omega) (by unfold maxLen; omega) (Nat.le_refl _)
  have hF2 : FR b bs off a w2 := (hg2.block b (lt_at H.out) (fun e => by cases e)).trans H.out
  have hG2 : w1.grownBy w2 (some b) := ⟨hg2.os, hg2.tape, hg2.output, hg2.size, fun k hk _ => hg2.block k hk (fun e => by cases e)⟩
  have hT2 := tabs_gr HT.out H.out hG2
  have Hown2 := Lib.hid hown2
  have HF2 := Lib.hid hF2
  have HG2 := Lib.hid hG2
  have HT2 := Lib.hid hT2
  have Hi := Lib.hid (show ∃ i, Tryd.prog.info? 64 = some i ∧ i.zero = some (.agg #[.int .u8 0, .string ⟨#[]⟩]) ∧ i.size = 2 ∧ i.bytes = 24 from ⟨i0', hi, hz0, hz1, hz2⟩)
  clear hown2 hF2 hG2 hT2 hg2 hi hz0 hz1 hz2 N hn c0
  go_wp2_with fail
  go_loopw [3] (fun sv wr => ∃ (q f : Nat) (acc : List SubM), FR b bs off q wr ∧ q ≤ bs.length ∧ acc.length ≤ q ∧ bs.length + 1 ≤ q + f ∧ w1.grownBy wr (some b) ∧ wr.ownsRow w1.heap.size 64 2 sv acc.length (subCells acc) ∧ Tabs wr ∧ R = subsM bs off f q acc) (fun _ wr => bs.length - posOf b wr)
  case atStart => exact ⟨a, bs.length + 1, [], HF2.out, ha, Nat.zero_le _, by omega, HG2.out, Hown2.out, HT2.out, HR.out.symm⟩
  case round =>
    obtain ⟨q, f, acc, hfr, hq, hacc, hf, hg, hown, ht, hres⟩ := hrel
    clear HF2 HG2 Hown2 HT2 HR hrun
    obtain ⟨f, rfl⟩ : ∃ g, f = g + 1 := ⟨f - 1, by omega⟩
    have hblt : b < w1.heap.size := lt_at H.out
    have hposr := hfr
    obtain ⟨ao, cap, rfl⟩ := own_form hown
    by_cases he : acc = []
    · have iz : ((acc.length : Int) == 0) = true := by rw [he]; rfl
      have hgo := hres.trans (subsM_go (by rw [he]; rfl))
      obtain ⟨WW, hWW⟩ : ∃ W, W = wr := ⟨_, rfl⟩
      subst hWW
      have Hg := Lib.hid hg
      have Hown := Lib.hid hown
      have Ht := Lib.hid ht
      clear hres hg hown ht he
      unfold stepM at hgo
      have N1 := skip_c b bs off q 31 WW hfr h1 (by omega) ho hq
      rcases skipM_cases bs off q 31 with hs1 | ⟨hs1, hlt1⟩
      · rw [hs1] at N1 hgo
        unfold MPost at N1
        have N1 := Lib.hid N1
        have Hgo := Lib.hid hgo
        clear hs1 hgo
        go_wp2_with fail
        refine N1.out.mono ?_
        rintro e w8 ⟨rfl, hg8⟩
        go_wp2_with fail
        refine ⟨rfl, ?_⟩
        rw [Hgo.out]
        exact ⟨rfl, grown_tr Hg.out hg8⟩
      rw [hs1] at N1 hgo
      simp only at hgo
      have N2 := fun W hW => take_c _ signB enterSign isSign_c b bs off (q + 1) W hW h1 (by omega) ho (by omega)
      rcases takeM_cases signB bs off (q + 1) with hs2 | ⟨hs2, hlt2, -⟩
      · rw [hs2] at hgo
        simp only [hs2] at N2
        unfold MPost at N1 N2
        have N1 := Lib.hid N1
        have N2 := Lib.hid N2
        have Hgo := Lib.hid hgo
        clear hs1 hgo hs2
        go_wp2_with fail
        refine N1.out.mono ?_
        rintro e w8 ⟨rfl, hf8, hg8⟩
        have N3 := Lib.hid (N2.out w8 hf8)
        have Hg8 := Lib.hid (grown_tr Hg.out hg8)
        clear hf8 hg8
        go_wp2_with fail
        refine N3.out.mono ?_
        rintro e w9 ⟨rfl, hg9⟩
        go_wp2_with fail
        refine ⟨rfl, ?_⟩
        rw [Hgo.out]
        exact ⟨rfl, grown_tr Hg8.out hg9⟩
      rw [hs2] at hgo
      simp only at hgo
      have N4 := fun W hW => hTx b bs off (q + 2) W hW h1 (by omega) ho (by omega)
      rcases textM_cases bs off (q + 2) (by omega) with ⟨pp, hs3⟩ | ⟨hs3, hle3⟩
      · rw [hs3] at hgo
        simp only [hs2] at N2
        simp only [hs3] at N4
        unfold MPost at N1 N2 N4
        have N1 := Lib.hid N1
        have N2 := Lib.hid N2
        have N4 := Lib.hid N4
        have Hgo := Lib.hid hgo
        have Hfr := Lib.hid hfr
        clear hs1 hgo hs2 hs3
        go_wp2_with fail
        refine N1.out.mono ?_
        rintro e w8 ⟨rfl, hf8, hg8⟩
        have N3 := Lib.hid (N2.out w8 hf8)
        have Ht8 := Lib.hid (tabs_gr Ht.out Hfr.out hg8)
        have Hf8 := Lib.hid hf8
        have Hg8 := Lib.hid (grown_tr Hg.out hg8)
        clear hf8 hg8
        go_wp2_with fail
        refine N3.out.mono ?_
        rintro e w9 ⟨rfl, hf9, hg9⟩
        have N5 := Lib.hid (N4.out w9 hf9 (tabs_gr Ht8.out Hf8.out hg9))
        have Hg9 := Lib.hid (grown_tr Hg8.out hg9)
        clear hf9 hg9
        go_wp2_with fail
        refine N5.out.mono ?_
        rintro e w10 ⟨rfl, hg10⟩
        go_wp2_with fail
        refine ⟨rfl, ?_⟩
        rw [Hgo.out]
        exact ⟨rfl, grown_tr Hg9.out hg10⟩
      rw [hs3] at hgo
      simp only at hgo
      simp only [hs2] at N2
      simp only [hs3] at N4
      unfold MPost at N1 N2 N4
      obtain ⟨x, hx⟩ : ∃ x, bs.getD (q + 1) 0 = x := ⟨_, rfl⟩
      obtain ⟨t, ht⟩ : ∃ t, textLen (bs.drop (q + 2)) = t := ⟨_, rfl⟩
      rw [ht] at N4 hgo hle3
      obtain ⟨T, hT9⟩ : ∃ T, (bs.drop (q + 2)).take t = T := ⟨_, rfl⟩
      rw [hx] at N2 hgo
      rw [hT9] at N4 hgo
      have N1 := Lib.hid N1
      have N2 := Lib.hid N2
      have N4 := Lib.hid N4
      have Hgo := Lib.hid hgo
      have Hfr := Lib.hid hfr
      have Hposr := Lib.hid (posOf_eq hposr)
      clear hs1 hgo hs2 hs3 hx ht hT9 hposr
      go_wp2_with fail
      refine N1.out.mono ?_
      rintro e w8 ⟨rfl, hf8, hg8⟩
      have N3 := Lib.hid (N2.out w8 hf8)
      have Ht8 := Lib.hid (tabs_gr Ht.out Hfr.out hg8)
      have Hf8 := Lib.hid hf8
      have Hg8 := Lib.hid (grown_tr Hg.out hg8)
      have Ho8 := Lib.hid (Hown.out.kept hg8 (.inr (fun e => by have := (Hown.out.lt b e).1; omega)))
      clear hf8 hg8
      go_wp2_with fail
      refine N3.out.mono ?_
      rintro e w9 ⟨rfl, hf9, hg9⟩
      have N5 := Lib.hid (N4.out w9 hf9 (tabs_gr Ht8.out Hf8.out hg9))
      have Ht9 := Lib.hid (tabs_gr Ht8.out Hf8.out hg9)
      have Hf9 := Lib.hid hf9
      have Hg9 := Lib.hid (grown_tr Hg8.out hg9)
      have Ho9 := Lib.hid (Ho8.out.kept hg9 (.inr (fun e => by have := (Ho8.out.lt b e).1; omega)))
      clear hf9 hg9
      go_wp2_with fail
      refine N5.out.mono ?_
      rintro e w10 ⟨rfl, hf10, hg10⟩
      have hown5 := Ho9.out.kept hg10 (.inr (fun e => by have := (Ho9.out.lt b e).1; omega))
      have hG10 := grown_tr Hg9.out hg10
      have hT10 := tabs_gr Ht9.out Hf9.out hg10
      have hwl := hG10.size
      obtain ⟨i0', hi, hz0, hz1, hz2⟩ := Hi.out
      have hcells : ∀ (j : Nat) (u : Value), [Value.int .u8 (x.toNat : Int), str T][j]? = some u → (w10.alloc (.cells #[.int .u8 (x.toNat : Int), str T] 64)).cell? ((⟨w10.heap.size, 0, none⟩ : Addr).add j) = some u := by
        intro j u hu
        have hj : j < 2 := by
          rcases Nat.lt_or_ge j 2 with h | h
          · exact h
          · rw [List.getElem?_eq_none (by simpa using h)] at hu; cases hu
        match j, hj with
        | 0, _ => cases hu; rw [show ((⟨w10.heap.size, 0, none⟩ : Addr).add 0) = ⟨w10.heap.size, 0, none⟩ from rfl, cell_at (new_at _ _)]; rfl
        | 1, _ => cases hu; rw [show ((⟨w10.heap.size, 0, none⟩ : Addr).add 1) = ⟨w10.heap.size, 1, none⟩ from rfl, cell_at (new_at _ _)]; rfl
      have Hown5 := Lib.hid hown5
      have HG10 := Lib.hid hG10
      have HT10 := Lib.hid hT10
      have Hf10 := Lib.hid hf10
      have Hcells := Lib.hid hcells
      clear hown5 hG10 hT10 hf10 hcells hg10 Hown Ho8 Ho9 Hg Hg8 Hg9 Ht Ht8 Ht9 Hf8 Hf9
      go_wp2_with (at_builtin; refine wpList_append_own _ rfl _ _ 60 rfl w1.heap.size 64 i0' _ 2 24 Tryd.underlying60 hi hz0 hz1 hz2 rfl (by decide) _ _ _ rfl (Hown5.out.alloc _) ⟨w10.heap.size, 0, none⟩ 1 1 [.int .u8 (x.toNat : Int), str T] rfl rfl ?c1 ?c2 ?c3 ?c4 ?c5 ?_)
      case c1 => exact Hcells.out
      case c2 => simp [Value.oneCell']
      case c3 => unfold maxLen; omega
      case c4 => omega
      case c5 => simp; omega
      intro v' w4 hown4 hgrow _
      have hblt10 : b < w10.heap.size := lt_at Hf10.out
      have hG4 : w1.grownBy w4 (some b) := ⟨hgrow.os.trans HG10.out.os, hgrow.tape.trans HG10.out.tape, hgrow.output.trans HG10.out.output, Nat.le_trans hwl (Nat.le_trans (by simp) hgrow.size),
        fun k hk hkb => ((hgrow.block k (by simp; omega) (fun e => by have := (Hown5.out.lt k e.symm).1; omega)).trans ((below_new w10 _).block k (by omega))).trans (HG10.out.block k hk hkb)⟩
      have hF4 : FR b bs off (q + 2 + t) w4 := (hgrow.block b (by simp; omega) (fun e => by have := (Hown5.out.lt b e.symm).1; omega)).trans (heap_below (below_new w10 _) Hf10.out)
      have hT4 := tabs_gr HT.out H.out hG4
      rw [show [Value.int .u8 (x.toNat : Int), str T] = [Value.int .u8 ((SubM.mk x T).code.toNat : Int), str (SubM.mk x T).text] from rfl, ← subCells_snoc] at hown4
      have hpos4 := posOf_eq hF4
      have Hown4 := Lib.hid hown4
      have HG4 := Lib.hid hG4
      have HF4 := Lib.hid hF4
      have HT4 := Lib.hid hT4
      have Hpos4 := Lib.hid hpos4
      clear hown4 hG4 hF4 hT4 hpos4 hgrow hi hz0 hz1 hz2 Hown5 HG10 HT10 Hf10 Hcells hwl
      go_wp2
      go_roundw
      case rel => exact ⟨q + 2 + t, f, acc ++ [⟨x, T⟩], HF4.out, hle3, by rw [List.length_append]; simp; omega, by omega, HG4.out, by rw [List.length_append]; exact Hown4.out, HT4.out, Hgo.out⟩
      case measure => rw [Hpos4.out, Hposr.out]; omega
    · have iz : ((acc.length : Int) == 0) = false := by rw [beq_eq_false_iff_ne]; have := List.length_pos_iff.2 he; omega
      have iz3 : ¬ acc.length = 0 := by have := List.length_pos_iff.2 he; omega
      have N0 := sees_c b bs off q 30 wr hfr
      cases hse : seesB bs q 30 with
      | true =>
        have hR2 := hres.trans (subsM_stop he hse)
        rw [hse] at N0
        have N0 := Lib.hid N0
        have HR2 := Lib.hid hR2
        have Hfr := Lib.hid hfr
        have Hg := Lib.hid hg
        have Hown := Lib.hid hown
        clear hR2 hres hfr hg hown ht hposr he hse
        go_wp2_with fail
        refine N0.out.mono ?_
        rintro e w6 ⟨rfl, hb6⟩
        go_wp2
        go_ret
        rw [HR2.out]
        exact ⟨_, rfl, Hfr.out.below hb6, grown_tr Hg.out (grown_below hb6), Hown.out.kept (grown_below (r := some b) hb6) (.inr (fun e => by have := (Hown.out.lt b e).1; omega))⟩
      | false =>
      have hgo := hres.trans (subsM_go (by rw [hse]; simp))
      rw [hse] at N0
      have N0 := Lib.hid N0
      have Hfr0 := Lib.hid hfr
      have Hg0 := Lib.hid hg
      have Hown0 := Lib.hid hown
      have Ht0 := Lib.hid ht
      have Hpos0 := Lib.hid hposr
      have Hgo0 := Lib.hid hgo
      clear hgo hres hfr hg hown ht hposr he hse
      go_wp2_with fail
      refine N0.out.mono ?_
      rintro e WW ⟨rfl, hb6⟩
      have hfr := Hfr0.out.below hb6
      have hposr := Hpos0.out
      have hgo := Hgo0.out
      have Hg := Lib.hid (grown_tr Hg0.out (grown_below (r := some b) hb6))
      have Ht := Lib.hid (tabs_below Ht0.out hb6)
      have Hown := Lib.hid (Hown0.out.kept (grown_below (r := some b) hb6) (.inr (fun e => by have := (Hown0.out.lt b e).1; omega)))
      clear hb6 Hfr0 Hg0 Hown0 Ht0 Hpos0 Hgo0 N0
      unfold stepM at hgo
      have N1 := skip_c b bs off q 31 WW hfr h1 (by omega) ho hq
      rcases skipM_cases bs off q 31 with hs1 | ⟨hs1, hlt1⟩
      · rw [hs1] at N1 hgo
        unfold MPost at N1
        have N1 := Lib.hid N1
        have Hgo := Lib.hid hgo
        clear hs1 hgo
        go_wp2_with fail
        refine N1.out.mono ?_
        rintro e w8 ⟨rfl, hg8⟩
        go_wp2_with fail
        refine ⟨rfl, ?_⟩
        rw [Hgo.out]
        exact ⟨rfl, grown_tr Hg.out hg8⟩
      rw [hs1] at N1 hgo
      simp only at hgo
      have N2 := fun W hW => take_c _ signB enterSign isSign_c b bs off (q + 1) W hW h1 (by omega) ho (by omega)
      rcases takeM_cases signB bs off (q + 1) with hs2 | ⟨hs2, hlt2, -⟩
      · rw [hs2] at hgo
        simp only [hs2] at N2
        unfold MPost at N1 N2
        have N1 := Lib.hid N1
        have N2 := Lib.hid N2
        have Hgo := Lib.hid hgo
        clear hs1 hgo hs2
        go_wp2_with fail
        refine N1.out.mono ?_
        rintro e w8 ⟨rfl, hf8, hg8⟩
        have N3 := Lib.hid (N2.out w8 hf8)
        have Hg8 := Lib.hid (grown_tr Hg.out hg8)
        clear hf8 hg8
        go_wp2_with fail
        refine N3.out.mono ?_
        rintro e w9 ⟨rfl, hg9⟩
        go_wp2_with fail
        refine ⟨rfl, ?_⟩
        rw [Hgo.out]
        exact ⟨rfl, grown_tr Hg8.out hg9⟩
      rw [hs2] at hgo
      simp only at hgo
      have N4 := fun W hW => hTx b bs off (q + 2) W hW h1 (by omega) ho (by omega)
      rcases textM_cases bs off (q + 2) (by omega) with ⟨pp, hs3⟩ | ⟨hs3, hle3⟩
      · rw [hs3] at hgo
        simp only [hs2] at N2
        simp only [hs3] at N4
        unfold MPost at N1 N2 N4
        have N1 := Lib.hid N1
        have N2 := Lib.hid N2
        have N4 := Lib.hid N4
        have Hgo := Lib.hid hgo
        have Hfr := Lib.hid hfr
        clear hs1 hgo hs2 hs3
        go_wp2_with fail
        refine N1.out.mono ?_
        rintro e w8 ⟨rfl, hf8, hg8⟩
        have N3 := Lib.hid (N2.out w8 hf8)
        have Ht8 := Lib.hid (tabs_gr Ht.out Hfr.out hg8)
        have Hf8 := Lib.hid hf8
        have Hg8 := Lib.hid (grown_tr Hg.out hg8)
        clear hf8 hg8
        go_wp2_with fail
        refine N3.out.mono ?_
        rintro e w9 ⟨rfl, hf9, hg9⟩
        have N5 := Lib.hid (N4.out w9 hf9 (tabs_gr Ht8.out Hf8.out hg9))
        have Hg9 := Lib.hid (grown_tr Hg8.out hg9)
        clear hf9 hg9
        go_wp2_with fail
        refine N5.out.mono ?_
        rintro e w10 ⟨rfl, hg10⟩
        go_wp2_with fail
        refine ⟨rfl, ?_⟩
        rw [Hgo.out]
        exact ⟨rfl, grown_tr Hg9.out hg10⟩
      rw [hs3] at hgo
      simp only at hgo
      simp only [hs2] at N2
      simp only [hs3] at N4
      unfold MPost at N1 N2 N4
      obtain ⟨x, hx⟩ : ∃ x, bs.getD (q + 1) 0 = x := ⟨_, rfl⟩
      obtain ⟨t, ht⟩ : ∃ t, textLen (bs.drop (q + 2)) = t := ⟨_, rfl⟩
      rw [ht] at N4 hgo hle3
      obtain ⟨T, hT9⟩ : ∃ T, (bs.drop (q + 2)).take t = T := ⟨_, rfl⟩
      rw [hx] at N2 hgo
      rw [hT9] at N4 hgo
      have N1 := Lib.hid N1
      have N2 := Lib.hid N2
      have N4 := Lib.hid N4
      have Hgo := Lib.hid hgo
      have Hfr := Lib.hid hfr
      have Hposr := Lib.hid (posOf_eq hposr)
      clear hs1 hgo hs2 hs3 hx ht hT9 hposr
      go_wp2_with fail
      refine N1.out.mono ?_
      rintro e w8 ⟨rfl, hf8, hg8⟩
      have N3 := Lib.hid (N2.out w8 hf8)
      have Ht8 := Lib.hid (tabs_gr Ht.out Hfr.out hg8)
      have Hf8 := Lib.hid hf8
      have Hg8 := Lib.hid (grown_tr Hg.out hg8)
      have Ho8 := Lib.hid (Hown.out.kept hg8 (.inr (fun e => by have := (Hown.out.lt b e).1; omega)))
      clear hf8 hg8
      go_wp2_with fail
      refine N3.out.mono ?_
      rintro e w9 ⟨rfl, hf9, hg9⟩
      have N5 := Lib.hid (N4.out w9 hf9 (tabs_gr Ht8.out Hf8.out hg9))
      have Ht9 := Lib.hid (tabs_gr Ht8.out Hf8.out hg9)
      have Hf9 := Lib.hid hf9
      have Hg9 := Lib.hid (grown_tr Hg8.out hg9)
      have Ho9 := Lib.hid (Ho8.out.kept hg9 (.inr (fun e => by have := (Ho8.out.lt b e).1; omega)))
      clear hf9 hg9
      go_wp2_with fail
      refine N5.out.mono ?_
      rintro e w10 ⟨rfl, hf10, hg10⟩
      have hown5 := Ho9.out.kept hg10 (.inr (fun e => by have := (Ho9.out.lt b e).1; omega))
      have hG10 := grown_tr Hg9.out hg10
      have hT10 := tabs_gr Ht9.out Hf9.out hg10
      have hwl := hG10.size
      obtain ⟨i0', hi, hz0, hz1, hz2⟩ := Hi.out
      have hcells : ∀ (j : Nat) (u : Value), [Value.int .u8 (x.toNat : Int), str T][j]? = some u → (w10.alloc (.cells #[.int .u8 (x.toNat : Int), str T] 64)).cell? ((⟨w10.heap.size, 0, none⟩ : Addr).add j) = some u := by
        intro j u hu
        have hj : j < 2 := by
          rcases Nat.lt_or_ge j 2 with h | h
          · exact h
          · rw [List.getElem?_eq_none (by simpa using h)] at hu; cases hu
        match j, hj with
        | 0, _ => cases hu; rw [show ((⟨w10.heap.size, 0, none⟩ : Addr).add 0) = ⟨w10.heap.size, 0, none⟩ from rfl, cell_at (new_at _ _)]; rfl
        | 1, _ => cases hu; rw [show ((⟨w10.heap.size, 0, none⟩ : Addr).add 1) = ⟨w10.heap.size, 1, none⟩ from rfl, cell_at (new_at _ _)]; rfl
      have Hown5 := Lib.hid hown5
      have HG10 := Lib.hid hG10
      have HT10 := Lib.hid hT10
      have Hf10 := Lib.hid hf10
      have Hcells := Lib.hid hcells
      clear hown5 hG10 hT10 hf10 hcells hg10 Hown Ho8 Ho9 Hg Hg8 Hg9 Ht Ht8 Ht9 Hf8 Hf9
      go_wp2_with (at_builtin; refine wpList_append_own _ rfl _ _ 60 rfl w1.heap.size 64 i0' _ 2 24 Tryd.underlying60 hi hz0 hz1 hz2 rfl (by decide) _ _ _ rfl (Hown5.out.alloc _) ⟨w10.heap.size, 0, none⟩ 1 1 [.int .u8 (x.toNat : Int), str T] rfl rfl ?c1 ?c2 ?c3 ?c4 ?c5 ?_)
      case c1 => exact Hcells.out
      case c2 => simp [Value.oneCell']
      case c3 => unfold maxLen; omega
      case c4 => omega
      case c5 => simp; omega
      intro v' w4 hown4 hgrow _
      have hblt10 : b < w10.heap.size := lt_at Hf10.out
      have hG4 : w1.grownBy w4 (some b) := ⟨hgrow.os.trans HG10.out.os, hgrow.tape.trans HG10.out.tape, hgrow.output.trans HG10.out.output, Nat.le_trans hwl (Nat.le_trans (by simp) hgrow.size),
        fun k hk hkb => ((hgrow.block k (by simp; omega) (fun e => by have := (Hown5.out.lt k e.symm).1; omega)).trans ((below_new w10 _).block k (by omega))).trans (HG10.out.block k hk hkb)⟩
      have hF4 : FR b bs off (q + 2 + t) w4 := (hgrow.block b (by simp; omega) (fun e => by have := (Hown5.out.lt b e.symm).1; omega)).trans (heap_below (below_new w10 _) Hf10.out)
      have hT4 := tabs_gr HT.out H.out hG4
      rw [show [Value.int .u8 (x.toNat : Int), str T] = [Value.int .u8 ((SubM.mk x T).code.toNat : Int), str (SubM.mk x T).text] from rfl, ← subCells_snoc] at hown4
      have hpos4 := posOf_eq hF4
      have Hown4 := Lib.hid hown4
      have HG4 := Lib.hid hG4
      have HF4 := Lib.hid hF4
      have HT4 := Lib.hid hT4
      have Hpos4 := Lib.hid hpos4
      clear hown4 hG4 hF4 hT4 hpos4 hgrow hi hz0 hz1 hz2 Hown5 HG10 HT10 Hf10 Hcells hwl
      go_wp2
      go_roundw
      case rel => exact ⟨q + 2 + t, f, acc ++ [⟨x, T⟩], HF4.out, hle3, by rw [List.length_append]; simp; omega, by omega, HG4.out, by rw [List.length_append]; exact Hown4.out, HT4.out, Hgo.out⟩
      case measure => rw [Hpos4.out, Hposr.out]; omega
end Go.Proofs.YtpfnmjcomdckgaaDoor
