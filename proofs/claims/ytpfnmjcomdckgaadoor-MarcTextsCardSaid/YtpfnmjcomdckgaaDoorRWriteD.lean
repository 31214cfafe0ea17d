/-
  marc.writeDirectory.
-/
import Derived.Test.YtpfnmjcomdckgaaDoorRWriteF
namespace Go.Proofs.YtpfnmjcomdckgaaDoor
open Go.RowKit Go.Shelf
set_option linter.unusedVariables false
set_option linter.unusedSimpArgs false

theorem heap_below {w w' : World} {k : Nat} {o : Obj} (h : Below w.heap.size w w') (hk : w.heap[k]? = some o) : w'.heap[k]? = some o := (h.block k (lt_at hk)).trans hk
theorem Bld.below {B b : Nat} {l : List UInt8} {w w' : World} (h : Bld B b l w) (hb : Below w.heap.size w w') : Bld B b l w' := by
  refine ⟨?_, Nat.le_trans h.2 hb.size⟩
  have key : ∀ p, Lib.BuilderAtF TB TY B b p (Lib.byteCells l) w → Lib.BuilderAtF TB TY B b p (Lib.byteCells l) w' := by
    rintro p ⟨hB, v, hh, ⟨hl, hown⟩, hne⟩
    refine ⟨hB, v, heap_below hb hh, ⟨hl, ?_⟩, hne⟩
    rcases hown with hn | ⟨g, cap, cur, fz, hv, hg, hgg, rest⟩
    · exact .inl hn
    · exact .inr ⟨g, cap, cur, fz, hv, hg, heap_below hb hgg, rest⟩
  exact h.1.elim (fun x => .inl (key _ x)) (fun x => .inr (key _ x))
theorem kept_below (b : Nat) {w w' : World} (h : Below w.heap.size w w') : Lib.OthersKept TY (some b) w w' := fun _ _ hk _ _ => heap_below h hk
theorem dirM_snoc (f : FldM) : ∀ (l : List FldM) (b : Nat), dirM b (l ++ [f]) = dirM b l ++ (f.tag ++ digsN (sizeF f) 4 ++ digsN (b + fieldsN l) 5)
  | [], b => by simp [dirM, fieldsN]
  | g :: r, b => by
    rw [List.cons_append, dirM, dirM, dirM_snoc f r]
    have : b + sizeF g + fieldsN r = b + fieldsN (g :: r) := by simp [fieldsN]; omega
    rw [this]; simp
theorem dirM_len : ∀ (l : List FldM) (b : Nat), (∀ f ∈ l, f.tag.length = 3) → (dirM b l).length = 12 * l.length
  | [], b, _ => rfl
  | g :: r, b, h => by
    have h1 := h g (List.mem_cons_self ..)
    have h2 := dirM_len r (b + sizeF g) (fun f hf => h f (List.mem_cons_of_mem _ hf))
    unfold dirM
    simp only [List.length_append, digsN_len, List.length_cons, h1, h2]
    omega
set_option maxRecDepth 100000 in
set_option maxHeartbeats 4000000 in
theorem writeDir_c (B b : Nat) (fv : Value) (fs : List FldM) (l : List UInt8) (w0 w : World) (hf : FldsAt w0 fv fs) (hw0 : w0.heap.size ≤ B) (hb0 : Below w0.heap.size w0 w)
    (ht : ∀ f ∈ fs, f.tag.length = 3) (hn : fs.length ≤ 1000000) (hsz : fieldsN fs ≤ 1099511627776)
    (hbld : Bld B b l w) (hlen : l.length + 12 * fs.length + 20 ≤ 140737488355328) :
    Calls Tryd.prog 40 #[.pointer (some ⟨b, 0, none⟩), fv] w (WPost B b (l ++ dirM 0 fs ++ [30]) w) := by
  obtain ⟨a, cap, rfl, hm, hc⟩ := hf.slice
  have Hc := Lib.hid hc
  unfold maxLen at hm
  have Hlen := Lib.hid hlen
  have Ht := Lib.hid ht
  have N5 := Lib.hid (fun W h => bldByte B b (l ++ dirM 0 fs) 30 30 rfl W h (by rw [List.length_append, dirM_len fs 0 ht]; omega))
  clear hc hf hlen ht
  unfold WPost
  go_enter Tryd.func40, Tryd.ntmps40
  go_wp2
  go_loopw [4, 10] (fun n i wr => ∃ k : Nat, k ≤ fs.length ∧ i = .int .i64 k ∧ n = .int .i64 (fieldsN (fs.take k) : Nat) ∧ Bld B b (l ++ dirM 0 (fs.take k)) wr ∧ Below w0.heap.size w0 wr ∧ Below B w wr ∧ Lib.OthersKept TY (some b) w wr) (fun _ i _ => fs.length - (intOf i).toNat)
  case atStart => exact ⟨0, Nat.zero_le _, rfl, by simp [fieldsN], by simpa [dirM] using hbld, hb0, Below.refl _ _, Lib.OthersKept.refl _ _ _⟩
  case round =>
    obtain ⟨k, hk, rfl, rfl, hbl, h0w, hBw, hkw⟩ := hrel
    by_cases hlt : k < fs.length
    · obtain ⟨b2, off, rfl, hb2, c0, c1, c2, sv, c3, h4⟩ := Hc.out k hlt
      have c0 := cell_below h0w (Nat.le_refl _) c0
      have c1 := cell_below h0w (Nat.le_refl _) c1
      have c2 := cell_below h0w (Nat.le_refl _) c2
      have c3 := cell_below h0w (Nat.le_refl _) c3
      have h4 := h4.below h0w (Nat.le_refl _)
      have hle := fieldsN_le fs k
      have hfe := sizeF_le fs k hlt
      have htk := take_snoc fs k hlt
      have hfn := fieldsN_snoc fs k hlt
      have htag := Ht.out _ (List.getElem_mem hlt)
      have hdl := dirM_len (fs.take k) 0 (fun f hf => Ht.out f (List.mem_of_mem_take hf))
      rw [List.length_take, Nat.min_eq_left hk] at hdl
      have i0 : (0 : Int) ≤ (k : Int) := by omega
      have i1 : (k : Int) < (fs.length : Int) := by omega
      obtain ⟨f, hf⟩ : ∃ f, fs[k] = f := ⟨_, rfl⟩
      rw [hf] at c0 c1 c2 h4 hfe htk hfn htag
      have hsnoc := dirM_snoc f (fs.take k) 0
      rw [← htk, Nat.zero_add] at hsnoc
      obtain ⟨N, hN⟩ : ∃ N, fieldsN (fs.take k) = N := ⟨_, rfl⟩
      obtain ⟨D, hD⟩ : ∃ D, dirM 0 (fs.take k) = D := ⟨_, rfl⟩
      rw [hN] at hle hfn hsnoc ⊢
      rw [hD] at hbl hdl hsnoc
      obtain ⟨sa, sc, hsv, -⟩ := h4.slice
      subst hsv
      have hlen := Hlen.out
      have hblt := hbl.lt
      have hgb : wr.heap.size ≠ b := by omega
      obtain ⟨W5, hW5⟩ : ∃ W5, wr.alloc (.cells #[str f.tag, str f.ind, str f.data, .slice sa f.subs.length sc] 62) = W5 := ⟨_, rfl⟩
      have hn5 := new_at wr (.cells #[str f.tag, str f.ind, str f.data, .slice sa f.subs.length sc] 62)
      have hbl5 : Bld B b (l ++ D) W5 := by rw [← hW5]; exact hbl.alloc _
      have h05 : Below w0.heap.size w0 W5 := by rw [← hW5]; exact h0w.alloc h0w.size _
      have hB5 : Below B w W5 := by rw [← hW5]; exact hBw.alloc hbl.2 _
      have hk5 : Lib.OthersKept TY (some b) w W5 := by rw [← hW5]; exact hkw.alloc _
      have h45 : SubsAt W5 (.slice sa f.subs.length sc) f.subs := by rw [← hW5]; exact h4.below (below_new wr _) (Nat.le_refl _)
      rw [hW5] at hn5
      have e0 : W5.cell? ⟨wr.heap.size, 0, none⟩ = some (str f.tag) := by rw [cell_at hn5]; rfl
      have e1 : W5.cell? ⟨wr.heap.size, 1, none⟩ = some (str f.ind) := by rw [cell_at hn5]; rfl
      have e2 : W5.cell? ⟨wr.heap.size, 2, none⟩ = some (str f.data) := by rw [cell_at hn5]; rfl
      have e3 : W5.cell? ⟨wr.heap.size, 3, none⟩ = some (.slice sa f.subs.length sc) := by rw [cell_at hn5]; rfl
      have M1 := Lib.hid (sizeOfField_c (.agg #[str f.tag, str f.ind, str f.data, .slice sa f.subs.length sc]) f W5 ⟨_, rfl, h45⟩ (by omega))
      have M2 := Lib.hid (fun W h => bldStr B b (l ++ D) f.tag W h (by rw [List.length_append]; omega))
      have M3 := Lib.hid (fun W h => digits_c B b 3 (sizeF f) 4 (sizeF f : Nat) (l ++ D ++ f.tag) W rfl rfl (by omega) (by omega) h (by rw [List.length_append, List.length_append]; omega))
      have M4 := Lib.hid (fun W h => digits_c B b 4 N 5 (N : Nat) (l ++ D ++ f.tag ++ digsN (sizeF f) 4) W rfl rfl (by omega) (by omega) h (by rw [List.length_append, List.length_append, List.length_append, digsN_len]; omega))
      unfold WPost at M3 M4
      obtain ⟨Z, hZ⟩ : ∃ Z, sizeF f = Z := ⟨_, rfl⟩
      rw [hZ] at M1 M3 M4 hfn hsnoc hfe
      have H05 := Lib.hid h05
      have HB5 := Lib.hid hB5
      have Hk5 := Lib.hid hk5
      have Hn5 := Lib.hid hn5
      have Hl5 := Lib.hid hbl5
      have Hs := Lib.hid hsnoc
      have Hfn := Lib.hid hfn
      have hbd : N + Z ≤ 1099511627776 := by
        have := fieldsN_le fs (k + 1)
        rw [Hfn.out] at this
        omega
      clear hsnoc hle hfe htk hfn htag hdl hf hD hN hZ hlen hblt hbl hn5 hbl5 h05 hB5 hk5 h45 h4 h0w hBw hkw
      go_wp2_with fail
      refine M1.out.mono ?_
      clear M1 hW5 e0 e1 e2 e3
      rintro e w6 ⟨rfl, hb6⟩
      have hn6 := heap_below hb6 Hn5.out
      have e0 : w6.cell? ⟨wr.heap.size, 0, none⟩ = some (str f.tag) := by rw [cell_at hn6]; rfl
      have H06 := Lib.hid (H05.out.trans (hb6.mono (H05.out.size)))
      have HB6 := Lib.hid (HB5.out.trans (hb6.mono Hl5.out.2))
      have Hk6 := Lib.hid (Hk5.out.trans (kept_below b hb6))
      have M2 := Lib.hid (M2.out w6 (Hl5.out.below hb6))
      clear hn6 hb6 H05 HB5 Hk5 Hn5 Hl5
      go_wp2_with fail
      refine M2.out.mono ?_
      clear M2 e0
      rintro e w7 ⟨rfl, hl7, hb7, hk7⟩
      have H07 := Lib.hid (H06.out.trans (hb7.mono hw0))
      have HB7 := Lib.hid (HB6.out.trans hb7)
      have Hk7 := Lib.hid (Hk6.out.trans hk7)
      have M3 := Lib.hid (M3.out w7 hl7)
      clear hb7 hk7 hl7 H06 HB6 Hk6
      go_wp2_with fail
      refine M3.out.mono ?_
      clear M3
      rintro e w8 ⟨rfl, hl8, hb8, hk8⟩
      have H08 := Lib.hid (H07.out.trans (hb8.mono hw0))
      have HB8 := Lib.hid (HB7.out.trans hb8)
      have Hk8 := Lib.hid (Hk7.out.trans hk8)
      have M4 := Lib.hid (M4.out w8 hl8)
      clear hb8 hk8 hl8 H07 HB7 Hk7
      go_wp2_with fail
      refine M4.out.mono ?_
      clear M4
      rintro e w9 ⟨rfl, hl9, hb9, hk9⟩
      have H09 := Lib.hid (H08.out.trans (hb9.mono hw0))
      have HB9 := Lib.hid (HB8.out.trans hb9)
      have Hk9 := Lib.hid (Hk8.out.trans hk9)
      have Hl9 := Lib.hid hl9
      clear hb9 hk9 hl9 H08 HB8 Hk8
      go_wp2
      go_roundw
      case rel => exact ⟨k + 1, by omega, by go_num, by rw [Hfn.out]; go_num, by rw [Hs.out]; have := Hl9.out; simpa using this, H09.out, HB9.out, Hk9.out⟩
      case measure => simp [intOf]; omega
    · have hkl : k = fs.length := by omega
      subst hkl
      rw [List.take_length] at hbl
      have hd2 : decide (fs.length < fs.length) = false := by simp
      have N5 := Lib.hid (N5.out wr hbl)
      have HBw := Lib.hid hBw
      have Hkw := Lib.hid hkw
      clear hbl h0w hBw hkw
      go_wp2_with fail
      refine N5.out.mono ?_
      clear N5
      rintro e w6 ⟨rfl, hl6, hb6, hk6⟩
      go_wp2
      go_end0
      exact ⟨rfl, hl6, HBw.out.trans hb6, Hkw.out.trans hk6⟩
end Go.Proofs.YtpfnmjcomdckgaaDoor
