/-
  The decoder's letters.
-/
import Derived.Test.YtjndekmpnihamaaDoorMDecR
import Derived.BigRegion
namespace Go.Proofs.YtjndekmpnihamaaDoor
open Go.RowKit Go.Shelf
set_option linter.unusedVariables false

theorem wfB_byte (x : UInt8) : wfB (x.toNat : Int) := by
  have := x.toNat_lt
  simp [wfB, Lit.wf, IntKind.min, IntKind.max, IntKind.signed, IntKind.bits]; omega
/-- Where the decoder stands: for a loop's measure. -/
def placeOf (b : Nat) (w : World) : Nat := match w.cell? ⟨b, 1, none⟩ with
  | some (.int _ n) => n.toNat
  | _ => 0
theorem placeOf_eq {K : DK} {at' : Nat} {out : List UInt8} {cv : Value} {w : World} (h : DSt K at' out cv w) : placeOf K.b w = at' := by
  unfold placeOf; rw [h.cells.2.1]; simp

theorem marksAt_le (r : List UInt8) : marksAt r ≤ r.length := by
  unfold marksAt
  exact (List.takeWhile_sublist _).length_le
theorem marksAt_lt (r : List UInt8) : ∀ (j : Nat) (h : j < marksAt r), ∃ h2 : j < r.length, isMb r[j] = true := by
  induction r with
  | nil => intro j h; simp [marksAt] at h
  | cons x r ih =>
    intro j h
    unfold marksAt at h
    rw [List.takeWhile_cons] at h
    by_cases hx : isMb x = true
    · rw [if_pos hx] at h
      cases j with
      | zero => exact ⟨by simp, hx⟩
      | succ j =>
        obtain ⟨h2, h3⟩ := ih j (by simpa [marksAt] using h)
        exact ⟨by simpa using h2, h3⟩
    · rw [if_neg hx] at h
      simp at h
theorem marksAt_end (r : List UInt8) (h : marksAt r < r.length) : isMb r[marksAt r] = false := by
  induction r with
  | nil => simp at h
  | cons x r ih =>
    by_cases hx : isMb x = true
    · have e : marksAt (x :: r) = marksAt r + 1 := by simp [marksAt, hx]
      simp only [e] at h ⊢
      have := ih (by simpa using h)
      simpa using this
    · have e : marksAt (x :: r) = 0 := by simp [marksAt, hx]
      simp only [e]
      simpa using hx

theorem markOut_snoc (ms : List UInt8) (i : Nat) (h : i < ms.length) : markOut (ms.take (i + 1)) = markOut (ms.take i) ++ Lib.encodeRune (markV (ms[i].toNat : Int)) := by
  unfold markOut
  rw [List.take_succ_eq_append_getElem h, List.flatMap_append]
  simp
theorem encodeRune_le (r : Int) : (Lib.encodeRune r).length ≤ 4 := by
  rw [← Lib.runeCells_length]
  exact (Lib.runeCells_le r).2
theorem markOut_le (ms : List UInt8) : (markOut ms).length ≤ 4 * ms.length := by
  induction ms with
  | nil => simp [markOut]
  | cons x r ih =>
    have := encodeRune_le (markV (x.toNat : Int))
    simp only [markOut, List.flatMap_cons, List.length_append, List.length_cons] at ih ⊢
    omega
theorem ext_mid (l : List UInt8) (i j : Nat) : (ByteArray.mk l.toArray).extract i j = ⟨((l.drop i).take (j - i)).toArray⟩ := by
  apply ByteArray.ext
  rw [ByteArray.data_extract]
  apply Array.toList_inj.1
  rw [Array.toList_extract, List.extract_eq_take_drop]

set_option maxRecDepth 100000 in
set_option maxHeartbeats 2000000 in
theorem letter_c (K : DK) (at' : Nat) (out : List UInt8) (cv : Value) (cur : Int) (w : World) (h : DSt K at' out cv w) (hc : DCur K cur cv w) (hat : at' < K.text.length) (ht : K.text.length ≤ 1099511627776) (hol : out.length ≤ 4 * at') :
    Calls Tryd.prog 50 #[.pointer (some ⟨K.b, 0, none⟩)] w (StepPost K at' out w (letD cur at' (K.text.drop at'))) := by
  obtain ⟨_, c1, _, _, _, _⟩ := h.cells
  have hb := h.base
  have hsz := size_str K.text
  have H := Lib.hid h
  have Hc := Lib.hid hc
  clear h hc
  go_enter Tryd.func50, Tryd.ntmps50
  go_wp2
  go_loopw [9] (fun _ wr => ∃ j : Nat, j ≤ marksAt (K.text.drop at') ∧ DSt K (at' + j) out cv wr ∧ DCur K cur cv wr ∧ Below K.B w wr) (fun _ wr => K.text.length - placeOf K.b wr)
  case atStart => exact ⟨0, Nat.zero_le _, H.out, Hc.out, Below.refl _ _⟩
  case round =>
    obtain ⟨j, hj, h, hc, hbel⟩ := hrel
    obtain ⟨c0, c1, _, _, _, c6⟩ := h.cells
    have hmk := h.marks
    by_cases hjm : j < marksAt (K.text.drop at')
    · obtain ⟨hjl, hmb⟩ := marksAt_lt _ j hjm
      have hlt : at' + j < K.text.length := by simp at hjl; omega
      have hget : (K.text.drop at')[j] = K.text[at' + j] := by simp
      rw [hget] at hmb
      obtain ⟨a, ha⟩ : ∃ a, at' + j = a := ⟨_, rfl⟩
      simp only [ha] at h c1 hlt hmb
      have hl : ∀ n : Nat, (Instr.lookup 65 (.map (some K.mm)) (.int .u8 (K.text[a].toNat : Int)) false).run Tryd.prog (wr.drewN n) = .ok (.int .i32 (markV (K.text[a].toNat : Int))) (wr.drewN n) := fun n => lookS_val (h.drewN n).marks (wfB_byte K.text[a])
      have hv : ((markV (K.text[a].toNat : Int)) != 0) = true := hmb
      have hget2 : (ByteArray.mk K.text.toArray)[a]'(by rw [hsz]; exact hlt) = K.text[a] := rfl
      have i0 : (0 : Int) ≤ (a : Int) := by omega
      have i1 : (a : Int) < (K.text.length : Int) := by omega
      have Ha := Lib.hid ha
      have H2 := Lib.hid h
      have Hc2 := Lib.hid hc
      have Hbel := Lib.hid hbel
      clear ha h hc hbel hget hmk hjl hmb
      go_wp2
      go_quiet (fail)
      have h3 := H2.out.drewN nq
      obtain ⟨_, d1, _, _, _, _⟩ := h3.cells
      have hfz := h3.frozen 1
      have H3 := Lib.hid h3
      clear h3 hl hv c0 c1 c6
      go_wp2
      obtain ⟨x1, x2, x3⟩ := H3.out.setAt (a2 := a + 1)
      have e1 : placeOf K.b wr = a := placeOf_eq H2.out
      have e2 := placeOf_eq x1
      go_roundw
      case rel => exact ⟨j + 1, by omega, by rw [show at' + (j + 1) = a + 1 from by have := Ha.out; omega]; exact x1, (Hc2.out.drewN nq).mk' x2, (Hbel.out.trans (below_drewN _ _ nq)).trans x3⟩
      case measure => exact (by rw [e1, e2]; omega : K.text.length - placeOf K.b ((wr.drewN nq).setCell ⟨K.b, 1, none⟩ (.int .i64 ((a + 1 : Nat) : Int))) < K.text.length - placeOf K.b wr)
    · obtain rfl : j = marksAt (K.text.drop at') := by omega
      have hml := marksAt_le (K.text.drop at')
      have hrl : (K.text.drop at').length = K.text.length - at' := by simp
      obtain ⟨k, hk⟩ : ∃ k, marksAt (K.text.drop at') = k := ⟨_, rfl⟩
      obtain ⟨a, ha⟩ : ∃ a, at' + k = a := ⟨_, rfl⟩
      by_cases hend : k = (K.text.drop at').length
      · -- nothing behind the marks
        have hs : letD cur at' (K.text.drop at') = .bad at' 10 := by
          unfold letD
          rw [hk, List.drop_eq_nil_of_le (by omega)]
        have Hs := Lib.hid hs
        have hal : a = K.text.length := by omega
        simp only [hk, ha] at h c1
        have Hbel := Lib.hid hbel
        have hd : decide (a < K.text.length) = false := by simp; omega
        have hq : ((a : Int) == (K.text.length : Int)) = true := by simp; omega
        clear hs hend hml hrl hk ha hjm hj h hc hbel hmk hal
        go_wp2
        go_quiet (fail)
        go_wp2
        go_quiet (fail)
        go_wp2_with fail
        refine (fail_c _ _ _).mono ?_
        rintro e w' ⟨rfl, rfl⟩
        go_wp2
        refine ⟨rfl, ?_⟩
        unfold StepPost
        rw [Hs.out]
        exact ⟨rfl, Hbel.out.trans (below_drewN _ _ _)⟩
      · have hlt : a < K.text.length := by omega
        have hmb := marksAt_end (K.text.drop at') (by omega)
        have hget : (K.text.drop at')[marksAt (K.text.drop at')]'(by omega) = K.text[a] := by simp [← ha, ← hk]
        rw [hget] at hmb
        simp only [hk, ha] at h c1
        have hl : ∀ n : Nat, (Instr.lookup 65 (.map (some K.mm)) (.int .u8 (K.text[a].toNat : Int)) false).run Tryd.prog (wr.drewN n) = .ok (.int .i32 (markV (K.text[a].toNat : Int))) (wr.drewN n) := fun n => lookS_val (h.drewN n).marks (wfB_byte K.text[a])
        have hv : ((markV (K.text[a].toNat : Int)) != 0) = false := hmb
        have hget2 : (ByteArray.mk K.text.toArray)[a]'(by rw [hsz]; exact hlt) = K.text[a] := rfl
        have i0 : (0 : Int) ≤ (a : Int) := by omega
        have i1 : (a : Int) < (K.text.length : Int) := by omega
        have hq : ((a : Int) == (K.text.length : Int)) = false := by simp; omega
        have hdr : (K.text.drop at').drop k = K.text[a] :: K.text.drop (a + 1) := by
          rw [List.drop_drop, ha, List.drop_eq_getElem_cons hlt]
        have Hbel := Lib.hid hbel
        have H2 := Lib.hid h
        have Hc2 := Lib.hid hc
        have Hha := Lib.hid ha
        have Hhk := Lib.hid hk
        cases hch : charOf cur (K.text[a].toNat : Int) with
        | none =>
          have hs : letD cur at' (K.text.drop at') = .bad (at' + k) 15 := by
            unfold letD
            rw [hk, hdr]
            simp only [hch]
          have Hs := Lib.hid hs
          have Hch := Lib.hid (fun W (h : DSt K a out cv W) (hc : DCur K cur cv W) => character_no K a out cv cur _ W h hc (wfB_byte _) hch)
          clear hs hch hdr hmb hget hend hml hrl hk ha hjm hj h hc hbel hmk
          go_wp2
          go_quiet (fail)
          go_wp2
          obtain ⟨w4, hw4⟩ : ∃ w4, wr.drewN nq = w4 := ⟨_, rfl⟩
          have h4 : DAt K a out cv cur w4 := by rw [← hw4]; exact ⟨H2.out.drewN nq, Hc2.out.drewN nq⟩
          have Hbel4 := Lib.hid (show Below K.B w w4 by rw [← hw4]; exact Hbel.out.trans (below_drewN _ _ nq))
          rw [hw4]
          obtain ⟨c0, c1, _, _, _, _⟩ := h4.1.cells
          clear hw4
          go_quiet (fail)
          go_wp2
          have h5 : DAt K a out cv cur (w4.drewN nq) := ⟨h4.1.drewN nq, h4.2.drewN nq⟩
          obtain ⟨w5, hw5⟩ : ∃ w5, w4.drewN nq = w5 := ⟨_, rfl⟩
          have Hbel5 := Lib.hid (show Below K.B w w5 by rw [← hw5]; exact Hbel4.out.trans (below_drewN _ _ _))
          rw [hw5] at h5 ⊢
          obtain ⟨c0, c1, _, _, _, _⟩ := h5.1.cells
          have H5 := Lib.hid h5
          clear hw5 h4 h5
          go_region_with (go_at_call 57; refine (Hch.out _ H5.out.drew.1 H5.out.drew.2).mono ?_; rintro e W2 ⟨rfl, rfl⟩; refine (fun (_ : wpAny Tryd.prog .any #[] (fun _ _ _ => True) 0 #[] { tmps := #[], defers := [] } w) => ?_) ?_; focus (refine ⟨rfl, ?_⟩; unfold StepPost; rw [Hs.out]; exact ⟨by rw [← Hha.out]; rfl, Hbel5.out.drew⟩))
          all_goals trivial
        | some ch =>
          obtain ⟨ms, hms⟩ : ∃ ms, (K.text.drop at').take k = ms := ⟨_, rfl⟩
          have hs : letD cur at' (K.text.drop at') = .ok cur (k + 1) (Lib.encodeRune ch ++ markOut ms) := by
            unfold letD
            rw [hk, hdr, hms]
            simp only [hch]
          have Hs := Lib.hid hs
          have hmsl : ms.length = k := by rw [← hms, List.length_take]; omega
          have hkl : k ≤ K.text.length := by omega
          have hja : at' ≤ a := by omega
          have hmsb : ∀ i (hi : i < ms.length), isMb ms[i] = true := by
            intro i hi
            obtain ⟨h2, h3⟩ := marksAt_lt (K.text.drop at') i (by omega)
            have : ms[i] = (K.text.drop at')[i] := by simp only [← hms, List.getElem_take]
            rw [this]; exact h3
          have hex : (ByteArray.mk K.text.toArray).extract at' a = ⟨ms.toArray⟩ := by rw [ext_mid, ← hms, ← ha]; simp
          obtain ⟨r0, r1⟩ := charOf_range hch
          have N1 := Lib.hid (fun W (h : DAt K a out cv cur W) => character_yes K a out cv cur _ ch W h.1 h.2 (wfB_byte K.text[a]) hch)
          have N2 := Lib.hid (fun W (h : DAt K a out cv cur W) => drune_c K a out cv cur ch W h r0 r1 (by omega))
          have Hms := Lib.hid hms
          clear hs hch hdr hmb hget hend hml hrl hk ha hjm hj h hc hbel hmk hms
          go_wp2
          go_quiet (fail)
          obtain ⟨w4, hw4⟩ : ∃ w4, wr.drewN nq = w4 := ⟨_, rfl⟩
          have h4 : DAt K a out cv cur w4 := by rw [← hw4]; exact ⟨H2.out.drewN nq, Hc2.out.drewN nq⟩
          have Hbel4 := Lib.hid (show Below K.B w w4 by rw [← hw4]; exact Hbel.out.trans (below_drewN _ _ nq))
          rw [hw4]
          obtain ⟨c0, c1, _, _, _, _⟩ := h4.1.cells
          clear hw4
          go_wp2
          go_quiet (fail)
          go_wp2
          have h5 : DAt K a out cv cur (w4.drewN nq) := ⟨h4.1.drewN nq, h4.2.drewN nq⟩
          obtain ⟨w5, hw5⟩ : ∃ w5, w4.drewN nq = w5 := ⟨_, rfl⟩
          have Hbel5 := Lib.hid (show Below K.B w w5 by rw [← hw5]; exact Hbel4.out.trans (below_drewN _ _ _))
          rw [hw5] at h5 ⊢
          obtain ⟨c0, c1, _, _, _, _⟩ := h5.1.cells
          have H5 := Lib.hid h5
          clear hw5 h4 h5
          go_region_held3 (fun w' => w'.cell? ⟨K.b, 0, none⟩ = some (str K.text) ∧ w'.cell? ⟨K.b, 1, none⟩ = some (.int .i64 (a : Int)))
            (first | exact ⟨c0, c1⟩ | exact ⟨e0, e1⟩ | go_keep)
            (first
              | (go_at_call 57; refine (N1.out _ H5.out.drew).mono ?_; rintro e W2 ⟨rfl, rfl⟩)
              | (go_at_call 56; refine (N2.out _ H5.out.drew).mono ?_; rintro e W3 ⟨rfl, h6, hb6, -⟩; obtain ⟨e0, e1, _⟩ := h6.1.cells))
          have H6 := Lib.hid h6
          have Hb6 := Lib.hid (Hbel5.out.drew.trans hb6)
          clear h6 hb6 c0 c1 hl hv hget2 N1 N2
          have hcv := fun W => run_bytes_of_string (P := Tryd.prog) W 9 30 5 ⟨ms.toArray⟩ Tryd.underlying9 Tryd.underlying30 Tryd.underlying5
          have hszm := size_str ms
          have j0 : (0 : Int) ≤ (at' : Int) := by omega
          have j1 : (at' : Int) ≤ (a : Int) := by omega
          have j2 : (a : Int) ≤ (K.text.length : Int) := by omega
          go_wp2
          go_region
          obtain ⟨cap, hcap⟩ : ∃ cap, grownCap W3.drew k 0 5 = cap := ⟨_, rfl⟩
          simp only [hcap]
          obtain ⟨R, hR⟩ : ∃ R, bytesRow ⟨ms.toArray⟩ cap = R := ⟨_, rfl⟩
          simp only [hR]
          obtain ⟨nz, hnz⟩ : ∃ nz, R.size = nz := ⟨_, rfl⟩
          simp only [hnz]
          have h7 : DAt K a (out ++ Lib.encodeRune ch) cv cur (W3.alloc (.cells R 5 (nz, nz + 1))).drew.drew := H6.out.below ((((Below.refl _ _).alloc (Nat.le_refl _) _).drew).drew)
          have hg7 : (W3.alloc (.cells R 5 (nz, nz + 1))).drew.drew.heap[W3.heap.size]? = some (.cells R 5 (nz, nz + 1)) := World.alloc_heap_new _ _
          have hb7 : Below K.B w (W3.alloc (.cells R 5 (nz, nz + 1))).drew.drew := (((Hb6.out.alloc (by have := Hb6.out.size; omega) _).drew).drew)
          obtain ⟨g, hg⟩ : ∃ g, W3.heap.size = g := ⟨_, rfl⟩
          obtain ⟨w7, hw7⟩ : ∃ w7, (W3.alloc (.cells R 5 (nz, nz + 1))).drew.drew = w7 := ⟨_, rfl⟩
          rw [hw7] at h7 hg7 hb7 ⊢
          rw [hg] at hg7
          simp only [hg]
          have hRi : ∀ i (hi : i < ms.length), R[i]? = some (.int .u8 (ms[i].toNat : Int)) := by
            intro i hi
            rw [← hR]
            unfold bytesRow
            rw [Array.getElem?_append_left (by simpa using hi)]
            simp [hi]
          have HRi := Lib.hid hRi
          have Hmsb := Lib.hid hmsb
          have hg8 := Lib.hid hg7
          clear hR hRi hnz hcap hcv hg7 hmsb e0 e1 hw7 hg
          go_wp2_with fail
          go_loopw [82] (fun iv wr => ∃ i : Nat, i ≤ k ∧ iv = .int .i64 i ∧ DAt K a (out ++ Lib.encodeRune ch ++ markOut (ms.take i)) cv cur wr ∧ Below K.B w wr ∧ wr.heap[g]? = some (.cells R 5 (nz, nz + 1))) (fun iv _ => k - (intOf iv).toNat)
          case atStart => exact ⟨0, Nat.zero_le _, rfl, by simpa [markOut] using h7, hb7, hg8.out⟩
          case round =>
            obtain ⟨i, hi, rfl, h8, hb8, hgi⟩ := hrel
            have Hb8 := Lib.hid hb8
            have Hgi := Lib.hid hgi
            clear h7 hb7 hb8 hg8
            by_cases hik : i < k
            · have hil : i < ms.length := by omega
              have hx : wr.cell? ⟨g, i, none⟩ = some (.int .u8 (ms[i].toNat : Int)) := by
                have := HRi.out i hil
                simp [World.cell?, Hgi.out, this]
              obtain ⟨x, hxx⟩ : ∃ x, ms[i] = x := ⟨_, rfl⟩
              rw [hxx] at hx
              have hsn := markOut_snoc ms i hil
              have Hsn := Lib.hid hsn
              have hmo := markOut_le (ms.take i)
              have hmt : (ms.take i).length ≤ k := by rw [List.length_take]; omega
              have henc := encodeRune_le ch
              obtain ⟨m0, m1⟩ := markV_range (x.toNat : Int)
              have hlk : ∀ W, DAt K a (out ++ Lib.encodeRune ch ++ markOut (ms.take i)) cv cur W → (Instr.lookup 65 (.map (some K.mm)) (.int .u8 (x.toNat : Int)) false).run Tryd.prog W = .ok (.int .i32 (markV (x.toNat : Int))) W := fun W h => lookS_val h.1.marks (wfB_byte x)
              have N3 := Lib.hid (fun W (h : DAt K a (out ++ Lib.encodeRune ch ++ markOut (ms.take i)) cv cur W) => drune_c K a _ cv cur (markV (x.toNat : Int)) W h m0 m1 (by rw [List.length_append, List.length_append]; omega))
              have hl8 := hlk _ h8.drew
              obtain ⟨_, _, _, _, _, c7⟩ := h8.1.cells
              have H8 := Lib.hid h8
              have Hxx := Lib.hid hxx
              clear hlk hsn hmo hmt henc h8 hxx
              go_wp2_with fail
              go_region_held3 (fun w' => w'.cell? ⟨K.b, 7, none⟩ = some (.map (some K.mm)) ∧ (Instr.lookup 65 (.map (some K.mm)) (.int .u8 (x.toNat : Int)) false).run Tryd.prog w' = .ok (.int .i32 (markV (x.toNat : Int))) w')
                (first | exact ⟨c7, hl8⟩ | exact ⟨e7, lookS_val h9.1.marks (wfB_byte x)⟩)
                (first
                  | (go_at_call 56; refine (N3.out _ H8.out.drew).mono ?_; rintro e W4 ⟨rfl, h9, hb9, hf9⟩; obtain ⟨_, _, _, _, _, e7⟩ := h9.1.cells))
              have hg9 := (hf9 g R 5 nz (nz + 1) Hgi.out (by omega)).trans Hgi.out
              have H9 := Lib.hid h9
              have Hb9 := Lib.hid (Hb8.out.drew.trans hb9)
              have Hg9 := Lib.hid hg9
              clear h9 hb9 hf9 e7 hl8 c7 hg9 hx
              go_wp2_with fail
              go_roundw
              case rel => exact ⟨i + 1, by omega, by go_num, by rw [Hsn.out, Hxx.out, ← List.append_assoc]; exact H9.out, Hb9.out, Hg9.out⟩
              case measure => simp [intOf]; omega
            · have hd : decide (i < k) = false := decide_eq_false hik
              have hie : i = k := by omega
              obtain ⟨_, c1, _, _, _, _⟩ := h8.1.cells
              have hfz := h8.1.frozen 1
              have H8 := Lib.hid h8
              have Hie := Lib.hid hie
              clear h8 hie hik
              go_wp2_with fail
              go_end0
              obtain ⟨x1, x2, x3⟩ := H8.out.1.setAt (a2 := a + 1)
              unfold StepPost
              rw [Hs.out]
              refine ⟨rfl, ⟨cv, ?_, H8.out.2.mk' x2⟩, Hb8.out.trans x3⟩
              have e1 : at' + (k + 1) = a + 1 := by have := Hha.out; omega
              have e2 : ms.take i = ms := List.take_of_length_le (by have := Hie.out; omega)
              rw [e1]
              rw [e2] at x1
              rw [← List.append_assoc]
              exact x1
end Go.Proofs.YtjndekmpnihamaaDoor
