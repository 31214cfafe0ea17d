/-
  A step of the decoder, and the whole of it.
-/
import Derived.Test.YtjndekmpnihamaaDoorMDec3
namespace Go.Proofs.YtjndekmpnihamaaDoor
open Go.RowKit Go.Shelf
set_option linter.unusedVariables false

theorem StepPost.pre {K : DK} {at' : Nat} {out : List UInt8} {w w1 w' : World} {s : Step} {e : Ending} (hb : Below K.B w w1) (h : StepPost K at' out w1 s e w') : StepPost K at' out w s e w' := by
  unfold StepPost at *
  cases s with
  | bad a k => exact ⟨h.1, hb.trans h.2⟩
  | ok c n o => exact ⟨h.1, h.2.1, hb.trans h.2.2⟩

set_option maxRecDepth 100000 in
set_option maxHeartbeats 1000000 in
theorem step_c (K : DK) (at' : Nat) (out : List UInt8) (cv : Value) (cur : Int) (w : World) (h : DAt K at' out cv cur w) (hat : at' < K.text.length) (ht : K.text.length ≤ 1099511627776) (hol : out.length ≤ 4 * at') :
    Calls Tryd.prog 36 #[.pointer (some ⟨K.b, 0, none⟩)] w (StepPost K at' out w (stepD cur at' (K.text.drop at'))) := by
  obtain ⟨c0, c1, _, _, _, _⟩ := h.1.cells
  have hsz := size_str K.text
  have hget2 : (ByteArray.mk K.text.toArray)[at']'(by rw [hsz]; exact hat) = K.text[at'] := rfl
  have i0 : (0 : Int) ≤ (at' : Int) := by omega
  have i1 : (at' : Int) < (K.text.length : Int) := by omega
  have hdr : K.text.drop at' = K.text[at'] :: K.text.drop (at' + 1) := List.drop_eq_getElem_cons hat
  obtain ⟨x, hx⟩ : ∃ x, K.text[at'] = x := ⟨_, rfl⟩
  rw [hx] at hget2 hdr
  have hxl := x.toNat_lt
  by_cases c27 : x = 27
  · have hs : stepD cur at' (K.text.drop at') = escD at' (K.text.drop at') := by
      rw [hdr]; simp only [stepD, if_pos c27]
    rw [hs]
    have hq : ((x.toNat : Int) == 27) = true := by rw [c27]; rfl
    have N := Lib.hid (fun W (h : DAt K at' out cv cur W) => escape_c K at' out cv cur W h.1 h.2 hat ht)
    have H := Lib.hid h
    clear h hdr hs c27 hx hxl
    cases hes : escD at' (K.text.drop at') with
    | bad a k =>
      have Hes := Lib.hid hes
      clear hes
      go_enter Tryd.func36, Tryd.ntmps36
      go_wp2_with fail
      go_quiet (fail)
      go_wp2_with fail
      refine (N.out _ (H.out.drewN nq)).mono ?_
      rintro e w' hp
      rw [Hes.out] at hp
      obtain ⟨rfl, hb⟩ := hp
      go_wp2_with fail
      exact ⟨rfl, rfl, (below_drewN _ _ _).trans hb⟩
    | ok c n o =>
      have Hes := Lib.hid hes
      clear hes
      go_enter Tryd.func36, Tryd.ntmps36
      go_wp2_with fail
      go_quiet (fail)
      go_wp2_with fail
      refine (N.out _ (H.out.drewN nq)).mono ?_
      rintro e w' hp
      rw [Hes.out] at hp
      obtain ⟨rfl, hex, hb⟩ := hp
      have Hex := Lib.hid hex
      clear hex
      go_wp2_with fail
      go_end0
      exact ⟨rfl, Hex.out, (below_drewN _ _ _).trans hb⟩
  · have hq : ((x.toNat : Int) == 27) = false := by
      have : x.toNat ≠ 27 := fun e => c27 (UInt8.toNat_inj.1 e)
      simp; omega
    by_cases c32 : x < 32
    · have hs : stepD cur at' (K.text.drop at') = .ok cur 1 [x] := by
        rw [hdr]; simp only [stepD, if_neg c27, if_pos c32]
      rw [hs]
      have h32n : x.toNat < 32 := by simpa using UInt8.lt_iff_toNat_lt.1 c32
      have h32 : (x.toNat : Int) < 32 := by omega
      have N := Lib.hid (fun W (h : DAt K at' out cv cur W) => dbyte_c K at' out cv cur x W h (by omega))
      have H := Lib.hid h
      clear h hdr hs c27 hx c32 h32n
      go_enter Tryd.func36, Tryd.ntmps36
      go_wp2_with fail
      go_quiet (fail)
      go_wp2_with fail
      refine (N.out _ (H.out.drewN nq)).mono ?_
      rintro e w' ⟨rfl, h2, hb⟩
      obtain ⟨_, d1, _, _, _, _⟩ := h2.1.cells
      have hfz := h2.1.frozen 1
      have H2 := Lib.hid h2
      clear h2
      go_wp2_with fail
      go_end0
      obtain ⟨x1, x2, x3⟩ := H2.out.1.setAt (a2 := at' + 1)
      exact ⟨rfl, ⟨cv, x1, H2.out.2.mk' x2⟩, ((below_drewN _ _ _).trans hb).trans x3⟩
    · have hs : stepD cur at' (K.text.drop at') = letD cur at' (K.text.drop at') := by
        rw [hdr]; simp only [stepD, if_neg c27, if_neg c32]
      rw [hs]
      have h32 : (32 : Int) ≤ (x.toNat : Int) := by
        have : ¬ x.toNat < 32 := fun e => c32 (UInt8.lt_iff_toNat_lt.2 (by simpa using e))
        omega
      have N := Lib.hid (fun W (h : DAt K at' out cv cur W) => letter_c K at' out cv cur W h.1 h.2 hat ht hol)
      have H := Lib.hid h
      clear h hdr hs c27 hx c32 hol
      cases hes : letD cur at' (K.text.drop at') with
      | bad a k =>
        have Hes := Lib.hid hes
        clear hes
        go_enter Tryd.func36, Tryd.ntmps36
        go_wp2_with fail
        go_quiet (fail)
        go_wp2_with fail
        refine (N.out _ (H.out.drewN nq)).mono ?_
        rintro e w' hp
        rw [Hes.out] at hp
        obtain ⟨rfl, hb⟩ := hp
        go_wp2_with fail
        exact ⟨rfl, rfl, (below_drewN _ _ _).trans hb⟩
      | ok c n o =>
        have Hes := Lib.hid hes
        clear hes
        go_enter Tryd.func36, Tryd.ntmps36
        go_wp2_with fail
        go_quiet (fail)
        go_wp2_with fail
        refine (N.out _ (H.out.drewN nq)).mono ?_
        rintro e w' hp
        rw [Hes.out] at hp
        obtain ⟨rfl, hex, hb⟩ := hp
        have Hex := Lib.hid hex
        clear hex
        go_wp2_with fail
        go_end0
        exact ⟨rfl, Hex.out, (below_drewN _ _ _).trans hb⟩

/-! ### what a step takes and gives -/
theorem letD_ok {cur c : Int} {a n : Nat} {r o : List UInt8} (h : letD cur a r = .ok c n o) : 1 ≤ n ∧ n ≤ r.length ∧ o.length ≤ 4 * n := by
  unfold letD at h
  split at h
  · cases h
  · rename_i x t hd
    split at h
    · cases h
    · rename_i ch hch
      cases h
      have h1 := congrArg List.length hd
      simp at h1
      have h2 := encodeRune_le ch
      have h3 := markOut_le (r.take (marksAt r))
      have h4 : (r.take (marksAt r)).length ≤ marksAt r := by rw [List.length_take]; omega
      refine ⟨by omega, by omega, ?_⟩
      rw [List.length_append]; omega
theorem escD_ok {c : Int} {a n : Nat} {r o : List UInt8} (h : escD a r = .ok c n o) : 1 ≤ n ∧ n ≤ r.length ∧ o.length ≤ 4 * n := by
  unfold escD at h
  split at h
  · cases h
  · split at h
    · split at h
      · cases h; simp
      · cases h
    · cases h
theorem stepD_ok {cur c : Int} {a n : Nat} {r o : List UInt8} (h : stepD cur a r = .ok c n o) : 1 ≤ n ∧ n ≤ r.length ∧ o.length ≤ 4 * n := by
  unfold stepD at h
  split at h
  · cases h
  · split at h
    · exact escD_ok h
    · split at h
      · cases h; simp
      · exact letD_ok h
theorem Res.pre_pre (a b : List UInt8) (x : Res) : (x.pre b).pre a = x.pre (a ++ b) := by cases x <;> simp [Res.pre]

theorem below_tr {a b c : World} (h : Below a.heap.size a b) (k : Below b.heap.size b c) : Below a.heap.size a c := h.trans (k.mono h.size)
theorem below_new (w : World) (o : Obj) : Below w.heap.size w (w.alloc o) := (Below.refl _ w).alloc (Nat.le_refl _) o

def DecPost (x : Res) (w : World) (e : Ending) (w' : World) : Prop := match x with
  | .bad a k => e = pan a k ∧ Below w.heap.size w w'
  | .ok o => e = .returned (str o) ∧ Below w.heap.size w w'
end Go.Proofs.YtjndekmpnihamaaDoor
