/-
  The reference's rightField, bytes, Wrong and Right.
-/
import Derived.Test.YtpfnmjcomdckgaaDoorRIsT
import Derived.Test.YtpfnmjcomdckgaaDoorRAuto
import Derived.BigRegion
namespace Go.Proofs.YtpfnmjcomdckgaaDoor
open Go.RowKit Go.Shelf
set_option linter.unusedVariables false
set_option linter.unusedSimpArgs false

theorem rTextB_c (l : List UInt8) (hl : l.length ≤ 1099511627776) (w : World) :
    Calls Tryd.prog 83 #[str l] w fun e w' => e = .returned (.bool (textB l)) ∧ Below w.heap.size w w' := by
  have h := rText_c l hl w
  rw [text_auto l 0 0] at h
  exact h
/-- What rightField answers. -/
def rfN (f : FldM) : Nat := if tagB f.tag then (if fieldB f then 0 else 14) else 13
def RFPost (n : Nat) (w : World) (e : Ending) (w' : World) : Prop := e = .returned (.int .i64 n) ∧ Below w.heap.size w w'
set_option maxRecDepth 100000 in
set_option maxHeartbeats 1000000 in
theorem rRight_tag (tag ind data : List UInt8) (subs : List SubM) (a : Option Addr) (cap : Nat) (w : World) (htm : tag.length ≤ 1099511627776) (hm : subs.length ≤ maxLen) (ht : tagB tag = false) :
    Calls Tryd.prog 64 #[.agg #[str tag, str ind, str data, .slice a subs.length cap]] w (RFPost (rfN ⟨tag, ind, data, subs⟩) w) := by
  obtain ⟨W3, hW3⟩ : ∃ W3, w.alloc (.cells #[str tag, str ind, str data, .slice a subs.length cap] 62) = W3 := ⟨_, rfl⟩
  have hb3 : Below w.heap.size w W3 := by rw [← hW3]; exact below_new w _
  have hlt3 : w.heap.size < W3.heap.size := by rw [← hW3]; simp
  have hn3 := new_at w (.cells #[str tag, str ind, str data, .slice a subs.length cap] 62)
  rw [hW3] at hn3
  have g0 : W3.cell? ⟨w.heap.size, 0, none⟩ = some (str tag) := by rw [cell_at hn3]; rfl
  have g1 : W3.cell? ⟨w.heap.size, 1, none⟩ = some (str ind) := by rw [cell_at hn3]; rfl
  have g2 : W3.cell? ⟨w.heap.size, 2, none⟩ = some (str data) := by rw [cell_at hn3]; rfl
  have g3 : W3.cell? ⟨w.heap.size, 3, none⟩ = some (.slice a subs.length cap) := by rw [cell_at hn3]; rfl
  have Hb3 := Lib.hid hb3
  have Hn3 := Lib.hid hn3
  have NT := Lib.hid (rTag_c tag (by omega) W3)
  rw [ht] at NT
  unfold maxLen at hm
  clear hb3 hn3
  have hr : rfN ⟨tag, ind, data, subs⟩ = 13 := by unfold rfN; rw [if_neg (by rw [ht]; decide)]
  rw [hr]
  unfold RFPost
  clear hr
  go_enter Tryd.func64, Tryd.ntmps64
  go_wp2_with fail
  refine NT.out.mono ?_
  rintro e w4 ⟨rfl, rfl⟩
  go_wp2
  go_ret
  exact ⟨rfl, Hb3.out⟩
set_option maxRecDepth 100000 in
set_option maxHeartbeats 4000000 in
theorem rRight_ctl (tag ind data : List UInt8) (subs : List SubM) (a : Option Addr) (cap : Nat) (w : World) (htm : tag.length ≤ 1099511627776) (hd : data.length ≤ 1099511627776) (hm : subs.length ≤ maxLen) (ht : tagB tag = true) (hc : ctlB tag = true) :
    Calls Tryd.prog 64 #[.agg #[str tag, str ind, str data, .slice a subs.length cap]] w (RFPost (rfN ⟨tag, ind, data, subs⟩) w) := by
  obtain ⟨W3, hW3⟩ : ∃ W3, w.alloc (.cells #[str tag, str ind, str data, .slice a subs.length cap] 62) = W3 := ⟨_, rfl⟩
  have hb3 : Below w.heap.size w W3 := by rw [← hW3]; exact below_new w _
  have hlt3 : w.heap.size < W3.heap.size := by rw [← hW3]; simp
  have hn3 := new_at w (.cells #[str tag, str ind, str data, .slice a subs.length cap] 62)
  rw [hW3] at hn3
  have g0 : W3.cell? ⟨w.heap.size, 0, none⟩ = some (str tag) := by rw [cell_at hn3]; rfl
  have g1 : W3.cell? ⟨w.heap.size, 1, none⟩ = some (str ind) := by rw [cell_at hn3]; rfl
  have g2 : W3.cell? ⟨w.heap.size, 2, none⟩ = some (str data) := by rw [cell_at hn3]; rfl
  have g3 : W3.cell? ⟨w.heap.size, 3, none⟩ = some (.slice a subs.length cap) := by rw [cell_at hn3]; rfl
  have Hb3 := Lib.hid hb3
  have Hn3 := Lib.hid hn3
  have NT := Lib.hid (rTag_c tag (by omega) W3)
  rw [ht] at NT
  unfold maxLen at hm
  clear hb3 hn3
  have h3 : tag.length = 3 := tag_len ht
  have NC := Lib.hid (rControl_c tag (by omega) (by omega) W3)
  rw [hc] at NC
  have NX := Lib.hid (rTextB_c data hd W3)
  have hr : rfN ⟨tag, ind, data, subs⟩ = if (ind.isEmpty && subs.isEmpty && textB data) then 0 else 14 := by
    unfold rfN fieldB
    rw [if_pos ht, if_pos hc]
  rw [hr]
  unfold RFPost
  clear hr h3
  cases htx : textB data with
  | false =>
    rw [htx] at NX
    simp only [Bool.and_false, Bool.false_eq_true, if_false]
    clear htx
    go_enter Tryd.func64, Tryd.ntmps64
    go_wp2_with fail
    refine NT.out.mono ?_
    rintro e w4 ⟨rfl, rfl⟩
    go_wp2_with fail
    refine NC.out.mono ?_
    rintro e w5 ⟨rfl, rfl⟩
    go_wp2_with fail
    refine NX.out.mono ?_
    rintro e w6 ⟨rfl, hb6⟩
    have Hb6 := Lib.hid (below_tr Hb3.out hb6)
    clear hb6 g0 g1 g2 g3
    go_wp2
    go_ret
    exact ⟨rfl, Hb6.out⟩
  | true =>
    rw [htx] at NX
    clear htx
    by_cases hi : ind = []
    · subst hi
      by_cases hs : subs = []
      · have hz : ¬ 0 < (subs.length : Int) := by rw [hs]; decide
        have he : (([] : List UInt8).isEmpty && subs.isEmpty && true) = true := by rw [hs]; rfl
        rw [he, if_pos rfl]
        clear hs he
        go_enter Tryd.func64, Tryd.ntmps64
        go_wp2_with fail
        refine NT.out.mono ?_
        rintro e w4 ⟨rfl, rfl⟩
        go_wp2_with fail
        refine NC.out.mono ?_
        rintro e w5 ⟨rfl, rfl⟩
        go_wp2_with fail
        refine NX.out.mono ?_
        rintro e w6 ⟨rfl, hb6⟩
        have Hb6 := Lib.hid (below_tr Hb3.out hb6)
        have k1 := cell_below hb6 (Nat.le_refl _) g1
        have k3 := cell_below hb6 (Nat.le_refl _) g3
        clear hb6 g0 g1 g2 g3
        go_wp2
        go_ret
        exact ⟨rfl, Hb6.out⟩
      · have hz : 0 < (subs.length : Int) := by have := List.length_pos_iff.2 hs; omega
        have he : (([] : List UInt8).isEmpty && subs.isEmpty && true) = false := by simpa using hs
        rw [he, if_neg (by decide)]
        clear hs he
        go_enter Tryd.func64, Tryd.ntmps64
        go_wp2_with fail
        refine NT.out.mono ?_
        rintro e w4 ⟨rfl, rfl⟩
        go_wp2_with fail
        refine NC.out.mono ?_
        rintro e w5 ⟨rfl, rfl⟩
        go_wp2_with fail
        refine NX.out.mono ?_
        rintro e w6 ⟨rfl, hb6⟩
        have Hb6 := Lib.hid (below_tr Hb3.out hb6)
        have k1 := cell_below hb6 (Nat.le_refl _) g1
        have k3 := cell_below hb6 (Nat.le_refl _) g3
        clear hb6 g0 g1 g2 g3
        go_wp2
        go_ret
        exact ⟨rfl, Hb6.out⟩
    · have hz : (ind == []) = false := by simpa using hi
      have he : (ind.isEmpty && subs.isEmpty && true) = false := by simp [hi]
      rw [he, if_neg (by decide)]
      clear hi he
      go_enter Tryd.func64, Tryd.ntmps64
      go_wp2_with fail
      refine NT.out.mono ?_
      rintro e w4 ⟨rfl, rfl⟩
      go_wp2_with fail
      refine NC.out.mono ?_
      rintro e w5 ⟨rfl, rfl⟩
      go_wp2_with fail
      refine NX.out.mono ?_
      rintro e w6 ⟨rfl, hb6⟩
      have Hb6 := Lib.hid (below_tr Hb3.out hb6)
      have k1 := cell_below hb6 (Nat.le_refl _) g1
      have k3 := cell_below hb6 (Nat.le_refl _) g3
      clear hb6 g0 g1 g2 g3
      go_wp2
      go_ret
      exact ⟨rfl, Hb6.out⟩
theorem indB_no {x : UInt8} (h : indB x = false) : x.toNat < 32 ∨ 126 < x.toNat := by
  unfold indB at h
  simp only [Bool.and_eq_false_iff, decide_eq_false_iff_not] at h
  omega
theorem indB_yes {x : UInt8} (h : indB x = true) : 32 ≤ x.toNat ∧ x.toNat ≤ 126 := by
  unfold indB at h
  simpa using h
set_option maxRecDepth 100000 in
set_option maxHeartbeats 8000000 in
theorem rRight_var (tag ind data : List UInt8) (subs : List SubM) (sv : Value) (w : World) (htm : tag.length ≤ 1099511627776) (hi : ind.length ≤ 1099511627776) (hsz : subsN subs ≤ 1099511627776) (hsub : SubsAt w sv subs) (ht : tagB tag = true) (hc : ctlB tag = false) :
    Calls Tryd.prog 64 #[.agg #[str tag, str ind, str data, sv]] w (RFPost (rfN ⟨tag, ind, data, subs⟩) w) := by
  obtain ⟨a, cap, rfl, hm, hcs⟩ := hsub.slice
  have Hc := Lib.hid hcs
  obtain ⟨W3, hW3⟩ : ∃ W3, w.alloc (.cells #[str tag, str ind, str data, .slice a subs.length cap] 62) = W3 := ⟨_, rfl⟩
  have hb3 : Below w.heap.size w W3 := by rw [← hW3]; exact below_new w _
  have hlt3 : w.heap.size < W3.heap.size := by rw [← hW3]; simp
  have hn3 := new_at w (.cells #[str tag, str ind, str data, .slice a subs.length cap] 62)
  rw [hW3] at hn3
  have g0 : W3.cell? ⟨w.heap.size, 0, none⟩ = some (str tag) := by rw [cell_at hn3]; rfl
  have g1 : W3.cell? ⟨w.heap.size, 1, none⟩ = some (str ind) := by rw [cell_at hn3]; rfl
  have g2 : W3.cell? ⟨w.heap.size, 2, none⟩ = some (str data) := by rw [cell_at hn3]; rfl
  have g3 : W3.cell? ⟨w.heap.size, 3, none⟩ = some (.slice a subs.length cap) := by rw [cell_at hn3]; rfl
  have Hb3 := Lib.hid hb3
  have Hn3 := Lib.hid hn3
  have NT := Lib.hid (rTag_c tag (by omega) W3)
  rw [ht] at NT
  unfold maxLen at hm
  clear hb3 hn3
  have h3 : tag.length = 3 := tag_len ht
  have NC := Lib.hid (rControl_c tag (by omega) (by omega) W3)
  rw [hc] at NC
  have hr : rfN ⟨tag, ind, data, subs⟩ = if (data.isEmpty && (ind.length == 2) && ind.all indB && subs.all subB && !subs.isEmpty) then 0 else 14 := by
    unfold rfN fieldB
    rw [if_pos ht]
    simp only [hc, Bool.false_eq_true, if_false]
  rw [hr]
  unfold RFPost
  clear hr h3 hcs hsub
  by_cases hd : data = []
  case neg =>
    have hz : (data == []) = false := by simpa using hd
    have he : (data.isEmpty && (ind.length == 2) && ind.all indB && subs.all subB && !subs.isEmpty) = false := by simp [hd]
    rw [he, if_neg (by decide)]
    clear hd he
    go_enter Tryd.func64, Tryd.ntmps64
    go_wp2_with fail
    refine NT.out.mono ?_
    rintro e w4 ⟨rfl, rfl⟩
    go_wp2_with fail
    refine NC.out.mono ?_
    rintro e w5 ⟨rfl, rfl⟩
    go_wp2
    go_ret
    exact ⟨rfl, Hb3.out⟩
  subst hd
  by_cases h2 : ind.length = 2
  case neg =>
    have hz2 := size_str ind
    have hz : ((ind.length : Int) == 2) = false := by rw [beq_eq_false_iff_ne]; omega
    have hz' : ((ind.length : Int) != 2) = true := by rw [bne_iff_ne]; omega
    have he : (([] : List UInt8).isEmpty && (ind.length == 2) && ind.all indB && subs.all subB && !subs.isEmpty) = false := by simp [h2]
    rw [he, if_neg (by decide)]
    clear h2 he
    go_enter Tryd.func64, Tryd.ntmps64
    go_wp2_with fail
    refine NT.out.mono ?_
    rintro e w4 ⟨rfl, rfl⟩
    go_wp2_with fail
    refine NC.out.mono ?_
    rintro e w5 ⟨rfl, rfl⟩
    go_wp2
    go_ret
    exact ⟨rfl, Hb3.out⟩
  obtain ⟨x, y, rfl⟩ : ∃ x y, ind = [x, y] := by
    match ind, h2 with
    | [x, y], _ => exact ⟨x, y, rfl⟩
  have hg0 : ∀ h, (ByteArray.mk [x, y].toArray)[0]'h = x := fun h => rfl
  have hg1 : ∀ h, (ByteArray.mk [x, y].toArray)[1]'h = y := fun h => rfl
  have hz2 : (ByteArray.mk [x, y].toArray).size = 2 := rfl
  have hxl := x.toNat_lt
  have hyl := y.toNat_lt
  clear hi h2
  cases hx : indB x with
  | false =>
    have he : (([] : List UInt8).isEmpty && ([x, y].length == 2) && [x, y].all indB && subs.all subB && !subs.isEmpty) = false := by simp [hx]
    rw [he, if_neg (by decide)]
    rcases indB_no hx with h1 | h1
    · clear he hx
      go_enter Tryd.func64, Tryd.ntmps64
      go_wp2_with fail
      refine NT.out.mono ?_
      rintro e w4 ⟨rfl, rfl⟩
      go_wp2_with fail
      refine NC.out.mono ?_
      rintro e w5 ⟨rfl, rfl⟩
      go_wp2
      go_ret
      exact ⟨rfl, Hb3.out⟩
    · have h1' : ¬ x.toNat < 32 := by omega
      clear he hx
      go_enter Tryd.func64, Tryd.ntmps64
      go_wp2_with fail
      refine NT.out.mono ?_
      rintro e w4 ⟨rfl, rfl⟩
      go_wp2_with fail
      refine NC.out.mono ?_
      rintro e w5 ⟨rfl, rfl⟩
      go_wp2
      go_ret
      exact ⟨rfl, Hb3.out⟩
  | true =>
  cases hy : indB y with
  | false =>
    have he : (([] : List UInt8).isEmpty && ([x, y].length == 2) && [x, y].all indB && subs.all subB && !subs.isEmpty) = false := by simp [hy]
    rw [he, if_neg (by decide)]
    obtain ⟨x1, x2⟩ := indB_yes hx
    have x1' : ¬ x.toNat < 32 := by omega
    have x2' : ¬ 126 < x.toNat := by omega
    rcases indB_no hy with h1 | h1
    · clear he hx hy x1 x2
      go_enter Tryd.func64, Tryd.ntmps64
      go_wp2_with fail
      refine NT.out.mono ?_
      rintro e w4 ⟨rfl, rfl⟩
      go_wp2_with fail
      refine NC.out.mono ?_
      rintro e w5 ⟨rfl, rfl⟩
      go_wp2
      go_ret
      exact ⟨rfl, Hb3.out⟩
    · have h1' : ¬ y.toNat < 32 := by omega
      clear he hx hy x1 x2
      go_enter Tryd.func64, Tryd.ntmps64
      go_wp2_with fail
      refine NT.out.mono ?_
      rintro e w4 ⟨rfl, rfl⟩
      go_wp2_with fail
      refine NC.out.mono ?_
      rintro e w5 ⟨rfl, rfl⟩
      go_wp2
      go_ret
      exact ⟨rfl, Hb3.out⟩
  | true =>
  obtain ⟨x1, x2⟩ := indB_yes hx
  have x1' : ¬ x.toNat < 32 := by omega
  have x2' : ¬ 126 < x.toNat := by omega
  obtain ⟨y1, y2⟩ := indB_yes hy
  have y1' : ¬ y.toNat < 32 := by omega
  have y2' : ¬ 126 < y.toNat := by omega
  have he : (([] : List UInt8).isEmpty && ([x, y].length == 2) && [x, y].all indB && subs.all subB && !subs.isEmpty) = (subs.all subB && !subs.isEmpty) := by simp [hx, hy]
  rw [he]
  clear he hx hy x1 x2 y1 y2
  by_cases hs : subs = []
  · have hz : ((subs.length : Int) == 0) = true := by rw [hs]; rfl
    have he : (subs.all subB && !subs.isEmpty) = false := by rw [hs]; rfl
    rw [he, if_neg (by decide)]
    clear hs he
    go_enter Tryd.func64, Tryd.ntmps64
    go_wp2_with fail
    refine NT.out.mono ?_
    rintro e w4 ⟨rfl, rfl⟩
    go_wp2_with fail
    refine NC.out.mono ?_
    rintro e w5 ⟨rfl, rfl⟩
    go_wp2
    go_ret
    exact ⟨rfl, Hb3.out⟩
  have hz : ((subs.length : Int) == 0) = false := by rw [beq_eq_false_iff_ne]; have := List.length_pos_iff.2 hs; omega
  have he : (subs.all subB && !subs.isEmpty) = subs.all subB := by have : subs.isEmpty = false := by simpa using hs
                                                                   rw [this]; simp
  rw [he]
  clear hs he
  obtain ⟨q, hq⟩ : ∃ q : Bool, subs.all subB = q := ⟨_, rfl⟩
  rw [hq]
  have Hq := Lib.hid hq
  clear hq
  go_enter Tryd.func64, Tryd.ntmps64
  go_wp2_with fail
  refine NT.out.mono ?_
  rintro e w4 ⟨rfl, rfl⟩
  go_wp2_with fail
  refine NC.out.mono ?_
  rintro e w5 ⟨rfl, rfl⟩
  go_wp2
  clear g0 g1 g2 hg0 hg1 NT NC hz2 hW3
  go_loopw [5] (fun i wr => ∃ k : Nat, k ≤ subs.length ∧ i = .int .i64 k ∧ (subs.take k).all subB = true ∧ Below w5.heap.size w5 wr) (fun i _ => subs.length - (intOf i).toNat)
  case atStart => exact ⟨0, Nat.zero_le _, rfl, rfl, Below.refl _ _⟩
  case round =>
    obtain ⟨k, hk, rfl, hall, hb⟩ := hrel
    have g3 := cell_below hb (Nat.le_refl _) g3
    have hle := subsN_le subs k
    by_cases hlt : k < subs.length
    · obtain ⟨b, off, rfl, hbl, h0, h1⟩ := Hc.out k hlt
      have hbw := Hb3.out.trans (hb.mono Hb3.out.size)
      have h0 := cell_below hbw (Nat.le_refl _) h0
      have h1 := cell_below hbw (Nat.le_refl _) h1
      have hs := subsN_snoc subs k hlt
      have hle2 := subsN_le subs (k + 1)
      have htk := take_snoc subs k hlt
      have hmem : subs[k] ∈ subs := List.getElem_mem hlt
      have i0 : (0 : Int) ≤ (k : Int) := by omega
      have i1 : (k : Int) < (subs.length : Int) := by omega
      obtain ⟨⟨c, t⟩, hct⟩ : ∃ s, subs[k] = s := ⟨_, rfl⟩
      rw [hct] at h0 h1 hs htk hmem
      have hbd : t.length ≤ 1099511627776 := by
        have h5 : subsN (subs.take (k + 1)) = subsN (subs.take k) + (2 + t.length) := hs
        omega
      have M1 := Lib.hid (fun W => rSign_c c W)
      have M2 := Lib.hid (rTextB_c t hbd wr)
      have Hbw := Lib.hid hbw
      have Hb := Lib.hid hb
      have Htk := Lib.hid htk
      have Hall := Lib.hid hall
      have Hmem := Lib.hid hmem
      clear hs hle hle2 hbl hbw hb htk hall hmem hct
      cases htx : textB t with
      | false =>
        rw [htx] at M2
        have hres : q = false := by
          rw [← Hq.out, List.all_eq_false]
          exact ⟨_, Hmem.out, by unfold subB; simp [htx]⟩
        subst hres
        clear htx
        go_wp2_with fail
        refine M2.out.mono ?_
        rintro e w7 ⟨rfl, hb7⟩
        have Hb7 := Lib.hid (Hbw.out.trans (hb7.mono Hbw.out.size))
        clear hb7 h0 h1 g3
        go_wp2
        go_ret
        exact ⟨rfl, Hb7.out⟩
      | true =>
        rw [htx] at M2
        cases hsg : signB c with
        | false =>
          rw [hsg] at M1
          have hres : q = false := by
            rw [← Hq.out, List.all_eq_false]
            exact ⟨_, Hmem.out, by unfold subB; simp [hsg]⟩
          subst hres
          clear htx hsg
          go_wp2_with fail
          refine M2.out.mono ?_
          rintro e w7 ⟨rfl, hb7⟩
          have Hb7 := Lib.hid (Hbw.out.trans (hb7.mono Hbw.out.size))
          have h0 := cell_below hb7 (Nat.le_refl _) h0
          have g3 := cell_below hb7 (Nat.le_refl _) g3
          clear hb7 h1
          go_wp2_with fail
          refine (M1.out _).mono ?_
          rintro e w8 ⟨rfl, rfl⟩
          go_wp2
          go_ret
          exact ⟨rfl, Hb7.out⟩
        | true =>
          rw [hsg] at M1
          have hsub : subB ⟨c, t⟩ = true := by unfold subB; simp [hsg, htx]
          clear htx hsg
          go_wp2_with fail
          refine M2.out.mono ?_
          rintro e w7 ⟨rfl, hb7⟩
          have Hb7 := Lib.hid (Hb.out.trans (hb7.mono Hb.out.size))
          have h0 := cell_below hb7 (Nat.le_refl _) h0
          have g3 := cell_below hb7 (Nat.le_refl _) g3
          clear hb7 h1
          go_wp2_with fail
          refine (M1.out _).mono ?_
          rintro e w8 ⟨rfl, rfl⟩
          go_wp2
          go_roundw
          case rel => exact ⟨k + 1, by omega, by go_num, by rw [Htk.out, List.all_append, Hall.out]; simp [hsub], Hb7.out⟩
          case measure => simp [intOf]; omega
    · have hkl : k = subs.length := by omega
      subst hkl
      rw [List.take_length] at hall
      have hres : q = true := Hq.out.symm.trans hall
      subst hres
      clear hall
      have hd2 : decide (subs.length < subs.length) = false := by simp
      have Hb := Lib.hid (Hb3.out.trans (hb.mono Hb3.out.size))
      clear hb
      go_wp2
      go_ret
      exact ⟨rfl, Hb.out⟩
end Go.Proofs.YtpfnmjcomdckgaaDoor
