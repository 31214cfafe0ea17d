/-
  marc.isRightField at a field with indicators.
-/
import Derived.Test.YtpfnmjcomdckgaaDoorRField
namespace Go.Proofs.YtpfnmjcomdckgaaDoor
open Go.RowKit Go.Shelf
set_option linter.unusedVariables false
set_option linter.unusedSimpArgs false

set_option maxRecDepth 100000 in
set_option maxHeartbeats 4000000 in
theorem isRightField_var (tag ind data : List UInt8) (subs : List SubM) (sv : Value) (w : World) (hi : ind.length ≤ 1099511627776) (hsz : subsN subs ≤ 1099511627776) (hsub : SubsAt w sv subs) (hc : ctlB tag = false) :
    Calls Tryd.prog 56 #[.agg #[str tag, str ind, str data, sv]] w (RF ⟨tag, ind, data, subs⟩ w) := by
  obtain ⟨a, cap, rfl, hm, hcs⟩ := hsub.slice
  have Hc := Lib.hid hcs
  obtain ⟨W3, hW3⟩ : ∃ W3, w.alloc (.cells #[str tag, str ind, str data, .slice a subs.length cap] 62) = W3 := ⟨_, rfl⟩
  have hb3 : Below w.heap.size w W3 := by rw [← hW3]; exact below_new w _
  have hlt3 : w.heap.size < W3.heap.size := by rw [← hW3]; simp
  have hn3 := new_at w (.cells #[str tag, str ind, str data, .slice a subs.length cap] 62)
  rw [hW3] at hn3
  have g0 : W3.cell? ⟨w.heap.size, 0, none⟩ = some (str tag) := by rw [cell_at hn3]; rfl
  have g1 : W3.cell? ⟨w.heap.size, 1, none⟩ = some (str ind) := by rw [cell_at hn3]; rfl
  have g2 : W3.cell? ⟨w.heap.size, 2, none⟩ = some (str data) := by rw [cell_at hn3]; rfl
  have g3 : W3.cell? ⟨w.heap.size, 3, none⟩ = some (.slice a subs.length cap) := by rw [cell_at hn3]; rfl
  have Hb3 := Lib.hid hb3
  have N0 := Lib.hid (isControl_c tag W3)
  rw [hc] at N0
  unfold maxLen at hm
  have hfb : fieldB ⟨tag, ind, data, subs⟩ = (data.isEmpty && (ind.length == 2) && ind.all indB && subs.all subB && !subs.isEmpty) := by unfold fieldB; rw [if_neg (by rw [hc]; decide)]
  unfold RF
  rw [hfb]
  clear hb3 hn3 hfb hcs hsub
  by_cases hd : data = []
  · subst hd
    by_cases h2 : ind.length = 2
    · obtain ⟨x, y, rfl⟩ : ∃ x y, ind = [x, y] := by
        match ind, h2 with
        | [x, y], _ => exact ⟨x, y, rfl⟩
      have hg0 : ∀ h, (ByteArray.mk [x, y].toArray)[0]'h = x := fun h => rfl
      have hg1 : ∀ h, (ByteArray.mk [x, y].toArray)[1]'h = y := fun h => rfl
      have hz2 : (ByteArray.mk [x, y].toArray).size = 2 := rfl
      clear hi h2
      have N1 := Lib.hid (isIndicator_c x W3)
      cases hx : indB x with
      | false =>
        rw [hx] at N1
        go_enter Tryd.func56, Tryd.ntmps56
        go_wp2_with fail
        refine N0.out.mono ?_
        rintro e w4 ⟨rfl, rfl⟩
        go_wp2_with fail
        refine N1.out.mono ?_
        rintro e w5 ⟨rfl, rfl⟩
        go_wp2
        go_ret
        exact ⟨by simp [hx], Hb3.out⟩
      | true =>
        have N2 := Lib.hid (isIndicator_c y W3)
        rw [hx] at N1
        cases hy : indB y with
        | false =>
          rw [hy] at N2
          go_enter Tryd.func56, Tryd.ntmps56
          go_wp2_with fail
          refine N0.out.mono ?_
          rintro e w4 ⟨rfl, rfl⟩
          go_wp2_with fail
          refine N1.out.mono ?_
          rintro e w5 ⟨rfl, rfl⟩
          go_wp2_with fail
          refine N2.out.mono ?_
          rintro e w6 ⟨rfl, rfl⟩
          go_wp2
          go_ret
          exact ⟨by simp [hy], Hb3.out⟩
        | true =>
          rw [hy] at N2
          have hres : ((([] : List UInt8)).isEmpty && ([x, y].length == 2) && [x, y].all indB && subs.all subB && !subs.isEmpty) = (subs.all subB && !subs.isEmpty) := by simp [hx, hy]
          rw [hres]
          clear hres hx hy
          go_enter Tryd.func56, Tryd.ntmps56
          go_wp2_with fail
          refine N0.out.mono ?_
          rintro e w4 ⟨rfl, rfl⟩
          go_wp2_with fail
          refine N1.out.mono ?_
          rintro e w5 ⟨rfl, rfl⟩
          go_wp2_with fail
          refine N2.out.mono ?_
          rintro e w6 ⟨rfl, rfl⟩
          go_wp2
          clear g0 g1 g2 hg0 hg1 N0 N1 N2 hz2 hW3
          go_loopw [48] (fun i wr => ∃ k : Nat, k ≤ subs.length ∧ i = .int .i64 k ∧ (subs.take k).all subB = true ∧ Below w6.heap.size w6 wr) (fun i _ => subs.length - (intOf i).toNat)
          case atStart => exact ⟨0, Nat.zero_le _, rfl, rfl, Below.refl _ _⟩
          case round =>
            obtain ⟨k, hk, rfl, hall, hb⟩ := hrel
            have hle := subsN_le subs k
            by_cases hlt : k < subs.length
            · obtain ⟨b, off, rfl, hbl, h0, h1⟩ := Hc.out k hlt
              have hbw := Hb3.out.trans (hb.mono Hb3.out.size)
              have h0 := cell_below hbw (Nat.le_refl _) h0
              have h1 := cell_below hbw (Nat.le_refl _) h1
              have hs := subsN_snoc subs k hlt
              have hle2 := subsN_le subs (k + 1)
              have htk := take_snoc subs k hlt
              have hmem : subs[k] ∈ subs := List.getElem_mem hlt
              have i0 : (0 : Int) ≤ (k : Int) := by omega
              have i1 : (k : Int) < (subs.length : Int) := by omega
              obtain ⟨⟨c, t⟩, hct⟩ : ∃ s, subs[k] = s := ⟨_, rfl⟩
              rw [hct] at h0 h1 hs htk hmem
              have hbd : t.length ≤ 1099511627776 := by
                have h5 : subsN (subs.take (k + 1)) = subsN (subs.take k) + (2 + t.length) := hs
                omega
              have hba := hbw.alloc hbw.size (.cells #[.int .u8 (c.toNat : Int), str t] 64)
              have M1 := Lib.hid (isSign_c c (wr.alloc (.cells #[.int .u8 (c.toNat : Int), str t] 64)))
              have hn5 := new_at wr (.cells #[.int .u8 (c.toNat : Int), str t] 64)
              obtain ⟨W5, hW5⟩ : ∃ W5, wr.alloc (.cells #[.int .u8 (c.toNat : Int), str t] 64) = W5 := ⟨_, rfl⟩
              rw [hW5] at hba M1 hn5
              have e0 : W5.cell? ⟨wr.heap.size, 0, none⟩ = some (.int .u8 (c.toNat : Int)) := by rw [cell_at hn5]; rfl
              have e1 : W5.cell? ⟨wr.heap.size, 1, none⟩ = some (str t) := by rw [cell_at hn5]; rfl
              have hb6 : Below w6.heap.size w6 W5 := by rw [← hW5]; exact hb.alloc hb.size _
              have M2 := Lib.hid (isText_c t hbd W5)
              have Hba := Lib.hid hba
              have Hb6 := Lib.hid hb6
              have Htk := Lib.hid htk
              have Hall := Lib.hid hall
              have Hmem := Lib.hid hmem
              clear hs hle hle2 hbl hbw hba hb hn5 hb6 htk hall hmem hct
              cases hsg : signB c with
              | false =>
                rw [hsg] at M1
                have hres : subs.all subB = false := by
                  rw [List.all_eq_false]
                  exact ⟨_, Hmem.out, by unfold subB; simp [hsg]⟩
                have Hres := Lib.hid hres
                clear hres hsg
                go_wp2_with fail
                refine M1.out.mono ?_
                rintro e w7 ⟨rfl, rfl⟩
                go_wp2
                go_ret
                exact ⟨by rw [Hres.out]; rfl, Hba.out⟩
              | true =>
                rw [hsg] at M1
                have Hsg := Lib.hid hsg
                clear hsg
                cases htx : textB t with
                | false =>
                  rw [htx] at M2
                  have hres : subs.all subB = false := by
                    rw [List.all_eq_false]
                    exact ⟨_, Hmem.out, by unfold subB; simp [htx]⟩
                  have Hres := Lib.hid hres
                  clear hres htx
                  go_wp2_with fail
                  refine M1.out.mono ?_
                  rintro e w7 ⟨rfl, rfl⟩
                  go_wp2_with fail
                  refine M2.out.mono ?_
                  rintro e w8 ⟨rfl, hb8⟩
                  have Hb8 := Lib.hid (below_tr Hba.out hb8)
                  clear hb8
                  go_wp2
                  go_ret
                  exact ⟨by rw [Hres.out]; rfl, Hb8.out⟩
                | true =>
                  rw [htx] at M2
                  have Htx := Lib.hid htx
                  clear htx
                  go_wp2_with fail
                  refine M1.out.mono ?_
                  rintro e w7 ⟨rfl, rfl⟩
                  go_wp2_with fail
                  refine M2.out.mono ?_
                  rintro e w8 ⟨rfl, hb8⟩
                  have Hb8 := Lib.hid (below_tr Hb6.out hb8)
                  clear hb8
                  go_wp2
                  go_roundw
                  case rel => exact ⟨k + 1, by omega, by go_num, by rw [Htk.out, List.all_append, Hall.out]; simp [subB, Hsg.out, Htx.out], Hb8.out⟩
                  case measure => simp [intOf]; omega
            · have hkl : k = subs.length := by omega
              subst hkl
              rw [List.take_length] at hall
              have hd2 : decide (subs.length < subs.length) = false := by simp
              have hg3 := cell_below hb (Nat.le_refl _) g3
              have hbw := Lib.hid (Hb3.out.trans (hb.mono Hb3.out.size))
              have hp : (!subs.isEmpty) = decide (0 < subs.length) := by
                cases subs with
                | nil => rfl
                | cons s t => simp
              have Hall := Lib.hid hall
              have Hp := Lib.hid hp
              clear hp hall hb
              go_wp2
              go_ret
              exact ⟨by rw [Hall.out, Hp.out]; rfl, hbw.out⟩
    · have hz : ((ind.length : Int) == 2) = false := by rw [beq_eq_false_iff_ne]; omega
      have hz' : ¬ ((ind.length : Int) = 2) := by omega
      have he : (ind.length == 2) = false := by simpa using h2
      have hz2 := size_str ind
      rw [he]
      clear h2 he
      go_enter Tryd.func56, Tryd.ntmps56
      go_wp2_with fail
      refine N0.out.mono ?_
      rintro e w4 ⟨rfl, rfl⟩
      go_wp2
      go_ret
      exact ⟨by simp, Hb3.out⟩
  · have hz : (data == []) = false := by simpa using hd
    have he : data.isEmpty = false := by simpa using hd
    rw [he]
    clear hd he
    go_enter Tryd.func56, Tryd.ntmps56
    go_wp2_with fail
    refine N0.out.mono ?_
    rintro e w4 ⟨rfl, rfl⟩
    go_wp2
    go_ret
    exact ⟨by simp, Hb3.out⟩
end Go.Proofs.YtpfnmjcomdckgaaDoor
