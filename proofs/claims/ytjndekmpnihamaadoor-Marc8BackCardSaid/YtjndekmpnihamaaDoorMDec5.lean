/-
  decode.
-/
import Derived.Test.YtjndekmpnihamaaDoorMDec4
namespace Go.Proofs.YtjndekmpnihamaaDoor
open Go.RowKit Go.Shelf
set_option linter.unusedVariables false

set_option maxRecDepth 100000 in
set_option maxHeartbeats 2000000 in
theorem decode_c (l : List UInt8) (w : World) (hl : l.length ≤ 1099511627776) :
    Calls Tryd.prog 18 #[str l] w (DecPost (decM l) w) := by
  have hmm := @run_makeMap Tryd.prog
  have hm0 := MapF.made encRef .u8 5 w
  have hb0 := below_new w (.map #[] 0)
  have Hm0 := Lib.hid hm0
  have Hb0 := Lib.hid hb0
  have Hdec := Lib.hid (show decM l = (decR l.length 66 0 (l.drop 0)).pre [] by unfold decM; rw [List.drop_zero]; cases decR l.length 66 0 l <;> rfl)
  clear hm0 hb0
  go_enter Tryd.func18, Tryd.ntmps18
  go_wp2_with fail
  refine (characterRuns_c _).mono ?_
  rintro e w1 ⟨v1, rfl, hr1, hb1⟩
  have hm1 := Hm0.out.below hb1 (by simp)
  have Hb1 := Lib.hid (below_tr Hb0.out hb1)
  have N1 := Lib.hid (newSet_rows charsRows _ v1 w1 hr1)
  have Hm1 := Lib.hid hm1
  have hz1 := hb1.size
  clear hr1 hb1 hm1
  go_wp2_with fail
  refine N1.out.mono ?_
  clear N1
  rintro e w2 ⟨mc, rfl, hmc, hset2, hb2⟩
  have Hm2 := Lib.hid (Hm1.out.below hb2 Hm1.out.lt)
  have Hset2 := Lib.hid hset2
  have Hb2 := Lib.hid (below_tr Hb1.out hb2)
  have hz2 := hb2.size
  clear hset2 hb2
  go_wp2_with fail
  refine (markRuns_c _).mono ?_
  rintro e w3 ⟨v3, rfl, hr3, hb3⟩
  have Hm3 := Lib.hid (Hm2.out.below hb3 Hm2.out.lt)
  have Hset3 := Lib.hid (Hset2.out.below hb3 Hset2.out.lt)
  have Hb3 := Lib.hid (below_tr Hb2.out hb3)
  have N3 := Lib.hid (newSet_rows marksRows _ v3 w3 hr3)
  have hz3 := hb3.size
  clear hr3 hb3
  go_wp2_with fail
  refine N3.out.mono ?_
  clear N3
  rintro e w4 ⟨mm, rfl, hmm4, hmk4, hb4⟩
  have Hm4 := Lib.hid (Hm3.out.below hb4 Hm3.out.lt)
  have Hset4 := Lib.hid (Hset3.out.below hb4 Hset3.out.lt)
  have Hmk4 := Lib.hid hmk4
  have Hb4 := Lib.hid (below_tr Hb3.out hb4)
  have hz4 := hb4.size
  have hsz4 := Hb4.out.size
  have hc2 := Hset2.out.lt
  clear hmk4 hb4
  have hz1' : w.heap.size + 1 ≤ w1.heap.size := by simpa using hz1
  obtain ⟨K, hK⟩ : ∃ K : DK, K = ⟨w.heap.size, w4.heap.size, w.heap.size, mc, mm, l⟩ := ⟨_, rfl⟩
  have hKB : K.B = w.heap.size := by rw [hK]
  have hKb : K.b = w4.heap.size := by rw [hK]
  have hKt : K.text = l := by rw [hK]
  have h5 : DSt K 0 [] (.map none) (w4.alloc (.cells #[str l, .int .i64 0, .pointer none, .slice none 0 0, .map none, .map (some w.heap.size), .map (some mc), .map (some mm)] 68)) := by
    rw [hK]
    exact ⟨⟨.pointer none, .slice none 0 0, ⟨hsz4, World.alloc_heap_new _ _, .inl rfl, _, rfl, World.ownsRow_nil _ _ _ _⟩⟩,
      ⟨fun _ => none, 0, Nat.zero_le _, ⟨Hm4.out.alloc _, Nat.le_refl _, fun k r _ h => by cases h⟩⟩, Hset4.out.alloc _, Hmk4.out.alloc _,
      by show mc ≠ w.heap.size; omega, by show mm ≠ w.heap.size; omega⟩
  have hb5 : Below w.heap.size w (w4.alloc (.cells #[str l, .int .i64 0, .pointer none, .slice none 0 0, .map none, .map (some w.heap.size), .map (some mc), .map (some mm)] 68)) := Hb4.out.alloc hsz4 _
  have N5 := Lib.hid (choose_yes K 0 [] (.map none) 66 _ h5 (.inl rfl))
  have HK := Lib.hid hK
  have Hb5 := Lib.hid hb5
  clear h5 hb5 hK hmc hmm4 hz1 hz2 hz3 hz4 hc2 hz1' Hm4 Hset4 Hmk4 Hb4 Hm3 Hset3 Hb3 Hm2 Hset2 Hb2 Hm1 Hb1 Hm0 Hb0
  have hKB' := Lib.hid hKB
  have hKt' := Lib.hid hKt
  clear hKB hKt
  go_wp2_with fail
  rw [← hKb]
  refine N5.out.mono ?_
  clear N5
  rintro e w6 ⟨rfl, hch⟩
  obtain ⟨cv6, h6, hc6⟩ := hch.ex
  have Hb6 := Lib.hid (Hb5.out.trans (by have := hch.below; rw [hKB'.out] at this; exact this))
  have H6 := Lib.hid (show DAt K 0 [] cv6 66 w6 from ⟨h6, hc6⟩)
  clear hch h6 hc6 Hb5
  go_wp2_with fail
  go_loopw [12] (fun _ wr => ∃ (a fuel : Nat) (out : List UInt8) (cv : Value) (cur : Int), DAt K a out cv cur wr ∧ a ≤ l.length ∧ out.length ≤ 4 * a ∧ l.length ≤ a + fuel ∧ Below w.heap.size w wr ∧ decM l = (decR fuel cur a (l.drop a)).pre out) (fun _ wr => l.length - placeOf K.b wr)
  case atStart => exact ⟨0, l.length, [], cv6, 66, H6.out, Nat.zero_le _, by simp, by omega, Hb6.out, Hdec.out⟩
  case round =>
    obtain ⟨a, fuel, out, cv, cur, h, hal, hol, hfu, hb, hdm⟩ := hrel
    have Hdm := Lib.hid hdm
    have H := Lib.hid h
    have Hb := Lib.hid hb
    obtain ⟨c0, c1, _, _, _, _⟩ := h.1.cells
    rw [hKt'.out, hKb] at c0
    rw [hKb] at c1
    have hszl := size_str l
    clear hdm hb
    by_cases hlt : a < l.length
    · have N := Lib.hid (step_c K a out cv cur wr h (by rw [hKt'.out]; exact hlt) (by rw [hKt'.out]; exact hl) hol)
      obtain ⟨f, rfl⟩ : ∃ f, fuel = f + 1 := ⟨fuel - 1, by omega⟩
      have hdr := List.drop_eq_getElem_cons hlt
      cases hst : stepD cur a (l.drop a) with
      | bad x k =>
        have hr : decM l = .bad x k := by
          rw [Hdm.out]
          unfold decR
          rw [hdr] at hst ⊢
          simp only [hst, Res.pre]
        have Hr := Lib.hid hr
        have Hst := Lib.hid hst
        clear h hr hst hdr
        go_wp2_with fail
        rw [← hKb]
        refine N.out.mono ?_
        rintro e w7 hp
        rw [hKt'.out, Hst.out] at hp
        obtain ⟨rfl, hb7⟩ := hp
        go_wp2_with fail
        refine ⟨rfl, ?_⟩
        unfold DecPost
        rw [Hr.out]
        exact ⟨rfl, Hb.out.trans (by rw [hKB'.out] at hb7; exact hb7)⟩
      | ok c n o =>
        obtain ⟨q1, q2, q3⟩ := stepD_ok hst
        have q2' : a + n ≤ l.length := by simp at q2; omega
        have hr : decM l = (decR f c (a + n) (l.drop (a + n))).pre (out ++ o) := by
          rw [Hdm.out, ← Res.pre_pre, ← List.drop_drop]
          conv => lhs; unfold decR
          rw [hdr] at hst ⊢
          simp only [hst]
        have Hr := Lib.hid hr
        have Hst := Lib.hid hst
        have hp0 := placeOf_eq h.1
        have Hp0 := Lib.hid hp0
        clear h hr hst hdr q2 hp0
        go_wp2_with fail
        rw [← hKb]
        refine N.out.mono ?_
        rintro e w7 hp
        rw [hKt'.out, Hst.out] at hp
        obtain ⟨rfl, ⟨cv7, h7, hc7⟩, hb7⟩ := hp
        have H7 := Lib.hid (show DAt K (a + n) (out ++ o) cv7 c w7 from ⟨h7, hc7⟩)
        have Hb7 := Lib.hid (Hb.out.trans (by rw [hKB'.out] at hb7; exact hb7))
        clear h7 hc7 hb7
        go_wp2_with fail
        go_roundw
        case rel => exact ⟨a + n, f, out ++ o, cv7, c, H7.out, q2', by rw [List.length_append]; omega, by omega, Hb7.out, Hr.out⟩
        case measure => rw [Hp0.out, placeOf_eq H7.out.1]; omega
    · have hd : decide (a < l.length) = false := decide_eq_false hlt
      have hr : decM l = .ok out := by
        rw [Hdm.out, List.drop_eq_nil_of_le (by omega)]
        cases fuel <;> simp [decR, Res.pre]
      have Hr := Lib.hid hr
      obtain ⟨p, v, hrow⟩ := h.1.row
      have N := Lib.hid (builderString_c TD K.B K.b 2 out _ wr hrow)
      clear h hr hlt hrow
      go_wp2_with fail
      rw [← hKb]
      refine N.out.mono ?_
      rintro e w7 ⟨rfl, hb7⟩
      have Hb7 := Lib.hid (Hb.out.trans (by rw [hKB'.out] at hb7; exact hb7))
      clear hb7
      go_wp2_with fail
      go_ret
      unfold DecPost
      rw [Hr.out]
      exact ⟨rfl, Hb7.out⟩
end Go.Proofs.YtjndekmpnihamaaDoor
