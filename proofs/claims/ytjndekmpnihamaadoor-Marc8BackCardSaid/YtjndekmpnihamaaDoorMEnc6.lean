/-
  encode.
-/
import Derived.Test.YtjndekmpnihamaaDoorMEnc5
import Derived.Test.YtjndekmpnihamaaDoorMFull2
import Derived.Test.YtjndekmpnihamaaDoorMDec4
import Derived.Lib.TrimU
namespace Go.Proofs.YtjndekmpnihamaaDoor
open Go.RowKit Go.Shelf
set_option linter.unusedVariables false

theorem tabs_below {w w' : World} (h : Tabs w) (hb : Below w.heap.size w w') : Tabs w' := by
  have lt : ∀ {p : Addr} {v : Value}, w.cell? p = some v → w'.cell? p = some v := by
    intro p v hp
    rw [hb.cell, hp]
    unfold World.cell? at hp
    rcases hx : w.heap[p.block]? with _ | o
    · rw [hx] at hp; simp at hp
    · exact lt_at hx
  exact ⟨fun c hc => lt (h.1 c hc), fun i hi => ⟨lt (h.2 i hi).1, lt (h.2 i hi).2⟩⟩
theorem controlM_len {s s' : EM} {c : Int} (h : controlM s c = some s') : s'.out.length ≤ s.out.length + 2 := by
  have h1 := (releaseM_len s).1
  unfold controlM at h
  split at h
  · cases h
  · cases h; simp; omega
theorem writeM_len {s s' : EM} {c : Int} (h : writeM s c = some s') : s'.out.length ≤ s.out.length + 6 := by
  unfold writeM at h
  split at h
  · have := controlM_len h; omega
  · split at h
    · rename_i hm; cases h; have := markM_len hm; omega
    · split at h
      · rename_i hl; cases h; have := letterM_len hl; omega
      · unfold composedM at h
        split at h
        · cases h
        · split at h
          · cases h
          · rename_i hl
            have h1 := (releaseM_len s).1
            have := letterM_len hl
            have := markM_len h
            omega
theorem decodeGo_pos (b : UInt8) (t : List UInt8) : 1 ≤ (Lib.decodeGo ⟨(b :: t).toArray⟩).2 ∧ (Lib.decodeGo ⟨(b :: t).toArray⟩).1 ≤ 1114111 ∧ (Lib.decodeGo ⟨(b :: t).toArray⟩).2 ≤ (b :: t).length := by
  have hne : ¬ (ByteArray.mk (b :: t).toArray).size = 0 := by rw [size_str]; simp
  unfold Lib.decodeGo
  rw [if_neg hne]
  refine ⟨Lib.width_pos _ _, Lib.rune_le _ _, ?_⟩
  have : (Utf8.decode (ByteArray.mk (b :: t).toArray) 0).2 ≤ (ByteArray.mk (b :: t).toArray).size - 0 := by
    rw [Lib.decode_at]
    have hn : 1 ≤ (ByteArray.mk (b :: t).toArray).size - 0 := by omega
    generalize (ByteArray.mk (b :: t).toArray).size - 0 = n at hn
    unfold Lib.decodeN
    repeat' split
    all_goals (simp only; omega)
  rw [size_str] at this
  omega

def encK (f a : Nat) (S : Nat) (r : List UInt8) : Option EM → Res
  | none => .bad a 15
  | some s' => encR f (a + S) s' (r.drop S)
theorem encR_bad (f a : Nat) (s : EM) (b : UInt8) (t : List UInt8) (h : fullM (b :: t) = false) : encR (f + 1) a s (b :: t) = .bad a 10 := by
  show ite _ _ _ = _
  exact if_pos h
theorem encR_go (f a : Nat) (s : EM) (b : UInt8) (t : List UInt8) (h : fullM (b :: t) = true) : encR (f + 1) a s (b :: t) = encK f a (Lib.decodeGo ⟨(b :: t).toArray⟩).2 (b :: t) (writeM s ((Lib.decodeGo ⟨(b :: t).toArray⟩).1 : Int)) := by
  have hn : ¬ (fullM (b :: t) = false) := by rw [h]; decide
  refine Eq.trans (if_neg hn) ?_
  cases writeM s ((Lib.decodeGo ⟨(b :: t).toArray⟩).1 : Int) <;> rfl
theorem encR_nil (f a : Nat) (s : EM) : encR f a s [] = .ok (chooseM (releaseM s) 66).out := by
  cases f <;> rfl
theorem encR_at_bad {f a : Nat} {s : EM} {l r : List UInt8} (hlt : a < l.length) (hr : l.drop a = r) (h : fullM r = false) : encR (f + 1) a s r = .bad a 10 := by
  have hdr := List.drop_eq_getElem_cons hlt
  rw [hr] at hdr
  rw [hdr] at h ⊢
  exact encR_bad f a s _ _ h
theorem encR_at {f a : Nat} {s : EM} {l r : List UInt8} {R S : Nat} (hlt : a < l.length) (hr : l.drop a = r) (hR : (Lib.decodeGo ⟨r.toArray⟩).1 = R) (hS : (Lib.decodeGo ⟨r.toArray⟩).2 = S) (h : fullM r = true) :
    encR (f + 1) a s r = encK f a S r (writeM s (R : Int)) := by
  have hdr := List.drop_eq_getElem_cons hlt
  rw [hr] at hdr
  subst hR hS
  rw [hdr] at h ⊢
  exact encR_go f a s _ _ h

set_option maxRecDepth 100000 in
set_option maxHeartbeats 4000000 in
theorem encode_c (l : List UInt8) (w : World) (hl : l.length ≤ 1099511627776) (hT : Tabs w) :
    Calls Tryd.prog 17 #[str l] w (DecPost (encM l) w) := by
  have hmm := @run_makeMap Tryd.prog
  have hm0 := MapF.made encRef .u8 5 w
  have hb0 := below_new w (.map #[] 0)
  have Hm0 := Lib.hid hm0
  have Hb0 := Lib.hid hb0
  have HT := Lib.hid hT
  have Henc := Lib.hid (show encM l = encR l.length 0 ⟨[], 0, 66⟩ (l.drop 0) by unfold encM; rw [List.drop_zero])
  clear hm0 hb0 hT
  go_enter Tryd.func17, Tryd.ntmps17
  go_wp2_with fail
  refine (characterRuns_c _).mono ?_
  rintro e w1 ⟨v1, rfl, hr1, hb1⟩
  have hm1 := Hm0.out.below hb1 (by simp)
  have Hb1 := Lib.hid (below_tr Hb0.out hb1)
  have N1 := Lib.hid (newCodes_rows charsRows _ v1 w1 hr1)
  have Hm1 := Lib.hid hm1
  have hz1 := hb1.size
  clear hr1 hb1 hm1
  go_wp2_with fail
  refine N1.out.mono ?_
  clear N1
  rintro e w2 ⟨mc, rfl, hmc, hset2, hb2⟩
  have Hm2 := Lib.hid (Hm1.out.below hb2 Hm1.out.lt)
  have Hset2 := Lib.hid hset2
  have Hb2 := Lib.hid (below_tr Hb1.out hb2)
  have hz2 := hb2.size
  clear hset2 hb2
  go_wp2_with fail
  refine (markRuns_c _).mono ?_
  rintro e w3 ⟨v3, rfl, hr3, hb3⟩
  have Hm3 := Lib.hid (Hm2.out.below hb3 Hm2.out.lt)
  have Hset3 := Lib.hid (Hset2.out.below hb3 Hset2.out.lt)
  have Hb3 := Lib.hid (below_tr Hb2.out hb3)
  have N3 := Lib.hid (newCodes_rows marksRows _ v3 w3 hr3)
  have hz3 := hb3.size
  clear hr3 hb3
  go_wp2_with fail
  refine N3.out.mono ?_
  clear N3
  rintro e w4 ⟨mm, rfl, hmm4, hmk4, hb4⟩
  have Hm4 := Lib.hid (Hm3.out.below hb4 Hm3.out.lt)
  have Hset4 := Lib.hid (Hset3.out.below hb4 Hset3.out.lt)
  have Hmk4 := Lib.hid hmk4
  have Hb4 := Lib.hid (below_tr Hb3.out hb4)
  have hz4 := hb4.size
  have hsz4 := Hb4.out.size
  have hc2 := Hset2.out.lt
  clear hmk4 hb4
  have hz1' : w.heap.size + 1 ≤ w1.heap.size := by simpa using hz1
  obtain ⟨K, hK⟩ : ∃ K : EK, K = ⟨w.heap.size, w4.heap.size, w.heap.size, mc, mm⟩ := ⟨_, rfl⟩
  have hKB : K.B = w.heap.size := by rw [hK]
  have hKb : K.b = w4.heap.size := by rw [hK]
  have h5 : ESt K ⟨[], 0, 66⟩ (w4.alloc (.cells #[.pointer none, .slice none 0 0, .int .u8 0, .int .u8 66, .map (some w.heap.size), .map (some mc), .map (some mm), .map none] 56)) := by
    rw [hK]
    exact ⟨⟨.pointer none, .slice none 0 0, .map none, ⟨hsz4, World.alloc_heap_new _ _, .inl rfl, _, rfl, World.ownsRow_nil _ _ _ _⟩, .inl rfl⟩,
      ⟨fun _ => none, 0, Nat.zero_le _, ⟨Hm4.out.alloc _, Nat.le_refl _, fun k r _ h => by cases h⟩⟩, Hset4.out.alloc _, Hmk4.out.alloc _,
      by show mc ≠ w.heap.size; omega, by show mm ≠ w.heap.size; omega, .inl rfl⟩
  have hb5 : Below w.heap.size w (w4.alloc (.cells #[.pointer none, .slice none 0 0, .int .u8 0, .int .u8 66, .map (some w.heap.size), .map (some mc), .map (some mm), .map none] 56)) := Hb4.out.alloc hsz4 _
  have H5 := Lib.hid h5
  have HK := Lib.hid hK
  have Hb5 := Lib.hid hb5
  clear h5 hb5 hK hmc hmm4 hz1 hz2 hz3 hz4 hc2 hz1' Hm4 Hset4 Hmk4 Hb4 Hm3 Hset3 Hb3 Hm2 Hset2 Hb2 Hm1 Hb1 Hm0 Hb0
  have hKB' := Lib.hid hKB
  clear hKB
  have hsz := size_str l
  go_wp2_with fail
  go_loopw [4] (fun iv wr => ∃ (a fuel : Nat) (s : EM), iv = .int .i64 a ∧ ESt K s wr ∧ a ≤ l.length ∧ s.out.length ≤ 6 * a ∧ l.length ≤ a + fuel ∧ Below w.heap.size w wr ∧ encM l = encR fuel a s (l.drop a)) (fun iv _ => l.length - (intOf iv).toNat)
  case atStart => exact ⟨0, l.length, ⟨[], 0, 66⟩, rfl, H5.out, Nat.zero_le _, by simp, by omega, Hb5.out, Henc.out⟩
  case round =>
    obtain ⟨a, fuel, s, rfl, h, hal, hol, hfu, hb, hdm⟩ := hrel
    have Hdm := Lib.hid hdm
    have H := Lib.hid h
    have Hb := Lib.hid hb
    clear hdm hb
    by_cases hlt : a < l.length
    · obtain ⟨f, rfl⟩ : ∃ f, fuel = f + 1 := ⟨fuel - 1, by omega⟩
      have hdr := List.drop_eq_getElem_cons hlt
      have hex := ext_drop l a
      have i0 : (0 : Int) ≤ (a : Int) := by omega
      have i1 : (a : Int) < (l.length : Int) := by omega
      have i2 : (a : Int) ≤ (l.length : Int) := by omega
      have hdec := decodeGo_pos l[a] (l.drop (a + 1))
      rw [← hdr] at hdec
      have hrl : (l.drop a).length = l.length - a := by simp
      have hdd : ∀ n, (l.drop a).drop n = l.drop (a + n) := fun n => by rw [List.drop_drop]
      obtain ⟨r, hr⟩ : ∃ r, l.drop a = r := ⟨_, rfl⟩
      rw [hr] at hdec hex hrl hdd
      have Hdr := Lib.hid hdr
      have Hr := Lib.hid hr
      have hTr := tabs_below HT.out (Hb.out.mono (Nat.le_refl _))
      have N1 := Lib.hid (full_c r (by omega) wr hTr)
      obtain ⟨R, hR⟩ : ∃ R, (Lib.decodeGo ⟨r.toArray⟩).1 = R := ⟨_, rfl⟩
      obtain ⟨S, hS⟩ : ∃ S, (Lib.decodeGo ⟨r.toArray⟩).2 = S := ⟨_, rfl⟩
      have N2 := Lib.hid (fun W (hW : Tabs W) => decodeRune ⟨r.toArray⟩ W hW)
      simp only [hR, hS] at N2
      rw [hR, hS] at hdec
      have hstep := Hdm.out
      rw [hr] at hstep
      obtain ⟨d1, d2, d3⟩ := hdec
      have HTr := Lib.hid hTr
      cases hf : fullM r with
      | false =>
        have hr : encM l = .bad a 10 := hstep.trans (encR_at_bad hlt hr hf)
        have Hres := Lib.hid hr
        have N1' := N1.out
        rw [hf] at N1'
        have N1 := Lib.hid N1'
        clear N1' h hr hdr hf hTr hstep hdd
        go_wp2_with fail
        refine N1.out.mono ?_
        rintro e w7 ⟨rfl, hb7⟩
        have Hb7 := Lib.hid (Hb.out.trans (hb7.mono (by have := Hb.out.size; omega)))
        clear hb7
        go_wp2_with fail
        refine (fail_c _ _ _).mono ?_
        rintro e w8 ⟨rfl, rfl⟩
        go_wp2_with fail
        refine ⟨rfl, ?_⟩
        unfold DecPost
        rw [Hres.out]
        exact ⟨rfl, Hb7.out⟩
      | true =>
        rw [encR_at hlt hr hR hS hf] at hstep
        have N1' := N1.out
        rw [hf] at N1'
        have N1 := Lib.hid N1'
        have N3 := Lib.hid (fun W (hW : ESt K s W) => write_c K s (R : Int) (by omega) (by omega) W hW (by omega))
        cases hw : writeM s (R : Int) with
        | none =>
          rw [hw] at hstep
          have hr : encM l = .bad a 15 := hstep
          have Hres := Lib.hid hr
          have Hw := Lib.hid hw
          clear N1' h hr hdr hf hTr hstep hdd hw
          go_wp2_with fail
          refine N1.out.mono ?_
          rintro e w7 ⟨rfl, hb7⟩
          have H7 := Lib.hid (H.out.below hb7)
          have HT7 := Lib.hid (tabs_below HTr.out hb7)
          have Hb7 := Lib.hid (Hb.out.trans (hb7.mono (by have := Hb.out.size; omega)))
          clear hb7
          go_wp2_with fail
          refine (N2.out _ HT7.out).mono ?_
          rintro e w8 ⟨rfl, hb8⟩
          have H8 := Lib.hid (H7.out.below hb8)
          have Hb8 := Lib.hid (Hb7.out.trans (hb8.mono (by have := Hb7.out.size; omega)))
          clear hb8
          go_wp2_with fail
          rw [← hKb]
          refine (N3.out _ H8.out).mono ?_
          rintro e w9 hp
          unfold WritePost at hp
          rw [Hw.out] at hp
          obtain ⟨rfl, hb9⟩ := hp
          have Hb9 := Lib.hid (Hb8.out.trans (by rw [hKB'.out] at hb9; exact hb9))
          clear hb9
          go_wp2_with fail
          refine (fail_c _ _ _).mono ?_
          rintro e w10 ⟨rfl, rfl⟩
          go_wp2_with fail
          refine ⟨rfl, ?_⟩
          unfold DecPost
          rw [Hres.out]
          exact ⟨rfl, Hb9.out⟩
        | some s' =>
          rw [hw] at hstep
          have hr : encM l = encR f (a + S) s' (l.drop (a + S)) := by rw [← hdd]; exact hstep
          have hlen := writeM_len hw
          have Hres := Lib.hid hr
          have Hw := Lib.hid hw
          clear N1' h hr hdr hf hTr hstep hdd hw
          go_wp2_with fail
          refine N1.out.mono ?_
          rintro e w7 ⟨rfl, hb7⟩
          have H7 := Lib.hid (H.out.below hb7)
          have HT7 := Lib.hid (tabs_below HTr.out hb7)
          have Hb7 := Lib.hid (Hb.out.trans (hb7.mono (by have := Hb.out.size; omega)))
          clear hb7
          go_wp2_with fail
          refine (N2.out _ HT7.out).mono ?_
          rintro e w8 ⟨rfl, hb8⟩
          have H8 := Lib.hid (H7.out.below hb8)
          have Hb8 := Lib.hid (Hb7.out.trans (hb8.mono (by have := Hb7.out.size; omega)))
          clear hb8
          go_wp2_with fail
          rw [← hKb]
          refine (N3.out _ H8.out).mono ?_
          rintro e w9 hp
          unfold WritePost at hp
          rw [Hw.out] at hp
          obtain ⟨rfl, h9, hb9⟩ := hp
          have H9 := Lib.hid h9
          have Hb9 := Lib.hid (Hb8.out.trans (by have := hb9.below; rw [hKB'.out] at this; exact this))
          clear hb9 h9
          go_wp2_with fail
          go_roundw
          case rel => exact ⟨a + S, f, s', by first | rfl | simp | push_cast; rfl, H9.out, by omega, by omega, by omega, Hb9.out, Hres.out⟩
          case measure => simp only [intOf]; omega
    · have hd : decide (a < l.length) = false := decide_eq_false hlt
      have hr : encM l = .ok (chooseM (releaseM s) 66).out := by
        rw [Hdm.out, List.drop_eq_nil_of_le (by omega)]
        exact encR_nil _ _ _
      have Hr := Lib.hid hr
      have hrl := (releaseM_len s).1
      have N1 := Lib.hid (release_c K s wr h (by omega))
      have N2 := Lib.hid (fun W (hW : ESt K (releaseM s) W) => echoose_c K (releaseM s) 66 (.inl rfl) W hW (by omega))
      clear h hr hlt
      go_wp2_with fail
      rw [← hKb]
      refine N1.out.mono ?_
      rintro e w7 ⟨rfl, h7, hb7⟩
      have H7 := Lib.hid h7
      have Hb7 := Lib.hid (Hb.out.trans (by have := hb7.below; rw [hKB'.out] at this; exact this))
      clear h7 hb7
      go_wp2_with fail
      rw [← hKb]
      refine (N2.out _ H7.out).mono ?_
      rintro e w8 ⟨rfl, h8, hb8⟩
      obtain ⟨p, v, cm, hrow, _⟩ := h8.row
      have N3 := Lib.hid (builderString_c TE K.B K.b 0 _ _ w8 hrow)
      have Hb8 := Lib.hid (Hb7.out.trans (by have := hb8.below; rw [hKB'.out] at this; exact this))
      clear h8 hb8 hrow
      go_wp2_with fail
      rw [← hKb]
      refine N3.out.mono ?_
      rintro e w9 ⟨rfl, hb9⟩
      have Hb9 := Lib.hid (Hb8.out.trans (by rw [hKB'.out] at hb9; exact hb9))
      clear hb9
      go_wp2_with fail
      go_ret
      unfold DecPost
      rw [Hr.out]
      exact ⟨rfl, Hb9.out⟩
end Go.Proofs.YtjndekmpnihamaaDoor
