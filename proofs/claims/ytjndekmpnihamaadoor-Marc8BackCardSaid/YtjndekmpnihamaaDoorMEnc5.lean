/-
  One character of the encoder.
-/
import Derived.Test.YtjndekmpnihamaaDoorMEnc4
namespace Go.Proofs.YtjndekmpnihamaaDoor
open Go.RowKit Go.Shelf
set_option linter.unusedVariables false

def WritePost (K : EK) (s : EM) (c : Int) (w : World) (e : Ending) (w' : World) : Prop := match writeM s c with
  | some s' => Left K s' w (.bool true) e w'
  | none => e = .returned (.bool false) ∧ Below K.B w w'

theorem wfC_of {c : Int} (h0 : 0 ≤ c) (h1 : c ≤ 2147483647) : wfC c := by
  simp [wfC, Lit.wf, IntKind.min, IntKind.max, IntKind.signed, IntKind.bits]; omega
theorem markM_len {s s' : EM} {c : Int} (h : markM s c = some s') : s'.out.length ≤ s.out.length + 1 := by
  unfold markM at h
  split at h
  · split at h
    · cases h
    · cases h; simp
  · cases h
theorem chooseM_len (s : EM) (nm : UInt8) : (chooseM s nm).out.length ≤ s.out.length + 3 := by unfold chooseM; split <;> simp
theorem namesM_len {s s' : EM} {c : Int} : ∀ {l : List UInt8}, namesM s c l = some s' → s'.out.length ≤ s.out.length + 3
  | [], h => by cases h
  | nm :: r, h => by
    unfold namesM at h
    split at h
    · cases h; exact chooseM_len s nm
    · exact namesM_len h
theorem letterM_len {s s' : EM} {c : Int} (h : letterM s c = some s') : s'.out.length ≤ s.out.length + 4 := by
  have h1 := (releaseM_len s).1
  unfold letterM letterR at h
  split at h
  · cases h; show (releaseM s).out.length ≤ _; omega
  · split at h
    · cases h; show (releaseM s).out.length ≤ _; omega
    · have := namesM_len h; omega

set_option maxRecDepth 100000 in
set_option maxHeartbeats 2000000 in
theorem write_c (K : EK) (s : EM) (c : Int) (h0 : 0 ≤ c) (h1 : c ≤ 2147483647) (w : World) (h : ESt K s w) (hlen : s.out.length + 40 ≤ 140737488355328) :
    Calls Tryd.prog 30 #[.pointer (some ⟨K.b, 0, none⟩), .int .i32 c] w (WritePost K s c w) := by
  have hwf := wfC_of h0 h1
  by_cases c32 : c < 32
  · by_cases c27 : c = 27
    · subst c27
      have hm : writeM s 27 = none := by unfold writeM controlM; simp
      have Hm := Lib.hid hm
      have N := Lib.hid (control_no K s w h)
      clear hm h hwf
      go_enter Tryd.func30, Tryd.ntmps30
      go_wp2_with fail
      refine N.out.mono ?_
      rintro e w1 ⟨rfl, hx, hb1⟩
      have Hb1 := Lib.hid hb1
      clear hb1 hx
      go_wp2_with fail
      go_ret
      unfold WritePost
      rw [Hm.out]
      exact ⟨rfl, Hb1.out.below⟩
    · have hm : writeM s c = some ⟨(releaseM s).out ++ [codeB c], (releaseM s).held, (releaseM s).cur⟩ := by unfold writeM controlM; rw [if_pos c32, if_neg c27]
      have Hm := Lib.hid hm
      have N := Lib.hid (control_yes K s c h0 c32 c27 w h (by omega))
      clear hm h hwf c27
      go_enter Tryd.func30, Tryd.ntmps30
      go_wp2_with fail
      refine N.out.mono ?_
      rintro e w1 ⟨rfl, hx, hb1⟩
      have Hb1 := Lib.hid hb1
      have Hx := Lib.hid hx
      clear hb1 hx
      go_wp2_with fail
      go_ret
      unfold WritePost
      rw [Hm.out]
      exact ⟨rfl, Hx.out, Hb1.out⟩
  · have c32' : 32 ≤ c := by omega
    cases hmk : markM s c with
    | some s1 =>
      have hm : writeM s c = some s1 := by unfold writeM; rw [if_neg c32, hmk]
      have Hm := Lib.hid hm
      have N := Lib.hid (mark_yes K s s1 c hwf hmk w h (by omega))
      clear hm h hwf c32 hmk
      go_enter Tryd.func30, Tryd.ntmps30
      go_wp2_with fail
      refine N.out.mono ?_
      rintro e w1 ⟨rfl, hx, hb1⟩
      have Hb1 := Lib.hid hb1
      have Hx := Lib.hid hx
      clear hb1 hx
      go_wp2_with fail
      go_ret
      unfold WritePost
      rw [Hm.out]
      exact ⟨rfl, Hx.out, Hb1.out⟩
    | none =>
      have N1 := Lib.hid (mark_no K s c hwf hmk w h)
      have N2 := Lib.hid (fun W (h : ESt K s W) => letter_e K s c hwf W h (by omega))
      cases hlt : letterM s c with
      | some s1 =>
        have hm : writeM s c = some s1 := by unfold writeM; rw [if_neg c32, hmk]; simp only [hlt]
        have Hm := Lib.hid hm
        have Hlt := Lib.hid hlt
        clear hm h hwf c32 hmk hlt
        go_enter Tryd.func30, Tryd.ntmps30
        go_wp2_with fail
        refine N1.out.mono ?_
        rintro e w1 ⟨rfl, hx, hb1⟩
        have Hb1 := Lib.hid hb1
        have Hx := Lib.hid hx
        clear hb1 hx
        go_wp2_with fail
        refine (N2.out _ Hx.out).mono ?_
        rintro e w2 hp
        unfold LetPost at hp
        rw [Hlt.out] at hp
        obtain ⟨rfl, hx2, hb2⟩ := hp
        have Hb2 := Lib.hid (Hb1.out.trans hb2)
        have Hx2 := Lib.hid hx2
        clear hb2 hx2
        go_wp2_with fail
        go_ret
        unfold WritePost
        rw [Hm.out]
        exact ⟨rfl, Hx2.out, Hb2.out⟩
      | none =>
        have hm : writeM s c = composedM s c := by unfold writeM; rw [if_neg c32, hmk]; simp only [hlt]
        have Hm := Lib.hid hm
        have Hlt := Lib.hid hlt
        have hrl := (releaseM_len s).1
        have N3 := Lib.hid (fun W (h : ESt K (releaseM s) W) => whole_c K (releaseM s) c hwf W h)
        have hBw := h.base
        obtain ⟨s1, hs1⟩ : ∃ s1, releaseM s = s1 := ⟨_, rfl⟩
        rw [hs1] at N3 hrl
        have Hs1 := Lib.hid hs1
        cases hcp : compC c with
        | none =>
          have hm2 : writeM s c = none := by rw [hm]; unfold composedM; rw [hcp]
          have Hm2 := Lib.hid hm2
          simp only [hcp, Option.getD_none, Option.isSome_none] at N3
          clear hm hm2 h hwf c32 hmk hlt hs1 hcp
          go_enter Tryd.func30, Tryd.ntmps30
          go_wp2_with fail
          refine N1.out.mono ?_
          rintro e w1 ⟨rfl, hx, hb1⟩
          have Hb1 := Lib.hid hb1
          have Hx := Lib.hid hx
          clear hb1 hx
          go_wp2_with fail
          refine (N2.out _ Hx.out).mono ?_
          rintro e w2 hp
          unfold LetPost at hp
          rw [Hlt.out, Hs1.out] at hp
          obtain ⟨rfl, hx2, hb2⟩ := hp
          have Hb2 := Lib.hid (Hb1.out.trans hb2)
          have Hx2 := Lib.hid hx2
          clear hb2 hx2
          go_wp2_with fail
          refine (N3.out _ Hx2.out).mono ?_
          rintro e w3 ⟨rfl, hx3, hb3⟩
          have Hb3 := Lib.hid (Hb2.out.trans hb3).below
          have hB3 : K.B ≤ w3.heap.size := by have := hx3.base; omega
          clear hb3 hx3
          go_wp2_with fail
          go_ret
          unfold WritePost
          rw [Hm2.out]
          exact ⟨rfl, Hb3.out.alloc hB3 _⟩
        | some p =>
          obtain ⟨a, b⟩ := p
          have hrg := compRange_of (compC_mem hcp)
          simp only at hrg
          have hwa : wfC a := wfC_of hrg.2.2.1 (by have h255 : (a : Int) ≤ 255 := hrg.2.2.2.1; omega)
          have hwb : wfC b := wfC_of hrg.2.2.2.2.1 hrg.2.2.2.2.2
          simp only [hcp, Option.getD_some, Option.isSome_some] at N3
          have N4 := Lib.hid (fun W (h : ESt K s1 W) => letter_e K s1 a hwa W h (by omega))
          cases hl2 : letterM s1 a with
          | none =>
            have hm2 : writeM s c = none := by rw [hm]; unfold composedM; rw [hcp]; simp only [hs1, hl2]
            have Hm2 := Lib.hid hm2
            have Hl2 := Lib.hid hl2
            clear hm hm2 h hwf c32 hmk hlt hs1 hcp hrg hl2
            go_enter Tryd.func30, Tryd.ntmps30
            go_wp2_with fail
            refine N1.out.mono ?_
            rintro e w1 ⟨rfl, hx, hb1⟩
            have Hb1 := Lib.hid hb1
            have Hx := Lib.hid hx
            clear hb1 hx
            go_wp2_with fail
            refine (N2.out _ Hx.out).mono ?_
            rintro e w2 hp
            unfold LetPost at hp
            rw [Hlt.out, Hs1.out] at hp
            obtain ⟨rfl, hx2, hb2⟩ := hp
            have Hb2 := Lib.hid (Hb1.out.trans hb2)
            have Hx2 := Lib.hid hx2
            clear hb2 hx2
            go_wp2_with fail
            refine (N3.out _ Hx2.out).mono ?_
            rintro e w3 ⟨rfl, hx3, hb3⟩
            have hB3 : K.B ≤ w3.heap.size := by have := hx3.base; omega
            have hx4 := hx3.below ((Below.refl _ w3).alloc (Nat.le_refl _) (.cells #[.int .i32 a, .int .i32 b] 86))
            have Hb3 := Lib.hid ((Hb2.out.trans hb3).alloc hB3 (.cells #[.int .i32 a, .int .i32 b] 86))
            have Hx4 := Lib.hid hx4
            clear hb3 hx3 hx4
            go_wp2_with fail
            refine (N4.out _ Hx4.out).mono ?_
            rintro e w5 hp
            unfold LetPost at hp
            rw [Hl2.out] at hp
            obtain ⟨rfl, hx5, hb5⟩ := hp
            have Hb5 := Lib.hid (Hb3.out.trans hb5).below
            clear hb5 hx5
            go_wp2_with fail
            go_ret
            unfold WritePost
            rw [Hm2.out]
            exact ⟨rfl, Hb5.out⟩
          | some s2 =>
            have hl2len := letterM_len hl2
            have hm2 : writeM s c = markM s2 b := by rw [hm]; unfold composedM; rw [hcp]; simp only [hs1, hl2]
            have Hm2 := Lib.hid hm2
            have Hl2 := Lib.hid hl2
            have N5 : Hid (∀ W, ESt K s2 W → Calls Tryd.prog 43 #[.pointer (some ⟨K.b, 0, none⟩), .int .i32 b] W (fun e w' => ∃ v, e = .returned (.bool v) ∧ (match markM s2 b with | some s3 => v = true ∧ ESt K s3 w' | none => v = false) ∧ EB K W w')) := Lib.hid (fun W hW => by
              cases hmm : markM s2 b with
              | some s3 => exact (mark_yes K s2 s3 b hwb hmm W hW (by omega)).mono fun e w' ⟨he, hx, hb⟩ => ⟨true, he, ⟨rfl, hx⟩, hb⟩
              | none => exact (mark_no K s2 b hwb hmm W hW).mono fun e w' ⟨he, hx, hb⟩ => ⟨false, he, rfl, hb⟩)
            clear hm hm2 h hwf c32 hmk hlt hs1 hcp hrg hl2
            go_enter Tryd.func30, Tryd.ntmps30
            go_wp2_with fail
            refine N1.out.mono ?_
            rintro e w1 ⟨rfl, hx, hb1⟩
            have Hb1 := Lib.hid hb1
            have Hx := Lib.hid hx
            clear hb1 hx
            go_wp2_with fail
            refine (N2.out _ Hx.out).mono ?_
            rintro e w2 hp
            unfold LetPost at hp
            rw [Hlt.out, Hs1.out] at hp
            obtain ⟨rfl, hx2, hb2⟩ := hp
            have Hb2 := Lib.hid (Hb1.out.trans hb2)
            have Hx2 := Lib.hid hx2
            clear hb2 hx2
            go_wp2_with fail
            refine (N3.out _ Hx2.out).mono ?_
            rintro e w3 ⟨rfl, hx3, hb3⟩
            have hB3 : K.B ≤ w3.heap.size := by have := hx3.base; omega
            have hK3 := hx3.base.2
            have hx4 := hx3.below ((Below.refl _ w3).alloc (Nat.le_refl _) (.cells #[.int .i32 a, .int .i32 b] 86))
            have Hb3 := Lib.hid ((Hb2.out.trans hb3).alloc hB3 (.cells #[.int .i32 a, .int .i32 b] 86))
            have Hx4 := Lib.hid hx4
            clear hb3 hx3 hx4
            go_wp2_with fail
            refine (N4.out _ Hx4.out).mono ?_
            rintro e w5 hp
            unfold LetPost at hp
            rw [Hl2.out] at hp
            obtain ⟨rfl, hx5, hb5⟩ := hp
            have hD5 := hb5.ck w3.heap.size _ _ _ (World.alloc_heap_new w3 (.cells #[.int .i32 a, .int .i32 b] 86)) (by decide) (by omega)
            have g1 : w5.cell? ⟨w3.heap.size, 1, none⟩ = some (.int .i32 b) := by rw [cell_at hD5]; rfl
            have Hb5 := Lib.hid (Hb3.out.trans hb5)
            have Hx5 := Lib.hid hx5
            clear hb5 hx5 hD5
            go_wp2_with fail
            refine (N5.out _ Hx5.out).mono ?_
            rintro e w6 ⟨v, rfl, hv, hb6⟩
            have Hb6 := Lib.hid (Hb5.out.trans hb6)
            have Hv := Lib.hid hv
            clear hb6 hv
            go_wp2_with fail
            go_ret
            unfold WritePost
            rw [Hm2.out]
            have hv := Hv.out
            cases hmm : markM s2 b with
            | some s3 =>
              rw [hmm] at hv
              obtain ⟨rfl, hx6⟩ := hv
              exact ⟨rfl, hx6, Hb6.out⟩
            | none =>
              rw [hmm] at hv
              obtain rfl : v = false := hv
              exact ⟨rfl, Hb6.out.below⟩
end Go.Proofs.YtjndekmpnihamaaDoor
