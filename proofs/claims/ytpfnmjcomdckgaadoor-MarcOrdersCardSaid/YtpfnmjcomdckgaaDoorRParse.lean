/-
  marc.parse.
-/
import Derived.Test.YtpfnmjcomdckgaaDoorRFields
import Derived.Deep.RegionWith
namespace Go.Proofs.YtpfnmjcomdckgaaDoor
open Go.RowKit Go.Shelf
set_option linter.unusedVariables false
set_option linter.unusedSimpArgs false

def parseM (l : List UInt8) : PR RecM := match lenErr l with
  | some p => .bad p.1 p.2
  | none => match leadErr l with
    | some p => .bad p.1 p.2
    | none => match headOf l with
      | .bad p k => .bad p k
      | .ok h => if l.getD (l.length - 1) 0 = 29 then
          match dirP l (l.length - 1 - h) ((h - 25) / 12) 24 0 with
          | .bad p k => .bad p k
          | .ok es => match fieldsP (l.drop h) h es with
            | .bad p k => .bad p k
            | .ok fs => .ok ⟨l.getD 6 0, l.getD 7 0, fs⟩
        else .bad (l.length - 1) 14
theorem lenErr_none {l : List UInt8} (h : lenErr l = none) : 24 ≤ l.length ∧ l.length < 100000 := by
  unfold lenErr at h
  split at h
  · cases h
  · split at h
    · rename_i h1 h2
      have hv := valL_lt _ h2
      have : (l.take 5).length = 5 := by rw [List.length_take]; omega
      rw [this] at hv
      split at h
      · cases h
      · split at h
        · cases h
        · omega
    · cases h
theorem headOf_ok {l : List UInt8} {h : Nat} (hh : headOf l = .ok h) : ∃ n, h = 25 + 12 * n ∧ n ≤ 999 ∧ h < l.length := by
  unfold headOf at hh
  split at hh
  · split at hh
    · rename_i h2
      have := headB_iff.1 h2
      split at hh
      · cases hh
      · cases hh
        exact ⟨(valL (headDigs l) - 25) / 12, by omega, by omega, by omega⟩
    · cases hh
  · cases hh
theorem dirP_ok {l : List UInt8} {D : Nat} : ∀ {n a sum : Nat} {es : List EntM}, dirP l D n a sum = .ok es → es.length = n ∧ ∀ e ∈ es, 1 ≤ e.size ∧ e.from' + e.size ≤ D
  | 0, a, sum, es, h => by cases h; exact ⟨rfl, by simp⟩
  | n + 1, a, sum, es, h => by
    cases hb : entOk D sum ((l.drop a).take 12) with
    | false => rw [dirP_bad hb] at h; cases h
    | true =>
      have h2 : dirP l D (n + 1) a sum = (match dirP l D n (a + 12) (sum + (entOf ((l.drop a).take 12)).size) with
        | .bad x k => .bad x k
        | .ok es => .ok (entOf ((l.drop a).take 12) :: es)) := if_pos hb
      rw [h2] at h
      cases hd : dirP l D n (a + 12) (sum + (entOf ((l.drop a).take 12)).size) with
      | bad x k => rw [hd] at h; cases h
      | ok es' =>
        rw [hd] at h
        cases h
        obtain ⟨h3, h4⟩ := dirP_ok hd
        refine ⟨by rw [List.length_cons, h3], fun e he => ?_⟩
        rcases List.mem_cons.1 he with rfl | he
        · unfold entOk at hb
          simp only [Bool.and_eq_true, Bool.not_eq_true', beq_eq_false_iff_ne, decide_eq_true_eq] at hb
          omega
        · exact h4 e he
set_option maxRecDepth 100000 in
theorem clone_c (l : List UInt8) (hl : l.length ≤ 281474976710656) (w : World) :
    Calls Tryd.prog 52 #[str l] w fun e w' => e = .returned (str l) ∧ Below w.heap.size w w' := by
  have N := Lib.hid (sliteClone ⟨l.toArray⟩ w (by rw [size_str]; exact hl))
  go_enter Tryd.func52, Tryd.ntmps52
  go_wp2_with fail
  refine N.out.mono ?_
  rintro e w1 ⟨rfl, hb⟩
  go_wp2
  go_ret
  exact ⟨rfl, hb⟩
/-- No string lies in this block. -/
def NoStr (W : World) (r : Nat) : Prop := ∀ o s, W.cell? ⟨r, o, none⟩ ≠ some (.string s)
theorem nostr3 {W : World} {r : Nat} {T : TypeId} {m n : Int} {k : IntKind} {a : Option Addr} {l c : Nat} (h : W.heap[r]? = some (.cells #[.int k m, .int k n, .slice a l c] T (0, 0))) : NoStr W r := by
  intro o s e
  rw [cell_at h] at e
  match o with
  | 0 => simp at e
  | 1 => simp at e
  | 2 => simp at e
  | o + 3 => simp at e
theorem cell_far {W W' : World} {r : Nat} (hs : ∀ k, k ≠ r → W'.heap[k]? = W.heap[k]?) {b o : Nat} (hb : b ≠ r) : W'.cell? ⟨b, o, none⟩ = W.cell? ⟨b, o, none⟩ := by
  unfold World.cell?
  rw [hs b hb]
theorem subs_far {W W' : World} {r : Nat} {v : Value} {l : List SubM} (h : SubsAt W v l) (hn : NoStr W r) (hs : ∀ k, k ≠ r → W'.heap[k]? = W.heap[k]?) (hz : W.heap.size ≤ W'.heap.size) : SubsAt W' v l := by
  rcases h with h | ⟨b, off, cap, hv, hm, hlt, hc⟩
  · exact .inl h
  · refine .inr ⟨b, off, cap, hv, hm, by omega, fun i hi => ?_⟩
    have hb : b ≠ r := by rintro rfl; exact hn _ _ (hc i hi).2
    rw [cell_far hs hb, cell_far hs hb]
    exact hc i hi
theorem flds_far {W W' : World} {r : Nat} {v : Value} {l : List FldM} (h : FldsAt W v l) (hn : NoStr W r) (hs : ∀ k, k ≠ r → W'.heap[k]? = W.heap[k]?) (hz : W.heap.size ≤ W'.heap.size) : FldsAt W' v l := by
  rcases h with h | ⟨b, off, cap, hv, hm, hlt, hc⟩
  · exact .inl h
  · refine .inr ⟨b, off, cap, hv, hm, by omega, fun i hi => ?_⟩
    have hb : b ≠ r := by rintro rfl; exact hn _ _ (hc i hi).1
    obtain ⟨h0, h1, h2, sv, h3, h4⟩ := hc i hi
    rw [cell_far hs hb, cell_far hs hb, cell_far hs hb]
    exact ⟨h0, h1, h2, sv, by rw [cell_far hs hb]; exact h3, subs_far h4 hn hs hz⟩
def PPost (x : PR RecM) (w : World) (e : Ending) (w' : World) : Prop := match x with
  | .bad p k => e = pan p k ∧ Below w.heap.size w w'
  | .ok r => ∃ fv, e = .returned (.agg #[.int .u8 (r.kind.toNat : Int), .int .u8 (r.level.toNat : Int), fv]) ∧ Below w.heap.size w w' ∧ FldsAt w' fv r.fields
set_option maxRecDepth 100000 in
set_option maxHeartbeats 4000000 in
theorem parse_c (l : List UInt8) (hl : l.length ≤ 1099511627776) (w : World) (hT : Tabs w) :
    Calls Tryd.prog 48 #[str l] w (PPost (parseM l) w) := by
  obtain ⟨W0, hW0⟩ : ∃ W0, w.alloc (.cells #[.int .u8 0, .int .u8 0, .slice none 0 0] 27) = W0 := ⟨_, rfl⟩
  have hb0 : Below w.heap.size w W0 := by rw [← hW0]; exact below_new w _
  have hn0 := new_at w (.cells #[.int .u8 0, .int .u8 0, .slice none 0 0] 27)
  rw [hW0] at hn0
  have N1 := checkLength_c l hl W0
  have HT := Lib.hid (tabs_below hT hb0)
  have HW0 := Lib.hid hW0
  have Hb0 := Lib.hid hb0
  have Hn0 := Lib.hid hn0
  clear hW0 hb0 hn0
  obtain ⟨R, hR⟩ : ∃ R, parseM l = R := ⟨_, rfl⟩
  rw [hR]
  unfold parseM at hR
  have hsz := size_str l
  clear hT
  cases h1 : lenErr l with
  | some p =>
    rw [h1] at N1 hR
    unfold CPost at N1
    have N1 := Lib.hid N1
    have HR := Lib.hid hR
    clear h1 hR
    go_enter Tryd.func48, Tryd.ntmps48
    go_wp2_with fail
    rw [HW0.out]
    refine N1.out.mono ?_
    rintro e w1 ⟨rfl, hb1⟩
    go_wp2_with fail
    refine ⟨rfl, ?_⟩
    rw [← HR.out]
    exact ⟨rfl, below_tr Hb0.out hb1⟩
  | none =>
  obtain ⟨h24, h5⟩ := lenErr_none h1
  rw [h1] at N1 hR
  simp only at hR
  unfold CPost at N1
  have N1 := Lib.hid N1
  have N2 := fun W => checkLeader_c l h24 hl W
  cases h2 : leadErr l with
  | some p =>
    rw [h2] at hR
    simp only [h2] at N2
    unfold CPost at N2
    have N2 := Lib.hid N2
    have HR := Lib.hid hR
    clear h1 h2 hR
    go_enter Tryd.func48, Tryd.ntmps48
    go_wp2_with fail
    rw [HW0.out]
    refine N1.out.mono ?_
    rintro e w1 ⟨rfl, hb1⟩
    have Hb1 := Lib.hid (below_tr Hb0.out hb1)
    clear hb1
    go_wp2_with fail
    refine (N2.out _).mono ?_
    rintro e w2 ⟨rfl, hb2⟩
    go_wp2_with fail
    refine ⟨rfl, ?_⟩
    rw [← HR.out]
    exact ⟨rfl, below_tr Hb1.out hb2⟩
  | none =>
  rw [h2] at hR
  simp only at hR
  simp only [h2] at N2
  unfold CPost at N2
  have N2 := Lib.hid N2
  have N3 := fun W => readHead_c l h24 hl W
  cases h3 : headOf l with
  | bad pp kk =>
    rw [h3] at hR
    simp only [h3] at N3
    unfold HPost at N3
    have N3 := Lib.hid N3
    have HR := Lib.hid hR
    clear h1 h2 h3 hR
    go_enter Tryd.func48, Tryd.ntmps48
    go_wp2_with fail
    rw [HW0.out]
    refine N1.out.mono ?_
    rintro e w1 ⟨rfl, hb1⟩
    have Hb1 := Lib.hid (below_tr Hb0.out hb1)
    clear hb1
    go_wp2_with fail
    refine (N2.out _).mono ?_
    rintro e w2 ⟨rfl, hb2⟩
    have Hb2 := Lib.hid (below_tr Hb1.out hb2)
    clear hb2
    go_wp2_with fail
    refine (N3.out _).mono ?_
    rintro e w3 ⟨rfl, hb3⟩
    go_wp2_with fail
    refine ⟨rfl, ?_⟩
    rw [← HR.out]
    exact ⟨rfl, below_tr Hb2.out hb3⟩
  | ok h =>
  obtain ⟨n, rfl, hn, hhl⟩ := headOf_ok h3
  rw [h3] at hR
  simp only [show (25 + 12 * n - 25) / 12 = n by omega] at hR
  simp only [h3] at N3
  unfold HPost at N3
  push_cast at N3
  have N3 := Lib.hid N3
  obtain ⟨last, hlast⟩ : ∃ last, l.length = last + 1 := ⟨l.length - 1, by omega⟩
  have hgl : ∀ h, (ByteArray.mk l.toArray)[last]'h = l.getD last 0 := fun h => by rw [getD_at l last (by omega)]; rfl
  rw [show l.length - 1 = last by omega] at hR
  have hlI : (l.length : Int) - 1 = (last : Int) := by omega
  have j0 : (0 : Int) ≤ (last : Int) := by omega
  have j1 : (last : Int) < (l.length : Int) := by omega
  obtain ⟨x, hx⟩ : ∃ x, l.getD last 0 = x := ⟨_, rfl⟩
  rw [hx] at hgl hR
  by_cases h29 : x = 29
  · have jx : ((x.toNat : Int) != 29) = false := by rw [h29]; rfl
    rw [if_pos h29] at hR
    have N4 := Lib.hid (fun W => clone_c l (by omega) W)
    have N5 := fun W => readDir_c l n hn hhl hl W
    rw [show l.length - 1 - (25 + 12 * n) = last - (25 + 12 * n) by omega] at N5
    cases hdir : dirP l (last - (25 + 12 * n)) n 24 0 with
    | bad pp kk =>
      rw [hdir] at hR
      simp only [hdir] at N5
      unfold DPost at N5
      push_cast at N5
      have N5 := Lib.hid N5
      have HR := Lib.hid hR
      clear h1 h2 h3 h29 hdir hR hx hlast
      go_enter Tryd.func48, Tryd.ntmps48
      go_wp2_with fail
      rw [HW0.out]
      refine N1.out.mono ?_
      rintro e w1 ⟨rfl, hb1⟩
      have Hr1 := Lib.hid (heap_below hb1 Hn0.out)
      have Hb1 := Lib.hid (below_tr Hb0.out hb1)
      have Ht1 := Lib.hid (tabs_below HT.out hb1)
      clear hb1
      go_wp2_with fail
      refine (N2.out _).mono ?_
      rintro e w2 ⟨rfl, hb2⟩
      have Hr2 := Lib.hid (heap_below hb2 Hr1.out)
      have Hb2 := Lib.hid (below_tr Hb1.out hb2)
      have Ht2 := Lib.hid (tabs_below Ht1.out hb2)
      clear hb2
      go_wp2_with fail
      refine (N3.out _).mono ?_
      rintro e w3 ⟨rfl, hb3⟩
      have Hr3 := Lib.hid (heap_below hb3 Hr2.out)
      have Hb3 := Lib.hid (below_tr Hb2.out hb3)
      have Ht3 := Lib.hid (tabs_below Ht2.out hb3)
      clear hb3
      go_wp2_with fail
      refine (N4.out _).mono ?_
      rintro e w4 ⟨rfl, hb4⟩
      have Hr4 := Lib.hid (heap_below hb4 Hr3.out)
      have Hb4 := Lib.hid (below_tr Hb3.out hb4)
      have Ht4 := Lib.hid (tabs_below Ht3.out hb4)
      clear hb4
      go_wp2_with fail
      refine (N5.out _).mono ?_
      rintro e w5 ⟨rfl, hb5⟩
      go_wp2_with fail
      refine ⟨rfl, ?_⟩
      rw [← HR.out]
      exact ⟨rfl, below_tr Hb4.out hb5⟩
    | ok es =>
    obtain ⟨hel, hes⟩ := dirP_ok hdir
    rw [hdir] at hR
    simp only at hR
    simp only [hdir] at N5
    unfold DPost at N5
    push_cast at N5
    have N5 := Lib.hid N5
    have hexh := ext_drop l (25 + 12 * n)
    have N6 := fun v W hv hT => readFields_c (l.drop (25 + 12 * n)) (25 + 12 * n) v es W hv (by omega) (by rw [List.length_drop]; omega) (by omega) hT (fun e he => by have := hes e he; rw [List.length_drop]; omega)
    obtain ⟨G, hG⟩ : ∃ G, l.drop (25 + 12 * n) = G := ⟨_, rfl⟩
    rw [hG] at N6 hexh hR
    have hg6 : ∀ h, (ByteArray.mk l.toArray)[6]'h = l.getD 6 0 := fun h => by rw [getD_at l 6 (by omega)]; rfl
    have hg7 : ∀ h, (ByteArray.mk l.toArray)[7]'h = l.getD 7 0 := fun h => by rw [getD_at l 7 (by omega)]; rfl
    obtain ⟨x6, hx6⟩ : ∃ x, l.getD 6 0 = x := ⟨_, rfl⟩
    obtain ⟨x7, hx7⟩ : ∃ x, l.getD 7 0 = x := ⟨_, rfl⟩
    rw [hx6] at hg6 hR
    rw [hx7] at hg7 hR
    obtain ⟨hh, hhh⟩ : ∃ hh, 25 + 12 * n = hh := ⟨_, rfl⟩
    have hhI : (25 : Int) + 12 * (n : Int) = (hh : Int) := by omega
    rw [hhh] at N6 hexh hR hhl
    rw [hhI] at N5
    have q0 : (0 : Int) ≤ (hh : Int) := by omega
    have q1 : (hh : Int) ≤ (l.length : Int) := by omega
    have q6 : (6 : Int) < (l.length : Int) := by omega
    have q7 : (7 : Int) < (l.length : Int) := by omega
    cases hfs : fieldsP G hh es with
    | bad pp kk =>
      rw [hfs] at hR
      simp only [hfs] at N6
      unfold FsPost at N6
      push_cast at N6
      have N6 := Lib.hid N6
      have HR := Lib.hid hR
      clear h1 h2 h3 h29 hdir hR hx hlast hfs hx6 hx7 hG hes hel hhh
      go_enter Tryd.func48, Tryd.ntmps48
      go_wp2_with fail
      rw [HW0.out]
      refine N1.out.mono ?_
      rintro e w1 ⟨rfl, hb1⟩
      have Hr1 := Lib.hid (heap_below hb1 Hn0.out)
      have Hb1 := Lib.hid (below_tr Hb0.out hb1)
      have Ht1 := Lib.hid (tabs_below HT.out hb1)
      clear hb1
      go_wp2_with fail
      refine (N2.out _).mono ?_
      rintro e w2 ⟨rfl, hb2⟩
      have Hr2 := Lib.hid (heap_below hb2 Hr1.out)
      have Hb2 := Lib.hid (below_tr Hb1.out hb2)
      have Ht2 := Lib.hid (tabs_below Ht1.out hb2)
      clear hb2
      go_wp2_with fail
      refine (N3.out _).mono ?_
      rintro e w3 ⟨rfl, hb3⟩
      have Hr3 := Lib.hid (heap_below hb3 Hr2.out)
      have Hb3 := Lib.hid (below_tr Hb2.out hb3)
      have Ht3 := Lib.hid (tabs_below Ht2.out hb3)
      clear hb3
      go_wp2_with fail
      refine (N4.out _).mono ?_
      rintro e w4 ⟨rfl, hb4⟩
      have Hr4 := Lib.hid (heap_below hb4 Hr3.out)
      have Hb4 := Lib.hid (below_tr Hb3.out hb4)
      have Ht4 := Lib.hid (tabs_below Ht3.out hb4)
      clear hb4
      go_wp2_with fail
      refine (N5.out _).mono ?_
      rintro e w5 ⟨v, rfl, hb5, hown5⟩
      obtain ⟨va, vc, rfl⟩ := own_form hown5
      have N7 := Lib.hid (N6.out _ (World.drew w5) (ents_of_own (w := World.drew w5) hown5) (show Tabs (World.drew w5) from (show Tabs w5 from tabs_below Ht4.out hb5)))
      have Hr5 := Lib.hid (heap_below hb5 Hr4.out)
      have Hb5 := Lib.hid (below_tr Hb4.out hb5)
      clear hb5 hown5
      go_wp2_with fail
      go_region_with (go_at_call 70; refine N7.out.mono ?_; rintro e W9 ⟨rfl, hb9⟩; refine (fun (_ : wpAny Tryd.prog .any #[] (fun _ _ _ => True) 0 #[] { tmps := #[], defers := [] } w) => ?_) ?_; focus (refine ⟨rfl, ?_⟩; rw [← HR.out]; exact ⟨rfl, below_tr Hb5.out ((Below.refl w5.heap.size w5).drew.trans hb9)⟩))
      all_goals trivial
    | ok fs =>
      rw [hfs] at hR
      simp only [hfs] at N6
      unfold FsPost at N6
      push_cast at N6
      have N6 := Lib.hid N6
      have HR := Lib.hid hR
      clear h1 h2 h3 h29 hdir hR hx hlast hfs hx6 hx7 hG hes hel hhh
      go_enter Tryd.func48, Tryd.ntmps48
      go_wp2_with fail
      rw [HW0.out]
      refine N1.out.mono ?_
      rintro e w1 ⟨rfl, hb1⟩
      have Hr1 := Lib.hid (heap_below hb1 Hn0.out)
      have Hb1 := Lib.hid (below_tr Hb0.out hb1)
      have Ht1 := Lib.hid (tabs_below HT.out hb1)
      clear hb1
      go_wp2_with fail
      refine (N2.out _).mono ?_
      rintro e w2 ⟨rfl, hb2⟩
      have Hr2 := Lib.hid (heap_below hb2 Hr1.out)
      have Hb2 := Lib.hid (below_tr Hb1.out hb2)
      have Ht2 := Lib.hid (tabs_below Ht1.out hb2)
      clear hb2
      go_wp2_with fail
      refine (N3.out _).mono ?_
      rintro e w3 ⟨rfl, hb3⟩
      have Hr3 := Lib.hid (heap_below hb3 Hr2.out)
      have Hb3 := Lib.hid (below_tr Hb2.out hb3)
      have Ht3 := Lib.hid (tabs_below Ht2.out hb3)
      clear hb3
      go_wp2_with fail
      refine (N4.out _).mono ?_
      rintro e w4 ⟨rfl, hb4⟩
      have Hr4 := Lib.hid (heap_below hb4 Hr3.out)
      have Hb4 := Lib.hid (below_tr Hb3.out hb4)
      have Ht4 := Lib.hid (tabs_below Ht3.out hb4)
      clear hb4
      go_wp2_with fail
      refine (N5.out _).mono ?_
      rintro e w5 ⟨v, rfl, hb5, hown5⟩
      obtain ⟨va, vc, rfl⟩ := own_form hown5
      have N7 := Lib.hid (N6.out _ (World.drew w5) (ents_of_own (w := World.drew w5) hown5) (show Tabs (World.drew w5) from (show Tabs w5 from tabs_below Ht4.out hb5)))
      have Hr5 := Lib.hid (heap_below hb5 Hr4.out)
      have Hb5 := Lib.hid (below_tr Hb4.out hb5)
      clear hb5 hown5
      have N8 := Lib.hid (N7.out.mono (fun e W9 h => show (∃ fa fc, e = .returned (.slice fa fs.length fc) ∧ Below w5.heap.size w5 W9 ∧ FldsAt W9 (.slice fa fs.length fc) fs ∧
          W9.cell? ⟨w.heap.size, 0, none⟩ = some (.int .u8 0) ∧ W9.cell? ⟨w.heap.size, 1, none⟩ = some (.int .u8 0) ∧ W9.cell? ⟨w.heap.size, 2, none⟩ = some (.slice none 0 0) ∧
          W9.frozen? ⟨w.heap.size, 0, none⟩ = false ∧ W9.frozen? ⟨w.heap.size, 1, none⟩ = false ∧ W9.frozen? ⟨w.heap.size, 2, none⟩ = false ∧ W9.heap[w.heap.size]? = some (.cells #[.int .u8 0, .int .u8 0, .slice none 0 0] 27 (0, 0))) from by
        obtain ⟨fv, rfl, hb9, hfl⟩ := h
        obtain ⟨fa, fc, rfl, -⟩ := hfl.slice
        have hB9 : Below w5.heap.size w5 W9 := (Below.refl w5.heap.size w5).drew.trans hb9
        have hr9 := heap_below hB9 Hr5.out
        exact ⟨fa, fc, rfl, hB9, hfl, by rw [cell_at hr9]; rfl, by rw [cell_at hr9]; rfl, by rw [cell_at hr9]; rfl, Lib.frozen_of_heap hr9 0, Lib.frozen_of_heap hr9 1, Lib.frozen_of_heap hr9 2, hr9⟩))
      go_wp2_with fail
      go_region_with (go_at_call 70; refine N8.out.mono ?_; rintro e W9 ⟨fa, fc, rfl, hb9, hfl, a0, a1, a2, f0, f1, f2, hr9⟩)
      all_goals
        have hG9 : Below w.heap.size w W9 := Hb5.out.trans (hb9.mono Hb5.out.size)
        have hfin : Below w.heap.size w (((W9.setCell ⟨w.heap.size, 0, none⟩ (.int .u8 (x6.toNat : Int))).setCell ⟨w.heap.size, 1, none⟩ (.int .u8 (x7.toNat : Int))).setCell ⟨w.heap.size, 2, none⟩ (.slice fa fs.length fc)) := ((hG9.setCell (p := ⟨w.heap.size, 0, none⟩) (Nat.le_refl _) _).setCell (p := ⟨w.heap.size, 1, none⟩) (Nat.le_refl _) _).setCell (p := ⟨w.heap.size, 2, none⟩) (Nat.le_refl _) _
        have hfl2 := flds_far (W' := ((W9.setCell ⟨w.heap.size, 0, none⟩ (.int .u8 (x6.toNat : Int))).setCell ⟨w.heap.size, 1, none⟩ (.int .u8 (x7.toNat : Int))).setCell ⟨w.heap.size, 2, none⟩ (.slice fa fs.length fc)) hfl (nostr3 hr9) (fun k hk => by rw [far_set _ _ _ _ hk, far_set _ _ _ _ hk, far_set _ _ _ _ hk]) (by simp [World.setCell])
        have Hfin := Lib.hid hfin
        have Hfl2 := Lib.hid hfl2
        clear hG9 hfin hfl2 hfl hb9 hr9
        go_wp2
        simp [bodyPost, results, Tryd.results48, go_sem, a0, a1, a2]
        rw [← HR.out]
        exact ⟨.slice fa fs.length fc, rfl, Hfin.out, Hfl2.out⟩
  · have jx : ((x.toNat : Int) != 29) = true := by
      rw [bne_iff_ne]
      intro e
      have : x.toNat = 29 := by omega
      exact h29 (UInt8.toNat_inj.1 this)
    rw [if_neg h29] at hR
    have HR := Lib.hid hR
    clear h1 h2 h3 hR h29 hx hlast
    go_enter Tryd.func48, Tryd.ntmps48
    go_wp2_with fail
    rw [HW0.out]
    refine N1.out.mono ?_
    rintro e w1 ⟨rfl, hb1⟩
    have Hb1 := Lib.hid (below_tr Hb0.out hb1)
    clear hb1
    go_wp2_with fail
    refine (N2.out _).mono ?_
    rintro e w2 ⟨rfl, hb2⟩
    have Hb2 := Lib.hid (below_tr Hb1.out hb2)
    clear hb2
    go_wp2_with fail
    refine (N3.out _).mono ?_
    rintro e w3 ⟨rfl, hb3⟩
    have Hb3 := Lib.hid (below_tr Hb2.out hb3)
    clear hb3
    go_wp2_with fail
    refine (fail_c _ _ _).mono ?_
    rintro e w8 ⟨rfl, rfl⟩
    go_wp2_with fail
    refine ⟨rfl, ?_⟩
    rw [← HR.out]
    exact ⟨rfl, Hb3.out⟩
end Go.Proofs.YtpfnmjcomdckgaaDoor
