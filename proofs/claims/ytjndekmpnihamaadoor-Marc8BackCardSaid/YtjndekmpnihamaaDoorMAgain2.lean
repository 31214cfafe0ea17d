/-
  Decoding, encoding and decoding again: the models.
-/
import Derived.Test.YtjndekmpnihamaaDoorMAgain
namespace Go.Proofs.YtjndekmpnihamaaDoor
open Go.RowKit Go.Shelf
set_option linter.unusedVariables false
set_option linter.unusedSimpArgs false

/-! ### what is decoded consists of units -/
theorem takes_all (r : List UInt8) : ∀ m ∈ r.take (marksAt r), isMb m = true := by
  unfold marksAt
  induction r with
  | nil => simp
  | cons b t ih =>
    cases hb : isMb b with
    | false => simp [hb]
    | true =>
      simp only [List.takeWhile_cons, hb, if_true, List.length_cons, List.take_succ_cons]
      intro m hm
      rcases List.mem_cons.1 hm with rfl | hm
      · exact hb
      · exact ih m hm
theorem isNameB_B {nm : UInt8} (h : isNameB (nm.toNat : Int) = true) : nameB nm = true := by
  have := all256 (p := fun nm => !isNameB (nm.toNat : Int) || nameB nm) (by decide +kernel) nm
  rw [h] at this
  simpa using this
theorem step_unit {cur : UInt8} {c : Int} {a n : Nat} {r o : List UInt8} (hc : nameB cur = true) (h : stepD (cur.toNat : Int) a r = .ok c n o) :
    (∃ c' : UInt8, nameB c' = true ∧ c = (c'.toNat : Int)) ∧ (o = [] ∨ ∃ x : Un, x.ok ∧ o = x.text) := by
  have hl : letD (cur.toNat : Int) a r = .ok c n o → (∃ c' : UInt8, nameB c' = true ∧ c = (c'.toNat : Int)) ∧ (o = [] ∨ ∃ x : Un, x.ok ∧ o = x.text) := by
    intro h
    unfold letD at h
    split at h
    · cases h
    · rename_i b t hd
      split at h
      · cases h
      · rename_i ch hch
        cases h
        exact ⟨⟨cur, hc, rfl⟩, .inr ⟨.chr ch (r.take (marksAt r)), ⟨⟨cur, b, hc, hch⟩, takes_all r⟩, rfl⟩⟩
  have he : escD a r = .ok c n o → (∃ c' : UInt8, nameB c' = true ∧ c = (c'.toNat : Int)) ∧ (o = [] ∨ ∃ x : Un, x.ok ∧ o = x.text) := by
    intro h
    unfold escD at h
    split at h
    · cases h
    · split at h
      · rename_i nm t _ _
        split at h
        · rename_i hn
          cases h
          exact ⟨⟨_, isNameB_B hn, rfl⟩, .inl rfl⟩
        · cases h
      · cases h
  unfold stepD at h
  split at h
  · cases h
  · rename_i b t
    split at h
    · exact he h
    · rename_i h27
      split at h
      · rename_i h32
        cases h
        exact ⟨⟨cur, hc, rfl⟩, .inr ⟨.ctl b, ⟨h32, h27⟩, rfl⟩⟩
      · exact hl h
theorem dec_units : ∀ (f : Nat) (cur : UInt8) (a : Nat) (r u : List UInt8), nameB cur = true → decR f (cur.toNat : Int) a r = .ok u → ∃ us : List Un, (∀ x ∈ us, x.ok) ∧ u = us.flatMap Un.text
  | f, cur, a, [], u, hc, h => by rw [decR_nil] at h; cases h; exact ⟨[], by simp, rfl⟩
  | 0, cur, a, b :: t, u, hc, h => by simp [decR] at h; subst h; exact ⟨[], by simp, rfl⟩
  | f + 1, cur, a, b :: t, u, hc, h => by
    cases hs : stepD (cur.toNat : Int) a (b :: t) with
    | bad y q => rw [decR_bad hs] at h; cases h
    | ok c n o =>
      obtain ⟨⟨c', hc', rfl⟩, ho⟩ := step_unit hc hs
      rw [decR_ok hs] at h
      cases hd : decR f (c'.toNat : Int) (a + n) ((b :: t).drop n) with
      | bad y q => rw [hd] at h; cases h
      | ok p =>
        rw [hd] at h
        cases h
        obtain ⟨us, h1, h2⟩ := dec_units f c' (a + n) _ p hc' hd
        rcases ho with rfl | ⟨x, hx, rfl⟩
        · exact ⟨us, h1, by rw [List.nil_append]; exact h2⟩
        · refine ⟨x :: us, ?_, by rw [List.flatMap_cons, h2]⟩
          intro y hy
          rcases List.mem_cons.1 hy with rfl | hy
          · exact hx
          · exact h1 y hy

/-! ### the encoder over units -/
def encB (cur : UInt8) : List Un → List UInt8
  | [] => escTo cur 66
  | .ctl x :: us => x :: encB cur us
  | .chr ch ms :: us => match pick cur ch with
    | some (nm, b) => escTo cur nm ++ (ms ++ b :: encB nm us)
    | none => []
theorem release_held (s : EM) : (releaseM s).held = 0 := by unfold releaseM; split <;> simp_all
theorem write_ctl (s : EM) {x : UInt8} (h1 : x < 32) (h2 : x ≠ 27) : writeM s (x.toNat : Int) = some ⟨(releaseM s).out ++ [x], 0, s.cur⟩ := by
  have hx : x.toNat < 32 := by simpa using UInt8.lt_iff_toNat_lt.1 h1
  have h27 : ¬ (x.toNat : Int) = 27 := fun e => h2 (UInt8.toNat_inj.1 (by show x.toNat = 27; omega))
  unfold writeM controlM
  rw [if_pos (by omega), if_neg h27, release_held, (releaseM_len s).2]
  simp [codeB]
theorem write_chr {s : EM} {ch : Int} {nm b : UInt8} (h32 : 32 ≤ ch) (hm : markC ch = none) (hp : pick s.cur ch = some (nm, b)) : writeM s ch = some ⟨(releaseM s).out ++ escTo s.cur nm, b, nm⟩ := by
  unfold writeM markM
  rw [if_neg (by omega), hm]
  simp only [letter_pick hp]
theorem write_mk {s : EM} {m : UInt8} (h : isMb m = true) (hh : s.held ≠ 0) : writeM s (markV (m.toNat : Int)) = some ⟨s.out ++ [m], s.held, s.cur⟩ := by
  obtain ⟨_, h1, h2, h3⟩ := mark_facts h
  unfold writeM markM
  rw [if_neg (by omega), h2]
  simp only [if_neg hh, h3]
theorem enc_mks : ∀ (ms : List UInt8) (hms : ∀ m ∈ ms, isMb m = true) (f a : Nat) (s : EM) (hh : s.held ≠ 0) (r : List UInt8), (markOut ms ++ r).length ≤ f →
    ∃ f' a', encR f a s (markOut ms ++ r) = encR f' a' ⟨s.out ++ ms, s.held, s.cur⟩ r ∧ r.length ≤ f'
  | [], _, f, a, s, _, r, hf => ⟨f, a, by simp [markOut], by simpa [markOut] using hf⟩
  | m :: t, hms, f, a, s, hh, r, hf => by
    have h1 := hms m List.mem_cons_self
    have hu := (mark_facts h1).1
    have hne := (utf8_go hu []).1
    have hl : markOut (m :: t) ++ r = Lib.encodeRune (markV (m.toNat : Int)) ++ (markOut t ++ r) := by simp [markOut, List.flatMap_cons]
    have hpos : 0 < (Lib.encodeRune (markV (m.toNat : Int))).length := List.length_pos_iff.2 hne
    rw [hl] at hf ⊢
    rw [List.length_append] at hf
    obtain ⟨g, rfl⟩ : ∃ g, f = g + 1 := ⟨f - 1, by omega⟩
    rw [encR_utf hu (write_mk h1 hh)]
    obtain ⟨f', a', e1, e2⟩ := enc_mks t (fun x hx => hms x (List.mem_cons_of_mem _ hx)) g (a + (Lib.encodeRune (markV (m.toNat : Int))).length) ⟨s.out ++ [m], s.held, s.cur⟩ hh r (by omega)
    exact ⟨f', a', by rw [e1]; simp, e2⟩
theorem enc_units : ∀ (us : List Un) (hus : ∀ x ∈ us, x.ok) (f a : Nat) (s : EM) (hc : nameB s.cur = true), (us.flatMap Un.text).length ≤ f →
    encR f a s (us.flatMap Un.text) = .ok ((releaseM s).out ++ encB s.cur us)
  | [], _, f, a, s, _, _ => by
    show encR f a s [] = _
    rw [encR_nil]
    have hc : (releaseM s).cur = s.cur := (releaseM_len s).2
    unfold chooseM encB escTo
    rw [hc]
    by_cases h : s.cur = 66
    · simp [h]
    · simp [h]
  | .ctl x :: us, hus, f, a, s, hc, hf => by
    obtain ⟨h1, h2⟩ : x < 32 ∧ x ≠ 27 := hus _ List.mem_cons_self
    have hx : x.toNat < 32 := by simpa using UInt8.lt_iff_toNat_lt.1 h1
    have hl : (Un.ctl x :: us).flatMap Un.text = x :: us.flatMap Un.text := by rw [List.flatMap_cons]; rfl
    rw [hl] at hf ⊢
    rw [List.length_cons] at hf
    obtain ⟨g, rfl⟩ : ∃ g, f = g + 1 := ⟨f - 1, by omega⟩
    rw [encR_one (by omega) (write_ctl s h1 h2), enc_units us (fun y hy => hus y (List.mem_cons_of_mem _ hy)) g (a + 1) ⟨(releaseM s).out ++ [x], 0, s.cur⟩ hc (by omega)]
    have : (releaseM ⟨(releaseM s).out ++ [x], 0, s.cur⟩).out = (releaseM s).out ++ [x] := by unfold releaseM; simp
    rw [this]
    simp [encB]
  | .chr ch ms :: us, hus, f, a, s, hc, hf => by
    obtain ⟨h1, h2⟩ : known ch ∧ ∀ m ∈ ms, isMb m = true := hus _ List.mem_cons_self
    obtain ⟨k1, k2, k3, nm, b, k4, k5, _, _, _, _, k6⟩ := known_facts h1 hc
    have hne := (utf8_go k1 []).1
    have hpos : 0 < (Lib.encodeRune ch).length := List.length_pos_iff.2 hne
    have hl : (Un.chr ch ms :: us).flatMap Un.text = Lib.encodeRune ch ++ (markOut ms ++ us.flatMap Un.text) := by rw [List.flatMap_cons]; show (Lib.encodeRune ch ++ markOut ms) ++ _ = _; rw [List.append_assoc]
    rw [hl] at hf ⊢
    rw [List.length_append] at hf
    obtain ⟨g, rfl⟩ : ∃ g, f = g + 1 := ⟨f - 1, by omega⟩
    rw [encR_utf k1 (write_chr k2 k3 k4)]
    obtain ⟨f', a', e1, e2⟩ := enc_mks ms h2 g (a + (Lib.encodeRune ch).length) ⟨(releaseM s).out ++ escTo s.cur nm, b, nm⟩ k6 (us.flatMap Un.text) (by omega)
    rw [e1, enc_units us (fun y hy => hus y (List.mem_cons_of_mem _ hy)) f' a' ⟨(releaseM s).out ++ escTo s.cur nm ++ ms, b, nm⟩ k5 e2]
    have : (releaseM ⟨(releaseM s).out ++ escTo s.cur nm ++ ms, b, nm⟩).out = (releaseM s).out ++ escTo s.cur nm ++ ms ++ [b] := by unfold releaseM; simp [k6]
    rw [this]
    simp [encB, k4]

/-! ### and back -/
theorem step_chr {cur ch : Int} (a : Nat) (ms : List UInt8) (hms : ∀ m ∈ ms, isMb m = true) {b : UInt8} (hb : isMb b = false) (h27 : b ≠ 27) (h32 : ¬ b < 32) (hch : charOf cur (b.toNat : Int) = some ch) (rest : List UInt8) :
    stepD cur a (ms ++ b :: rest) = .ok cur (ms.length + 1) (Lib.encodeRune ch ++ markOut ms) := by
  have hlet : letD cur a (ms ++ b :: rest) = .ok cur (ms.length + 1) (Lib.encodeRune ch ++ markOut ms) := by
    unfold letD
    rw [marksAt_of ms hms b hb rest, List.drop_left, List.take_left]
    simp only [hch]
  unfold stepD
  cases ms with
  | nil => simp only [List.nil_append, if_neg h27, if_neg h32] at hlet ⊢; exact hlet
  | cons m r =>
    obtain ⟨m1, m2⟩ := mk_ne (hms m List.mem_cons_self)
    simp only [List.cons_append, if_neg m1, if_neg m2] at hlet ⊢; exact hlet
theorem step_esc (cur : Int) (a : Nat) {nm : UInt8} (h : nameB nm = true) (r : List UInt8) : stepD cur a (27 :: 40 :: nm :: r) = .ok (nm.toNat : Int) 3 [] := by
  have hn : isNameB (nm.toNat : Int) = true := by
    have := all256 (p := fun nm => !nameB nm || isNameB (nm.toNat : Int)) (by decide +kernel) nm
    rw [h] at this
    simpa using this
  have hp : Lib.hasPrefix [27, 40] (27 :: 40 :: nm :: r) = false := by simp [Lib.hasPrefix, List.isPrefixOf]
  unfold stepD
  simp only [if_true]
  unfold escD
  rw [hp]
  simp only [Bool.false_eq_true, if_false, hn, if_true]
theorem dec_esc (cur : UInt8) {nm : UInt8} (h : nameB nm = true) (f a : Nat) (r u : List UInt8) (hf : (escTo cur nm ++ r).length ≤ f) (hr : ∀ g b, r.length ≤ g → decR g (nm.toNat : Int) b r = .ok u) :
    decR f (cur.toNat : Int) a (escTo cur nm ++ r) = .ok u := by
  unfold escTo at hf ⊢
  by_cases hc : cur = nm
  · rw [if_pos hc] at hf ⊢
    rw [hc]
    exact hr f a (by simpa using hf)
  · rw [if_neg hc] at hf ⊢
    simp only [List.cons_append, List.nil_append, List.length_cons] at hf ⊢
    obtain ⟨g, rfl⟩ : ∃ g, f = g + 1 := ⟨f - 1, by omega⟩
    rw [decR_ok (step_esc _ a h r)]
    simp only [List.drop_succ_cons, List.drop_zero]
    rw [hr g (a + 3) (by omega)]
    rfl
theorem dec_back : ∀ (us : List Un) (hus : ∀ x ∈ us, x.ok) (cur : UInt8) (hc : nameB cur = true) (f a : Nat), (encB cur us).length ≤ f →
    decR f (cur.toNat : Int) a (encB cur us) = .ok (us.flatMap Un.text)
  | [], _, cur, hc, f, a, hf => by
    have := dec_esc cur (nm := 66) rfl f a [] [] (by simpa [encB] using hf) (fun g b _ => decR_nil _ _ _)
    simpa [encB] using this
  | .ctl x :: us, hus, cur, hc, f, a, hf => by
    obtain ⟨h1, h2⟩ : x < 32 ∧ x ≠ 27 := hus _ List.mem_cons_self
    have hs : stepD (cur.toNat : Int) a (x :: encB cur us) = .ok (cur.toNat : Int) 1 [x] := by unfold stepD; simp only [if_neg h2, if_pos h1]
    simp only [encB, List.length_cons] at hf ⊢
    obtain ⟨g, rfl⟩ : ∃ g, f = g + 1 := ⟨f - 1, by omega⟩
    rw [decR_ok hs]
    simp only [List.drop_succ_cons, List.drop_zero]
    rw [dec_back us (fun y hy => hus y (List.mem_cons_of_mem _ hy)) cur hc g (a + 1) (by omega)]
    rw [List.flatMap_cons]; rfl
  | .chr ch ms :: us, hus, cur, hc, f, a, hf => by
    obtain ⟨h1, h2⟩ : known ch ∧ ∀ m ∈ ms, isMb m = true := hus _ List.mem_cons_self
    obtain ⟨k1, k2, k3, nm, b, k4, k5, k6, k7, k8, k9, k10⟩ := known_facts h1 hc
    simp only [encB, k4] at hf ⊢
    refine dec_esc cur k5 f a _ _ hf (fun g c hg => ?_)
    have hs := step_chr c ms h2 k7 k8 k9 k6 (encB nm us)
    obtain ⟨y, v, hy⟩ : ∃ y v, ms ++ b :: encB nm us = y :: v := by cases ms with
      | nil => exact ⟨_, _, rfl⟩
      | cons m r => exact ⟨_, _, rfl⟩
    have hd : (ms ++ b :: encB nm us).drop (ms.length + 1) = encB nm us := by rw [← List.drop_drop, List.drop_left]; rfl
    rw [List.length_append, List.length_cons] at hg
    obtain ⟨g', rfl⟩ : ∃ g', g = g' + 1 := ⟨g - 1, by omega⟩
    rw [hy] at hs hd ⊢
    rw [decR_ok hs, hd, dec_back us (fun y hy => hus y (List.mem_cons_of_mem _ hy)) nm k5 g' _ (by omega)]
    rw [List.flatMap_cons]; rfl
theorem markOut_len (ms : List UInt8) (hms : ∀ m ∈ ms, isMb m = true) : ms.length ≤ (markOut ms).length := by
  induction ms with
  | nil => simp
  | cons m t ih =>
    have h1 := List.length_pos_iff.2 (utf8_go (mark_facts (hms m List.mem_cons_self)).1 []).1
    have := ih (fun x hx => hms x (List.mem_cons_of_mem _ hx))
    simp only [markOut, List.flatMap_cons, List.length_append, List.length_cons] at this ⊢
    omega
theorem encB_len : ∀ (us : List Un) (hus : ∀ x ∈ us, x.ok) (cur : UInt8) (hc : nameB cur = true), (encB cur us).length ≤ 4 * (us.flatMap Un.text).length + 3
  | [], _, cur, _ => by unfold encB escTo; split <;> simp
  | .ctl x :: us, hus, cur, hc => by
    have := encB_len us (fun y hy => hus y (List.mem_cons_of_mem _ hy)) cur hc
    simp only [encB, List.flatMap_cons, List.length_append, List.length_cons, Un.text, List.length_nil]
    omega
  | .chr ch ms :: us, hus, cur, hc => by
    obtain ⟨h1, h2⟩ : known ch ∧ ∀ m ∈ ms, isMb m = true := hus _ List.mem_cons_self
    obtain ⟨k1, k2, k3, nm, b, k4, k5, _⟩ := known_facts h1 hc
    have := encB_len us (fun y hy => hus y (List.mem_cons_of_mem _ hy)) nm k5
    have h3 := List.length_pos_iff.2 (utf8_go k1 []).1
    have h4 := markOut_len ms h2
    have h5 : (escTo cur nm).length ≤ 3 := by unfold escTo; split <;> simp
    simp only [encB, k4, List.flatMap_cons, List.length_append, List.length_cons, Un.text]
    omega
/-- What was decoded can be encoded, and is decoded to the same again. -/
theorem again {s u : List UInt8} (h : decF s = .ok u) : ∃ t, encF u = .ok t ∧ decF t = .ok u ∧ t.length ≤ 4 * u.length + 3 := by
  rw [decF_eq] at h
  obtain ⟨us, h1, h2⟩ := dec_units s.length 66 0 s u rfl h
  cases hp : plainB u with
  | true => exact ⟨u, by unfold encF; rw [hp]; rfl, by unfold decF; rw [hp]; rfl, by omega⟩
  | false =>
    have e1 := enc_units us h1 u.length 0 ⟨[], 0, 66⟩ rfl (by rw [h2]; exact Nat.le_refl _)
    have e2 := dec_back us h1 66 rfl (encB 66 us).length 0 (Nat.le_refl _)
    rw [← h2] at e1 e2
    have e3 : encF u = .ok (encB 66 us) := by
      unfold encF; rw [hp]
      show encM u = _
      unfold encM
      rw [e1]; rfl
    refine ⟨encB 66 us, e3, by rw [decF_eq]; exact e2, ?_⟩
    have := encB_len us h1 66 rfl
    rw [← h2] at this
    exact this
end Go.Proofs.YtjndekmpnihamaaDoor
