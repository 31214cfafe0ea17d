/-
  What was encoded is decoded to the same text, but that composed characters are divided: the models.
-/
import Derived.Test.YtjndekmpnihamaaDoorMAgain2
namespace Go.Proofs.YtjndekmpnihamaaDoor
open Go.RowKit Go.Shelf
set_option linter.unusedVariables false
set_option linter.unusedSimpArgs false

/-- A character as it is, or divided. -/
def takenC (c : Int) : List UInt8 := match compC c with
  | some p => Lib.encodeRune p.1 ++ Lib.encodeRune p.2
  | none => Lib.encodeRune c
def takR : Nat → List UInt8 → List UInt8
  | 0, _ => []
  | f + 1, r => match r with
    | [] => []
    | _ :: _ => takenC ((Lib.decodeGo ⟨r.toArray⟩).1 : Int) ++ takR f (r.drop (Lib.decodeGo ⟨r.toArray⟩).2)
theorem takR_nil (f : Nat) : takR f [] = [] := by cases f <;> rfl
theorem takR_cons (f : Nat) (b : UInt8) (t : List UInt8) : takR (f + 1) (b :: t) = takenC ((Lib.decodeGo ⟨(b :: t).toArray⟩).1 : Int) ++ takR f ((b :: t).drop (Lib.decodeGo ⟨(b :: t).toArray⟩).2) := rfl

/-! ### finite facts -/
theorem mark_back {c v : Int} (h : markC c = some v) : isMb (codeB v) = true ∧ markV ((codeB v).toNat : Int) = c ∧ compC c = none := by
  have hm : (v, c) ∈ marksL := putAllC_mem h
  have := List.all_eq_true.1 (show marksL.all (fun p => isMb (codeB p.1) && (markV ((codeB p.1).toNat : Int) == p.2) && (compC p.2 == none)) = true by decide +kernel) _ hm
  simp only [Bool.and_eq_true, beq_iff_eq] at this
  exact ⟨this.1.1, this.1.2, this.2⟩
def setFact (nm : UInt8) (p : Int × Int) : Bool := (charOf (nm.toNat : Int) ((codeB p.1).toNat : Int) == some p.2) && (compC p.2 == none) && decide (codeB p.1 ≠ 0)
theorem set_facts : [66, 83, 78].all (fun nm : UInt8 => (namedL (nm.toNat : Int)).all (setFact nm) && charsL.all (setFact nm)) = true := by decide +kernel
theorem setC_back {nm : UInt8} (hn : nameB nm = true) {c v : Int} (h : setC nm c = some v) : known c ∧ compC c = none ∧ codeB v ≠ 0 := by
  have f := List.all_eq_true.1 set_facts nm (nameB_mem hn)
  simp only [Bool.and_eq_true] at f
  have := List.all_eq_true.1 f.1 _ (putAllC_mem h)
  simp only [setFact, Bool.and_eq_true, beq_iff_eq, decide_eq_true_eq] at this
  exact ⟨⟨nm, codeB v, hn, this.1.1⟩, this.1.2, this.2⟩
theorem charC_back {c v : Int} (h : charC c = some v) : known c ∧ compC c = none ∧ codeB v ≠ 0 := by
  have f := List.all_eq_true.1 set_facts 66 (by decide)
  simp only [Bool.and_eq_true] at f
  have := List.all_eq_true.1 f.2 _ (putAllC_mem h)
  simp only [setFact, Bool.and_eq_true, beq_iff_eq, decide_eq_true_eq] at this
  exact ⟨⟨66, codeB v, rfl, this.1.1⟩, this.1.2, this.2⟩
theorem pickN_back {ch : Int} : ∀ {l : List UInt8}, (∀ x ∈ l, nameB x = true) → ∀ {nm b : UInt8}, pickN ch l = some (nm, b) → nameB nm = true ∧ known ch ∧ compC ch = none ∧ b ≠ 0
  | [], _, nm, b, h => by cases h
  | x :: r, hl, nm, b, h => by
    unfold pickN at h
    cases hs : setC x ch with
    | none => rw [hs] at h; exact pickN_back (fun y hy => hl y (List.mem_cons_of_mem _ hy)) h
    | some v =>
      rw [hs] at h
      cases h
      have hx := hl x List.mem_cons_self
      obtain ⟨h1, h2, h3⟩ := setC_back hx hs
      exact ⟨hx, h1, h2, h3⟩
theorem pick_back {cur nm b : UInt8} {ch : Int} (hc : nameB cur = true) (h : pick cur ch = some (nm, b)) : nameB nm = true ∧ known ch ∧ compC ch = none ∧ b ≠ 0 := by
  unfold pick at h
  cases h1 : charC ch with
  | some v => rw [h1] at h; cases h; obtain ⟨x, y, z⟩ := charC_back h1; exact ⟨hc, x, y, z⟩
  | none =>
    rw [h1] at h
    simp only at h
    cases h2 : setC cur ch with
    | some v => rw [h2] at h; cases h; obtain ⟨x, y, z⟩ := setC_back hc h2; exact ⟨hc, x, y, z⟩
    | none =>
      rw [h2] at h
      exact pickN_back (by intro x hx; simp at hx; rcases hx with rfl | rfl | rfl <;> rfl) h
theorem names_none (s : EM) (ch : Int) : ∀ (l : List UInt8), pickN ch l = none → namesM s ch l = none
  | [], _ => rfl
  | x :: r, h => by
    unfold pickN at h
    unfold namesM
    cases hs : setC x ch with
    | none => rw [hs] at h; exact names_none s ch r h
    | some v => rw [hs] at h; cases h
theorem letter_back {s s' : EM} {ch : Int} (h : letterM s ch = some s') : ∃ nm b, pick s.cur ch = some (nm, b) ∧ s' = ⟨(releaseM s).out ++ escTo s.cur nm, b, nm⟩ := by
  cases hp : pick s.cur ch with
  | some q =>
    obtain ⟨nm, b⟩ := q
    rw [letter_pick hp] at h
    exact ⟨nm, b, rfl, (Option.some.inj h).symm⟩
  | none =>
    exfalso
    have hc : (releaseM s).cur = s.cur := (releaseM_len s).2
    unfold letterM letterR at h
    unfold pick at hp
    rw [hc] at h
    cases h1 : charC ch with
    | some v => rw [h1] at hp; cases hp
    | none =>
      rw [h1] at h hp
      simp only at h hp
      cases h2 : setC s.cur ch with
      | some v => rw [h2] at hp; cases hp
      | none =>
        rw [h2] at h hp
        simp only at h hp
        rw [names_none _ _ _ hp] at h
        cases h
theorem mark_some {s s' : EM} {c : Int} (h : markM s c = some s') : ∃ v, markC c = some v ∧ s.held ≠ 0 ∧ s' = ⟨s.out ++ [codeB v], s.held, s.cur⟩ := by
  unfold markM at h
  cases hm : markC c with
  | none => rw [hm] at h; cases h
  | some v =>
    rw [hm] at h
    simp only at h
    by_cases hh : s.held = 0
    · rw [if_pos hh] at h; cases h
    · rw [if_neg hh] at h
      exact ⟨v, rfl, hh, (Option.some.inj h).symm⟩
def heldB (s : EM) : List UInt8 := if s.held = 0 then [] else [s.held]
theorem release_out (s : EM) : (releaseM s).out = s.out ++ heldB s := by unfold releaseM heldB; split <;> simp
theorem low_taken {c : Int} (h0 : 0 ≤ c) (h32 : c < 32) : takenC c = [codeB c] ∧ codeB c < 32 := by
  have := List.all_eq_true.1 (show (List.range 32).all (fun n => (takenC (n : Int) == [codeB (n : Int)]) && decide (codeB (n : Int) < 32)) = true by decide +kernel) c.toNat (List.mem_range.2 (by omega))
  rw [show ((c.toNat : Nat) : Int) = c by omega] at this
  simpa using this

/-- What the encoder writes from a state on, and what is read. -/
structure Tells (s : EM) (t tk : List UInt8) : Prop where
  ex : ∃ (ms : List UInt8) (us : List Un), (∀ m ∈ ms, isMb m = true) ∧ (s.held = 0 → ms = []) ∧ (∀ x ∈ us, x.ok) ∧ t = s.out ++ ms ++ heldB s ++ encB s.cur us ∧ tk = markOut ms ++ us.flatMap Un.text
theorem tells_step {s s' : EM} {c : Int} {t tk : List UInt8} (h0 : 0 ≤ c) (hw : writeM s c = some s') (hc : nameB s.cur = true) (ih : nameB s'.cur = true → Tells s' t tk) : Tells s t (takenC c ++ tk) := by
  have hr : (releaseM s).cur = s.cur := (releaseM_len s).2
  have ho := release_out s
  have hletter : ∀ (ch : Int) (s1 : EM), letterM s ch = some s1 → ∃ nm x, pick s.cur ch = some (nm, x) ∧ s1 = ⟨s.out ++ heldB s ++ escTo s.cur nm, x, nm⟩ ∧ nameB nm = true ∧ known ch ∧ compC ch = none ∧ x ≠ 0 := by
    intro ch s1 h
    obtain ⟨nm, x, h1, h2⟩ := letter_back h
    obtain ⟨k1, k2, k3, k4⟩ := pick_back hc h1
    exact ⟨nm, x, h1, by rw [h2, ho], k1, k2, k3, k4⟩
  unfold writeM at hw
  by_cases c32 : c < 32
  · rw [if_pos c32] at hw
    unfold controlM at hw
    by_cases c27 : c = 27
    · rw [if_pos c27] at hw; cases hw
    · rw [if_neg c27] at hw
      cases hw
      obtain ⟨ms, us, h1, h2, h3, h4, h5⟩ := (ih (by show nameB (releaseM s).cur = true; rw [hr]; exact hc)).ex
      obtain rfl := h2 (release_held s)
      obtain ⟨k1, k2⟩ := low_taken h0 c32
      have hne : codeB c ≠ 27 := by
        intro e
        have e2 : (codeB c).toNat = 27 := by rw [e]; rfl
        unfold codeB at e2
        simp at e2
        omega
      refine ⟨[], .ctl (codeB c) :: us, by simp, fun _ => rfl, ?_, ?_, ?_⟩
      · intro x hx
        rcases List.mem_cons.1 hx with rfl | hx
        · exact ⟨k2, hne⟩
        · exact h3 x hx
      · rw [h4]
        have hh : heldB ⟨(releaseM s).out ++ [codeB c], (releaseM s).held, (releaseM s).cur⟩ = [] := by unfold heldB; simp [release_held s]
        rw [hh]
        simp [ho, hr, encB]
      · rw [k1, h5]
        simp [markOut, Un.text]
  · rw [if_neg c32] at hw
    cases hm : markM s c with
    | some s1 =>
      rw [hm] at hw
      cases hw
      obtain ⟨v, m1, m2, rfl⟩ := mark_some hm
      obtain ⟨b1, b2, b3⟩ := mark_back m1
      obtain ⟨ms, us, h1, h2, h3, h4, h5⟩ := (ih hc).ex
      refine ⟨codeB v :: ms, us, ?_, fun e => absurd e m2, h3, ?_, ?_⟩
      · intro x hx
        rcases List.mem_cons.1 hx with rfl | hx
        · exact b1
        · exact h1 x hx
      · rw [h4]
        have hh : heldB ⟨s.out ++ [codeB v], s.held, s.cur⟩ = heldB s := rfl
        rw [hh]
        simp
      · rw [h5]
        unfold takenC
        rw [b3]
        simp [markOut, b2]
    | none =>
      rw [hm] at hw
      simp only at hw
      cases hl : letterM s c with
      | some s1 =>
        rw [hl] at hw
        cases hw
        obtain ⟨nm, x, k1, rfl, k2, k3, k4, k5⟩ := hletter c _ hl
        obtain ⟨ms, us, h1, h2, h3, h4, h5⟩ := (ih k2).ex
        refine ⟨[], .chr c ms :: us, by simp, fun _ => rfl, ?_, ?_, ?_⟩
        · intro y hy
          rcases List.mem_cons.1 hy with rfl | hy
          · exact ⟨k3, h1⟩
          · exact h3 y hy
        · rw [h4]
          have hh : heldB ⟨s.out ++ heldB s ++ escTo s.cur nm, x, nm⟩ = [x] := by unfold heldB; simp [k5]
          rw [hh]
          simp [encB, k1]
        · rw [h5]
          unfold takenC
          rw [k4]
          simp [markOut, Un.text]
      | none =>
        rw [hl] at hw
        simp only at hw
        unfold composedM at hw
        cases hcp : compC c with
        | none => rw [hcp] at hw; cases hw
        | some p =>
          rw [hcp] at hw
          simp only at hw
          have hrel : letterM (releaseM s) p.1 = letterM s p.1 := by
            unfold letterM
            have hh := release_held s
            obtain ⟨s2, hs2⟩ : ∃ s2, releaseM s = s2 := ⟨_, rfl⟩
            rw [hs2] at hh ⊢
            have : releaseM s2 = s2 := by unfold releaseM; rw [if_pos hh]
            rw [this]
          rw [hrel] at hw
          cases hl2 : letterM s p.1 with
          | none => rw [hl2] at hw; cases hw
          | some s1 =>
            rw [hl2] at hw
            simp only at hw
            obtain ⟨nm, x, k1, rfl, k2, k3, k4, k5⟩ := hletter p.1 _ hl2
            obtain ⟨v, m1, m2, rfl⟩ := mark_some hw
            obtain ⟨b1, b2, b3⟩ := mark_back m1
            obtain ⟨ms, us, h1, h2, h3, h4, h5⟩ := (ih k2).ex
            refine ⟨[], .chr p.1 (codeB v :: ms) :: us, by simp, fun _ => rfl, ?_, ?_, ?_⟩
            · intro y hy
              rcases List.mem_cons.1 hy with rfl | hy
              · refine ⟨k3, fun m hm => ?_⟩
                rcases List.mem_cons.1 hm with rfl | hm
                · exact b1
                · exact h1 m hm
              · exact h3 y hy
            · rw [h4]
              have hh : heldB ⟨s.out ++ heldB s ++ escTo s.cur nm ++ [codeB v], x, nm⟩ = [x] := by unfold heldB; simp [k5]
              rw [hh]
              simp [encB, k1]
            · rw [h5]
              unfold takenC
              rw [hcp]
              simp [markOut, Un.text, b2]
theorem enc_tells : ∀ (f a : Nat) (s : EM) (r t : List UInt8), nameB s.cur = true → encR f a s r = .ok t → Tells s t (takR f r)
  | f, a, s, [], t, hc, h => by
    rw [encR_nil] at h
    cases h
    rw [takR_nil]
    refine ⟨[], [], by simp, fun _ => rfl, by simp, ?_, rfl⟩
    have hr : (releaseM s).cur = s.cur := (releaseM_len s).2
    have ho := release_out s
    unfold chooseM encB escTo
    rw [hr]
    by_cases h : s.cur = 66
    · simp [h, ho]
    · simp [h, ho]
  | 0, a, s, b :: u, t, hc, h => by
    have e : encR 0 a s (b :: u) = .ok (chooseM (releaseM s) 66).out := rfl
    rw [e] at h
    cases h
    refine ⟨[], [], by simp, fun _ => rfl, by simp, ?_, rfl⟩
    have hr : (releaseM s).cur = s.cur := (releaseM_len s).2
    have ho := release_out s
    unfold chooseM encB escTo
    rw [hr]
    by_cases h : s.cur = 66
    · simp [h, ho]
    · simp [h, ho]
  | f + 1, a, s, b :: u, t, hc, h => by
    cases hfm : fullM (b :: u) with
    | false => rw [encR_bad f a s b u hfm] at h; cases h
    | true =>
      rw [encR_go f a s b u hfm] at h
      rw [takR_cons]
      obtain ⟨c, hcc⟩ : ∃ c : Int, ((Lib.decodeGo ⟨(b :: u).toArray⟩).1 : Int) = c := ⟨_, rfl⟩
      have h0 : 0 ≤ c := by omega
      rw [hcc] at h ⊢
      obtain ⟨n, hn⟩ : ∃ n, (Lib.decodeGo ⟨(b :: u).toArray⟩).2 = n := ⟨_, rfl⟩
      rw [hn] at h ⊢
      cases hw : writeM s c with
      | none => rw [hw] at h; cases h
      | some s' =>
        rw [hw] at h
        have h' : encR f (a + n) s' ((b :: u).drop n) = .ok t := h
        exact tells_step h0 hw hc (fun hc' => enc_tells f (a + n) s' _ t hc' h')
/-- A text in which composed characters are divided. -/
def takM (l : List UInt8) : List UInt8 := takR l.length l
theorem takR_plain : ∀ (l : List UInt8) (f : Nat), l.length ≤ f → l.all okPlain = true → takR f l = l
  | [], f, _, _ => takR_nil f
  | b :: t, 0, h, _ => by simp at h
  | b :: t, f + 1, h, hp => by
    simp only [List.all_cons, Bool.and_eq_true] at hp
    have hb : b.toNat < 128 := by have := hp.1; unfold okPlain at this; simp at this; omega
    have hk : takenC (b.toNat : Int) = [b] := by
      have := all256 (p := fun b => !decide (b.toNat < 128) || (takenC (b.toNat : Int) == [b])) (by decide +kernel) b
      rw [show decide (b.toNat < 128) = true from decide_eq_true hb] at this
      simpa using this
    rw [takR_cons, go_one b t hb]
    simp only [hk, List.drop_succ_cons, List.drop_zero]
    rw [takR_plain t f (by simpa using h) hp.2]; rfl
/-- What was encoded is decoded to the same, but that composed characters are divided. -/
theorem back {s t : List UInt8} (h : encF s = .ok t) : decF t = .ok (takM s) := by
  unfold encF at h
  cases hp : plainB s with
  | true =>
    rw [hp] at h
    cases h
    unfold decF
    rw [hp]
    show Res.ok s = _
    unfold takM
    rw [takR_plain s s.length (Nat.le_refl _) hp]
  | false =>
    rw [hp] at h
    have h' : encR s.length 0 ⟨[], 0, 66⟩ s = .ok t := h
    obtain ⟨ms, us, h1, h2, h3, h4, h5⟩ := (enc_tells s.length 0 ⟨[], 0, 66⟩ s t rfl h').ex
    obtain rfl := h2 rfl
    have ht : t = encB 66 us := by rw [h4]; rfl
    have hk : takM s = us.flatMap Un.text := by unfold takM; rw [h5]; rfl
    rw [decF_eq, hk, ht]
    exact dec_back us h3 66 rfl _ 0 (Nat.le_refl _)
end Go.Proofs.YtjndekmpnihamaaDoor
