/-
  The reference's field, as a function of lists: it is the program's. No program.
-/
import Derived.Test.YtpfnmjcomdckgaaDoorRTextQ
namespace Go.Proofs.YtpfnmjcomdckgaaDoor
open Go.RowKit Go.Shelf
set_option linter.unusedVariables false
set_option linter.unusedSimpArgs false

structure FS where
  done : Bool
  ind : List UInt8
  data : List UInt8
  subs : List SubM
  ch : Ch
/-- The last one is changed. -/
def lastUp (f : SubM → SubM) (l : List SubM) : List SubM := l.modify (l.length - 1) f
theorem lastUp_snoc (f : SubM → SubM) (l : List SubM) (x : SubM) : lastUp f (l ++ [x]) = l ++ [f x] := by
  unfold lastUp
  rw [List.length_append, List.length_singleton, Nat.add_sub_cancel]
  apply List.ext_getElem?
  intro i
  rw [List.getElem?_modify]
  by_cases h : l.length = i
  · subst h; simp
  · rcases Nat.lt_or_ge i l.length with h2 | h2
    · rw [List.getElem?_append_left h2, List.getElem?_append_left h2]; simp [h]
    · rw [List.getElem?_eq_none (by simp; omega), List.getElem?_eq_none (by simp; omega)]; rfl
/-- One byte. -/
def stepF (t : Bool) (bs : List UInt8) (i : Nat) (s : FS) : Option FS :=
  if s.done then none
  else if !t && decide (i < 2) then (if indB (bs.getD i 0) then some { s with ind := s.ind ++ [bs.getD i 0] } else none)
  else if !t && !s.subs.isEmpty && (bs.getD (i - 1) 0 == 31) then (if signB (bs.getD i 0) then some { s with subs := lastUp (fun x => { x with code := bs.getD i 0 }) s.subs } else none)
  else if s.ch.left == 0 && (bs.getD i 0 == 31) && !t then some { s with subs := s.subs ++ [⟨0, []⟩] }
  else if s.ch.left == 0 && (bs.getD i 0 == 30) && (t || !s.subs.isEmpty) then some { s with done := true }
  else if !t && s.subs.isEmpty then none
  else match nextC s.ch (bs.getD i 0) with
    | none => none
    | some x => if t then some { s with data := s.data ++ [bs.getD i 0], ch := x } else some { s with subs := lastUp (fun y => { y with text := y.text ++ [bs.getD i 0] }) s.subs, ch := x }
def runF (t : Bool) (bs : List UInt8) : Nat → Nat → FS → PR FS
  | 0, _, s => if s.done then .ok s else .bad (bs.length - 1) 14
  | n + 1, i, s => match stepF t bs i s with
    | none => .bad i 14
    | some s' => runF t bs n (i + 1) s'
theorem runF_none {t : Bool} {bs : List UInt8} {n i : Nat} {s : FS} (h : stepF t bs i s = none) : runF t bs (n + 1) i s = .bad i 14 := by
  show (match stepF t bs i s with | none => _ | some s' => _) = _; rw [h]
theorem runF_some {t : Bool} {bs : List UInt8} {n i : Nat} {s s' : FS} (h : stepF t bs i s = some s') : runF t bs (n + 1) i s = runF t bs n (i + 1) s' := by
  show (match stepF t bs i s with | none => _ | some s' => _) = _; rw [h]
def fieldR (tag bs : List UInt8) (off : Nat) : PR FldM := match runF (ctlB tag) bs bs.length 0 ⟨false, [], [], [], ⟨0, 0, 0⟩⟩ with
  | .bad p k => .bad (off + p) k
  | .ok s => .ok ⟨tag, s.ind, s.data, s.subs⟩
def goodC (s : Ch) : Prop := s.left = 0 ∨ 128 ≤ s.low
theorem nextC_good {s t : Ch} {c : UInt8} (h : nextC s c = some t) (hg : goodC s) : goodC t ∧ 32 ≤ c.toNat := by
  unfold goodC at hg ⊢
  unfold nextC at h
  repeat' split at h
  all_goals first | (cases h; done) | (cases h; simp only; (try split) <;> omega)
theorem runC_good {s : Ch} : ∀ {u : List UInt8} {t : Ch}, runC s u = some t → goodC s → goodC t
  | [], t, h, hg => by cases h; exact hg
  | c :: r, t, h, hg => by
    cases hn : nextC s c with
    | none => rw [runC_none _ hn] at h; cases h
    | some x =>
      rw [runC_some _ hn] at h
      exact runC_good h (nextC_good hn hg).1
theorem at_cons {bs v : List UInt8} {i : Nat} {c : UInt8} (h : bs.drop i = c :: v) : bs.getD i 0 = c ∧ bs.drop (i + 1) = v ∧ bs.length = i + 1 + v.length := by
  have h1 := at_drop h 0
  have h2 : (bs.drop i).drop 1 = v := by rw [h]; rfl
  rw [List.drop_drop] at h2
  have h3 : (bs.drop i).length = v.length + 1 := by rw [h]; rfl
  rw [List.length_drop] at h3
  exact ⟨h1, h2, by omega⟩
theorem gq {bs : List UInt8} {i : Nat} {c : UInt8} (h : bs.getD i 0 = c) : bs[i]?.getD 0 = c := by rw [← List.getD_eq_getElem?_getD]; exact h
/-- Bytes of a control field's text. -/
theorem seg_ctl (bs : List UInt8) : ∀ (u v : List UInt8) (n i : Nat) (ind data : List UInt8) (subs : List SubM) (x y : Ch), bs.drop i = u ++ v → goodC x → runC x u = some y →
    runF true bs (u.length + n) i ⟨false, ind, data, subs, x⟩ = runF true bs n (i + u.length) ⟨false, ind, data ++ u, subs, y⟩
  | [], v, n, i, ind, data, subs, x, y, _, _, hr => by cases hr; simp
  | c :: u, v, n, i, ind, data, subs, x, y, hb, hg, hr => by
    obtain ⟨h1, h2, -⟩ := at_cons (v := u ++ v) hb
    cases hn : nextC x c with
    | none => rw [runC_none _ hn] at hr; cases hr
    | some x' =>
      rw [runC_some _ hn] at hr
      obtain ⟨hg', hc⟩ := nextC_good hn hg
      have e1 : (c == 31) = false := by rw [beq_eq_false_iff_ne]; rintro rfl; simp at hc
      have e2 : (c == 30) = false := by rw [beq_eq_false_iff_ne]; rintro rfl; simp at hc
      have hs : stepF true bs i ⟨false, ind, data, subs, x⟩ = some ⟨false, ind, data ++ [c], subs, x'⟩ := by
        have e3 : c ≠ 31 := by simpa using e1
        have e4 : c ≠ 30 := by simpa using e2
        unfold stepF
        simp [gq h1, e3, e4, hn]
      rw [show (c :: u).length + n = (u.length + n) + 1 by simp; omega, runF_some hs, seg_ctl bs u v n (i + 1) ind (data ++ [c]) subs x' y h2 hg' hr]
      simp [Nat.add_comm, Nat.add_left_comm]
/-- Bytes of a subfield's text. -/
theorem seg_sub (bs : List UInt8) : ∀ (u v : List UInt8) (n i : Nat) (ind data : List UInt8) (acc : List SubM) (k : UInt8) (tx : List UInt8) (x y : Ch), bs.drop i = u ++ v → 2 ≤ i → bs.getD (i - 1) 0 ≠ 31 → goodC x → runC x u = some y →
    runF false bs (u.length + n) i ⟨false, ind, data, acc ++ [⟨k, tx⟩], x⟩ = runF false bs n (i + u.length) ⟨false, ind, data, acc ++ [⟨k, tx ++ u⟩], y⟩ ∧ bs.getD (i + u.length - 1) 0 ≠ 31
  | [], v, n, i, ind, data, acc, k, tx, x, y, _, _, h31, _, hr => by cases hr; simpa using h31
  | c :: u, v, n, i, ind, data, acc, k, tx, x, y, hb, h2i, h31, hg, hr => by
    obtain ⟨h1, h2, -⟩ := at_cons (v := u ++ v) hb
    cases hn : nextC x c with
    | none => rw [runC_none _ hn] at hr; cases hr
    | some x' =>
      rw [runC_some _ hn] at hr
      obtain ⟨hg', hc⟩ := nextC_good hn hg
      have e1 : (c == 31) = false := by rw [beq_eq_false_iff_ne]; rintro rfl; simp at hc
      have e2 : (c == 30) = false := by rw [beq_eq_false_iff_ne]; rintro rfl; simp at hc
      have e3 : (bs.getD (i - 1) 0 == 31) = false := by rw [beq_eq_false_iff_ne]; exact h31
      have hs : stepF false bs i ⟨false, ind, data, acc ++ [⟨k, tx⟩], x⟩ = some ⟨false, ind, data, acc ++ [⟨k, tx ++ [c]⟩], x'⟩ := by
        unfold stepF
        rw [if_neg (by simp), if_neg (by simp; omega), if_neg (by simp only [e3]; simp), if_neg (by simp only [h1, e1]; simp), if_neg (by simp only [h1, e2]; simp), if_neg (by simp)]
        simp only [h1, hn]
        rw [if_neg (by decide), lastUp_snoc]
      obtain ⟨q1, q2⟩ := seg_sub bs u v n (i + 1) ind data acc k (tx ++ [c]) x' y h2 (by omega) (by rw [Nat.add_sub_cancel, h1]; rintro rfl; simp at hc) hg' hr
      rw [show (c :: u).length + n = (u.length + n) + 1 by simp; omega, runF_some hs, q1]
      refine ⟨by simp [Nat.add_comm, Nat.add_left_comm], ?_⟩
      rw [show i + (c :: u).length - 1 = i + 1 + u.length - 1 by rw [List.length_cons]; omega]
      exact q2
theorem fail_in {bs : List UInt8} {off a : Nat} (h : a < bs.length) : failAt bs off a = off + a := by unfold failAt; omega
theorem fail_end {bs : List UInt8} {off a : Nat} (h : bs.length ≤ a) : failAt bs off a = off + (bs.length - 1) := by unfold failAt; omega
def upR (off : Nat) : PR FS → PR FS
  | .bad p k => .bad (off + p) k
  | .ok s => .ok s
theorem drop_split {bs u v : List UInt8} {a : Nat} (h : bs.drop a = u ++ v) (ha : a ≤ bs.length) : bs.drop (a + u.length) = v ∧ bs.length = a + u.length + v.length := by
  have h2 : (bs.drop a).drop u.length = v := by rw [h, List.drop_left]
  rw [List.drop_drop] at h2
  have h3 : (bs.drop a).length = u.length + v.length := by rw [h, List.length_append]
  rw [List.length_drop] at h3
  exact ⟨h2, by omega⟩
/-- Bytes with which no text begins, in a control field. -/
theorem bad_ctl {bs v : List UInt8} {off i : Nat} {ind data : List UInt8} {subs : List SubM} {y : Ch} (hv : bs.drop i = v) (hi : i ≤ bs.length) (hg : goodC y) (hq : RunQ y v) :
    upR off (runF true bs v.length i ⟨false, ind, data, subs, y⟩) = .bad (failAt bs off (i + begL v)) 14 := by
  obtain ⟨b, z, y2, hbz, hlen, hrun, hz⟩ := hq
  rw [hbz] at hv
  have hg2 := runC_good hrun hg
  rw [hbz, List.length_append, ← hbz, seg_ctl bs b z z.length i ind data subs y y2 hv hg hrun, ← hlen]
  obtain ⟨d1, d2⟩ := drop_split hv hi
  cases z with
  | nil =>
    show upR off (.bad (bs.length - 1) 14) = _
    rw [fail_end (by simp at d2; omega)]; rfl
  | cons c z' =>
    obtain ⟨h1, -, -⟩ := at_cons d1
    obtain ⟨hn, hl⟩ := hz c z' rfl
    have hs : stepF true bs (i + b.length) ⟨false, ind, data ++ b, subs, y2⟩ = none := by
      unfold stepF
      rw [if_neg (by simp), if_neg (by simp), if_neg (by simp), if_neg (by simp), if_neg ?_, if_neg (by simp)]
      · simp only [h1, hn]
      · simp only [h1]
        rcases hl with hl | hl
        · simp; omega
        · simp
          rintro _ rfl
          simp at hl
    rw [List.length_cons, runF_none hs, fail_in (by simp at d2; omega)]; rfl
theorem bad_sub {bs v : List UInt8} {off i : Nat} {ind data : List UInt8} {acc : List SubM} {k : UInt8} {tx : List UInt8} {y : Ch} (hv : bs.drop i = v) (hi : i ≤ bs.length) (h2 : 2 ≤ i) (h31 : bs.getD (i - 1) 0 ≠ 31) (hg : goodC y) (hq : RunQ y v) :
    upR off (runF false bs v.length i ⟨false, ind, data, acc ++ [⟨k, tx⟩], y⟩) = .bad (failAt bs off (i + begL v)) 14 := by
  obtain ⟨b, z, y2, hbz, hlen, hrun, hz⟩ := hq
  rw [hbz] at hv
  have hg2 := runC_good hrun hg
  obtain ⟨q1, q2⟩ := seg_sub bs b z z.length i ind data acc k tx y y2 hv h2 h31 hg hrun
  rw [hbz, List.length_append, ← hbz, q1, ← hlen]
  obtain ⟨d1, d2⟩ := drop_split hv hi
  cases z with
  | nil =>
    show upR off (.bad (bs.length - 1) 14) = _
    rw [fail_end (by simp at d2; omega)]; rfl
  | cons c z' =>
    obtain ⟨h1, -, -⟩ := at_cons d1
    obtain ⟨hn, hl⟩ := hz c z' rfl
    have e3 : (bs.getD (i + b.length - 1) 0 == 31) = false := by rw [beq_eq_false_iff_ne]; exact q2
    have hc : (y2.left == 0 && c == 31) = false ∧ (y2.left == 0 && c == 30) = false := by
      rcases hl with hl | hl
      · have : (y2.left == 0) = false := by rw [beq_eq_false_iff_ne]; omega
        rw [this]; exact ⟨rfl, rfl⟩
      · have a1 : (c == 31) = false := by rw [beq_eq_false_iff_ne]; rintro rfl; simp at hl
        have a2 : (c == 30) = false := by rw [beq_eq_false_iff_ne]; rintro rfl; simp at hl
        rw [a1, a2]; simp
    have hs : stepF false bs (i + b.length) ⟨false, ind, data, acc ++ [⟨k, tx ++ b⟩], y2⟩ = none := by
      unfold stepF
      rw [if_neg (by simp), if_neg (by simp; omega), if_neg (by simp only [e3]; simp), if_neg (by simp only [h1, hc.1]; simp), if_neg (by simp only [h1, hc.2]; simp), if_neg (by simp)]
      simp only [h1, hn]
    rw [List.length_cons, runF_none hs, fail_in (by simp at d2; omega)]; rfl
/-- What follows behind the end. -/
theorem after_end {t : Bool} {bs v : List UInt8} {off i : Nat} {s : FS} (hv : bs.drop i = v) (hi : i ≤ bs.length) (hd : s.done = true) : upR off (runF t bs v.length i s) = if i < bs.length then .bad (failAt bs off i) 14 else .ok s := by
  have h3 : (bs.drop i).length = v.length := by rw [hv]
  rw [List.length_drop] at h3
  cases v with
  | nil =>
    simp at h3
    rw [if_neg (by omega)]
    show upR off (if s.done then _ else _) = _
    rw [if_pos hd]; rfl
  | cons c v' =>
    simp at h3
    rw [if_pos (by omega), List.length_cons, runF_none (by unfold stepF; rw [if_pos hd]), fail_in (by omega)]; rfl
def toF (tag : List UInt8) : PR FS → PR FldM
  | .bad p k => .bad p k
  | .ok s => .ok ⟨tag, s.ind, s.data, s.subs⟩
theorem fieldR_eq (tag bs : List UInt8) (off : Nat) : fieldR tag bs off = toF tag (upR off (runF (ctlB tag) bs bs.length 0 ⟨false, [], [], [], ⟨0, 0, 0⟩⟩)) := by
  unfold fieldR
  cases runF (ctlB tag) bs bs.length 0 ⟨false, [], [], [], ⟨0, 0, 0⟩⟩ <;> rfl
theorem take_app {u v bs : List UInt8} {a : Nat} (h : bs.drop a = u ++ v) (hu : u.length = textLen (bs.drop a)) : (bs.drop a).take (textLen (bs.drop a)) = u := by
  rw [← hu, h, List.take_left]
theorem skip_ok {bs : List UInt8} {off a : Nat} {c : UInt8} (h : a < bs.length) (hc : bs.getD a 0 = c) : skipM bs off a c = .ok (.tuple #[], a + 1) := by
  unfold skipM seesB
  rw [if_pos (by simp only [decide_eq_true h, hc]; simp)]
theorem skip_bad {bs : List UInt8} {off a : Nat} {c : UInt8} (h : a < bs.length → bs.getD a 0 ≠ c) : skipM bs off a c = .bad (failAt bs off a) 14 := by
  unfold skipM seesB
  rw [if_neg]
  simp only [Bool.and_eq_true, decide_eq_true_eq, beq_iff_eq]
  rintro ⟨h1, h2⟩
  exact h h1 h2
theorem sees_no {bs : List UInt8} {a : Nat} {c : UInt8} (h : a < bs.length → bs.getD a 0 ≠ c) : seesB bs a c = false := by
  unfold seesB
  rw [Bool.and_eq_false_iff]
  rcases Nat.lt_or_ge a bs.length with h1 | h1
  · right; rw [beq_eq_false_iff_ne]; exact h h1
  · left; simp; omega
theorem sees_yes {bs : List UInt8} {a : Nat} {c : UInt8} (h : a < bs.length) (hc : bs.getD a 0 = c) : seesB bs a c = true := by
  unfold seesB; simp only [decide_eq_true h, hc]; simp
theorem take_ok {p : UInt8 → Bool} {bs : List UInt8} {off a : Nat} (h : a < bs.length) (hp : p (bs.getD a 0) = true) : takeM p bs off a = .ok (.int .u8 ((bs.getD a 0).toNat : Int), a + 1) := by
  unfold takeM; rw [if_pos (by simp only [decide_eq_true h, hp]; rfl)]
theorem take_no {p : UInt8 → Bool} {bs : List UInt8} {off a : Nat} (h : a < bs.length → p (bs.getD a 0) = false) : takeM p bs off a = .bad (failAt bs off a) 14 := by
  unfold takeM
  rw [if_neg]
  simp only [Bool.and_eq_true, decide_eq_true_eq]
  rintro ⟨h1, h2⟩
  rw [h h1] at h2; cases h2
theorem ctl_eq (tag bs : List UInt8) (off : Nat) (hc : ctlB tag = true) : fieldR tag bs off = fieldM tag bs off := by
  rw [fieldR_eq, hc]
  unfold fieldM
  rw [if_pos hc]
  obtain ⟨u, v, y, huv, hu, hrun, hy, hv⟩ := textQ (bs.drop 0) 0 0
  have hg : goodC ⟨0, 0, 0⟩ := .inl rfl
  have hbv : bs = u ++ v := by rw [← huv, List.drop_zero]
  have hlen : bs.length = u.length + v.length := by rw [hbv, List.length_append]
  rw [hlen, seg_ctl bs u v v.length 0 [] [] [] ⟨0, 0, 0⟩ y huv hg hrun]
  simp only [Nat.zero_add, List.nil_append]
  have hgy := runC_good hrun hg
  obtain ⟨d1, d2⟩ := drop_split huv (Nat.zero_le _)
  rw [Nat.zero_add] at d1 d2
  unfold textM
  rw [take_app huv hu, Nat.zero_add, ← hu]
  rcases hv with rfl | ⟨c, v', rfl, hv⟩
  · simp at d2
    rw [if_neg (by simp; omega)]
    show toF tag (upR off (.bad (bs.length - 1) 14)) = endM bs off u.length _
    unfold endM
    rw [skip_bad (by omega), fail_end (by omega)]; rfl
  · obtain ⟨h1, h2, h3⟩ := at_cons d1
    rcases hv with hv | ⟨hv, hq⟩
    · rw [if_neg (by rw [h1, Bool.and_eq_true, decide_eq_true_eq, decide_eq_true_eq]; omega)]
      show _ = endM bs off u.length _
      unfold endM
      rw [List.length_cons]
      by_cases h30 : c = 30
      · subst h30
        have hs : stepF true bs u.length ⟨false, [], u, [], y⟩ = some ⟨true, [], u, [], y⟩ := by
          unfold stepF
          simp [gq h1, hy]
        rw [runF_some hs, after_end h2 (by omega) rfl, skip_ok (by omega) h1]
        simp only
        split <;> rfl
      · have hn : nextC y c = none := by
          unfold nextC
          rw [if_neg (by omega), if_neg (by omega), if_neg (by omega), if_neg (by omega), if_neg (by omega)]
        have hs : stepF true bs u.length ⟨false, [], u, [], y⟩ = none := by
          unfold stepF
          simp [gq h1, hn, h30]
        rw [runF_none hs, skip_bad (fun _ => by rw [h1]; exact h30), fail_in (by omega)]; rfl
    · rw [if_pos (by rw [h1, Bool.and_eq_true, decide_eq_true_eq, decide_eq_true_eq]; omega), bad_ctl d1 (by omega) hgy hq, d1]
      rfl
/-- The subfields from a place on, and the end. -/
theorem subs_eq (tag bs : List UInt8) (off : Nat) (ind : List UInt8) : ∀ (m a : Nat) (acc : List SubM) (x : Ch) (v : List UInt8) (f : Nat), bs.drop a = v → v.length ≤ m → 2 ≤ a → a ≤ bs.length → x.left = 0 →
    (acc ≠ [] → bs.getD (a - 1) 0 ≠ 31 ∧ (a < bs.length → (bs.getD a 0).toNat < 32)) → v.length < f →
    toF tag (upR off (runF false bs v.length a ⟨false, ind, [], acc, x⟩)) = (match subsM bs off f a acc with | .bad p k => .bad p k | .ok y => endM bs off y.2 ⟨tag, ind, [], y.1⟩)
  | m, a, acc, x, v, 0, _, _, _, _, _, _, hf => by omega
  | m, a, acc, x, v, f + 1, hv, hm, h2, ha, hx, hacc, hf => by
    have hvl : (bs.drop a).length = v.length := by rw [hv]
    rw [List.length_drop] at hvl
    cases v with
    | nil =>
      have hal : a = bs.length := by simp at hvl; omega
      have hb : (!acc.isEmpty && seesB bs a 30) = false := by rw [sees_no (by omega)]; simp
      rw [subsM_go hb]
      unfold stepM
      rw [skip_bad (by omega), fail_end (by omega)]; rfl
    | cons c v' =>
      obtain ⟨h1, hd1, h3⟩ := at_cons hv
      have hlt : a < bs.length := by omega
      rw [List.length_cons] at hm hf ⊢
      -- a new subfield
      by_cases h31 : c = 31
      · subst h31
        have hb : (!acc.isEmpty && seesB bs a 30) = false := by rw [sees_no (fun _ => by rw [h1]; decide)]; simp
        have hp31 : (!acc.isEmpty && (bs.getD (a - 1) 0 == 31)) = false := by
          cases acc with
          | nil => rfl
          | cons s l => have := (hacc (by simp)).1; simp only [List.isEmpty_cons, Bool.not_false, Bool.true_and, beq_eq_false_iff_ne]; exact this
        have hs : stepF false bs a ⟨false, ind, [], acc, x⟩ = some ⟨false, ind, [], acc ++ [⟨0, []⟩], x⟩ := by
          unfold stepF
          rw [if_neg (by simp), if_neg (by simp; omega), if_neg (by simp only [Bool.not_false, Bool.true_and, hp31]; decide), if_pos (by simp only [h1, hx]; decide)]
        rw [runF_some hs, subsM_go hb]
        unfold stepM
        rw [skip_ok hlt h1]
        simp only
        cases v' with
        | nil =>
          simp at h3
          rw [take_no (by omega), fail_end (by omega)]; rfl
        | cons c2 v2 =>
          obtain ⟨h4, hd2, h5⟩ := at_cons hd1
          rw [List.length_cons] at hm hf ⊢
          by_cases hsg : signB c2 = true
          case neg =>
            have hs2 : stepF false bs (a + 1) ⟨false, ind, [], acc ++ [⟨0, []⟩], x⟩ = none := by
              unfold stepF
              rw [if_neg (by simp), if_neg (by simp; omega), if_pos (by simp only [Nat.add_sub_cancel, h1]; simp), if_neg (by rw [h4]; exact hsg)]
            rw [runF_none hs2, take_no (fun _ => by rw [h4]; simpa using hsg), fail_in (by omega)]; rfl
          have hs2 : stepF false bs (a + 1) ⟨false, ind, [], acc ++ [⟨0, []⟩], x⟩ = some ⟨false, ind, [], acc ++ [⟨c2, []⟩], x⟩ := by
            unfold stepF
            rw [if_neg (by simp), if_neg (by simp; omega), if_pos (by simp only [Nat.add_sub_cancel, h1]; simp), if_pos (by rw [h4]; exact hsg), lastUp_snoc, h4]
          rw [runF_some hs2, take_ok (by omega) (by rw [h4]; exact hsg)]
          simp only
          obtain ⟨u, w, y, huv, hu, hrun, hy, hw⟩ := textQ (bs.drop (a + 1 + 1)) x.low x.high
          have hxx : (⟨0, x.low, x.high⟩ : Ch) = x := by rw [← hx]
          rw [hxx] at hrun
          have hgx : goodC x := .inl hx
          have hgy := runC_good hrun hgx
          have huv2 : v2 = u ++ w := by rw [← huv, hd2]
          have hc2 : bs.getD (a + 1 + 1 - 1) 0 ≠ 31 := by
            rw [Nat.add_sub_cancel, h4]; rintro rfl; exact absurd hsg (by decide)
          obtain ⟨q1, q2⟩ := seg_sub bs u w w.length (a + 1 + 1) ind [] acc c2 [] x y huv (by omega) hc2 hgx hrun
          obtain ⟨d1, d2⟩ := drop_split huv (by omega)
          have hl2 : v2.length = u.length + w.length := by rw [huv2, List.length_append]
          rw [hl2, q1]
          unfold textM
          rw [show a + 2 = a + 1 + 1 from rfl, take_app huv hu, ← hu, h4]
          simp only [List.nil_append]
          have key : (w = [] ∨ ∃ c w', w = c :: w' ∧ c.toNat < 32) → toF tag (upR off (runF false bs w.length (a + 1 + 1 + u.length) ⟨false, ind, [], acc ++ [⟨c2, u⟩], y⟩)) = (match subsM bs off f (a + 1 + 1 + u.length) (acc ++ [⟨c2, u⟩]) with | .bad p k => .bad p k | .ok y => endM bs off y.2 ⟨tag, ind, [], y.1⟩) := by
            intro hw
            refine subs_eq tag bs off ind (m - 1) _ _ y w f d1 (by omega) (by omega) (by omega) hy (fun _ => ⟨q2, fun hlt2 => ?_⟩) (by omega)
            rcases hw with rfl | ⟨c, w', rfl, hc⟩
            · simp at d2; omega
            · rw [(at_cons d1).1]; exact hc
          rcases hw with rfl | ⟨c, w', rfl, hw⟩
          · simp at d2
            rw [if_neg (by simp; omega)]
            exact key (.inl rfl)
          · obtain ⟨h6, -, h7⟩ := at_cons d1
            rcases hw with hw | ⟨hw, hq⟩
            · rw [if_neg (by rw [h6, Bool.and_eq_true, decide_eq_true_eq, decide_eq_true_eq]; omega)]
              exact key (.inr ⟨c, w', rfl, hw⟩)
            · rw [if_pos (by rw [h6, Bool.and_eq_true, decide_eq_true_eq, decide_eq_true_eq]; omega), bad_sub d1 (by omega) (by omega) q2 hgy hq, d1]
              rfl
      · cases acc with
        | nil =>
          have hb : (!([] : List SubM).isEmpty && seesB bs a 30) = false := rfl
          have hs : stepF false bs a ⟨false, ind, [], [], x⟩ = none := by
            unfold stepF
            rw [if_neg (by simp), if_neg (by simp; omega), if_neg (by simp), if_neg (by simp [gq h1, h31]), if_neg (by simp), if_pos (by simp)]
          rw [runF_none hs, subsM_go hb]
          unfold stepM
          rw [skip_bad (fun _ => by rw [h1]; exact h31), fail_in hlt]; rfl
        | cons s l =>
          obtain ⟨hp, hc32⟩ := hacc (by simp)
          have hc32 := hc32 hlt
          rw [h1] at hc32
          have hpb : (bs.getD (a - 1) 0 == 31) = false := by rw [beq_eq_false_iff_ne]; exact hp
          by_cases h30 : c = 30
          · subst h30
            have hs : stepF false bs a ⟨false, ind, [], s :: l, x⟩ = some ⟨true, ind, [], s :: l, x⟩ := by
              unfold stepF
              rw [if_neg (by simp), if_neg (by simp; omega), if_neg (by simp only [hpb]; simp), if_neg (by simp only [h1]; simp), if_pos (by simp [gq h1, hx])]
            rw [runF_some hs, subsM_stop (by simp) (sees_yes hlt h1), after_end hd1 (by omega) rfl]
            simp only
            unfold endM
            rw [skip_ok hlt h1]
            simp only
            split <;> rfl
          · have hn : nextC x c = none := by
              unfold nextC
              rw [if_neg (by omega), if_neg (by omega), if_neg (by omega), if_neg (by omega), if_neg (by omega)]
            have hs : stepF false bs a ⟨false, ind, [], s :: l, x⟩ = none := by
              unfold stepF
              rw [if_neg (by simp), if_neg (by simp; omega), if_neg (by simp only [hpb]; simp), if_neg (by simp [gq h1, h31]), if_neg (by simp [gq h1, h30]), if_neg (by simp)]
              simp only [h1, hn]
            have hb : (!(s :: l).isEmpty && seesB bs a 30) = false := by rw [sees_no (fun _ => by rw [h1]; exact h30)]; simp
            rw [runF_none hs, subsM_go hb]
            unfold stepM
            rw [skip_bad (fun _ => by rw [h1]; exact h31), fail_in hlt]; rfl
theorem var_eq (tag bs : List UInt8) (off : Nat) (hc : ctlB tag = false) (h1 : 1 ≤ bs.length) : fieldR tag bs off = fieldM tag bs off := by
  rw [fieldR_eq, hc]
  unfold fieldM
  rw [if_neg (by rw [hc]; decide)]
  unfold indM
  match bs, h1 with
  | [c], _ =>
    by_cases hp : indB c = true
    case neg =>
      have hs : stepF false [c] 0 ⟨false, [], [], [], ⟨0, 0, 0⟩⟩ = none := by
        unfold stepF
        rw [if_neg (by simp), if_pos (by simp), if_neg (by simpa using hp)]
      rw [show ([c] : List UInt8).length = 0 + 1 from rfl, runF_none hs, take_no (fun _ => by simpa using hp), fail_in (by simp)]; rfl
    have hs : stepF false [c] 0 ⟨false, [], [], [], ⟨0, 0, 0⟩⟩ = some ⟨false, [c], [], [], ⟨0, 0, 0⟩⟩ := by
      unfold stepF
      rw [if_neg (by simp), if_pos (by simp), if_pos (by simpa using hp)]
      rfl
    rw [show ([c] : List UInt8).length = 0 + 1 from rfl, runF_some hs, take_ok (by simp) (by simpa using hp)]
    simp only
    rw [take_no (by simp), fail_end (by simp)]; rfl
  | c :: d :: r, _ =>
    by_cases hp : indB c = true
    case neg =>
      have hs : stepF false (c :: d :: r) 0 ⟨false, [], [], [], ⟨0, 0, 0⟩⟩ = none := by
        unfold stepF
        rw [if_neg (by simp), if_pos (by simp), if_neg (by simpa using hp)]
      rw [List.length_cons, runF_none hs, take_no (fun _ => by simpa using hp), fail_in (by simp)]; rfl
    have hs : stepF false (c :: d :: r) 0 ⟨false, [], [], [], ⟨0, 0, 0⟩⟩ = some ⟨false, [c], [], [], ⟨0, 0, 0⟩⟩ := by
      unfold stepF
      rw [if_neg (by simp), if_pos (by simp), if_pos (by simpa using hp)]
      rfl
    rw [List.length_cons, runF_some hs, take_ok (by simp) (by simpa using hp)]
    simp only
    by_cases hp2 : indB d = true
    case neg =>
      have hs : stepF false (c :: d :: r) (0 + 1) ⟨false, [c], [], [], ⟨0, 0, 0⟩⟩ = none := by
        unfold stepF
        rw [if_neg (by simp), if_pos (by simp), if_neg (by simpa using hp2)]
      rw [List.length_cons, runF_none hs, take_no (fun _ => by simpa using hp2), fail_in (by simp)]; rfl
    have hs2 : stepF false (c :: d :: r) (0 + 1) ⟨false, [c], [], [], ⟨0, 0, 0⟩⟩ = some ⟨false, [c, d], [], [], ⟨0, 0, 0⟩⟩ := by
      unfold stepF
      rw [if_neg (by simp), if_pos (by simp), if_pos (by simpa using hp2)]
      rfl
    rw [List.length_cons, runF_some hs2, take_ok (by simp) (by simpa using hp2)]
    simp only
    exact subs_eq tag (c :: d :: r) off [c, d] r.length 2 [] ⟨0, 0, 0⟩ r _ rfl (Nat.le_refl _) (Nat.le_refl _) (by have : (c :: d :: r).length = r.length + 2 := rfl; omega) rfl (fun h => absurd rfl h) (by have : (c :: d :: r).length = r.length + 2 := rfl; omega)
theorem fieldR_is (tag bs : List UInt8) (off : Nat) (h1 : 1 ≤ bs.length) : fieldR tag bs off = fieldM tag bs off := by
  cases hc : ctlB tag with
  | true => exact ctl_eq tag bs off hc
  | false => exact var_eq tag bs off hc h1
end Go.Proofs.YtpfnmjcomdckgaaDoor
