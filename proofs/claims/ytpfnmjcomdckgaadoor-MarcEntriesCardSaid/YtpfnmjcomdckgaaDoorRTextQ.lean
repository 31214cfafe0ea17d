/-
  Where the reader of characters stops: no program.
-/
import Derived.Test.YtpfnmjcomdckgaaDoorRAuto
import Derived.Test.YtpfnmjcomdckgaaDoorRFieldP
namespace Go.Proofs.YtpfnmjcomdckgaaDoor
open Go.RowKit Go.Shelf
set_option linter.unusedVariables false
set_option linter.unusedSimpArgs false

theorem begN_is {l : List UInt8} {k : Nat} (hk : k ≤ l.length) (h1 : ∀ j, j < k → fullM (l.take (j + 1)) = false) (h2 : k = l.length ∨ fullM (l.take (k + 1)) = true) :
    ∀ (f j : Nat), j ≤ k → k ≤ j + f → begN f j l = k
  | 0, j, hj, hf => by unfold begN; omega
  | f + 1, j, hj, hf => by
    unfold begN
    by_cases e : j = k
    · subst e
      rcases h2 with h2 | h2
      · rw [if_neg]; simp; omega
      · rw [if_neg]; simp [h2]
    · rw [if_pos (by rw [h1 j (by omega)]; simp; omega)]
      exact begN_is hk h1 h2 f (j + 1) (by omega) (by omega)
theorem begL_is {l : List UInt8} {k : Nat} (hk : k ≤ l.length) (h1 : ∀ j, j < k → fullM (l.take (j + 1)) = false) (h2 : k = l.length ∨ fullM (l.take (k + 1)) = true) : begL l = k :=
  begN_is hk h1 h2 _ _ (Nat.zero_le _) (by omega)
theorem runC_app {s t : Ch} : ∀ {a : List UInt8} (b : List UInt8), runC s a = some t → runC s (a ++ b) = runC t b
  | [], b, h => by cases h; rfl
  | c :: r, b, h => by
    cases hn : nextC s c with
    | none => rw [runC_none _ hn] at h; cases h
    | some x =>
      rw [runC_some _ hn] at h
      rw [List.cons_append, runC_some _ hn]
      exact runC_app b h
theorem runC_one {s t : Ch} {c : UInt8} (h : nextC s c = some t) : runC s [c] = some t := by rw [runC_some _ h]; rfl
theorem full1 (c : UInt8) (h : 2 ≤ Lib.firstT c.toNat % 8) : fullM [c] = false := by
  unfold fullM
  simp only [List.getD_cons_zero, List.length_cons, List.length_nil]
  rw [if_neg (by omega), if_neg (by simp; omega), if_neg (by simp), if_neg (by simp)]
theorem full1t (c : UInt8) (h : Lib.firstT c.toNat % 8 ≤ 1) : fullM [c] = true := by
  unfold fullM
  simp only [List.getD_cons_zero, List.length_cons, List.length_nil]
  rw [if_neg (by omega), if_pos (by simp; omega)]
theorem full2 (c d : UInt8) : fullM [c, d] = (decide (Lib.firstT c.toNat % 8 ≤ 2) || (decide (d.toNat < Lib.accLo (Lib.firstT c.toNat / 16)) || decide (Lib.accHi (Lib.firstT c.toNat / 16) < d.toNat))) := by
  unfold fullM
  simp only [List.getD_cons_zero, List.getD_cons_succ, List.length_cons, List.length_nil]
  rw [if_neg (by omega)]
  by_cases h : Lib.firstT c.toNat % 8 ≤ 2
  · rw [if_pos (by simpa using h), decide_eq_true h]; rfl
  · rw [if_neg (by simpa using h), decide_eq_false h]
    simp
theorem full3 (c d e : UInt8) : fullM [c, d, e] = (decide (Lib.firstT c.toNat % 8 ≤ 3) || ((decide (d.toNat < Lib.accLo (Lib.firstT c.toNat / 16)) || decide (Lib.accHi (Lib.firstT c.toNat / 16) < d.toNat)) || (decide (e.toNat < 128) || decide (191 < e.toNat)))) := by
  unfold fullM
  simp only [List.getD_cons_zero, List.getD_cons_succ, List.length_cons, List.length_nil]
  rw [if_neg (by omega)]
  by_cases h : Lib.firstT c.toNat % 8 ≤ 3
  · rw [if_pos (by simpa using h), decide_eq_true h]; rfl
  · rw [if_neg (by simpa using h), decide_eq_false h]
    by_cases h2 : (decide (d.toNat < Lib.accLo (Lib.firstT c.toNat / 16)) || decide (Lib.accHi (Lib.firstT c.toNat / 16) < d.toNat)) = true
    · rw [h2]; simp
    · rw [Bool.not_eq_true] at h2
      rw [h2]; simp
theorem full4 (c d e g : UInt8) (h : Lib.firstT c.toNat % 8 ≤ 4) : fullM [c, d, e, g] = true := by
  unfold fullM
  simp only [List.getD_cons_zero, List.getD_cons_succ, List.length_cons, List.length_nil]
  rw [if_neg (by omega), if_pos (by simpa using h)]
/-- How a reader runs over bytes that no text begins with. -/
def RunQ (x : Ch) (l : List UInt8) : Prop := ∃ (b z : List UInt8) (y : Ch), l = b ++ z ∧ b.length = begL l ∧ runC x b = some y ∧ ∀ c z', z = c :: z' → nextC y c = none ∧ (0 < y.left ∨ 32 ≤ c.toNat)
/-- How a reader runs over any bytes. -/
def TextQ (x : Ch) (l : List UInt8) : Prop := ∃ (u v : List UInt8) (y : Ch), l = u ++ v ∧ u.length = textLen l ∧ runC x u = some y ∧ y.left = 0 ∧ (v = [] ∨ ∃ c v', v = c :: v' ∧ (c.toNat < 32 ∨ (32 ≤ c.toNat ∧ RunQ y v)))
theorem textQ_stop {lo hi : Nat} {c : UInt8} {r : List UInt8} (h0 : textLen (c :: r) = 0) (h : c.toNat < 32 ∨ (32 ≤ c.toNat ∧ RunQ ⟨0, lo, hi⟩ (c :: r))) : TextQ ⟨0, lo, hi⟩ (c :: r) :=
  ⟨[], c :: r, ⟨0, lo, hi⟩, rfl, h0.symm, rfl, rfl, .inr ⟨c, r, rfl, h⟩⟩
theorem textQ_go {lo hi : Nat} {w r : List UInt8} (hr : runC ⟨0, lo, hi⟩ w = some ⟨0, 128, 191⟩) (hl : textLen (w ++ r) = w.length + textLen r) (h : TextQ ⟨0, 128, 191⟩ r) : TextQ ⟨0, lo, hi⟩ (w ++ r) := by
  obtain ⟨u, v, y, rfl, hu, hru, hy, hv⟩ := h
  exact ⟨w ++ u, v, y, by rw [List.append_assoc], by rw [List.length_append, hl, hu], by rw [runC_app _ hr]; exact hru, hy, hv⟩
theorem len_err {l : List UInt8} (h : dec l = (65533, 1)) : textLen l = 0 := by
  refine textLen_stop ?_
  rw [h]
  unfold stopB
  have : (l.take 3 == [239, 191, 189]) = false := by
    rw [beq_eq_false_iff_ne]
    intro e
    rw [dec_fffd l e] at h
    cases h
  rw [this]; rfl
theorem len_go {l : List UInt8} {V k : Nat} (hl : l ≠ []) (h : dec l = (V, k)) (h32 : 32 ≤ V) (hf : V = 65533 → l.take 3 = [239, 191, 189]) : textLen l = k + textLen (l.drop k) := by
  have hs : stopB (dec l).1 l = false := by
    rw [h]
    unfold stopB
    rw [Bool.or_eq_false_iff, Bool.and_eq_false_iff]
    refine ⟨by simp; omega, ?_⟩
    by_cases e : V = 65533
    · right; rw [hf e]; rfl
    · left; rw [beq_eq_false_iff_ne]; exact e
  have h1 := textLen_step hl hs
  rw [h] at h1
  exact h1
set_option maxHeartbeats 4000000 in
theorem clsQ {sz lo hi p q : Nat} (hsz : sz = 2 ∨ sz = 3 ∨ sz = 4) (c : UInt8) (r : List UInt8) (h32 : 32 ≤ c.toNat) (hnx : nextC ⟨0, p, q⟩ c = some ⟨sz - 1, lo, hi⟩)
    (hF : Lib.firstT c.toNat % 8 = sz) (hLo : Lib.accLo (Lib.firstT c.toNat / 16) = lo) (hHi : Lib.accHi (Lib.firstT c.toNat / 16) = hi)
    (hdec : ∀ n b1 b2 b3, 1 ≤ n → b1 < 256 → b2 < 256 → b3 < 256 → Lib.slowN n c.toNat b1 b2 b3 sz lo hi = Lib.decodeN n c.toNat b1 b2 b3)
    (h2 : sz = 2 → 194 ≤ c.toNat ∧ c.toNat < 224) (h3 : sz = 3 → 224 ≤ c.toNat ∧ c.toNat < 240 ∧ 128 ≤ lo ∧ hi ≤ 191 ∧ (c.toNat = 224 → 160 ≤ lo)) (h4 : sz = 4 → 240 ≤ c.toNat ∧ c.toNat < 245 ∧ 128 ≤ lo ∧ hi ≤ 191 ∧ (c.toNat = 240 → 144 ≤ lo))
    (ih : ∀ r' : List UInt8, r'.length ≤ r.length → TextQ ⟨0, 128, 191⟩ r') :
    TextQ ⟨0, p, q⟩ (c :: r) := by
  have hd := dec_cons c r
  rw [← hdec _ _ _ _ (by omega) (lt256 _) (lt256 _) (lt256 _)] at hd
  have hne : c :: r ≠ [] := List.cons_ne_nil _ _
  have f1 := full1 c (by omega)
  obtain ⟨k, hk⟩ : ∃ k, sz = k + 2 := ⟨sz - 2, by omega⟩
  subst hk
  have hnx : nextC ⟨0, p, q⟩ c = some ⟨k + 1, lo, hi⟩ := hnx
  match r, hd, ih with
  | [], hd, _ =>
    have : dec [c] = (65533, 1) := by
      rw [hd]; unfold Lib.slowN; rw [if_pos (by simp)]
    refine textQ_stop (len_err this) (.inr ⟨h32, [c], [], ⟨k + 1, lo, hi⟩, rfl, ?_, runC_one hnx, fun c z' e => by cases e⟩)
    exact (begL_is (k := 1) (by simp) (fun j hj => by have hj0 : j = 0 := (by omega); subst hj0; exact f1) (.inl rfl)).symm
  | d :: r1, hd, ih =>
    simp only [List.getD_cons_zero, List.getD_cons_succ, List.length_cons] at hd
    have f2 := full2 c d
    rw [hF, hLo, hHi] at f2
    by_cases hin : lo ≤ d.toNat ∧ d.toNat ≤ hi
    case neg =>
      have hout : d.toNat < lo ∨ hi < d.toNat := by omega
      have : dec (c :: d :: r1) = (65533, 1) := by
        rw [hd]; unfold Lib.slowN
        repeat' split
        all_goals first | rfl | (exfalso; omega)
      refine textQ_stop (len_err this) (.inr ⟨h32, [c], d :: r1, ⟨k + 1, lo, hi⟩, rfl, ?_, runC_one hnx, fun c' z' e => ?_⟩)
      · exact (begL_is (k := 1) (by simp) (fun j hj => by have hj0 : j = 0 := (by omega); subst hj0; exact f1) (.inr (by show fullM [c, d] = true; rw [f2]; simp; omega))).symm
      · cases e
        exact ⟨next_out hout, .inl (Nat.succ_pos _)⟩
    have hrun2 : runC ⟨0, p, q⟩ [c, d] = some ⟨k, 128, 191⟩ := by
      rw [runC_some _ hnx, runC_one (next_in hin)]
    have f2f : 1 ≤ k → fullM [c, d] = false := fun hk => by rw [f2]; simp; omega
    match k, hsz, hF, h2, h3, h4, hrun2, f2f with
    | 0, _, _, h2, _, _, hrun2, _ =>
      have hc := h2 rfl
      have hdd : dec (c :: d :: r1) = (c.toNat % 32 * 64 + d.toNat % 64, 2) := by
        rw [hd]; unfold Lib.slowN
        rw [if_neg (by omega), if_neg (by omega), if_pos (by omega)]
      exact textQ_go (w := [c, d]) hrun2 (len_go hne hdd (by omega) (by omega)) (ih r1 (by simp))
    | k + 1, hsz, hF, _, h3, h4, hrun2, f2f =>
      have f2g := f2f (by omega)
      match r1, hd, ih with
      | [], hd, _ =>
        have : dec [c, d] = (65533, 1) := by
          rw [hd]; unfold Lib.slowN; rw [if_pos (by simp)]
        refine textQ_stop (len_err this) (.inr ⟨h32, [c, d], [], ⟨k + 1, 128, 191⟩, rfl, ?_, hrun2, fun c z' e => by cases e⟩)
        refine (begL_is (k := 2) (by simp) (fun j hj => ?_) (.inl rfl)).symm
        match j, hj with
        | 0, _ => exact f1
        | 1, _ => exact f2g
      | e :: r2, hd, ih =>
        simp only [List.getD_cons_zero, List.getD_cons_succ, List.length_cons] at hd
        have f3 := full3 c d e
        rw [hF, hLo, hHi] at f3
        by_cases hin2 : 128 ≤ e.toNat ∧ e.toNat ≤ 191
        case neg =>
          have hout : e.toNat < 128 ∨ 191 < e.toNat := by omega
          have : dec (c :: d :: e :: r2) = (65533, 1) := by
            rw [hd]; unfold Lib.slowN
            repeat' split
            all_goals first | rfl | (exfalso; omega)
          refine textQ_stop (len_err this) (.inr ⟨h32, [c, d], e :: r2, ⟨k + 1, 128, 191⟩, rfl, ?_, hrun2, fun c' z' he => ?_⟩)
          · refine (begL_is (k := 2) (by simp) (fun j hj => ?_) (.inr ?_)).symm
            · match j, hj with
              | 0, _ => exact f1
              | 1, _ => exact f2g
            · show fullM [c, d, e] = true
              rw [f3]; simp; omega
          · cases he
            exact ⟨next_out hout, .inl (Nat.succ_pos _)⟩
        have hrun3 : runC ⟨0, p, q⟩ [c, d, e] = some ⟨k, 128, 191⟩ := by
          rw [show [c, d, e] = [c, d] ++ [e] from rfl, runC_app _ hrun2, runC_one (next_in hin2)]
        have f3f : 1 ≤ k → fullM [c, d, e] = false := fun hk => by rw [f3]; simp; omega
        match k, hsz, hF, h3, h4, hrun3, f3f with
        | 0, _, _, h3, _, hrun3, _ =>
          obtain ⟨hc1, hc2, hlo, hhi, hc3⟩ := h3 rfl
          have hdd : dec (c :: d :: e :: r2) = (c.toNat % 16 * 4096 + d.toNat % 64 * 64 + e.toNat % 64, 3) := by
            rw [hd]; unfold Lib.slowN
            rw [if_neg (by omega), if_neg (by omega), if_neg (by omega), if_neg (by omega), if_pos (by omega)]
          refine textQ_go (w := [c, d, e]) hrun3 (len_go hne hdd (by omega) (fun hV => ?_)) (ih r2 (by simp; omega))
          have e1 : c.toNat = 239 := by omega
          have e2 : d.toNat = 191 := by omega
          have e3 : e.toNat = 189 := by omega
          rw [byte_eq (by omega) e1, byte_eq (by omega) e2, byte_eq (by omega) e3]
          rfl
        | k + 1, hsz, hF, _, h4, hrun3, f3f =>
          obtain rfl : k = 0 := by omega
          have f3g := f3f (by omega)
          match r2, hd, ih with
          | [], hd, _ =>
            have : dec [c, d, e] = (65533, 1) := by
              rw [hd]; unfold Lib.slowN; rw [if_pos (by simp)]
            refine textQ_stop (len_err this) (.inr ⟨h32, [c, d, e], [], ⟨1, 128, 191⟩, rfl, ?_, hrun3, fun c z' e => by cases e⟩)
            refine (begL_is (k := 3) (by simp) (fun j hj => ?_) (.inl rfl)).symm
            match j, hj with
            | 0, _ => exact f1
            | 1, _ => exact f2g
            | 2, _ => exact f3g
          | g :: r3, hd, ih =>
            simp only [List.getD_cons_zero, List.getD_cons_succ, List.length_cons] at hd
            by_cases hin3 : 128 ≤ g.toNat ∧ g.toNat ≤ 191
            case neg =>
              have hout : g.toNat < 128 ∨ 191 < g.toNat := by omega
              have : dec (c :: d :: e :: g :: r3) = (65533, 1) := by
                rw [hd]; unfold Lib.slowN
                repeat' split
                all_goals first | rfl | (exfalso; omega)
              refine textQ_stop (len_err this) (.inr ⟨h32, [c, d, e], g :: r3, ⟨1, 128, 191⟩, rfl, ?_, hrun3, fun c' z' he => ?_⟩)
              · refine (begL_is (k := 3) (by simp) (fun j hj => ?_) (.inr (by show fullM [c, d, e, g] = true; exact full4 c d e g (by omega)))).symm
                match j, hj with
                | 0, _ => exact f1
                | 1, _ => exact f2g
                | 2, _ => exact f3g
              · cases he
                exact ⟨next_out hout, .inl (by decide)⟩
            obtain ⟨hc1, hc2, hlo, hhi, hc3⟩ := h4 rfl
            have hdd : dec (c :: d :: e :: g :: r3) = (c.toNat % 8 * 262144 + d.toNat % 64 * 4096 + e.toNat % 64 * 64 + g.toNat % 64, 4) := by
              rw [hd]; unfold Lib.slowN
              rw [if_neg (by omega), if_neg (by omega), if_neg (by omega), if_neg (by omega), if_neg (by omega), if_neg (by omega)]
            have hrun4 : runC ⟨0, p, q⟩ [c, d, e, g] = some ⟨0, 128, 191⟩ := by
              rw [show [c, d, e, g] = [c, d, e] ++ [g] from rfl, runC_app _ hrun3, runC_one (next_in hin3)]
            exact textQ_go (w := [c, d, e, g]) hrun4 (len_go hne hdd (by omega) (by omega)) (ih r3 (by simp; omega))
set_option maxHeartbeats 4000000 in
theorem textQ_all : ∀ (n : Nat) (l : List UInt8), l.length ≤ n → ∀ (lo hi : Nat), TextQ ⟨0, lo, hi⟩ l
  | _, [], _, _, _ => ⟨[], [], _, rfl, rfl, rfl, rfl, .inl rfl⟩
  | 0, c :: r, h, _, _ => by simp at h
  | n + 1, c :: r, h, lo, hi => by
    have hl : r.length ≤ n := by simpa using h
    have ih : ∀ r' : List UInt8, r'.length ≤ r.length → TextQ ⟨0, 128, 191⟩ r' := fun r' hr => textQ_all n r' (by omega) 128 191
    have hne : c :: r ≠ [] := List.cons_ne_nil _ _
    have hcl := lt256 c
    by_cases a1 : c.toNat < 32
    · exact textQ_stop (textLen_ctl c r a1) (.inl a1)
    by_cases a2 : c.toNat < 128
    · have hn : nextC ⟨0, lo, hi⟩ c = some ⟨0, 128, 191⟩ := by
        unfold nextC
        rw [if_neg (by simp), if_pos (by omega)]
      exact textQ_go (w := [c]) (runC_one hn) (len_go hne (dec_ascii c r a2) (by omega) (by omega)) (ih r (Nat.le_refl _))
    by_cases a3 : c.toNat < 194 ∨ 245 ≤ c.toNat
    · have hn : nextC ⟨0, lo, hi⟩ c = none := by
        unfold nextC
        rw [if_neg (by simp), if_neg (by omega), if_neg (by omega), if_neg (by omega), if_neg (by omega)]
      have hd : dec (c :: r) = (65533, 1) := by
        rw [dec_cons]
        have h1 := lt256 (r.getD 0 0)
        have h2 := lt256 (r.getD 1 0)
        have h3 := lt256 (r.getD 2 0)
        generalize (r.getD 0 0).toNat = b1 at *
        generalize (r.getD 1 0).toNat = b2 at *
        generalize (r.getD 2 0).toNat = b3 at *
        generalize r.length + 1 = m
        unfold Lib.decodeN
        repeat' split
        all_goals first | rfl | (exfalso; omega)
      refine textQ_stop (len_err hd) (.inr ⟨by omega, [], c :: r, ⟨0, lo, hi⟩, rfl, ?_, rfl, fun c' z' e => ?_⟩)
      · refine (begL_is (k := 0) (Nat.zero_le _) (fun j hj => by omega) (.inr ?_)).symm
        show fullM [c] = true
        refine full1t c ?_
        unfold Lib.firstT
        rcases a3 with a3 | a3
        · rw [if_neg a2, if_pos a3]; decide
        · repeat' split
          all_goals first | decide | (exfalso; omega)
      · cases e
        exact ⟨hn, .inr (by omega)⟩
    have hF : Lib.firstT c.toNat = if c.toNat < 224 then 2 else if c.toNat = 224 then 19 else if c.toNat = 237 then 35 else if c.toNat < 240 then 3 else if c.toNat = 240 then 52 else if c.toNat = 244 then 68 else 4 := by
      unfold Lib.firstT
      repeat' split
      all_goals first | rfl | (exfalso; omega)
    by_cases a4 : c.toNat < 224
    · have hn : nextC ⟨0, lo, hi⟩ c = some ⟨2 - 1, 128, 191⟩ := by
        unfold nextC
        rw [if_neg (by simp), if_neg (by omega), if_pos (by omega)]
      rw [if_pos a4] at hF
      exact clsQ (.inl rfl) c r (by omega) hn (by rw [hF]) (by rw [hF]; rfl) (by rw [hF]; rfl) (fun n b1 b2 b3 a b d e => Lib.slow_C2 n _ b1 b2 b3 a b d e (by omega)) (fun _ => by omega) (fun h => by cases h) (fun h => by cases h) ih
    by_cases a5 : c.toNat < 240
    · have hn : nextC ⟨0, lo, hi⟩ c = some ⟨3 - 1, if c.toNat = 224 then 160 else 128, if c.toNat = 237 then 159 else 191⟩ := by
        unfold nextC
        rw [if_neg (by simp), if_neg (by omega), if_neg (by omega), if_pos (by omega)]
      rw [if_neg a4] at hF
      refine clsQ (.inr (.inl rfl)) c r (by omega) hn ?_ ?_ ?_ (fun n b1 b2 b3 a b d e => ?_) (fun h => by cases h) (fun _ => ⟨by omega, a5, by split <;> omega, by split <;> omega, fun h => by rw [if_pos h]; exact Nat.le_refl _⟩) (fun h => by cases h) ih
      · rw [hF]; repeat' split
        all_goals first | rfl | (exfalso; omega)
      · rw [hF]; repeat' split
        all_goals first | rfl | (exfalso; omega)
      · rw [hF]; repeat' split
        all_goals first | rfl | (exfalso; omega)
      · by_cases x1 : c.toNat = 224
        · rw [if_pos x1, if_neg (by omega)]; exact Lib.slow_E0 n _ b1 b2 b3 a b d e x1
        · by_cases x2 : c.toNat = 237
          · rw [if_neg x1, if_pos x2]; exact Lib.slow_ED n _ b1 b2 b3 a b d e x2
          · rw [if_neg x1, if_neg x2]; exact Lib.slow_E1 n _ b1 b2 b3 a b d e (by omega)
    · have hn : nextC ⟨0, lo, hi⟩ c = some ⟨4 - 1, if c.toNat = 240 then 144 else 128, if c.toNat = 244 then 143 else 191⟩ := by
        unfold nextC
        rw [if_neg (by simp), if_neg (by omega), if_neg (by omega), if_neg (by omega), if_pos (by omega)]
      rw [if_neg a4, if_neg (by omega), if_neg (by omega), if_neg a5] at hF
      refine clsQ (.inr (.inr rfl)) c r (by omega) hn ?_ ?_ ?_ (fun n b1 b2 b3 a b d e => ?_) (fun h => by cases h) (fun h => by cases h) (fun _ => ⟨by omega, by omega, by split <;> omega, by split <;> omega, fun h => by rw [if_pos h]; exact Nat.le_refl _⟩) ih
      · rw [hF]; repeat' split
        all_goals first | rfl | (exfalso; omega)
      · rw [hF]; repeat' split
        all_goals first | rfl | (exfalso; omega)
      · rw [hF]; repeat' split
        all_goals first | rfl | (exfalso; omega)
      · by_cases x1 : c.toNat = 240
        · rw [if_pos x1, if_neg (by omega)]; exact Lib.slow_F0 n _ b1 b2 b3 a b d e x1
        · by_cases x2 : c.toNat = 244
          · rw [if_neg x1, if_pos x2]; exact Lib.slow_F4 n _ b1 b2 b3 a b d e x2
          · rw [if_neg x1, if_neg x2]; exact Lib.slow_F1 n _ b1 b2 b3 a b d e (by omega)
theorem textQ (l : List UInt8) (lo hi : Nat) : TextQ ⟨0, lo, hi⟩ l := textQ_all _ l (Nat.le_refl _) lo hi
end Go.Proofs.YtpfnmjcomdckgaaDoor
