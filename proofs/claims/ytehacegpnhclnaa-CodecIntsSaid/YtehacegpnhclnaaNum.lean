/-
  Plain mathematics of numbers as groups: writing, reading, and what the reader accepts. Imports nothing of the program.
-/
import Derived.Laws.BitsAllLaws
namespace Go.Proofs.Ytehacegpnhclnaa
open Go

def numF : Nat → Nat → List UInt8
  | 0, n => [UInt8.ofNat n]
  | k + 1, n => if n < 128 then [UInt8.ofNat n] else UInt8.ofNat (n % 128 + 128) :: numF k (n / 128)
/-- The bytes of a number: its groups, the least significant one first; 128 is added to all but the last. -/
def num (n : Nat) : List UInt8 := numF n n

theorem numF_fuel (k : Nat) : ∀ (j n : Nat), n ≤ k → n ≤ j → numF k n = numF j n := by
  induction k with
  | zero =>
    intro j n hk hj
    have : n = 0 := by omega
    subst this
    cases j <;> simp [numF]
  | succ k ih =>
    intro j n hk hj
    cases j with
    | zero =>
      have : n = 0 := by omega
      subst this; simp [numF]
    | succ j =>
      simp only [numF]
      split
      · rfl
      · rw [ih j (n / 128) (by omega) (by omega)]
theorem num_small {n : Nat} (h : n < 128) : num n = [UInt8.ofNat n] := by
  unfold num
  cases n with
  | zero => rfl
  | succ n => simp [numF, h]
theorem num_big {n : Nat} (h : 128 ≤ n) : num n = UInt8.ofNat (n % 128 + 128) :: num (n / 128) := by
  unfold num
  cases n with
  | zero => omega
  | succ n =>
    simp only [numF]
    rw [if_neg (by omega), numF_fuel n ((n + 1) / 128) _ (by omega) (by omega)]

theorem ofNat_toNat {n : Nat} (h : n < 256) : (UInt8.ofNat n).toNat = n := by
  rw [UInt8.toNat_ofNat']; omega
theorem u8_lt (c : UInt8) : c.toNat < 256 := c.toNat_lt

/-- The value of groups. -/
def val : List UInt8 → Nat
  | [] => 0
  | c :: l => c.toNat % 128 + 128 * val l
theorem val_append (l m : List UInt8) : val (l ++ m) = val l + 128 ^ l.length * val m := by
  induction l with
  | nil => simp [val]
  | cons c l ih =>
    simp only [List.cons_append, val, ih, List.length_cons, Nat.pow_succ]
    have : 128 * (128 ^ l.length * val m) = 128 ^ l.length * 128 * val m := by
      rw [← Nat.mul_assoc, Nat.mul_comm 128]
    omega
theorem val_snoc (l : List UInt8) (c : UInt8) : val (l ++ [c]) = val l + 128 ^ l.length * (c.toNat % 128) := by
  rw [val_append]; simp [val]
theorem val_lt (l : List UInt8) : val l < 128 ^ l.length := by
  induction l with
  | nil => simp [val]
  | cons c l ih =>
    simp only [val, List.length_cons, Nat.pow_succ]
    omega

theorem num_ne (n : Nat) : num n ≠ [] := by
  by_cases h : n < 128
  · rw [num_small h]; simp
  · rw [num_big (by omega)]; simp
theorem num_pos (n : Nat) : 0 < (num n).length := by
  have := num_ne n
  cases h : num n with
  | nil => exact absurd h this
  | cons _ _ => simp

/-- The form of a number's bytes: all but the last are 128 or greater, the last is less, and 0 only if it is alone. -/
theorem num_form (n : Nat) : ∃ pre c, num n = pre ++ [c] ∧ (∀ x ∈ pre, 128 ≤ x.toNat) ∧ c.toNat < 128 ∧ (pre ≠ [] → c.toNat ≠ 0) ∧ val (num n) = n := by
  induction n using Nat.strongRecOn with
  | _ n ih =>
    by_cases h : n < 128
    · refine ⟨[], UInt8.ofNat n, by rw [num_small h]; rfl, by simp, by rw [ofNat_toNat (by omega)]; exact h, by simp, ?_⟩
      rw [num_small h]
      simp [val, ofNat_toNat (show n < 256 by omega)]
      omega
    · obtain ⟨pre, c, he, hp, hc, hz, hv⟩ := ih (n / 128) (by omega)
      refine ⟨UInt8.ofNat (n % 128 + 128) :: pre, c, by rw [num_big (by omega), he]; rfl, ?_, hc, ?_, ?_⟩
      · intro x hx
        rcases List.mem_cons.1 hx with rfl | hx
        · rw [ofNat_toNat (by omega)]; omega
        · exact hp x hx
      · intro _ h0
        cases pre with
        | nil =>
          have hv2 : val (num (n / 128)) = 0 := by rw [he]; simp [val, h0]
          omega
        | cons a pre => exact hz (by simp) h0
      · rw [num_big (by omega)]
        simp only [val, hv]
        rw [ofNat_toNat (by omega)]
        omega
theorem val_num (n : Nat) : val (num n) = n := by obtain ⟨_, _, _, _, _, _, h⟩ := num_form n; exact h
theorem num_inj {m n : Nat} (h : num m = num n) : m = n := by rw [← val_num m, h, val_num]

/-- Groups of that form are the bytes of their value. -/
theorem num_val (pre : List UInt8) (c : UInt8) (hp : ∀ x ∈ pre, 128 ≤ x.toNat) (hc : c.toNat < 128) (hz : pre ≠ [] → c.toNat ≠ 0) : num (val (pre ++ [c])) = pre ++ [c] := by
  induction pre with
  | nil =>
    have : val ([] ++ [c]) = c.toNat := by simp [val]; omega
    rw [this, num_small hc]; simp
  | cons a pre ih =>
    have ha := hp a (by simp)
    have ha2 := u8_lt a
    have hpos : 0 < val (pre ++ [c]) := by
      rw [val_snoc]
      have h1 : c.toNat % 128 = c.toNat := Nat.mod_eq_of_lt hc
      have h2 : 0 < c.toNat := Nat.pos_of_ne_zero (hz (by simp))
      have h3 : 0 < 128 ^ pre.length := Nat.pow_pos (by omega)
      rw [h1]
      have := Nat.mul_pos h3 h2
      omega
    have hih := ih (fun x hx => hp x (by simp [hx])) (fun _ => hz (by simp))
    have hv : val (a :: pre ++ [c]) = a.toNat % 128 + 128 * val (pre ++ [c]) := rfl
    rw [hv, num_big (by omega)]
    have e1 : (a.toNat % 128 + 128 * val (pre ++ [c])) / 128 = val (pre ++ [c]) := by omega
    have e2 : (a.toNat % 128 + 128 * val (pre ++ [c])) % 128 + 128 = a.toNat := by omega
    rw [e1, e2, hih]
    simp

/-- How many groups. -/
theorem num_len_le (k : Nat) : ∀ n : Nat, n < 128 ^ (k + 1) → (num n).length ≤ k + 1 := by
  induction k with
  | zero => intro n h; rw [num_small (by simpa using h)]; simp
  | succ k ih =>
    intro n h
    by_cases hs : n < 128
    · rw [num_small hs]; simp
    · rw [num_big (by omega)]
      have := ih (n / 128) (by rw [Nat.pow_succ] at h; omega)
      simp; omega
theorem num_len (n : Nat) (h : n < 18446744073709551616) : (num n).length ≤ 10 :=
  num_len_le 9 n (Nat.lt_of_lt_of_le h (by decide))

/-! ### Reading -/
/-- Can a number end with the group c, if i groups come before it? -/
def lastOk (i : Nat) (c : UInt8) : Bool := i == 0 || (c.toNat != 0 && !(i == 9 && decide (1 < c.toNat)))
/-- (value, how many bytes, error): 'left' groups may still come, i have come, their value is acc. -/
def readF : Nat → Nat → Nat → List UInt8 → Nat × Nat × Nat
  | 0, _, _, _ => (0, 0, 11)
  | _ + 1, _, _, [] => (0, 0, 10)
  | left + 1, i, acc, c :: l =>
    if 128 ≤ c.toNat then readF left (i + 1) (acc + 128 ^ i * (c.toNat % 128)) l
    else if lastOk i c then (acc + 128 ^ i * c.toNat, i + 1, 0) else (0, 0, 11)
def readN (l : List UInt8) : Nat × Nat × Nat := readF 10 0 0 l

/-- What begins with a number's bytes is read as that number. -/
theorem readF_hit (pre : List UInt8) : ∀ (left i acc : Nat) (c : UInt8) (tail : List UInt8), (∀ x ∈ pre, 128 ≤ x.toNat) → c.toNat < 128 → pre.length < left → lastOk (i + pre.length) c = true →
    readF left i acc (pre ++ c :: tail) = (acc + 128 ^ i * val (pre ++ [c]), i + pre.length + 1, 0) := by
  induction pre with
  | nil =>
    intro left i acc c tail _ hc hl hk
    obtain ⟨left, rfl⟩ : ∃ m, left = m + 1 := ⟨left - 1, by simp at hl; omega⟩
    simp only [List.length_nil, Nat.add_zero] at hk
    simp only [List.nil_append, readF]
    rw [if_neg (by omega), if_pos hk]
    simp [val, Nat.mod_eq_of_lt hc]
  | cons a pre ih =>
    intro left i acc c tail hp hc hl hk
    obtain ⟨left, rfl⟩ : ∃ m, left = m + 1 := ⟨left - 1, by simp at hl; omega⟩
    simp only [List.cons_append, readF]
    rw [if_pos (hp a (by simp)), ih left (i + 1) _ c tail (fun x hx => hp x (by simp [hx])) hc (by simp at hl; omega) (by
      simp only [List.length_cons] at hk
      rw [show i + 1 + pre.length = i + (pre.length + 1) from by omega]; exact hk)]
    simp only [val, List.length_cons, Nat.pow_succ]
    refine Prod.ext ?_ (Prod.ext ?_ rfl)
    · simp only []
      rw [Nat.mul_add, Nat.mul_assoc]; omega
    · simp only []; omega

theorem lastOk_num {n : Nat} (hn : n < 18446744073709551616) {pre : List UInt8} {c : UInt8} (h : num n = pre ++ [c]) : lastOk pre.length c = true := by
  obtain ⟨p, d, he, hp, hd, hz, hv⟩ := num_form n
  have hinj := List.append_inj' (he.symm.trans h) rfl
  obtain ⟨rfl, hcd⟩ := hinj
  obtain rfl : d = c := by simpa using hcd
  unfold lastOk
  cases p with
  | nil => simp
  | cons a p =>
    have h0 := hz (by simp)
    have h9 : ¬ ((a :: p).length = 9 ∧ 1 < d.toNat) := by
      rintro ⟨hl, h1⟩
      have hv2 : val ((a :: p) ++ [d]) = n := by rw [← he]; exact hv
      rw [val_snoc, hl, Nat.mod_eq_of_lt hd] at hv2
      have : (128 : Nat) ^ 9 = 9223372036854775808 := by decide
      omega
    simp only [Bool.or_eq_true, beq_iff_eq, Bool.and_eq_true, bne_iff_ne, Bool.not_eq_true', Bool.and_eq_false_iff, decide_eq_false_iff_not, beq_eq_false_iff_ne]
    refine .inr ⟨h0, ?_⟩
    by_cases hl : (a :: p).length = 9
    · exact .inr (fun h1 => h9 ⟨hl, h1⟩)
    · exact .inl hl

theorem readN_num (n : Nat) (hn : n < 18446744073709551616) (tail : List UInt8) : readN (num n ++ tail) = (n, (num n).length, 0) := by
  obtain ⟨pre, c, he, hp, hc, hz, hv⟩ := num_form n
  have hlen := num_len n hn
  have hk := lastOk_num hn he
  rw [he] at hlen hv ⊢
  simp only [List.length_append, List.length_cons, List.length_nil] at hlen
  have := readF_hit pre 10 0 0 c tail hp hc (by omega) (by simpa using hk)
  unfold readN
  rw [List.append_assoc, List.singleton_append, this]
  simp [hv]

/-- What the reference asks at the last group: are the bytes of the sum (modulo 2^64) the bytes read so far? -/
theorem last_iff (pre : List UInt8) (c : UInt8) (hp : ∀ x ∈ pre, 128 ≤ x.toNat) (hc : c.toNat < 128) (h9 : pre.length ≤ 9) :
    (num ((val pre + 128 ^ pre.length * c.toNat) % 18446744073709551616) = pre ++ [c]) ↔ lastOk pre.length c = true := by
  constructor
  · intro h
    exact lastOk_num (Nat.mod_lt _ (by decide)) h
  · intro h
    have hv : val (pre ++ [c]) = val pre + 128 ^ pre.length * c.toNat := by rw [val_snoc, Nat.mod_eq_of_lt hc]
    have hz : pre ≠ [] → c.toNat ≠ 0 := by
      intro hne
      unfold lastOk at h
      cases pre with
      | nil => exact absurd rfl hne
      | cons a p => simp at h; omega
    have hlt : val pre + 128 ^ pre.length * c.toNat < 18446744073709551616 := by
      have h1 := val_lt pre
      by_cases h8 : pre.length = 9
      · have hc1 : c.toNat ≤ 1 := by
          unfold lastOk at h
          rw [h8] at h
          simp at h; omega
        rw [h8] at h1 ⊢
        have e9 : (128 : Nat) ^ 9 = 9223372036854775808 := by decide
        rw [e9] at h1 ⊢
        omega
      · have h2 : 128 ^ pre.length ≤ 128 ^ 8 := Nat.pow_le_pow_right (by omega) (by omega)
        have e8 : (128 : Nat) ^ 8 = 72057594037927936 := by decide
        have h3 : 128 ^ pre.length * c.toNat ≤ 128 ^ 8 * 127 := Nat.mul_le_mul h2 (by omega)
        omega
    rw [Nat.mod_eq_of_lt hlt, ← hv]
    exact num_val pre c hp hc hz

/-- What was read is a number's bytes: the other way round. -/
theorem readF_ok (left : Nat) : ∀ (l : List UInt8) (i acc n k : Nat), readF left i acc l = (n, k, 0) →
    ∃ pre c tail, l = pre ++ c :: tail ∧ (∀ x ∈ pre, 128 ≤ x.toNat) ∧ c.toNat < 128 ∧ lastOk (i + pre.length) c = true ∧ pre.length < left ∧ n = acc + 128 ^ i * val (pre ++ [c]) ∧ k = i + pre.length + 1 := by
  induction left with
  | zero => intro l i acc n k h; simp [readF] at h
  | succ left ih =>
    intro l i acc n k h
    cases l with
    | nil => simp [readF] at h
    | cons c l =>
      simp only [readF] at h
      split at h
      · rename_i hc
        obtain ⟨pre, d, tail, rfl, hp, hd, hk, hl, hn, hk2⟩ := ih l _ _ n k h
        refine ⟨c :: pre, d, tail, rfl, ?_, hd, ?_, by simp; omega, ?_, by simp; omega⟩
        · intro x hx
          rcases List.mem_cons.1 hx with rfl | hx
          · exact hc
          · exact hp x hx
        · simp only [List.length_cons]
          rw [show i + (pre.length + 1) = i + 1 + pre.length from by omega]; exact hk
        · rw [hn]
          simp only [List.cons_append, val, Nat.pow_succ]
          rw [Nat.mul_add, Nat.mul_assoc]; omega
      · rename_i hc
        split at h
        · rename_i hk
          simp only [Prod.mk.injEq, and_true] at h
          obtain ⟨rfl, rfl⟩ := h
          exact ⟨[], c, l, rfl, by simp, by omega, by simpa using hk, by simp, by simp [val]; rw [Nat.mod_eq_of_lt (by omega)], by simp⟩
        · simp at h
theorem readN_ok {l : List UInt8} {n k : Nat} (h : readN l = (n, k, 0)) : n < 18446744073709551616 ∧ k = (num n).length ∧ ∃ tail, l = num n ++ tail := by
  obtain ⟨pre, c, tail, rfl, hp, hc, hk, hl, hn, hk2⟩ := readF_ok 10 l 0 0 n k h
  simp only [Nat.zero_add] at hk hk2
  have hv : val (pre ++ [c]) = val pre + 128 ^ pre.length * c.toNat := by rw [val_snoc, Nat.mod_eq_of_lt hc]
  have h1 := (last_iff pre c hp hc (by omega)).2 hk
  have hn2 : n = val (pre ++ [c]) := by rw [hn]; simp
  have h3 := val_num ((val pre + 128 ^ pre.length * c.toNat) % 18446744073709551616)
  rw [h1, hv] at h3
  have hlt : n < 18446744073709551616 := by
    rw [hn2, hv, h3]; exact Nat.mod_lt _ (by decide)
  have hnum : num n = pre ++ [c] := by
    rw [hn2, hv, h3]; exact h1
  exact ⟨hlt, by rw [hnum]; simp [hk2], tail, by rw [hnum]; simp⟩
theorem readF_zero (left : Nat) : ∀ (l : List UInt8) (i acc n k e : Nat), readF left i acc l = (n, k, e) → e ≠ 0 → n = 0 ∧ k = 0 ∧ (e = 10 ∨ e = 11) := by
  induction left with
  | zero => intro l i acc n k e h _; simp [readF] at h; omega
  | succ left ih =>
    intro l i acc n k e h he
    cases l with
    | nil => simp [readF] at h; omega
    | cons c l =>
      simp only [readF] at h
      split at h
      · exact ih _ _ _ _ _ _ h he
      · split at h
        · simp at h; omega
        · simp at h; omega
/-- The bytes taken lie within what is there. -/
theorem readN_len {l : List UInt8} {n k : Nat} (h : readN l = (n, k, 0)) : 1 ≤ k ∧ k ≤ l.length ∧ k ≤ 10 := by
  obtain ⟨hlt, rfl, tail, rfl⟩ := readN_ok h
  have := num_pos n
  have := num_len n hlt
  simp; omega
end Go.Proofs.Ytehacegpnhclnaa
