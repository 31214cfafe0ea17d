/-
  Plain mathematics: changing four bytes in a row changes the checksum.
-/
import Derived.Test.YtehacegpnhclnaaMath
namespace Go.Proofs.Ytehacegpnhclnaa
open Go

def lo (c : BitVec 32) : BitVec 32 := BitVec.ofNat 32 (c.toNat % 256)
theorem lo_toNat (c : BitVec 32) : (lo c).toNat = c.toNat % 256 := by
  unfold lo; rw [BitVec.toNat_ofNat]; omega
theorem steps_even (j : Nat) : ∀ c : BitVec 32, c.toNat % 2 ^ j = 0 → (steps j c).toNat = c.toNat / 2 ^ j := by
  induction j with
  | zero => intro c _; simp [steps]
  | succ j ih =>
    intro c h
    have hd : c.toNat % 2 ^ j = 0 := Nat.mod_eq_zero_of_dvd (Nat.dvd_trans (Nat.pow_dvd_pow 2 (Nat.le_succ j)) (Nat.dvd_of_mod_eq_zero h))
    have h1 := ih c hd
    have h2 : (steps j c).toNat % 2 = 0 := by
      rw [h1]
      obtain ⟨q, hq⟩ := Nat.dvd_of_mod_eq_zero h
      rw [hq, Nat.pow_succ, Nat.mul_assoc, Nat.mul_div_cancel_left _ (Nat.pow_pos (by omega))]
      omega
    show (step (steps j c)).toNat = _
    rw [step_toNat, if_neg (by omega), Nat.xor_zero, h1, Nat.div_div_eq_div_mul, Nat.pow_succ]
theorem hi_facts (c : BitVec 32) : (c ^^^ lo c).toNat % 256 = 0 ∧ (c ^^^ lo c).toNat / 256 = c.toNat / 256 := by
  rw [BitVec.toNat_xor, lo_toNat]
  constructor
  · have := @Nat.xor_mod_two_pow c.toNat (c.toNat % 256) 8
    rw [show (256 : Nat) = 2 ^ 8 from rfl, this, Nat.mod_mod, Nat.xor_self]
  · have := @Nat.shiftRight_xor_distrib 8 c.toNat (c.toNat % 256)
    rw [Nat.shiftRight_eq_div_pow, Nat.shiftRight_eq_div_pow, Nat.shiftRight_eq_div_pow] at this
    rw [show (256 : Nat) = 2 ^ 8 from rfl, this]
    rw [show c.toNat % 2 ^ 8 / 2 ^ 8 = 0 from Nat.div_eq_of_lt (Nat.mod_lt _ (by decide)), Nat.xor_zero]
/-- Eight steps: those of the low byte, and the other bytes one place down. -/
theorem steps8_split (c : BitVec 32) : steps 8 c = steps 8 (lo c) ^^^ BitVec.ofNat 32 (c.toNat / 256) := by
  have h := hi_facts c
  have e : c = lo c ^^^ (c ^^^ lo c) := by
    rw [BitVec.xor_comm c, ← BitVec.xor_assoc, BitVec.xor_self, BitVec.zero_xor]
  have e2 : steps 8 (c ^^^ lo c) = BitVec.ofNat 32 (c.toNat / 256) := by
    apply BitVec.eq_of_toNat_eq
    rw [steps_even 8 _ h.1, BitVec.toNat_ofNat]
    have := lt32 c
    rw [show (2 : Nat) ^ 8 = 256 from rfl, h.2]
    omega
  conv => lhs; rw [e]
  rw [steps_xor, e2]

/-- The i-th byte of a change. -/
def chg (c : BitVec 32) (i : Nat) : UInt8 := UInt8.ofNat (c.toNat / 256 ^ i % 256)
theorem chg_toNat (c : BitVec 32) (i : Nat) : (chg c i).toNat = c.toNat / 256 ^ i % 256 := by
  unfold chg; rw [UInt8.toNat_ofNat']; omega
abbrev ex (d : UInt8) : BitVec 32 := BitVec.ofNat 32 d.toNat
theorem ex_xor (a d : UInt8) : ex (a ^^^ d) = ex a ^^^ ex d := by
  apply BitVec.eq_of_toNat_eq
  have h1 : a.toNat < 256 := a.toNat_lt
  have h2 : d.toNat < 256 := d.toNat_lt
  have h3 : a.toNat ^^^ d.toNat < 256 := Nat.xor_lt_two_pow (n := 8) h1 h2
  rw [BitVec.toNat_xor, BitVec.toNat_ofNat, BitVec.toNat_ofNat, BitVec.toNat_ofNat, UInt8.toNat_xor]
  rw [Nat.mod_eq_of_lt (by omega), Nat.mod_eq_of_lt (by omega), Nat.mod_eq_of_lt (by omega)]
theorem upd_xor (R D : BitVec 32) (a d : UInt8) : upd (R ^^^ D) (a ^^^ d) = upd R a ^^^ steps 8 (D ^^^ ex d) := by
  unfold upd
  rw [← steps_xor]
  congr 1
  show R ^^^ D ^^^ ex (a ^^^ d) = R ^^^ ex a ^^^ (D ^^^ ex d)
  rw [ex_xor]
  simp only [BitVec.xor_assoc]
  congr 1
  rw [← BitVec.xor_assoc, ← BitVec.xor_assoc, BitVec.xor_comm D]

def diff (c : BitVec 32) : BitVec 32 := steps 8 (steps 8 (steps 8 (steps 8 (ex (chg c 0)) ^^^ ex (chg c 1)) ^^^ ex (chg c 2)) ^^^ ex (chg c 3))
theorem ofNat_lo (n : Nat) (h : n < 4294967296) (i : Nat) (c : BitVec 32) (hn : n = c.toNat / 256 ^ i) : lo (BitVec.ofNat 32 n) = ex (chg c i) := by
  apply BitVec.eq_of_toNat_eq
  rw [lo_toNat, BitVec.toNat_ofNat, BitVec.toNat_ofNat, chg_toNat, ← hn]
  omega
theorem diff_steps (c : BitVec 32) : diff c = steps 32 c := by
  have hc := lt32 c
  have h0 : lo c = ex (chg c 0) := by
    have := ofNat_lo c.toNat hc 0 c (by simp)
    rw [BitVec.ofNat_toNat] at this
    simpa using this
  have s1 := steps8_split c
  rw [h0] at s1
  have key : ∀ (n i : Nat) (D : BitVec 32), n < 4294967296 → n = c.toNat / 256 ^ i → steps 8 (D ^^^ BitVec.ofNat 32 n) = steps 8 (D ^^^ ex (chg c i)) ^^^ BitVec.ofNat 32 (n / 256) := by
    intro n i D hn hi
    rw [steps_xor, steps8_split (BitVec.ofNat 32 n), ofNat_lo n hn i c hi, steps_xor, BitVec.xor_assoc]
    congr 2
    rw [BitVec.toNat_ofNat, Nat.mod_eq_of_lt hn]
  have e32 : steps 32 c = steps 8 (steps 8 (steps 8 (steps 8 c))) := by
    show steps (8 + (8 + (8 + 8))) c = _
    rw [steps_add, steps_add, steps_add]
  unfold diff
  rw [e32, s1, key (c.toNat / 256) 1 _ (by omega) (by simp), key (c.toNat / 256 / 256) 2 _ (by omega) (by rw [Nat.div_div_eq_div_mul]), key (c.toNat / 256 / 256 / 256) 3 _ (by omega) (by rw [Nat.div_div_eq_div_mul, Nat.div_div_eq_div_mul])]
  have hz : c.toNat / 256 / 256 / 256 / 256 = 0 := by omega
  rw [hz]
  simp

theorem crc_flip (p q : List UInt8) (a0 a1 a2 a3 : UInt8) (c : BitVec 32) (hc : c ≠ 0#32) :
    crc (p ++ [a0 ^^^ chg c 0, a1 ^^^ chg c 1, a2 ^^^ chg c 2, a3 ^^^ chg c 3] ++ q) ≠ crc (p ++ [a0, a1, a2, a3] ++ q) := by
  intro h
  have h1 : reg (p ++ [a0 ^^^ chg c 0, a1 ^^^ chg c 1, a2 ^^^ chg c 2, a3 ^^^ chg c 3] ++ q) = reg (p ++ [a0, a1, a2, a3] ++ q) := by
    have := congrArg (fun x => ~~~ x) h
    simpa [crc] using this
  unfold reg at h1
  rw [List.foldl_append, List.foldl_append, List.foldl_append, List.foldl_append] at h1
  have h2 := foldl_upd_inj _ _ _ h1
  obtain ⟨R, hR⟩ : ∃ R, p.foldl upd 0xffffffff#32 = R := ⟨_, rfl⟩
  rw [hR] at h2
  simp only [List.foldl_cons, List.foldl_nil] at h2
  have u0 := upd_xor R 0#32 a0 (chg c 0)
  rw [BitVec.xor_zero, BitVec.zero_xor] at u0
  rw [u0, upd_xor, upd_xor, upd_xor] at h2
  have h3 : diff c = 0#32 := by
    unfold diff
    have := congrArg (fun x => upd (upd (upd (upd R a0) a1) a2) a3 ^^^ x) h2
    rw [← BitVec.xor_assoc, BitVec.xor_self, BitVec.zero_xor] at this
    exact this
  rw [diff_steps] at h3
  exact hc (steps_zero_iff 32 c h3)
end Go.Proofs.Ytehacegpnhclnaa
