/-
  Plain mathematics of the byte codes: the checksum as steps of a register of 32 bits, numbers as groups, reading them, packs, lists of integers. Imports nothing of the program.
-/
import Derived.Laws.BitsAllLaws
namespace Go.Proofs.Ytehacegpnhclnaa
open Go

/-! ### The checksum -/
def poly : BitVec 32 := 0xedb88320#32
def fb (b : Bool) : BitVec 32 := if b then poly else 0#32
def step (x : BitVec 32) : BitVec 32 := (x >>> 1) ^^^ fb (x.getLsbD 0)
def steps : Nat → BitVec 32 → BitVec 32
  | 0, x => x
  | k + 1, x => step (steps k x)
def upd (r : BitVec 32) (c : UInt8) : BitVec 32 := steps 8 (r ^^^ BitVec.ofNat 32 c.toNat)
def reg (l : List UInt8) : BitVec 32 := l.foldl upd 0xffffffff#32
def crc (l : List UInt8) : BitVec 32 := ~~~ (reg l)

theorem reg_snoc (l : List UInt8) (c : UInt8) : reg (l ++ [c]) = upd (reg l) c := by simp [reg]
theorem take_snoc (l : List UInt8) (k : Nat) (h : k < l.length) : l.take (k + 1) = l.take k ++ [l[k]] := by
  rw [List.take_succ_eq_append_getElem h]

theorem fb_toNat (b : Bool) : (fb b).toNat = if b then 3988292384 else 0 := by cases b <;> rfl

theorem lsb_mod (y : BitVec 32) : y.getLsbD 0 = decide (y.toNat % 2 = 1) := by
  rw [BitVec.getLsbD, Nat.testBit_zero]

theorem step_toNat (y : BitVec 32) : (step y).toNat = (y.toNat / 2) ^^^ (if y.toNat % 2 = 1 then 3988292384 else 0) := by
  unfold step
  rw [BitVec.toNat_xor, BitVec.toNat_ushiftRight, fb_toNat, lsb_mod, Nat.shiftRight_eq_div_pow]
  simp

theorem lt32 (y : BitVec 32) : y.toNat < 4294967296 := y.isLt

/-- One step as the program computes it: a mask of all ones or all zeros. -/
theorem step_int (y : BitVec 32) : bits .xor .u32 ((y.toNat : Int) / 2) (bits .and .u32 3988292384 (-bits .and .u32 (y.toNat : Int) 1 % 4294967296)) = ((step y).toNat : Int) := by
  have hl := lt32 y
  have h1 : bits .and .u32 (y.toNat : Int) 1 = ((y.toNat % 2 : Nat) : Int) := by
    have := u32_and_nat y.toNat 1 hl (by decide)
    rw [Nat.and_one_is_mod] at this
    exact this
  have hd : (y.toNat : Int) / 2 = ((y.toNat / 2 : Nat) : Int) := by omega
  rw [h1, hd, step_toNat]
  rcases Nat.mod_two_eq_zero_or_one y.toNat with h | h
  · have e : (-((y.toNat % 2 : Nat) : Int) % 4294967296) = ((0 : Nat) : Int) := by rw [h]; rfl
    have e2 : bits .and .u32 (3988292384 : Int) ((0 : Nat) : Int) = ((0 : Nat) : Int) := by
      have := u32_and_nat 3988292384 0 (by decide) (by decide)
      simpa using this
    rw [e, e2, if_neg (by omega)]
    exact u32_xor_nat _ _ (by omega) (by decide)
  · have e : (-((y.toNat % 2 : Nat) : Int) % 4294967296) = ((4294967295 : Nat) : Int) := by rw [h]; rfl
    have e2 : bits .and .u32 (3988292384 : Int) ((4294967295 : Nat) : Int) = ((3988292384 : Nat) : Int) := by
      have := u32_and_nat 3988292384 4294967295 (by decide) (by decide)
      exact this
    rw [e, e2, if_pos h]
    exact u32_xor_nat _ _ (by omega) (by decide)

/-- One step as the reference computes it. -/
theorem step_odd (y : BitVec 32) (h : y.toNat % 2 = 1) : bits .xor .u32 ((y.toNat : Int) / 2) 3988292384 = ((step y).toNat : Int) := by
  have hl := lt32 y
  have hd : (y.toNat : Int) / 2 = ((y.toNat / 2 : Nat) : Int) := by omega
  rw [hd, step_toNat, if_pos h]
  exact u32_xor_nat _ _ (by omega) (by decide)
theorem step_even (y : BitVec 32) (h : y.toNat % 2 = 0) : (y.toNat : Int) / 2 = ((step y).toNat : Int) := by
  rw [step_toNat, if_neg (by omega)]; simp

theorem xor_byte (r : BitVec 32) (c : UInt8) : bits .xor .u32 (r.toNat : Int) (c.toNat : Int) = (((r ^^^ BitVec.ofNat 32 c.toNat).toNat : Nat) : Int) := by
  have hc : c.toNat < 256 := c.toNat_lt
  rw [u32_xor_nat _ _ (lt32 r) (by omega), BitVec.toNat_xor, BitVec.toNat_ofNat, Nat.mod_eq_of_lt (by omega)]

theorem xor_byte_m (r : BitVec 32) (c : UInt8) : bits .xor .u32 (r.toNat : Int) ((c.toNat : Int) % 4294967296) = (((r ^^^ BitVec.ofNat 32 c.toNat).toNat : Nat) : Int) := by
  have hc : c.toNat < 256 := c.toNat_lt
  rw [show ((c.toNat : Int) % 4294967296) = (c.toNat : Int) from by omega, xor_byte]
theorem not_int (r : BitVec 32) : bits .xor .u32 IntKind.u32.max (r.toNat : Int) = ((~~~ r).toNat : Int) := by
  have hm : IntKind.u32.max = ((4294967295 : Nat) : Int) := by decide +kernel
  have h := u32_xor_nat 4294967295 r.toNat (by decide) (lt32 r)
  rw [hm, h]
  have e : ~~~ r = 4294967295#32 ^^^ r := by
    have ha : 4294967295#32 = BitVec.allOnes 32 := by decide
    rw [ha, BitVec.allOnes_xor]
  rw [e, BitVec.toNat_xor]; rfl
theorem upd_def (r : BitVec 32) (c : UInt8) : steps 8 (r ^^^ BitVec.ofNat 32 c.toNat) = upd r c := rfl
theorem not_toNat (r : BitVec 32) : (((~~~ r).toNat : Nat) : Int) = 4294967295 - (r.toNat : Int) := by
  have := lt32 r
  rw [BitVec.toNat_not]; omega

/-! #### The checksum's steps are linear and one to one -/
theorem fb_xor (a b : Bool) : fb (a ^^ b) = fb a ^^^ fb b := by cases a <;> cases b <;> simp [fb]
theorem step_xor (x y : BitVec 32) : step (x ^^^ y) = step x ^^^ step y := by
  unfold step
  rw [BitVec.getLsbD_xor, fb_xor]
  have h : (x ^^^ y) >>> 1 = x >>> 1 ^^^ y >>> 1 := by
    apply BitVec.eq_of_getLsbD_eq; intro i _; simp
  rw [h]
  simp only [BitVec.xor_assoc]
  congr 1
  rw [← BitVec.xor_assoc, ← BitVec.xor_assoc, BitVec.xor_comm (y >>> 1)]
theorem steps_xor (k : Nat) (x y : BitVec 32) : steps k (x ^^^ y) = steps k x ^^^ steps k y := by
  induction k with
  | zero => rfl
  | succ k ih => simp only [steps, ih, step_xor]
theorem steps_add (a b : Nat) (x : BitVec 32) : steps (a + b) x = steps b (steps a x) := by
  induction b with
  | zero => rfl
  | succ b ih => rw [← Nat.add_assoc]; simp only [steps, ih]
theorem step_zero_iff (x : BitVec 32) (h : step x = 0#32) : x = 0#32 := by
  have ht : (step x).toNat = 0 := by rw [h]; rfl
  have hx := lt32 x
  by_cases ho : x.toNat % 2 = 1
  · exfalso
    have hb : (step x).getLsbD 31 = true := by
      unfold step
      have : x.getLsbD 0 = true := by rw [lsb_mod]; simpa using ho
      rw [this, BitVec.getLsbD_xor]
      have h1 : (x >>> 1).getLsbD 31 = false := by
        rw [BitVec.getLsbD_ushiftRight]; exact BitVec.getLsbD_of_ge _ _ (by omega)
      rw [h1]; decide
    rw [h] at hb; simp at hb
  · rw [step_toNat, if_neg ho, Nat.xor_zero] at ht
    apply BitVec.eq_of_toNat_eq
    show x.toNat = 0
    omega
theorem steps_zero_iff (k : Nat) (x : BitVec 32) (h : steps k x = 0#32) : x = 0#32 := by
  induction k with
  | zero => exact h
  | succ k ih => exact ih (step_zero_iff _ h)
theorem steps_inj (k : Nat) (x y : BitVec 32) (h : steps k x = steps k y) : x = y := by
  have h0 : steps k (x ^^^ y) = 0#32 := by rw [steps_xor, h, BitVec.xor_self]
  have := steps_zero_iff k _ h0
  have e : x ^^^ y ^^^ y = 0#32 ^^^ y := by rw [this]
  rw [BitVec.xor_assoc, BitVec.xor_self, BitVec.xor_zero, BitVec.zero_xor] at e
  exact e

theorem foldl_upd_inj (l : List UInt8) (x y : BitVec 32) (h : l.foldl upd x = l.foldl upd y) : x = y := by
  induction l generalizing x y with
  | nil => exact h
  | cons c l ih =>
    have := steps_inj 8 _ _ (ih _ _ h)
    have e : x ^^^ BitVec.ofNat 32 c.toNat ^^^ BitVec.ofNat 32 c.toNat = y ^^^ BitVec.ofNat 32 c.toNat ^^^ BitVec.ofNat 32 c.toNat := by rw [this]
    simpa [BitVec.xor_assoc] using e

end Go.Proofs.Ytehacegpnhclnaa
