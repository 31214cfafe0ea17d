/-
  The walk of CodecFlips.
-/
import Derived.Test.YtehacegpnhclnaaBytes
import Derived.Test.YtehacegpnhclnaaFlipM
import Derived.RegionTactic
namespace Go.Proofs.Ytehacegpnhclnaa
open Go.RowKit Go.Shelf

/-- The bytes after so many changes from place k on. -/
def flips (X : List UInt8) (k : Nat) (c : BitVec 32) : Nat → List UInt8
  | 0 => X
  | i + 1 => (flips X k c i).modify (k + i) (fun a => a ^^^ chg c i)
theorem flips_len (X : List UInt8) (k : Nat) (c : BitVec 32) (i : Nat) : (flips X k c i).length = X.length := by
  induction i with
  | zero => rfl
  | succ i ih => simp [flips, ih]
theorem flips_step (X : List UInt8) (k : Nat) (c : BitVec 32) (i : Nat) (h : k + i < (flips X k c i).length) : (flips X k c i).set (k + i) ((flips X k c i)[k + i] ^^^ chg c i) = flips X k c (i + 1) := by
  show _ = (flips X k c i).modify (k + i) _
  rw [List.modify_eq_set]
  simp [h]
theorem flips_fact (X : List UInt8) (k : Nat) (c : BitVec 32) (i : Nat) (h : k + i < X.length) {w : World} {B : Nat} (hb : BytesAt w B (flips X k c i)) :
    ∃ a : UInt8, w.cell? ⟨B, k + i, none⟩ = some (.int .u8 (a.toNat : Int)) ∧ w.frozen? ⟨B, k + i, none⟩ = false ∧ BytesAt (w.setCell ⟨B, k + i, none⟩ (.int .u8 ((a ^^^ chg c i).toNat : Int))) B (flips X k c (i + 1)) := by
  have hl : k + i < (flips X k c i).length := by rw [flips_len]; exact h
  refine ⟨(flips X k c i)[k + i], hb.cell _ hl, hb.frozen _ hl, ?_⟩
  have := hb.set (k + i) ((flips X k c i)[k + i] ^^^ chg c i)
  rwa [flips_step] at this
theorem xor8 (a : UInt8) (c : BitVec 32) (j : Nat) : bits .xor .u8 (a.toNat : Int) ((c.toNat : Int) / 2 ^ (8 * j) % 256) = ((a ^^^ chg c j).toNat : Int) := by
  have h1 : (c.toNat : Int) / 2 ^ (8 * j) % 256 = ((chg c j).toNat : Int) := by
    rw [chg_toNat, show (256 : Nat) ^ j = 2 ^ (8 * j) from by rw [Nat.pow_mul]]
    simp
  rw [h1, u8_xor_nat _ _ (u8_lt a) (u8_lt _), UInt8.toNat_xor]
theorem modify_app (p l : List UInt8) (i : Nat) (f : UInt8 → UInt8) : (p ++ l).modify (p.length + i) f = p ++ l.modify i f := by
  induction p with
  | nil => simp
  | cons a p ih =>
    rw [List.cons_append, List.length_cons, show p.length + 1 + i = p.length + i + 1 from by omega, List.modify_succ_cons, ih]
    rfl
theorem flips_four (p q : List UInt8) (a0 a1 a2 a3 : UInt8) (c : BitVec 32) : flips (p ++ [a0, a1, a2, a3] ++ q) p.length c 4 = p ++ [a0 ^^^ chg c 0, a1 ^^^ chg c 1, a2 ^^^ chg c 2, a3 ^^^ chg c 3] ++ q := by
  have m : ∀ (l : List UInt8) (i : Nat) (f : UInt8 → UInt8), (p ++ l).modify (p.length + i) f = p ++ l.modify i f := by
    intro l i f
    exact modify_app p l i f
  simp only [flips, List.append_assoc, m]
  rfl
theorem four_of (X : List UInt8) (k : Nat) (h : k + 4 ≤ X.length) : ∃ p q a0 a1 a2 a3, X = p ++ [a0, a1, a2, a3] ++ q ∧ p.length = k := by
  refine ⟨X.take k, X.drop (k + 4), X[k], X[k + 1], X[k + 2], X[k + 3], ?_, by simp; omega⟩
  conv => lhs; rw [← List.take_append_drop k X]
  rw [List.append_assoc]
  congr 1
  rw [List.drop_eq_getElem_cons (by omega), List.drop_eq_getElem_cons (by omega), List.drop_eq_getElem_cons (by omega), List.drop_eq_getElem_cons (by omega)]
  rfl
theorem flips_ne (X : List UInt8) (k : Nat) (c : BitVec 32) (h : k + 4 ≤ X.length) (hc : c ≠ 0#32) : crc (flips X k c 4) ≠ crc X := by
  obtain ⟨p, q, a0, a1, a2, a3, rfl, rfl⟩ := four_of X k h
  rw [flips_four]
  exact crc_flip p q a0 a1 a2 a3 c hc

set_option maxRecDepth 100000 in
set_option maxHeartbeats 2000000 in
theorem walk_CodecFlips (l : List UInt8) (hl : l.length ≤ maxLen) (at_ : Int) (_hn : Fits at_) (c : BitVec 32) (w : World) :
    Calls Try.prog 4 #[str l, .int .i64 at_, .int .u32 (c.toNat : Int)] w fun e w' => e = .returned (.bool true) ∧ Below w.heap.size w w' := by
  unfold maxLen at hl
  have hsz := size_str l
  have hex : (ByteArray.mk l.toArray).extract 0 (min (l.length : Int) 300).toNat = ⟨(l.take 300).toArray⟩ := ext_min l 300
  have hlt : (l.take 300).length ≤ 300 := by rw [List.length_take]; omega
  have H1 := Lib.hid (fun W => sanity_c W)
  have hadd := add_str (l.take 300) [102, 111, 117, 114] (by simp; omega)
  obtain ⟨X, hX⟩ : ∃ X, l.take 300 ++ [102, 111, 117, 114] = X := ⟨_, rfl⟩
  obtain ⟨t, ht⟩ : ∃ t, l.take 300 = t := ⟨_, rfl⟩
  have hXl : X.length = t.length + 4 := by rw [← hX, ← ht]; simp
  rw [hX] at hadd
  rw [ht] at hadd hex hlt
  clear hX ht
  by_cases hc : c = 0#32
  · subst hc
    go_enter Try.func4, Try.ntmps4
    go_wp2_with fail
    refine (H1.out _).mono ?_
    rintro e w1 ⟨rfl, hb1⟩
    go_wp2_with fail
    go_ret
    exact ⟨rfl, hb1⟩
  · have hcq : ((c.toNat : Int) == 0) = false := by
      rw [beq_eq_false_iff_ne]
      intro h
      exact hc (BitVec.eq_of_toNat_eq (by show c.toNat = 0; omega))
    have hszX := size_str X
    have hk0 := Int.emod_nonneg at_ (show ((t.length : Int) + 4 - 3) ≠ 0 by omega)
    have hk1 := Int.emod_lt_of_pos at_ (show (0 : Int) < (t.length : Int) + 4 - 3 by omega)
    have H2 := Lib.hid (fun W => mod_t at_ ((t.length : Int) + 4 - 3) W (by omega) (by omega))
    obtain ⟨k, hk⟩ : ∃ k : Nat, at_ % ((t.length : Int) + 4 - 3) = (k : Int) := ⟨(at_ % ((t.length : Int) + 4 - 3)).toNat, by omega⟩
    rw [hk] at hk0 hk1 H2
    have hkt : k ≤ t.length := by omega
    clear hk0 hk1
    have Hne := Lib.hid (flips_ne X k c (by omega) hc)
    have HXl := Lib.hid hXl
    rw [hXl] at hszX
    clear hk hc hXl
    go_enter Try.func4, Try.ntmps4
    go_wp2_with fail
    refine (H1.out _).mono ?_
    rintro e w1 ⟨rfl, hb1⟩
    go_wp2_with fail
    refine (H2.out _).mono ?_
    rintro e w' ⟨rfl, rfl⟩
    obtain ⟨cap, w2, hrun, hbt, hb2⟩ := bytes_new X w1
    rw [HXl.out] at hrun
    have Hbt := Lib.hid hbt
    have hw1 := below_tr hb1 hb2
    have Hw1 := Lib.hid hb1.size
    clear hbt hb2 hb1 H1 H2
    go_wp2_with fail
    go_loopw [11] (fun i wr => ∃ j : Nat, j ≤ 4 ∧ i = .int .i64 j ∧ BytesAt wr w1.heap.size (flips X k c j) ∧ Below w.heap.size w wr) (fun i _ => 4 - (intOf i).toNat)
    case atStart => exact ⟨0, by omega, rfl, Hbt.out, hw1⟩
    case round =>
      obtain ⟨j, hj, rfl, hbr, hbel⟩ := hrel
      clear hw1 Hbt
      by_cases hj4 : j < 4
      · obtain ⟨a, hcell, hfro, hbs⟩ := flips_fact X k c j (by have := HXl.out; omega) hbr
        have Hbs := Lib.hid hbs
        have i1 : (0 : Int) ≤ (k : Int) + (j : Int) := by omega
        have i2 : (k : Int) + (j : Int) < (t.length : Int) + 4 := by omega
        have Hbel := Lib.hid hbel
        clear hbr hbel hbs
        go_wp2_with fail
        go_region
        rw [xor8]
        go_wp2
        go_roundw
        case rel => exact ⟨j + 1, by omega, by go_num, Hbs.out.drew, (Hbel.out.setCell (p := ⟨w1.heap.size, k + j, none⟩) Hw1.out _).drew⟩
        case measure => simp [intOf]; omega
      · have hj5 : j = 4 := by omega
        subst hj5
        have hback := hbr.str cap
        have hfl := flips_len X k c 4
        rw [hfl, HXl.out] at hback
        have hXX := HXl.out
        have S1 := Lib.hid (fun W => sum_str (flips X k c 4) W (by omega))
        have S2 := Lib.hid (fun W => sum_str X W (by omega))
        have hq : (((crc (flips X k c 4)).toNat : Int) != ((crc X).toNat : Int)) = true := by
          rw [bne_iff_ne]
          intro h
          exact Hne.out (BitVec.eq_of_toNat_eq (by omega))
        have Hbel := Lib.hid hbel
        clear hbr hbel hfl hXX
        go_wp2_with fail
        refine (S1.out _).mono ?_
        rintro e w' ⟨rfl, rfl⟩
        go_wp2_with fail
        refine (S2.out _).mono ?_
        rintro e w' ⟨rfl, rfl⟩
        clear S1 S2
        go_wp2
        go_ret
        exact ⟨rfl, Hbel.out⟩
end Go.Proofs.Ytehacegpnhclnaa
