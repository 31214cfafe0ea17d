/-
  The reference's Number, by recursion.
-/
import Derived.Test.YtehacegpnhclnaaProg
import Derived.Test.YtehacegpnhclnaaNum
import Derived.Test.YtehacegpnhclnaaSum
import Derived.WalkKit
import Derived.WalkSpells
import Derived.WalkLawsBesides
import Derived.Below
import Derived.Lib.Hide
import Derived.RegionTactic
import Derived.Deep.RegionWith
namespace Go.Proofs.Ytehacegpnhclnaa
open Go.RowKit

abbrev str (l : List UInt8) : Value := .string ⟨l.toArray⟩

/-- string([]byte{c}) -/
theorem conv1 (n : Nat) (h : n < 256) (W : World) (a : Addr) (hc : W.cell? a = some (.int .u8 (n : Int))) :
    (convert 27 9 (.slice (some a) 1 1)).run Try.prog W = .ok (str [UInt8.ofNat n]) W := by
  refine run_convert_bytes_back W _ _ 5 a 1 [UInt8.ofNat n] Try.underlying27 Try.underlying5 Try.underlying9 ?_
  intro j hj
  have : j = 0 := by simpa using hj
  subst this
  have hz : a.add 0 = a := by simp [Addr.add]
  rw [hz, hc]
  simp
  omega

set_option maxRecDepth 100000 in
set_option maxHeartbeats 400000 in
theorem rnumber_small (n : Nat) (h : n < 128) (w : World) :
    Calls Try.prog 22 #[.int .u64 (n : Int)] w fun e w' => e = .returned (str (num n)) ∧ Below w.heap.size w w' := by
  have hcv := conv1 n (by omega)
  have hfin := Lib.hid (num_small h)
  go_enter Try.func22, Try.ntmps22
  go_wp2
  go_ret
  exact ⟨congrArg (fun l => Ending.returned (str l)) hfin.out.symm, (Below.refl _ _).alloc (Nat.le_refl _) _⟩
theorem wrapU64 (n : Int) (h : 0 ≤ n) (k : n < 18446744073709551616) : IntKind.u64.wrap n = n := by rw [IntKind.wrap_u64]; exact Int.emod_eq_of_lt h k
theorem wrapU8 (n : Int) (h : 0 ≤ n) (k : n < 256) : IntKind.u8.wrap n = n := by rw [IntKind.wrap_u8]; exact Int.emod_eq_of_lt h k
theorem str_append (a b : List UInt8) : (⟨a.toArray⟩ : ByteArray) ++ ⟨b.toArray⟩ = ⟨(a ++ b).toArray⟩ := by
  apply ByteArray.ext
  simp [ByteArray.data_append]

/-- What was there is there. -/
theorem keepCells {X W : World} (h : Below X.heap.size X W) : ∀ (a : Addr) (v : Value), X.cell? a = some v → W.cell? a = some v := by
  intro a v hc
  have hb : a.block < X.heap.size := by
    rcases Nat.lt_or_ge a.block X.heap.size with h' | h'
    · exact h'
    · simp [World.cell?, Array.getElem?_eq_none h'] at hc
  exact (h.cell hb).trans hc
theorem bcell {W w1 : World} (hb : Below W.heap.size W w1) : (∀ b o, b < W.heap.size → w1.cell? ⟨b, o, none⟩ = W.cell? ⟨b, o, none⟩) ∧ (∀ b o, b < W.heap.size → w1.frozen? ⟨b, o, none⟩ = W.frozen? ⟨b, o, none⟩) :=
  ⟨fun b o h => hb.cell (p := ⟨b, o, none⟩) h, fun b o h => hb.frozen (p := ⟨b, o, none⟩) h⟩
theorem size_str (l : List UInt8) : (ByteArray.mk l.toArray).size = l.length := by
  show l.toArray.size = _; simp
theorem add_str (a b : List UInt8) (h : a.length + b.length ≤ 9223372036854775807) (W : World) : (Op.stringOp .add ⟨a.toArray⟩ ⟨b.toArray⟩).run Try.prog W = .ok (str (a ++ b)) W := by
  rw [run_string_add_sum W _ _ (by rw [size_str, size_str]; exact h), str_append]
theorem add1 (g q : Nat) (h : (num q).length ≤ 100) (W : World) : (Op.stringOp .add ⟨[UInt8.ofNat g].toArray⟩ ⟨(num q).toArray⟩).run Try.prog W = .ok (str (UInt8.ofNat g :: num q)) W :=
  add_str [UInt8.ofNat g] (num q) (by simp; omega) W

set_option maxRecDepth 100000 in
set_option maxHeartbeats 1000000 in
theorem rnumber_big (n r g q : Nat) (w : World) (hr : Int.tmod (n : Int) 128 = (r : Int)) (hg : IntKind.u64.wrap ((r : Int) + 128) = (g : Int)) (hg8 : IntKind.u8.wrap (g : Int) = (g : Int)) (hq : IntKind.u64.wrap ((n : Int) / 128) = (q : Int)) (hlt : ((n : Int) < 128) = False) (hg2 : g < 256)
    (hqlen : (num q).length ≤ 100) (hfin : num n = UInt8.ofNat g :: num q) (ih : ∀ w, Calls Try.prog 22 #[.int .u64 (q : Int)] w fun e w' => e = .returned (str (num q)) ∧ Below w.heap.size w w') :
    Calls Try.prog 22 #[.int .u64 (n : Int)] w fun e w' => e = .returned (str (num n)) ∧ Below w.heap.size w w' := by
  have hcv := conv1 g hg2
  have hadd := add1 g q hqlen
  rw [← hfin] at hadd
  have IH := Lib.hid ih
  clear ih hfin hg2
  go_enter Try.func22, Try.ntmps22
  go_wp2_with fail
  go_region_with (go_at_call 22; refine (IH.out _).mono ?_; rintro e W2 ⟨rfl, hb⟩; obtain ⟨hk, _⟩ := bcell hb)
  all_goals
    go_wp2
    go_ret
    first
      | exact ⟨rfl, ((Below.refl _ w).alloc (Nat.le_refl _) _).drew.trans (hb.mono (by simp))⟩
      | exact ⟨rfl, ((Below.refl _ w).drew.trans hb).alloc (by have := hb.size; simpa using this) _⟩

/-- The reference's Number returns the number's bytes. -/
theorem rnumber_c (n : Nat) : ∀ (w : World), n < 18446744073709551616 → Calls Try.prog 22 #[.int .u64 (n : Int)] w fun e w' => e = .returned (str (num n)) ∧ Below w.heap.size w w' := by
  induction n using Nat.strongRecOn with
  | _ n ih =>
    intro w hn
    by_cases h : n < 128
    · exact rnumber_small n h w
    · have hq := num_len (n / 128) (by omega)
      refine rnumber_big n (n % 128) (n % 128 + 128) (n / 128) w ?_ ?_ ?_ ?_ ?_ (by omega) (by omega) (num_big (by omega)) (fun w => ih (n / 128) (by omega) w (by omega))
      · rw [Int.tmod_eq_emod_of_nonneg (by omega)]; omega
      · rw [wrapU64 _ (by omega) (by omega)]; omega
      · rw [wrapU8 _ (by omega) (by omega)]
      · rw [wrapU64 _ (by omega) (by omega)]; omega
      · exact eq_false (by omega)
end Go.Proofs.Ytehacegpnhclnaa
