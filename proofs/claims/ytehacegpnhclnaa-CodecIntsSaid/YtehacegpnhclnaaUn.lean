/-
  How long packs are; unpacks and readsInts: the program and the reference agree.
-/
import Derived.Test.YtehacegpnhclnaaSome
namespace Go.Proofs.Ytehacegpnhclnaa
open Go.RowKit Go.Shelf

theorem flatMap_len {α : Type} (f : α → List UInt8) (b : Nat) (l : List α) (h : ∀ x ∈ l, (f x).length ≤ b) : (l.flatMap f).length ≤ l.length * b := by
  induction l with
  | nil => simp
  | cons a l ih =>
    have h1 := h a (List.mem_cons_self ..)
    have h2 := ih (fun x hx => h x (List.mem_cons_of_mem _ hx))
    rw [List.flatMap_cons, List.length_append, List.length_cons, Nat.succ_mul]
    omega
theorem codeL_len {α : Type} (f : α → List UInt8) (b : Nat) (l : List α) (h : ∀ x ∈ l, (f x).length ≤ b) (hn : l.length < 18446744073709551616) : (codeL f l).length ≤ 10 + l.length * b := by
  have h1 := num_len _ hn
  have h2 := flatMap_len f b l h
  unfold codeL
  rw [List.length_append]
  omega
theorem pack_len (m : Nat) (hm : m < 18446744073709551616) (l : List (List UInt8)) (h : ∀ x ∈ l, x.length ≤ m) (hn : l.length < 18446744073709551616) : (pack l).length ≤ 10 + l.length * (10 + m) := by
  refine codeL_len strB (10 + m) l ?_ hn
  intro x hx
  have h1 := h x hx
  have h2 := num_len x.length (by omega)
  unfold strB
  rw [List.length_append]
  omega
theorem ints_len (l : List Int) (h : ∀ x ∈ l, Fits x) (hn : l.length < 18446744073709551616) : (intsL l).length ≤ 10 + l.length * 10 := by
  refine codeL_len intB 10 l ?_ hn
  intro x hx
  have h1 := h x hx
  have h2 := sg_range x h1.1 h1.2
  exact num_len _ (by omega)
/-- What 'some' hands back packs shortly, and is read back. -/
theorem some_pack {out : List (List UInt8)} (h : out.length ≤ 41) (hs : ∀ s ∈ out, s.length ≤ 700) : (pack out).length ≤ 29120 ∧ unpack (pack out) = (0, out) := by
  have h1 := pack_len 700 (by omega) out hs (by omega)
  refine ⟨?_, unpack_pack out (fun x hx => Nat.lt_of_le_of_lt (hs x hx) (by omega)) (by omega)⟩
  have : out.length * (10 + 700) ≤ 41 * 710 := Nat.mul_le_mul h (Nat.le_refl _)
  omega

theorem strings_eq {va vb : Value} {l : List (List UInt8)} {w : World} (ha : Reads encS w va l) (hb : Reads encS w vb l) :
    Calls Try.prog 31 #[va, vb] w fun e w' => e = .returned (.bool true) ∧ Below w.heap.size w w' := by
  have h := strings_c va vb l l w ha hb
  rwa [decide_eq_true (rfl : l = l)] at h
theorem same_eq {va vb : Value} {l : List Int} {w : World} (ha : Reads encI w va l) (hb : Reads encI w vb l) :
    Calls Try.prog 36 #[va, vb] w fun e w' => e = .returned (.bool true) ∧ Below w.heap.size w w' := by
  have h := same_c va vb l l w ha hb
  rwa [decide_eq_true (rfl : l = l)] at h

set_option maxRecDepth 100000 in
set_option maxHeartbeats 400000 in
theorem unpacks_c (s : List UInt8) (w : World) (hs : s.length ≤ 1099511627776) :
    Calls Try.prog 33 #[str s] w fun e w' => e = .returned (.bool true) ∧ Below w.heap.size w w' := by
  have H1 := Lib.hid (unpack_c s w hs)
  have H2 := Lib.hid (fun W => runpack_c s W hs)
  obtain ⟨e, l, hx⟩ : ∃ e l, unpack s = (e, l) := ⟨_, _, rfl⟩
  rw [hx] at H1 H2
  clear hx hs
  go_enter Try.func33, Try.ntmps33
  go_wp2_with fail
  refine H1.out.mono ?_
  clear H1
  rintro e1 w1 ⟨va, rfl, hown1, hb1⟩
  have hra := reads_of_own hown1
  clear hown1
  go_wp2_with fail
  refine (H2.out w1).mono ?_
  clear H2
  rintro e2 w2 ⟨vb, rfl, hown2, hb2⟩
  have hrb := reads_of_own hown2
  have hra2 := hra.below hb2 rfl
  have H3 := Lib.hid (strings_eq hra2 hrb)
  have Hb2 := Lib.hid (below_tr hb1 hb2)
  clear hown2 hra hrb hra2 hb1 hb2
  go_wp2_with fail
  refine H3.out.mono ?_
  clear H3
  rintro e3 w3 ⟨rfl, hb3⟩
  have Hb3 := Lib.hid (below_tr Hb2.out hb3)
  clear hb3 Hb2
  go_wp2
  go_ret
  exact ⟨rfl, Hb3.out⟩
set_option maxRecDepth 100000 in
set_option maxHeartbeats 400000 in
theorem readsInts_c (s : List UInt8) (w : World) (hs : s.length ≤ 1099511627776) :
    Calls Try.prog 38 #[str s] w fun e w' => e = .returned (.bool true) ∧ Below w.heap.size w w' := by
  have H1 := Lib.hid (readInts_c s w hs)
  have H2 := Lib.hid (fun W => rreadInts_c s W hs)
  obtain ⟨e, l, hx⟩ : ∃ e l, readL takeI s = (e, l) := ⟨_, _, rfl⟩
  rw [hx] at H1 H2
  clear hx hs
  go_enter Try.func38, Try.ntmps38
  go_wp2_with fail
  refine H1.out.mono ?_
  clear H1
  rintro e1 w1 ⟨va, rfl, hown1, hb1⟩
  have hra := reads_of_own hown1
  clear hown1
  go_wp2_with fail
  refine (H2.out w1).mono ?_
  clear H2
  rintro e2 w2 ⟨vb, rfl, hown2, hb2⟩
  have hrb := reads_of_own hown2
  have hra2 := hra.below hb2 rfl
  have H3 := Lib.hid (same_eq hra2 hrb)
  have Hb2 := Lib.hid (below_tr hb1 hb2)
  clear hown2 hra hrb hra2 hb1 hb2
  go_wp2_with fail
  refine H3.out.mono ?_
  clear H3
  rintro e3 w3 ⟨rfl, hb3⟩
  have Hb3 := Lib.hid (below_tr Hb2.out hb3)
  clear hb3 Hb2
  go_wp2
  go_ret
  exact ⟨rfl, Hb3.out⟩
end Go.Proofs.Ytehacegpnhclnaa
