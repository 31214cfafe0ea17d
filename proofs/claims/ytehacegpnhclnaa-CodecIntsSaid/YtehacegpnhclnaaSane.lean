/-
  The examples of the chapter hold: sanity returns true.
-/
import Derived.Test.YtehacegpnhclnaaRefr
namespace Go.Proofs.Ytehacegpnhclnaa
open Go.RowKit Go.Shelf

theorem tupleU {k : IntKind} {a b c a' b' c' : Int} {w : World} {f : FuncId} {args : Array Value} {k1 k2 : IntKind} (h : Calls Try.prog f args w fun e w' => e = .returned (.tuple #[.int k a, .int k1 b, .int k2 c]) ∧ w = w') (h1 : a = a') (h2 : b = b') (h3 : c = c') :
    Calls Try.prog f args w fun e w' => e = .returned (.tuple #[.int k a', .int k1 b', .int k2 c']) ∧ w = w' := by subst h1 h2 h3; exact h

theorem rn1 (w : World) : Calls Try.prog 21 #[.string ⟨#[172, 2, 255]⟩] w fun e w' => e = .returned (.tuple #[.int .u64 300, .int .i64 2, .int .i64 0]) ∧ w = w' :=
  tupleU (readNumber_c ⟨#[172, 2, 255]⟩ w (by decide)) (by decide) (by decide) (by decide)
theorem rn2 (w : World) : Calls Try.prog 21 #[.string ⟨#[172]⟩] w fun e w' => e = .returned (.tuple #[.int .u64 0, .int .i64 0, .int .i64 10]) ∧ w = w' :=
  tupleU (readNumber_c ⟨#[172]⟩ w (by decide)) (by decide) (by decide) (by decide)
theorem rn3 (w : World) : Calls Try.prog 21 #[.string ⟨#[128, 0]⟩] w fun e w' => e = .returned (.tuple #[.int .u64 0, .int .i64 0, .int .i64 11]) ∧ w = w' :=
  tupleU (readNumber_c ⟨#[128, 0]⟩ w (by decide)) (by decide) (by decide) (by decide)
theorem un1 (w : World) : Calls Try.prog 30 #[.string ⟨#[1, 3, 97]⟩] w fun e w' => (∃ v, e = .returned (.tuple #[v, .int .i64 10])) ∧ Below w.heap.size w w' :=
  (unpack_c [1, 3, 97] w (by decide)).mono fun _ _ ⟨v, he, _, hb⟩ => ⟨⟨v, by rw [he, show (unpack [1, 3, 97]).1 = 10 from by decide]; rfl⟩, hb⟩
theorem un2 (w : World) : Calls Try.prog 30 #[.string ⟨#[0, 97]⟩] w fun e w' => (∃ v, e = .returned (.tuple #[v, .int .i64 11])) ∧ Below w.heap.size w w' :=
  (unpack_c [0, 97] w (by decide)).mono fun _ _ ⟨v, he, _, hb⟩ => ⟨⟨v, by rw [he, show (unpack [0, 97]).1 = 11 from by decide]; rfl⟩, hb⟩
theorem su1 (w : World) : Calls Try.prog 16 #[.string ⟨#[49, 50, 51, 52, 53, 54, 55, 56, 57]⟩] w fun e w' => e = .returned (.int .u32 3421780262) ∧ w = w' :=
  (sum_c ⟨#[49, 50, 51, 52, 53, 54, 55, 56, 57]⟩ w (by decide)).mono fun _ _ ⟨he, hw⟩ => ⟨by rw [he, show (crc (ByteArray.mk #[49, 50, 51, 52, 53, 54, 55, 56, 57]).data.toList).toNat = 3421780262 from by decide +kernel]; rfl, hw⟩
theorem nu1 (w : World) : Calls Try.prog 20 #[.int .u64 300] w fun e w' => e = .returned (.string ⟨#[172, 2]⟩) ∧ Below w.heap.size w w' :=
  (number_c 300 w (by decide)).mono fun _ _ ⟨he, hw⟩ => ⟨by rw [he, show num 300 = [172, 2] from by rw [num_big (by decide), num_small (by decide)]; decide], hw⟩
theorem sg1 (w : World) : Calls Try.prog 24 #[.int .i64 (-3)] w fun e w' => e = .returned (.int .u64 5) ∧ w = w' :=
  (signed_c (-3) w (by decide) (by decide)).mono fun _ _ ⟨he, hw⟩ => ⟨by rw [he, show sg (-3) = 5 from by decide], hw⟩
theorem us1 (w : World) : Calls Try.prog 26 #[.int .u64 5] w fun e w' => e = .returned (.int .i64 (-3)) ∧ w = w' :=
  (unsigned_c 5 w (by decide) (by decide)).mono fun _ _ ⟨he, hw⟩ => ⟨by rw [he, show us 5 = -3 from by decide], hw⟩

theorem below_tr {a b c : World} (h : Below a.heap.size a b) (k : Below b.heap.size b c) : Below a.heap.size a c := h.trans (k.mono h.size)
theorem below_new (w : World) (o : Obj) : Below w.heap.size w (w.alloc o) := (Below.refl _ w).alloc (Nat.le_refl _) o
/-- A new row reads as the list that was laid in it. -/
theorem reads_new {α : Type} (enc : α → Value) (w : World) (l : List α) (t : TypeId) (cs : Array Value) (hcs : cs.toList = l.map enc) (hl : l.length ≤ maxLen) (n c : Nat) (hn : n = l.length) : Reads enc (w.alloc (.cells cs t)) (.slice (some ⟨w.heap.size, 0, none⟩) n c) l := by
  subst hn
  refine .inr ⟨w.heap.size, 0, c, rfl, hl, ?_, by simp⟩
  intro i hi
  have h1 : cs[i]? = some (enc l[i]) := by
    rw [← Array.getElem?_toList, hcs]; simp [hi]
  have hh := World.alloc_heap_new w (.cells cs t)
  simp only [World.cell?, hh, Nat.zero_add]
  exact h1

theorem pk1 (w : World) : Calls Try.prog 29 #[.slice (some ⟨w.heap.size, 0, none⟩) 2 2] (w.alloc (.cells #[.string ⟨#[97, 98]⟩, .string ⟨#[]⟩] 9)) fun e w' => e = .returned (.string ⟨#[2, 2, 97, 98, 0]⟩) ∧ Below w.heap.size w w' := by
  have hp : pack [[97, 98], []] = [2, 2, 97, 98, 0] := by
    unfold pack codeL
    simp only [List.length_cons, List.length_nil, List.flatMap_cons, List.flatMap_nil, strB, Nat.reduceAdd]
    rw [num_small (by decide), num_small (by decide)]
    decide
  exact (pack_c _ [[97, 98], []] _ (reads_new encS w [[97, 98], []] _ _ rfl (by decide) 2 2 rfl) (by rw [hp]; decide)).mono fun _ _ ⟨he, hw⟩ => ⟨by rw [he, hp], below_tr (below_new w _) hw⟩
theorem in1 (w : World) : Calls Try.prog 34 #[.slice (some ⟨w.heap.size, 0, none⟩) 3 3] (w.alloc (.cells #[.int .i64 1, .int .i64 (-1), .int .i64 64] 3)) fun e w' => e = .returned (.string ⟨#[3, 2, 1, 128, 1]⟩) ∧ Below w.heap.size w w' := by
  have hp : intsL [1, -1, 64] = [3, 2, 1, 128, 1] := by
    unfold intsL codeL intB
    have h1 : (sg 1).toNat = 2 := by decide
    have h2 : (sg (-1)).toNat = 1 := by decide
    have h3 : (sg 64).toNat = 128 := by decide
    simp only [List.length_cons, List.length_nil, List.flatMap_cons, List.flatMap_nil, Nat.reduceAdd, h1, h2, h3]
    rw [num_small (by decide), num_small (by decide), num_small (by decide), num_big (by decide), num_small (by decide)]
    decide
  exact (ints_c _ [1, -1, 64] _ (reads_new encI w [1, -1, 64] _ _ rfl (by decide) 3 3 rfl) (by intro n hn; simp at hn; unfold Fits; omega) (by rw [hp]; decide)).mono fun _ _ ⟨he, hw⟩ => ⟨by rw [he, hp], below_tr (below_new w _) hw⟩

set_option maxRecDepth 100000 in
set_option maxHeartbeats 2000000 in
theorem sanity_c (w : World) :
    Calls Try.prog 15 #[] w fun e w' => e = .returned (.bool true) ∧ Below w.heap.size w w' := by
  go_enter Try.func15, Try.ntmps15
  go_wp2_with fail
  refine (rn1 _).mono ?_
  rintro e w' ⟨rfl, rfl⟩
  go_wp2_with fail
  refine (rn2 _).mono ?_
  rintro e w' ⟨rfl, rfl⟩
  go_wp2_with fail
  refine (rn3 _).mono ?_
  rintro e w' ⟨rfl, rfl⟩
  go_wp2_with fail
  refine (un1 _).mono ?_
  rintro e w1 ⟨⟨v1, rfl⟩, hb1⟩
  go_wp2_with fail
  refine (un2 _).mono ?_
  rintro e w2 ⟨⟨v2, rfl⟩, hb2⟩
  go_wp2_with fail
  refine (su1 _).mono ?_
  rintro e w' ⟨rfl, rfl⟩
  go_wp2_with fail
  refine (nu1 _).mono ?_
  rintro e w3 ⟨rfl, hb3⟩
  go_wp2_with fail
  refine (sg1 _).mono ?_
  rintro e w' ⟨rfl, rfl⟩
  go_wp2_with fail
  refine (us1 _).mono ?_
  rintro e w' ⟨rfl, rfl⟩
  go_wp2_with fail
  refine (pk1 _).mono ?_
  rintro e w4 ⟨rfl, hb4⟩
  go_wp2_with fail
  refine (in1 _).mono ?_
  rintro e w5 ⟨rfl, hb5⟩
  have Hb := Lib.hid (below_tr (below_tr (below_tr (below_tr hb1 hb2) hb3) hb4) hb5)
  clear hb1 hb2 hb3 hb4 hb5
  go_wp2
  go_ret
  exact ⟨rfl, Hb.out⟩
end Go.Proofs.Ytehacegpnhclnaa
