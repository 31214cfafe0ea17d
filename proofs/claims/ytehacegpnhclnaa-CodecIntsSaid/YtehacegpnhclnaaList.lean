/-
  The two instances of codec.readList, Unpack and ReadInts.
-/
import Derived.Test.YtehacegpnhclnaaReader
import Derived.Maps.AppendAt
import Derived.Maps.Own
namespace Go.Proofs.Ytehacegpnhclnaa
open Go.RowKit Go.Shelf

/-- The elements so far, and what the rest gives. -/
def joinR {α : Type} (acc : List α) (x : Nat × List α) : Nat × List α := if x.1 = 0 then (0, acc ++ x.2) else (x.1, [])
def Inv {α : Type} (t : List UInt8 → Taken α) (s : List UInt8) (acc : List α) (left : Nat) (r : List UInt8) : Prop := readL t s = joinR acc (listF t left r)
theorem inv_start {α : Type} {t : List UInt8 → Taken α} {s : List UInt8} {n k : Nat} (h : readN s = (n, k, 0)) : Inv t s [] n (s.drop k) := by
  unfold Inv readL joinR
  rw [h]
  simp only [if_true, List.nil_append]
  by_cases h0 : (listF t n (s.drop k)).1 = 0
  · rw [if_pos h0]; exact Prod.ext h0 rfl
  · rw [if_neg h0]; exact Prod.ext rfl (listF_zero t n _ h0)
theorem inv_step {α : Type} {t : List UInt8 → Taken α} {s : List UInt8} {acc : List α} {m : Nat} {r r' : List UInt8} {x : α} (h : Inv t s acc (m + 1) r) (ht : t r = (0, x, r')) : Inv t s (acc ++ [x]) m r' := by
  unfold Inv at *
  rw [h]
  unfold joinR
  simp only [listF, ht, if_true]
  by_cases h0 : (listF t m r').1 = 0
  · simp [h0]
  · simp [h0]
theorem inv_err {α : Type} {t : List UInt8 → Taken α} {s : List UInt8} {acc : List α} {m e : Nat} {r r' : List UInt8} {x : α} (h : Inv t s acc (m + 1) r) (ht : t r = (e, x, r')) (he : e ≠ 0) : readL t s = (e, []) := by
  unfold Inv joinR at h
  rw [h]
  simp [listF, ht, he]
theorem inv_end {α : Type} {t : List UInt8 → Taken α} {s : List UInt8} {acc : List α} {r : List UInt8} (h : Inv t s acc 0 r) : readL t s = if r = [] then (0, acc) else (11, []) := by
  unfold Inv joinR at h
  rw [h]
  by_cases hr : r = [] <;> simp [listF, hr]

/-- What a list's reader hands back. -/
def ListPost {α : Type} (enc : α → Value) (e : TypeId) (x : Nat × List α) (w : World) (en : Ending) (w' : World) : Prop :=
  ∃ v, en = .returned (.tuple #[v, .int .i64 (x.1 : Int)]) ∧ w'.ownsRow w.heap.size e 1 v x.2.length (x.2.map enc) ∧ Below w.heap.size w w'
theorem ListPost.mk {α : Type} {enc : α → Value} {e : TypeId} {x : Nat × List α} {w w' : World} {n : Nat} {l : List α} {v : Value} (hx : x = (n, l)) (h : w'.ownsRow w.heap.size e 1 v l.length (l.map enc)) (hb : Below w.heap.size w w') :
    ListPost enc e x w (.returned (.tuple #[v, .int .i64 (n : Int)])) w' := by
  subst hx
  exact ⟨v, rfl, h, hb⟩
theorem ListPost.nil {α : Type} {enc : α → Value} {e : TypeId} {x : Nat × List α} {w w' : World} {n : Nat} (hx : x = (n, [])) (hb : Below w.heap.size w w') :
    ListPost enc e x w (.returned (.tuple #[.slice none 0 0, .int .i64 (n : Int)])) w' :=
  ListPost.mk hx (World.ownsRow_nil _ _ _ _) hb

/-- How many elements a list reader must still take: for a loop's measure. -/
def leftOf (b : Nat) (w : World) : Nat := match w.cell? ⟨b, 1, none⟩ with
  | some (.int _ n) => n.toNat
  | _ => 0
theorem leftOf_eq {w : World} {b : Nat} {r : List UInt8} {left : Nat} (h : RBlock w b r left) : leftOf b w = left := by
  unfold leftOf; rw [h.cell1]; simp

theorem takeS_len {r : List UInt8} {x r' : List UInt8} (h : takeS r = (0, x, r')) : r'.length + 1 ≤ r.length := by
  unfold takeS at h
  split at h
  · rename_i h0
    split at h
    · have h1 := readN_len (l := r) (n := (readN r).1) (k := (readN r).2.1) (Prod.ext rfl (Prod.ext rfl h0))
      simp only [Prod.mk.injEq] at h
      rw [← h.2.2]; simp; omega
    · simp at h
  · rename_i h0
    simp only [Prod.mk.injEq] at h
    exact absurd h.1 h0
theorem takeI_len {r r' : List UInt8} {x : Int} (h : takeI r = (0, x, r')) : r'.length + 1 ≤ r.length := by
  unfold takeI at h
  split at h
  · rename_i h0
    have h1 := readN_len (l := r) (n := (readN r).1) (k := (readN r).2.1) (Prod.ext rfl (Prod.ext rfl h0))
    simp only [Prod.mk.injEq] at h
    rw [← h.2.2]; simp; omega
  · rename_i h0
    simp only [Prod.mk.injEq] at h
    exact absurd h.1 h0

theorem infoS : (Try.prog.info? 9).map (fun i => (i.zero, i.size, i.bytes)) = some (some (.string ⟨#[]⟩), 1, 16) := by kernel_rfl
theorem infoI : (Try.prog.info? 3).map (fun i => (i.zero, i.size, i.bytes)) = some (some (.int .i64 0), 1, 8) := by kernel_rfl

/-- The method of that name, taken of a list reader, is the reader's method f at the same place. -/
def IsMeth (m : String) (f : FuncId) : Prop := ∀ (n b : Nat) (w : World), (method (n + 1) 91 (.pointer (some ⟨b, 0, none⟩)) m).run Try.prog w = .ok (f, .pointer (some ⟨b, 0, none⟩)) w
theorem rblock_new (w : World) (s : List UInt8) : RBlock (w.alloc (.cells #[.string ⟨s.toArray⟩, .int .u64 0] 79)) w.heap.size s 0 := World.alloc_heap_new w _
theorem below_grown_at {a w w' : World} (h : Below a.heap.size a w) (hg : w.grownBy w' (some a.heap.size)) : Below a.heap.size a w' := h.grown hg h.size (fun k e => by cases e; exact Nat.le_refl _)

set_option maxRecDepth 100000 in
set_option maxHeartbeats 1000000 in
theorem readListS_c (mt : String) (hmeth : IsMeth mt 46) (s : List UInt8) (w : World) (hs : s.length ≤ 1099511627776) :
    Calls Try.prog 45 #[str s, .func (.methodOf 91 mt) #[] #[]] w (ListPost encS 9 (readL takeS s) w) := by
  have hb0 := rblock_new w s
  have hw0 := (Below.refl w.heap.size w).alloc (Nat.le_refl _) (.cells #[.string ⟨s.toArray⟩, .int .u64 0] 79)
  obtain ⟨n, k, e, hn⟩ : ∃ n k e, readN s = (n, k, e) := ⟨_, _, _, rfl⟩
  by_cases he : e = 0
  · subst he
    have H0 := Lib.hid (begin_ok w.heap.size s 0 n k _ hb0 (by omega) hn)
    have Hinv := Lib.hid (inv_start (t := takeS) hn)
    have hn64 := (readN_ok hn).1
    have Hw0 := Lib.hid hw0
    clear hb0 hw0 hn
    go_enter Try.func45, Try.ntmps45
    go_wp2_with fail
    refine H0.out.mono ?_
    clear H0
    rintro e w1 ⟨rfl, hg1, hb1⟩
    have hw1 := below_grown_at Hw0.out hg1
    clear hg1 Hw0
    go_wp2_with fail
    go_loopw [8, 9, 10] (fun v _ _ wr => ∃ (acc : List (List UInt8)) (rest : List UInt8) (left : Nat), wr.ownsRow w.heap.size 9 1 v acc.length (acc.map encS) ∧ RBlock wr w.heap.size rest left ∧ Below w.heap.size w wr ∧ acc.length + rest.length ≤ s.length ∧ left < 18446744073709551616 ∧ Inv takeS s acc left rest) (fun _ _ _ wr => leftOf w.heap.size wr)
    case atStart => exact ⟨[], s.drop k, n, World.ownsRow_nil _ _ _ _, hb1, hw1, by simp, hn64, Hinv.out⟩
    case round =>
      obtain ⟨acc, rest, left, hown, hb, hbel, hlen, hl64, hinv⟩ := hrel
      clear hb1 hw1 Hinv hn64
      cases left with
      | zero =>
        have H1 := Lib.hid (more_no _ _ _ hb)
        have H2 := Lib.hid (end_c _ _ _ _ hb)
        have Hend := Lib.hid (inv_end hinv)
        have Hbel := Lib.hid hbel
        have Hown := Lib.hid hown
        clear hb hinv hbel hown
        go_wp2_with fail
        refine H1.out.mono ?_
        clear H1
        rintro e w2 ⟨rfl, rfl⟩
        go_wp2_with fail
        refine H2.out.mono ?_
        clear H2
        rintro e w2 ⟨rfl, rfl⟩
        by_cases hr : rest = []
        · rw [if_pos hr]
          have hfin := Hend.out
          rw [if_pos hr] at hfin
          have Hfin := Lib.hid hfin
          clear hfin hr Hend
          go_wp2
          go_ret2
          exact ListPost.mk Hfin.out Hown.out Hbel.out
        · rw [if_neg hr]
          have hfin := Hend.out
          rw [if_neg hr] at hfin
          have Hfin := Lib.hid hfin
          clear hfin hr Hend
          go_wp2
          go_ret2
          exact ListPost.nil (n := 11) Hfin.out Hbel.out
      | succ m =>
        have H1 := Lib.hid (more_yes _ _ _ _ hb hl64)
        have hne := Lib.ownBlock_ne hown hb (show (79 : TypeId) ≠ 9 by decide)
        go_wp2_with fail
        refine H1.out.mono ?_
        clear H1
        rintro e w2 ⟨rfl, hg2, hb2⟩
        have H2 := Lib.hid (text_c w.heap.size rest m w2 hb2 (by omega))
        have hmt := fun n => hmeth n w.heap.size w2
        have Hl := Lib.hid (leftOf_eq hb)
        have hown2 := hown.kept hg2 (.inr hne)
        have hbel2 := below_grown_at hbel hg2
        obtain ⟨e, x, r', ht⟩ : ∃ e x r', takeS rest = (e, x, r') := ⟨_, _, _, rfl⟩
        clear hb hb2 hown hbel
        by_cases he : e = 0
        · subst he
          have Hinv := Lib.hid (inv_step hinv ht)
          have hrl := takeS_len ht
          have Ht := Lib.hid ht
          clear hinv ht
          go_wp2_with fail
          refine H2.out.mono ?_
          clear H2 hmt
          rintro e w3 ⟨rfl, hg3, hb3⟩
          rw [Ht.out] at hb3 ⊢
          rw [if_pos rfl]
          have hb3' := hb3 rfl
          have hown3 := hown2.kept hg3 (.inr hne)
          have hbel3 := below_grown_at hbel2 hg3
          clear hb3 hown2 hbel2 hg2 hg3 Ht
          obtain ⟨i0, hi, hz0, hz1, hz2⟩ := info_parts infoS
          go_wp2_with (at_builtin; refine wpList_append_own _ rfl _ _ 43 rfl w.heap.size 9 i0 (.string ⟨#[]⟩) 1 16 Try.underlying43 hi hz0 hz1 hz2 rfl (by decide) _ _ _ rfl (hown3.alloc _) ⟨w3.heap.size, 0, none⟩ 1 1 [encS x] rfl rfl ?c1 ?c2 ?c3 ?c4 ?c5 ?_)
          case c1 => exact cell_one_new _ _ _
          case c2 => simp [Value.oneCell']
          case c3 => unfold maxLen; omega
          case c4 => omega
          case c5 => have := hbel3.size; simp; omega
          intro v' w4 hown4 hgrow _
          have hb4 : RBlock w4 w.heap.size r' m := (hgrow.block w.heap.size (by have := hb3'.lt; simp; omega) (fun e => hne e.symm)).trans ((Below.heap_alloc _ _ _ hb3'.lt).trans hb3')
          have hbel4 : Below w.heap.size w w4 := (hbel3.alloc hbel3.size _).grown hgrow (by have := hbel3.size; simp; omega) (fun k hk => (hown3.lt k hk).1)
          have Hown4 := Lib.hid hown4
          have Hb4 := Lib.hid hb4
          have Hbel4 := Lib.hid hbel4
          clear hown4 hb4 hbel4 hown3 hb3' hbel3 hi hz0 hz1 hz2 hgrow hne
          go_wp2
          go_roundw
          case rel => exact ⟨acc ++ [x], r', m, by simpa using Hown4.out, Hb4.out, Hbel4.out, by simp; omega, by omega, Hinv.out⟩
          case measure => rw [Hl.out, leftOf_eq Hb4.out]; omega
        · have Hfin := Lib.hid (inv_err hinv ht he)
          have hbq : ((e : Int) != 0) = true := by rw [bne_iff_ne]; omega
          have Ht := Lib.hid ht
          have He := Lib.hid he
          clear hinv ht he
          go_wp2_with fail
          refine H2.out.mono ?_
          clear H2 hmt
          rintro e2 w3 ⟨rfl, hg3, -⟩
          rw [Ht.out]
          rw [if_neg He.out]
          have Hbel3 := Lib.hid (below_grown_at hbel2 hg3)
          clear hbel2 hg2 hg3 hown2
          go_wp2
          go_ret2
          exact ListPost.nil Hfin.out Hbel3.out
  · have H0 := Lib.hid (begin_err w.heap.size s 0 n k e _ hb0 (by omega) hn he)
    have Hfin := Lib.hid (show readL takeS s = (e, []) by unfold readL; rw [hn]; simp [he])
    have hbq : ((e : Int) != 0) = true := by rw [bne_iff_ne]; omega
    have Hw0 := Lib.hid hw0
    clear hb0 hw0 hn
    go_enter Try.func45, Try.ntmps45
    go_wp2_with fail
    refine H0.out.mono ?_
    clear H0
    rintro e2 w1 ⟨rfl, hg1⟩
    have Hw1 := Lib.hid (below_grown_at Hw0.out hg1)
    clear hg1 Hw0
    go_wp2
    go_ret2
    exact ListPost.nil Hfin.out Hw1.out
set_option maxRecDepth 100000 in
set_option maxHeartbeats 1000000 in
theorem readListI_c (mt : String) (hmeth : IsMeth mt 49) (s : List UInt8) (w : World) (hs : s.length ≤ 1099511627776) :
    Calls Try.prog 48 #[str s, .func (.methodOf 91 mt) #[] #[]] w (ListPost encI 3 (readL takeI s) w) := by
  have hb0 := rblock_new w s
  have hw0 := (Below.refl w.heap.size w).alloc (Nat.le_refl _) (.cells #[.string ⟨s.toArray⟩, .int .u64 0] 79)
  obtain ⟨n, k, e, hn⟩ : ∃ n k e, readN s = (n, k, e) := ⟨_, _, _, rfl⟩
  by_cases he : e = 0
  · subst he
    have H0 := Lib.hid (begin_ok w.heap.size s 0 n k _ hb0 (by omega) hn)
    have Hinv := Lib.hid (inv_start (t := takeI) hn)
    have hn64 := (readN_ok hn).1
    have Hw0 := Lib.hid hw0
    clear hb0 hw0 hn
    go_enter Try.func48, Try.ntmps48
    go_wp2_with fail
    refine H0.out.mono ?_
    clear H0
    rintro e w1 ⟨rfl, hg1, hb1⟩
    have hw1 := below_grown_at Hw0.out hg1
    clear hg1 Hw0
    go_wp2_with fail
    go_loopw [8, 9, 10] (fun v _ _ wr => ∃ (acc : List Int) (rest : List UInt8) (left : Nat), wr.ownsRow w.heap.size 3 1 v acc.length (acc.map encI) ∧ RBlock wr w.heap.size rest left ∧ Below w.heap.size w wr ∧ acc.length + rest.length ≤ s.length ∧ left < 18446744073709551616 ∧ Inv takeI s acc left rest) (fun _ _ _ wr => leftOf w.heap.size wr)
    case atStart => exact ⟨[], s.drop k, n, World.ownsRow_nil _ _ _ _, hb1, hw1, by simp, hn64, Hinv.out⟩
    case round =>
      obtain ⟨acc, rest, left, hown, hb, hbel, hlen, hl64, hinv⟩ := hrel
      clear hb1 hw1 Hinv hn64
      cases left with
      | zero =>
        have H1 := Lib.hid (more_no _ _ _ hb)
        have H2 := Lib.hid (end_c _ _ _ _ hb)
        have Hend := Lib.hid (inv_end hinv)
        have Hbel := Lib.hid hbel
        have Hown := Lib.hid hown
        clear hb hinv hbel hown
        go_wp2_with fail
        refine H1.out.mono ?_
        clear H1
        rintro e w2 ⟨rfl, rfl⟩
        go_wp2_with fail
        refine H2.out.mono ?_
        clear H2
        rintro e w2 ⟨rfl, rfl⟩
        by_cases hr : rest = []
        · rw [if_pos hr]
          have hfin := Hend.out
          rw [if_pos hr] at hfin
          have Hfin := Lib.hid hfin
          clear hfin hr Hend
          go_wp2
          go_ret2
          exact ListPost.mk Hfin.out Hown.out Hbel.out
        · rw [if_neg hr]
          have hfin := Hend.out
          rw [if_neg hr] at hfin
          have Hfin := Lib.hid hfin
          clear hfin hr Hend
          go_wp2
          go_ret2
          exact ListPost.nil (n := 11) Hfin.out Hbel.out
      | succ m =>
        have H1 := Lib.hid (more_yes _ _ _ _ hb hl64)
        have hne := Lib.ownBlock_ne hown hb (show (79 : TypeId) ≠ 3 by decide)
        go_wp2_with fail
        refine H1.out.mono ?_
        clear H1
        rintro e w2 ⟨rfl, hg2, hb2⟩
        have H2 := Lib.hid (integer_c w.heap.size rest m w2 hb2 (by omega))
        have hmt := fun n => hmeth n w.heap.size w2
        have Hl := Lib.hid (leftOf_eq hb)
        have hown2 := hown.kept hg2 (.inr hne)
        have hbel2 := below_grown_at hbel hg2
        obtain ⟨e, x, r', ht⟩ : ∃ e x r', takeI rest = (e, x, r') := ⟨_, _, _, rfl⟩
        clear hb hb2 hown hbel
        by_cases he : e = 0
        · subst he
          have Hinv := Lib.hid (inv_step hinv ht)
          have hrl := takeI_len ht
          have Ht := Lib.hid ht
          clear hinv ht
          go_wp2_with fail
          refine H2.out.mono ?_
          clear H2 hmt
          rintro e w3 ⟨rfl, hg3, hb3⟩
          rw [Ht.out] at hb3 ⊢
          rw [if_pos rfl]
          have hb3' := hb3 rfl
          have hown3 := hown2.kept hg3 (.inr hne)
          have hbel3 := below_grown_at hbel2 hg3
          clear hb3 hown2 hbel2 hg2 hg3 Ht
          obtain ⟨i0, hi, hz0, hz1, hz2⟩ := info_parts infoI
          go_wp2_with (at_builtin; refine wpList_append_own _ rfl _ _ 54 rfl w.heap.size 3 i0 (.int .i64 0) 1 8 Try.underlying54 hi hz0 hz1 hz2 rfl (by decide) _ _ _ rfl (hown3.alloc _) ⟨w3.heap.size, 0, none⟩ 1 1 [encI x] rfl rfl ?c1 ?c2 ?c3 ?c4 ?c5 ?_)
          case c1 => exact cell_one_new _ _ _
          case c2 => simp [Value.oneCell']
          case c3 => unfold maxLen; omega
          case c4 => omega
          case c5 => have := hbel3.size; simp; omega
          intro v' w4 hown4 hgrow _
          have hb4 : RBlock w4 w.heap.size r' m := (hgrow.block w.heap.size (by have := hb3'.lt; simp; omega) (fun e => hne e.symm)).trans ((Below.heap_alloc _ _ _ hb3'.lt).trans hb3')
          have hbel4 : Below w.heap.size w w4 := (hbel3.alloc hbel3.size _).grown hgrow (by have := hbel3.size; simp; omega) (fun k hk => (hown3.lt k hk).1)
          have Hown4 := Lib.hid hown4
          have Hb4 := Lib.hid hb4
          have Hbel4 := Lib.hid hbel4
          clear hown4 hb4 hbel4 hown3 hb3' hbel3 hi hz0 hz1 hz2 hgrow hne
          go_wp2
          go_roundw
          case rel => exact ⟨acc ++ [x], r', m, by simpa using Hown4.out, Hb4.out, Hbel4.out, by simp; omega, by omega, Hinv.out⟩
          case measure => rw [Hl.out, leftOf_eq Hb4.out]; omega
        · have Hfin := Lib.hid (inv_err hinv ht he)
          have hbq : ((e : Int) != 0) = true := by rw [bne_iff_ne]; omega
          have Ht := Lib.hid ht
          have He := Lib.hid he
          clear hinv ht he
          go_wp2_with fail
          refine H2.out.mono ?_
          clear H2 hmt
          rintro e2 w3 ⟨rfl, hg3, -⟩
          rw [Ht.out]
          rw [if_neg He.out]
          have Hbel3 := Lib.hid (below_grown_at hbel2 hg3)
          clear hbel2 hg2 hg3 hown2
          go_wp2
          go_ret2
          exact ListPost.nil Hfin.out Hbel3.out
  · have H0 := Lib.hid (begin_err w.heap.size s 0 n k e _ hb0 (by omega) hn he)
    have Hfin := Lib.hid (show readL takeI s = (e, []) by unfold readL; rw [hn]; simp [he])
    have hbq : ((e : Int) != 0) = true := by rw [bne_iff_ne]; omega
    have Hw0 := Lib.hid hw0
    clear hb0 hw0 hn
    go_enter Try.func48, Try.ntmps48
    go_wp2_with fail
    refine H0.out.mono ?_
    clear H0
    rintro e2 w1 ⟨rfl, hg1⟩
    have Hw1 := Lib.hid (below_grown_at Hw0.out hg1)
    clear hg1 Hw0
    go_wp2
    go_ret2
    exact ListPost.nil Hfin.out Hw1.out

set_option maxRecDepth 100000 in
set_option maxHeartbeats 400000 in
theorem unpack_c (s : List UInt8) (w : World) (hs : s.length ≤ 1099511627776) :
    Calls Try.prog 30 #[str s] w (ListPost encS 9 (unpack s) w) := by
  go_enter Try.func30, Try.ntmps30
  go_wp2_with fail
  refine (readListS_c _ (fun n b w => by kernel_rfl) s w hs).mono ?_
  rintro e w' ⟨v, rfl, hown, hb⟩
  have Hown := Lib.hid hown
  have Hb := Lib.hid hb
  clear hown hb
  go_wp2
  go_ret2
  exact ListPost.mk rfl Hown.out Hb.out
set_option maxRecDepth 100000 in
set_option maxHeartbeats 400000 in
theorem readInts_c (s : List UInt8) (w : World) (hs : s.length ≤ 1099511627776) :
    Calls Try.prog 35 #[str s] w (ListPost encI 3 (readL takeI s) w) := by
  go_enter Try.func35, Try.ntmps35
  go_wp2_with fail
  refine (readListI_c _ (fun n b w => by kernel_rfl) s w hs).mono ?_
  rintro e w' ⟨v, rfl, hown, hb⟩
  have Hown := Lib.hid hown
  have Hb := Lib.hid hb
  clear hown hb
  go_wp2
  go_ret2
  exact ListPost.mk rfl Hown.out Hb.out

/-- A row that a call has made reads as its list. -/
theorem reads_of_own {α : Type} {enc : α → Value} {e : TypeId} {w : World} {B : Nat} {v : Value} {l : List α} (h : w.ownsRow B e 1 v l.length (l.map enc)) : Reads enc w v l := by
  rcases h.2 with ⟨hv, h0⟩ | ⟨g, cap, cur, hv, hbg, hg, hnc, hcm, hcs, htake⟩
  · exact .inl ⟨none, 0, by rw [hv], List.eq_nil_of_length_eq_zero h0⟩
  · refine .inr ⟨g, 0, cap, hv, by omega, ?_, (Array.getElem?_eq_some_iff.1 hg).1⟩
    intro i hi
    have h1 : (cur.toList.take (l.length * 1))[i]? = some (enc l[i]) := by rw [htake]; simp [hi]
    rw [List.getElem?_take_of_lt (by omega)] at h1
    simp [World.cell?, hg]
    simpa using h1
end Go.Proofs.Ytehacegpnhclnaa
