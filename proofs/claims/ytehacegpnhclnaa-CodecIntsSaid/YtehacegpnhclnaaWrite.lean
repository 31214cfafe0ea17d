/-
  codec.groups, codec.writeNumber and codec.Number: a range over a function whose body writes into a builder.
-/
import Derived.RangeFuncNested
import Derived.RangeFuncBound
import Derived.RangeFuncCalls
import Derived.RangeFuncLeaves
import Derived.Shelf.Abstract
import Derived.WalkKit
import Derived.OwnWalkIn
import Derived.TacticsInMore
import Derived.LoopNIn
import Derived.LoopIn
import Derived.Test.YtehacegpnhclnaaProg
import Derived.Test.YtehacegpnhclnaaShelf
import Derived.Test.YtehacegpnhclnaaNumR
namespace Go.Proofs.Ytehacegpnhclnaa
open Go.RowKit Go.Shelf
attribute [local go_sem] Oper.semAt_some

/-- What a round is handed for the byte c of a number: its group, and whether it is the last. -/
abbrev encG (c : UInt8) : Array Value := #[.int .u8 ((c.toNat % 128 : Nat) : Int), .bool (decide (c.toNat < 128))]

theorem builder_kept {B b : Nat} {bs : List Value} {W W' : World} {row : Option Nat} (h : Lib.IsBuilderF TB TY B b bs W) (hg : W.grownBy W' row) (hr : ∀ r, row = some r → ∃ o : Obj, W.heap[r]? = some o ∧ o.isCells = false) :
    Lib.IsBuilderF TB TY B b bs W' := by
  have key : ∀ p, Lib.BuilderAtF TB TY B b p bs W → Lib.BuilderAtF TB TY B b p bs W' := by
    rintro p ⟨hB, v, hb, hown, hne⟩
    have hbr : some b ≠ row := by
      intro e
      obtain ⟨o, ho, hc⟩ := hr b e.symm
      rw [hb] at ho
      cases ho
      simp [Obj.isCells] at hc
    refine ⟨hB, v, (hg.block b (Array.getElem?_eq_some_iff.1 hb).1 hbr).trans hb, hown.kept hg ?_, hne⟩
    cases hv : v.ownBlock with
    | none => exact .inl rfl
    | some g =>
      right
      intro e
      obtain ⟨c, fz, hgc⟩ := Lib.ownsRowF_kind hown g hv
      obtain ⟨o, ho, hc⟩ := hr g e.symm
      rw [hgc] at ho
      cases ho
      simp [Obj.isCells] at hc
  exact h.elim (fun x => .inl (key _ x)) (fun x => .inr (key _ x))

set_option maxRecDepth 100000 in
set_option maxHeartbeats 1000000 in
/-- The iterator: whatever the body, the groups come in order. -/
theorem groups1_in (F : Fence) (n : Nat) (h59 : F.fn 59) (hro : F.round = none) (hn : 1 ≤ n) (l Bn : Nat) (v : Nat) (hv64 : v < 18446744073709551616) (J Jx : List UInt8 → World → Prop)
    (hY : ∀ pre x W, J pre W → pre.length < (num v).length → YieldAt F (n - 1) Try.prog l (encG x) W fun e W' =>
      (e = .returned (.bool true) ∧ J (pre ++ [x]) W' ∧ True) ∨ (e = .returned (.bool false) ∧ Jx (pre ++ [x]) W'))
    (W : World) (hBn : W.cell? ⟨Bn, 0, none⟩ = some (.int .u64 (v : Int))) (h0 : J [] W) :
    CallsIn F n Try.prog 59 #[.func (.yield l) #[] #[], .pointer (some ⟨Bn, 0, none⟩)] W fun e W' => (∃ v, e = .returned v) ∧
      ((∃ ys, ys = num v ∧ J ys W') ∨ (∃ pre, pre <+: num v ∧ Jx pre W')) := by
  refine callsIn_of_wp Try.func59 rfl h59 ?_ hro
  simp only [Try.ntmps59, List.size_toArray, List.length_cons, List.length_nil, Nat.reduceAdd, Nat.reduceSub, Array.replicate_succ, Array.replicate_zero, List.push_toArray, List.append_toArray, List.nil_append, List.cons_append]
  gi_wp2
  gi_loopw [3] (fun p wr => ∃ (pre : List UInt8) (m : Nat), m ≤ v ∧ p = .int .u64 (m : Int) ∧ num v = pre ++ num m ∧ J pre wr)
    (fun p _ => (intOf p).toNat)
  case atStart =>
    exact ⟨[], v, Nat.le_refl _, rfl, rfl, h0⟩
  case round =>
    obtain ⟨pre, m, hmv, rfl, hx, hJs⟩ := hrel
    have hm64 : m < 18446744073709551616 := by omega
    have Hx := Lib.hid hx
    have hlen : pre.length < (num v).length := by
      rw [hx]; have := num_pos m; simp; omega
    clear hx
    by_cases hm : 128 ≤ m
    · have hc : (UInt8.ofNat (m % 128 + 128)).toNat = m % 128 + 128 := ofNat_toNat (by omega)
      obtain ⟨fn, tmps, assign, body, hy, hR⟩ := hY pre (UInt8.ofNat (m % 128 + 128)) wr hJs hlen
      dsimp only [encG] at hy
      have e1 : (((m % 128 + 128) % 128 : Nat) : Int) = (m : Int) % 128 := by omega
      have e2 : decide (m % 128 + 128 < 128) = false := by simp
      rw [hc, e1, e2] at hy
      clear e1 e2 hc
      gi_wp2
      refine hR.mono ?_
      clear hy hR
      rintro e W3 (⟨rfl, hJ3, _⟩ | ⟨rfl, hJx3⟩)
      · gi_wp2
        go_roundw
        case rel => exact ⟨pre ++ [UInt8.ofNat (m % 128 + 128)], m / 128, by omega, int_eq (by omega), by rw [Hx.out, num_big hm]; simp, hJ3⟩
        case measure => simp [intOf]; omega
      · gi_wp2
        refine bodyPost_ret (results_none rfl _ _ _) rfl ?_
        exact ⟨⟨_, rfl⟩, .inr ⟨pre ++ [UInt8.ofNat (m % 128 + 128)], ⟨num (m / 128), by rw [Hx.out, num_big hm]; simp⟩, hJx3⟩⟩
    · have hc : (UInt8.ofNat m).toNat = m := ofNat_toNat (by omega)
      obtain ⟨fn, tmps, assign, body, hy, hR⟩ := hY pre (UInt8.ofNat m) wr hJs hlen
      dsimp only [encG] at hy
      have e1 : ((m % 128 : Nat) : Int) = (m : Int) := by omega
      have e2 : decide (m < 128) = true := by simp; omega
      rw [hc, e1, e2] at hy
      clear e1 e2 hc
      gi_wp2
      refine hR.mono ?_
      clear hy hR
      rintro e W3 (⟨rfl, hJ3, _⟩ | ⟨rfl, hJx3⟩)
      · gi_wp2
        go_end0
        exact ⟨⟨_, rfl⟩, .inl ⟨_, by rw [Hx.out, num_small (by omega)], hJ3⟩⟩
      · gi_wp2
        go_end0
        exact ⟨⟨_, rfl⟩, .inr ⟨_, ⟨[], by rw [Hx.out, num_small (by omega)]; simp⟩, hJx3⟩⟩

theorem groups_stops (F : Fence) (n : Nat) (h59 : F.fn 59) (hro : F.round = none) (hn : 1 ≤ n) (Bn v : Nat) (hv64 : v < 18446744073709551616) (w : World) (hBn : w.heap[Bn]? = some (.cells #[.int .u64 (v : Int)] 29 (0, 0))) :
    SeqStopsK F n Try.prog 59 #[.pointer (some ⟨Bn, 0, none⟩)] encG (fun _ _ => True) (fun xs => xs = num v) (fun pre => pre <+: num v) (num v).length w := by
  intro l J Jx W hb hJ hJx hY h0
  have hlt : Bn < w.heap.size := (Array.getElem?_eq_some_iff.1 hBn).1
  have hc : W.cell? ⟨Bn, 0, none⟩ = some (.int .u64 (v : Int)) := by
    have h1 := (hb.block Bn hlt).trans hBn
    simp [World.cell?, h1]
  exact groups1_in F n h59 hro hn l Bn v hv64 J Jx hY W hc h0

set_option maxHeartbeats 1000000 in
theorem groups_in (F : Fence) (n : Nat) (h51 : F.fn 51) (hro : F.round = none) (v : Int) (w : World) :
    CallsIn F n Try.prog 51 #[.int .u64 v] w fun e w' => e = .returned (.func (.func 59) #[] #[.pointer (some ⟨w.heap.size, 0, none⟩)]) ∧ w.alloc (.cells #[.int .u64 v] 29) = w' := by
  refine callsIn_of_wp Try.func51 rfl h51 ?_ hro
  simp only [Try.ntmps51, List.size_toArray, List.length_cons, List.length_nil, Nat.reduceAdd, Nat.reduceSub, Array.replicate_succ, Array.replicate_zero, List.push_toArray, List.append_toArray, List.nil_append, List.cons_append]
  gi_wp2
  go_ret
  exact ⟨rfl, rfl⟩

theorem byteCells_snoc (l : List UInt8) (c : UInt8) : Lib.byteCells (l ++ [c]) = Lib.byteCells l ++ [.int .u8 (c.toNat : Int)] := by
  simp [Lib.byteCells]

theorem keeps_of {B b B0 : Nat} {bs : List Value} {W W' : World} (hb : Lib.IsBuilderF TB TY B b bs W) (ho : Lib.OthersKept TY (some b) W W') (hs : W.heap.size ≤ W'.heap.size) : KeepsFrom B0 W W' := by
  refine ⟨hs, fun k o _ hk hc => ho k o hk ?_ ?_⟩
  · intro e
    have e := Option.some.inj e
    subst e
    have key : ∀ p, Lib.BuilderAtF TB TY B k p bs W → False := by
      rintro p ⟨_, v, hb, _⟩
      rw [hb] at hk
      cases hk
      simp [Obj.isCells] at hc
    exact hb.elim (key _) (key _)
  · intro c fz e
    subst e
    simp [Obj.isCells] at hc

/-- What writeNumber's loop keeps abides the turn of a new block that is no cells. -/
theorem inv_kept {B b : Nat} {bs : List Value} {w A A' : World} {row : Option Nat} (hBw : B ≤ w.heap.size)
    (h : A.heap[w.heap.size]? = some (.cells #[.pointer (some ⟨b, 0, none⟩)] 63 (0, 0)) ∧ Lib.IsBuilderF TB TY B b bs A ∧ Below B w A ∧ Lib.OthersKept TY (some b) w A) (hg : A.grownBy A' row)
    (hr : ∀ r, row = some r → w.heap.size < r ∧ ∃ o : Obj, A.heap[r]? = some o ∧ o.isCells = false) :
    A'.heap[w.heap.size]? = some (.cells #[.pointer (some ⟨b, 0, none⟩)] 63 (0, 0)) ∧ Lib.IsBuilderF TB TY B b bs A' ∧ Below B w A' ∧ Lib.OthersKept TY (some b) w A' := by
  obtain ⟨h1, h2, h3, h4⟩ := h
  have hsz := (Array.getElem?_eq_some_iff.1 h1).1
  refine ⟨(hg.block _ hsz ?_).trans h1, builder_kept h2 hg (fun r e => (hr r e).2), h3.grown hg (by have := h3.size; omega) (fun k e => by have := (hr k e).1; omega), ?_⟩
  · intro e; have := (hr _ e.symm).1; omega
  · intro k o hk hkb ho
    have hkw := (Array.getElem?_eq_some_iff.1 hk).1
    refine (hg.block k (by omega) ?_).trans (h4 k o hk hkb ho)
    intro e; have := (hr _ e.symm).1; omega

set_option maxRecDepth 100000 in
set_option maxHeartbeats 2000000 in
/-- codec.writeNumber appends the number's bytes to a builder. -/
theorem writeNumber_c (B b : Nat) (l : List UInt8) (v : Nat) (w : World) (hv : v < 18446744073709551616) (h : Lib.IsBuilderF TB TY B b (Lib.byteCells l) w) (hlen : l.length + 10 ≤ 140737488355328) (hBw : B ≤ w.heap.size) :
    Calls Try.prog 40 #[.pointer (some ⟨b, 0, none⟩), .int .u64 (v : Int)] w fun e w' => e = .returned (.tuple #[]) ∧ (Lib.IsBuilderF TB TY B b (Lib.byteCells (l ++ num v)) w' ∧ Below B w w' ∧ Lib.OthersKept TY (some b) w w') := by
  have hnl := num_len v hv
  refine (callsIn_wide (n := 4)).1 ?_
  refine callsIn_of_wp_marks Try.func40 rfl trivial ?_ rfl
  simp only [Try.ntmps40, List.size_toArray, List.length_cons, List.length_nil, Nat.reduceAdd, Nat.reduceSub, Array.replicate_succ, Array.replicate_zero, List.push_toArray, List.append_toArray, List.nil_append, List.cons_append]
  gi_wp2_with (refine ⟨trivial, ?_⟩; gi_at_call 51; refine (groups_in Fence.wide _ trivial rfl _ _).mono ?_; rintro e w' ⟨rfl, rfl⟩)
  have hlt : b < w.heap.size := by
    rcases h with h | h <;> exact h.lt
  have hbx : ((w.alloc (.cells #[.pointer (some ⟨b, 0, none⟩)] 63)).alloc (.cells #[.int .u64 (v : Int)] 29)).heap[w.heap.size]? = some (.cells #[.pointer (some ⟨b, 0, none⟩)] 63 (0, 0)) := by
    rw [Below.heap_alloc _ _ _ (by simp)]; exact World.alloc_heap_new w _
  have hbn : ((w.alloc (.cells #[.pointer (some ⟨b, 0, none⟩)] 63)).alloc (.cells #[.int .u64 (v : Int)] 29)).heap[w.heap.size + 1]? = some (.cells #[.int .u64 (v : Int)] 29 (0, 0)) := by
    have := World.alloc_heap_new (w.alloc (.cells #[.pointer (some ⟨b, 0, none⟩)] 63)) (.cells #[.int .u64 (v : Int)] 29)
    rwa [World.size_alloc] at this
  have hI0 := (h.alloc (.cells #[.pointer (some ⟨b, 0, none⟩)] 63)).alloc (.cells #[.int .u64 (v : Int)] 29)
  have hB0 := ((Below.refl B w).alloc hBw (.cells #[.pointer (some ⟨b, 0, none⟩)] 63)).alloc (by simp; omega) (.cells #[.int .u64 (v : Int)] 29)
  have hO0 := ((Lib.OthersKept.refl TY (some b) w).alloc (.cells #[.pointer (some ⟨b, 0, none⟩)] 63)).alloc (.cells #[.int .u64 (v : Int)] 29)
  obtain ⟨W0, hW0⟩ : ∃ W0, (w.alloc (.cells #[.pointer (some ⟨b, 0, none⟩)] 63)).alloc (.cells #[.int .u64 (v : Int)] 29) = W0 := ⟨_, rfl⟩
  have hsz : W0.heap.size = w.heap.size + 2 := by rw [← hW0]; simp
  rw [hW0] at hbx hbn hI0 hB0 hO0 ⊢
  have Hsz := Lib.hid hsz
  clear hsz hW0
  refine wpIn_rangeFunc_ownG rfl (by omega) (gf := 59) (lb := #[.pointer (some ⟨w.heap.size + 1, 0, none⟩)]) rfl trivial (enters_of Try.func59 (by kernel_rfl) rfl)
    (groups_stops Fence.wide _ trivial rfl (by omega) (w.heap.size + 1) v hv W0 hbn) (fun _ _ => trivial) (fun _ _ _ _ _ _ _ _ => trivial) (Below.refl _ _) (fun _ => rfl)
    (fun pre W => W.heap[w.heap.size]? = some (.cells #[.pointer (some ⟨b, 0, none⟩)] 63 (0, 0)) ∧ Lib.IsBuilderF TB TY B b (Lib.byteCells (l ++ pre)) W ∧ Below B w W ∧ Lib.OthersKept TY (some b) w W)
    (fun _ _ _ => False)
    ?hI (fun _ _ _ _ _ hs _ _ => hs) ⟨hbx, by rw [List.append_nil]; exact hI0, hB0, hO0⟩
    (fun x => { tmps := #[.pointer (some ⟨b, 0, none⟩), .int .u64 (v : Int), .pointer (some ⟨w.heap.size, 0, none⟩), undef, .int .u8 ((x.toNat % 128 : Nat) : Int), .bool (decide (x.toNat < 128)), .int .u64 (v : Int), .func (.func 59) #[] #[.pointer (some ⟨w.heap.size + 1, 0, none⟩)], .int .u8 ((x.toNat % 128 : Nat) : Int), .bool (decide (x.toNat < 128)), undef, undef, undef, undef, undef, undef, undef], defers := [] }) ?assign ?body ?done ?stop
  case hI =>
    intro s A A' row hs hg hr
    exact inv_kept hBw hs hg (fun r e => ⟨by have := (hr r e).1; have := Hsz.out; omega, (hr r e).2⟩)
  case assign =>
    intro l x W K hK
    gi_wp2
    exact hK
  case body =>
    rintro l' pre x W ⟨h1, h2, h3, h4⟩ hpl
    have hc1 : W.cell? ⟨w.heap.size, 0, none⟩ = some (.pointer (some ⟨b, 0, none⟩)) := by simp [World.cell?, h1]
    have hWB : B ≤ W.heap.size := by have := h3.size; omega
    have hx := u8_lt x
    have hwb := writeByte B b (Lib.byteCells (l ++ pre)) (x.toNat : Int) W h2 (by rw [Lib.byteCells_length, List.length_append]; omega) hWB
    rw [← byteCells_snoc, List.append_assoc] at hwb
    have Hwb := Lib.hid hwb
    clear hwb
    have fin : ∀ W' : World, Lib.IsBuilderF TB TY B b (Lib.byteCells (l ++ (pre ++ [x]))) W' → Below B W W' → Lib.OthersKept TY (some b) W W' → KeepsFrom W0.heap.size W W' ∧ True ∧ W'.heap[w.heap.size]? = some (.cells #[.pointer (some ⟨b, 0, none⟩)] 63 (0, 0)) ∧ Lib.IsBuilderF TB TY B b (Lib.byteCells (l ++ (pre ++ [x]))) W' ∧ Below B w W' ∧ Lib.OthersKept TY (some b) w W' := by
      intro W' k1 k2 k3
      refine ⟨keeps_of h2 k3 k2.size, trivial, k3 _ _ h1 ?_ ?_, k1, h3.trans k2, h4.trans k3⟩
      · intro e; have := Option.some.inj e; omega
      · intro c fz e; injection e with _ e2 _; exact absurd e2 (by decide)
    have Fin := Lib.hid fin
    clear fin h1 h2 h3 h4 hI0 hB0 hO0 hbx hbn hWB hlen hBw h
    by_cases hl : x.toNat < 128
    · have e1 : ((x.toNat % 128 : Nat) : Int) = (x.toNat : Int) := by omega
      have e2 : decide (x.toNat < 128) = true := by simp; omega
      rw [e1, e2]
      clear e1 e2
      gi_wp2_with fail
      refine ⟨trivial, ?_⟩
      refine (CallsIn.inRound l' (callsIn_wide.2 Hwb.out)).mono ?_
      rintro e W' ⟨rfl, k1, k2, k3⟩
      gi_wp2
      exact Fin.out W' k1 k2 k3
    · have e1 : ((x.toNat % 128 : Nat) : Int) = (x.toNat : Int) - 128 := by omega
      have e2 : decide (x.toNat < 128) = false := by simp; omega
      rw [e1, e2]
      clear e1 e2
      gi_wp2_with fail
      refine ⟨trivial, ?_⟩
      refine (CallsIn.inRound l' (callsIn_wide.2 Hwb.out)).mono ?_
      rintro e W' ⟨rfl, k1, k2, k3⟩
      gi_wp2
      exact Fin.out W' k1 k2 k3
  case done =>
    rintro D ys W hD rfl hI hK
    have hfin := inv_kept hBw hI (grownBy_putObj' W D (.deferred none)) (fun r e => by cases e; exact ⟨by have := Hsz.out; omega, _, hK, rfl⟩)
    gi_wp2
    refine ⟨by simp, .inl ⟨_, _, rfl, run_takeDeferred hK, ?_⟩⟩
    exact ⟨_, results_none rfl _ _ _, rfl, hfin.2⟩
  case stop =>
    rintro D c pre W hD _ hs _
    exact hs.elim

theorem fresh_builder (w : World) : Lib.IsBuilderF TB TY w.heap.size w.heap.size (Lib.byteCells []) (w.alloc (.cells #[.pointer none, .slice none 0 0] TB)) :=
  Lib.IsBuilderF.of (Lib.fresh_isBuilder TB TY w)

set_option maxRecDepth 100000 in
set_option maxHeartbeats 1000000 in
/-- codec.Number returns the number's bytes. -/
theorem number_c (v : Nat) (w : World) (hv : v < 18446744073709551616) :
    Calls Try.prog 20 #[.int .u64 (v : Int)] w fun e w' => e = .returned (str (num v)) ∧ Below w.heap.size w w' := by
  have hb := fresh_builder w
  have h1 := writeNumber_c w.heap.size w.heap.size [] v _ hv hb (by simp) (by simp)
  rw [List.nil_append] at h1
  have H1 := Lib.hid h1
  clear h1 hb
  go_enter Try.func20, Try.ntmps20
  go_wp2_with fail
  refine H1.out.mono ?_
  clear H1
  rintro e w1 ⟨rfl, hb1, hw1, _⟩
  have h2 := builderString w.heap.size w.heap.size (num v) w1 hb1 (by have := hw1.size; simp at this; omega)
  have H2 := Lib.hid h2
  clear h2
  go_wp2_with fail
  refine H2.out.mono ?_
  clear H2
  rintro e w2 ⟨rfl, _, hw2, _⟩
  go_wp2
  go_ret
  exact ⟨rfl, (((Below.refl _ w).alloc (Nat.le_refl _) _).trans hw1).trans hw2⟩
end Go.Proofs.Ytehacegpnhclnaa
