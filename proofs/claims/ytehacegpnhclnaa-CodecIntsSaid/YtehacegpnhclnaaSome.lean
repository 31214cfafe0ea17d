/-
  The law's 'some': a list of at most 41 strings of at most 700 bytes; its packs are short. unpacks and readsInts: the program and the reference agree.
-/
import Derived.Test.YtehacegpnhclnaaBytes
import Derived.Deep.RegionHeld3
import Derived.Deep.AppendLies
import Derived.Deep.OwnRows
namespace Go.Proofs.Ytehacegpnhclnaa
open Go.RowKit Go.Shelf

/-- What 'some' hands back. -/
def SomePost (w : World) (e : Ending) (w' : World) : Prop :=
  ∃ (v : Value) (out : List (List UInt8)), e = .returned v ∧ w'.ownsRow w.heap.size 9 1 v out.length (out.map encS) ∧ out.length ≤ 41 ∧ (∀ s ∈ out, s.length ≤ 700) ∧ Below w.heap.size w w'

theorem infoB : (Try.prog.info? 5).map (fun i => (i.zero, i.size, i.bytes)) = some (some (.int .u8 0), 1, 1) := by kernel_rfl
theorem zeros_new (n : Nat) (hn : n ≤ 700) (w : World) : ∃ w', (Instr.makeSlice 27 (.int .i64 (n : Int)) (.int .i64 (n : Int))).run Try.prog w = .ok (.slice (some ⟨w.heap.size, 0, none⟩) n n) w' ∧ (convert 27 9 (.slice (some ⟨w.heap.size, 0, none⟩) n n)).run Try.prog w' = .ok (str (List.replicate n 0)) w' ∧ w.heap.size < w'.heap.size ∧ w' = w.alloc (.cells (madeCells #[.int .u8 0] n) 5) := by
  have h := run_make_row' (P := Try.prog) 27 5 (.int .u8 0) 1 Try.underlying27 infoB rfl .i64 .i64 n (by omega) (by omega) w
  refine ⟨_, h, ?_, by simp, rfl⟩
  have hc : ∀ j (hj : j < (List.replicate n (0 : UInt8)).length), (w.alloc (.cells (madeCells #[.int .u8 0] n) 5)).cell? ((⟨w.heap.size, 0, none⟩ : Addr).add j) = some (.int .u8 ((List.replicate n (0 : UInt8))[j].toNat : Int)) := by
    intro j hj
    have hj2 : j < n := by simpa using hj
    have hm : (madeCells #[.int .u8 0] n)[j]? = some (.int .u8 0) := by
      rw [← Array.getElem?_toList, toList_madeCells_one, List.getElem?_replicate]; simp [hj2]
    have hn := World.alloc_heap_new w (.cells (madeCells #[.int .u8 0] n) 5)
    have : (w.alloc (.cells (madeCells #[.int .u8 0] n) 5)).cell? ⟨w.heap.size, j, none⟩ = some (.int .u8 0) := by
      rw [Lib.cell_of_heap hn]; exact hm
    unfold Addr.add
    split
    · rename_i h0; subst h0; simpa using this
    · simpa using this
  have := run_convert_bytes_back (P := Try.prog) (w.alloc (.cells (madeCells #[.int .u8 0] n) 5)) 27 9 5 ⟨w.heap.size, 0, none⟩ n (List.replicate n 0) Try.underlying27 Try.underlying5 Try.underlying9 hc
  rw [List.length_replicate] at this
  exact this

theorem wrap64_small (n : Int) (h0 : -9223372036854775808 ≤ n) (h1 : n ≤ 9223372036854775807) : wrap64 n = n := IntWalk.wrap64_in _ ⟨h0, h1⟩

set_option maxRecDepth 100000 in
set_option maxHeartbeats 2000000 in
theorem some_c (sl : Value) (l : List (List UInt8)) (many : Int) (w : World) (hr : Reads encS w sl l) :
    Calls Try.prog 28 #[sl, .int .i64 many] w (SomePost w) := by
  obtain ⟨a, cap, rfl, hm, hcell⟩ := hr.slice
  unfold maxLen at hm
  have Hcell := Lib.hid hcell
  clear hr hcell
  go_enter Try.func28, Try.ntmps28
  go_wp2_with fail
  go_loopw [5, 6] (fun v i wr => ∃ acc : List (List UInt8), acc.length ≤ l.length ∧ acc.length ≤ 40 ∧ i = .int .i64 acc.length ∧ wr.ownsRow w.heap.size 9 1 v acc.length (acc.map encS) ∧ (∀ s ∈ acc, s.length ≤ 700) ∧ Below w.heap.size w wr) (fun _ i _ => l.length - (intOf i).toNat)
  case atStart => exact ⟨[], Nat.zero_le _, Nat.zero_le _, rfl, World.ownsRow_nil _ _ _ _, by simp, Below.refl _ _⟩
  case round =>
    obtain ⟨acc, hk, hk40, rfl, hown, hsm, hbel⟩ := hrel
    have Hsm := Lib.hid hsm
    clear hsm
    by_cases hlt : acc.length < l.length ∧ acc.length < 40
    · obtain ⟨h1, h2⟩ := hlt
      obtain ⟨b, off, rfl, hc, hbl⟩ := Hcell.out acc.length h1
      have hcr : wr.cell? ⟨b, off + acc.length, none⟩ = some (encS l[acc.length]) := (hbel.cell (p := ⟨b, off + acc.length, none⟩) hbl).trans hc
      have hbw : b < wr.heap.size := Nat.lt_of_lt_of_le hbl hbel.size
      obtain ⟨k, hkk⟩ : ∃ k, acc.length = k := ⟨_, rfl⟩
      generalize hx : l[acc.length] = x at hcr
      rw [hkk] at hcr h1 h2 hk hk40 hown
      have hsz := size_str x
      have hex : (ByteArray.mk x.toArray).extract 0 (min (x.length : Int) 150).toNat = ⟨(x.take 150).toArray⟩ := ext_min x 150
      have hxl : (x.take 150).length ≤ 700 := by rw [List.length_take]; omega
      have b1 : (0 : Int) ≤ min (x.length : Int) 150 := by omega
      have b2 : min (x.length : Int) 150 ≤ (x.length : Int) := by omega
      have i1 : (k : Int) < (l.length : Int) := by omega
      have i0 : (0 : Int) ≤ (k : Int) := by omega
      have av : Value.ownBlock u5 ≠ some b := fun e => absurd (hown.lt b e).1 (Nat.not_le_of_lt hbl)
      have Hbel := Lib.hid hbel
      have hwB := hbel.size
      obtain ⟨i0', hi, hz0, hz1, hz2⟩ := info_parts infoS
      have Hkk := Lib.hid hkk
      rw [hkk]
      clear hc hbl hbel hx hkk
      go_wp2_with fail
      go_region_held3 (fun w' => w'.cell? ⟨b, off + k, none⟩ = some (encS x))
        (first
          | go_keep
          | (rw [hgrow.cell_far _ (by simp; omega) (Ne.symm av)]; assumption))
        ((refine step_append_lies _ (by rfl) _ _ _ (by rfl) w.heap.size 9 i0' _ 1 16 Try.underlying43 hi hz0 hz1 hz2 rfl (by omega) _ k _ (by rfl) ((hown.alloc _).drew) ⟨wr.heap.size, 0, none⟩ 1 1 [encS (x.take 150)] (by rfl) (by rfl) (cell_one_new _ _ _) (by simp [Value.oneCell']) (by omega) (by unfold maxLen; omega) (by omega) (by simp; omega) (wr.heap.size + 1) (by simp) ?_; intro gg cap2 w4 hown4 hgrow hat hlt4))
      have Hown4 := Lib.hid hown4
      have Hbel4 := Lib.hid (((Hbel.out.alloc hwB _).drew).grown hgrow (by simp; omega) (fun k hk => (hown.lt k hk).1))
      clear hown4 hgrow hown hat hlt4 av hcr hsz hex b1 b2 i1 i0 hi hz0 hz1 hz2
      go_wp2
      go_roundw
      case rel =>
        refine ⟨acc ++ [x.take 150], by have := Hkk.out; simp; omega, by have := Hkk.out; simp; omega, by have := Hkk.out; simp [this], by have := Hown4.out; simpa [Hkk.out] using this, ?_, Hbel4.out⟩
        intro s hs
        rcases List.mem_append.1 hs with h | h
        · exact Hsm.out s h
        · rw [List.mem_singleton.1 h]; exact hxl
      case measure => have := Hkk.out; simp [intOf]; omega
    · have hx : acc.length = l.length ∨ acc.length = 40 := by omega
      have Hown := Lib.hid hown
      have Hbel := Lib.hid hbel
      clear hown hbel hm Hcell
      cases hq : (Int.tmod many 4 == 0) with
      | true =>
        rcases hx with hx | hx
        · have i1 : ¬ ((acc.length : Int) < (l.length : Int)) := by omega
          clear hx hlt hk
          go_wp2_with fail
          have hm0 := Int.emod_nonneg many (show (700 : Int) ≠ 0 by omega)
          have hm1 := Int.emod_lt_of_pos many (show (0 : Int) < 700 by omega)
          obtain ⟨n, hn⟩ : ∃ n : Nat, many % 700 = (n : Int) := ⟨(many % 700).toNat, by omega⟩
          have hn7 : n ≤ 700 := by omega
          refine (mod_t many 700 _ (by omega) (by omega)).mono ?_
          rw [hn]
          clear hm0 hm1 hn
          rintro e w1 ⟨rfl, rfl⟩
          obtain ⟨w2, hrun, hcv, hsz2, hw2⟩ := zeros_new n hn7 wr
          have hsw := Hbel.out.size
          have hbel2 : Below w.heap.size w w2 := by rw [hw2]; exact Hbel.out.alloc hsw _
          have hown2 : w2.ownsRow w.heap.size 9 1 u5 acc.length (acc.map encS) := by rw [hw2]; exact Hown.out.alloc _
          have Hbel2 := Lib.hid hbel2
          obtain ⟨i0, hi, hz0, hz1, hz2⟩ := info_parts infoS
          clear hw2 hbel2
          go_wp2_with (at_builtin; refine wpList_append_own _ rfl _ _ 43 rfl w.heap.size 9 i0 (.string ⟨#[]⟩) 1 16 Try.underlying43 hi hz0 hz1 hz2 rfl (by decide) _ _ _ rfl (hown2.alloc _) ⟨w2.heap.size, 0, none⟩ 1 1 [encS (List.replicate n 0)] rfl rfl ?c1 ?c2 ?c3 ?c4 ?c5 ?_)
          case c1 => exact cell_one_new _ _ _
          case c2 => simp [Value.oneCell']
          case c3 => unfold maxLen; omega
          case c4 => omega
          case c5 => simp; omega
          intro v' w4 hown4 hgrow _
          have Hbel4 := Lib.hid ((Hbel2.out.alloc (Nat.le_trans hsw (Nat.le_of_lt hsz2)) _).grown hgrow (by simp; omega) (fun k hk => (hown2.lt k hk).1))
          have Hown4 := Lib.hid hown4
          clear hown4 hgrow hown2 hi hz0 hz1 hz2 hrun hcv
          go_wp2
          go_ret
          refine ⟨v', acc ++ [List.replicate n 0], rfl, by simpa using Hown4.out, by simp; omega, ?_, Hbel4.out⟩
          intro s hs
          rcases List.mem_append.1 hs with h | h
          · exact Hsm.out s h
          · rw [List.mem_singleton.1 h, List.length_replicate]; exact hn7
        · have i2 : ¬ ((acc.length : Int) < 40) := by omega
          have hc := Lib.hid hx
          by_cases i1 : (acc.length : Int) < (l.length : Int)
          · clear hx hlt hk
            go_wp2_with fail
            have hm0 := Int.emod_nonneg many (show (700 : Int) ≠ 0 by omega)
            have hm1 := Int.emod_lt_of_pos many (show (0 : Int) < 700 by omega)
            obtain ⟨n, hn⟩ : ∃ n : Nat, many % 700 = (n : Int) := ⟨(many % 700).toNat, by omega⟩
            have hn7 : n ≤ 700 := by omega
            refine (mod_t many 700 _ (by omega) (by omega)).mono ?_
            rw [hn]
            clear hm0 hm1 hn
            rintro e w1 ⟨rfl, rfl⟩
            obtain ⟨w2, hrun, hcv, hsz2, hw2⟩ := zeros_new n hn7 wr
            have hsw := Hbel.out.size
            have hbel2 : Below w.heap.size w w2 := by rw [hw2]; exact Hbel.out.alloc hsw _
            have hown2 : w2.ownsRow w.heap.size 9 1 u5 acc.length (acc.map encS) := by rw [hw2]; exact Hown.out.alloc _
            have Hbel2 := Lib.hid hbel2
            obtain ⟨i0, hi, hz0, hz1, hz2⟩ := info_parts infoS
            clear hw2 hbel2
            go_wp2_with (at_builtin; refine wpList_append_own _ rfl _ _ 43 rfl w.heap.size 9 i0 (.string ⟨#[]⟩) 1 16 Try.underlying43 hi hz0 hz1 hz2 rfl (by decide) _ _ _ rfl (hown2.alloc _) ⟨w2.heap.size, 0, none⟩ 1 1 [encS (List.replicate n 0)] rfl rfl ?c1 ?c2 ?c3 ?c4 ?c5 ?_)
            case c1 => exact cell_one_new _ _ _
            case c2 => simp [Value.oneCell']
            case c3 => unfold maxLen; omega
            case c4 => omega
            case c5 => simp; omega
            intro v' w4 hown4 hgrow _
            have Hbel4 := Lib.hid ((Hbel2.out.alloc (Nat.le_trans hsw (Nat.le_of_lt hsz2)) _).grown hgrow (by simp; omega) (fun k hk => (hown2.lt k hk).1))
            have Hown4 := Lib.hid hown4
            clear hown4 hgrow hown2 hi hz0 hz1 hz2 hrun hcv
            go_wp2
            go_ret
            refine ⟨v', acc ++ [List.replicate n 0], rfl, by simpa using Hown4.out, by simp; omega, ?_, Hbel4.out⟩
            intro s hs
            rcases List.mem_append.1 hs with h | h
            · exact Hsm.out s h
            · rw [List.mem_singleton.1 h, List.length_replicate]; exact hn7
          · clear hx hlt hk
            go_wp2_with fail
            have hm0 := Int.emod_nonneg many (show (700 : Int) ≠ 0 by omega)
            have hm1 := Int.emod_lt_of_pos many (show (0 : Int) < 700 by omega)
            obtain ⟨n, hn⟩ : ∃ n : Nat, many % 700 = (n : Int) := ⟨(many % 700).toNat, by omega⟩
            have hn7 : n ≤ 700 := by omega
            refine (mod_t many 700 _ (by omega) (by omega)).mono ?_
            rw [hn]
            clear hm0 hm1 hn
            rintro e w1 ⟨rfl, rfl⟩
            obtain ⟨w2, hrun, hcv, hsz2, hw2⟩ := zeros_new n hn7 wr
            have hsw := Hbel.out.size
            have hbel2 : Below w.heap.size w w2 := by rw [hw2]; exact Hbel.out.alloc hsw _
            have hown2 : w2.ownsRow w.heap.size 9 1 u5 acc.length (acc.map encS) := by rw [hw2]; exact Hown.out.alloc _
            have Hbel2 := Lib.hid hbel2
            obtain ⟨i0, hi, hz0, hz1, hz2⟩ := info_parts infoS
            clear hw2 hbel2
            go_wp2_with (at_builtin; refine wpList_append_own _ rfl _ _ 43 rfl w.heap.size 9 i0 (.string ⟨#[]⟩) 1 16 Try.underlying43 hi hz0 hz1 hz2 rfl (by decide) _ _ _ rfl (hown2.alloc _) ⟨w2.heap.size, 0, none⟩ 1 1 [encS (List.replicate n 0)] rfl rfl ?c1 ?c2 ?c3 ?c4 ?c5 ?_)
            case c1 => exact cell_one_new _ _ _
            case c2 => simp [Value.oneCell']
            case c3 => unfold maxLen; omega
            case c4 => omega
            case c5 => simp; omega
            intro v' w4 hown4 hgrow _
            have Hbel4 := Lib.hid ((Hbel2.out.alloc (Nat.le_trans hsw (Nat.le_of_lt hsz2)) _).grown hgrow (by simp; omega) (fun k hk => (hown2.lt k hk).1))
            have Hown4 := Lib.hid hown4
            clear hown4 hgrow hown2 hi hz0 hz1 hz2 hrun hcv
            go_wp2
            go_ret
            refine ⟨v', acc ++ [List.replicate n 0], rfl, by simpa using Hown4.out, by simp; omega, ?_, Hbel4.out⟩
            intro s hs
            rcases List.mem_append.1 hs with h | h
            · exact Hsm.out s h
            · rw [List.mem_singleton.1 h, List.length_replicate]; exact hn7
      | false =>
        have fin : SomePost w (.returned u5) wr := ⟨u5, acc, rfl, Hown.out, by omega, Hsm.out, Hbel.out⟩
        have Fin := Lib.hid fin
        clear fin
        rcases hx with hx | hx
        · have i1 : ¬ ((acc.length : Int) < (l.length : Int)) := by omega
          clear hx hlt hk
          go_wp2
          go_ret
          exact Fin.out
        · have i2 : ¬ ((acc.length : Int) < 40) := by omega
          by_cases i1 : (acc.length : Int) < (l.length : Int)
          · clear hx hlt hk
            go_wp2
            go_ret
            exact Fin.out
          · clear hx hlt hk
            go_wp2
            go_ret
            exact Fin.out
end Go.Proofs.Ytehacegpnhclnaa
