/-
  The walk of CodecNests.
-/
import Derived.Test.YtehacegpnhclnaaUn
import Derived.RegionTactic
import Derived.Deep.RegionWith
namespace Go.Proofs.Ytehacegpnhclnaa
open Go.RowKit Go.Shelf

/-- A row that a call has made, not empty: its block and cells. -/
theorem own_slice {α : Type} {enc : α → Value} {e : TypeId} {w : World} {B : Nat} {v : Value} {l : List α} (h : w.ownsRow B e 1 v l.length (l.map enc)) (hl : 0 < l.length) :
    ∃ g cap, v = .slice (some ⟨g, 0, none⟩) l.length cap ∧ B ≤ g ∧ l.length ≤ cap ∧ cap ≤ maxLen ∧ g < w.heap.size ∧ ∀ i (h : i < l.length), w.cell? ⟨g, i, none⟩ = some (enc l[i]) := by
  rcases h.2 with ⟨_, h0⟩ | ⟨g, cap, cur, hv, hbg, hg, hnc, hcm, hcs, htake⟩
  · omega
  · refine ⟨g, cap, hv, hbg, hnc, by simp only [maxLen] at *; omega, (Array.getElem?_eq_some_iff.1 hg).1, ?_⟩
    intro i hi
    have h1 : (cur.toList.take (l.length * 1))[i]? = some (enc l[i]) := by rw [htake]; simp [hi]
    rw [List.getElem?_take_of_lt (by omega)] at h1
    simp [World.cell?, hg]
    simpa using h1

structure NestFacts (n : Nat) (pa pb s P : List UInt8) : Prop where
  read : readN s = (n, (num n).length, 0)
  len : s.length ≤ 58300
  plen : P.length ≤ 58280
  num1 : 1 ≤ (num n).length
  num2 : (num n).length ≤ s.length
  drop : s.drop (num n).length = P
  un : unpack P = (0, [pa, pb])
theorem nestFacts (n : Nat) (hn : n < 18446744073709551616) (pa pb : List UInt8) (ha : pa.length ≤ 29120) (hb : pb.length ≤ 29120) : NestFacts n pa pb (num n ++ pack [pa, pb]) (pack [pa, pb]) := by
  have h1 := num_len n hn
  have h2 := num_pos n
  have h3 := pack_len 29120 (by omega) [pa, pb] (by simp; omega) (by simp)
  simp at h3
  refine ⟨readN_num n hn _, by rw [List.length_append]; omega, by omega, h2, by rw [List.length_append]; omega, by simp, unpack_pack [pa, pb] (by simp; omega) (by simp)⟩

set_option maxRecDepth 100000 in
set_option maxHeartbeats 2000000 in
theorem walk_CodecNests (sl : Value) (l : List (List UInt8)) (sm : Value) (m : List (List UInt8)) (n : Nat) (hn : n < 18446744073709551616) (w : World) (hr : Reads encS w sl l) (hrm : Reads encS w sm m) :
    Calls Try.prog 12 #[sl, sm, .int .u64 (n : Int)] w fun e w' => e = .returned (.bool true) ∧ Below w.heap.size w w' := by
  have H1 := Lib.hid (fun W => sanity_c W)
  have Hr := Lib.hid hr
  have Hrm := Lib.hid hrm
  have Hn := Lib.hid hn
  clear hr hrm hn
  go_enter Try.func12, Try.ntmps12
  go_wp2_with fail
  refine (H1.out _).mono ?_
  clear H1
  rintro e w1 ⟨rfl, hb1⟩
  have H2 := Lib.hid (some_c sl l 1 w1 (Hr.out.below hb1 rfl))
  have Hb1 := Lib.hid hb1
  clear hb1
  go_wp2_with fail
  refine H2.out.mono ?_
  clear H2
  rintro e w2 ⟨xa, la, rfl, hown, hlen, hsm, hb2⟩
  obtain ⟨hpl, hun⟩ := some_pack hlen hsm
  have Hra := Lib.hid (reads_of_own hown)
  have Hb2 := Lib.hid (below_tr Hb1.out hb2)
  have H3 := Lib.hid (some_c sm m 2 w2 (Hrm.out.below Hb2.out rfl))
  have Hua := Lib.hid hun
  have Hpa := Lib.hid hpl
  clear hown hlen hsm hb2 Hb1 hpl hun Hr Hrm
  go_wp2_with fail
  refine H3.out.mono ?_
  clear H3
  rintro e w3 ⟨xb, lb, rfl, hown, hlen, hsm, hb3⟩
  obtain ⟨hpl, hun⟩ := some_pack hlen hsm
  have Hrb := Lib.hid (reads_of_own hown)
  have Hra3 := Lib.hid (Hra.out.below hb3 rfl)
  have Hb3 := Lib.hid (below_tr Hb2.out hb3)
  have N1 := Lib.hid (fun W => number_c n W Hn.out)
  have P1 := Lib.hid (fun W hW => pack_c xa la W hW (by have := Hpa.out; omega))
  have P2 := Lib.hid (fun W hW => pack_c xb lb W hW (by omega))
  have Hub := Lib.hid hun
  have Hpb := Lib.hid hpl
  clear hown hlen hsm hb3 Hb2 hpl hun Hra
  go_wp2_with fail
  refine (N1.out _).mono ?_
  clear N1
  rintro e w4 ⟨rfl, hb4⟩
  have P1' := Lib.hid (P1.out w4 (Hra3.out.below hb4 rfl))
  have Hra4 := Lib.hid (Hra3.out.below hb4 rfl)
  have Hrb4 := Lib.hid (Hrb.out.below hb4 rfl)
  have Hb4 := Lib.hid (below_tr Hb3.out hb4)
  clear hb4 Hb3 Hra3 Hrb P1
  go_wp2_with fail
  refine P1'.out.mono ?_
  clear P1'
  rintro e w5 ⟨rfl, hb5⟩
  have P2' := Lib.hid (P2.out w5 (Hrb4.out.below hb5 rfl))
  have Hra5 := Lib.hid (Hra4.out.below hb5 rfl)
  have Hrb5 := Lib.hid (Hrb4.out.below hb5 rfl)
  have Hb5 := Lib.hid (below_tr Hb4.out hb5)
  clear hb5 Hb4 Hra4 Hrb4 P2
  go_wp2_with fail
  refine P2'.out.mono ?_
  clear P2'
  rintro e w6 ⟨rfl, hb6⟩
  have F := nestFacts n Hn.out (pack la) (pack lb) Hpa.out Hpb.out
  have hbn := below_new w6 (.cells #[str (pack la), str (pack lb)] 9)
  have hrn := reads_new encS w6 [pack la, pack lb] 9 #[str (pack la), str (pack lb)] rfl (by simp [maxLen]) 2 2 rfl
  have P3 := Lib.hid (pack_c _ _ _ hrn (by have := F.plen; omega))
  have Hra6 := Lib.hid ((Hra5.out.below hb6 rfl).below hbn rfl)
  have Hrb6 := Lib.hid ((Hrb5.out.below hb6 rfl).below hbn rfl)
  have Hb6 := Lib.hid (below_tr (below_tr Hb5.out hb6) hbn)
  have hP := F.plen
  have hNl := num_len n Hn.out
  clear hb6 Hb5 Hra5 Hrb5 hbn hrn
  generalize hPa : pack la = pa at *
  generalize hPb : pack lb = pb at *
  clear hPa hPb
  have hadd := add_str (num n) (pack [pa, pb]) (by omega)
  obtain ⟨P, hPP⟩ : ∃ P, pack [pa, pb] = P := ⟨_, rfl⟩
  rw [hPP] at P3 hadd F hP
  clear hPP
  obtain ⟨s, hs⟩ : ∃ s, num n ++ P = s := ⟨_, rfl⟩
  rw [hs] at hadd F
  clear hs
  have Hf := Lib.hid F
  clear F
  go_wp2_with fail
  refine P3.out.mono ?_
  clear P3
  rintro e w7 ⟨rfl, hb7⟩
  have hrd := read_str s w7 (by have := Hf.out.len; omega)
  rw [Hf.out.read] at hrd
  have R1 := Lib.hid hrd
  have Hra7 := Lib.hid (Hra6.out.below hb7 rfl)
  have Hrb7 := Lib.hid (Hrb6.out.below hb7 rfl)
  have Hb7 := Lib.hid (below_tr Hb6.out hb7)
  clear hrd hb7 Hb6 Hra6 Hrb6
  go_wp2_with fail
  refine R1.out.mono ?_
  clear R1 hadd
  rintro e w' ⟨rfl, rfl⟩
  have hszs := size_str s
  have i1 := Hf.out.num1
  have i2 := Hf.out.num2
  have i3 : (1 : Int) ≤ ((num n).length : Int) := by omega
  have i4 : ((num n).length : Int) ≤ (s.length : Int) := by omega
  have hexd := ext_drop s (num n).length
  rw [Hf.out.drop] at hexd
  have hun := unpack_c P w7 (by omega)
  rw [Hf.out.un] at hun
  have U1 := Lib.hid hun
  clear hun
  go_wp2_with fail
  refine U1.out.mono ?_
  clear U1 hexd i1 i2 i3 i4 hszs
  rintro e w8 ⟨bv, rfl, hown, hb8⟩
  obtain ⟨g, cap, rfl, -, -, -, hgl, hcell⟩ := own_slice hown (by simp)
  have hc0 : w8.cell? ⟨g, 0, none⟩ = some (str pa) := hcell 0 (by simp)
  have hc1 : w8.cell? ⟨g, 1, none⟩ = some (str pb) := hcell 1 (by simp)
  have hua := unpack_c pa w8 (by have := Hpa.out; omega)
  rw [Hua.out] at hua
  have U2 := Lib.hid hua
  have Hra8 := Lib.hid (Hra7.out.below hb8 rfl)
  have Hrb8 := Lib.hid (Hrb7.out.below hb8 rfl)
  have Hb8 := Lib.hid (below_tr Hb7.out hb8)
  clear hua hown hcell hb8 Hb7 Hra7 Hrb7 Hua
  go_wp2_with fail
  refine U2.out.mono ?_
  clear U2
  rintro e w9 ⟨xv, rfl, hown, hb9⟩
  have hd1 : w9.cell? ⟨g, 1, none⟩ = some (str pb) := (hb9.cell (p := ⟨g, 1, none⟩) hgl).trans hc1
  have hub := unpack_c pb w9 (by have := Hpb.out; omega)
  rw [Hub.out] at hub
  have U3 := Lib.hid hub
  have Hrx9 := Lib.hid (reads_of_own hown)
  have Hra9 := Lib.hid (Hra8.out.below hb9 rfl)
  have Hrb9 := Lib.hid (Hrb8.out.below hb9 rfl)
  have Hb9 := Lib.hid (below_tr Hb8.out hb9)
  clear hub hown hb9 Hb8 Hra8 Hrb8 Hub hc0 hc1
  go_wp2_with fail
  refine U3.out.mono ?_
  clear U3
  rintro e w10 ⟨yv, rfl, hown, hb10⟩
  have S1 := Lib.hid (strings_eq (Hra9.out.below hb10 rfl) (Hrx9.out.below hb10 rfl))
  have Hry10 := Lib.hid (reads_of_own hown)
  have Hrb10 := Lib.hid (Hrb9.out.below hb10 rfl)
  have Hb10 := Lib.hid (below_tr Hb9.out hb10)
  clear hown hb10 Hb9 Hra9 Hrb9 Hrx9 hd1
  go_wp2_with fail
  refine S1.out.mono ?_
  clear S1
  rintro e w11 ⟨rfl, hb11⟩
  have S2 := Lib.hid (strings_eq (Hrb10.out.below hb11 rfl) (Hry10.out.below hb11 rfl))
  have Hb11 := Lib.hid (below_tr Hb10.out hb11)
  clear hb11 Hb10 Hrb10 Hry10
  go_wp2_with fail
  refine S2.out.mono ?_
  clear S2
  rintro e w12 ⟨rfl, hb12⟩
  have Hb12 := Lib.hid (below_tr Hb11.out hb12)
  clear hb12 Hb11
  go_wp2
  go_ret
  exact ⟨rfl, Hb12.out⟩
end Go.Proofs.Ytehacegpnhclnaa
