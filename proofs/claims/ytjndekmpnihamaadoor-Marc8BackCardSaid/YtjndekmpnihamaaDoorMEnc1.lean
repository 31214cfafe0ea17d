/-
  The encoder's small methods: release, choose, control, mark.
-/
import Derived.Test.YtjndekmpnihamaaDoorMEncS
namespace Go.Proofs.YtjndekmpnihamaaDoor
open Go.RowKit Go.Shelf
set_option linter.unusedVariables false

/-- A call that hands back nothing and leaves a state. -/
def Left (K : EK) (s : EM) (w : World) (v : Value) (e : Ending) (w' : World) : Prop := e = .returned v ∧ ESt K s w' ∧ EB K w w'

set_option maxRecDepth 100000 in
set_option maxHeartbeats 1000000 in
theorem release_c (K : EK) (s : EM) (w : World) (h : ESt K s w) (hlen : s.out.length + 1 ≤ 140737488355328) :
    Calls Tryd.prog 31 #[.pointer (some ⟨K.b, 0, none⟩)] w (Left K (releaseM s) w (.tuple #[])) := by
  obtain ⟨c2, _, _, _, _⟩ := h.cells
  by_cases h0 : s.held = 0
  · have hq : ((s.held.toNat : Int) != 0) = false := by rw [h0]; rfl
    have hm : releaseM s = s := by unfold releaseM; rw [if_pos h0]
    have Hm := Lib.hid hm
    have H := Lib.hid h
    clear h h0 hm
    go_enter Tryd.func31, Tryd.ntmps31
    go_wp2
    go_end0
    exact ⟨rfl, by rw [Hm.out]; exact H.out, EB.refl _ _⟩
  · have hq : ((s.held.toNat : Int) != 0) = true := by
      have : s.held.toNat ≠ 0 := fun e => h0 (UInt8.toNat_inj.1 e)
      simp; omega
    have hm : releaseM s = ⟨s.out ++ [s.held], 0, s.cur⟩ := by unfold releaseM; rw [if_neg h0]
    have Hm := Lib.hid hm
    have H := Lib.hid h
    have N := Lib.hid (fun W (h : ESt K s W) => ebyte_c K s s.held W h hlen)
    clear h h0 hm
    go_enter Tryd.func31, Tryd.ntmps31
    go_wp2
    go_region_held3 (fun w' => w'.cell? ⟨K.b, 2, none⟩ = some (.int .u8 (s.held.toNat : Int)))
      (first | exact c2 | exact e2)
      (first | (go_at_call 46; refine (N.out _ H.out.drew).mono ?_; rintro e W4 ⟨rfl, h9, hb9⟩; have e2 := h9.cells.1))
    have hfz := h9.frozen 2
    have H9 := Lib.hid h9
    have Hb9 := Lib.hid hb9
    clear h9 hb9
    go_wp2
    go_end0
    obtain ⟨x1, x2⟩ := H9.out.setHeld 0
    exact ⟨rfl, by rw [Hm.out]; exact x1, ((EB.refl _ _).drew.trans Hb9.out).trans x2⟩

set_option maxRecDepth 100000 in
set_option maxHeartbeats 1000000 in
theorem echoose_c (K : EK) (s : EM) (nm : UInt8) (hn : isName (nm.toNat : Int)) (w : World) (h : ESt K s w) (hlen : s.out.length + 3 ≤ 140737488355328) :
    Calls Tryd.prog 32 #[.pointer (some ⟨K.b, 0, none⟩), .int .u8 (nm.toNat : Int)] w (Left K (chooseM s nm) w (.tuple #[])) := by
  obtain ⟨_, c3, _, _, _⟩ := h.cells
  by_cases h0 : s.cur = nm
  · have hq : ((s.cur.toNat : Int) != (nm.toNat : Int)) = false := by rw [h0]; simp
    have hm : chooseM s nm = s := by unfold chooseM; rw [if_pos h0]
    have Hm := Lib.hid hm
    have H := Lib.hid h
    clear h h0 hm
    go_enter Tryd.func32, Tryd.ntmps32
    go_wp2
    go_end0
    exact ⟨rfl, by rw [Hm.out]; exact H.out, EB.refl _ _⟩
  · have hq : ((s.cur.toNat : Int) != (nm.toNat : Int)) = true := by
      have : s.cur.toNat ≠ nm.toNat := fun e => h0 (UInt8.toNat_inj.1 e)
      simp; omega
    have hm : chooseM s nm = ⟨s.out ++ [27, 40] ++ [nm], s.held, nm⟩ := by unfold chooseM; rw [if_neg h0]
    have Hm := Lib.hid hm
    have N1 := Lib.hid (estring_c K s [27, 40] w h (by simp; omega))
    have N2 := Lib.hid (fun W (h : ESt K ⟨s.out ++ [27, 40], s.held, s.cur⟩ W) => ebyte_c K ⟨s.out ++ [27, 40], s.held, s.cur⟩ nm W h (by simp; omega))
    clear h h0 hm
    go_enter Tryd.func32, Tryd.ntmps32
    go_wp2_with fail
    refine N1.out.mono ?_
    rintro e w1 ⟨rfl, h1, hb1⟩
    have H1 := Lib.hid h1
    have Hb1 := Lib.hid hb1
    clear h1 hb1
    go_wp2_with fail
    refine (N2.out _ H1.out).mono ?_
    rintro e w2 ⟨rfl, h2, hb2⟩
    obtain ⟨_, d3, _, _, _⟩ := h2.cells
    have hfz := h2.frozen 3
    have H2 := Lib.hid h2
    have Hb2 := Lib.hid hb2
    clear h2 hb2
    go_wp2_with fail
    go_end0
    obtain ⟨x1, x2⟩ := H2.out.setCur nm hn
    exact ⟨rfl, by rw [Hm.out]; exact x1, (Hb1.out.trans Hb2.out).trans x2⟩

theorem codeB_val {x : Int} (h0 : 0 ≤ x) (h1 : x < 256) : ((codeB x).toNat : Int) = x := by
  unfold codeB
  have : x.toNat.toUInt8.toNat = x.toNat % 256 := by simp [UInt8.toNat_ofNat']
  omega

set_option maxRecDepth 100000 in
set_option maxHeartbeats 1000000 in
theorem control_yes (K : EK) (s : EM) (c : Int) (h0 : 0 ≤ c) (h1 : c < 32) (h27 : c ≠ 27) (w : World) (h : ESt K s w) (hlen : s.out.length + 2 ≤ 140737488355328) :
    Calls Tryd.prog 42 #[.pointer (some ⟨K.b, 0, none⟩), .int .i32 c] w (Left K ⟨(releaseM s).out ++ [codeB c], (releaseM s).held, (releaseM s).cur⟩ w (.bool true)) := by
  have hq : (c == 27) = false := by simpa using h27
  have hrl : (releaseM s).out.length ≤ s.out.length + 1 := by unfold releaseM; split <;> simp
  have N1 := Lib.hid (release_c K s w h (by omega))
  have N2 := Lib.hid (fun W (h : ESt K (releaseM s) W) => ebyte_c K (releaseM s) (codeB c) W h (by omega))
  have hcv : IntKind.u8.wrap c = c := by simp [IntKind.wrap, IntKind.bits, IntKind.signed]; omega
  have hcb := codeB_val h0 (by omega)
  rw [hcb] at N2
  clear h h27 hcb hrl
  go_enter Tryd.func42, Tryd.ntmps42
  go_wp2_with fail
  refine N1.out.mono ?_
  rintro e w1 ⟨rfl, h1', hb1⟩
  have H1 := Lib.hid h1'
  have Hb1 := Lib.hid hb1
  clear h1' hb1
  go_wp2_with fail
  refine (N2.out _ H1.out).mono ?_
  rintro e w2 ⟨rfl, h2, hb2⟩
  have H2 := Lib.hid h2
  have Hb2 := Lib.hid hb2
  clear h2 hb2
  go_wp2_with fail
  go_ret
  exact ⟨rfl, H2.out, Hb1.out.trans Hb2.out⟩
set_option maxRecDepth 100000 in
set_option maxHeartbeats 1000000 in
theorem control_no (K : EK) (s : EM) (w : World) (h : ESt K s w) :
    Calls Tryd.prog 42 #[.pointer (some ⟨K.b, 0, none⟩), .int .i32 27] w (Left K s w (.bool false)) := by
  have H := Lib.hid h
  clear h
  go_enter Tryd.func42, Tryd.ntmps42
  go_wp2_with fail
  go_ret
  exact ⟨rfl, H.out, EB.refl _ _⟩

section
variable {w : World} {m n : Nat} {f : Int → Option Int}
def wfC (k : Int) : Prop := (Lit.int .i32 k).wf = true
theorem lookC_some (h : MapF (encInt .u8) .i32 21 w m n f) {k x : Int} (hk : wfC k) (hx : f k = some x) : (Instr.lookup 47 (.map (some m)) (.int .i32 k) true).run Tryd.prog w = .ok (.tuple #[.int .u8 x, .bool true]) w := by
  have := h.lookOk (t := 47) Tryd.underlying21 Tryd.underlying47 Tryd.zeroValue5 k hk
  rw [hx] at this
  exact this
theorem lookC_none (h : MapF (encInt .u8) .i32 21 w m n f) {k : Int} (hk : wfC k) (hx : f k = none) : (Instr.lookup 47 (.map (some m)) (.int .i32 k) true).run Tryd.prog w = .ok (.tuple #[.int .u8 0, .bool false]) w := by
  have := h.lookOk (t := 47) Tryd.underlying21 Tryd.underlying47 Tryd.zeroValue5 k hk
  rw [hx] at this
  exact this
end

theorem foldl_putC_mem (l : List (Int × Int)) : ∀ (m : Int → Option Int) (k x : Int), l.foldl (fun m p => put m p.2 p.1) m k = some x → (x, k) ∈ l ∨ m k = some x := by
  induction l with
  | nil => intro m k x h; exact .inr h
  | cons p l ih =>
    intro m k x h
    rcases ih _ k x h with h1 | h1
    · exact .inl (List.mem_cons_of_mem _ h1)
    · simp only [put] at h1
      by_cases e : k = p.2
      · rw [if_pos e] at h1
        refine .inl ?_
        have : (x, k) = p := Prod.ext (Option.some.inj h1).symm e
        rw [this]; exact List.mem_cons_self
      · rw [if_neg e] at h1
        exact .inr h1
theorem putAllC_mem {l : List (Int × Int)} {k x : Int} (h : putAllC l k = some x) : (x, k) ∈ l := by
  rcases foldl_putC_mem l _ k x h with h1 | h1
  · exact h1
  · cases h1
theorem markC_range {c x : Int} (h : markC c = some x) : 0 ≤ x ∧ x < 256 := by
  have := inRange_all marksRows.range (putAllC_mem h); constructor <;> omega
theorem charC_range {c x : Int} (h : charC c = some x) : 0 ≤ x ∧ x < 256 := by
  have := inRange_all charsRows.range (putAllC_mem h); constructor <;> omega
theorem setC_range {nm : UInt8} {c x : Int} (h : setC nm c = some x) : 0 ≤ x ∧ x < 256 := by
  have := inRange_all (namedL_range (nm.toNat : Int)) (putAllC_mem h); constructor <;> omega

set_option maxRecDepth 100000 in
set_option maxHeartbeats 1000000 in
theorem mark_no (K : EK) (s : EM) (c : Int) (hc : wfC c) (hm : markM s c = none) (w : World) (h : ESt K s w) :
    Calls Tryd.prog 43 #[.pointer (some ⟨K.b, 0, none⟩), .int .i32 c] w (Left K s w (.bool false)) := by
  obtain ⟨c2, _, _, _, c6⟩ := h.cells
  have H := Lib.hid h
  unfold markM at hm
  cases hmc : markC c with
  | none =>
    have hl := lookC_none h.marks hc hmc
    clear h hm hmc
    go_enter Tryd.func43, Tryd.ntmps43
    go_wp2_with fail
    go_ret
    exact ⟨rfl, H.out, EB.refl _ _⟩
  | some b =>
    rw [hmc] at hm
    have h0 : s.held = 0 := by
      by_cases e : s.held = 0
      · exact e
      · simp [e] at hm
    have hl := lookC_some h.marks hc hmc
    have hq : ((s.held.toNat : Int) == 0) = true := by rw [h0]; rfl
    clear h hm hmc h0
    go_enter Tryd.func43, Tryd.ntmps43
    go_wp2_with fail
    go_ret
    exact ⟨rfl, H.out, EB.refl _ _⟩
set_option maxRecDepth 100000 in
set_option maxHeartbeats 1000000 in
theorem mark_yes (K : EK) (s s' : EM) (c : Int) (hc : wfC c) (hm : markM s c = some s') (w : World) (h : ESt K s w) (hlen : s.out.length + 1 ≤ 140737488355328) :
    Calls Tryd.prog 43 #[.pointer (some ⟨K.b, 0, none⟩), .int .i32 c] w (Left K s' w (.bool true)) := by
  obtain ⟨c2, _, _, _, c6⟩ := h.cells
  unfold markM at hm
  cases hmc : markC c with
  | none => rw [hmc] at hm; cases hm
  | some b =>
    rw [hmc] at hm
    have h0 : s.held ≠ 0 := fun e => by simp [e] at hm
    simp only [if_neg h0] at hm
    obtain rfl := Option.some.inj hm
    obtain ⟨r0, r1⟩ := markC_range hmc
    have hl := lookC_some h.marks hc hmc
    have hq : ((s.held.toNat : Int) == 0) = false := by
      have : s.held.toNat ≠ 0 := fun e => h0 (UInt8.toNat_inj.1 e)
      simp; omega
    have N := Lib.hid (ebyte_c K s (codeB b) w h hlen)
    have hcb := codeB_val r0 r1
    rw [hcb] at N
    clear h hm hmc h0 hcb
    go_enter Tryd.func43, Tryd.ntmps43
    go_wp2_with fail
    refine N.out.mono ?_
    rintro e w2 ⟨rfl, h2, hb2⟩
    have H2 := Lib.hid h2
    have Hb2 := Lib.hid hb2
    clear h2 hb2
    go_wp2_with fail
    go_ret
    exact ⟨rfl, H2.out, Hb2.out⟩
end Go.Proofs.YtjndekmpnihamaaDoor
