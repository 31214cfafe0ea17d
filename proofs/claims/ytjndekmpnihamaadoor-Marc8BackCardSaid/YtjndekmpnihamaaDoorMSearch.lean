/-
  The reference's search for a composed character finds what the table of the program says.
-/
import Derived.Test.YtjndekmpnihamaaDoorMTaken
namespace Go.Proofs.YtjndekmpnihamaaDoor
open Go.RowKit Go.Shelf
set_option linter.unusedVariables false
set_option linter.unusedSimpArgs false

abbrev FRow := List UInt8 × List UInt8 × List UInt8
def rowR (r : FRow) : List Int := runesR r.1.length r.1
def markR (r : FRow) : Int := (runesR r.2.2.length r.2.2).headD 0
def searchR (m c : Int) : List Int → List UInt8 → Option (Int × Int)
  | a :: cs, b :: bs => if a = c then some ((b.toNat : Int), m) else searchR m c cs bs
  | _, _ => none
def searchF (c : Int) : List FRow → Option (Int × Int)
  | [] => none
  | r :: rs => match searchR (markR r) c (rowR r) r.2.1 with
    | some x => some x
    | none => searchF c rs
def rowOk (r : FRow) : Bool := ((rowR r).length == r.2.1.length) && ((runesR r.2.2.length r.2.2).length == 1) && decide (r.1.length ≤ 100) && decide (r.2.2.length ≤ 100)
theorem fam_ok : refFam.all rowOk = true := by decide +kernel
theorem searchR_mem {m c : Int} : ∀ {cs : List Int} {bs : List UInt8} {x : Int × Int}, searchR m c cs bs = some x → c ∈ cs
  | a :: cs, b :: bs, x, h => by
    unfold searchR at h
    split at h
    · rename_i e; rw [← e]; exact List.mem_cons_self ..
    · exact List.mem_cons_of_mem _ (searchR_mem h)
  | [], _, _, h => by simp [searchR] at h
  | _ :: _, [], _, h => by simp [searchR] at h
theorem searchF_mem {c : Int} : ∀ {l : List FRow} {x : Int × Int}, searchF c l = some x → c ∈ l.flatMap rowR
  | [], _, h => by simp [searchF] at h
  | r :: rs, x, h => by
    unfold searchF at h
    rw [List.flatMap_cons, List.mem_append]
    cases hr : searchR (markR r) c (rowR r) r.2.1 with
    | some y => exact .inl (searchR_mem hr)
    | none => rw [hr] at h; exact .inr (searchF_mem h)
theorem keys_fam : (refFam.flatMap rowR).all (fun c => searchF c refFam == compC c) = true := by decide +kernel
theorem keys_comp : (composedL.map (fun p => p.1)).all (fun c => searchF c refFam == compC c) = true := by decide +kernel
theorem search_is (c : Int) : searchF c refFam = compC c := by
  by_cases h : c ∈ refFam.flatMap rowR
  · have := List.all_eq_true.1 keys_fam c h
    simpa using this
  · by_cases h2 : c ∈ composedL.map (fun p => p.1)
    · have := List.all_eq_true.1 keys_comp c h2
      simpa using this
    · have h3 : searchF c refFam = none := by
        cases hs : searchF c refFam with
        | none => rfl
        | some x => exact absurd (searchF_mem hs) h
      have h4 : compC c = none := by
        cases hs : compC c with
        | none => rfl
        | some x => exact absurd (List.mem_map.2 ⟨_, compC_mem hs, rfl⟩) h2
      rw [h3, h4]
end Go.Proofs.YtjndekmpnihamaaDoor
