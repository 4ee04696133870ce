/- Whether a table is right: the landed TableOk. -/
import Derived.Test.YtihilcffmdjhhafDoorTbOkS
import Derived.Test.YtihilcffmdjhhafDoorColOkI
import Derived.Test.YtihilcffmdjhhafDoorPl
namespace Go.Proofs.YtihilcffmdjhhafDoor
open Go.ChangeShapes Go.WideShapes Go.ChangeAt Go.RowKit

theorem colAt_first {cs : List Cl} {s : ByteArray} {k : Nat} (h : colAt cs s = k) : ∃ hk : k < cs.length, cs[k].name = s ∧ ∀ j (h : j < cs.length), j < k → cs[j].name ≠ s := by
  unfold colAt at h
  cases hf : cs.findIdx? (fun c => decide (c.name = s)) with
  | none => rw [hf] at h; simp only [] at h; omega
  | some i =>
    rw [hf] at h
    simp only [] at h
    obtain rfl : i = k := by omega
    obtain ⟨hi, he, hn⟩ := List.findIdx?_eq_some_iff_getElem.1 hf
    exact ⟨hi, by simpa using he, fun j h hj => by simpa using hn j hj⟩
theorem firsts_not {cs : List Cl} {s : ByteArray} {k : Nat} (h : (firsts cs k).find? (fun p => decide (p.2.name = s)) = .none) : ∀ j (h : j < cs.length), j < k → cs[j].name ≠ s := by
  intro j hj hjk e
  cases hf : cs.findIdx? (fun c => decide (c.name = s)) with
  | none => have := List.findIdx?_eq_none_iff.1 hf _ (List.getElem_mem hj); simp [e] at this
  | some i =>
    obtain ⟨hi, he, hn⟩ := List.findIdx?_eq_some_iff_getElem.1 hf
    by_cases hik : i < k
    · rw [firsts_some hi (by simpa using he) (fun j h hj => by simpa using hn j hj) k hik] at h; cases h
    · have := hn j (by omega); simp [e] at this
theorem firsts_le (cs : List Cl) : ∀ k, (firsts cs k).length ≤ k
  | 0 => by simp [firsts]
  | k + 1 => by
    have ih := firsts_le cs k
    rw [firsts]
    split
    · split
      · omega
      · simp; omega
    · omega
theorem firsts_full (cs : List Cl) : ∀ k, k ≤ cs.length → ((firsts cs k).length = k ↔ ∀ i (h : i < cs.length), i < k → colAt cs cs[i].name = i)
  | 0, _ => ⟨fun _ i h hi => by omega, fun _ => rfl⟩
  | k + 1, hk => by
    have hlt : k < cs.length := by omega
    have ih := firsts_full cs k (by omega)
    cases hq : (firsts cs k).any (fun p => decide (p.2.name = cs[k].name))
    · have hd := firsts_not (firsts_any.1 hq)
      rw [firsts_add hlt hq]
      constructor
      · intro h i hi hik
        by_cases e : i = k
        · subst e; exact colAt_some hi rfl hd
        · exact ih.1 (by simpa using h) i hi (by omega)
      · intro h
        have := ih.2 fun i hi hik => h i hi (by omega)
        simp [this]
    · obtain ⟨q, hqf⟩ := firsts_any.2 hq
      obtain ⟨i, hi, hik, rfl⟩ := firsts_mem k q (List.mem_of_find?_eq_some hqf)
      have hn : cs[i].name = cs[k].name := by
        have := @List.find?_some _ (fun p : Int × Cl => decide (p.2.name = cs[k].name)) _ _ hqf
        simpa using this
      rw [firsts_skip hlt hq]
      constructor
      · intro h; have := firsts_le cs k; omega
      · intro h
        obtain ⟨_, _, h3⟩ := colAt_first (h k hlt (by omega))
        exact absurd hn (h3 i hi hik)

end Go.Proofs.YtihilcffmdjhhafDoor
