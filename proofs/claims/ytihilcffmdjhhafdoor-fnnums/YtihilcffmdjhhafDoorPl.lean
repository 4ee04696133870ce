/- The columns of a table by name: the landed map. -/
import Derived.Test.YtihilcffmdjhhafDoorTab
import Derived.Test.YtihilcffmdjhhafDoorMp
import Derived.Carry
namespace Go.Proofs.YtihilcffmdjhhafDoor
open Go.ChangeShapes Go.WideShapes Go.ChangeAt Go.RowKit

/-- A column and its place. -/
abbrev pcells (p : Int × Cl) : Array Value := #[.int .i64 p.1, .string p.2.name, .int .i64 p.2.ty, .bool p.2.nt, .bool p.2.has, .int .i64 p.2.dt, .int .i64 p.2.dn, .string p.2.ds]
/-- .. as the map holds it. -/
def pent (p : Int × Cl) : ByteArray × Value := (p.2.name, .agg (pcells p))
/-- The first of the columns with one name, among the first k. -/
def firsts (cs : List Cl) : Nat → List (Int × Cl)
  | 0 => []
  | k + 1 => match cs[k]? with
    | some c => if (firsts cs k).any (fun p => decide (p.2.name = c.name)) then firsts cs k else firsts cs k ++ [((k : Int), c)]
    | .none => firsts cs k
theorem firsts_skip {cs : List Cl} {k : Nat} (hk : k < cs.length) (h : (firsts cs k).any (fun p => decide (p.2.name = cs[k].name)) = true) : firsts cs (k + 1) = firsts cs k := by
  rw [firsts, List.getElem?_eq_getElem hk]; simp only []; rw [if_pos h]
theorem firsts_add {cs : List Cl} {k : Nat} (hk : k < cs.length) (h : (firsts cs k).any (fun p => decide (p.2.name = cs[k].name)) = false) : firsts cs (k + 1) = firsts cs k ++ [((k : Int), cs[k])] := by
  rw [firsts, List.getElem?_eq_getElem hk]; simp only []; rw [if_neg (by rw [h]; decide)]
theorem firsts_mem {cs : List Cl} : ∀ (k : Nat) (p : Int × Cl), p ∈ firsts cs k → ∃ i, ∃ h : i < cs.length, i < k ∧ p = ((i : Int), cs[i])
  | 0, p, h => by simp [firsts] at h
  | k + 1, p, h => by
    by_cases hk : k < cs.length
    · cases hq : (firsts cs k).any (fun p => decide (p.2.name = cs[k].name))
      · rw [firsts_add hk hq] at h
        rcases List.mem_append.1 h with h | h
        · obtain ⟨i, hi, hl, e⟩ := firsts_mem k p h; exact ⟨i, hi, by omega, e⟩
        · simp at h; exact ⟨k, hk, by omega, h⟩
      · rw [firsts_skip hk hq] at h
        obtain ⟨i, hi, hl, e⟩ := firsts_mem k p h; exact ⟨i, hi, by omega, e⟩
    · rw [firsts, List.getElem?_eq_none (by omega)] at h
      obtain ⟨i, hi, hl, e⟩ := firsts_mem k p h; exact ⟨i, hi, by omega, e⟩
theorem firsts_none {cs : List Cl} {s : ByteArray} {k : Nat} (hn : ∀ j (h : j < cs.length), j < k → cs[j].name ≠ s) : (firsts cs k).find? (fun p => decide (p.2.name = s)) = .none := by
  rw [List.find?_eq_none]
  intro p hp
  obtain ⟨i, hi, hl, rfl⟩ := firsts_mem k p hp
  simpa using hn i hi hl
theorem firsts_some {cs : List Cl} {s : ByteArray} {i : Nat} (hi : i < cs.length) (he : cs[i].name = s) (hn : ∀ j (h : j < cs.length), j < i → cs[j].name ≠ s) : ∀ k, i < k → (firsts cs k).find? (fun p => decide (p.2.name = s)) = some ((i : Int), cs[i])
  | 0, h => by omega
  | k + 1, h => by
    by_cases hk : k < cs.length
    · by_cases e : i = k
      · subst e
        have h0 := firsts_none (k := i) hn
        have hq : (firsts cs i).any (fun p => decide (p.2.name = cs[i].name)) = false := by
          rw [List.any_eq_false]; intro p hp; have := List.find?_eq_none.1 h0 p hp; rw [he]; simpa using this
        rw [firsts_add hk hq, List.find?_append, h0]
        simp [he]
      · have ih := firsts_some hi he hn k (by omega)
        cases hq : (firsts cs k).any (fun p => decide (p.2.name = cs[k].name))
        · rw [firsts_add hk hq, List.find?_append, ih]; rfl
        · rw [firsts_skip hk hq]; exact ih
    · have e : firsts cs (k + 1) = firsts cs k := by rw [firsts, List.getElem?_eq_none (by omega)]
      rw [e]
      by_cases e : i = k
      · omega
      · exact firsts_some hi he hn k (by omega)
theorem firsts_any {cs : List Cl} {k : Nat} {s : ByteArray} : ((firsts cs k).any (fun p => decide (p.2.name = s)) = false → (firsts cs k).find? (fun p => decide (p.2.name = s)) = .none) ∧ ((firsts cs k).any (fun p => decide (p.2.name = s)) = true → ∃ q, (firsts cs k).find? (fun p => decide (p.2.name = s)) = some q) := by
  refine ⟨fun h => List.find?_eq_none.2 fun p hp => ?_, fun h => ?_⟩
  · have := List.any_eq_false.1 h p hp; simpa using this
  · have : ((firsts cs k).find? (fun p => decide (p.2.name = s))).isSome = true := by rw [List.find?_isSome]; simpa using h
    exact Option.isSome_iff_exists.1 this
/-- The map's list. -/
def plist (cs : List Cl) (k : Nat) : List (ByteArray × Value) := (firsts cs k).map pent
theorem plist_find (cs : List Cl) (k : Nat) (s : ByteArray) : (plist cs k).find? (fun p => decide (p.1 = s)) = ((firsts cs k).find? (fun p => decide (p.2.name = s))).map pent := by
  unfold plist
  rw [List.find?_map]
  rfl

theorem run_makeMap_hint {P : Program} {t k e : TypeId} (ht : P.underlying t = some (.map k e)) (q : IntKind) (n : Int) (w : World) : (Instr.makeMap t (some (.int q n))).run P w = .ok (.map (some w.heap.size)) (w.alloc (.map #[] 0)) := by
  simp [Instr.makeMap, run_underlying ht, Result.andThen]
  rfl

theorem colAt_firsts (cs : List Cl) (s : ByteArray) : ((firsts cs cs.length).find? (fun p => decide (p.2.name = s)) = .none ∧ colAt cs s = -1) ∨ ∃ i, ∃ h : i < cs.length, (firsts cs cs.length).find? (fun p => decide (p.2.name = s)) = some ((i : Int), cs[i]) ∧ colAt cs s = i := by
  cases hf : cs.findIdx? (fun c => decide (c.name = s)) with
  | none =>
    have hn : ∀ j (h : j < cs.length), cs[j].name ≠ s := fun j h => by
      have := List.findIdx?_eq_none_iff.1 hf _ (List.getElem_mem h); simpa using this
    exact Or.inl ⟨firsts_none fun j h _ => hn j h, by rw [colAt, hf]⟩
  | some i =>
    obtain ⟨hi, he, hn⟩ := List.findIdx?_eq_some_iff_getElem.1 hf
    refine Or.inr ⟨i, hi, firsts_some hi (by simpa using he) (fun j h hj => by simpa using hn j hj) _ hi, by rw [colAt, hf]⟩
end Go.Proofs.YtihilcffmdjhhafDoor
