/- The columns of a table by name: the landed map. -/
import Derived.Test.YtiijahoheajppaaTab
import Derived.Test.YtiijahoheajppaaMp
import Derived.Carry
namespace Go.Proofs.Ytiijahoheajppaa
open Go.ChangeShapes Go.WideShapes Go.ChangeAt Go.RowKit

/-- A column and its place. -/
abbrev pcells (p : Int × Cl) : Array Value := #[.int .i64 p.1, .string p.2.name, .int .i64 p.2.ty, .bool p.2.nt, .bool p.2.has, .int .i64 p.2.dt, .int .i64 p.2.dn, .string p.2.ds]
/-- .. as the map holds it. -/
def pent (p : Int × Cl) : ByteArray × Value := (p.2.name, .agg (pcells p))
/-- The first of the columns with one name, among the first k. -/
def firsts (cs : List Cl) : Nat → List (Int × Cl)
  | 0 => []
  | k + 1 => match cs[k]? with
    | some c => if (firsts cs k).any (fun p => decide (p.2.name = c.name)) then firsts cs k else firsts cs k ++ [((k : Int), c)]
    | .none => firsts cs k
theorem firsts_skip {cs : List Cl} {k : Nat} (hk : k < cs.length) (h : (firsts cs k).any (fun p => decide (p.2.name = cs[k].name)) = true) : firsts cs (k + 1) = firsts cs k := by
  rw [firsts, List.getElem?_eq_getElem hk]; simp only []; rw [if_pos h]
theorem firsts_add {cs : List Cl} {k : Nat} (hk : k < cs.length) (h : (firsts cs k).any (fun p => decide (p.2.name = cs[k].name)) = false) : firsts cs (k + 1) = firsts cs k ++ [((k : Int), cs[k])] := by
  rw [firsts, List.getElem?_eq_getElem hk]; simp only []; rw [if_neg (by rw [h]; decide)]
theorem firsts_mem {cs : List Cl} : ∀ (k : Nat) (p : Int × Cl), p ∈ firsts cs k → ∃ i, ∃ h : i < cs.length, i < k ∧ p = ((i : Int), cs[i])
  | 0, p, h => by simp [firsts] at h
  | k + 1, p, h => by
    by_cases hk : k < cs.length
    · cases hq : (firsts cs k).any (fun p => decide (p.2.name = cs[k].name))
      · rw [firsts_add hk hq] at h
        rcases List.mem_append.1 h with h | h
        · obtain ⟨i, hi, hl, e⟩ := firsts_mem k p h; exact ⟨i, hi, by omega, e⟩
        · simp at h; exact ⟨k, hk, by omega, h⟩
      · rw [firsts_skip hk hq] at h
        obtain ⟨i, hi, hl, e⟩ := firsts_mem k p h; exact ⟨i, hi, by omega, e⟩
    · rw [firsts, List.getElem?_eq_none (by omega)] at h
      obtain ⟨i, hi, hl, e⟩ := firsts_mem k p h; exact ⟨i, hi, by omega, e⟩
theorem firsts_none {cs : List Cl} {s : ByteArray} {k : Nat} (hn : ∀ j (h : j < cs.length), j < k → cs[j].name ≠ s) : (firsts cs k).find? (fun p => decide (p.2.name = s)) = .none := by
  rw [List.find?_eq_none]
  intro p hp
  obtain ⟨i, hi, hl, rfl⟩ := firsts_mem k p hp
  simpa using hn i hi hl
theorem firsts_some {cs : List Cl} {s : ByteArray} {i : Nat} (hi : i < cs.length) (he : cs[i].name = s) (hn : ∀ j (h : j < cs.length), j < i → cs[j].name ≠ s) : ∀ k, i < k → (firsts cs k).find? (fun p => decide (p.2.name = s)) = some ((i : Int), cs[i])
  | 0, h => by omega
  | k + 1, h => by
    by_cases hk : k < cs.length
    · by_cases e : i = k
      · subst e
        have h0 := firsts_none (k := i) hn
        have hq : (firsts cs i).any (fun p => decide (p.2.name = cs[i].name)) = false := by
          rw [List.any_eq_false]; intro p hp; have := List.find?_eq_none.1 h0 p hp; rw [he]; simpa using this
        rw [firsts_add hk hq, List.find?_append, h0]
        simp [he]
      · have ih := firsts_some hi he hn k (by omega)
        cases hq : (firsts cs k).any (fun p => decide (p.2.name = cs[k].name))
        · rw [firsts_add hk hq, List.find?_append, ih]; rfl
        · rw [firsts_skip hk hq]; exact ih
    · have e : firsts cs (k + 1) = firsts cs k := by rw [firsts, List.getElem?_eq_none (by omega)]
      rw [e]
      by_cases e : i = k
      · omega
      · exact firsts_some hi he hn k (by omega)
theorem firsts_any {cs : List Cl} {k : Nat} {s : ByteArray} : ((firsts cs k).any (fun p => decide (p.2.name = s)) = false → (firsts cs k).find? (fun p => decide (p.2.name = s)) = .none) ∧ ((firsts cs k).any (fun p => decide (p.2.name = s)) = true → ∃ q, (firsts cs k).find? (fun p => decide (p.2.name = s)) = some q) := by
  refine ⟨fun h => List.find?_eq_none.2 fun p hp => ?_, fun h => ?_⟩
  · have := List.any_eq_false.1 h p hp; simpa using this
  · have : ((firsts cs k).find? (fun p => decide (p.2.name = s))).isSome = true := by rw [List.find?_isSome]; simpa using h
    exact Option.isSome_iff_exists.1 this
/-- The map's list. -/
def plist (cs : List Cl) (k : Nat) : List (ByteArray × Value) := (firsts cs k).map pent
theorem plist_find (cs : List Cl) (k : Nat) (s : ByteArray) : (plist cs k).find? (fun p => decide (p.1 = s)) = ((firsts cs k).find? (fun p => decide (p.2.name = s))).map pent := by
  unfold plist
  rw [List.find?_map]
  rfl

theorem zeroP : ∀ w : World, (zeroValue 102).run Try.prog w = .ok (.agg #[.int .i64 0, .string ByteArray.empty, .int .i64 0, .bool false, .bool false, .int .i64 0, .int .i64 0, .string ByteArray.empty]) w := fun w => by kernel_rfl
theorem run_makeMap_hint {P : Program} {t k e : TypeId} (ht : P.underlying t = some (.map k e)) (q : IntKind) (n : Int) (w : World) : (Instr.makeMap t (some (.int q n))).run P w = .ok (.map (some w.heap.size)) (w.alloc (.map #[] 0)) := by
  simp [Instr.makeMap, run_underlying ht, Result.andThen]
  rfl

set_option maxRecDepth 100000 in
set_option maxHeartbeats 1000000 in
/-- impl.columnsOf -/
theorem columnsOf_any (cv : Value) (cs : List Cl) (w : World) (hc : ColsV w cv cs) (hf : ∀ c ∈ cs, c.name.size ≤ maxLen ∧ c.ds.size ≤ maxLen) :
    Calls Try.prog 61 #[cv] w fun e w' => ∃ b, e = .returned (.map (some b)) ∧ Below w.heap.size w w' ∧ MapIs Try.prog 9 w' b cs.length (plist cs cs.length) := by
  obtain ⟨a, cap, rfl, hl, hm, hc⟩ := hc
  unfold maxLen at hm
  have HC : Hid (RowAt w a 7 (cs.map Cl.cells)) := hc
  have HK : Hid (∀ c ∈ cs, c.name.size ≤ maxLen ∧ c.ds.size ≤ maxLen) := hf
  clear hc hf
  have hmm := fun q n w => run_makeMap_hint (P := Try.prog) Try.underlying90 q n w
  go_enter Try.func61, Try.ntmps61
  go_wp2
  have HM0 : Hid (MapIs Try.prog 9 (w.alloc (.map #[] 0)) w.heap.size 0 (plist cs 0)) := MapIs.made
  go_loopw [13] (fun i wr => ∃ k : Nat, k ≤ cs.length ∧ i = .int .i64 k ∧ Below w.heap.size w wr ∧ Hid (MapIs Try.prog 9 wr w.heap.size k (plist cs k))) (fun i _ => cs.length - (intOf i).toNat)
  case atStart => exact ⟨0, Nat.zero_le _, rfl, (by repeat (first | with_reducible exact Below.refl _ _ | with_reducible assumption | with_reducible refine ch_alloc ?_ _ | with_reducible refine Below.drew ?_ | with_reducible refine below_draws _ ?_ | (with_reducible refine Below.setCell ?_ ?_ _; rotate_left; focus (first | with_reducible exact Nat.le_refl _ | (simp; done) | (simp; omega) | (simp at *; omega))) | with_reducible refine ch_trans ?_ (by with_reducible assumption))), HM0⟩
  case round =>
    clear HM0 hmm
    obtain ⟨k, hk, rfl, hb, HM⟩ := hrel
    by_cases hlt : k < cs.length
    · have hlti : (k : Int) < cs.length := by omega
      obtain ⟨b, off, rfl, c0, c1, c2, c3, c4, c5, c6⟩ := (HC.out.on hb).cols k hlt
      obtain ⟨s1, s2⟩ := HK.out _ (List.getElem_mem hlt)
      have hM1 : MapIs Try.prog 9 (wr.alloc (.cells #[.string cs[k].name, .int .i64 cs[k].ty, .bool cs[k].nt, .bool cs[k].has, .int .i64 cs[k].dt, .int .i64 cs[k].dn, .string cs[k].ds] 60)) w.heap.size k (plist cs k) := HM.out.on (ch_alloc (Below.refl _ _) _) HM.out.lt
      cases hq : (firsts cs k).any (fun p => decide (p.2.name = cs[k].name))
      · have hf := plist_find cs k cs[k].name
        rw [firsts_any.1 hq] at hf
        have hlook := hM1.look_no Try.underlying9 Try.underlying90 (zeroP _) s1 hf
        obtain ⟨w1, hup, hM2, hbel, hsz⟩ := (hM1.on (ch_alloc (Below.refl _ _) (.cells #[.int .i64 0, .string ByteArray.empty, .int .i64 0, .bool false, .bool false, .int .i64 0, .int .i64 0, .string ByteArray.empty] 102)) hM1.lt).put Try.underlying9 Try.underlying90 (by unfold maxLen; omega) s1 hf (.agg (pcells ((k : Int), cs[k])))
        have HM' : Hid (MapIs Try.prog 9 w1 w.heap.size (k + 1) (plist cs (k + 1))) := by
          show MapIs _ _ _ _ _ _
          unfold plist
          rw [firsts_add hlt hq, List.map_append]
          exact hM2
        have HB' : Hid (Below w.heap.size w w1) := Below.trans (b := ((wr.alloc (.cells #[.string cs[k].name, .int .i64 cs[k].ty, .bool cs[k].nt, .bool cs[k].has, .int .i64 cs[k].dt, .int .i64 cs[k].dn, .string cs[k].ds] 60)).alloc (.cells #[.int .i64 0, .string ByteArray.empty, .int .i64 0, .bool false, .bool false, .int .i64 0, .int .i64 0, .string ByteArray.empty] 102))) (by repeat (first | with_reducible exact Below.refl _ _ | with_reducible assumption | with_reducible refine ch_alloc ?_ _ | with_reducible refine Below.drew ?_ | with_reducible refine below_draws _ ?_ | (with_reducible refine Below.setCell ?_ ?_ _; rotate_left; focus (first | with_reducible exact Nat.le_refl _ | (simp; done) | (simp; omega) | (simp at *; omega))) | with_reducible refine ch_trans ?_ (by with_reducible assumption))) hbel
        clear hf hM1 hM2 hbel hsz HM hq s1 s2
        go_wp2
        go_round
        case rel => exact ⟨k + 1, by omega, by go_num, HB'.out, HM'⟩
        case measure => simp [intOf]; omega
      · have hf := plist_find cs k cs[k].name
        obtain ⟨q, hqf⟩ := firsts_any.2 hq
        rw [hqf] at hf
        have hlook : _ = Result.ok (Value.tuple #[.agg #[.int .i64 q.1, .string q.2.name, .int .i64 q.2.ty, .bool q.2.nt, .bool q.2.has, .int .i64 q.2.dt, .int .i64 q.2.dn, .string q.2.ds], .bool true]) _ := hM1.look_yes Try.underlying9 Try.underlying90 (zeroP _) s1 hf
        have HM' : Hid (MapIs Try.prog 9 ((wr.alloc (.cells #[.string cs[k].name, .int .i64 cs[k].ty, .bool cs[k].nt, .bool cs[k].has, .int .i64 cs[k].dt, .int .i64 cs[k].dn, .string cs[k].ds] 60)).alloc (.cells #[.int .i64 q.1, .string q.2.name, .int .i64 q.2.ty, .bool q.2.nt, .bool q.2.has, .int .i64 q.2.dt, .int .i64 q.2.dn, .string q.2.ds] 102)) w.heap.size (k + 1) (plist cs (k + 1))) := by
          show MapIs _ _ _ _ _ _
          unfold plist
          rw [firsts_skip hlt hq]
          exact (hM1.on (ch_alloc (Below.refl _ _) _) hM1.lt).mono (by omega)
        clear hf hM1 HM hq s1 s2 hqf
        go_wp2
        go_round
        case rel => exact ⟨k + 1, by omega, by go_num, (by repeat (first | with_reducible exact Below.refl _ _ | with_reducible assumption | with_reducible refine ch_alloc ?_ _ | with_reducible refine Below.drew ?_ | with_reducible refine below_draws _ ?_ | (with_reducible refine Below.setCell ?_ ?_ _; rotate_left; focus (first | with_reducible exact Nat.le_refl _ | (simp; done) | (simp; omega) | (simp at *; omega))) | with_reducible refine ch_trans ?_ (by with_reducible assumption))), HM'⟩
        case measure => simp [intOf]; omega
    · have hlti : (cs.length : Int) ≤ k := by omega
      have hke : k = cs.length := by omega
      subst hke
      go_wp2
      go_ret
      exact ⟨_, rfl, (by repeat (first | with_reducible exact Below.refl _ _ | with_reducible assumption | with_reducible refine ch_alloc ?_ _ | with_reducible refine Below.drew ?_ | with_reducible refine below_draws _ ?_ | (with_reducible refine Below.setCell ?_ ?_ _; rotate_left; focus (first | with_reducible exact Nat.le_refl _ | (simp; done) | (simp; omega) | (simp at *; omega))) | with_reducible refine ch_trans ?_ (by with_reducible assumption))), HM.out⟩

theorem colAt_firsts (cs : List Cl) (s : ByteArray) : ((firsts cs cs.length).find? (fun p => decide (p.2.name = s)) = .none ∧ colAt cs s = -1) ∨ ∃ i, ∃ h : i < cs.length, (firsts cs cs.length).find? (fun p => decide (p.2.name = s)) = some ((i : Int), cs[i]) ∧ colAt cs s = i := by
  cases hf : cs.findIdx? (fun c => decide (c.name = s)) with
  | none =>
    have hn : ∀ j (h : j < cs.length), cs[j].name ≠ s := fun j h => by
      have := List.findIdx?_eq_none_iff.1 hf _ (List.getElem_mem h); simpa using this
    exact Or.inl ⟨firsts_none fun j h _ => hn j h, by rw [colAt, hf]⟩
  | some i =>
    obtain ⟨hi, he, hn⟩ := List.findIdx?_eq_some_iff_getElem.1 hf
    refine Or.inr ⟨i, hi, firsts_some hi (by simpa using he) (fun j h hj => by simpa using hn j hj) _ hi, by rw [colAt, hf]⟩
end Go.Proofs.Ytiijahoheajppaa
