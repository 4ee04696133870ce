/- The columns of a table by name: the landed map. Whether a table is right: the landed TableOk. -/
import Derived.Test.YtikccmgpmbnkfaaGreatTab
import Derived.Test.YtikccmgpmbnkfaaGreatMp
import Derived.Carry
import Derived.Test.YtikccmgpmbnkfaaGreatTbOkS
import Derived.Test.YtikccmgpmbnkfaaGreatColOkI
namespace Go.Proofs.YtikccmgpmbnkfaaGreat
open Go.ChangeShapes Go.WideShapes Go.ChangeAt Go.RowKit

/-- A column and its place. -/
abbrev pcells (p : Int × Cl) : Array Value := #[.int .i64 p.1, .string p.2.name, .int .i64 p.2.ty, .bool p.2.nt, .bool p.2.has, .int .i64 p.2.dt, .int .i64 p.2.dn, .string p.2.ds]
/-- .. as the map holds it. -/
def pent (p : Int × Cl) : ByteArray × Value := (p.2.name, .agg (pcells p))
/-- The first of the columns with one name, among the first k. -/
def firsts (cs : List Cl) : Nat → List (Int × Cl)
  | 0 => []
  | k + 1 => match cs[k]? with
    | some c => if (firsts cs k).any (fun p => decide (p.2.name = c.name)) then firsts cs k else firsts cs k ++ [((k : Int), c)]
    | .none => firsts cs k
theorem firsts_skip {cs : List Cl} {k : Nat} (hk : k < cs.length) (h : (firsts cs k).any (fun p => decide (p.2.name = cs[k].name)) = true) : firsts cs (k + 1) = firsts cs k := by
  rw [firsts, List.getElem?_eq_getElem hk]; simp only []; rw [if_pos h]
theorem firsts_add {cs : List Cl} {k : Nat} (hk : k < cs.length) (h : (firsts cs k).any (fun p => decide (p.2.name = cs[k].name)) = false) : firsts cs (k + 1) = firsts cs k ++ [((k : Int), cs[k])] := by
  rw [firsts, List.getElem?_eq_getElem hk]; simp only []; rw [if_neg (by rw [h]; decide)]
theorem firsts_mem {cs : List Cl} : ∀ (k : Nat) (p : Int × Cl), p ∈ firsts cs k → ∃ i, ∃ h : i < cs.length, i < k ∧ p = ((i : Int), cs[i])
  | 0, p, h => by simp [firsts] at h
  | k + 1, p, h => by
    by_cases hk : k < cs.length
    · cases hq : (firsts cs k).any (fun p => decide (p.2.name = cs[k].name))
      · rw [firsts_add hk hq] at h
        rcases List.mem_append.1 h with h | h
        · obtain ⟨i, hi, hl, e⟩ := firsts_mem k p h; exact ⟨i, hi, by omega, e⟩
        · simp at h; exact ⟨k, hk, by omega, h⟩
      · rw [firsts_skip hk hq] at h
        obtain ⟨i, hi, hl, e⟩ := firsts_mem k p h; exact ⟨i, hi, by omega, e⟩
    · rw [firsts, List.getElem?_eq_none (by omega)] at h
      obtain ⟨i, hi, hl, e⟩ := firsts_mem k p h; exact ⟨i, hi, by omega, e⟩
theorem firsts_none {cs : List Cl} {s : ByteArray} {k : Nat} (hn : ∀ j (h : j < cs.length), j < k → cs[j].name ≠ s) : (firsts cs k).find? (fun p => decide (p.2.name = s)) = .none := by
  rw [List.find?_eq_none]
  intro p hp
  obtain ⟨i, hi, hl, rfl⟩ := firsts_mem k p hp
  simpa using hn i hi hl
theorem firsts_some {cs : List Cl} {s : ByteArray} {i : Nat} (hi : i < cs.length) (he : cs[i].name = s) (hn : ∀ j (h : j < cs.length), j < i → cs[j].name ≠ s) : ∀ k, i < k → (firsts cs k).find? (fun p => decide (p.2.name = s)) = some ((i : Int), cs[i])
  | 0, h => by omega
  | k + 1, h => by
    by_cases hk : k < cs.length
    · by_cases e : i = k
      · subst e
        have h0 := firsts_none (k := i) hn
        have hq : (firsts cs i).any (fun p => decide (p.2.name = cs[i].name)) = false := by
          rw [List.any_eq_false]; intro p hp; have := List.find?_eq_none.1 h0 p hp; rw [he]; simpa using this
        rw [firsts_add hk hq, List.find?_append, h0]
        simp [he]
      · have ih := firsts_some hi he hn k (by omega)
        cases hq : (firsts cs k).any (fun p => decide (p.2.name = cs[k].name))
        · rw [firsts_add hk hq, List.find?_append, ih]; rfl
        · rw [firsts_skip hk hq]; exact ih
    · have e : firsts cs (k + 1) = firsts cs k := by rw [firsts, List.getElem?_eq_none (by omega)]
      rw [e]
      by_cases e : i = k
      · omega
      · exact firsts_some hi he hn k (by omega)
theorem firsts_any {cs : List Cl} {k : Nat} {s : ByteArray} : ((firsts cs k).any (fun p => decide (p.2.name = s)) = false → (firsts cs k).find? (fun p => decide (p.2.name = s)) = .none) ∧ ((firsts cs k).any (fun p => decide (p.2.name = s)) = true → ∃ q, (firsts cs k).find? (fun p => decide (p.2.name = s)) = some q) := by
  refine ⟨fun h => List.find?_eq_none.2 fun p hp => ?_, fun h => ?_⟩
  · have := List.any_eq_false.1 h p hp; simpa using this
  · have : ((firsts cs k).find? (fun p => decide (p.2.name = s))).isSome = true := by rw [List.find?_isSome]; simpa using h
    exact Option.isSome_iff_exists.1 this
/-- The map's list. -/
def plist (cs : List Cl) (k : Nat) : List (ByteArray × Value) := (firsts cs k).map pent
theorem plist_find (cs : List Cl) (k : Nat) (s : ByteArray) : (plist cs k).find? (fun p => decide (p.1 = s)) = ((firsts cs k).find? (fun p => decide (p.2.name = s))).map pent := by
  unfold plist
  rw [List.find?_map]
  rfl

theorem zeroP : ∀ w : World, (zeroValue 213).run Tryz.prog w = .ok (.agg #[.int .i64 0, .string ByteArray.empty, .int .i64 0, .bool false, .bool false, .int .i64 0, .int .i64 0, .string ByteArray.empty]) w := fun w => by kernel_rfl
theorem run_makeMap_hint {P : Program} {t k e : TypeId} (ht : P.underlying t = some (.map k e)) (q : IntKind) (n : Int) (w : World) : (Instr.makeMap t (some (.int q n))).run P w = .ok (.map (some w.heap.size)) (w.alloc (.map #[] 0)) := by
  simp [Instr.makeMap, run_underlying ht, Result.andThen]
  rfl

set_option maxRecDepth 100000 in
set_option maxHeartbeats 1000000 in
/-- impl.columnsOf -/
theorem columnsOf_any (cv : Value) (cs : List Cl) (w : World) (hc : ColsV w cv cs) (hf : ∀ c ∈ cs, c.name.size ≤ maxLen ∧ c.ds.size ≤ maxLen) :
    Calls Tryz.prog 154 #[cv] w fun e w' => ∃ b, e = .returned (.map (some b)) ∧ Below w.heap.size w w' ∧ MapIs Tryz.prog 9 w' b cs.length (plist cs cs.length) := by
  obtain ⟨a, cap, rfl, hl, hm, hc⟩ := hc
  unfold maxLen at hm
  have HC : Hid (RowAt w a 7 (cs.map Cl.cells)) := hc
  have HK : Hid (∀ c ∈ cs, c.name.size ≤ maxLen ∧ c.ds.size ≤ maxLen) := hf
  clear hc hf
  have hmm := fun q n w => run_makeMap_hint (P := Tryz.prog) Tryz.underlying201 q n w
  go_enter Tryz.func154, Tryz.ntmps154
  go_wp2
  have HM0 : Hid (MapIs Tryz.prog 9 (w.alloc (.map #[] 0)) w.heap.size 0 (plist cs 0)) := MapIs.made
  go_loopw [13] (fun i wr => ∃ k : Nat, k ≤ cs.length ∧ i = .int .i64 k ∧ Below w.heap.size w wr ∧ Hid (MapIs Tryz.prog 9 wr w.heap.size k (plist cs k))) (fun i _ => cs.length - (intOf i).toNat)
  case atStart => exact ⟨0, Nat.zero_le _, rfl, (by repeat (first | with_reducible exact Below.refl _ _ | with_reducible assumption | with_reducible refine ch_alloc ?_ _ | with_reducible refine Below.drew ?_ | with_reducible refine below_draws _ ?_ | (with_reducible refine Below.setCell ?_ ?_ _; rotate_left; focus (first | with_reducible exact Nat.le_refl _ | (simp; done) | (simp; omega) | (simp at *; omega))) | with_reducible refine ch_trans ?_ (by with_reducible assumption))), HM0⟩
  case round =>
    clear HM0 hmm
    obtain ⟨k, hk, rfl, hb, HM⟩ := hrel
    by_cases hlt : k < cs.length
    · have hlti : (k : Int) < cs.length := by omega
      obtain ⟨b, off, rfl, c0, c1, c2, c3, c4, c5, c6⟩ := (HC.out.on hb).cols k hlt
      obtain ⟨s1, s2⟩ := HK.out _ (List.getElem_mem hlt)
      have hM1 : MapIs Tryz.prog 9 (wr.alloc (.cells #[.string cs[k].name, .int .i64 cs[k].ty, .bool cs[k].nt, .bool cs[k].has, .int .i64 cs[k].dt, .int .i64 cs[k].dn, .string cs[k].ds] 131)) w.heap.size k (plist cs k) := HM.out.on (ch_alloc (Below.refl _ _) _) HM.out.lt
      cases hq : (firsts cs k).any (fun p => decide (p.2.name = cs[k].name))
      · have hf := plist_find cs k cs[k].name
        rw [firsts_any.1 hq] at hf
        have hlook := hM1.look_no Tryz.underlying9 Tryz.underlying201 (zeroP _) s1 hf
        obtain ⟨w1, hup, hM2, hbel, hsz⟩ := (hM1.on (ch_alloc (Below.refl _ _) (.cells #[.int .i64 0, .string ByteArray.empty, .int .i64 0, .bool false, .bool false, .int .i64 0, .int .i64 0, .string ByteArray.empty] 213)) hM1.lt).put Tryz.underlying9 Tryz.underlying201 (by unfold maxLen; omega) s1 hf (.agg (pcells ((k : Int), cs[k])))
        have HM' : Hid (MapIs Tryz.prog 9 w1 w.heap.size (k + 1) (plist cs (k + 1))) := by
          show MapIs _ _ _ _ _ _
          unfold plist
          rw [firsts_add hlt hq, List.map_append]
          exact hM2
        have HB' : Hid (Below w.heap.size w w1) := Below.trans (b := ((wr.alloc (.cells #[.string cs[k].name, .int .i64 cs[k].ty, .bool cs[k].nt, .bool cs[k].has, .int .i64 cs[k].dt, .int .i64 cs[k].dn, .string cs[k].ds] 131)).alloc (.cells #[.int .i64 0, .string ByteArray.empty, .int .i64 0, .bool false, .bool false, .int .i64 0, .int .i64 0, .string ByteArray.empty] 213))) (by repeat (first | with_reducible exact Below.refl _ _ | with_reducible assumption | with_reducible refine ch_alloc ?_ _ | with_reducible refine Below.drew ?_ | with_reducible refine below_draws _ ?_ | (with_reducible refine Below.setCell ?_ ?_ _; rotate_left; focus (first | with_reducible exact Nat.le_refl _ | (simp; done) | (simp; omega) | (simp at *; omega))) | with_reducible refine ch_trans ?_ (by with_reducible assumption))) hbel
        clear hf hM1 hM2 hbel hsz HM hq s1 s2
        go_wp2
        go_round
        case rel => exact ⟨k + 1, by omega, by go_num, HB'.out, HM'⟩
        case measure => simp [intOf]; omega
      · have hf := plist_find cs k cs[k].name
        obtain ⟨q, hqf⟩ := firsts_any.2 hq
        rw [hqf] at hf
        have hlook : _ = Result.ok (Value.tuple #[.agg #[.int .i64 q.1, .string q.2.name, .int .i64 q.2.ty, .bool q.2.nt, .bool q.2.has, .int .i64 q.2.dt, .int .i64 q.2.dn, .string q.2.ds], .bool true]) _ := hM1.look_yes Tryz.underlying9 Tryz.underlying201 (zeroP _) s1 hf
        have HM' : Hid (MapIs Tryz.prog 9 ((wr.alloc (.cells #[.string cs[k].name, .int .i64 cs[k].ty, .bool cs[k].nt, .bool cs[k].has, .int .i64 cs[k].dt, .int .i64 cs[k].dn, .string cs[k].ds] 131)).alloc (.cells #[.int .i64 q.1, .string q.2.name, .int .i64 q.2.ty, .bool q.2.nt, .bool q.2.has, .int .i64 q.2.dt, .int .i64 q.2.dn, .string q.2.ds] 213)) w.heap.size (k + 1) (plist cs (k + 1))) := by
          show MapIs _ _ _ _ _ _
          unfold plist
          rw [firsts_skip hlt hq]
          exact (hM1.on (ch_alloc (Below.refl _ _) _) hM1.lt).mono (by omega)
        clear hf hM1 HM hq s1 s2 hqf
        go_wp2
        go_round
        case rel => exact ⟨k + 1, by omega, by go_num, (by repeat (first | with_reducible exact Below.refl _ _ | with_reducible assumption | with_reducible refine ch_alloc ?_ _ | with_reducible refine Below.drew ?_ | with_reducible refine below_draws _ ?_ | (with_reducible refine Below.setCell ?_ ?_ _; rotate_left; focus (first | with_reducible exact Nat.le_refl _ | (simp; done) | (simp; omega) | (simp at *; omega))) | with_reducible refine ch_trans ?_ (by with_reducible assumption))), HM'⟩
        case measure => simp [intOf]; omega
    · have hlti : (cs.length : Int) ≤ k := by omega
      have hke : k = cs.length := by omega
      subst hke
      go_wp2
      go_ret
      exact ⟨_, rfl, (by repeat (first | with_reducible exact Below.refl _ _ | with_reducible assumption | with_reducible refine ch_alloc ?_ _ | with_reducible refine Below.drew ?_ | with_reducible refine below_draws _ ?_ | (with_reducible refine Below.setCell ?_ ?_ _; rotate_left; focus (first | with_reducible exact Nat.le_refl _ | (simp; done) | (simp; omega) | (simp at *; omega))) | with_reducible refine ch_trans ?_ (by with_reducible assumption))), HM.out⟩

theorem colAt_firsts (cs : List Cl) (s : ByteArray) : ((firsts cs cs.length).find? (fun p => decide (p.2.name = s)) = .none ∧ colAt cs s = -1) ∨ ∃ i, ∃ h : i < cs.length, (firsts cs cs.length).find? (fun p => decide (p.2.name = s)) = some ((i : Int), cs[i]) ∧ colAt cs s = i := by
  cases hf : cs.findIdx? (fun c => decide (c.name = s)) with
  | none =>
    have hn : ∀ j (h : j < cs.length), cs[j].name ≠ s := fun j h => by
      have := List.findIdx?_eq_none_iff.1 hf _ (List.getElem_mem h); simpa using this
    exact Or.inl ⟨firsts_none fun j h _ => hn j h, by rw [colAt, hf]⟩
  | some i =>
    obtain ⟨hi, he, hn⟩ := List.findIdx?_eq_some_iff_getElem.1 hf
    refine Or.inr ⟨i, hi, firsts_some hi (by simpa using he) (fun j h hj => by simpa using hn j hj) _ hi, by rw [colAt, hf]⟩
end Go.Proofs.YtikccmgpmbnkfaaGreat

namespace Go.Proofs.YtikccmgpmbnkfaaGreat
open Go.ChangeShapes Go.WideShapes Go.ChangeAt Go.RowKit

theorem colAt_first {cs : List Cl} {s : ByteArray} {k : Nat} (h : colAt cs s = k) : ∃ hk : k < cs.length, cs[k].name = s ∧ ∀ j (h : j < cs.length), j < k → cs[j].name ≠ s := by
  unfold colAt at h
  cases hf : cs.findIdx? (fun c => decide (c.name = s)) with
  | none => rw [hf] at h; simp only [] at h; omega
  | some i =>
    rw [hf] at h
    simp only [] at h
    obtain rfl : i = k := by omega
    obtain ⟨hi, he, hn⟩ := List.findIdx?_eq_some_iff_getElem.1 hf
    exact ⟨hi, by simpa using he, fun j h hj => by simpa using hn j hj⟩
theorem firsts_not {cs : List Cl} {s : ByteArray} {k : Nat} (h : (firsts cs k).find? (fun p => decide (p.2.name = s)) = .none) : ∀ j (h : j < cs.length), j < k → cs[j].name ≠ s := by
  intro j hj hjk e
  cases hf : cs.findIdx? (fun c => decide (c.name = s)) with
  | none => have := List.findIdx?_eq_none_iff.1 hf _ (List.getElem_mem hj); simp [e] at this
  | some i =>
    obtain ⟨hi, he, hn⟩ := List.findIdx?_eq_some_iff_getElem.1 hf
    by_cases hik : i < k
    · rw [firsts_some hi (by simpa using he) (fun j h hj => by simpa using hn j hj) k hik] at h; cases h
    · have := hn j (by omega); simp [e] at this
theorem firsts_le (cs : List Cl) : ∀ k, (firsts cs k).length ≤ k
  | 0 => by simp [firsts]
  | k + 1 => by
    have ih := firsts_le cs k
    rw [firsts]
    split
    · split
      · omega
      · simp; omega
    · omega
theorem firsts_full (cs : List Cl) : ∀ k, k ≤ cs.length → ((firsts cs k).length = k ↔ ∀ i (h : i < cs.length), i < k → colAt cs cs[i].name = i)
  | 0, _ => ⟨fun _ i h hi => by omega, fun _ => rfl⟩
  | k + 1, hk => by
    have hlt : k < cs.length := by omega
    have ih := firsts_full cs k (by omega)
    cases hq : (firsts cs k).any (fun p => decide (p.2.name = cs[k].name))
    · have hd := firsts_not (firsts_any.1 hq)
      rw [firsts_add hlt hq]
      constructor
      · intro h i hi hik
        by_cases e : i = k
        · subst e; exact colAt_some hi rfl hd
        · exact ih.1 (by simpa using h) i hi (by omega)
      · intro h
        have := ih.2 fun i hi hik => h i hi (by omega)
        simp [this]
    · obtain ⟨q, hqf⟩ := firsts_any.2 hq
      obtain ⟨i, hi, hik, rfl⟩ := firsts_mem k q (List.mem_of_find?_eq_some hqf)
      have hn : cs[i].name = cs[k].name := by
        have := @List.find?_some _ (fun p : Int × Cl => decide (p.2.name = cs[k].name)) _ _ hqf
        simpa using this
      rw [firsts_skip hlt hq]
      constructor
      · intro h; have := firsts_le cs k; omega
      · intro h
        obtain ⟨_, _, h3⟩ := colAt_first (h k hlt (by omega))
        exact absurd hn (h3 i hi hik)

set_option maxRecDepth 100000 in
set_option maxHeartbeats 2000000 in
/-- keysOk -/
theorem keysOk_any (b n : Nat) (kv : Value) (cs : List Cl) (ks : List ByteArray) (w : World) (hm : MapIs Tryz.prog 9 w b n (plist cs cs.length)) (hk : StrsV w kv ks) (hf : ∀ s ∈ ks, s.size ≤ maxLen) :
    Calls Tryz.prog 155 #[.map (some b), kv] w fun e w' => ∃ q : Bool, e = .returned (.bool q) ∧ (q = true ↔ (1 ≤ ks.length ∧ ∀ j (h : j < ks.length), keyGood cs ks j h)) ∧ Below w.heap.size w w' := by
  obtain ⟨a, cap, rfl, hl, hm', hk⟩ := hk
  unfold maxLen at hm'
  have HC : Hid (RowAt w a 1 (ks.map strX)) := hk
  have HM : Hid (MapIs Tryz.prog 9 w b n (plist cs cs.length)) := hm
  have HF : Hid (∀ s ∈ ks, s.size ≤ maxLen) := hf
  clear hk hm hf
  go_enter Tryz.func155, Tryz.ntmps155
  go_wp2
  go_loopw [5, 12] (fun v i wr => ∃ j : Nat, j ≤ ks.length ∧ i = .int .i64 j ∧ v = .int .i64 (lastAt cs ks j) ∧ Below w.heap.size w wr ∧ Hid (∀ i (h : i < ks.length), i < j → keyGood cs ks i h)) (fun _ i _ => ks.length - (intOf i).toNat)
  case atStart => exact ⟨0, Nat.zero_le _, rfl, rfl, Below.refl _ _, fun i h hi => by omega⟩
  case round =>
    obtain ⟨j, hj, rfl, rfl, hb, HN⟩ := hrel
    by_cases hjt : j < ks.length
    · have hjti : (j : Int) < ks.length := by omega
      obtain ⟨b', off', rfl, d0⟩ := (HC.out.on hb).strs j hjt
      have HG : Hid (keyGood cs ks j hjt ↔ (lastAt cs ks j < colAt cs ks[j] ∧ ∃ g : (colAt cs ks[j]).toNat < cs.length, cs[(colAt cs ks[j]).toNat].nt = true)) := Iff.rfl
      have HLS : Hid (lastAt cs ks (j + 1) = colAt cs ks[j]) := lastAt_succ hjt
      have hge := lastAt_ge cs ks j
      have hfd := plist_find cs cs.length ks[j]
      have hM := HM.out.on hb HM.out.lt
      have hsz := HF.out _ (List.getElem_mem hjt)
      rcases colAt_firsts cs ks[j] with ⟨h1, h2⟩ | ⟨i, hi, h1, h2⟩
      · rw [h1] at hfd
        have hlook := hM.look_no Tryz.underlying9 Tryz.underlying201 (zeroP _) hsz hfd
        have HB : Hid (¬ keyGood cs ks j hjt) := fun h => by have := (HG.out.1 h).1; omega
        clear hfd hM h1 h2 hsz
        go_wp2
        go_ret
        exact ⟨_, rfl, ⟨fun h => by simp at h, fun h => absurd (h.2 j hjt) HB.out⟩, (by repeat (first | with_reducible exact Below.refl _ _ | with_reducible assumption | with_reducible refine ch_alloc ?_ _ | with_reducible refine Below.drew ?_ | with_reducible refine below_draws _ ?_ | (with_reducible refine Below.setCell ?_ ?_ _; rotate_left; focus (first | with_reducible exact Nat.le_refl _ | (simp; done) | (simp; omega) | (simp at *; omega))) | with_reducible refine ch_trans ?_ (by with_reducible assumption)))⟩
      · rw [h1] at hfd
        have hlook : _ = Result.ok (Value.tuple #[.agg #[.int .i64 i, .string cs[i].name, .int .i64 cs[i].ty, .bool cs[i].nt, .bool cs[i].has, .int .i64 cs[i].dt, .int .i64 cs[i].dn, .string cs[i].ds], .bool true]) _ := hM.look_yes Tryz.underlying9 Tryz.underlying201 (zeroP _) hsz hfd
        rw [h2] at HG HLS
        rw [Int.toNat_natCast] at HG
        clear hfd hM h1 h2 hsz
        cases hnt : cs[i].nt
        · have HB : Hid (¬ keyGood cs ks j hjt) := fun h => by obtain ⟨_, _, h2⟩ := HG.out.1 h; rw [hnt] at h2; cases h2
          rw [hnt] at hlook
          go_wp2
          go_ret
          exact ⟨_, rfl, ⟨fun h => by simp at h, fun h => absurd (h.2 j hjt) HB.out⟩, (by repeat (first | with_reducible exact Below.refl _ _ | with_reducible assumption | with_reducible refine ch_alloc ?_ _ | with_reducible refine Below.drew ?_ | with_reducible refine below_draws _ ?_ | (with_reducible refine Below.setCell ?_ ?_ _; rotate_left; focus (first | with_reducible exact Nat.le_refl _ | (simp; done) | (simp; omega) | (simp at *; omega))) | with_reducible refine ch_trans ?_ (by with_reducible assumption)))⟩
        rw [hnt] at hlook
        by_cases hle : (i : Int) ≤ lastAt cs ks j
        · have HB : Hid (¬ keyGood cs ks j hjt) := fun h => by have := (HG.out.1 h).1; omega
          have hle' : decide ((i : Int) ≤ lastAt cs ks j) = true := by simpa using hle
          go_wp2
          go_ret
          exact ⟨_, rfl, ⟨fun h => by simp at h, fun h => absurd (h.2 j hjt) HB.out⟩, (by repeat (first | with_reducible exact Below.refl _ _ | with_reducible assumption | with_reducible refine ch_alloc ?_ _ | with_reducible refine Below.drew ?_ | with_reducible refine below_draws _ ?_ | (with_reducible refine Below.setCell ?_ ?_ _; rotate_left; focus (first | with_reducible exact Nat.le_refl _ | (simp; done) | (simp; omega) | (simp at *; omega))) | with_reducible refine ch_trans ?_ (by with_reducible assumption)))⟩
        · have hle' : decide ((i : Int) ≤ lastAt cs ks j) = false := by simpa using hle
          have HN' : Hid (∀ i (h : i < ks.length), i < j + 1 → keyGood cs ks i h) := fun i' h hi' => by
            by_cases e : i' = j
            · subst e; exact HG.out.2 ⟨by omega, hi, hnt⟩
            · exact HN.out i' h (by omega)
          go_wp2
          go_round
          case rel => exact ⟨j + 1, by omega, by go_num, by rw [HLS.out], (by repeat (first | with_reducible exact Below.refl _ _ | with_reducible assumption | with_reducible refine ch_alloc ?_ _ | with_reducible refine Below.drew ?_ | with_reducible refine below_draws _ ?_ | (with_reducible refine Below.setCell ?_ ?_ _; rotate_left; focus (first | with_reducible exact Nat.le_refl _ | (simp; done) | (simp; omega) | (simp at *; omega))) | with_reducible refine ch_trans ?_ (by with_reducible assumption))), HN'⟩
          case measure => simp [intOf]; omega
    · have hjti : (ks.length : Int) ≤ j := by omega
      have HY : Hid ((1 ≤ ks.length ∧ ∀ j (h : j < ks.length), keyGood cs ks j h) ↔ 0 < (ks.length : Int)) := ⟨fun h => by have := h.1; omega, fun h => ⟨by omega, fun i h => HN.out i h (by omega)⟩⟩
      go_wp2
      go_ret
      exact ⟨_, rfl, by rw [HY.out]; simp, (by repeat (first | with_reducible exact Below.refl _ _ | with_reducible assumption | with_reducible refine ch_alloc ?_ _ | with_reducible refine Below.drew ?_ | with_reducible refine below_draws _ ?_ | (with_reducible refine Below.setCell ?_ ?_ _; rotate_left; focus (first | with_reducible exact Nat.le_refl _ | (simp; done) | (simp; omega) | (simp at *; omega))) | with_reducible refine ch_trans ?_ (by with_reducible assumption)))⟩

set_option maxRecDepth 100000 in
set_option maxHeartbeats 4000000 in
/-- impl.TableOk -/
theorem tableOk_impl (x : Array Value) (t : Tc) (w : World) (hx : TabV w x t) (hf : t.fit) :
    Calls Tryz.prog 140 #[.agg x] w fun e w' => ∃ q : Bool, e = .returned (.bool q) ∧ (q = true ↔ t.right) ∧ Below w.heap.size w w' := by
  obtain ⟨a, p, o, q, rfl, hx, hc, hk⟩ := hx.lit
  have hcap : t.cols.length ≤ 9223372036854775807 ∧ t.keys.length ≤ 9223372036854775807 := by
    obtain ⟨_, _, e, h1, h2, _⟩ := hc
    obtain ⟨_, _, e', h1', h2', _⟩ := hk
    unfold maxLen at h2 h2'
    omega
  obtain ⟨hl1, hl2⟩ := hcap
  have HW : Hid (∀ w : World, Calls Tryz.prog 118 #[.string t.name] w fun e w' => e = .returned (.bool (wordB t.name)) ∧ w' = w) := fun w => word_impl t.name w hf.1
  have HC : Hid (ColsV w (.slice a t.cols.length p) t.cols) := hc
  have HK : Hid (StrsV w (.slice o t.keys.length q) t.keys) := hk
  have HF : Hid t.fit := hf
  have HL := Loc.new w #[.string t.name, .slice a t.cols.length p, .slice o t.keys.length q] 177
  have HR : Hid (t.right ↔ (wordB t.name = true ∧ 1 ≤ t.cols.length ∧ t.cols.length ≤ 8 ∧ 1 ≤ t.keys.length ∧ (∀ i (h : i < t.cols.length), t.cols[i].ok = true) ∧ (∀ i (h : i < t.cols.length), colAt t.cols t.cols[i].name = i) ∧ ∀ j (h : j < t.keys.length), keyGood t.cols t.keys j h)) := Iff.rfl
  clear hx hc hk hf
  generalize t.right = R at HR ⊢
  obtain ⟨name, cs, ks⟩ := t
  simp only at *
  cases hw : wordB name
  · rw [hw] at HW HR
    clear hw
    go_enter Tryz.func140, Tryz.ntmps140
    go_wp2_with (go_at_call 118; refine (HW.out _).mono ?_; rintro e w' ⟨rfl, hw⟩; subst w')
    go_ret
    exact ⟨_, rfl, ⟨fun h => by simp at h, fun h => by have := (HR.out.1 h).1; simp at this⟩, (by repeat (first | with_reducible exact Below.refl _ _ | with_reducible assumption | with_reducible refine ch_alloc ?_ _ | with_reducible refine Below.drew ?_ | with_reducible refine below_draws _ ?_ | (with_reducible refine Below.setCell ?_ ?_ _; rotate_left; focus (first | with_reducible exact Nat.le_refl _ | (simp; done) | (simp; omega) | (simp at *; omega))) | with_reducible refine ch_trans ?_ (by with_reducible assumption)))⟩
  rw [hw] at HW HR
  clear hw
  by_cases h8 : 8 < cs.length
  · have e8 : decide ((8 : Int) < cs.length) = true := by simp; omega
    go_enter Tryz.func140, Tryz.ntmps140
    go_wp2_with (go_at_call 118; refine (HW.out _).mono ?_; rintro e w' ⟨rfl, hw⟩; subst w')
    go_ret
    exact ⟨_, rfl, ⟨fun h => by simp at h, fun h => by have := (HR.out.1 h).2.2.1; omega⟩, (by repeat (first | with_reducible exact Below.refl _ _ | with_reducible assumption | with_reducible refine ch_alloc ?_ _ | with_reducible refine Below.drew ?_ | with_reducible refine below_draws _ ?_ | (with_reducible refine Below.setCell ?_ ?_ _; rotate_left; focus (first | with_reducible exact Nat.le_refl _ | (simp; done) | (simp; omega) | (simp at *; omega))) | with_reducible refine ch_trans ?_ (by with_reducible assumption)))⟩
  have e8 : decide ((8 : Int) < cs.length) = false := by simp; omega
  go_enter Tryz.func140, Tryz.ntmps140
  go_wp2_with (go_at_call 118; refine (HW.out _).mono ?_; rintro e w' ⟨rfl, hw⟩; subst w')
  go_loopw [19] (fun i wr => ∃ k : Nat, k ≤ cs.length ∧ i = .int .i64 k ∧ Below (w.heap.size + 1) (w.alloc (.cells #[.string name, .slice a cs.length p, .slice o ks.length q] 177)) wr ∧ Hid (∀ i (h : i < cs.length), i < k → cs[i].ok = true)) (fun i _ => cs.length - (intOf i).toNat)
  case atStart => exact ⟨0, Nat.zero_le _, rfl, Below.refl _ _, fun i h hi => by omega⟩
  case round =>
    obtain ⟨k, hk, rfl, hb0, HN⟩ := hrel
    have hb1 : Below (w.alloc (.cells #[.string name, .slice a cs.length p, .slice o ks.length q] 177)).heap.size (w.alloc (.cells #[.string name, .slice a cs.length p, .slice o ks.length q] 177)) wr := by simpa using hb0
    have hb : Below w.heap.size w wr := ch_trans (ch_alloc (Below.refl _ _) _) hb1
    have HL1 := HL.on hb1
    obtain ⟨l0, l1, l2⟩ := HL1.three
    by_cases hlt : k < cs.length
    · have hlti : (k : Int) < cs.length := by omega
      obtain ⟨b, off, rfl, c0, c1, c2, c3, c4, c5, c6⟩ : ∃ b off, a = some ⟨b, off, none⟩ ∧ _ := by
        obtain ⟨a', cap', e, _, _, hr⟩ := HC.out.on hb
        cases e
        exact hr.cols k hlt
      have HS : Hid (∀ w : World, Calls Tryz.prog 153 #[cs[k].v] w fun e w' => e = .returned (.bool cs[k].ok) ∧ Below w.heap.size w w') := fun w => colOk_impl cs[k] w (HF.out.2.1 _ (List.getElem_mem hlt)).1
      cases hok : cs[k].ok
      · have HB : Hid (¬ R) := fun h => by have := (HR.out.1 h).2.2.2.2.1 k hlt; rw [hok] at this; cases this
        rw [hok] at HS
        clear hok
        go_wp2_with (go_at_call 153; refine (HS.out _).mono ?_; rintro e w1 ⟨rfl, b1⟩)
        go_ret
        exact ⟨_, rfl, ⟨fun h => by simp at h, fun h => absurd h HB.out⟩, (by repeat (first | with_reducible exact Below.refl _ _ | with_reducible assumption | with_reducible refine ch_alloc ?_ _ | with_reducible refine Below.drew ?_ | with_reducible refine below_draws _ ?_ | (with_reducible refine Below.setCell ?_ ?_ _; rotate_left; focus (first | with_reducible exact Nat.le_refl _ | (simp; done) | (simp; omega) | (simp at *; omega))) | with_reducible refine ch_trans ?_ (by with_reducible assumption)))⟩
      · have HN' : Hid (∀ i (h : i < cs.length), i < k + 1 → cs[i].ok = true) := fun i h hi => by
          by_cases e : i = k
          · subst e; exact hok
          · exact HN.out i h (by omega)
        rw [hok] at HS
        clear hok
        go_wp2_with (go_at_call 153; refine (HS.out _).mono ?_; rintro e w1 ⟨rfl, b1⟩)
        go_round
        case rel => exact ⟨k + 1, by omega, by go_num, by
          have : Below (w.alloc (.cells #[.string name, .slice (some ⟨b, off, none⟩) cs.length p, .slice o ks.length q] 177)).heap.size (w.alloc (.cells #[.string name, .slice (some ⟨b, off, none⟩) cs.length p, .slice o ks.length q] 177)) w1 := (by repeat (first | with_reducible exact Below.refl _ _ | with_reducible assumption | with_reducible refine ch_alloc ?_ _ | with_reducible refine Below.drew ?_ | with_reducible refine below_draws _ ?_ | (with_reducible refine Below.setCell ?_ ?_ _; rotate_left; focus (first | with_reducible exact Nat.le_refl _ | (simp; done) | (simp; omega) | (simp at *; omega))) | with_reducible refine ch_trans ?_ (by with_reducible assumption)))
          simpa using this, HN'⟩
        case measure => simp [intOf]; omega
    · have hlti : (cs.length : Int) ≤ k := by omega
      have HA : Hid (∀ i (h : i < cs.length), cs[i].ok = true) := fun i h => HN.out i h (by omega)
      have HS : Hid (∀ u : World, ColsV u (.slice a cs.length p) cs → Calls Tryz.prog 154 #[.slice a cs.length p] u fun e w' => ∃ b, e = .returned (.map (some b)) ∧ Below u.heap.size u w' ∧ MapIs Tryz.prog 9 w' b cs.length (plist cs cs.length)) := fun u hu => columnsOf_any _ cs u hu HF.out.2.1
      clear HN
      go_wp2_with fail
      refine (HS.out _ (HC.out.on (by repeat (first | with_reducible exact Below.refl _ _ | with_reducible assumption | with_reducible refine ch_alloc ?_ _ | with_reducible refine Below.drew ?_ | with_reducible refine below_draws _ ?_ | (with_reducible refine Below.setCell ?_ ?_ _; rotate_left; focus (first | with_reducible exact Nat.le_refl _ | (simp; done) | (simp; omega) | (simp at *; omega))) | with_reducible refine ch_trans ?_ (by with_reducible assumption))))).mono ?_
      rintro e w1 ⟨b, rfl, b1, hm⟩
      have HL2 := HL1.on b1
      clear l0 l1 l2
      obtain ⟨l0, l1, l2⟩ := HL2.three
      have hlen := fun ty => hm.len (t := 201) Tryz.underlying201 ty
      rw [show (plist cs cs.length).length = (firsts cs cs.length).length by simp [plist]] at hlen
      have HM : Hid (MapIs Tryz.prog 9 w1 b cs.length (plist cs cs.length)) := hm
      have HD := firsts_full cs cs.length (Nat.le_refl _)
      clear hm
      generalize (firsts cs cs.length).length = m at hlen HD
      by_cases hml : m = cs.length
      · subst hml
        have HE : Hid (∀ i (h : i < cs.length), colAt cs cs[i].name = i) := fun i h => HD.1 rfl i h h
        clear HD
        have HQ : Hid (∀ u : World, StrsV u (.slice o ks.length q) ks → MapIs Tryz.prog 9 u b cs.length (plist cs cs.length) → Calls Tryz.prog 155 #[.map (some b), .slice o ks.length q] u fun e w' => ∃ q : Bool, e = .returned (.bool q) ∧ (q = true ↔ (1 ≤ ks.length ∧ ∀ j (h : j < ks.length), keyGood cs ks j h)) ∧ Below u.heap.size u w') := fun u hu hm => keysOk_any b _ _ cs ks u hm hu HF.out.2.2
        go_wp2_with fail
        refine (HQ.out _ (HK.out.on (by repeat (first | with_reducible exact Below.refl _ _ | with_reducible assumption | with_reducible refine ch_alloc ?_ _ | with_reducible refine Below.drew ?_ | with_reducible refine below_draws _ ?_ | (with_reducible refine Below.setCell ?_ ?_ _; rotate_left; focus (first | with_reducible exact Nat.le_refl _ | (simp; done) | (simp; omega) | (simp at *; omega))) | with_reducible refine ch_trans ?_ (by with_reducible assumption)))) (HM.out.on (w' := w1) (by repeat (first | with_reducible exact Below.refl _ _ | with_reducible assumption | with_reducible refine ch_alloc ?_ _ | with_reducible refine Below.drew ?_ | with_reducible refine below_draws _ ?_ | (with_reducible refine Below.setCell ?_ ?_ _; rotate_left; focus (first | with_reducible exact Nat.le_refl _ | (simp; done) | (simp; omega) | (simp at *; omega))) | with_reducible refine ch_trans ?_ (by with_reducible assumption))) HM.out.lt)).mono ?_
        rintro e w2 ⟨qq, rfl, hqq, b2⟩
        have HZ : Hid (qq = true ↔ R) := by
          show _ ↔ _
          rw [hqq, HR.out]
          refine ⟨fun h => ⟨by trivial, ?_, by omega, h.1, HA.out, HE.out, h.2⟩, fun h => ⟨h.2.2.2.1, h.2.2.2.2.2.2⟩⟩
          obtain ⟨_, g, _⟩ := h.2 0 (by omega)
          omega
        clear hqq
        go_wp2
        go_ret
        exact ⟨_, rfl, HZ.out, (by repeat (first | with_reducible exact Below.refl _ _ | with_reducible assumption | with_reducible refine ch_alloc ?_ _ | with_reducible refine Below.drew ?_ | with_reducible refine below_draws _ ?_ | (with_reducible refine Below.setCell ?_ ?_ _; rotate_left; focus (first | with_reducible exact Nat.le_refl _ | (simp; done) | (simp; omega) | (simp at *; omega))) | with_reducible refine ch_trans ?_ (by with_reducible assumption)))⟩
      · have HB : Hid (¬ R) := fun h => hml (HD.2 fun i hi _ => (HR.out.1 h).2.2.2.2.2.1 i hi)
        have hml' : ((m : Int) == (cs.length : Int)) = false := by simp; omega
        clear HD
        go_wp2
        go_ret
        exact ⟨_, rfl, ⟨fun h => by simp at h, fun h => absurd h HB.out⟩, (by repeat (first | with_reducible exact Below.refl _ _ | with_reducible assumption | with_reducible refine ch_alloc ?_ _ | with_reducible refine Below.drew ?_ | with_reducible refine below_draws _ ?_ | (with_reducible refine Below.setCell ?_ ?_ _; rotate_left; focus (first | with_reducible exact Nat.le_refl _ | (simp; done) | (simp; omega) | (simp at *; omega))) | with_reducible refine ch_trans ?_ (by with_reducible assumption)))⟩
end Go.Proofs.YtikccmgpmbnkfaaGreat
