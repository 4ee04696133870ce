/- Columns, texts and tables in memory. -/
import Derived.Test.YtiijahoheajppaaColOkS
import Derived.Test.YtiijahoheajppaaCh
namespace Go.Proofs.Ytiijahoheajppaa
open Go.ChangeShapes Go.WideShapes Go.ChangeAt Go.RowKit

abbrev strX (s : ByteArray) : Array Value := #[.string s]
theorem RowAt.cols {w : World} {a : Option Addr} {cs : List Cl} (h : RowAt w a 7 (cs.map Cl.cells)) (k : Nat) (hk : k < cs.length) : ∃ b off, a = some ⟨b, off, none⟩ ∧
    w.cell? ⟨b, off + k * 7, none⟩ = some (.string cs[k].name) ∧ w.cell? ⟨b, off + k * 7 + 1, none⟩ = some (.int .i64 cs[k].ty) ∧ w.cell? ⟨b, off + k * 7 + 2, none⟩ = some (.bool cs[k].nt) ∧ w.cell? ⟨b, off + k * 7 + 3, none⟩ = some (.bool cs[k].has) ∧
    w.cell? ⟨b, off + k * 7 + 4, none⟩ = some (.int .i64 cs[k].dt) ∧ w.cell? ⟨b, off + k * 7 + 5, none⟩ = some (.int .i64 cs[k].dn) ∧ w.cell? ⟨b, off + k * 7 + 6, none⟩ = some (.string cs[k].ds) := by
  rcases h.2 with h0 | ⟨b, off, ha, h⟩
  · rw [List.map_eq_nil_iff] at h0; subst h0; exact absurd hk (Nat.not_lt_zero _)
  · have hk' : k < (cs.map Cl.cells).length := by simpa using hk
    have e : (cs.map Cl.cells)[k] = cs[k].cells := by simp
    refine ⟨b, off, ha, (h k hk' 0 (by omega)).trans ?_, (h k hk' 1 (by omega)).trans ?_, (h k hk' 2 (by omega)).trans ?_, (h k hk' 3 (by omega)).trans ?_, (h k hk' 4 (by omega)).trans ?_, (h k hk' 5 (by omega)).trans ?_, (h k hk' 6 (by omega)).trans ?_⟩
    all_goals rw [e]; rfl
theorem RowAt.strs {w : World} {a : Option Addr} {ks : List ByteArray} (h : RowAt w a 1 (ks.map strX)) (k : Nat) (hk : k < ks.length) : ∃ b off, a = some ⟨b, off, none⟩ ∧ w.cell? ⟨b, off + k, none⟩ = some (.string ks[k]) := by
  rcases h.2 with h0 | ⟨b, off, ha, h⟩
  · rw [List.map_eq_nil_iff] at h0; subst h0; exact absurd hk (Nat.not_lt_zero _)
  · have hk' : k < (ks.map strX).length := by simpa using hk
    have e : (ks.map strX)[k] = strX ks[k] := by simp
    have := h k hk' 0 (by omega)
    rw [e, Nat.mul_one] at this
    exact ⟨b, off, ha, this⟩

theorem Fill.col {w : World} {B : Nat} {T : TypeId} {n k : Nat} {cs : List Cl} (h : Fill w B T 7 n ((cs.take k).map Cl.cells)) (hk : k < cs.length) (hn : k < n) : Fill (stores w B (k * 7) cs[k].cells.toList) B T 7 n ((cs.take (k + 1)).map Cl.cells) := by
  have hl : ((cs.take k).map Cl.cells).length = k := by simp; omega
  have := h.put (by omega) cs[k].cells.toList rfl
  rw [hl] at this
  rw [List.take_succ_eq_append_getElem hk, List.map_append]
  exact this
theorem Fill.str {w : World} {B : Nat} {T : TypeId} {n k : Nat} {ks : List ByteArray} (h : Fill w B T 1 n ((ks.take k).map strX)) (hk : k < ks.length) (hn : k < n) : Fill (stores w B k [.string ks[k]]) B T 1 n ((ks.take (k + 1)).map strX) := by
  have hl : ((ks.take k).map strX).length = k := by simp; omega
  have := h.put (by omega) [.string ks[k]] rfl
  rw [hl, Nat.mul_one] at this
  rw [List.take_succ_eq_append_getElem hk, List.map_append]
  exact this

/-- Columns behind a slice. -/
def ColsV (w : World) (v : Value) (cs : List Cl) : Prop := ∃ a cap, v = .slice a cs.length cap ∧ cs.length ≤ cap ∧ cap ≤ maxLen ∧ RowAt w a 7 (cs.map Cl.cells)
/-- Texts behind a slice. -/
def StrsV (w : World) (v : Value) (ks : List ByteArray) : Prop := ∃ a cap, v = .slice a ks.length cap ∧ ks.length ≤ cap ∧ cap ≤ maxLen ∧ RowAt w a 1 (ks.map strX)
theorem ColsV.on {w w' : World} {v : Value} {cs : List Cl} (h : ColsV w v cs) (b : Below w.heap.size w w') : ColsV w' v cs := by
  obtain ⟨a, cap, e, h1, h2, h⟩ := h; exact ⟨a, cap, e, h1, h2, h.on b⟩
theorem StrsV.on {w w' : World} {v : Value} {ks : List ByteArray} (h : StrsV w v ks) (b : Below w.heap.size w w') : StrsV w' v ks := by
  obtain ⟨a, cap, e, h1, h2, h⟩ := h; exact ⟨a, cap, e, h1, h2, h.on b⟩

/-- The row behind a slice lies from block B on. -/
def From (v : Value) (B : Nat) : Prop := ∀ a n c, v = .slice (some a) n c → B ≤ a.block
theorem From.mono {v : Value} {B B' : Nat} (h : From v B) (hB : B' ≤ B) : From v B' := fun a n c e => Nat.le_trans hB (h a n c e)
theorem RowAt.set {w : World} {a : Option Addr} {z : Nat} {xs : List (Array Value)} (h : RowAt w a z xs) {p : Addr} (hp : ∀ q, a = some q → q.block ≠ p.block) (u : Value) : RowAt (w.setCell p u) a z xs := by
  obtain ⟨hz, h⟩ := h
  refine ⟨hz, ?_⟩
  rcases h with h | ⟨b, off, ha, h⟩
  · exact Or.inl h
  · refine Or.inr ⟨b, off, ha, fun i hi j hj => (World.cell?_of_block (w := w) (a := ⟨b, off + i * z + j, none⟩) (Below.heap_setCell _ _ _ b (hp ⟨b, off, none⟩ ha))).trans (h i hi j hj)⟩
theorem ColsV.set {w : World} {v : Value} {cs : List Cl} (h : ColsV w v cs) {B : Nat} (hf : From v B) {p : Addr} (hp : p.block < B) (u : Value) : ColsV (w.setCell p u) v cs := by
  obtain ⟨a, cap, e, h1, h2, h⟩ := h
  exact ⟨a, cap, e, h1, h2, h.set (fun q hq => by subst hq; have := hf _ _ _ e; omega) u⟩
theorem StrsV.set {w : World} {v : Value} {ks : List ByteArray} (h : StrsV w v ks) {B : Nat} (hf : From v B) {p : Addr} (hp : p.block < B) (u : Value) : StrsV (w.setCell p u) v ks := by
  obtain ⟨a, cap, e, h1, h2, h⟩ := h
  exact ⟨a, cap, e, h1, h2, h.set (fun q hq => by subst hq; have := hf _ _ _ e; omega) u⟩
theorem from_new (B n c : Nat) : From (.slice (some ⟨B, 0, none⟩) n c) B := fun a _ _ e => by cases e; exact Nat.le_refl _

/-- The place of a name among columns; -1 where there is none. -/
def colAt (cs : List Cl) (s : ByteArray) : Int := match cs.findIdx? (fun c => decide (c.name = s)) with | some i => i | .none => -1
theorem colAt_some {cs : List Cl} {s : ByteArray} {k : Nat} (hk : k < cs.length) (he : cs[k].name = s) (hn : ∀ j (h : j < cs.length), j < k → cs[j].name ≠ s) : colAt cs s = k := by
  have : cs.findIdx? (fun c => decide (c.name = s)) = some k := by
    rw [List.findIdx?_eq_some_iff_getElem]
    exact ⟨hk, by simpa using he, fun j hj => by simpa using hn j (by omega) hj⟩
  rw [colAt, this]
theorem colAt_none {cs : List Cl} {s : ByteArray} (hn : ∀ j (h : j < cs.length), cs[j].name ≠ s) : colAt cs s = -1 := by
  have : cs.findIdx? (fun c => decide (c.name = s)) = .none := by
    rw [List.findIdx?_eq_none_iff]
    intro x hx
    obtain ⟨j, hj, rfl⟩ := List.getElem_of_mem hx
    simpa using hn j hj
  rw [colAt, this]

set_option maxRecDepth 100000 in
set_option maxHeartbeats 1000000 in
/-- spec.ColAt -/
theorem colAt_spec (name : ByteArray) (cv kv : Value) (cs : List Cl) (s : ByteArray) (w : World) (hc : ColsV w cv cs) :
    Calls Try.prog 32 #[.agg #[.string name, cv, kv], .string s] w fun e w' => e = .returned (.int .i64 (colAt cs s)) ∧ Below w.heap.size w w' := by
  obtain ⟨a, cap, rfl, hl, hm, hc⟩ := hc
  unfold maxLen at hm
  have HC : Hid (RowAt w a 7 (cs.map Cl.cells)) := hc
  clear hc
  go_enter Try.func32, Try.ntmps32
  go_wp2
  go_loopw [10] (fun i wr => ∃ k : Nat, k ≤ cs.length ∧ i = .int .i64 k ∧ Below w.heap.size w wr ∧ Hid (∀ j (h : j < cs.length), j < k → cs[j].name ≠ s)) (fun i _ => cs.length - (intOf i).toNat)
  case atStart => exact ⟨0, Nat.zero_le _, rfl, (by repeat (first | with_reducible exact Below.refl _ _ | with_reducible assumption | with_reducible refine ch_alloc ?_ _ | with_reducible refine Below.drew ?_ | with_reducible refine below_draws _ ?_ | (with_reducible refine Below.setCell ?_ ?_ _; rotate_left; focus (first | with_reducible exact Nat.le_refl _ | (simp; done) | (simp; omega) | (simp at *; omega))) | with_reducible refine ch_trans ?_ (by with_reducible assumption))), fun j h hj => by omega⟩
  case round =>
    obtain ⟨k, hk, rfl, hb, HN⟩ := hrel
    by_cases hlt : k < cs.length
    · have hlti : (k : Int) < cs.length := by omega
      obtain ⟨b, off, rfl, c0, c1, c2, c3, c4, c5, c6⟩ := (HC.out.on hb).cols k hlt
      by_cases hq : cs[k].name = s
      · have HR : Hid (colAt cs s = k) := colAt_some hlt hq fun j h hj => HN.out j h hj
        have hq' := str_yes hq
        clear hq
        go_wp2
        go_ret
        exact ⟨ret_i HR.out.symm, (by repeat (first | with_reducible exact Below.refl _ _ | with_reducible assumption | with_reducible refine ch_alloc ?_ _ | with_reducible refine Below.drew ?_ | with_reducible refine below_draws _ ?_ | (with_reducible refine Below.setCell ?_ ?_ _; rotate_left; focus (first | with_reducible exact Nat.le_refl _ | (simp; done) | (simp; omega) | (simp at *; omega))) | with_reducible refine ch_trans ?_ (by with_reducible assumption)))⟩
      · have HN' : Hid (∀ j (h : j < cs.length), j < k + 1 → cs[j].name ≠ s) := fun j h hj => by
          by_cases e : j = k
          · subst e; exact hq
          · exact HN.out j h (by omega)
        have hq' := str_no hq
        clear hq
        go_wp2
        go_round
        case rel => exact ⟨k + 1, by omega, by go_num, (by repeat (first | with_reducible exact Below.refl _ _ | with_reducible assumption | with_reducible refine ch_alloc ?_ _ | with_reducible refine Below.drew ?_ | with_reducible refine below_draws _ ?_ | (with_reducible refine Below.setCell ?_ ?_ _; rotate_left; focus (first | with_reducible exact Nat.le_refl _ | (simp; done) | (simp; omega) | (simp at *; omega))) | with_reducible refine ch_trans ?_ (by with_reducible assumption))), HN'⟩
        case measure => simp [intOf]; omega
    · have HR : Hid (colAt cs s = -1) := colAt_none fun j h => HN.out j h (by omega)
      have hlti : (cs.length : Int) ≤ k := by omega
      go_wp2
      go_ret
      exact ⟨ret_i HR.out.symm, (by repeat (first | with_reducible exact Below.refl _ _ | with_reducible assumption | with_reducible refine ch_alloc ?_ _ | with_reducible refine Below.drew ?_ | with_reducible refine below_draws _ ?_ | (with_reducible refine Below.setCell ?_ ?_ _; rotate_left; focus (first | with_reducible exact Nat.le_refl _ | (simp; done) | (simp; omega) | (simp at *; omega))) | with_reducible refine ch_trans ?_ (by with_reducible assumption)))⟩

set_option maxRecDepth 100000 in
set_option maxHeartbeats 1000000 in
/-- laws.szColS -/
theorem szColS_any (cv : Value) (cs : List Cl) (l : Int) (w : World) (hc : ColsV w cv cs) (hk : ∀ c ∈ cs, c.name.size ≤ maxLen ∧ c.ds.size ≤ maxLen) (h0 : 0 ≤ l) (h1 : l ≤ 1048576) :
    Calls Try.prog 28 #[cv, .int .i64 l] w fun e w' => ∃ r : Int, e = .returned (.int .i64 r) ∧ Below w.heap.size w w' ∧ (r = -1 ∨ (0 ≤ r ∧ r ≤ l ∧ cs.length ≤ 1048576)) := by
  obtain ⟨a, cap, rfl, hl, hm, hc⟩ := hc
  unfold maxLen at hm
  have HC : Hid (RowAt w a 7 (cs.map Cl.cells)) := hc
  have HK : Hid (∀ c ∈ cs, c.name.size ≤ maxLen ∧ c.ds.size ≤ maxLen) := hk
  clear hc hk
  by_cases hn : l < cs.length
  · go_enter Try.func28, Try.ntmps28
    go_wp2
    go_ret
    exact ⟨_, rfl, (by repeat (first | with_reducible exact Below.refl _ _ | with_reducible assumption | with_reducible refine ch_alloc ?_ _ | with_reducible refine Below.drew ?_ | with_reducible refine below_draws _ ?_ | (with_reducible refine Below.setCell ?_ ?_ _; rotate_left; focus (first | with_reducible exact Nat.le_refl _ | (simp; done) | (simp; omega) | (simp at *; omega))) | with_reducible refine ch_trans ?_ (by with_reducible assumption))), Or.inl rfl⟩
  have hn' : cs.length ≤ 1048576 := by omega
  go_enter Try.func28, Try.ntmps28
  go_wp2
  go_loopw [1, 5] (fun b i wr => ∃ (k : Nat) (r : Int), k ≤ cs.length ∧ i = .int .i64 k ∧ b = .int .i64 r ∧ 0 ≤ r ∧ r ≤ l ∧ Below w.heap.size w wr) (fun _ i _ => cs.length - (intOf i).toNat)
  case atStart => exact ⟨0, _, Nat.zero_le _, rfl, rfl, by omega, by omega, (by repeat (first | with_reducible exact Below.refl _ _ | with_reducible assumption | with_reducible refine ch_alloc ?_ _ | with_reducible refine Below.drew ?_ | with_reducible refine below_draws _ ?_ | (with_reducible refine Below.setCell ?_ ?_ _; rotate_left; focus (first | with_reducible exact Nat.le_refl _ | (simp; done) | (simp; omega) | (simp at *; omega))) | with_reducible refine ch_trans ?_ (by with_reducible assumption)))⟩
  case round =>
    obtain ⟨k, r, hk, rfl, rfl, hr0, hr1, hb⟩ := hrel
    by_cases hlt : k < cs.length
    · have hlti : (k : Int) < cs.length := by omega
      obtain ⟨b, off, rfl, c0, c1, c2, c3, c4, c5, c6⟩ := (HC.out.on hb).cols k hlt
      obtain ⟨s1, s2⟩ := HK.out _ (List.getElem_mem hlt)
      have HS : Hid (∀ w : World, Calls Try.prog 55 #[cs[k].v, .int .i64 r] w fun e w' => e = .returned (.int .i64 (rest r cs[k].sz)) ∧ Below w.heap.size w w') := fun w => szCol_any cs[k] r w s1 s2 hr0 (by omega)
      clear s1 s2
      have h5 : rest r cs[k].sz = -1 ∨ (0 ≤ rest r cs[k].sz ∧ rest r cs[k].sz ≤ r) := by unfold rest; split <;> omega
      generalize rest r cs[k].sz = q at HS h5
      rcases h5 with rfl | ⟨h5, h6⟩
      · go_wp2_with (go_at_call 55; refine (HS.out _).mono ?_; rintro e w1 ⟨rfl, b1⟩)
        go_ret
        exact ⟨_, rfl, (by repeat (first | with_reducible exact Below.refl _ _ | with_reducible assumption | with_reducible refine ch_alloc ?_ _ | with_reducible refine Below.drew ?_ | with_reducible refine below_draws _ ?_ | (with_reducible refine Below.setCell ?_ ?_ _; rotate_left; focus (first | with_reducible exact Nat.le_refl _ | (simp; done) | (simp; omega) | (simp at *; omega))) | with_reducible refine ch_trans ?_ (by with_reducible assumption))), Or.inl rfl⟩
      · go_wp2_with (go_at_call 55; refine (HS.out _).mono ?_; rintro e w1 ⟨rfl, b1⟩)
        go_round
        case rel => exact ⟨k + 1, q, by omega, by go_num, rfl, h5, by omega, (by repeat (first | with_reducible exact Below.refl _ _ | with_reducible assumption | with_reducible refine ch_alloc ?_ _ | with_reducible refine Below.drew ?_ | with_reducible refine below_draws _ ?_ | (with_reducible refine Below.setCell ?_ ?_ _; rotate_left; focus (first | with_reducible exact Nat.le_refl _ | (simp; done) | (simp; omega) | (simp at *; omega))) | with_reducible refine ch_trans ?_ (by with_reducible assumption)))⟩
        case measure => simp [intOf]; omega
    · have hlti : (cs.length : Int) ≤ k := by omega
      go_wp2
      go_ret
      exact ⟨_, rfl, (by repeat (first | with_reducible exact Below.refl _ _ | with_reducible assumption | with_reducible refine ch_alloc ?_ _ | with_reducible refine Below.drew ?_ | with_reducible refine below_draws _ ?_ | (with_reducible refine Below.setCell ?_ ?_ _; rotate_left; focus (first | with_reducible exact Nat.le_refl _ | (simp; done) | (simp; omega) | (simp at *; omega))) | with_reducible refine ch_trans ?_ (by with_reducible assumption))), Or.inr ⟨hr0, hr1, hn'⟩⟩

set_option maxRecDepth 100000 in
set_option maxHeartbeats 1000000 in
/-- laws.toColS -/
theorem toColS_any (cv : Value) (cs : List Cl) (w : World) (hc : ColsV w cv cs) (hn : cs.length ≤ 1048576) :
    Calls Try.prog 34 #[cv] w fun e w' => ∃ v, e = .returned v ∧ Below w.heap.size w w' ∧ ColsV w' v cs ∧ From v w.heap.size := by
  obtain ⟨a, cap, rfl, hl, hm, hc⟩ := hc
  unfold maxLen at hm
  have HC : Hid (RowAt w a 7 (cs.map Cl.cells)) := hc
  clear hc
  have hmk := run_makes (P := Try.prog) 30 60 (.agg #[.string ByteArray.empty, .int .i64 0, .bool false, .bool false, .int .i64 0, .int .i64 0, .string ByteArray.empty]) _ 7 64 Try.underlying30 (by kernel_rfl) rfl .i64 .i64 cs.length (by omega) (by omega)
  go_enter Try.func34, Try.ntmps34
  go_wp2
  have HF : Hid (Fill (w.alloc (.cells (madeCells #[.string ByteArray.empty, .int .i64 0, .bool false, .bool false, .int .i64 0, .int .i64 0, .string ByteArray.empty] (cs.length * 7)) 60)) w.heap.size 60 7 cs.length ((cs.take 0).map Cl.cells)) := Fill.new w _ 7 cs.length _ (size_madeCells _ _)
  go_loopw [4] (fun i wr => ∃ k : Nat, k ≤ cs.length ∧ i = .int .i64 k ∧ Below w.heap.size w wr ∧ Hid (Fill wr w.heap.size 60 7 cs.length ((cs.take k).map Cl.cells))) (fun i _ => cs.length - (intOf i).toNat)
  case atStart => exact ⟨0, Nat.zero_le _, rfl, (by repeat (first | with_reducible exact Below.refl _ _ | with_reducible assumption | with_reducible refine ch_alloc ?_ _ | with_reducible refine Below.drew ?_ | with_reducible refine below_draws _ ?_ | (with_reducible refine Below.setCell ?_ ?_ _; rotate_left; focus (first | with_reducible exact Nat.le_refl _ | (simp; done) | (simp; omega) | (simp at *; omega))) | with_reducible refine ch_trans ?_ (by with_reducible assumption))), HF⟩
  case round =>
    clear HF
    obtain ⟨k, hk, rfl, hb, HF⟩ := hrel
    by_cases hlt : k < cs.length
    · have hlti : (k : Int) < cs.length := by omega
      obtain ⟨b, off, rfl, c0, c1, c2, c3, c4, c5, c6⟩ := (HC.out.on hb).cols k hlt
      have HS : Hid (∀ w : World, Calls Try.prog 58 #[cs[k].v] w fun e w' => e = .returned cs[k].v ∧ Below w.heap.size w w') := fun w => toCol_any cs[k] w
      go_wp2_with (go_at_call 58; refine (HS.out _).mono ?_; rintro e w1 ⟨rfl, b1⟩
                   obtain ⟨v0, v1, v2, v3, v4, v5, v6, ⟨g0, g1, g2, g3, g4, g5, g6⟩, f0, f1, f2, f3, f4, f5, f6⟩ := (HF.out.on b1).seven (k := k) (by simp; omega) hlt)
      have HF' : Hid (Fill (stores w1 w.heap.size (k * 7) cs[k].cells.toList) w.heap.size 60 7 cs.length ((cs.take (k + 1)).map Cl.cells)) := (HF.out.on b1).col hlt hlt
      go_round
      case rel => exact ⟨k + 1, by omega, by go_num, (by repeat (first | with_reducible exact Below.refl _ _ | with_reducible assumption | with_reducible refine ch_alloc ?_ _ | with_reducible refine Below.drew ?_ | with_reducible refine below_draws _ ?_ | (with_reducible refine Below.setCell ?_ ?_ _; rotate_left; focus (first | with_reducible exact Nat.le_refl _ | (simp; done) | (simp; omega) | (simp at *; omega))) | with_reducible refine ch_trans ?_ (by with_reducible assumption))), HF'⟩
      case measure => simp [intOf]; omega
    · have hlti : (cs.length : Int) ≤ k := by omega
      have HR : Hid (RowAt wr (some ⟨w.heap.size, 0, none⟩) 7 (cs.map Cl.cells)) := by
        have := HF.out.row
        rwa [List.take_of_length_le (by omega)] at this
      go_wp2
      go_ret
      exact ⟨_, rfl, (by repeat (first | with_reducible exact Below.refl _ _ | with_reducible assumption | with_reducible refine ch_alloc ?_ _ | with_reducible refine Below.drew ?_ | with_reducible refine below_draws _ ?_ | (with_reducible refine Below.setCell ?_ ?_ _; rotate_left; focus (first | with_reducible exact Nat.le_refl _ | (simp; done) | (simp; omega) | (simp at *; omega))) | with_reducible refine ch_trans ?_ (by with_reducible assumption))), ⟨_, _, rfl, Nat.le_refl _, by unfold maxLen; omega, HR.out.on (by repeat (first | with_reducible exact Below.refl _ _ | with_reducible assumption | with_reducible refine ch_alloc ?_ _ | with_reducible refine Below.drew ?_ | with_reducible refine below_draws _ ?_ | (with_reducible refine Below.setCell ?_ ?_ _; rotate_left; focus (first | with_reducible exact Nat.le_refl _ | (simp; done) | (simp; omega) | (simp at *; omega))) | with_reducible refine ch_trans ?_ (by with_reducible assumption)))⟩, from_new _ _ _⟩

set_option maxRecDepth 100000 in
set_option maxHeartbeats 1000000 in
/-- laws.szStringS -/
theorem szStringS_any (kv : Value) (ks : List ByteArray) (l : Int) (w : World) (hc : StrsV w kv ks) (hk : ∀ s ∈ ks, s.size ≤ maxLen) (h0 : 0 ≤ l) (h1 : l ≤ 1048576) :
    Calls Try.prog 6 #[kv, .int .i64 l] w fun e w' => ∃ r : Int, e = .returned (.int .i64 r) ∧ Below w.heap.size w w' ∧ (r = -1 ∨ (0 ≤ r ∧ r ≤ l ∧ ks.length ≤ 1048576)) := by
  obtain ⟨a, cap, rfl, hl, hm, hc⟩ := hc
  unfold maxLen at hm
  have HC : Hid (RowAt w a 1 (ks.map strX)) := hc
  have HK : Hid (∀ s ∈ ks, s.size ≤ maxLen) := hk
  clear hc hk
  by_cases hn : l < ks.length
  · go_enter Try.func6, Try.ntmps6
    go_wp2
    go_ret
    exact ⟨_, rfl, (by repeat (first | with_reducible exact Below.refl _ _ | with_reducible assumption | with_reducible refine ch_alloc ?_ _ | with_reducible refine Below.drew ?_ | with_reducible refine below_draws _ ?_ | (with_reducible refine Below.setCell ?_ ?_ _; rotate_left; focus (first | with_reducible exact Nat.le_refl _ | (simp; done) | (simp; omega) | (simp at *; omega))) | with_reducible refine ch_trans ?_ (by with_reducible assumption))), Or.inl rfl⟩
  have hn' : ks.length ≤ 1048576 := by omega
  go_enter Try.func6, Try.ntmps6
  go_wp2
  go_loopw [1, 5] (fun b i wr => ∃ (k : Nat) (r : Int), k ≤ ks.length ∧ i = .int .i64 k ∧ b = .int .i64 r ∧ 0 ≤ r ∧ r ≤ l ∧ Below w.heap.size w wr) (fun _ i _ => ks.length - (intOf i).toNat)
  case atStart => exact ⟨0, _, Nat.zero_le _, rfl, rfl, by omega, by omega, (by repeat (first | with_reducible exact Below.refl _ _ | with_reducible assumption | with_reducible refine ch_alloc ?_ _ | with_reducible refine Below.drew ?_ | with_reducible refine below_draws _ ?_ | (with_reducible refine Below.setCell ?_ ?_ _; rotate_left; focus (first | with_reducible exact Nat.le_refl _ | (simp; done) | (simp; omega) | (simp at *; omega))) | with_reducible refine ch_trans ?_ (by with_reducible assumption)))⟩
  case round =>
    obtain ⟨k, r, hk, rfl, rfl, hr0, hr1, hb⟩ := hrel
    by_cases hlt : k < ks.length
    · have hlti : (k : Int) < ks.length := by omega
      obtain ⟨b, off, rfl, c0⟩ := (HC.out.on hb).strs k hlt
      have s1 := HK.out _ (List.getElem_mem hlt)
      unfold maxLen at s1
      by_cases h5 : r - ks[k].size < 0
      · go_wp2
        go_ret
        exact ⟨_, rfl, (by repeat (first | with_reducible exact Below.refl _ _ | with_reducible assumption | with_reducible refine ch_alloc ?_ _ | with_reducible refine Below.drew ?_ | with_reducible refine below_draws _ ?_ | (with_reducible refine Below.setCell ?_ ?_ _; rotate_left; focus (first | with_reducible exact Nat.le_refl _ | (simp; done) | (simp; omega) | (simp at *; omega))) | with_reducible refine ch_trans ?_ (by with_reducible assumption))), Or.inl rfl⟩
      · go_wp2
        go_round
        case rel => exact ⟨k + 1, r - ks[k].size, by omega, by go_num, by go_num, by omega, by omega, (by repeat (first | with_reducible exact Below.refl _ _ | with_reducible assumption | with_reducible refine ch_alloc ?_ _ | with_reducible refine Below.drew ?_ | with_reducible refine below_draws _ ?_ | (with_reducible refine Below.setCell ?_ ?_ _; rotate_left; focus (first | with_reducible exact Nat.le_refl _ | (simp; done) | (simp; omega) | (simp at *; omega))) | with_reducible refine ch_trans ?_ (by with_reducible assumption)))⟩
        case measure => simp [intOf]; omega
    · have hlti : (ks.length : Int) ≤ k := by omega
      go_wp2
      go_ret
      exact ⟨_, rfl, (by repeat (first | with_reducible exact Below.refl _ _ | with_reducible assumption | with_reducible refine ch_alloc ?_ _ | with_reducible refine Below.drew ?_ | with_reducible refine below_draws _ ?_ | (with_reducible refine Below.setCell ?_ ?_ _; rotate_left; focus (first | with_reducible exact Nat.le_refl _ | (simp; done) | (simp; omega) | (simp at *; omega))) | with_reducible refine ch_trans ?_ (by with_reducible assumption))), Or.inr ⟨hr0, hr1, hn'⟩⟩

set_option maxRecDepth 100000 in
set_option maxHeartbeats 1000000 in
/-- laws.toStringS -/
theorem toStringS_any (kv : Value) (ks : List ByteArray) (w : World) (hc : StrsV w kv ks) (hn : ks.length ≤ 1048576) :
    Calls Try.prog 9 #[kv] w fun e w' => ∃ v, e = .returned v ∧ Below w.heap.size w w' ∧ StrsV w' v ks ∧ From v w.heap.size := by
  obtain ⟨a, cap, rfl, hl, hm, hc⟩ := hc
  unfold maxLen at hm
  have HC : Hid (RowAt w a 1 (ks.map strX)) := hc
  clear hc
  have hmk := run_makes (P := Try.prog) 22 9 (.string ByteArray.empty) #[.string ByteArray.empty] 1 16 Try.underlying22 (by kernel_rfl) rfl .i64 .i64 ks.length (by omega) (by omega)
  rw [Nat.mul_one] at hmk
  go_enter Try.func9, Try.ntmps9
  go_wp2
  have HF : Hid (Fill (w.alloc (.cells (madeCells #[.string ByteArray.empty] ks.length) 9)) w.heap.size 9 1 ks.length ((ks.take 0).map strX)) := Fill.new w _ 1 ks.length _ ((size_madeCells _ _).trans (Nat.mul_one _).symm)
  go_loopw [4] (fun i wr => ∃ k : Nat, k ≤ ks.length ∧ i = .int .i64 k ∧ Below w.heap.size w wr ∧ Hid (Fill wr w.heap.size 9 1 ks.length ((ks.take k).map strX))) (fun i _ => ks.length - (intOf i).toNat)
  case atStart => exact ⟨0, Nat.zero_le _, rfl, (by repeat (first | with_reducible exact Below.refl _ _ | with_reducible assumption | with_reducible refine ch_alloc ?_ _ | with_reducible refine Below.drew ?_ | with_reducible refine below_draws _ ?_ | (with_reducible refine Below.setCell ?_ ?_ _; rotate_left; focus (first | with_reducible exact Nat.le_refl _ | (simp; done) | (simp; omega) | (simp at *; omega))) | with_reducible refine ch_trans ?_ (by with_reducible assumption))), HF⟩
  case round =>
    clear HF
    obtain ⟨k, hk, rfl, hb, HF⟩ := hrel
    by_cases hlt : k < ks.length
    · have hlti : (k : Int) < ks.length := by omega
      obtain ⟨b, off, rfl, c0⟩ := (HC.out.on hb).strs k hlt
      obtain ⟨v0, g0, f0⟩ := HF.out.one (k := k) (by simp; omega) hlt
      have HF' : Hid (Fill (stores wr w.heap.size k [.string ks[k]]) w.heap.size 9 1 ks.length ((ks.take (k + 1)).map strX)) := HF.out.str hlt hlt
      go_wp2
      go_round
      case rel => exact ⟨k + 1, by omega, by go_num, (by repeat (first | with_reducible exact Below.refl _ _ | with_reducible assumption | with_reducible refine ch_alloc ?_ _ | with_reducible refine Below.drew ?_ | with_reducible refine below_draws _ ?_ | (with_reducible refine Below.setCell ?_ ?_ _; rotate_left; focus (first | with_reducible exact Nat.le_refl _ | (simp; done) | (simp; omega) | (simp at *; omega))) | with_reducible refine ch_trans ?_ (by with_reducible assumption))), HF'⟩
      case measure => simp [intOf]; omega
    · have hlti : (ks.length : Int) ≤ k := by omega
      have HR : Hid (RowAt wr (some ⟨w.heap.size, 0, none⟩) 1 (ks.map strX)) := by
        have := HF.out.row
        rwa [List.take_of_length_le (by omega)] at this
      go_wp2
      go_ret
      exact ⟨_, rfl, (by repeat (first | with_reducible exact Below.refl _ _ | with_reducible assumption | with_reducible refine ch_alloc ?_ _ | with_reducible refine Below.drew ?_ | with_reducible refine below_draws _ ?_ | (with_reducible refine Below.setCell ?_ ?_ _; rotate_left; focus (first | with_reducible exact Nat.le_refl _ | (simp; done) | (simp; omega) | (simp at *; omega))) | with_reducible refine ch_trans ?_ (by with_reducible assumption))), ⟨_, _, rfl, Nat.le_refl _, by unfold maxLen; omega, HR.out.on (by repeat (first | with_reducible exact Below.refl _ _ | with_reducible assumption | with_reducible refine ch_alloc ?_ _ | with_reducible refine Below.drew ?_ | with_reducible refine below_draws _ ?_ | (with_reducible refine Below.setCell ?_ ?_ _; rotate_left; focus (first | with_reducible exact Nat.le_refl _ | (simp; done) | (simp; omega) | (simp at *; omega))) | with_reducible refine ch_trans ?_ (by with_reducible assumption)))⟩, from_new _ _ _⟩
end Go.Proofs.Ytiijahoheajppaa
