/- Bytes in memory: the laws' copy, look, marks. -/
import Derived.Test.YtiijahoheajppaaGreatWm
import Derived.Test.YtiijahoheajppaaGreatMarkG
import Derived.Deep.RegionWith
import Derived.ChangeOld
namespace Go.Proofs.YtiijahoheajppaaGreat
open Go.ChangeShapes Go.WideShapes Go.ChangeAt Go.RowKit

abbrev byV (x : UInt8) : Value := .int .u8 (x.toNat : Int)
abbrev byX (x : UInt8) : Array Value := #[byV x]
theorem RowAt.bytes {w : World} {a : Option Addr} {l : List UInt8} (h : RowAt w a 1 (l.map byX)) (k : Nat) (hk : k < l.length) : ∃ b off, a = some ⟨b, off, none⟩ ∧ w.cell? ⟨b, off + k, none⟩ = some (.int .u8 (l[k].toNat : Int)) := by
  rcases h.2 with h0 | ⟨b, off, ha, h⟩
  · rw [List.map_eq_nil_iff] at h0; subst h0; exact absurd hk (Nat.not_lt_zero _)
  · have hk' : k < (l.map byX).length := by simpa using hk
    have e : (l.map byX)[k] = byX l[k] := by simp
    have := h k hk' 0 (by omega)
    rw [e, Nat.mul_one] at this
    exact ⟨b, off, ha, this⟩
theorem Fill.byte {w : World} {B : Nat} {T : TypeId} {n k : Nat} {l : List UInt8} (h : Fill w B T 1 n ((l.take k).map byX)) (hk : k < l.length) (hn : k < n) : Fill (stores w B k [.int .u8 (l[k].toNat : Int)]) B T 1 n ((l.take (k + 1)).map byX) := by
  have hl : ((l.take k).map byX).length = k := by simp; omega
  have := h.put (by omega) [.int .u8 (l[k].toNat : Int)] rfl
  rw [hl, Nat.mul_one] at this
  rw [List.take_succ_eq_append_getElem hk, List.map_append]
  exact this

/-- Bytes behind a slice. -/
def BytesV (w : World) (v : Value) (l : List UInt8) : Prop := ∃ a cap, v = .slice a l.length cap ∧ l.length ≤ cap ∧ cap ≤ maxLen ∧ RowAt w a 1 (l.map byX)
theorem BytesV.on {w w' : World} {v : Value} {l : List UInt8} (h : BytesV w v l) (b : Below w.heap.size w w') : BytesV w' v l := by
  obtain ⟨a, cap, e, h1, h2, h⟩ := h; exact ⟨a, cap, e, h1, h2, h.on b⟩
theorem BytesV.lit {w : World} {v : Value} {l : List UInt8} (h : BytesV w v l) : ∃ a cap, v = .slice a l.length cap ∧ l.length ≤ cap ∧ cap ≤ maxLen ∧ BytesV w (.slice a l.length cap) l := by
  obtain ⟨a, cap, rfl, h1, h2, h3⟩ := h; exact ⟨a, cap, rfl, h1, h2, a, cap, rfl, h1, h2, h3⟩
theorem BytesV.row {w : World} {a : Option Addr} {n cap : Nat} {l : List UInt8} (h : BytesV w (.slice a n cap) l) : RowAt w a 1 (l.map byX) := by
  obtain ⟨a', cap', e, _, _, h⟩ := h; cases e; exact h
theorem Fill.bytesV {w : World} {B : Nat} {T : TypeId} {l : List UInt8} (h : Fill w B T 1 l.length (l.map byX)) (hn : l.length ≤ maxLen) : BytesV w (.slice (some ⟨B, 0, none⟩) l.length l.length) l := ⟨_, _, rfl, Nat.le_refl _, hn, h.row⟩
theorem Got.bytes {w : World} {B : Nat} {T : TypeId} {v : Value} {l : List UInt8} (h : Got w B T 1 v (l.map byX)) : BytesV w v l := by
  obtain ⟨a, cap, e, h1, h2, h3, _⟩ := h.row
  exact ⟨a, cap, by simpa using e, by simpa using h1, h2, h3⟩
theorem byte_one (l : List UInt8) : ∀ x ∈ l.map byX, ∀ u ∈ x.toList, u.oneCell' = true := fun x hx u hu => by
  obtain ⟨c, _, rfl⟩ := List.mem_map.1 hx
  simp at hu; subst hu; rfl
theorem infoByte : (Tryz.prog.info? 5).map (fun i => (i.zero, i.size, i.bytes)) = some (some (.int .u8 0), 1, 1) := by kernel_rfl

/-- The bytes that a law is called with. -/
theorem open_bytes {H : Type} {enc : TypeId × Value → H} {W : World} {base : Nat} {spare : Nat → Bool} {held : Bool} {n : Nat} {cs : List Value} {y : DataW H × List MemPlace} (h : DataW.trod enc Tryz.prog W base spare held n 26 cs = some y) : ∃ v l, cs = [v] ∧ BytesV W v l := by
  rcases open_ints Tryz.underlying26 Tryz.underlying5 (by kernel_rfl) h with ⟨hcs, _⟩ | ⟨x, len, cap, zs, hcs, _, hl, hm, hz, _, hcell, hwz⟩
  · subst hcs
    exact ⟨_, [], rfl, .none, 0, rfl, Nat.le_refl _, Nat.zero_le _, RowAt.nil _ _ _⟩
  · subst hcs
    by_cases h0 : len = 0
    · subst h0
      exact ⟨_, [], rfl, some x, cap, rfl, hl, hm, RowAt.nil _ _ _⟩
    have hz' : len ≤ zs.length := by rw [hz]; split <;> omega
    have hx : x.spot = none := by simpa [Addr.add] using World.cell?_spot (hcell 0 (by omega))
    obtain ⟨b, off, spot⟩ := x
    simp only at hx
    subst hx
    have e1 : (zs.take len).length = len := by simp; omega
    refine ⟨_, (zs.take len).map (fun z => UInt8.ofNat z.toNat), rfl, some ⟨b, off, none⟩, cap, by simp; omega, by simp; omega, hm, fun q hq => by
      obtain ⟨u, _, rfl⟩ := List.mem_map.1 hq; rfl, Or.inr ⟨b, off, rfl, fun i hi j hj => ?_⟩⟩
    simp at hi
    obtain rfl : j = 0 := by omega
    have hc := hcell i (by omega)
    have hgd : zs.getD i 0 = zs[i]'(by omega) := by rw [List.getD_eq_getElem?_getD, List.getElem?_eq_getElem (by omega)]; rfl
    rw [hgd] at hc
    have hw := hwz (zs[i]'(by omega)) (List.getElem_mem _)
    have hb : (0 : Int) ≤ zs[i]'(by omega) ∧ zs[i]'(by omega) ≤ 255 := by
      have e0 : IntKind.u8.min = 0 := by decide
      have e1 : IntKind.u8.max = 255 := by decide
      rw [Lit.wf, Bool.and_eq_true, decide_eq_true_eq, decide_eq_true_eq, e0, e1] at hw
      exact hw
    have e : (⟨b, off, none⟩ : Addr).add i = ⟨b, off + i, none⟩ := by unfold Addr.add; by_cases hj : i = 0 <;> simp [hj]
    rw [e] at hc
    have e3 : ((UInt8.ofNat (zs[i]'(by omega)).toNat).toNat : Int) = zs[i]'(by omega) := by rw [UInt8.toNat_ofNat']; omega
    have e4 : (((zs.take len).map (fun z => UInt8.ofNat z.toNat)).map byX)[i]'(by simp; omega) = byX (UInt8.ofNat (zs[i]'(by omega)).toNat) := by simp
    rw [Nat.mul_one, Nat.add_zero, hc, e4]
    show _ = some (Value.int .u8 _)
    rw [e3]

set_option maxRecDepth 100000 in
set_option maxHeartbeats 1000000 in
/-- laws.toByteS -/
theorem toByteS_full (v : Value) (l : List UInt8) (w : World) (hc : BytesV w v l) (hn : l.length ≤ 1048576) :
    Calls Tryz.prog 16 #[v] w fun e w' => e = .returned (.slice (some ⟨w.heap.size, 0, none⟩) l.length l.length) ∧ Below w.heap.size w w' ∧ Fill w' w.heap.size 5 1 l.length (l.map byX) := by
  obtain ⟨a, cap, rfl, hl, hm, hc⟩ := hc
  unfold maxLen at hm
  have HC : Hid (RowAt w a 1 (l.map byX)) := hc
  clear hc
  have hmk := run_makes (P := Tryz.prog) 26 5 (.int .u8 0) #[.int .u8 0] 1 1 Tryz.underlying26 (by kernel_rfl) rfl .i64 .i64 l.length (by omega) (by omega)
  rw [Nat.mul_one] at hmk
  go_enter Tryz.func16, Tryz.ntmps16
  go_wp2
  have HF : Hid (Fill (w.alloc (.cells (madeCells #[.int .u8 0] l.length) 5)) w.heap.size 5 1 l.length ((l.take 0).map byX)) := Fill.new w _ 1 l.length _ ((size_madeCells _ _).trans (Nat.mul_one _).symm)
  go_loopw [4] (fun i wr => ∃ k : Nat, k ≤ l.length ∧ i = .int .i64 k ∧ Below w.heap.size w wr ∧ Hid (Fill wr w.heap.size 5 1 l.length ((l.take k).map byX))) (fun i _ => l.length - (intOf i).toNat)
  case atStart => exact ⟨0, Nat.zero_le _, rfl, (by repeat (first | with_reducible exact Below.refl _ _ | with_reducible assumption | with_reducible refine ch_alloc ?_ _ | with_reducible refine Below.drew ?_ | with_reducible refine below_draws _ ?_ | (with_reducible refine Below.setCell ?_ ?_ _; rotate_left; focus (first | with_reducible exact Nat.le_refl _ | (simp; done) | (simp; omega) | (simp at *; omega))) | with_reducible refine ch_trans ?_ (by with_reducible assumption))), HF⟩
  case round =>
    clear HF
    obtain ⟨k, hk, rfl, hb, HF⟩ := hrel
    by_cases hlt : k < l.length
    · have hlti : (k : Int) < l.length := by omega
      obtain ⟨b, off, rfl, c0⟩ := (HC.out.on hb).bytes k hlt
      obtain ⟨v0, g0, f0⟩ := HF.out.one (k := k) (by simp; omega) hlt
      have HF' : Hid (Fill (stores wr w.heap.size k [.int .u8 (l[k].toNat : Int)]) w.heap.size 5 1 l.length ((l.take (k + 1)).map byX)) := HF.out.byte hlt hlt
      go_wp2
      go_round
      case rel => exact ⟨k + 1, by omega, by go_num, (by repeat (first | with_reducible exact Below.refl _ _ | with_reducible assumption | with_reducible refine ch_alloc ?_ _ | with_reducible refine Below.drew ?_ | with_reducible refine below_draws _ ?_ | (with_reducible refine Below.setCell ?_ ?_ _; rotate_left; focus (first | with_reducible exact Nat.le_refl _ | (simp; done) | (simp; omega) | (simp at *; omega))) | with_reducible refine ch_trans ?_ (by with_reducible assumption))), HF'⟩
      case measure => simp [intOf]; omega
    · have hlti : (l.length : Int) ≤ k := by omega
      have HR : Hid (Fill wr w.heap.size 5 1 l.length (l.map byX)) := by
        have := HF.out
        rwa [List.take_of_length_le (by omega)] at this
      go_wp2
      go_ret
      exact ⟨rfl, (by repeat (first | with_reducible exact Below.refl _ _ | with_reducible assumption | with_reducible refine ch_alloc ?_ _ | with_reducible refine Below.drew ?_ | with_reducible refine below_draws _ ?_ | (with_reducible refine Below.setCell ?_ ?_ _; rotate_left; focus (first | with_reducible exact Nat.le_refl _ | (simp; done) | (simp; omega) | (simp at *; omega))) | with_reducible refine ch_trans ?_ (by with_reducible assumption))), HR.out.on (by repeat (first | with_reducible exact Below.refl _ _ | with_reducible assumption | with_reducible refine ch_alloc ?_ _ | with_reducible refine Below.drew ?_ | with_reducible refine below_draws _ ?_ | (with_reducible refine Below.setCell ?_ ?_ _; rotate_left; focus (first | with_reducible exact Nat.le_refl _ | (simp; done) | (simp; omega) | (simp at *; omega))) | with_reducible refine ch_trans ?_ (by with_reducible assumption)))⟩

set_option maxRecDepth 100000 in
set_option maxHeartbeats 1000000 in
/-- laws.eqByteS of two that are alike -/
theorem eqByteS_same (v v' : Value) (l : List UInt8) (w : World) (ha : BytesV w v l) (hb : BytesV w v' l) :
    Calls Tryz.prog 19 #[v, v'] w fun e w' => e = .returned (.bool true) ∧ Below w.heap.size w w' := by
  obtain ⟨a, cap, rfl, hl, hm, hc⟩ := ha
  obtain ⟨a', cap', rfl, hl', hm', hc'⟩ := hb
  unfold maxLen at hm hm'
  have HC : Hid (RowAt w a 1 (l.map byX)) := hc
  have HC' : Hid (RowAt w a' 1 (l.map byX)) := hc'
  clear hc hc'
  go_enter Tryz.func19, Tryz.ntmps19
  go_wp2
  go_loopw [5] (fun i wr => ∃ k : Nat, k ≤ l.length ∧ i = .int .i64 k ∧ Below w.heap.size w wr) (fun i _ => l.length - (intOf i).toNat)
  case atStart => exact ⟨0, Nat.zero_le _, rfl, (by repeat (first | with_reducible exact Below.refl _ _ | with_reducible assumption | with_reducible refine ch_alloc ?_ _ | with_reducible refine Below.drew ?_ | with_reducible refine below_draws _ ?_ | (with_reducible refine Below.setCell ?_ ?_ _; rotate_left; focus (first | with_reducible exact Nat.le_refl _ | (simp; done) | (simp; omega) | (simp at *; omega))) | with_reducible refine ch_trans ?_ (by with_reducible assumption)))⟩
  case round =>
    obtain ⟨k, hk, rfl, hb⟩ := hrel
    by_cases hlt : k < l.length
    · have hlti : (k : Int) < l.length := by omega
      obtain ⟨b, off, rfl, c0⟩ := (HC.out.on hb).bytes k hlt
      obtain ⟨b', off', rfl, d0⟩ := (HC'.out.on hb).bytes k hlt
      have hq : ((l[k].toNat : Int) != (l[k].toNat : Int)) = false := by simp
      go_wp2
      go_region
      all_goals
        go_wp2
        go_round
        case rel => exact ⟨k + 1, by omega, by go_num, (by repeat (first | with_reducible exact Below.refl _ _ | with_reducible assumption | with_reducible refine ch_alloc ?_ _ | with_reducible refine Below.drew ?_ | with_reducible refine below_draws _ ?_ | (with_reducible refine Below.setCell ?_ ?_ _; rotate_left; focus (first | with_reducible exact Nat.le_refl _ | (simp; done) | (simp; omega) | (simp at *; omega))) | with_reducible refine ch_trans ?_ (by with_reducible assumption)))⟩
        case measure => simp [intOf]; omega
    · have hlti : (l.length : Int) ≤ k := by omega
      go_wp2
      go_ret
      exact ⟨rfl, (by repeat (first | with_reducible exact Below.refl _ _ | with_reducible assumption | with_reducible refine ch_alloc ?_ _ | with_reducible refine Below.drew ?_ | with_reducible refine below_draws _ ?_ | (with_reducible refine Below.setCell ?_ ?_ _; rotate_left; focus (first | with_reducible exact Nat.le_refl _ | (simp; done) | (simp; omega) | (simp at *; omega))) | with_reducible refine ch_trans ?_ (by with_reducible assumption)))⟩

/-- The mark of a byte at a place. -/
abbrev markY (k i : Nat) : Value := .int .u8 (((k + i) % 256 : Nat) : Int)
set_option maxRecDepth 100000 in
theorem markByteS_nil (k : Nat) (w : World) : Calls Tryz.prog 20 #[.slice none 0 0, .int .i64 k] w fun e w' => e = .returned (.int .i64 k) ∧ Below w.heap.size w w' := by
  go_enter Tryz.func20, Tryz.ntmps20
  go_wp2
  go_loopw [1, 5] (fun q i wr => i = .int .i64 0 ∧ q = .int .i64 (k : Int) ∧ Below w.heap.size w wr) (fun _ _ _ => 0)
  case atStart => exact ⟨rfl, rfl, (by repeat (first | with_reducible exact Below.refl _ _ | with_reducible assumption | with_reducible refine ch_alloc ?_ _ | with_reducible refine Below.drew ?_ | with_reducible refine below_draws _ ?_ | (with_reducible refine Below.setCell ?_ ?_ _; rotate_left; focus (first | with_reducible exact Nat.le_refl _ | (simp; done) | (simp; omega) | (simp at *; omega))) | with_reducible refine ch_trans ?_ (by with_reducible assumption)))⟩
  case round =>
    obtain ⟨rfl, rfl, hb⟩ := hrel
    go_wp2
    go_ret
    exact ⟨rfl, (by repeat (first | with_reducible exact Below.refl _ _ | with_reducible assumption | with_reducible refine ch_alloc ?_ _ | with_reducible refine Below.drew ?_ | with_reducible refine below_draws _ ?_ | (with_reducible refine Below.setCell ?_ ?_ _; rotate_left; focus (first | with_reducible exact Nat.le_refl _ | (simp; done) | (simp; omega) | (simp at *; omega))) | with_reducible refine ch_trans ?_ (by with_reducible assumption)))⟩
set_option maxRecDepth 100000 in
theorem heldByteS_nil (k : Nat) (w : World) : Calls Tryz.prog 38 #[.slice none 0 0, .int .i64 k] w fun e w' => e = .returned (.int .i64 k) ∧ Below w.heap.size w w' := by
  go_enter Tryz.func38, Tryz.ntmps38
  go_wp2
  go_loopw [1, 5] (fun q i wr => i = .int .i64 0 ∧ q = .int .i64 (k : Int) ∧ Below w.heap.size w wr) (fun _ _ _ => 0)
  case atStart => exact ⟨rfl, rfl, (by repeat (first | with_reducible exact Below.refl _ _ | with_reducible assumption | with_reducible refine ch_alloc ?_ _ | with_reducible refine Below.drew ?_ | with_reducible refine below_draws _ ?_ | (with_reducible refine Below.setCell ?_ ?_ _; rotate_left; focus (first | with_reducible exact Nat.le_refl _ | (simp; done) | (simp; omega) | (simp at *; omega))) | with_reducible refine ch_trans ?_ (by with_reducible assumption)))⟩
  case round =>
    obtain ⟨rfl, rfl, hb⟩ := hrel
    go_wp2
    go_ret
    exact ⟨rfl, (by repeat (first | with_reducible exact Below.refl _ _ | with_reducible assumption | with_reducible refine ch_alloc ?_ _ | with_reducible refine Below.drew ?_ | with_reducible refine below_draws _ ?_ | (with_reducible refine Below.setCell ?_ ?_ _; rotate_left; focus (first | with_reducible exact Nat.le_refl _ | (simp; done) | (simp; omega) | (simp at *; omega))) | with_reducible refine ch_trans ?_ (by with_reducible assumption)))⟩
theorem wrapY (n : Nat) : IntKind.u8.wrap ((n : Nat) : Int) = ((n % 256 : Nat) : Int) := by
  simp [IntKind.wrap, IntKind.signed, IntKind.bits]
set_option maxRecDepth 100000 in
set_option maxHeartbeats 1000000 in
theorem markByteS_wide (b n cap m : Nat) (T : TypeId) (f : Nat → Value) (k : Nat) (w : World) (hr : w.rowIs b T m f) (hn : n ≤ m) (hl : n ≤ 2000000) (hk : k ≤ 8000000000000000000) :
    Calls Tryz.prog 20 #[.slice (some ⟨b, 0, none⟩) n cap, .int .i64 k] w fun e w' => e = .returned (.int .i64 ((k + n : Nat) : Int)) ∧ Turns (· = b) w w' ∧ w'.rowIs b T m (fun i => if i < n then markY k i else f i) := by
  have HR : Hid (w.rowIs b T m (fun i => if i < 0 then markY k i else f i)) := by
    show World.rowIs _ _ _ _ _
    exact hr.congr fun i _ => by simp
  clear hr
  go_enter Tryz.func20, Tryz.ntmps20
  go_wp2
  go_loopw [1, 5] (fun q i wr => ∃ j : Nat, j ≤ n ∧ i = .int .i64 j ∧ q = .int .i64 ((k + j : Nat) : Int) ∧ Hid (Turns (· = b) w wr) ∧ Hid (wr.rowIs b T m (fun i => if i < j then markY k i else f i))) (fun _ i _ => n - (intOf i).toNat)
  case atStart => exact ⟨0, Nat.zero_le _, rfl, rfl, Turns.refl _ _, HR⟩
  case round =>
    clear HR
    obtain ⟨j, hj, rfl, rfl, HT, HR⟩ := hrel
    by_cases hlt : j < n
    · have hlti : (j : Int) < n := by omega
      have g0 := HR.out.cell (i := j) (by omega)
      rw [if_neg (Nat.lt_irrefl _)] at g0
      have f0 := HR.out.frozen j
      have hwy := wrapY (k + j)
      have HT' : Hid (Turns (· = b) w (wr.setCell ⟨b, j, none⟩ (markY k j))) := HT.out.set rfl _
      have HR' : Hid ((wr.setCell ⟨b, j, none⟩ (markY k j)).rowIs b T m (fun i => if i < j + 1 then markY k i else f i)) := by
        show World.rowIs _ _ _ _ _
        refine (HR.out.set j (markY k j)).congr fun i hi => ?_
        by_cases e : i = j
        · subst e; simp
        · by_cases e2 : i < j
          · simp [e, e2, show i < j + 1 by omega]
          · simp [e, e2, show ¬ i < j + 1 by omega]
      go_wp2
      go_round
      case rel => exact ⟨j + 1, by omega, by go_num, by go_num, HT', HR'⟩
      case measure => simp [intOf]; omega
    · have hlti : (n : Int) ≤ j := by omega
      obtain rfl : j = n := by omega
      go_wp2
      go_ret
      exact ⟨rfl, HT.out, HR.out⟩
set_option maxRecDepth 100000 in
set_option maxHeartbeats 1000000 in
theorem heldByteS_wide (b n cap m : Nat) (T : TypeId) (f : Nat → Value) (k : Nat) (w : World) (hr : w.rowIs b T m f) (hn : n ≤ m) (hl : n ≤ 2000000) (hk : k ≤ 8000000000000000000) (hf : ∀ i, i < n → f i = markY k i) :
    Calls Tryz.prog 38 #[.slice (some ⟨b, 0, none⟩) n cap, .int .i64 k] w fun e w' => e = .returned (.int .i64 ((k + n : Nat) : Int)) ∧ Below w.heap.size w w' := by
  have HR : Hid (w.rowIs b T m f) := hr
  have HF : Hid (∀ i, i < n → f i = markY k i) := hf
  clear hr hf
  go_enter Tryz.func38, Tryz.ntmps38
  go_wp2
  go_loopw [1, 5] (fun q i wr => ∃ j : Nat, j ≤ n ∧ i = .int .i64 j ∧ q = .int .i64 ((k + j : Nat) : Int) ∧ Below w.heap.size w wr) (fun _ i _ => n - (intOf i).toNat)
  case atStart => exact ⟨0, Nat.zero_le _, rfl, rfl, (by repeat (first | with_reducible exact Below.refl _ _ | with_reducible assumption | with_reducible refine ch_alloc ?_ _ | with_reducible refine Below.drew ?_ | with_reducible refine below_draws _ ?_ | (with_reducible refine Below.setCell ?_ ?_ _; rotate_left; focus (first | with_reducible exact Nat.le_refl _ | (simp; done) | (simp; omega) | (simp at *; omega))) | with_reducible refine ch_trans ?_ (by with_reducible assumption)))⟩
  case round =>
    obtain ⟨j, hj, rfl, rfl, hb⟩ := hrel
    by_cases hlt : j < n
    · have hlti : (j : Int) < n := by omega
      have g0 := (rowIs_on HR.out hb).cell (i := j) (by omega)
      rw [HF.out j hlt] at g0
      have hwy := wrapY (k + j)
      have hne : ((((k + j) % 256 : Nat) : Int) != (((k + j) % 256 : Nat) : Int)) = false := by simp
      go_wp2
      go_round
      case rel => exact ⟨j + 1, by omega, by go_num, by go_num, (by repeat (first | with_reducible exact Below.refl _ _ | with_reducible assumption | with_reducible refine ch_alloc ?_ _ | with_reducible refine Below.drew ?_ | with_reducible refine below_draws _ ?_ | (with_reducible refine Below.setCell ?_ ?_ _; rotate_left; focus (first | with_reducible exact Nat.le_refl _ | (simp; done) | (simp; omega) | (simp at *; omega))) | with_reducible refine ch_trans ?_ (by with_reducible assumption)))⟩
      case measure => simp [intOf]; omega
    · have hlti : (n : Int) ≤ j := by omega
      obtain rfl : j = n := by omega
      go_wp2
      go_ret
      exact ⟨rfl, (by repeat (first | with_reducible exact Below.refl _ _ | with_reducible assumption | with_reducible refine ch_alloc ?_ _ | with_reducible refine Below.drew ?_ | with_reducible refine below_draws _ ?_ | (with_reducible refine Below.setCell ?_ ?_ _; rotate_left; focus (first | with_reducible exact Nat.le_refl _ | (simp; done) | (simp; omega) | (simp at *; omega))) | with_reducible refine ch_trans ?_ (by with_reducible assumption)))⟩
theorem markByteS_got {w : World} {B : Nat} {T : TypeId} {v : Value} {xs : List (Array Value)} (h : Got w B T 1 v xs) (hl : xs.length ≤ 2000000) (k : Nat) (hk : k ≤ 8000000000000000000) :
    Calls Tryz.prog 20 #[v, .int .i64 k] w fun e w' => e = .returned (.int .i64 ((k + xs.length : Nat) : Int)) ∧ Turns (fun c => v.ownBlock = some c) w w' ∧ HeldL w' v 1 (markY k) xs.length := by
  rcases h.rowIs with ⟨rfl, hn⟩ | ⟨b, cap, f, rfl, hr, hm⟩
  · refine (markByteS_nil k w).mono fun e w' ⟨he, hb⟩ => ⟨?_, Turns.below (Turns.refl _ _) hb, Or.inl ⟨rfl, hn⟩⟩
    rw [he, hn]; simp
  · rw [Nat.mul_one] at hr
    rw [Nat.mul_one, Nat.mul_one] at hm
    refine (markByteS_wide b xs.length cap cap T f k w hr hm hl hk).mono fun e w' ⟨he, hT, hR⟩ => ⟨he, hT.mono fun c hc => by subst hc; rfl, Or.inr ⟨b, cap, cap, T, _, rfl, hR, by omega, fun i hi => ?_⟩⟩
    rw [Nat.mul_one] at hi
    simp [hi]
theorem heldByteS_held {w : World} {v : Value} {k n : Nat} (h : HeldL w v 1 (markY k) n) (hl : n ≤ 2000000) (hk : k ≤ 8000000000000000000) :
    Calls Tryz.prog 38 #[v, .int .i64 k] w fun e w' => e = .returned (.int .i64 ((k + n : Nat) : Int)) ∧ Below w.heap.size w w' := by
  rcases h with ⟨rfl, hn⟩ | ⟨b, cap, m, T, f, rfl, h1, h2, h3⟩
  · refine (heldByteS_nil k w).mono fun e w' ⟨he, hb⟩ => ⟨?_, hb⟩
    rw [he, hn]; simp
  · exact heldByteS_wide b n cap m T f k w h1 (by omega) hl hk fun i hi => h3 i (by omega)
end Go.Proofs.YtiijahoheajppaaGreat
