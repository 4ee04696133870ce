/- The places of a right table's keys: the landed keyPlacesOf. A region that draws its order, in worlds that only grow: one walk serves every order. The key of a row: the given l03Key, the landed keyOf. Copies, whole blocks each: columns, texts, tables. -/
import Derived.Test.YtmcjchaokpcomaaAp
import Derived.Test.YtmcjchaokpcomaaTbOkI
import Derived.Test.YtmcjchaokpcomaaCh
import Derived.Deep.QuietTactic
import Derived.BigQuiet
import Derived.Test.YtmcjchaokpcomaaVs
import Derived.Deep.RegionWith
import Derived.Test.YtmcjchaokpcomaaRw
namespace Go.Proofs.Ytmcjchaokpcomaa
open Go.ChangeShapes Go.WideShapes Go.ChangeAt Go.RowKit

theorem MapIs.look_at {P : Program} {k t e : TypeId} {w : World} {b n : Nat} {L : List (ByteArray × Value)} (h : MapIs P k w b n L) (hk : P.underlying k = some .string) (ht : P.underlying t = some (.map k e)) {z : Value} (hz : (zeroValue e).run P w = .ok z w) {s : ByteArray} (hs : s.size ≤ maxLen) {p : ByteArray × Value} (hp : L.find? (fun p => decide (p.1 = s)) = some p) :
    (Instr.lookup t (.map (some b)) (.string s) false).run P w = .ok p.2 w := by
  obtain ⟨D, ho, h1, h2, _⟩ := h
  obtain ⟨v, ps, hr, hv⟩ := ho.lookup (Maps.string_keyed hk) ht hz (zd := .held z) (zp := []) rfl (WideMaps.keyOf_string_mk hk hs)
  rw [h2 s p hp] at hv
  have hv' : v = p.2 := by simp [rv] at hv; exact hv.1
  rw [hr, hv']
/-- Each key of a right table is at a place. -/
theorem right_key {t : Tc} (h : t.right) (j : Nat) (hj : j < t.keys.length) : ∃ i, ∃ hi : i < t.cols.length, colAt t.cols t.keys[j] = (i : Int) ∧ t.cols[i].nt = true := by
  obtain ⟨h1, g, h2⟩ := h.2.2.2.2.2.2 j hj
  have h3 := lastAt_ge t.cols t.keys j
  refine ⟨_, g, by omega, h2⟩
theorem right_keys {t : Tc} (h : t.right) : t.keys.length ≤ t.cols.length := by
  have hl : ∀ j, j ≤ t.keys.length → (j : Int) - 1 ≤ lastAt t.cols t.keys j := by
    intro j
    induction j with
    | zero => intro _; rw [lastAt]; omega
    | succ j ih =>
      intro hj
      have h1 := ih (by omega)
      have h2 := (h.2.2.2.2.2.2 j (by omega)).1
      rw [lastAt_succ (by omega)]
      omega
  have h0 := h.2.2.2.1
  have h1 := hl t.keys.length (Nat.le_refl _)
  obtain ⟨n, hn⟩ : ∃ n, t.keys.length = n + 1 := ⟨t.keys.length - 1, by omega⟩
  rw [hn, lastAt_succ (by omega)] at h1
  have := (colAt_lt t.cols t.keys[n]).2
  omega
/-- The places of the keys. -/
def Tc.places (t : Tc) : List Int := t.keys.map (colAt t.cols)
abbrev intX (i : Int) : Array Value := #[.int .i64 i]
/-- Numbers behind a slice. -/
def IntsV (w : World) (v : Value) (is : List Int) : Prop := ∃ a cap, v = .slice a is.length cap ∧ is.length ≤ cap ∧ cap ≤ maxLen ∧ RowAt w a 1 (is.map intX)
theorem IntsV.on {w w' : World} {v : Value} {is : List Int} (h : IntsV w v is) (b : Below w.heap.size w w') : IntsV w' v is := by
  obtain ⟨a, cap, e, h1, h2, h⟩ := h; exact ⟨a, cap, e, h1, h2, h.on b⟩
theorem IntsV.lit {w : World} {v : Value} {is : List Int} (h : IntsV w v is) : ∃ a cap, v = .slice a is.length cap ∧ is.length ≤ cap ∧ cap ≤ maxLen ∧ IntsV w (.slice a is.length cap) is := by
  obtain ⟨a, cap, rfl, h1, h2, h3⟩ := h; exact ⟨a, cap, rfl, h1, h2, a, cap, rfl, h1, h2, h3⟩
theorem IntsV.row {w : World} {a : Option Addr} {n cap : Nat} {is : List Int} (h : IntsV w (.slice a n cap) is) : RowAt w a 1 (is.map intX) := by
  obtain ⟨a', cap', e, _, _, h⟩ := h; cases e; exact h
theorem RowAt.ints {w : World} {a : Option Addr} {ks : List Int} (h : RowAt w a 1 (ks.map intX)) (k : Nat) (hk : k < ks.length) : ∃ b off, a = some ⟨b, off, none⟩ ∧ w.cell? ⟨b, off + k, none⟩ = some (.int .i64 ks[k]) := by
  rcases h.2 with h0 | ⟨b, off, ha, h⟩
  · rw [List.map_eq_nil_iff] at h0; subst h0; exact absurd hk (Nat.not_lt_zero _)
  · have hk' : k < (ks.map intX).length := by simpa using hk
    have e : (ks.map intX)[k] = intX ks[k] := by simp
    have := h k hk' 0 (by omega)
    rw [e, Nat.mul_one] at this
    exact ⟨b, off, ha, this⟩

theorem fieldAt (i ty dt dn : Int) (s ds : ByteArray) (nt has : Bool) (w : World) : (Instr.field 140 (.agg #[.int .i64 i, .string s, .int .i64 ty, .bool nt, .bool has, .int .i64 dt, .int .i64 dn, .string ds]) 0).run Try.prog w = .ok (.int .i64 i) w := by kernel_rfl
theorem infoInt : (Try.prog.info? 3).map (fun i => (i.zero, i.size, i.bytes)) = some (some (.int .i64 0), 1, 8) := by kernel_rfl

end Go.Proofs.Ytmcjchaokpcomaa

namespace Go.Proofs.Ytmcjchaokpcomaa
open Go.ChangeShapes Go.WideShapes Go.ChangeAt Go.RowKit

/-- A world grown out of another, nothing that was there turned. -/
def Grows (u w : World) : Prop := Below u.heap.size u w
theorem Grows.drawn (u : World) : Grows u { u with drawn := u.drawn + 1 } := ⟨rfl, rfl, rfl, Nat.le_refl _, fun _ _ => rfl⟩
theorem region_grown {P : Program} {id : Nat} {Q : Exit → Act → World → Prop} {a : Act} {u : World} {l : List Oper} (hm : P.follows .mixedOrders = true) (hB : Region.lexB .any l.toArray = true)
    (h : wpQuiet P l.toArray (Grows u) (fun a' => ∀ w', Grows u w' → Q .normal a' w') l a) : (Code.region id l.toArray true).wp P Q a u :=
  wp_region_quiet (C := Grows u) hm hB (Grows.drawn u) (by simpa using h)
/-- A callee that returns a value and only grows the world. -/
theorem Grows.call {P : Program} {f : FuncId} {args : Array Value} {u w : World} {v : Value} (hw : Grows u w) (h : Calls P f args w fun e w' => e = .returned v ∧ Below w.heap.size w w') : Calls P f args w fun e w' => e = .returned v ∧ Grows u w' :=
  h.mono fun _ _ ⟨h1, h2⟩ => ⟨h1, ch_trans hw h2⟩
theorem Grows.cell {u w : World} {p : Addr} {v : Value} (hw : Grows u w) (h : u.cell? p = some v) : w.cell? p = some v := cell_on h hw
end Go.Proofs.Ytmcjchaokpcomaa

namespace Go.Proofs.Ytmcjchaokpcomaa
open Go.ChangeShapes Go.WideShapes Go.ChangeAt Go.RowKit

abbrev Vc.zero : Vc := ⟨0, 0, ByteArray.empty⟩
/-- The values at some places. -/
def valsAt (is : List Int) (vs : List Vc) : List Vc := is.map fun i => vs.getD i.toNat Vc.zero
/-- The key of a row. -/
def keyVals (t : Tc) (vs : List Vc) : List Vc := valsAt t.places vs
theorem valsAt_take {is : List Int} {vs : List Vc} {k i : Nat} (hk : k < is.length) (he : is[k] = (i : Int)) (hi : i < vs.length) : ((valsAt is vs).take (k + 1)).map Vc.cells = ((valsAt is vs).take k).map Vc.cells ++ [vs[i].cells] := by
  have hl : k < (valsAt is vs).length := by simpa [valsAt] using hk
  rw [List.take_succ_eq_append_getElem hl, List.map_append]
  simp [valsAt, he, hi]
theorem Got.vals {w : World} {B : Nat} {T : TypeId} {v : Value} {vs : List Vc} (h : Got w B T 3 v (vs.map Vc.cells)) : ValsV w v vs := by
  obtain ⟨a, cap, e, h1, h2, h3, _⟩ := h.row
  exact ⟨a, cap, by simpa using e, by simpa using h1, h2, h3⟩
theorem infoVal : (Try.prog.info? 100).map (fun i => (i.zero, i.size, i.bytes)) = some (some (.agg #[.int .i64 0, .int .i64 0, .string ByteArray.empty]), 3, 32) := by kernel_rfl
theorem val_one (c : Vc) : ∀ u ∈ c.cells.toList, u.oneCell' = true := by
  intro u hu
  simp at hu
  rcases hu with rfl | rfl | rfl <;> rfl
/-- Places within a row. -/
def within' (is : List Int) (n : Nat) : Prop := ∀ k (h : k < is.length), ∃ i : Nat, i < n ∧ is[k] = (i : Int)
theorem right_within {t : Tc} (h : t.right) : within' t.places t.cols.length := fun k hk => by
  obtain ⟨i, hi, e, _⟩ := right_key h k (by simpa [Tc.places] using hk)
  exact ⟨i, hi, by simpa [Tc.places] using e⟩

end Go.Proofs.Ytmcjchaokpcomaa

namespace Go.Proofs.Ytmcjchaokpcomaa
open Go.ChangeShapes Go.WideShapes Go.ChangeAt Go.RowKit

set_option maxRecDepth 100000 in
set_option maxHeartbeats 1000000 in
/-- laws.toColS -/
theorem toColS_full (cv : Value) (cs : List Cl) (w : World) (hc : ColsV w cv cs) (hn : cs.length ≤ 1048576) :
    Calls Try.prog 82 #[cv] w fun e w' => e = .returned (.slice (some ⟨w.heap.size, 0, none⟩) cs.length cs.length) ∧ Below w.heap.size w w' ∧ Fill w' w.heap.size 102 7 cs.length (cs.map Cl.cells) := by
  obtain ⟨a, cap, rfl, hl, hm, hc⟩ := hc
  unfold maxLen at hm
  have HC : Hid (RowAt w a 7 (cs.map Cl.cells)) := hc
  clear hc
  have hmk := run_makes (P := Try.prog) 38 102 (.agg #[.string ByteArray.empty, .int .i64 0, .bool false, .bool false, .int .i64 0, .int .i64 0, .string ByteArray.empty]) _ 7 64 Try.underlying38 (by kernel_rfl) rfl .i64 .i64 cs.length (by omega) (by omega)
  go_enter Try.func82, Try.ntmps82
  go_wp2
  have HF : Hid (Fill (w.alloc (.cells (madeCells #[.string ByteArray.empty, .int .i64 0, .bool false, .bool false, .int .i64 0, .int .i64 0, .string ByteArray.empty] (cs.length * 7)) 102)) w.heap.size 102 7 cs.length ((cs.take 0).map Cl.cells)) := Fill.new w _ 7 cs.length _ (size_madeCells _ _)
  go_loopw [4] (fun i wr => ∃ k : Nat, k ≤ cs.length ∧ i = .int .i64 k ∧ Below w.heap.size w wr ∧ Hid (Fill wr w.heap.size 102 7 cs.length ((cs.take k).map Cl.cells))) (fun i _ => cs.length - (intOf i).toNat)
  case atStart => exact ⟨0, Nat.zero_le _, rfl, (by repeat (first | with_reducible exact Below.refl _ _ | with_reducible assumption | with_reducible refine ch_alloc ?_ _ | with_reducible refine Below.drew ?_ | with_reducible refine below_draws _ ?_ | (with_reducible refine Below.setCell ?_ ?_ _; rotate_left; focus (first | with_reducible exact Nat.le_refl _ | (simp; done) | (simp; omega) | (simp at *; omega))) | with_reducible refine ch_trans ?_ (by with_reducible assumption))), HF⟩
  case round =>
    clear HF
    obtain ⟨k, hk, rfl, hb, HF⟩ := hrel
    by_cases hlt : k < cs.length
    · have hlti : (k : Int) < cs.length := by omega
      obtain ⟨b, off, rfl, c0, c1, c2, c3, c4, c5, c6⟩ := (HC.out.on hb).cols k hlt
      have HS : Hid (∀ w : World, Calls Try.prog 96 #[cs[k].v] w fun e w' => e = .returned cs[k].v ∧ Below w.heap.size w w') := fun w => toCol_any cs[k] w
      go_wp2_with (go_at_call 96; refine (HS.out _).mono ?_; rintro e w1 ⟨rfl, b1⟩
                   obtain ⟨v0, v1, v2, v3, v4, v5, v6, ⟨g0, g1, g2, g3, g4, g5, g6⟩, f0, f1, f2, f3, f4, f5, f6⟩ := (HF.out.on b1).seven (k := k) (by simp; omega) hlt)
      have HF' : Hid (Fill (stores w1 w.heap.size (k * 7) cs[k].cells.toList) w.heap.size 102 7 cs.length ((cs.take (k + 1)).map Cl.cells)) := (HF.out.on b1).col hlt hlt
      go_round
      case rel => exact ⟨k + 1, by omega, by go_num, (by repeat (first | with_reducible exact Below.refl _ _ | with_reducible assumption | with_reducible refine ch_alloc ?_ _ | with_reducible refine Below.drew ?_ | with_reducible refine below_draws _ ?_ | (with_reducible refine Below.setCell ?_ ?_ _; rotate_left; focus (first | with_reducible exact Nat.le_refl _ | (simp; done) | (simp; omega) | (simp at *; omega))) | with_reducible refine ch_trans ?_ (by with_reducible assumption))), HF'⟩
      case measure => simp [intOf]; omega
    · have hlti : (cs.length : Int) ≤ k := by omega
      have HR : Hid (Fill wr w.heap.size 102 7 cs.length (cs.map Cl.cells)) := by
        have := HF.out
        rwa [List.take_of_length_le (by omega)] at this
      go_wp2
      go_ret
      exact ⟨rfl, (by repeat (first | with_reducible exact Below.refl _ _ | with_reducible assumption | with_reducible refine ch_alloc ?_ _ | with_reducible refine Below.drew ?_ | with_reducible refine below_draws _ ?_ | (with_reducible refine Below.setCell ?_ ?_ _; rotate_left; focus (first | with_reducible exact Nat.le_refl _ | (simp; done) | (simp; omega) | (simp at *; omega))) | with_reducible refine ch_trans ?_ (by with_reducible assumption))), HR.out.on (by repeat (first | with_reducible exact Below.refl _ _ | with_reducible assumption | with_reducible refine ch_alloc ?_ _ | with_reducible refine Below.drew ?_ | with_reducible refine below_draws _ ?_ | (with_reducible refine Below.setCell ?_ ?_ _; rotate_left; focus (first | with_reducible exact Nat.le_refl _ | (simp; done) | (simp; omega) | (simp at *; omega))) | with_reducible refine ch_trans ?_ (by with_reducible assumption)))⟩

set_option maxRecDepth 100000 in
set_option maxHeartbeats 1000000 in
/-- laws.toStringS -/
theorem toStringS_full (kv : Value) (ks : List ByteArray) (w : World) (hc : StrsV w kv ks) (hn : ks.length ≤ 1048576) :
    Calls Try.prog 83 #[kv] w fun e w' => e = .returned (.slice (some ⟨w.heap.size, 0, none⟩) ks.length ks.length) ∧ Below w.heap.size w w' ∧ Fill w' w.heap.size 9 1 ks.length (ks.map strX) := by
  obtain ⟨a, cap, rfl, hl, hm, hc⟩ := hc
  unfold maxLen at hm
  have HC : Hid (RowAt w a 1 (ks.map strX)) := hc
  clear hc
  have hmk := run_makes (P := Try.prog) 26 9 (.string ByteArray.empty) #[.string ByteArray.empty] 1 16 Try.underlying26 (by kernel_rfl) rfl .i64 .i64 ks.length (by omega) (by omega)
  rw [Nat.mul_one] at hmk
  go_enter Try.func83, Try.ntmps83
  go_wp2
  have HF : Hid (Fill (w.alloc (.cells (madeCells #[.string ByteArray.empty] ks.length) 9)) w.heap.size 9 1 ks.length ((ks.take 0).map strX)) := Fill.new w _ 1 ks.length _ ((size_madeCells _ _).trans (Nat.mul_one _).symm)
  go_loopw [4] (fun i wr => ∃ k : Nat, k ≤ ks.length ∧ i = .int .i64 k ∧ Below w.heap.size w wr ∧ Hid (Fill wr w.heap.size 9 1 ks.length ((ks.take k).map strX))) (fun i _ => ks.length - (intOf i).toNat)
  case atStart => exact ⟨0, Nat.zero_le _, rfl, (by repeat (first | with_reducible exact Below.refl _ _ | with_reducible assumption | with_reducible refine ch_alloc ?_ _ | with_reducible refine Below.drew ?_ | with_reducible refine below_draws _ ?_ | (with_reducible refine Below.setCell ?_ ?_ _; rotate_left; focus (first | with_reducible exact Nat.le_refl _ | (simp; done) | (simp; omega) | (simp at *; omega))) | with_reducible refine ch_trans ?_ (by with_reducible assumption))), HF⟩
  case round =>
    clear HF
    obtain ⟨k, hk, rfl, hb, HF⟩ := hrel
    by_cases hlt : k < ks.length
    · have hlti : (k : Int) < ks.length := by omega
      obtain ⟨b, off, rfl, c0⟩ := (HC.out.on hb).strs k hlt
      obtain ⟨v0, g0, f0⟩ := HF.out.one (k := k) (by simp; omega) hlt
      have HF' : Hid (Fill (stores wr w.heap.size k [.string ks[k]]) w.heap.size 9 1 ks.length ((ks.take (k + 1)).map strX)) := HF.out.str hlt hlt
      go_wp2
      go_round
      case rel => exact ⟨k + 1, by omega, by go_num, (by repeat (first | with_reducible exact Below.refl _ _ | with_reducible assumption | with_reducible refine ch_alloc ?_ _ | with_reducible refine Below.drew ?_ | with_reducible refine below_draws _ ?_ | (with_reducible refine Below.setCell ?_ ?_ _; rotate_left; focus (first | with_reducible exact Nat.le_refl _ | (simp; done) | (simp; omega) | (simp at *; omega))) | with_reducible refine ch_trans ?_ (by with_reducible assumption))), HF'⟩
      case measure => simp [intOf]; omega
    · have hlti : (ks.length : Int) ≤ k := by omega
      have HR : Hid (Fill wr w.heap.size 9 1 ks.length (ks.map strX)) := by
        have := HF.out
        rwa [List.take_of_length_le (by omega)] at this
      go_wp2
      go_ret
      exact ⟨rfl, (by repeat (first | with_reducible exact Below.refl _ _ | with_reducible assumption | with_reducible refine ch_alloc ?_ _ | with_reducible refine Below.drew ?_ | with_reducible refine below_draws _ ?_ | (with_reducible refine Below.setCell ?_ ?_ _; rotate_left; focus (first | with_reducible exact Nat.le_refl _ | (simp; done) | (simp; omega) | (simp at *; omega))) | with_reducible refine ch_trans ?_ (by with_reducible assumption))), HR.out.on (by repeat (first | with_reducible exact Below.refl _ _ | with_reducible assumption | with_reducible refine ch_alloc ?_ _ | with_reducible refine Below.drew ?_ | with_reducible refine below_draws _ ?_ | (with_reducible refine Below.setCell ?_ ?_ _; rotate_left; focus (first | with_reducible exact Nat.le_refl _ | (simp; done) | (simp; omega) | (simp at *; omega))) | with_reducible refine ch_trans ?_ (by with_reducible assumption)))⟩

theorem Fill.colsV {w : World} {B : Nat} {T : TypeId} {cs : List Cl} (h : Fill w B T 7 cs.length (cs.map Cl.cells)) (hn : cs.length ≤ maxLen) : ColsV w (.slice (some ⟨B, 0, none⟩) cs.length cs.length) cs := ⟨_, _, rfl, Nat.le_refl _, hn, h.row⟩
theorem Fill.strsV {w : World} {B : Nat} {T : TypeId} {ks : List ByteArray} (h : Fill w B T 1 ks.length (ks.map strX)) (hn : ks.length ≤ maxLen) : StrsV w (.slice (some ⟨B, 0, none⟩) ks.length ks.length) ks := ⟨_, _, rfl, Nat.le_refl _, hn, h.row⟩

end Go.Proofs.Ytmcjchaokpcomaa
