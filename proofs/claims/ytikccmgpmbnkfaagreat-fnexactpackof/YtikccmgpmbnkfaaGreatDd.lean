/- A variable of several cells laid anew. The writer of bytes: what its methods write. Lists of rows in memory: the laws' size, copy and look. Catalogs in memory: the laws' size, copy and look. Changes in memory: the laws' size, copy and look. -/
import Derived.Test.YtikccmgpmbnkfaaGreatWm
import Derived.Test.YtikccmgpmbnkfaaGreatPn
import Derived.Lib.AppendStr
import Derived.Test.YtikccmgpmbnkfaaGreatRw
import Derived.Test.YtikccmgpmbnkfaaGreatTab
namespace Go.Proofs.YtikccmgpmbnkfaaGreat
open Go.ChangeShapes Go.WideShapes Go.ChangeAt Go.RowKit

theorem own_stores {b : Nat} {T : TypeId} : ∀ (vs pre old : List Value) (w : World), old.length = vs.length → Own w b T (pre ++ old).toArray → Own (stores w b pre.length vs) b T (pre ++ vs).toArray
  | [], pre, old, w, hl, h => by
    have : old = [] := List.length_eq_zero_iff.1 hl
    subst this; exact h
  | v :: r, pre, [], w, hl, h => by simp at hl
  | v :: r, pre, o :: os, w, hl, h => by
    have h1 := h.set pre.length v
    have e : (pre ++ o :: os).toArray.setIfInBounds pre.length v = ((pre ++ [v]) ++ os).toArray := by
      apply Array.toList_inj.1
      simp
    rw [e] at h1
    have := own_stores r (pre ++ [v]) os _ (by simpa using hl) h1
    simpa [stores] using this
theorem Own.fill {w : World} {b : Nat} {T : TypeId} {old : List Value} (h : Own w b T old.toArray) (vs : List Value) (hl : old.length = vs.length) : Own (stores w b 0 vs) b T vs.toArray := own_stores vs [] old w hl h
theorem Own.past {b c : Nat} {T : TypeId} {cells : Array Value} (hc : b ≠ c) : ∀ (vs : List Value) (w : World) (o : Nat), Own w b T cells → Own (stores w c o vs) b T cells
  | [], _, _, h => h
  | v :: r, _, o, h => Own.past hc r _ (o + 1) (h.other hc v)
theorem stores_turns (b : Nat) : ∀ (vs : List Value) (a w : World) (o : Nat), Turns (fun c => c = b) a w → Turns (fun c => c = b) a (stores w b o vs)
  | [], _, _, _, h => h
  | v :: r, a, _, o, h => stores_turns b r a _ (o + 1) (h.set (p := ⟨b, o, none⟩) rfl v)
theorem Own.turned {w w' : World} {b : Nat} {T : TypeId} {cells : Array Value} (h : Own w b T cells) {S : Nat → Prop} (k : Turns S w w') (hb : ¬ S b) : Own w' b T cells := (k.block b (Array.getElem?_eq_some_iff.1 h).1 hb).trans h
end Go.Proofs.YtikccmgpmbnkfaaGreat

namespace Go.Proofs.YtikccmgpmbnkfaaGreat
open Go.ChangeShapes Go.WideShapes Go.ChangeAt Go.RowKit

/-- Of what was there only the writer and blocks of bytes behind it may have turned. -/
def Wt (bw : Nat) (w w' : World) : Prop := Below bw w w' ∧ ∀ c, c < w.heap.size → c ≠ bw → (¬ ∃ cur, w.heap[c]? = some (.cells cur 5)) → w'.heap[c]? = w.heap[c]?
theorem Wt.refl (bw : Nat) (w : World) : Wt bw w w := ⟨Below.refl _ _, fun _ _ _ _ => rfl⟩
theorem Wt.trans {bw : Nat} {a b c : World} (h : Wt bw a b) (k : Wt bw b c) : Wt bw a c :=
  ⟨h.1.trans k.1, fun i hi hne hn => (k.2 i (Nat.lt_of_lt_of_le hi h.1.size) hne fun ⟨cur, hc⟩ => hn ⟨cur, (h.2 i hi hne hn).symm.trans hc⟩).trans (h.2 i hi hne hn)⟩
theorem Wt.of {bw : Nat} {w w' : World} (h : Byt w w') (hb : Below (bw + 1) w w') : Wt bw w w' := ⟨hb.mono (by omega), fun c hc _ hn => h.block c hc hn⟩
theorem Wt.set (bw : Nat) (w : World) (v : Value) : Wt bw w (w.setCell ⟨bw, 0, none⟩ v) :=
  ⟨Below.setCell (p := ⟨bw, 0, none⟩) (Below.refl _ _) (Nat.le_refl _) v, fun _ _ hne _ => Below.heap_setCell _ _ _ _ hne⟩
theorem Wt.new {bw : Nat} {w w' : World} (k : Below w.heap.size w w') (h : bw ≤ w.heap.size) : Wt bw w w' := ⟨k.mono h, fun c hc _ _ => k.block c hc⟩
theorem Wt.own {bw : Nat} {w w' : World} (h : Wt bw w w') {c : Nat} {T : TypeId} {cells : Array Value} (ho : Own w c T cells) (hc : c ≠ bw) (hT : T ≠ 5) : Own w' c T cells :=
  (h.2 c ho.lt hc fun ⟨cur, hh⟩ => by unfold Own at ho; rw [ho] at hh; cases hh; exact hT rfl).trans ho

/-- The writer that has written L. -/
def WIs (w : World) (bw : Nat) (L : List UInt8) : Prop := ∃ v, Own w bw 120 #[v] ∧ Got w (bw + 1) 5 1 v (L.map byX)
theorem WIs.on {w w' : World} {bw : Nat} {L : List UInt8} (h : WIs w bw L) (k : Below w.heap.size w w') : WIs w' bw L := by
  obtain ⟨v, h1, h2⟩ := h; exact ⟨v, h1.on k, h2.on k⟩
theorem WIs.lt {w : World} {bw : Nat} {L : List UInt8} (h : WIs w bw L) : bw < w.heap.size := by
  obtain ⟨v, h1, h2⟩ := h; exact h1.lt
theorem WIs.put {w : World} {bw : Nat} {v v' : Value} {L : List UInt8} (h1 : Own w bw 120 #[v]) (h2 : Got w (bw + 1) 5 1 v' (L.map byX)) : WIs (w.setCell ⟨bw, 0, none⟩ v') bw L :=
  ⟨v', h1.set 0 v', h2.turns ((Turns.refl (fun c => c = bw) w).set rfl _) (fun c h => by omega)⟩
abbrev natI (n : Nat) : Int := (n : Int)
theorem flat_num (s : Nat) : ∀ ns : List Nat, (ns.flatMap (fun n => numL n s)).length = ns.length * s
  | [] => by simp
  | n :: r => by rw [List.flatMap_cons, List.length_append, numL_length, flat_num s r, List.length_cons, Nat.add_mul, Nat.one_mul, Nat.add_comm]

set_option maxRecDepth 100000 in
set_option maxHeartbeats 1000000 in
/-- (*impl.byteWriter).nums -/
theorem nums_any (bw s : Nat) (lv : Value) (ns : List Nat) (L : List UInt8) (w : World) (h : WIs w bw L) (hl : ∀ u, Wt bw w u → IntsV u lv (ns.map natI)) (hs : s ≤ 6) (hL : L.length + ns.length * s ≤ 3000000) :
    Calls Tryz.prog 70 #[.pointer (some ⟨bw, 0, none⟩), .int .i64 (s : Int), lv] w fun e w' => e = .returned (.tuple #[]) ∧ WIs w' bw (L ++ ns.flatMap (fun n => numL n s)) ∧ Wt bw w w' := by
  obtain ⟨a, cap, rfl, h1, h2, _⟩ := (hl w (Wt.refl _ _)).lit
  rw [List.length_map] at h1
  unfold maxLen at h2
  have HL : Hid (∀ u, Wt bw w u → RowAt u a 1 ((ns.map natI).map intX)) := fun u hu => (hl u hu).row
  have HW : Hid (WIs w bw L) := h
  clear hl h
  go_enter Tryz.func70, Tryz.ntmps70
  rw [List.length_map]
  go_wp2
  go_loopw [10] (fun i wr => ∃ k : Nat, k ≤ ns.length ∧ i = .int .i64 (k : Int) ∧ Hid (Wt bw w wr) ∧ Hid (WIs wr bw (L ++ (ns.take k).flatMap (fun n => numL n s)))) (fun i _ => ns.length - (intOf i).toNat)
  case atStart => exact ⟨0, Nat.zero_le _, rfl, Wt.refl _ _, by
    have := HW.out
    show WIs _ _ _
    simpa using this⟩
  case round =>
    clear HW
    obtain ⟨k, hk, rfl, HT, HW⟩ := hrel
    by_cases hlt : k < ns.length
    · have hlti : (k : Int) < ns.length := by omega
      obtain ⟨b, off, rfl, c0⟩ := (HL.out _ HT.out).ints k (by simpa using hlt)
      have e0 : (ns.map natI)[k]'(by simpa using hlt) = (ns[k] : Int) := by simp
      rw [e0] at c0
      clear e0
      obtain ⟨v0, HO, hg⟩ := HW.out
      obtain ⟨a0, n0, q0, rfl, hg⟩ := hg.lit2
      have HG : Hid (Got wr (bw + 1) 5 1 (.slice a0 n0 q0) ((L ++ (ns.take k).flatMap (fun n => numL n s)).map byX)) := hg
      clear hg
      have hlen : (L ++ (ns.take k).flatMap (fun n => numL n s)).length ≤ 3000000 := by
        have h1 : ((ns.take k).flatMap (fun n => numL n s)).length ≤ ns.length * s := by
          rw [flat_num]
          exact Nat.mul_le_mul_right _ (by simp; omega)
        rw [List.length_append]; omega
      have hlw := HO.lt
      have HAP : Hid (Calls Tryz.prog 109 #[.slice a0 n0 q0, .int .i64 (ns[k] : Int), .int .i64 (s : Int)] wr fun e w' => ∃ v', e = .returned v' ∧ Below (bw + 1) wr w' ∧ Byt wr w' ∧ Got w' (bw + 1) 5 1 v' (((L ++ (ns.take k).flatMap (fun n => numL n s)) ++ numL ns[k] s).map byX)) := appendNum_any _ _ ns[k] s (bw + 1) wr HG.out (by omega) hs (by omega)
      have HFL : Hid ((L ++ (ns.take k).flatMap (fun n => numL n s)) ++ numL ns[k] s = L ++ (ns.take (k + 1)).flatMap (fun n => numL n s)) := by
        show _ = _
        rw [List.take_succ_eq_append_getElem hlt, List.flatMap_append, List.append_assoc]
        simp
      have g0 := HO.loc.one
      generalize ns[k] = N at HAP HFL c0
      go_wp2_with (go_at_call 109; refine HAP.out.mono ?_; rintro e w1 ⟨v', rfl, b1, y1, hg1⟩; obtain ⟨a1, n1, q1, rfl, hg1⟩ := hg1.lit2; have HO1 : Own w1 bw 120 #[.slice a0 n0 q0] := (b1.block bw (by omega)).trans HO; have g1 := HO1.loc.one; have i1 := HO1.frozen 0)
      go_round
      case rel => exact ⟨k + 1, by omega, by go_num, HT.out.trans ((Wt.of y1 b1).trans (Wt.set bw w1 _)), by
        show WIs _ _ _
        rw [← HFL.out]
        exact WIs.put HO1 hg1⟩
      case measure => simp [intOf]; omega
    · have hlti : (ns.length : Int) ≤ k := by omega
      have HW' : Hid (WIs wr bw (L ++ ns.flatMap (fun n => numL n s))) := by
        have := HW.out
        rwa [List.take_of_length_le (by omega)] at this
      go_wp2
      go_end0
      exact ⟨rfl, HW'.out, HT.out⟩

/-- Flags behind a slice. -/
abbrev boolX (b : Bool) : Array Value := #[.bool b]
theorem RowAt.bools {w : World} {a : Option Addr} {ks : List Bool} (h : RowAt w a 1 (ks.map boolX)) (k : Nat) (hk : k < ks.length) : ∃ b off, a = some ⟨b, off, none⟩ ∧ w.cell? ⟨b, off + k, none⟩ = some (.bool ks[k]) := by
  rcases h.2 with h0 | ⟨b, off, ha, h⟩
  · rw [List.map_eq_nil_iff] at h0; subst h0; exact absurd hk (Nat.not_lt_zero _)
  · have hk' : k < (ks.map boolX).length := by simpa using hk
    have e : (ks.map boolX)[k] = boolX ks[k] := by simp
    have := h k hk' 0 (by omega)
    rw [e, Nat.mul_one] at this
    exact ⟨b, off, ha, this⟩
/-- A row of numbers of the call's own, of one number. -/
theorem ints_one {w : World} {c : Nat} {N : Int} (h : Own w c 3 #[.int .i64 N]) : IntsV w (.slice (some ⟨c, 0, none⟩) 1 1) [N] :=
  ⟨_, _, rfl, Nat.le_refl _, by unfold maxLen; omega, h.loc.row1 rfl⟩
def flagN (b : Bool) : UInt8 := if b then 1 else 0
theorem numL_one (n : Nat) : numL n 1 = [UInt8.ofNat n] := by simp [numL]

set_option maxRecDepth 100000 in
set_option maxHeartbeats 1000000 in
/-- (*impl.byteWriter).nums of one number in one byte -/
theorem nums_one (bw c s N : Nat) (L : List UInt8) (w : World) (h : WIs w bw L) (ho : Own w c 3 #[.int .i64 (N : Int)]) (hc : c ≠ bw) (hs : s ≤ 6) (hL : L.length ≤ 2000000) :
    Calls Tryz.prog 70 #[.pointer (some ⟨bw, 0, none⟩), .int .i64 (s : Int), .slice (some ⟨c, 0, none⟩) 1 1] w fun e w' => e = .returned (.tuple #[]) ∧ WIs w' bw (L ++ numL N s) ∧ Wt bw w w' :=
  (nums_any bw s _ [N] L w h (fun u hu => by simpa using ints_one (hu.own ho hc (by decide))) hs (by simp; omega)).mono fun e w' ⟨he, h1, h2⟩ => ⟨he, by simpa using h1, h2⟩

set_option maxRecDepth 100000 in
set_option maxHeartbeats 1000000 in
/-- (*impl.byteWriter).flags -/
theorem flags_any (bw : Nat) (a : Option Addr) (cap : Nat) (bs : List Bool) (L : List UInt8) (w : World) (h : WIs w bw L) (hl : ∀ u, Wt bw w u → RowAt u a 1 (bs.map boolX)) (hL : L.length ≤ 1000000) (hbs : bs.length ≤ 1000) :
    Calls Tryz.prog 121 #[.pointer (some ⟨bw, 0, none⟩), .slice a bs.length cap] w fun e w' => e = .returned (.tuple #[]) ∧ WIs w' bw (L ++ bs.map flagN) ∧ Wt bw w w' := by
  have HL : Hid (∀ u, Wt bw w u → RowAt u a 1 (bs.map boolX)) := hl
  have HW : Hid (WIs w bw L) := h
  clear hl h
  go_enter Tryz.func121, Tryz.ntmps121
  go_wp2
  go_loopw [9] (fun i wr => ∃ k : Nat, k ≤ bs.length ∧ i = .int .i64 (k : Int) ∧ Hid (Wt bw w wr) ∧ Hid (WIs wr bw (L ++ (bs.take k).map flagN))) (fun i _ => bs.length - (intOf i).toNat)
  case atStart => exact ⟨0, Nat.zero_le _, rfl, Wt.refl _ _, by
    have := HW.out
    show WIs _ _ _
    simpa using this⟩
  case round =>
    clear HW
    obtain ⟨k, hk, rfl, HT, HW⟩ := hrel
    by_cases hlt : k < bs.length
    · have hlti : (k : Int) < bs.length := by omega
      obtain ⟨b, off, rfl, c0⟩ := (HL.out _ HT.out).bools k hlt
      have hlw := HW.out.lt
      have hlen : (L ++ (bs.take k).map flagN).length ≤ 2000000 := by simp; omega
      have HFL : Hid ((L ++ (bs.take k).map flagN) ++ [flagN bs[k]] = L ++ (bs.take (k + 1)).map flagN) := by
        show _ = _
        rw [List.take_succ_eq_append_getElem hlt, List.map_append, List.append_assoc]; rfl
      have HNO : Hid (∀ (N : Nat) (u : World) (c : Nat), WIs u bw (L ++ (bs.take k).map flagN) → Own u c 3 #[.int .i64 (N : Int)] → c ≠ bw → Calls Tryz.prog 70 #[.pointer (some ⟨bw, 0, none⟩), .int .i64 1, .slice (some ⟨c, 0, none⟩) 1 1] u fun e w' => e = .returned (.tuple #[]) ∧ WIs w' bw ((L ++ (bs.take k).map flagN) ++ [UInt8.ofNat N]) ∧ Wt bw u w') := fun N u c h1 h2 h3 => by
        have := nums_one bw c 1 N _ u h1 h2 h3 (by omega) hlen
        rwa [numL_one] at this
      cases hb : bs[k] with
      | true =>
        rw [hb] at c0 HFL
        clear hb
        go_wp2_with (go_at_call 70; refine (HNO.out 1 (wr.alloc (.cells #[.int .i64 1] 3)) wr.heap.size (HW.out.on (by repeat (first | with_reducible exact Below.refl _ _ | with_reducible assumption | with_reducible refine ch_alloc ?_ _ | with_reducible refine Below.drew ?_ | with_reducible refine below_draws _ ?_ | (with_reducible refine Below.setCell ?_ ?_ _; rotate_left; focus (first | with_reducible exact Nat.le_refl _ | (simp; done) | (simp; omega) | (simp at *; omega))) | with_reducible refine ch_trans ?_ (by with_reducible assumption)))) (Own.new _ _ _) (by omega)).mono ?_; rintro e w1 ⟨rfl, hw1, ht1⟩)
        go_round
        case rel => exact ⟨k + 1, by omega, by go_num, HT.out.trans ((Wt.new (ch_alloc (Below.refl _ _) _) (by omega)).trans ht1), by
          show WIs _ _ _
          rw [← HFL.out]; exact hw1⟩
        case measure => simp [intOf]; omega
      | false =>
        rw [hb] at c0 HFL
        clear hb
        go_wp2_with (go_at_call 70; refine (HNO.out 0 (wr.alloc (.cells #[.int .i64 0] 3)) wr.heap.size (HW.out.on (by repeat (first | with_reducible exact Below.refl _ _ | with_reducible assumption | with_reducible refine ch_alloc ?_ _ | with_reducible refine Below.drew ?_ | with_reducible refine below_draws _ ?_ | (with_reducible refine Below.setCell ?_ ?_ _; rotate_left; focus (first | with_reducible exact Nat.le_refl _ | (simp; done) | (simp; omega) | (simp at *; omega))) | with_reducible refine ch_trans ?_ (by with_reducible assumption)))) (Own.new _ _ _) (by omega)).mono ?_; rintro e w1 ⟨rfl, hw1, ht1⟩)
        go_round
        case rel => exact ⟨k + 1, by omega, by go_num, HT.out.trans ((Wt.new (ch_alloc (Below.refl _ _) _) (by omega)).trans ht1), by
          show WIs _ _ _
          rw [← HFL.out]; exact hw1⟩
        case measure => simp [intOf]; omega
    · have hlti : (bs.length : Int) ≤ k := by omega
      have HW' : Hid (WIs wr bw (L ++ bs.map flagN)) := by
        have := HW.out
        rwa [List.take_of_length_le (by omega)] at this
      go_wp2
      go_end0
      exact ⟨rfl, HW'.out, HT.out⟩
end Go.Proofs.YtikccmgpmbnkfaaGreat

namespace Go.Proofs.YtikccmgpmbnkfaaGreat
open Go.ChangeShapes Go.WideShapes Go.ChangeAt Go.RowKit

abbrev one1 (v : Value) : Array Value := #[v]
/-- Rows behind a slice. -/
def RowsV (w : World) (v : Value) (rs : List (List Vc)) : Prop := ∃ a cap xs, v = .slice a rs.length cap ∧ rs.length ≤ cap ∧ cap ≤ maxLen ∧ RowAt w a 1 (List.map one1 xs) ∧ xs.length = rs.length ∧ ∀ i (h : i < xs.length) (g : i < rs.length), ValsV w xs[i] rs[i]
theorem RowsV.on {w w' : World} {v : Value} {rs : List (List Vc)} (h : RowsV w v rs) (b : Below w.heap.size w w') : RowsV w' v rs := by
  obtain ⟨a, cap, xs, e, h1, h2, h3, h4, h5⟩ := h; exact ⟨a, cap, xs, e, h1, h2, h3.on b, h4, fun i h g => (h5 i h g).on b⟩
theorem RowsV.lit {w : World} {v : Value} {rs : List (List Vc)} (h : RowsV w v rs) : ∃ a cap, v = .slice a rs.length cap ∧ rs.length ≤ cap ∧ cap ≤ maxLen ∧ RowsV w (.slice a rs.length cap) rs := by
  obtain ⟨a, cap, xs, rfl, h1, h2, h3⟩ := h; exact ⟨a, cap, rfl, h1, h2, a, cap, xs, rfl, h1, h2, h3⟩
theorem RowsV.rw {w : World} {a : Option Addr} {n cap : Nat} {rs : List (List Vc)} (h : RowsV w (.slice a n cap) rs) (k : Nat) (hk : k < rs.length) : ∃ b off c p, a = some ⟨b, off, none⟩ ∧
    w.cell? ⟨b, off + k, none⟩ = some (.slice c rs[k].length p) ∧ ValsV w (.slice c rs[k].length p) rs[k] := by
  obtain ⟨a', cap', xs, e, h1, h2, h3, h4, h5⟩ := h
  cases e
  rcases h3.2 with h0 | ⟨b, off, ha, h⟩
  · rw [List.map_eq_nil_iff] at h0; subst h0; simp at h4; omega
  · obtain ⟨c, p, ex, _, _, hx⟩ := (h5 k (by omega) hk).lit
    have e0 := h k (by simp; omega) 0 (by omega)
    simp only [List.getElem_map, Nat.mul_one, Nat.add_zero] at e0
    rw [ex] at e0
    exact ⟨b, off, c, p, ha, e0, hx⟩
theorem ValsV.stores {v : Value} {vs : List Vc} {B b : Nat} (hf : From v B) (hb : b < B) : ∀ (us : List Value) (w : World) (o : Nat), ValsV w v vs → ValsV (stores w b o us) v vs
  | [], _, _, h => h
  | u :: r, _, o, h => ValsV.stores hf hb r _ (o + 1) (h.set hf hb u)
/-- Rows copied so far. -/
def Rfill (w : World) (B : Nat) (T : TypeId) (rs : List (List Vc)) (k : Nat) : Prop := ∃ ys, Fill w B T 1 rs.length (List.map one1 ys) ∧ ys.length = k ∧ ∀ i (h : i < ys.length) (g : i < rs.length), ValsV w ys[i] rs[i] ∧ From ys[i] (B + 1)
theorem Rfill.on {w w' : World} {B : Nat} {T : TypeId} {rs : List (List Vc)} {k : Nat} (h : Rfill w B T rs k) (b : Below w.heap.size w w') : Rfill w' B T rs k := by
  obtain ⟨ys, h1, h2, h3⟩ := h
  exact ⟨ys, h1.on b, h2, fun i h g => ⟨(h3 i h g).1.on b, (h3 i h g).2⟩⟩
theorem Rfill.put {w : World} {B : Nat} {T : TypeId} {rs : List (List Vc)} {k : Nat} (h : Rfill w B T rs k) (hk : k < rs.length) {y : Value} (hy : ValsV w y rs[k]) (hf : From y (B + 1)) : Rfill (stores w B k [y]) B T rs (k + 1) := by
  obtain ⟨ys, h1, rfl, h3⟩ := h
  refine ⟨ys ++ [y], ?_, by simp, fun i h g => ?_⟩
  · have := h1.put (by simpa using hk) [y] rfl
    simpa using this
  · by_cases hi : i < ys.length
    · rw [List.getElem_append_left hi]
      exact ⟨ValsV.stores (h3 i hi g).2 (by omega) _ _ _ (h3 i hi g).1, (h3 i hi g).2⟩
    · simp at h
      have : i = ys.length := by omega
      subst this
      simp only [List.getElem_append_right (Nat.le_refl _), Nat.sub_self, List.getElem_cons_zero]
      exact ⟨ValsV.stores hf (by omega) _ _ _ hy, hf⟩
theorem Rfill.done {w : World} {B : Nat} {T : TypeId} {rs : List (List Vc)} (h : Rfill w B T rs rs.length) (hm : rs.length ≤ maxLen) : RowsV w (.slice (some ⟨B, 0, none⟩) rs.length rs.length) rs := by
  obtain ⟨ys, h1, h2, h3⟩ := h
  exact ⟨_, _, ys, rfl, Nat.le_refl _, hm, h1.row, h2, fun i h g => (h3 i h g).1⟩
def rfits (rs : List (List Vc)) : Prop := ∀ r ∈ rs, vfit r
def rfews (rs : List (List Vc)) : Prop := rs.length ≤ 1048576 ∧ ∀ r ∈ rs, r.length ≤ 1048576

end Go.Proofs.YtikccmgpmbnkfaaGreat

namespace Go.Proofs.YtikccmgpmbnkfaaGreat
open Go.ChangeShapes Go.WideShapes Go.ChangeAt Go.RowKit

/-- Tables behind a slice. -/
def TabsV (w : World) (v : Value) (ts : List Tc) : Prop := ∃ a cap xs, v = .slice a ts.length cap ∧ ts.length ≤ cap ∧ cap ≤ maxLen ∧ RowAt w a 3 xs ∧ xs.length = ts.length ∧ ∀ i (h : i < xs.length) (g : i < ts.length), TabV w xs[i] ts[i]
theorem TabsV.on {w w' : World} {v : Value} {ts : List Tc} (h : TabsV w v ts) (b : Below w.heap.size w w') : TabsV w' v ts := by
  obtain ⟨a, cap, xs, e, h1, h2, h3, h4, h5⟩ := h; exact ⟨a, cap, xs, e, h1, h2, h3.on b, h4, fun i h g => (h5 i h g).on b⟩
theorem TabsV.lit {w : World} {v : Value} {ts : List Tc} (h : TabsV w v ts) : ∃ a cap, v = .slice a ts.length cap ∧ ts.length ≤ cap ∧ cap ≤ maxLen := by
  obtain ⟨a, cap, xs, e, h1, h2, _⟩ := h; exact ⟨a, cap, e, h1, h2⟩
theorem TabsV.tab {w : World} {a : Option Addr} {n cap : Nat} {ts : List Tc} (h : TabsV w (.slice a n cap) ts) (k : Nat) (hk : k < ts.length) : ∃ b off c1 p1 c2 p2, a = some ⟨b, off, none⟩ ∧
    w.cell? ⟨b, off + k * 3, none⟩ = some (.string ts[k].name) ∧ w.cell? ⟨b, off + k * 3 + 1, none⟩ = some (.slice c1 ts[k].cols.length p1) ∧ w.cell? ⟨b, off + k * 3 + 2, none⟩ = some (.slice c2 ts[k].keys.length p2) ∧
    TabV w #[.string ts[k].name, .slice c1 ts[k].cols.length p1, .slice c2 ts[k].keys.length p2] ts[k] := by
  obtain ⟨a', cap', xs, e, h1, h2, h3, h4, h5⟩ := h
  cases e
  rcases h3.2 with h0 | ⟨b, off, ha, h⟩
  · subst h0; simp at h4; omega
  · obtain ⟨c1, p1, c2, p2, ex, hx, _⟩ := (h5 k (by omega) hk).lit
    have e0 := h k (by omega) 0 (by omega)
    have e1 := h k (by omega) 1 (by omega)
    have e2 := h k (by omega) 2 (by omega)
    rw [ex] at e0 e1 e2
    exact ⟨b, off, c1, p1, c2, p2, ha, e0, e1, e2, hx⟩
theorem TabV.set {w : World} {x : Array Value} {t : Tc} (h : TabV w x t) {B : Nat} (hf : TabFrom x B) {p : Addr} (hp : p.block < B) (u : Value) : TabV (w.setCell p u) x t := by
  obtain ⟨cv, kv, rfl, hc, hk⟩ := h
  exact ⟨cv, kv, rfl, hc.set (hf cv (by simp)) hp u, hk.set (hf kv (by simp)) hp u⟩
theorem TabV.stores {x : Array Value} {t : Tc} {B b : Nat} (hf : TabFrom x B) (hb : b < B) : ∀ (vs : List Value) (w : World) (o : Nat), TabV w x t → TabV (stores w b o vs) x t
  | [], _, _, h => h
  | v :: r, _, o, h => TabV.stores hf hb r _ (o + 1) (h.set hf hb v)
/-- Tables copied so far. -/
def Tfill (w : World) (B : Nat) (T : TypeId) (ts : List Tc) (k : Nat) : Prop := ∃ ys, Fill w B T 3 ts.length ys ∧ ys.length = k ∧ ∀ i (h : i < ys.length) (g : i < ts.length), TabV w ys[i] ts[i] ∧ TabFrom ys[i] (B + 1)
theorem Tfill.on {w w' : World} {B : Nat} {T : TypeId} {ts : List Tc} {k : Nat} (h : Tfill w B T ts k) (b : Below w.heap.size w w') : Tfill w' B T ts k := by
  obtain ⟨ys, h1, h2, h3⟩ := h
  exact ⟨ys, h1.on b, h2, fun i h g => ⟨(h3 i h g).1.on b, (h3 i h g).2⟩⟩
theorem Tfill.put {w : World} {B : Nat} {T : TypeId} {ts : List Tc} {k : Nat} (h : Tfill w B T ts k) (hk : k < ts.length) {y : Array Value} (hy : TabV w y ts[k]) (hf : TabFrom y (B + 1)) (hz : y.size = 3) : Tfill (stores w B (k * 3) y.toList) B T ts (k + 1) := by
  obtain ⟨ys, h1, rfl, h3⟩ := h
  refine ⟨ys ++ [y], ?_, by simp, fun i h g => ?_⟩
  · have := h1.put hk y.toList (by simpa using hz)
    simpa using this
  · by_cases hi : i < ys.length
    · rw [List.getElem_append_left hi]
      exact ⟨TabV.stores (h3 i hi g).2 (by omega) _ _ _ (h3 i hi g).1, (h3 i hi g).2⟩
    · simp at h
      have : i = ys.length := by omega
      subst this
      simp only [List.getElem_append_right (Nat.le_refl _), Nat.sub_self, List.getElem_cons_zero]
      exact ⟨TabV.stores hf (by omega) _ _ _ hy, hf⟩
/-- The tables' own rows, and the tables', lie from block B on. -/
def TabsFrom (w : World) (v : Value) (B : Nat) : Prop := From v B ∧ ∀ a n cap, v = .slice (some a) n cap → ∀ i, i < n → ∀ j, j < 3 → ∀ u, w.cell? ⟨a.block, a.off + i * 3 + j, none⟩ = some u → From u B
theorem Tfill.done {w : World} {B : Nat} {T : TypeId} {ts : List Tc} (h : Tfill w B T ts ts.length) (hm : ts.length ≤ maxLen) : TabsV w (.slice (some ⟨B, 0, none⟩) ts.length ts.length) ts ∧ TabsFrom w (.slice (some ⟨B, 0, none⟩) ts.length ts.length) B := by
  obtain ⟨ys, h1, h2, h3⟩ := h
  refine ⟨⟨_, _, ys, rfl, Nat.le_refl _, hm, h1.row, h2, fun i h g => (h3 i h g).1⟩, from_new _ _ _, ?_⟩
  rintro a n cap e i hi j hj u hu
  cases e
  obtain ⟨hz, h0 | ⟨b, off, e, hr⟩⟩ := h1.row
  · subst h0; simp at h2; omega
  · cases e
    have hs := hz ys[i] (List.getElem_mem (by omega))
    rw [hr i (by omega) j hj, Array.getElem?_eq_getElem (by omega)] at hu
    cases hu
    exact ((h3 i (by omega) hi).2 _ (by simp)).mono (by omega)
/-- Tables behind a slice, in memory from block B on. -/
def TabsN (w : World) (v : Value) (ts : List Tc) (B : Nat) : Prop := TabsV w v ts ∧ TabsFrom w v B
theorem TabsN.on {w w' : World} {v : Value} {ts : List Tc} {B : Nat} (h : TabsN w v ts B) (k : Below w.heap.size w w') : TabsN w' v ts B := by
  refine ⟨h.1.on k, h.2.1, fun a n cap e i hi j hj u hu => h.2.2 a n cap e i hi j hj u ?_⟩
  obtain ⟨a', cap', xs, e', h1, h2, h3, h4, h5⟩ := h.1
  subst e
  cases e'
  rcases h3.2 with h0 | ⟨b, off, e, hr⟩
  · subst h0; simp at h4; omega
  · cases e
    have hs := h3.1 xs[i] (List.getElem_mem (by omega))
    have hc := hr i (by omega) j hj
    rw [Array.getElem?_eq_getElem (by omega)] at hc
    rw [← hu]
    exact (k.cell (p := ⟨b, off + i * 3 + j, none⟩) (cell_lt hc)).symm
theorem TabsN.set {w : World} {v : Value} {ts : List Tc} {B : Nat} (h : TabsN w v ts B) {p : Addr} (hp : p.block < B) (u : Value) : TabsN (w.setCell p u) v ts B := by
  obtain ⟨⟨a, cap, xs, rfl, h1, h2, h3, h4, h5⟩, hf1, hf2⟩ := h
  have hne : ∀ q, a = some q → q.block ≠ p.block := fun q hq => by subst hq; have := hf1 _ _ _ rfl; omega
  refine ⟨⟨a, cap, xs, rfl, h1, h2, h3.set hne u, h4, fun i h g => ?_⟩, hf1, fun a' n cap' e i hi j hj x hx => ?_⟩
  · refine (h5 i h g).set (B := B) (fun y hy => ?_) hp u
    rcases h3.2 with h0 | ⟨b, off, e, hr⟩
    · subst h0; simp at h
    · subst e
      obtain ⟨j, hj, rfl⟩ := List.getElem_of_mem hy
      have hs := h3.1 xs[i] (List.getElem_mem h)
      have hj' : j < 3 := by simpa [hs] using hj
      have hc := hr i h j hj'
      rw [Array.getElem?_eq_getElem (by omega)] at hc
      exact hf2 _ _ _ rfl i g j hj' _ (by simpa using hc)
  · cases e
    refine hf2 _ _ _ rfl i hi j hj x ?_
    rw [← hx]
    exact (World.cell?_of_block (w := w) (a := ⟨a'.block, a'.off + i * 3 + j, none⟩) (Below.heap_setCell _ _ _ a'.block (hne a' rfl))).symm
theorem TabsN.mono {w : World} {v : Value} {ts : List Tc} {B B' : Nat} (h : TabsN w v ts B) (hB : B' ≤ B) : TabsN w v ts B' := ⟨h.1, h.2.1.mono hB, fun a n cap e i hi j hj u hu => (h.2.2 a n cap e i hi j hj u hu).mono hB⟩
def fits (ts : List Tc) : Prop := ∀ t ∈ ts, t.fit
def fews (ts : List Tc) : Prop := ts.length ≤ 1048576 ∧ ∀ t ∈ ts, t.few

end Go.Proofs.YtikccmgpmbnkfaaGreat

namespace Go.Proofs.YtikccmgpmbnkfaaGreat
open Go.ChangeShapes Go.WideShapes Go.ChangeAt Go.RowKit

/-- What a change holds. -/
structure Dc where
  kind : Int
  table : ByteArray
  cols : List Cl
  keys : List ByteArray
  name : ByteArray
  to : ByteArray
def Dc.fit (d : Dc) : Prop := d.table.size ≤ maxLen ∧ (∀ c ∈ d.cols, c.name.size ≤ maxLen ∧ c.ds.size ≤ maxLen) ∧ (∀ s ∈ d.keys, s.size ≤ maxLen) ∧ d.name.size ≤ maxLen ∧ d.to.size ≤ maxLen
def Dc.few (d : Dc) : Prop := d.cols.length ≤ 1048576 ∧ d.keys.length ≤ 1048576
/-- A change's cells. -/
def DdlV (w : World) (x : Array Value) (d : Dc) : Prop := ∃ cv kv, x = #[.int .i64 d.kind, .string d.table, cv, kv, .string d.name, .string d.to] ∧ ColsV w cv d.cols ∧ StrsV w kv d.keys
theorem DdlV.on {w w' : World} {x : Array Value} {d : Dc} (h : DdlV w x d) (b : Below w.heap.size w w') : DdlV w' x d := by
  obtain ⟨cv, kv, e, h1, h2⟩ := h; exact ⟨cv, kv, e, h1.on b, h2.on b⟩
theorem DdlV.lit {w : World} {x : Array Value} {t : Dc} (h : DdlV w x t) : ∃ a p b q, x = #[.int .i64 t.kind, .string t.table, .slice a t.cols.length p, .slice b t.keys.length q, .string t.name, .string t.to] ∧ DdlV w #[.int .i64 t.kind, .string t.table, .slice a t.cols.length p, .slice b t.keys.length q, .string t.name, .string t.to] t ∧ ColsV w (.slice a t.cols.length p) t.cols ∧ StrsV w (.slice b t.keys.length q) t.keys := by
  obtain ⟨cv, kv, rfl, hc, hk⟩ := h
  obtain ⟨a, p, rfl, hc'⟩ := id hc
  obtain ⟨b, q, rfl, hk'⟩ := id hk
  exact ⟨a, p, b, q, rfl, ⟨_, _, rfl, hc, hk⟩, hc, hk⟩

set_option maxRecDepth 100000 in
set_option maxHeartbeats 1000000 in
/-- laws.szDdl -/
theorem szDdl_any (x : Array Value) (t : Dc) (l : Int) (w : World) (hx : DdlV w x t) (hf : t.fit) (h0 : 0 ≤ l) (h1 : l ≤ 1048576) :
    Calls Tryz.prog 126 #[.agg x, .int .i64 l] w fun e w' => ∃ r : Int, e = .returned (.int .i64 r) ∧ Below w.heap.size w w' ∧ (r = -1 ∨ (0 ≤ r ∧ r ≤ l ∧ t.few)) := by
  obtain ⟨cv, kv, rfl, hc, hk⟩ := hx
  obtain ⟨kind, table, cs, ks, name, to⟩ := t
  obtain ⟨hn, hfc, hfk, hnn, hnt⟩ := hf
  simp only at hn hfc hfk hnn hnt hc hk
  unfold maxLen at hn hnn hnt
  by_cases ha : l - table.size < 0
  · clear hc hk hfc hfk
    go_enter Tryz.func126, Tryz.ntmps126
    go_wp2
    go_ret
    exact ⟨_, rfl, (by repeat (first | with_reducible exact Below.refl _ _ | with_reducible assumption | with_reducible refine ch_alloc ?_ _ | with_reducible refine Below.drew ?_ | with_reducible refine below_draws _ ?_ | (with_reducible refine Below.setCell ?_ ?_ _; rotate_left; focus (first | with_reducible exact Nat.le_refl _ | (simp; done) | (simp; omega) | (simp at *; omega))) | with_reducible refine ch_trans ?_ (by with_reducible assumption))), Or.inl rfl⟩
  have HC : Hid (ColsV w cv cs) := hc
  have HK : Hid (StrsV w kv ks) := hk
  have HS : Hid (∀ u : World, ColsV u cv cs → Calls Tryz.prog 145 #[cv, .int .i64 (l - table.size)] u fun e w' => ∃ r : Int, e = .returned (.int .i64 r) ∧ Below u.heap.size u w' ∧ (r = -1 ∨ (0 ≤ r ∧ r ≤ l - table.size ∧ cs.length ≤ 1048576))) := fun u hu => szColS_any cv cs _ u hu hfc (by omega) (by omega)
  have HT : Hid (∀ (r : Int) (u : World), StrsV u kv ks → 0 ≤ r → r ≤ 1048576 → Calls Tryz.prog 97 #[kv, .int .i64 r] u fun e w' => ∃ q : Int, e = .returned (.int .i64 q) ∧ Below u.heap.size u w' ∧ (q = -1 ∨ (0 ≤ q ∧ q ≤ r ∧ ks.length ≤ 1048576))) := fun r u hu g0 g1 => szStringS_any kv ks r u hu hfk g0 g1
  have HL := Loc.new w #[.int .i64 kind, .string table, cv, kv, .string name, .string to] 103
  clear hc hk hfc hfk
  go_enter Tryz.func126, Tryz.ntmps126
  go_wp2_with fail
  refine (HS.out _ (HC.out.on (by repeat (first | with_reducible exact Below.refl _ _ | with_reducible assumption | with_reducible refine ch_alloc ?_ _ | with_reducible refine Below.drew ?_ | with_reducible refine below_draws _ ?_ | (with_reducible refine Below.setCell ?_ ?_ _; rotate_left; focus (first | with_reducible exact Nat.le_refl _ | (simp; done) | (simp; omega) | (simp at *; omega))) | with_reducible refine ch_trans ?_ (by with_reducible assumption))))).mono ?_
  rintro e w1 ⟨r, rfl, b1, hr⟩
  have HL1 := HL.on b1
  obtain ⟨c0, c1, c2, c3, c4, c5⟩ := HL1.six
  rcases hr with rfl | ⟨r0, r1, r2⟩
  · go_wp2
    go_ret
    exact ⟨_, rfl, (by repeat (first | with_reducible exact Below.refl _ _ | with_reducible assumption | with_reducible refine ch_alloc ?_ _ | with_reducible refine Below.drew ?_ | with_reducible refine below_draws _ ?_ | (with_reducible refine Below.setCell ?_ ?_ _; rotate_left; focus (first | with_reducible exact Nat.le_refl _ | (simp; done) | (simp; omega) | (simp at *; omega))) | with_reducible refine ch_trans ?_ (by with_reducible assumption))), Or.inl rfl⟩
  have HK1 : Hid (StrsV w1 kv ks) := HK.out.on (by repeat (first | with_reducible exact Below.refl _ _ | with_reducible assumption | with_reducible refine ch_alloc ?_ _ | with_reducible refine Below.drew ?_ | with_reducible refine below_draws _ ?_ | (with_reducible refine Below.setCell ?_ ?_ _; rotate_left; focus (first | with_reducible exact Nat.le_refl _ | (simp; done) | (simp; omega) | (simp at *; omega))) | with_reducible refine ch_trans ?_ (by with_reducible assumption)))
  go_wp2_with fail
  refine (HT.out r _ HK1.out r0 (by omega)).mono ?_
  rintro e w2 ⟨q, rfl, b2, hq⟩
  have HL2 := HL1.on b2
  clear c0 c1 c2 c3 c4 c5
  obtain ⟨c0, c1, c2, c3, c4, c5⟩ := HL2.six
  rcases hq with rfl | ⟨q0, q1, q2⟩
  · go_wp2
    go_ret
    exact ⟨_, rfl, (by repeat (first | with_reducible exact Below.refl _ _ | with_reducible assumption | with_reducible refine ch_alloc ?_ _ | with_reducible refine Below.drew ?_ | with_reducible refine below_draws _ ?_ | (with_reducible refine Below.setCell ?_ ?_ _; rotate_left; focus (first | with_reducible exact Nat.le_refl _ | (simp; done) | (simp; omega) | (simp at *; omega))) | with_reducible refine ch_trans ?_ (by with_reducible assumption))), Or.inl rfl⟩
  by_cases hb : q - name.size < 0
  · go_wp2
    go_ret
    exact ⟨_, rfl, (by repeat (first | with_reducible exact Below.refl _ _ | with_reducible assumption | with_reducible refine ch_alloc ?_ _ | with_reducible refine Below.drew ?_ | with_reducible refine below_draws _ ?_ | (with_reducible refine Below.setCell ?_ ?_ _; rotate_left; focus (first | with_reducible exact Nat.le_refl _ | (simp; done) | (simp; omega) | (simp at *; omega))) | with_reducible refine ch_trans ?_ (by with_reducible assumption))), Or.inl rfl⟩
  by_cases hd : q - name.size - to.size < 0
  · go_wp2
    go_ret
    exact ⟨_, rfl, (by repeat (first | with_reducible exact Below.refl _ _ | with_reducible assumption | with_reducible refine ch_alloc ?_ _ | with_reducible refine Below.drew ?_ | with_reducible refine below_draws _ ?_ | (with_reducible refine Below.setCell ?_ ?_ _; rotate_left; focus (first | with_reducible exact Nat.le_refl _ | (simp; done) | (simp; omega) | (simp at *; omega))) | with_reducible refine ch_trans ?_ (by with_reducible assumption))), Or.inl rfl⟩
  · go_wp2
    go_ret
    exact ⟨_, rfl, (by repeat (first | with_reducible exact Below.refl _ _ | with_reducible assumption | with_reducible refine ch_alloc ?_ _ | with_reducible refine Below.drew ?_ | with_reducible refine below_draws _ ?_ | (with_reducible refine Below.setCell ?_ ?_ _; rotate_left; focus (first | with_reducible exact Nat.le_refl _ | (simp; done) | (simp; omega) | (simp at *; omega))) | with_reducible refine ch_trans ?_ (by with_reducible assumption))), Or.inr ⟨by omega, by omega, r2, q2⟩⟩

set_option maxRecDepth 100000 in
set_option maxHeartbeats 1000000 in
/-- laws.eqDdl -/
theorem eqDdl_same (x y : Array Value) (t : Dc) (w : World) (hx : DdlV w x t) (hy : DdlV w y t) : Calls Tryz.prog 48 #[.agg x, .agg y] w fun e w' => e = .returned (.bool true) ∧ Below w.heap.size w w' := by
  obtain ⟨cv, kv, rfl, hc, hk⟩ := hx
  obtain ⟨cv', kv', rfl, hc', hk'⟩ := hy
  obtain ⟨kind, table, cs, ks, name, to⟩ := t
  simp only at hc hk hc' hk'
  have HC : Hid (ColsV w cv cs ∧ ColsV w cv' cs) := ⟨hc, hc'⟩
  have HK : Hid (StrsV w kv ks ∧ StrsV w kv' ks) := ⟨hk, hk'⟩
  clear hc hk hc' hk'
  have HL := Loc.new w #[.int .i64 kind, .string table, cv, kv, .string name, .string to] 46
  have HM := Loc.new (w.alloc (.cells #[.int .i64 kind, .string table, cv, kv, .string name, .string to] 46)) #[.int .i64 kind, .string table, cv', kv', .string name, .string to] 46
  go_enter Tryz.func48, Tryz.ntmps48
  go_wp2_with fail
  refine (eqColS_same cv cv' cs _ (HC.out.1.on (by repeat (first | with_reducible exact Below.refl _ _ | with_reducible assumption | with_reducible refine ch_alloc ?_ _ | with_reducible refine Below.drew ?_ | with_reducible refine below_draws _ ?_ | (with_reducible refine Below.setCell ?_ ?_ _; rotate_left; focus (first | with_reducible exact Nat.le_refl _ | (simp; done) | (simp; omega) | (simp at *; omega))) | with_reducible refine ch_trans ?_ (by with_reducible assumption)))) (HC.out.2.on (by repeat (first | with_reducible exact Below.refl _ _ | with_reducible assumption | with_reducible refine ch_alloc ?_ _ | with_reducible refine Below.drew ?_ | with_reducible refine below_draws _ ?_ | (with_reducible refine Below.setCell ?_ ?_ _; rotate_left; focus (first | with_reducible exact Nat.le_refl _ | (simp; done) | (simp; omega) | (simp at *; omega))) | with_reducible refine ch_trans ?_ (by with_reducible assumption))))).mono ?_
  rintro e w1 ⟨rfl, b1⟩
  have HL1 := HL.on (w' := w1) (by repeat (first | with_reducible exact Below.refl _ _ | with_reducible assumption | with_reducible refine ch_alloc ?_ _ | with_reducible refine Below.drew ?_ | with_reducible refine below_draws _ ?_ | (with_reducible refine Below.setCell ?_ ?_ _; rotate_left; focus (first | with_reducible exact Nat.le_refl _ | (simp; done) | (simp; omega) | (simp at *; omega))) | with_reducible refine ch_trans ?_ (by with_reducible assumption)))
  obtain ⟨c0, c1, c2, c3, c4, c5⟩ := HL1.six
  have HM1 := HM.on b1
  rw [show (w.alloc (.cells #[.int .i64 kind, .string table, cv, kv, .string name, .string to] 46)).heap.size = w.heap.size + 1 from by simp] at HM1
  obtain ⟨d0, d1, d2, d3, d4, d5⟩ := HM1.six
  go_wp2_with fail
  refine (eqStringS_same kv kv' ks _ (HK.out.1.on (by repeat (first | with_reducible exact Below.refl _ _ | with_reducible assumption | with_reducible refine ch_alloc ?_ _ | with_reducible refine Below.drew ?_ | with_reducible refine below_draws _ ?_ | (with_reducible refine Below.setCell ?_ ?_ _; rotate_left; focus (first | with_reducible exact Nat.le_refl _ | (simp; done) | (simp; omega) | (simp at *; omega))) | with_reducible refine ch_trans ?_ (by with_reducible assumption)))) (HK.out.2.on (by repeat (first | with_reducible exact Below.refl _ _ | with_reducible assumption | with_reducible refine ch_alloc ?_ _ | with_reducible refine Below.drew ?_ | with_reducible refine below_draws _ ?_ | (with_reducible refine Below.setCell ?_ ?_ _; rotate_left; focus (first | with_reducible exact Nat.le_refl _ | (simp; done) | (simp; omega) | (simp at *; omega))) | with_reducible refine ch_trans ?_ (by with_reducible assumption))))).mono ?_
  rintro e w2 ⟨rfl, b2⟩
  have HL2 := HL1.on (w' := w2) (by repeat (first | with_reducible exact Below.refl _ _ | with_reducible assumption | with_reducible refine ch_alloc ?_ _ | with_reducible refine Below.drew ?_ | with_reducible refine below_draws _ ?_ | (with_reducible refine Below.setCell ?_ ?_ _; rotate_left; focus (first | with_reducible exact Nat.le_refl _ | (simp; done) | (simp; omega) | (simp at *; omega))) | with_reducible refine ch_trans ?_ (by with_reducible assumption)))
  have HM2 := HM1.on b2
  clear c0 c1 c2 c3 c4 c5 d0 d1 d2 d3 d4 d5
  obtain ⟨c0, c1, c2, c3, c4, c5⟩ := HL2.six
  obtain ⟨d0, d1, d2, d3, d4, d5⟩ := HM2.six
  go_wp2
  go_ret
  exact ⟨rfl, (by repeat (first | with_reducible exact Below.refl _ _ | with_reducible assumption | with_reducible refine ch_alloc ?_ _ | with_reducible refine Below.drew ?_ | with_reducible refine below_draws _ ?_ | (with_reducible refine Below.setCell ?_ ?_ _; rotate_left; focus (first | with_reducible exact Nat.le_refl _ | (simp; done) | (simp; omega) | (simp at *; omega))) | with_reducible refine ch_trans ?_ (by with_reducible assumption)))⟩

set_option maxRecDepth 100000 in
set_option maxHeartbeats 1000000 in
/-- laws.toDdl -/
theorem toDdl_any (x : Array Value) (t : Dc) (w : World) (hx : DdlV w x t) (hf : t.few) :
    Calls Tryz.prog 132 #[.agg x] w fun e w' => ∃ y, e = .returned (.agg y) ∧ Below w.heap.size w w' ∧ DdlV w' y t ∧ TabFrom y w.heap.size := by
  obtain ⟨cv, kv, rfl, hc, hk⟩ := hx
  obtain ⟨kind, table, cs, ks, name, to⟩ := t
  obtain ⟨hfc, hfk⟩ := hf
  simp only at hfc hfk hc hk
  have HC : Hid (ColsV w cv cs) := hc
  have HK : Hid (StrsV w kv ks) := hk
  have HL := Loc.new w #[.int .i64 kind, .string table, cv, kv, .string name, .string to] 103
  clear hc hk
  go_enter Tryz.func132, Tryz.ntmps132
  go_wp2_with fail
  refine (toColS_any cv cs _ (HC.out.on (by repeat (first | with_reducible exact Below.refl _ _ | with_reducible assumption | with_reducible refine ch_alloc ?_ _ | with_reducible refine Below.drew ?_ | with_reducible refine below_draws _ ?_ | (with_reducible refine Below.setCell ?_ ?_ _; rotate_left; focus (first | with_reducible exact Nat.le_refl _ | (simp; done) | (simp; omega) | (simp at *; omega))) | with_reducible refine ch_trans ?_ (by with_reducible assumption)))) hfc).mono ?_
  rintro e w1 ⟨cv', rfl, b1, hc1, hf1⟩
  obtain ⟨a1, p1, rfl, hc1⟩ := hc1
  have HC1 : Hid (ColsV w1 (.slice a1 cs.length p1) cs) := ⟨a1, p1, rfl, hc1⟩
  have HF1 : Hid (From (.slice a1 cs.length p1) (w.heap.size + 1 + 1 + 1)) := by show From _ _; simpa using hf1
  clear hc1 hf1
  have HL1 := HL.on (w' := w1) (by repeat (first | with_reducible exact Below.refl _ _ | with_reducible assumption | with_reducible refine ch_alloc ?_ _ | with_reducible refine Below.drew ?_ | with_reducible refine below_draws _ ?_ | (with_reducible refine Below.setCell ?_ ?_ _; rotate_left; focus (first | with_reducible exact Nat.le_refl _ | (simp; done) | (simp; omega) | (simp at *; omega))) | with_reducible refine ch_trans ?_ (by with_reducible assumption)))
  obtain ⟨c0, c1, c2, c3, c4, c5⟩ := HL1.six
  have HO : Own w1 (w.heap.size + 1 + 1) 46 #[.int .i64 kind, .string table, .slice none 0 0, .slice none 0 0, .string { data := #[] }, .string { data := #[] }] := (Own.at ((w.alloc (.cells #[.int .i64 kind, .string table, cv, kv, .string name, .string to] 103)).alloc (.cells #[.int .i64 0, .string { data := #[] }, .slice none 0 0, .slice none 0 0, .string { data := #[] }, .string { data := #[] }] 46)) _ _ (by simp)).on b1
  have HQ : Own w1 (w.heap.size + 1) 46 #[.int .i64 0, .string { data := #[] }, .slice none 0 0, .slice none 0 0, .string { data := #[] }, .string { data := #[] }] := ((Own.at (w.alloc (.cells #[.int .i64 kind, .string table, cv, kv, .string name, .string to] 103)) _ _ (by simp)).on (ch_alloc (Below.refl _ _) _)).on b1
  obtain ⟨d0, d1, d2, d3, d4, d5⟩ := HO.loc.six
  have f2 := HO.frozen 2
  go_wp2_with fail
  refine (toStringS_any kv ks _ (HK.out.on (by repeat (first | with_reducible exact Below.refl _ _ | with_reducible assumption | with_reducible refine ch_alloc ?_ _ | with_reducible refine Below.drew ?_ | with_reducible refine below_draws _ ?_ | (with_reducible refine Below.setCell ?_ ?_ _; rotate_left; focus (first | with_reducible exact Nat.le_refl _ | (simp; done) | (simp; omega) | (simp at *; omega))) | with_reducible refine ch_trans ?_ (by with_reducible assumption)))) hfk).mono ?_
  rintro e w2 ⟨kv', rfl, b2, hk2, hf2⟩
  obtain ⟨a2, p2, rfl, hk2⟩ := hk2
  have HK2 : Hid (StrsV w2 (.slice a2 ks.length p2) ks) := ⟨a2, p2, rfl, hk2⟩
  have HC2 : Hid (ColsV w2 (.slice a1 cs.length p1) cs) := (HC1.out.set HF1.out (p := ⟨w.heap.size + 1 + 1, 2, none⟩) (by simp) _).on b2
  have hsz : w.heap.size + 1 + 1 + 1 ≤ w1.heap.size := by simpa using b1.size
  have HF2 : Hid (From (.slice a2 ks.length p2) (w.heap.size + 1 + 1 + 1)) := hf2.mono (by simpa using hsz)
  clear hk2 hf2
  have HO2 : Own w2 (w.heap.size + 1 + 1) 46 #[.int .i64 kind, .string table, .slice a1 cs.length p1, .slice none 0 0, .string { data := #[] }, .string { data := #[] }] := (HO.set 2 _).on b2
  have HL2 := HL1.on (w' := w1.setCell ⟨w.heap.size + 1 + 1, 2, none⟩ (.slice a1 cs.length p1))
  have HL3 : Loc w2 w.heap.size #[.int .i64 kind, .string table, cv, kv, .string name, .string to] := HL.on (w' := w2) (by
    refine Below.trans ?_ (b2.mono ?_)
    · exact (by repeat (first | with_reducible exact Below.refl _ _ | with_reducible assumption | with_reducible refine ch_alloc ?_ _ | with_reducible refine Below.drew ?_ | with_reducible refine below_draws _ ?_ | (with_reducible refine Below.setCell ?_ ?_ _; rotate_left; focus (first | with_reducible exact Nat.le_refl _ | (simp; done) | (simp; omega) | (simp at *; omega))) | with_reducible refine ch_trans ?_ (by with_reducible assumption)))
    · simp; omega)
  clear HL2
  clear c0 c1 c2 c3 c4 c5 d0 d1 d2 d3 d4 d5 f2
  obtain ⟨c0, c1, c2, c3, c4, c5⟩ := HL3.six
  obtain ⟨d0, d1, d2, d3, d4, d5⟩ := HO2.loc.six
  have f3 := HO2.frozen 3
  have f4 := HO2.frozen 4
  have f5 := HO2.frozen 5
  have HQ2 : Own w2 (w.heap.size + 1) 46 #[.int .i64 0, .string { data := #[] }, .slice none 0 0, .slice none 0 0, .string { data := #[] }, .string { data := #[] }] := (HQ.other (p := ⟨w.heap.size + 1 + 1, 2, none⟩) (by simp) _).on b2
  obtain ⟨g0, g1, g2, g3, g4, g5⟩ := HQ2.loc.six
  have i0 := HQ2.frozen 0
  have i1 := HQ2.frozen 1
  have i2 := HQ2.frozen 2
  have i3 := HQ2.frozen 3
  have i4 := HQ2.frozen 4
  have i5 := HQ2.frozen 5
  go_wp2
  have HQ3 : Own (((((((((w2.setCell ⟨w.heap.size + 1 + 1, 3, none⟩ (.slice a2 ks.length p2)).setCell ⟨w.heap.size + 1 + 1, 4, none⟩ (.string name)).setCell ⟨w.heap.size + 1 + 1, 5, none⟩ (.string to)).setCell ⟨w.heap.size + 1, 0, none⟩ (.int .i64 kind)).setCell ⟨w.heap.size + 1, 1, none⟩ (.string table)).setCell ⟨w.heap.size + 1, 2, none⟩ (.slice a1 cs.length p1)).setCell ⟨w.heap.size + 1, 3, none⟩ (.slice a2 ks.length p2)).setCell ⟨w.heap.size + 1, 4, none⟩ (.string name)).setCell ⟨w.heap.size + 1, 5, none⟩ (.string to)) _ _ #[.int .i64 kind, .string table, .slice a1 cs.length p1, .slice a2 ks.length p2, .string name, .string to] := (((((((((HQ2.other (p := ⟨w.heap.size + 1 + 1, 3, none⟩) (by simp) (.slice a2 ks.length p2)).other (p := ⟨w.heap.size + 1 + 1, 4, none⟩) (by simp) (.string name)).other (p := ⟨w.heap.size + 1 + 1, 5, none⟩) (by simp) (.string to)).set 0 (.int .i64 kind)).set 1 (.string table)).set 2 (.slice a1 cs.length p1)).set 3 (.slice a2 ks.length p2)).set 4 (.string name)).set 5 (.string to))
  have HB : Hid (Below w.heap.size w (((((((((w2.setCell ⟨w.heap.size + 1 + 1, 3, none⟩ (.slice a2 ks.length p2)).setCell ⟨w.heap.size + 1 + 1, 4, none⟩ (.string name)).setCell ⟨w.heap.size + 1 + 1, 5, none⟩ (.string to)).setCell ⟨w.heap.size + 1, 0, none⟩ (.int .i64 kind)).setCell ⟨w.heap.size + 1, 1, none⟩ (.string table)).setCell ⟨w.heap.size + 1, 2, none⟩ (.slice a1 cs.length p1)).setCell ⟨w.heap.size + 1, 3, none⟩ (.slice a2 ks.length p2)).setCell ⟨w.heap.size + 1, 4, none⟩ (.string name)).setCell ⟨w.heap.size + 1, 5, none⟩ (.string to))) := by
    show Below _ _ _
    exact (by repeat (first | with_reducible exact Below.refl _ _ | with_reducible assumption | with_reducible refine ch_alloc ?_ _ | with_reducible refine Below.drew ?_ | with_reducible refine below_draws _ ?_ | (with_reducible refine Below.setCell ?_ ?_ _; rotate_left; focus (first | with_reducible exact Nat.le_refl _ | (simp; done) | (simp; omega) | (simp at *; omega))) | with_reducible refine ch_trans ?_ (by with_reducible assumption)))
  have HC3 : Hid (ColsV (((((((((w2.setCell ⟨w.heap.size + 1 + 1, 3, none⟩ (.slice a2 ks.length p2)).setCell ⟨w.heap.size + 1 + 1, 4, none⟩ (.string name)).setCell ⟨w.heap.size + 1 + 1, 5, none⟩ (.string to)).setCell ⟨w.heap.size + 1, 0, none⟩ (.int .i64 kind)).setCell ⟨w.heap.size + 1, 1, none⟩ (.string table)).setCell ⟨w.heap.size + 1, 2, none⟩ (.slice a1 cs.length p1)).setCell ⟨w.heap.size + 1, 3, none⟩ (.slice a2 ks.length p2)).setCell ⟨w.heap.size + 1, 4, none⟩ (.string name)).setCell ⟨w.heap.size + 1, 5, none⟩ (.string to)) (.slice a1 cs.length p1) cs) := (((((((((HC2.out.set HF1.out (by simp) _).set HF1.out (by simp) _).set HF1.out (by simp) _).set HF1.out (by simp) _).set HF1.out (by simp) _).set HF1.out (by simp) _).set HF1.out (by simp) _).set HF1.out (by simp) _).set HF1.out (by simp) _)
  have HK3 : Hid (StrsV (((((((((w2.setCell ⟨w.heap.size + 1 + 1, 3, none⟩ (.slice a2 ks.length p2)).setCell ⟨w.heap.size + 1 + 1, 4, none⟩ (.string name)).setCell ⟨w.heap.size + 1 + 1, 5, none⟩ (.string to)).setCell ⟨w.heap.size + 1, 0, none⟩ (.int .i64 kind)).setCell ⟨w.heap.size + 1, 1, none⟩ (.string table)).setCell ⟨w.heap.size + 1, 2, none⟩ (.slice a1 cs.length p1)).setCell ⟨w.heap.size + 1, 3, none⟩ (.slice a2 ks.length p2)).setCell ⟨w.heap.size + 1, 4, none⟩ (.string name)).setCell ⟨w.heap.size + 1, 5, none⟩ (.string to)) (.slice a2 ks.length p2) ks) := (((((((((HK2.out.set HF2.out (by simp) _).set HF2.out (by simp) _).set HF2.out (by simp) _).set HF2.out (by simp) _).set HF2.out (by simp) _).set HF2.out (by simp) _).set HF2.out (by simp) _).set HF2.out (by simp) _).set HF2.out (by simp) _)
  generalize (((((((((w2.setCell ⟨w.heap.size + 1 + 1, 3, none⟩ (.slice a2 ks.length p2)).setCell ⟨w.heap.size + 1 + 1, 4, none⟩ (.string name)).setCell ⟨w.heap.size + 1 + 1, 5, none⟩ (.string to)).setCell ⟨w.heap.size + 1, 0, none⟩ (.int .i64 kind)).setCell ⟨w.heap.size + 1, 1, none⟩ (.string table)).setCell ⟨w.heap.size + 1, 2, none⟩ (.slice a1 cs.length p1)).setCell ⟨w.heap.size + 1, 3, none⟩ (.slice a2 ks.length p2)).setCell ⟨w.heap.size + 1, 4, none⟩ (.string name)).setCell ⟨w.heap.size + 1, 5, none⟩ (.string to)) = W at HQ3 HB HC3 HK3 ⊢
  obtain ⟨e0, e1, e2, e3, e4, e5⟩ := HQ3.loc.six
  exact bodyPost_ret (v := .agg #[.int .i64 kind, .string table, .slice a1 cs.length p1, .slice a2 ks.length p2, .string name, .string to]) (by simp [results, Tryz.results132, go_sem, e0, e1, e2, e3, e4, e5]) rfl ⟨_, rfl, HB.out, ⟨_, _, rfl, HC3.out, HK3.out⟩, fun v hv => by
    simp at hv
    rcases hv with rfl | rfl | rfl | rfl | rfl | rfl
    · intro a n c e; cases e
    · intro a n c e; cases e
    · exact HF1.out.mono (by omega)
    · exact HF2.out.mono (by omega)
    · intro a n c e; cases e
    · intro a n c e; cases e⟩
end Go.Proofs.YtikccmgpmbnkfaaGreat
