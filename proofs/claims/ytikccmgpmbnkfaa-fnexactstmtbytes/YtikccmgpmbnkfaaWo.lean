/- A variable of several cells laid anew. The writer of bytes: what its methods write. -/
import Derived.Test.YtikccmgpmbnkfaaWm
import Derived.Test.YtikccmgpmbnkfaaPn
import Derived.Test.YtikccmgpmbnkfaaCn
import Derived.Lib.AppendStr
namespace Go.Proofs.Ytikccmgpmbnkfaa
open Go.ChangeShapes Go.WideShapes Go.ChangeAt Go.RowKit

theorem own_stores {b : Nat} {T : TypeId} : ∀ (vs pre old : List Value) (w : World), old.length = vs.length → Own w b T (pre ++ old).toArray → Own (stores w b pre.length vs) b T (pre ++ vs).toArray
  | [], pre, old, w, hl, h => by
    have : old = [] := List.length_eq_zero_iff.1 hl
    subst this; exact h
  | v :: r, pre, [], w, hl, h => by simp at hl
  | v :: r, pre, o :: os, w, hl, h => by
    have h1 := h.set pre.length v
    have e : (pre ++ o :: os).toArray.setIfInBounds pre.length v = ((pre ++ [v]) ++ os).toArray := by
      apply Array.toList_inj.1
      simp
    rw [e] at h1
    have := own_stores r (pre ++ [v]) os _ (by simpa using hl) h1
    simpa [stores] using this
theorem Own.fill {w : World} {b : Nat} {T : TypeId} {old : List Value} (h : Own w b T old.toArray) (vs : List Value) (hl : old.length = vs.length) : Own (stores w b 0 vs) b T vs.toArray := own_stores vs [] old w hl h
theorem Own.past {b c : Nat} {T : TypeId} {cells : Array Value} (hc : b ≠ c) : ∀ (vs : List Value) (w : World) (o : Nat), Own w b T cells → Own (stores w c o vs) b T cells
  | [], _, _, h => h
  | v :: r, _, o, h => Own.past hc r _ (o + 1) (h.other hc v)
theorem stores_turns (b : Nat) : ∀ (vs : List Value) (a w : World) (o : Nat), Turns (fun c => c = b) a w → Turns (fun c => c = b) a (stores w b o vs)
  | [], _, _, _, h => h
  | v :: r, a, _, o, h => stores_turns b r a _ (o + 1) (h.set (p := ⟨b, o, none⟩) rfl v)
theorem Own.turned {w w' : World} {b : Nat} {T : TypeId} {cells : Array Value} (h : Own w b T cells) {S : Nat → Prop} (k : Turns S w w') (hb : ¬ S b) : Own w' b T cells := (k.block b (Array.getElem?_eq_some_iff.1 h).1 hb).trans h
end Go.Proofs.Ytikccmgpmbnkfaa

namespace Go.Proofs.Ytikccmgpmbnkfaa
open Go.ChangeShapes Go.WideShapes Go.ChangeAt Go.RowKit

/-- Of what was there only the writer and blocks of bytes behind it may have turned. -/
def Wt (bw : Nat) (w w' : World) : Prop := Below bw w w' ∧ ∀ c, c < w.heap.size → c ≠ bw → (¬ ∃ cur, w.heap[c]? = some (.cells cur 5)) → w'.heap[c]? = w.heap[c]?
theorem Wt.refl (bw : Nat) (w : World) : Wt bw w w := ⟨Below.refl _ _, fun _ _ _ _ => rfl⟩
theorem Wt.trans {bw : Nat} {a b c : World} (h : Wt bw a b) (k : Wt bw b c) : Wt bw a c :=
  ⟨h.1.trans k.1, fun i hi hne hn => (k.2 i (Nat.lt_of_lt_of_le hi h.1.size) hne fun ⟨cur, hc⟩ => hn ⟨cur, (h.2 i hi hne hn).symm.trans hc⟩).trans (h.2 i hi hne hn)⟩
theorem Wt.of {bw : Nat} {w w' : World} (h : Byt w w') (hb : Below (bw + 1) w w') : Wt bw w w' := ⟨hb.mono (by omega), fun c hc _ hn => h.block c hc hn⟩
theorem Wt.set (bw : Nat) (w : World) (v : Value) : Wt bw w (w.setCell ⟨bw, 0, none⟩ v) :=
  ⟨Below.setCell (p := ⟨bw, 0, none⟩) (Below.refl _ _) (Nat.le_refl _) v, fun _ _ hne _ => Below.heap_setCell _ _ _ _ hne⟩
theorem Wt.new {bw : Nat} {w w' : World} (k : Below w.heap.size w w') (h : bw ≤ w.heap.size) : Wt bw w w' := ⟨k.mono h, fun c hc _ _ => k.block c hc⟩
theorem Wt.own {bw : Nat} {w w' : World} (h : Wt bw w w') {c : Nat} {T : TypeId} {cells : Array Value} (ho : Own w c T cells) (hc : c ≠ bw) (hT : T ≠ 5) : Own w' c T cells :=
  (h.2 c ho.lt hc fun ⟨cur, hh⟩ => by unfold Own at ho; rw [ho] at hh; cases hh; exact hT rfl).trans ho

/-- The writer that has written L. -/
def WIs (w : World) (bw : Nat) (L : List UInt8) : Prop := ∃ v, Own w bw 95 #[v] ∧ Got w (bw + 1) 5 1 v (L.map byX)
theorem WIs.on {w w' : World} {bw : Nat} {L : List UInt8} (h : WIs w bw L) (k : Below w.heap.size w w') : WIs w' bw L := by
  obtain ⟨v, h1, h2⟩ := h; exact ⟨v, h1.on k, h2.on k⟩
theorem WIs.lt {w : World} {bw : Nat} {L : List UInt8} (h : WIs w bw L) : bw < w.heap.size := by
  obtain ⟨v, h1, h2⟩ := h; exact h1.lt
theorem WIs.put {w : World} {bw : Nat} {v v' : Value} {L : List UInt8} (h1 : Own w bw 95 #[v]) (h2 : Got w (bw + 1) 5 1 v' (L.map byX)) : WIs (w.setCell ⟨bw, 0, none⟩ v') bw L :=
  ⟨v', h1.set 0 v', h2.turns ((Turns.refl (fun c => c = bw) w).set rfl _) (fun c h => by omega)⟩
abbrev natI (n : Nat) : Int := (n : Int)
theorem flat_num (s : Nat) : ∀ ns : List Nat, (ns.flatMap (fun n => numL n s)).length = ns.length * s
  | [] => by simp
  | n :: r => by rw [List.flatMap_cons, List.length_append, numL_length, flat_num s r, List.length_cons, Nat.add_mul, Nat.one_mul, Nat.add_comm]

set_option maxRecDepth 100000 in
set_option maxHeartbeats 1000000 in
/-- (*impl.byteWriter).nums -/
theorem nums_any (bw s : Nat) (lv : Value) (ns : List Nat) (L : List UInt8) (w : World) (h : WIs w bw L) (hl : ∀ u, Wt bw w u → IntsV u lv (ns.map natI)) (hs : s ≤ 6) (hL : L.length + ns.length * s ≤ 3000000) :
    Calls Try.prog 49 #[.pointer (some ⟨bw, 0, none⟩), .int .i64 (s : Int), lv] w fun e w' => e = .returned (.tuple #[]) ∧ WIs w' bw (L ++ ns.flatMap (fun n => numL n s)) ∧ Wt bw w w' := by
  obtain ⟨a, cap, rfl, h1, h2, _⟩ := (hl w (Wt.refl _ _)).lit
  rw [List.length_map] at h1
  unfold maxLen at h2
  have HL : Hid (∀ u, Wt bw w u → RowAt u a 1 ((ns.map natI).map intX)) := fun u hu => (hl u hu).row
  have HW : Hid (WIs w bw L) := h
  clear hl h
  go_enter Try.func49, Try.ntmps49
  rw [List.length_map]
  go_wp2
  go_loopw [10] (fun i wr => ∃ k : Nat, k ≤ ns.length ∧ i = .int .i64 (k : Int) ∧ Hid (Wt bw w wr) ∧ Hid (WIs wr bw (L ++ (ns.take k).flatMap (fun n => numL n s)))) (fun i _ => ns.length - (intOf i).toNat)
  case atStart => exact ⟨0, Nat.zero_le _, rfl, Wt.refl _ _, by
    have := HW.out
    show WIs _ _ _
    simpa using this⟩
  case round =>
    clear HW
    obtain ⟨k, hk, rfl, HT, HW⟩ := hrel
    by_cases hlt : k < ns.length
    · have hlti : (k : Int) < ns.length := by omega
      obtain ⟨b, off, rfl, c0⟩ := (HL.out _ HT.out).ints k (by simpa using hlt)
      have e0 : (ns.map natI)[k]'(by simpa using hlt) = (ns[k] : Int) := by simp
      rw [e0] at c0
      clear e0
      obtain ⟨v0, HO, hg⟩ := HW.out
      obtain ⟨a0, n0, q0, rfl, hg⟩ := hg.lit2
      have HG : Hid (Got wr (bw + 1) 5 1 (.slice a0 n0 q0) ((L ++ (ns.take k).flatMap (fun n => numL n s)).map byX)) := hg
      clear hg
      have hlen : (L ++ (ns.take k).flatMap (fun n => numL n s)).length ≤ 3000000 := by
        have h1 : ((ns.take k).flatMap (fun n => numL n s)).length ≤ ns.length * s := by
          rw [flat_num]
          exact Nat.mul_le_mul_right _ (by simp; omega)
        rw [List.length_append]; omega
      have hlw := HO.lt
      have HAP : Hid (Calls Try.prog 81 #[.slice a0 n0 q0, .int .i64 (ns[k] : Int), .int .i64 (s : Int)] wr fun e w' => ∃ v', e = .returned v' ∧ Below (bw + 1) wr w' ∧ Byt wr w' ∧ Got w' (bw + 1) 5 1 v' (((L ++ (ns.take k).flatMap (fun n => numL n s)) ++ numL ns[k] s).map byX)) := appendNum_any _ _ ns[k] s (bw + 1) wr HG.out (by omega) hs (by omega)
      have HFL : Hid ((L ++ (ns.take k).flatMap (fun n => numL n s)) ++ numL ns[k] s = L ++ (ns.take (k + 1)).flatMap (fun n => numL n s)) := by
        show _ = _
        rw [List.take_succ_eq_append_getElem hlt, List.flatMap_append, List.append_assoc]
        simp
      have g0 := HO.loc.one
      generalize ns[k] = N at HAP HFL c0
      go_wp2_with (go_at_call 81; refine HAP.out.mono ?_; rintro e w1 ⟨v', rfl, b1, y1, hg1⟩; obtain ⟨a1, n1, q1, rfl, hg1⟩ := hg1.lit2; have HO1 : Own w1 bw 95 #[.slice a0 n0 q0] := (b1.block bw (by omega)).trans HO; have g1 := HO1.loc.one; have i1 := HO1.frozen 0)
      go_round
      case rel => exact ⟨k + 1, by omega, by go_num, HT.out.trans ((Wt.of y1 b1).trans (Wt.set bw w1 _)), by
        show WIs _ _ _
        rw [← HFL.out]
        exact WIs.put HO1 hg1⟩
      case measure => simp [intOf]; omega
    · have hlti : (ns.length : Int) ≤ k := by omega
      have HW' : Hid (WIs wr bw (L ++ ns.flatMap (fun n => numL n s))) := by
        have := HW.out
        rwa [List.take_of_length_le (by omega)] at this
      go_wp2
      go_end0
      exact ⟨rfl, HW'.out, HT.out⟩

/-- Flags behind a slice. -/
abbrev boolX (b : Bool) : Array Value := #[.bool b]
theorem RowAt.bools {w : World} {a : Option Addr} {ks : List Bool} (h : RowAt w a 1 (ks.map boolX)) (k : Nat) (hk : k < ks.length) : ∃ b off, a = some ⟨b, off, none⟩ ∧ w.cell? ⟨b, off + k, none⟩ = some (.bool ks[k]) := by
  rcases h.2 with h0 | ⟨b, off, ha, h⟩
  · rw [List.map_eq_nil_iff] at h0; subst h0; exact absurd hk (Nat.not_lt_zero _)
  · have hk' : k < (ks.map boolX).length := by simpa using hk
    have e : (ks.map boolX)[k] = boolX ks[k] := by simp
    have := h k hk' 0 (by omega)
    rw [e, Nat.mul_one] at this
    exact ⟨b, off, ha, this⟩
/-- A row of numbers of the call's own, of one number. -/
theorem ints_one {w : World} {c : Nat} {N : Int} (h : Own w c 3 #[.int .i64 N]) : IntsV w (.slice (some ⟨c, 0, none⟩) 1 1) [N] :=
  ⟨_, _, rfl, Nat.le_refl _, by unfold maxLen; omega, h.loc.row1 rfl⟩
def flagN (b : Bool) : UInt8 := if b then 1 else 0
theorem numL_one (n : Nat) : numL n 1 = [UInt8.ofNat n] := by simp [numL]

set_option maxRecDepth 100000 in
set_option maxHeartbeats 1000000 in
/-- (*impl.byteWriter).nums of one number in one byte -/
theorem nums_one (bw c s N : Nat) (L : List UInt8) (w : World) (h : WIs w bw L) (ho : Own w c 3 #[.int .i64 (N : Int)]) (hc : c ≠ bw) (hs : s ≤ 6) (hL : L.length ≤ 2000000) :
    Calls Try.prog 49 #[.pointer (some ⟨bw, 0, none⟩), .int .i64 (s : Int), .slice (some ⟨c, 0, none⟩) 1 1] w fun e w' => e = .returned (.tuple #[]) ∧ WIs w' bw (L ++ numL N s) ∧ Wt bw w w' :=
  (nums_any bw s _ [N] L w h (fun u hu => by simpa using ints_one (hu.own ho hc (by decide))) hs (by simp; omega)).mono fun e w' ⟨he, h1, h2⟩ => ⟨he, by simpa using h1, h2⟩

set_option maxRecDepth 100000 in
set_option maxHeartbeats 1000000 in
/-- (*impl.byteWriter).flags -/
theorem flags_any (bw : Nat) (a : Option Addr) (cap : Nat) (bs : List Bool) (L : List UInt8) (w : World) (h : WIs w bw L) (hl : ∀ u, Wt bw w u → RowAt u a 1 (bs.map boolX)) (hL : L.length ≤ 1000000) (hbs : bs.length ≤ 1000) :
    Calls Try.prog 82 #[.pointer (some ⟨bw, 0, none⟩), .slice a bs.length cap] w fun e w' => e = .returned (.tuple #[]) ∧ WIs w' bw (L ++ bs.map flagN) ∧ Wt bw w w' := by
  have HL : Hid (∀ u, Wt bw w u → RowAt u a 1 (bs.map boolX)) := hl
  have HW : Hid (WIs w bw L) := h
  clear hl h
  go_enter Try.func82, Try.ntmps82
  go_wp2
  go_loopw [9] (fun i wr => ∃ k : Nat, k ≤ bs.length ∧ i = .int .i64 (k : Int) ∧ Hid (Wt bw w wr) ∧ Hid (WIs wr bw (L ++ (bs.take k).map flagN))) (fun i _ => bs.length - (intOf i).toNat)
  case atStart => exact ⟨0, Nat.zero_le _, rfl, Wt.refl _ _, by
    have := HW.out
    show WIs _ _ _
    simpa using this⟩
  case round =>
    clear HW
    obtain ⟨k, hk, rfl, HT, HW⟩ := hrel
    by_cases hlt : k < bs.length
    · have hlti : (k : Int) < bs.length := by omega
      obtain ⟨b, off, rfl, c0⟩ := (HL.out _ HT.out).bools k hlt
      have hlw := HW.out.lt
      have hlen : (L ++ (bs.take k).map flagN).length ≤ 2000000 := by simp; omega
      have HFL : Hid ((L ++ (bs.take k).map flagN) ++ [flagN bs[k]] = L ++ (bs.take (k + 1)).map flagN) := by
        show _ = _
        rw [List.take_succ_eq_append_getElem hlt, List.map_append, List.append_assoc]; rfl
      have HNO : Hid (∀ (N : Nat) (u : World) (c : Nat), WIs u bw (L ++ (bs.take k).map flagN) → Own u c 3 #[.int .i64 (N : Int)] → c ≠ bw → Calls Try.prog 49 #[.pointer (some ⟨bw, 0, none⟩), .int .i64 1, .slice (some ⟨c, 0, none⟩) 1 1] u fun e w' => e = .returned (.tuple #[]) ∧ WIs w' bw ((L ++ (bs.take k).map flagN) ++ [UInt8.ofNat N]) ∧ Wt bw u w') := fun N u c h1 h2 h3 => by
        have := nums_one bw c 1 N _ u h1 h2 h3 (by omega) hlen
        rwa [numL_one] at this
      cases hb : bs[k] with
      | true =>
        rw [hb] at c0 HFL
        clear hb
        go_wp2_with (go_at_call 49; refine (HNO.out 1 (wr.alloc (.cells #[.int .i64 1] 3)) wr.heap.size (HW.out.on (by repeat (first | with_reducible exact Below.refl _ _ | with_reducible assumption | with_reducible refine ch_alloc ?_ _ | with_reducible refine Below.drew ?_ | with_reducible refine below_draws _ ?_ | (with_reducible refine Below.setCell ?_ ?_ _; rotate_left; focus (first | with_reducible exact Nat.le_refl _ | (simp; done) | (simp; omega) | (simp at *; omega))) | with_reducible refine ch_trans ?_ (by with_reducible assumption)))) (Own.new _ _ _) (by omega)).mono ?_; rintro e w1 ⟨rfl, hw1, ht1⟩)
        go_round
        case rel => exact ⟨k + 1, by omega, by go_num, HT.out.trans ((Wt.new (ch_alloc (Below.refl _ _) _) (by omega)).trans ht1), by
          show WIs _ _ _
          rw [← HFL.out]; exact hw1⟩
        case measure => simp [intOf]; omega
      | false =>
        rw [hb] at c0 HFL
        clear hb
        go_wp2_with (go_at_call 49; refine (HNO.out 0 (wr.alloc (.cells #[.int .i64 0] 3)) wr.heap.size (HW.out.on (by repeat (first | with_reducible exact Below.refl _ _ | with_reducible assumption | with_reducible refine ch_alloc ?_ _ | with_reducible refine Below.drew ?_ | with_reducible refine below_draws _ ?_ | (with_reducible refine Below.setCell ?_ ?_ _; rotate_left; focus (first | with_reducible exact Nat.le_refl _ | (simp; done) | (simp; omega) | (simp at *; omega))) | with_reducible refine ch_trans ?_ (by with_reducible assumption)))) (Own.new _ _ _) (by omega)).mono ?_; rintro e w1 ⟨rfl, hw1, ht1⟩)
        go_round
        case rel => exact ⟨k + 1, by omega, by go_num, HT.out.trans ((Wt.new (ch_alloc (Below.refl _ _) _) (by omega)).trans ht1), by
          show WIs _ _ _
          rw [← HFL.out]; exact hw1⟩
        case measure => simp [intOf]; omega
    · have hlti : (bs.length : Int) ≤ k := by omega
      have HW' : Hid (WIs wr bw (L ++ bs.map flagN)) := by
        have := HW.out
        rwa [List.take_of_length_le (by omega)] at this
      go_wp2
      go_end0
      exact ⟨rfl, HW'.out, HT.out⟩
end Go.Proofs.Ytikccmgpmbnkfaa
