/- A variable of several cells laid anew. The writer of bytes: what its methods write. The writer of bytes: texts, values, the helper. Words, values and rows as bytes: landed. -/
import Derived.Test.YtikccmgpmbnkfaaGreatWm
import Derived.Test.YtikccmgpmbnkfaaGreatPn
import Derived.Lib.AppendStr
import Derived.Test.YtikccmgpmbnkfaaGreatVs
import Derived.Test.YtikccmgpmbnkfaaGreatValOk
namespace Go.Proofs.YtikccmgpmbnkfaaGreat
open Go.ChangeShapes Go.WideShapes Go.ChangeAt Go.RowKit

theorem own_stores {b : Nat} {T : TypeId} : ∀ (vs pre old : List Value) (w : World), old.length = vs.length → Own w b T (pre ++ old).toArray → Own (stores w b pre.length vs) b T (pre ++ vs).toArray
  | [], pre, old, w, hl, h => by
    have : old = [] := List.length_eq_zero_iff.1 hl
    subst this; exact h
  | v :: r, pre, [], w, hl, h => by simp at hl
  | v :: r, pre, o :: os, w, hl, h => by
    have h1 := h.set pre.length v
    have e : (pre ++ o :: os).toArray.setIfInBounds pre.length v = ((pre ++ [v]) ++ os).toArray := by
      apply Array.toList_inj.1
      simp
    rw [e] at h1
    have := own_stores r (pre ++ [v]) os _ (by simpa using hl) h1
    simpa [stores] using this
theorem Own.fill {w : World} {b : Nat} {T : TypeId} {old : List Value} (h : Own w b T old.toArray) (vs : List Value) (hl : old.length = vs.length) : Own (stores w b 0 vs) b T vs.toArray := own_stores vs [] old w hl h
theorem Own.past {b c : Nat} {T : TypeId} {cells : Array Value} (hc : b ≠ c) : ∀ (vs : List Value) (w : World) (o : Nat), Own w b T cells → Own (stores w c o vs) b T cells
  | [], _, _, h => h
  | v :: r, _, o, h => Own.past hc r _ (o + 1) (h.other hc v)
theorem stores_turns (b : Nat) : ∀ (vs : List Value) (a w : World) (o : Nat), Turns (fun c => c = b) a w → Turns (fun c => c = b) a (stores w b o vs)
  | [], _, _, _, h => h
  | v :: r, a, _, o, h => stores_turns b r a _ (o + 1) (h.set (p := ⟨b, o, none⟩) rfl v)
theorem Own.turned {w w' : World} {b : Nat} {T : TypeId} {cells : Array Value} (h : Own w b T cells) {S : Nat → Prop} (k : Turns S w w') (hb : ¬ S b) : Own w' b T cells := (k.block b (Array.getElem?_eq_some_iff.1 h).1 hb).trans h
end Go.Proofs.YtikccmgpmbnkfaaGreat

namespace Go.Proofs.YtikccmgpmbnkfaaGreat
open Go.ChangeShapes Go.WideShapes Go.ChangeAt Go.RowKit

/-- Of what was there only the writer and blocks of bytes behind it may have turned. -/
def Wt (bw : Nat) (w w' : World) : Prop := Below bw w w' ∧ ∀ c, c < w.heap.size → c ≠ bw → (¬ ∃ cur, w.heap[c]? = some (.cells cur 5)) → w'.heap[c]? = w.heap[c]?
theorem Wt.refl (bw : Nat) (w : World) : Wt bw w w := ⟨Below.refl _ _, fun _ _ _ _ => rfl⟩
theorem Wt.trans {bw : Nat} {a b c : World} (h : Wt bw a b) (k : Wt bw b c) : Wt bw a c :=
  ⟨h.1.trans k.1, fun i hi hne hn => (k.2 i (Nat.lt_of_lt_of_le hi h.1.size) hne fun ⟨cur, hc⟩ => hn ⟨cur, (h.2 i hi hne hn).symm.trans hc⟩).trans (h.2 i hi hne hn)⟩
theorem Wt.of {bw : Nat} {w w' : World} (h : Byt w w') (hb : Below (bw + 1) w w') : Wt bw w w' := ⟨hb.mono (by omega), fun c hc _ hn => h.block c hc hn⟩
theorem Wt.set (bw : Nat) (w : World) (v : Value) : Wt bw w (w.setCell ⟨bw, 0, none⟩ v) :=
  ⟨Below.setCell (p := ⟨bw, 0, none⟩) (Below.refl _ _) (Nat.le_refl _) v, fun _ _ hne _ => Below.heap_setCell _ _ _ _ hne⟩
theorem Wt.new {bw : Nat} {w w' : World} (k : Below w.heap.size w w') (h : bw ≤ w.heap.size) : Wt bw w w' := ⟨k.mono h, fun c hc _ _ => k.block c hc⟩
theorem Wt.own {bw : Nat} {w w' : World} (h : Wt bw w w') {c : Nat} {T : TypeId} {cells : Array Value} (ho : Own w c T cells) (hc : c ≠ bw) (hT : T ≠ 5) : Own w' c T cells :=
  (h.2 c ho.lt hc fun ⟨cur, hh⟩ => by unfold Own at ho; rw [ho] at hh; cases hh; exact hT rfl).trans ho

/-- The writer that has written L. -/
def WIs (w : World) (bw : Nat) (L : List UInt8) : Prop := ∃ v, Own w bw 120 #[v] ∧ Got w (bw + 1) 5 1 v (L.map byX)
theorem WIs.on {w w' : World} {bw : Nat} {L : List UInt8} (h : WIs w bw L) (k : Below w.heap.size w w') : WIs w' bw L := by
  obtain ⟨v, h1, h2⟩ := h; exact ⟨v, h1.on k, h2.on k⟩
theorem WIs.lt {w : World} {bw : Nat} {L : List UInt8} (h : WIs w bw L) : bw < w.heap.size := by
  obtain ⟨v, h1, h2⟩ := h; exact h1.lt
theorem WIs.put {w : World} {bw : Nat} {v v' : Value} {L : List UInt8} (h1 : Own w bw 120 #[v]) (h2 : Got w (bw + 1) 5 1 v' (L.map byX)) : WIs (w.setCell ⟨bw, 0, none⟩ v') bw L :=
  ⟨v', h1.set 0 v', h2.turns ((Turns.refl (fun c => c = bw) w).set rfl _) (fun c h => by omega)⟩
abbrev natI (n : Nat) : Int := (n : Int)
theorem flat_num (s : Nat) : ∀ ns : List Nat, (ns.flatMap (fun n => numL n s)).length = ns.length * s
  | [] => by simp
  | n :: r => by rw [List.flatMap_cons, List.length_append, numL_length, flat_num s r, List.length_cons, Nat.add_mul, Nat.one_mul, Nat.add_comm]

set_option maxRecDepth 100000 in
set_option maxHeartbeats 1000000 in
/-- (*impl.byteWriter).nums -/
theorem nums_any (bw s : Nat) (lv : Value) (ns : List Nat) (L : List UInt8) (w : World) (h : WIs w bw L) (hl : ∀ u, Wt bw w u → IntsV u lv (ns.map natI)) (hs : s ≤ 6) (hL : L.length + ns.length * s ≤ 3000000) :
    Calls Tryz.prog 70 #[.pointer (some ⟨bw, 0, none⟩), .int .i64 (s : Int), lv] w fun e w' => e = .returned (.tuple #[]) ∧ WIs w' bw (L ++ ns.flatMap (fun n => numL n s)) ∧ Wt bw w w' := by
  obtain ⟨a, cap, rfl, h1, h2, _⟩ := (hl w (Wt.refl _ _)).lit
  rw [List.length_map] at h1
  unfold maxLen at h2
  have HL : Hid (∀ u, Wt bw w u → RowAt u a 1 ((ns.map natI).map intX)) := fun u hu => (hl u hu).row
  have HW : Hid (WIs w bw L) := h
  clear hl h
  go_enter Tryz.func70, Tryz.ntmps70
  rw [List.length_map]
  go_wp2
  go_loopw [10] (fun i wr => ∃ k : Nat, k ≤ ns.length ∧ i = .int .i64 (k : Int) ∧ Hid (Wt bw w wr) ∧ Hid (WIs wr bw (L ++ (ns.take k).flatMap (fun n => numL n s)))) (fun i _ => ns.length - (intOf i).toNat)
  case atStart => exact ⟨0, Nat.zero_le _, rfl, Wt.refl _ _, by
    have := HW.out
    show WIs _ _ _
    simpa using this⟩
  case round =>
    clear HW
    obtain ⟨k, hk, rfl, HT, HW⟩ := hrel
    by_cases hlt : k < ns.length
    · have hlti : (k : Int) < ns.length := by omega
      obtain ⟨b, off, rfl, c0⟩ := (HL.out _ HT.out).ints k (by simpa using hlt)
      have e0 : (ns.map natI)[k]'(by simpa using hlt) = (ns[k] : Int) := by simp
      rw [e0] at c0
      clear e0
      obtain ⟨v0, HO, hg⟩ := HW.out
      obtain ⟨a0, n0, q0, rfl, hg⟩ := hg.lit2
      have HG : Hid (Got wr (bw + 1) 5 1 (.slice a0 n0 q0) ((L ++ (ns.take k).flatMap (fun n => numL n s)).map byX)) := hg
      clear hg
      have hlen : (L ++ (ns.take k).flatMap (fun n => numL n s)).length ≤ 3000000 := by
        have h1 : ((ns.take k).flatMap (fun n => numL n s)).length ≤ ns.length * s := by
          rw [flat_num]
          exact Nat.mul_le_mul_right _ (by simp; omega)
        rw [List.length_append]; omega
      have hlw := HO.lt
      have HAP : Hid (Calls Tryz.prog 109 #[.slice a0 n0 q0, .int .i64 (ns[k] : Int), .int .i64 (s : Int)] wr fun e w' => ∃ v', e = .returned v' ∧ Below (bw + 1) wr w' ∧ Byt wr w' ∧ Got w' (bw + 1) 5 1 v' (((L ++ (ns.take k).flatMap (fun n => numL n s)) ++ numL ns[k] s).map byX)) := appendNum_any _ _ ns[k] s (bw + 1) wr HG.out (by omega) hs (by omega)
      have HFL : Hid ((L ++ (ns.take k).flatMap (fun n => numL n s)) ++ numL ns[k] s = L ++ (ns.take (k + 1)).flatMap (fun n => numL n s)) := by
        show _ = _
        rw [List.take_succ_eq_append_getElem hlt, List.flatMap_append, List.append_assoc]
        simp
      have g0 := HO.loc.one
      generalize ns[k] = N at HAP HFL c0
      go_wp2_with (go_at_call 109; refine HAP.out.mono ?_; rintro e w1 ⟨v', rfl, b1, y1, hg1⟩; obtain ⟨a1, n1, q1, rfl, hg1⟩ := hg1.lit2; have HO1 : Own w1 bw 120 #[.slice a0 n0 q0] := (b1.block bw (by omega)).trans HO; have g1 := HO1.loc.one; have i1 := HO1.frozen 0)
      go_round
      case rel => exact ⟨k + 1, by omega, by go_num, HT.out.trans ((Wt.of y1 b1).trans (Wt.set bw w1 _)), by
        show WIs _ _ _
        rw [← HFL.out]
        exact WIs.put HO1 hg1⟩
      case measure => simp [intOf]; omega
    · have hlti : (ns.length : Int) ≤ k := by omega
      have HW' : Hid (WIs wr bw (L ++ ns.flatMap (fun n => numL n s))) := by
        have := HW.out
        rwa [List.take_of_length_le (by omega)] at this
      go_wp2
      go_end0
      exact ⟨rfl, HW'.out, HT.out⟩

/-- Flags behind a slice. -/
abbrev boolX (b : Bool) : Array Value := #[.bool b]
theorem RowAt.bools {w : World} {a : Option Addr} {ks : List Bool} (h : RowAt w a 1 (ks.map boolX)) (k : Nat) (hk : k < ks.length) : ∃ b off, a = some ⟨b, off, none⟩ ∧ w.cell? ⟨b, off + k, none⟩ = some (.bool ks[k]) := by
  rcases h.2 with h0 | ⟨b, off, ha, h⟩
  · rw [List.map_eq_nil_iff] at h0; subst h0; exact absurd hk (Nat.not_lt_zero _)
  · have hk' : k < (ks.map boolX).length := by simpa using hk
    have e : (ks.map boolX)[k] = boolX ks[k] := by simp
    have := h k hk' 0 (by omega)
    rw [e, Nat.mul_one] at this
    exact ⟨b, off, ha, this⟩
/-- A row of numbers of the call's own, of one number. -/
theorem ints_one {w : World} {c : Nat} {N : Int} (h : Own w c 3 #[.int .i64 N]) : IntsV w (.slice (some ⟨c, 0, none⟩) 1 1) [N] :=
  ⟨_, _, rfl, Nat.le_refl _, by unfold maxLen; omega, h.loc.row1 rfl⟩
def flagN (b : Bool) : UInt8 := if b then 1 else 0
theorem numL_one (n : Nat) : numL n 1 = [UInt8.ofNat n] := by simp [numL]

set_option maxRecDepth 100000 in
set_option maxHeartbeats 1000000 in
/-- (*impl.byteWriter).nums of one number in one byte -/
theorem nums_one (bw c s N : Nat) (L : List UInt8) (w : World) (h : WIs w bw L) (ho : Own w c 3 #[.int .i64 (N : Int)]) (hc : c ≠ bw) (hs : s ≤ 6) (hL : L.length ≤ 2000000) :
    Calls Tryz.prog 70 #[.pointer (some ⟨bw, 0, none⟩), .int .i64 (s : Int), .slice (some ⟨c, 0, none⟩) 1 1] w fun e w' => e = .returned (.tuple #[]) ∧ WIs w' bw (L ++ numL N s) ∧ Wt bw w w' :=
  (nums_any bw s _ [N] L w h (fun u hu => by simpa using ints_one (hu.own ho hc (by decide))) hs (by simp; omega)).mono fun e w' ⟨he, h1, h2⟩ => ⟨he, by simpa using h1, h2⟩

set_option maxRecDepth 100000 in
set_option maxHeartbeats 1000000 in
/-- (*impl.byteWriter).flags -/
theorem flags_any (bw : Nat) (a : Option Addr) (cap : Nat) (bs : List Bool) (L : List UInt8) (w : World) (h : WIs w bw L) (hl : ∀ u, Wt bw w u → RowAt u a 1 (bs.map boolX)) (hL : L.length ≤ 1000000) (hbs : bs.length ≤ 1000) :
    Calls Tryz.prog 121 #[.pointer (some ⟨bw, 0, none⟩), .slice a bs.length cap] w fun e w' => e = .returned (.tuple #[]) ∧ WIs w' bw (L ++ bs.map flagN) ∧ Wt bw w w' := by
  have HL : Hid (∀ u, Wt bw w u → RowAt u a 1 (bs.map boolX)) := hl
  have HW : Hid (WIs w bw L) := h
  clear hl h
  go_enter Tryz.func121, Tryz.ntmps121
  go_wp2
  go_loopw [9] (fun i wr => ∃ k : Nat, k ≤ bs.length ∧ i = .int .i64 (k : Int) ∧ Hid (Wt bw w wr) ∧ Hid (WIs wr bw (L ++ (bs.take k).map flagN))) (fun i _ => bs.length - (intOf i).toNat)
  case atStart => exact ⟨0, Nat.zero_le _, rfl, Wt.refl _ _, by
    have := HW.out
    show WIs _ _ _
    simpa using this⟩
  case round =>
    clear HW
    obtain ⟨k, hk, rfl, HT, HW⟩ := hrel
    by_cases hlt : k < bs.length
    · have hlti : (k : Int) < bs.length := by omega
      obtain ⟨b, off, rfl, c0⟩ := (HL.out _ HT.out).bools k hlt
      have hlw := HW.out.lt
      have hlen : (L ++ (bs.take k).map flagN).length ≤ 2000000 := by simp; omega
      have HFL : Hid ((L ++ (bs.take k).map flagN) ++ [flagN bs[k]] = L ++ (bs.take (k + 1)).map flagN) := by
        show _ = _
        rw [List.take_succ_eq_append_getElem hlt, List.map_append, List.append_assoc]; rfl
      have HNO : Hid (∀ (N : Nat) (u : World) (c : Nat), WIs u bw (L ++ (bs.take k).map flagN) → Own u c 3 #[.int .i64 (N : Int)] → c ≠ bw → Calls Tryz.prog 70 #[.pointer (some ⟨bw, 0, none⟩), .int .i64 1, .slice (some ⟨c, 0, none⟩) 1 1] u fun e w' => e = .returned (.tuple #[]) ∧ WIs w' bw ((L ++ (bs.take k).map flagN) ++ [UInt8.ofNat N]) ∧ Wt bw u w') := fun N u c h1 h2 h3 => by
        have := nums_one bw c 1 N _ u h1 h2 h3 (by omega) hlen
        rwa [numL_one] at this
      cases hb : bs[k] with
      | true =>
        rw [hb] at c0 HFL
        clear hb
        go_wp2_with (go_at_call 70; refine (HNO.out 1 (wr.alloc (.cells #[.int .i64 1] 3)) wr.heap.size (HW.out.on (by repeat (first | with_reducible exact Below.refl _ _ | with_reducible assumption | with_reducible refine ch_alloc ?_ _ | with_reducible refine Below.drew ?_ | with_reducible refine below_draws _ ?_ | (with_reducible refine Below.setCell ?_ ?_ _; rotate_left; focus (first | with_reducible exact Nat.le_refl _ | (simp; done) | (simp; omega) | (simp at *; omega))) | with_reducible refine ch_trans ?_ (by with_reducible assumption)))) (Own.new _ _ _) (by omega)).mono ?_; rintro e w1 ⟨rfl, hw1, ht1⟩)
        go_round
        case rel => exact ⟨k + 1, by omega, by go_num, HT.out.trans ((Wt.new (ch_alloc (Below.refl _ _) _) (by omega)).trans ht1), by
          show WIs _ _ _
          rw [← HFL.out]; exact hw1⟩
        case measure => simp [intOf]; omega
      | false =>
        rw [hb] at c0 HFL
        clear hb
        go_wp2_with (go_at_call 70; refine (HNO.out 0 (wr.alloc (.cells #[.int .i64 0] 3)) wr.heap.size (HW.out.on (by repeat (first | with_reducible exact Below.refl _ _ | with_reducible assumption | with_reducible refine ch_alloc ?_ _ | with_reducible refine Below.drew ?_ | with_reducible refine below_draws _ ?_ | (with_reducible refine Below.setCell ?_ ?_ _; rotate_left; focus (first | with_reducible exact Nat.le_refl _ | (simp; done) | (simp; omega) | (simp at *; omega))) | with_reducible refine ch_trans ?_ (by with_reducible assumption)))) (Own.new _ _ _) (by omega)).mono ?_; rintro e w1 ⟨rfl, hw1, ht1⟩)
        go_round
        case rel => exact ⟨k + 1, by omega, by go_num, HT.out.trans ((Wt.new (ch_alloc (Below.refl _ _) _) (by omega)).trans ht1), by
          show WIs _ _ _
          rw [← HFL.out]; exact hw1⟩
        case measure => simp [intOf]; omega
    · have hlti : (bs.length : Int) ≤ k := by omega
      have HW' : Hid (WIs wr bw (L ++ bs.map flagN)) := by
        have := HW.out
        rwa [List.take_of_length_le (by omega)] at this
      go_wp2
      go_end0
      exact ⟨rfl, HW'.out, HT.out⟩
end Go.Proofs.YtikccmgpmbnkfaaGreat

namespace Go.Proofs.YtikccmgpmbnkfaaGreat
open Go.ChangeShapes Go.WideShapes Go.ChangeAt Go.RowKit

theorem flat_bytes (l : List UInt8) : (l.map byX).flatMap Array.toList = l.map byV := by
  induction l with
  | nil => rfl
  | cons c r ih => rw [List.map_cons, List.flatMap_cons, ih]; rfl
section
variable {P : Program} {w : World} {ops : Array Oper} {rest : List Oper} {o : Oper} {a : Act} {Q : Exit → Act → World → Prop} {t T tu : TypeId}
/-- The bytes of a text behind those of a row of the call's own. -/
theorem app_str (hgd : o.guard = none) (s y : Operand) (ho : o.op = .call { callee := .builtin .append, args := #[s, y], argTypes := #[t, tu] })
    (ht : P.underlying t = some (.slice T)) (hu : P.underlying tu = some .string) (hinfo : (P.info? T).map (fun i => (i.zero, i.size, i.bytes)) = some (some (.int .u8 0), 1, 1))
    (B : Nat) (v : Value) (l : List UInt8) (hs : a.eval s = v) (hown : Got w B T 1 v (l.map byX)) (x : ByteArray) (hy : a.eval y = .string x) (hlen : l.length + x.size < 1000000000) (hB : B ≤ w.heap.size)
    (h : ∀ v' w', Got w' B T 1 v' ((l ++ x.data.toList).map byX) → Below B w w' → Turns (fun c => v.ownBlock = some c) w w' → wpList P ops Q rest (a.put o.dst v') w') : wpList P ops Q (o :: rest) a w := by
  obtain ⟨i, hi, hzz⟩ := Option.map_eq_some_iff.1 hinfo
  simp only [Prod.mk.injEq] at hzz
  obtain ⟨hz0, hz1, hz2⟩ := hzz
  obtain ⟨v', w', hr, h2, h3, _⟩ := Lib.run_append_own_string (P := P) (w := w) B t tu o.type T i ht hu hi hz0 hz1 hz2 v (l.map byX).length ((l.map byX).flatMap Array.toList) hown.2 x (by simp; unfold maxLen; omega) (by simp; omega) hB
  have hG : Got w' B T 1 v' ((l ++ x.data.toList).map byX) := by
    refine ⟨fun q hq => ?_, ?_⟩
    · obtain ⟨u, _, rfl⟩ := List.mem_map.1 hq; rfl
    · have e1 : ((l ++ x.data.toList).map byX).length = (l.map byX).length + x.size := by simp
      have e2 : ((l ++ x.data.toList).map byX).flatMap Array.toList = (l.map byX).flatMap Array.toList ++ Lib.strCells x := by
        rw [flat_bytes, flat_bytes, List.map_append]
        rfl
      rw [e1, e2]; exact h2
  refine wpList_plain hgd fun _ hK => ?_
  unfold Oper.wp execOp
  simp only [ho, resolve, invoke, builtin, Sem.run_bind, Sem.run_pure, Result.andThen_ok, List.map_toArray, List.map_cons, List.map_nil, hs, hy, hr]
  exact hK _ _ (h v' w' hG (Below.grown (Below.refl _ _) h3 hB (fun k hk => (World.ownsRow.lt hown.2 k hk).1)) ⟨h3.os, h3.tape, h3.output, h3.size, fun c hc hn => h3.block c hc fun e => hn e.symm⟩)
end

/-- A text as bytes, its length ahead. -/
def textL (s : ByteArray) : List UInt8 := UInt8.ofNat s.size :: s.data.toList
theorem textL_length (s : ByteArray) : (textL s).length = s.size + 1 := by simp [textL]
theorem flat_text : ∀ ss : List ByteArray, (∀ s ∈ ss, s.size ≤ 30) → (ss.flatMap textL).length ≤ ss.length * 31
  | [], _ => by simp
  | s :: r, h => by
    have h1 := flat_text r fun x hx => h x (by simp [hx])
    have h2 := h s (by simp)
    rw [List.flatMap_cons, List.length_append, textL_length, List.length_cons]; omega

set_option maxRecDepth 100000 in
set_option maxHeartbeats 1000000 in
/-- (*impl.byteWriter).texts -/
theorem texts_any (bw : Nat) (a : Option Addr) (cap : Nat) (ss : List ByteArray) (L : List UInt8) (w : World) (h : WIs w bw L) (hl : ∀ u, Wt bw w u → RowAt u a 1 (ss.map strX)) (hsz : ∀ s ∈ ss, s.size ≤ 30) (hL : L.length ≤ 1000000) (hss : ss.length ≤ 1000) :
    Calls Tryz.prog 86 #[.pointer (some ⟨bw, 0, none⟩), .slice a ss.length cap] w fun e w' => e = .returned (.tuple #[]) ∧ WIs w' bw (L ++ ss.flatMap textL) ∧ Wt bw w w' := by
  have HL : Hid (∀ u, Wt bw w u → RowAt u a 1 (ss.map strX)) := hl
  have HW : Hid (WIs w bw L) := h
  have HZ : Hid (∀ s ∈ ss, s.size ≤ 30) := hsz
  clear hl h hsz
  go_enter Tryz.func86, Tryz.ntmps86
  go_wp2
  go_loopw [8] (fun i wr => ∃ k : Nat, k ≤ ss.length ∧ i = .int .i64 (k : Int) ∧ Hid (Wt bw w wr) ∧ Hid (WIs wr bw (L ++ (ss.take k).flatMap textL))) (fun i _ => ss.length - (intOf i).toNat)
  case atStart => exact ⟨0, Nat.zero_le _, rfl, Wt.refl _ _, by
    have := HW.out
    show WIs _ _ _
    simpa using this⟩
  case round =>
    clear HW
    obtain ⟨k, hk, rfl, HT, HW⟩ := hrel
    by_cases hlt : k < ss.length
    · have hlti : (k : Int) < ss.length := by omega
      obtain ⟨b, off, rfl, c0⟩ := (HL.out _ HT.out).strs k hlt
      have hlw := HW.out.lt
      have hx30 := HZ.out ss[k] (List.getElem_mem hlt)
      have hlen : (L ++ (ss.take k).flatMap textL).length ≤ 1900000 := by
        have h1 := flat_text (ss.take k) fun x hx => HZ.out x (List.mem_of_mem_take hx)
        have h2 : (ss.take k).length ≤ 1000 := by simp; omega
        rw [List.length_append]; omega
      have HFL : Hid (((L ++ (ss.take k).flatMap textL) ++ [UInt8.ofNat ss[k].size]) ++ ss[k].data.toList = L ++ (ss.take (k + 1)).flatMap textL) := by
        show _ = _
        rw [List.take_succ_eq_append_getElem hlt, List.flatMap_append, List.append_assoc, List.append_assoc]
        simp [textL]
      have HNO : Hid (∀ (N : Nat) (u : World) (c : Nat), WIs u bw (L ++ (ss.take k).flatMap textL) → Own u c 3 #[.int .i64 (N : Int)] → c ≠ bw → Calls Tryz.prog 70 #[.pointer (some ⟨bw, 0, none⟩), .int .i64 1, .slice (some ⟨c, 0, none⟩) 1 1] u fun e w' => e = .returned (.tuple #[]) ∧ WIs w' bw ((L ++ (ss.take k).flatMap textL) ++ [UInt8.ofNat N]) ∧ Wt bw u w') := fun N u c h1 h2 h3 => by
        have := nums_one bw c 1 N _ u h1 h2 h3 (by omega) (by omega)
        rwa [numL_one] at this
      generalize L ++ (ss.take k).flatMap textL = L0 at HW hlen HFL HNO
      generalize ss[k] = x at c0 hx30 HFL
      go_wp2_with (first
        | (go_at_call 70; refine (HNO.out x.size (wr.alloc (.cells #[.int .i64 (x.size : Int)] 3)) wr.heap.size (HW.out.on (by repeat (first | with_reducible exact Below.refl _ _ | with_reducible assumption | with_reducible refine ch_alloc ?_ _ | with_reducible refine Below.drew ?_ | with_reducible refine below_draws _ ?_ | (with_reducible refine Below.setCell ?_ ?_ _; rotate_left; focus (first | with_reducible exact Nat.le_refl _ | (simp; done) | (simp; omega) | (simp at *; omega))) | with_reducible refine ch_trans ?_ (by with_reducible assumption)))) (Own.new _ _ _) (by omega)).mono ?_; rintro e w1 ⟨rfl, hw1, ht1⟩; have HT1 : Hid (Wt bw (wr.alloc (.cells #[.int .i64 (x.size : Int)] 3)) w1) := ht1; obtain ⟨v0, HO, hg⟩ := hw1; obtain ⟨a0, n0, q0, rfl, hg⟩ := hg.lit2; have HG : Hid (Got w1 (bw + 1) 5 1 (.slice a0 n0 q0) ((L0 ++ [UInt8.ofNat x.size]).map byX)) := hg; clear hg ht1; have g0 := HO.loc.one; have hlw1 := HO.lt)
        | (at_builtin; refine app_str rfl (.tmp 21) (.tmp 22) rfl Tryz.underlying26 Tryz.underlying9 infoByte (bw + 1) _ (L0 ++ [UInt8.ofNat x.size]) rfl HG.out x rfl (by simp; omega) (by omega) ?_; intro v2 w2 hg2 hb2 ht2; obtain ⟨a2, n2, q2, rfl, hg2⟩ := hg2.lit2; have HO2 : Own w2 bw 120 #[.slice a0 n0 q0] := (hb2.block bw (by omega)).trans HO; have g2 := HO2.loc.one; have i2 := HO2.frozen 0))
      go_round
      case rel => exact ⟨k + 1, by omega, by go_num, HT.out.trans ((Wt.new (ch_alloc (Below.refl _ _) _) (by omega)).trans (HT1.out.trans ((Wt.of (Byt.got HG.out ht2) hb2).trans (Wt.set bw w2 _)))), by
        show WIs _ _ _
        rw [← HFL.out]
        exact WIs.put HO2 hg2⟩
      case measure => simp [intOf]; omega
    · have hlti : (ss.length : Int) ≤ k := by omega
      have HW' : Hid (WIs wr bw (L ++ ss.flatMap textL)) := by
        have := HW.out
        rwa [List.take_of_length_le (by omega)] at this
      go_wp2
      go_end0
      exact ⟨rfl, HW'.out, HT.out⟩

/-- A value as bytes. -/
def valL (c : Vc) : List UInt8 := UInt8.ofNat c.ty.toNat :: (if c.ty = 1 then [UInt8.ofNat c.n.toNat] else if c.ty = 2 then flagN (decide (c.n < 0)) :: numL c.n.natAbs 6 else if c.ty = 3 then textL c.s else [])
theorem okB_ty {c : Vc} (h : okB c.ty c.n c.s = true) : c.ty = 0 ∨ (c.ty = 1 ∧ 0 ≤ c.n ∧ c.n ≤ 1) ∨ (c.ty = 2 ∧ -1099511627775 ≤ c.n ∧ c.n ≤ 1099511627775) ∨ (c.ty = 3 ∧ c.s.size ≤ 30) := by
  unfold okB at h
  split at h
  · exact Or.inl ‹_›
  split at h
  · refine Or.inr (Or.inl ⟨‹_›, ?_⟩)
    simp at h
    omega
  split at h
  · refine Or.inr (Or.inr (Or.inl ⟨‹_›, ?_⟩))
    rw [Bool.and_eq_true, numB_iff] at h
    exact h.1
  split at h
  · refine Or.inr (Or.inr (Or.inr ⟨‹_›, ?_⟩))
    simp at h
    exact h.2
  · cases h
theorem valL_length {c : Vc} (h : okB c.ty c.n c.s = true) : (valL c).length ≤ 32 := by
  rcases okB_ty h with h | ⟨h, _⟩ | ⟨h, _⟩ | ⟨h, hs⟩
  · simp [valL, h]
  · simp [valL, h]
  · simp [valL, h, numL_length]
  · simp [valL, h, textL_length]; omega
theorem flat_val : ∀ vs : List Vc, (∀ c ∈ vs, okB c.ty c.n c.s = true) → (vs.flatMap valL).length ≤ vs.length * 32
  | [], _ => by simp
  | c :: r, h => by
    have h1 := flat_val r fun x hx => h x (by simp [hx])
    have h2 := valL_length (h c (by simp))
    rw [List.flatMap_cons, List.length_append, List.length_cons]; omega
theorem strs_one {w : World} {c : Nat} {x : ByteArray} (h : Own w c 9 #[.string x]) : RowAt w (some ⟨c, 0, none⟩) 1 ([x].map strX) := h.loc.row1 rfl
theorem bools_one {w : World} {c : Nat} {x : Bool} (h : Own w c 4 #[.bool x]) : RowAt w (some ⟨c, 0, none⟩) 1 ([x].map boolX) := h.loc.row1 rfl

set_option maxRecDepth 100000 in
set_option maxHeartbeats 1000000 in
/-- (*impl.byteWriter).vals -/
theorem vals_any (bw : Nat) (a : Option Addr) (cap : Nat) (vs : List Vc) (L : List UInt8) (w : World) (h : WIs w bw L) (hl : ∀ u, Wt bw w u → RowAt u a 3 (vs.map Vc.cells)) (hok : ∀ c ∈ vs, okB c.ty c.n c.s = true) (hL : L.length ≤ 500000) (hvs : vs.length ≤ 1000) :
    Calls Tryz.prog 87 #[.pointer (some ⟨bw, 0, none⟩), .slice a vs.length cap] w fun e w' => e = .returned (.tuple #[]) ∧ WIs w' bw (L ++ vs.flatMap valL) ∧ Wt bw w w' := by
  have HL : Hid (∀ u, Wt bw w u → RowAt u a 3 (vs.map Vc.cells)) := hl
  have HW : Hid (WIs w bw L) := h
  have HZ : Hid (∀ c ∈ vs, okB c.ty c.n c.s = true) := hok
  clear hl h hok
  go_enter Tryz.func87, Tryz.ntmps87
  go_wp2
  go_loopw [8] (fun i wr => ∃ k : Nat, k ≤ vs.length ∧ i = .int .i64 (k : Int) ∧ Hid (Wt bw w wr) ∧ Hid (WIs wr bw (L ++ (vs.take k).flatMap valL))) (fun i _ => vs.length - (intOf i).toNat)
  case atStart => exact ⟨0, Nat.zero_le _, rfl, Wt.refl _ _, by
    have := HW.out
    show WIs _ _ _
    simpa using this⟩
  case round =>
    clear HW
    obtain ⟨k, hk, rfl, HT, HW⟩ := hrel
    by_cases hlt : k < vs.length
    · have hlti : (k : Int) < vs.length := by omega
      obtain ⟨b, off, rfl, c0, c1, c2⟩ := (HL.out _ HT.out).vals k hlt
      have hlw := HW.out.lt
      have hlen : (L ++ (vs.take k).flatMap valL).length ≤ 600000 := by
        have h1 := flat_val (vs.take k) fun x hx => HZ.out x (List.mem_of_mem_take hx)
        have h2 : (vs.take k).length ≤ 1000 := by simp; omega
        rw [List.length_append]; omega
      have HFL : Hid ((L ++ (vs.take k).flatMap valL) ++ valL vs[k] = L ++ (vs.take (k + 1)).flatMap valL) := by
        show _ = _
        rw [List.take_succ_eq_append_getElem hlt, List.flatMap_append, List.append_assoc]
        simp
      have hok := okB_ty (HZ.out vs[k] (List.getElem_mem hlt))
      generalize L ++ (vs.take k).flatMap valL = L0 at HW hlen HFL
      generalize vs[k] = c at c0 c1 c2 HFL hok
      obtain ⟨ty, n, x⟩ := c
      simp only at c0 c1 c2 hok
      have HN1 : Hid (∀ (N : Nat) (u : World) (c : Nat) (L1 : List UInt8), WIs u bw L1 → Own u c 3 #[.int .i64 (N : Int)] → c ≠ bw → L1.length ≤ 2000000 → Calls Tryz.prog 70 #[.pointer (some ⟨bw, 0, none⟩), .int .i64 1, .slice (some ⟨c, 0, none⟩) 1 1] u fun e w' => e = .returned (.tuple #[]) ∧ WIs w' bw (L1 ++ numL N 1) ∧ Wt bw u w') := fun N u c L1 h1 h2 h3 h5 => nums_one bw c 1 N L1 u h1 h2 h3 (by omega) h5
      have HN6 : Hid (∀ (m : Int) (N : Nat) (hm : m = (N : Int)) (u : World) (c : Nat) (L1 : List UInt8), WIs u bw L1 → Own u c 3 #[.int .i64 m] → c ≠ bw → L1.length ≤ 2000000 → Calls Tryz.prog 70 #[.pointer (some ⟨bw, 0, none⟩), .int .i64 6, .slice (some ⟨c, 0, none⟩) 1 1] u fun e w' => e = .returned (.tuple #[]) ∧ WIs w' bw (L1 ++ numL N 6) ∧ Wt bw u w') := fun m N hm u c L1 h1 h2 h3 h5 => by
        subst hm
        exact nums_one bw c 6 N L1 u h1 h2 h3 (by omega) h5
      rcases hok with rfl | ⟨rfl, hn0, hn1⟩ | ⟨rfl, hn0, hn1⟩ | ⟨rfl, hx30⟩
      · go_wp2_with fail
        refine (HN1.out 0 ((wr.alloc (.cells #[.int .i64 0, .int .i64 n, .string x] 128)).alloc (.cells #[.int .i64 0] 3)) (wr.heap.size + 1) L0 (HW.out.on (by repeat (first | with_reducible exact Below.refl _ _ | with_reducible assumption | with_reducible refine ch_alloc ?_ _ | with_reducible refine Below.drew ?_ | with_reducible refine below_draws _ ?_ | (with_reducible refine Below.setCell ?_ ?_ _; rotate_left; focus (first | with_reducible exact Nat.le_refl _ | (simp; done) | (simp; omega) | (simp at *; omega))) | with_reducible refine ch_trans ?_ (by with_reducible assumption)))) (Own.at (wr.alloc (.cells #[.int .i64 0, .int .i64 n, .string x] 128)) _ _ (by simp)) (by omega) (by omega)).mono ?_
        rintro e w1 ⟨rfl, hw1, ht1⟩
        have HW1 : Hid (WIs w1 bw (L0 ++ numL 0 1)) := hw1
        have HV1 : Own w1 wr.heap.size 128 #[.int .i64 0, .int .i64 n, .string x] := ht1.own ((Own.new _ _ _).on (ch_alloc (Below.refl _ _) _)) (by omega) (by decide)
        have hlw1 : bw < w1.heap.size := hw1.lt
        have HT1 : Hid (Wt bw w w1) := HT.out.trans ((Wt.new (show Below wr.heap.size wr ((wr.alloc (.cells #[.int .i64 0, .int .i64 n, .string x] 128)).alloc (.cells #[.int .i64 0] 3)) from (by repeat (first | with_reducible exact Below.refl _ _ | with_reducible assumption | with_reducible refine ch_alloc ?_ _ | with_reducible refine Below.drew ?_ | with_reducible refine below_draws _ ?_ | (with_reducible refine Below.setCell ?_ ?_ _; rotate_left; focus (first | with_reducible exact Nat.le_refl _ | (simp; done) | (simp; omega) | (simp at *; omega))) | with_reducible refine ch_trans ?_ (by with_reducible assumption)))) (by omega)).trans ht1)
        have hvw1 : wr.heap.size < w1.heap.size := HV1.lt
        obtain ⟨d0, d1, d2⟩ := HV1.loc.three
        clear hw1 ht1
        go_wp2
        go_round
        case rel => exact ⟨k + 1, by omega, by go_num, HT1, by
          show WIs _ _ _
          rw [← HFL.out]
          exact HW1.out⟩
        case measure => simp [intOf]; omega
      · obtain ⟨N, rfl⟩ : ∃ N : Nat, n = (N : Int) := ⟨n.toNat, by omega⟩
        go_wp2_with fail
        refine (HN1.out 1 ((wr.alloc (.cells #[.int .i64 1, .int .i64 (N : Int), .string x] 128)).alloc (.cells #[.int .i64 1] 3)) (wr.heap.size + 1) L0 (HW.out.on (by repeat (first | with_reducible exact Below.refl _ _ | with_reducible assumption | with_reducible refine ch_alloc ?_ _ | with_reducible refine Below.drew ?_ | with_reducible refine below_draws _ ?_ | (with_reducible refine Below.setCell ?_ ?_ _; rotate_left; focus (first | with_reducible exact Nat.le_refl _ | (simp; done) | (simp; omega) | (simp at *; omega))) | with_reducible refine ch_trans ?_ (by with_reducible assumption)))) (Own.at (wr.alloc (.cells #[.int .i64 1, .int .i64 (N : Int), .string x] 128)) _ _ (by simp)) (by omega) (by omega)).mono ?_
        rintro e w1 ⟨rfl, hw1, ht1⟩
        have HW1 : Hid (WIs w1 bw (L0 ++ numL 1 1)) := hw1
        have HV1 : Own w1 wr.heap.size 128 #[.int .i64 1, .int .i64 (N : Int), .string x] := ht1.own ((Own.new _ _ _).on (ch_alloc (Below.refl _ _) _)) (by omega) (by decide)
        have hlw1 : bw < w1.heap.size := hw1.lt
        have HT1 : Hid (Wt bw w w1) := HT.out.trans ((Wt.new (show Below wr.heap.size wr ((wr.alloc (.cells #[.int .i64 1, .int .i64 (N : Int), .string x] 128)).alloc (.cells #[.int .i64 1] 3)) from (by repeat (first | with_reducible exact Below.refl _ _ | with_reducible assumption | with_reducible refine ch_alloc ?_ _ | with_reducible refine Below.drew ?_ | with_reducible refine below_draws _ ?_ | (with_reducible refine Below.setCell ?_ ?_ _; rotate_left; focus (first | with_reducible exact Nat.le_refl _ | (simp; done) | (simp; omega) | (simp at *; omega))) | with_reducible refine ch_trans ?_ (by with_reducible assumption)))) (by omega)).trans ht1)
        have hvw1 : wr.heap.size < w1.heap.size := HV1.lt
        obtain ⟨d0, d1, d2⟩ := HV1.loc.three
        clear hw1 ht1
        go_wp2_with fail
        refine (HN1.out N (w1.alloc (.cells #[.int .i64 (N : Int)] 3)) w1.heap.size (L0 ++ numL 1 1) (HW1.out.on (by repeat (first | with_reducible exact Below.refl _ _ | with_reducible assumption | with_reducible refine ch_alloc ?_ _ | with_reducible refine Below.drew ?_ | with_reducible refine below_draws _ ?_ | (with_reducible refine Below.setCell ?_ ?_ _; rotate_left; focus (first | with_reducible exact Nat.le_refl _ | (simp; done) | (simp; omega) | (simp at *; omega))) | with_reducible refine ch_trans ?_ (by with_reducible assumption)))) (Own.new _ _ _) (by omega) (by simp [numL_length]; omega)).mono ?_
        rintro e w2 ⟨rfl, hw2, ht2⟩
        have HW2 : Hid (WIs w2 bw (L0 ++ valL ⟨1, N, x⟩)) := by
          have e1 : (L0 ++ numL 1 1) ++ numL N 1 = L0 ++ valL ⟨1, N, x⟩ := by simp [valL, numL_one]
          show WIs _ _ _
          rw [← e1]; exact hw2
        have HT2 : Hid (Wt bw w w2) := HT1.out.trans ((Wt.new (ch_alloc (Below.refl _ _) _) (by omega)).trans ht2)
        clear hw2 ht2
        go_wp2
        go_round
        case rel => exact ⟨k + 1, by omega, by go_num, HT2, by
          show WIs _ _ _
          rw [← HFL.out]
          exact HW2.out⟩
        case measure => simp [intOf]; omega
      · go_wp2_with fail
        refine (HN1.out 2 ((wr.alloc (.cells #[.int .i64 2, .int .i64 n, .string x] 128)).alloc (.cells #[.int .i64 2] 3)) (wr.heap.size + 1) L0 (HW.out.on (by repeat (first | with_reducible exact Below.refl _ _ | with_reducible assumption | with_reducible refine ch_alloc ?_ _ | with_reducible refine Below.drew ?_ | with_reducible refine below_draws _ ?_ | (with_reducible refine Below.setCell ?_ ?_ _; rotate_left; focus (first | with_reducible exact Nat.le_refl _ | (simp; done) | (simp; omega) | (simp at *; omega))) | with_reducible refine ch_trans ?_ (by with_reducible assumption)))) (Own.at (wr.alloc (.cells #[.int .i64 2, .int .i64 n, .string x] 128)) _ _ (by simp)) (by omega) (by omega)).mono ?_
        rintro e w1 ⟨rfl, hw1, ht1⟩
        have HW1 : Hid (WIs w1 bw (L0 ++ numL 2 1)) := hw1
        have HV1 : Own w1 wr.heap.size 128 #[.int .i64 2, .int .i64 n, .string x] := ht1.own ((Own.new _ _ _).on (ch_alloc (Below.refl _ _) _)) (by omega) (by decide)
        have hlw1 : bw < w1.heap.size := hw1.lt
        have HT1 : Hid (Wt bw w w1) := HT.out.trans ((Wt.new (show Below wr.heap.size wr ((wr.alloc (.cells #[.int .i64 2, .int .i64 n, .string x] 128)).alloc (.cells #[.int .i64 2] 3)) from (by repeat (first | with_reducible exact Below.refl _ _ | with_reducible assumption | with_reducible refine ch_alloc ?_ _ | with_reducible refine Below.drew ?_ | with_reducible refine below_draws _ ?_ | (with_reducible refine Below.setCell ?_ ?_ _; rotate_left; focus (first | with_reducible exact Nat.le_refl _ | (simp; done) | (simp; omega) | (simp at *; omega))) | with_reducible refine ch_trans ?_ (by with_reducible assumption)))) (by omega)).trans ht1)
        have hvw1 : wr.heap.size < w1.heap.size := HV1.lt
        obtain ⟨d0, d1, d2⟩ := HV1.loc.three
        clear hw1 ht1
        go_wp2_with fail
        refine (flags_any bw (some ⟨w1.heap.size, 0, none⟩) 1 [decide (n < 0)] (L0 ++ numL 2 1) (w1.alloc (.cells #[.bool (decide (n < 0))] 4)) (HW1.out.on (by repeat (first | with_reducible exact Below.refl _ _ | with_reducible assumption | with_reducible refine ch_alloc ?_ _ | with_reducible refine Below.drew ?_ | with_reducible refine below_draws _ ?_ | (with_reducible refine Below.setCell ?_ ?_ _; rotate_left; focus (first | with_reducible exact Nat.le_refl _ | (simp; done) | (simp; omega) | (simp at *; omega))) | with_reducible refine ch_trans ?_ (by with_reducible assumption)))) (fun u hu => bools_one (hu.own (Own.new _ _ _) (by omega) (by decide))) (by simp [numL_length]; omega) (by simp)).mono ?_
        rintro e w2 ⟨rfl, hw2, ht2⟩
        have HW2 : Hid (WIs w2 bw ((L0 ++ numL 2 1) ++ [flagN (decide (n < 0))])) := hw2
        have HV2 : Own w2 wr.heap.size 128 #[.int .i64 2, .int .i64 n, .string x] := ht2.own (HV1.on (ch_alloc (Below.refl _ _) _)) (by omega) (by decide)
        have hlw2 : bw < w2.heap.size := hw2.lt
        have HT2 : Hid (Wt bw w w2) := HT1.out.trans ((Wt.new (ch_alloc (Below.refl _ _) _) (by omega)).trans ht2)
        clear hw2 ht2 d0 d1 d2
        obtain ⟨d0, d1, d2⟩ := HV2.loc.three
        go_wp2_with fail
        · refine (HN6.out (-n) n.natAbs (by omega) (w2.alloc (.cells #[.int .i64 (-n)] 3)) w2.heap.size _ (HW2.out.on (by repeat (first | with_reducible exact Below.refl _ _ | with_reducible assumption | with_reducible refine ch_alloc ?_ _ | with_reducible refine Below.drew ?_ | with_reducible refine below_draws _ ?_ | (with_reducible refine Below.setCell ?_ ?_ _; rotate_left; focus (first | with_reducible exact Nat.le_refl _ | (simp; done) | (simp; omega) | (simp at *; omega))) | with_reducible refine ch_trans ?_ (by with_reducible assumption)))) (Own.new _ _ _) (by omega) (by simp [numL_length]; omega)).mono ?_
          rintro e w3 ⟨rfl, hw3, ht3⟩
          have HW3 : Hid (WIs w3 bw (L0 ++ valL ⟨2, n, x⟩)) := by
            have e1 : ((L0 ++ numL 2 1) ++ [flagN (decide (n < 0))]) ++ numL n.natAbs 6 = L0 ++ valL ⟨2, n, x⟩ := by simp [valL, numL_one]
            show WIs _ _ _
            rw [← e1]; exact hw3
          have HT3 : Hid (Wt bw w w3) := HT2.out.trans ((Wt.new (ch_alloc (Below.refl _ _) _) (by omega)).trans ht3)
          clear hw3 ht3
          go_wp2
          go_round
          case rel => exact ⟨k + 1, by omega, by go_num, HT3, by
            show WIs _ _ _
            rw [← HFL.out]
            exact HW3.out⟩
          case measure => simp [intOf]; omega
        · refine (HN6.out n n.natAbs (by omega) (w2.alloc (.cells #[.int .i64 n] 3)) w2.heap.size _ (HW2.out.on (by repeat (first | with_reducible exact Below.refl _ _ | with_reducible assumption | with_reducible refine ch_alloc ?_ _ | with_reducible refine Below.drew ?_ | with_reducible refine below_draws _ ?_ | (with_reducible refine Below.setCell ?_ ?_ _; rotate_left; focus (first | with_reducible exact Nat.le_refl _ | (simp; done) | (simp; omega) | (simp at *; omega))) | with_reducible refine ch_trans ?_ (by with_reducible assumption)))) (Own.new _ _ _) (by omega) (by simp [numL_length]; omega)).mono ?_
          rintro e w3 ⟨rfl, hw3, ht3⟩
          have HW3 : Hid (WIs w3 bw (L0 ++ valL ⟨2, n, x⟩)) := by
            have e1 : ((L0 ++ numL 2 1) ++ [flagN (decide (n < 0))]) ++ numL n.natAbs 6 = L0 ++ valL ⟨2, n, x⟩ := by simp [valL, numL_one]
            show WIs _ _ _
            rw [← e1]; exact hw3
          have HT3 : Hid (Wt bw w w3) := HT2.out.trans ((Wt.new (ch_alloc (Below.refl _ _) _) (by omega)).trans ht3)
          clear hw3 ht3
          go_wp2
          go_round
          case rel => exact ⟨k + 1, by omega, by go_num, HT3, by
            show WIs _ _ _
            rw [← HFL.out]
            exact HW3.out⟩
          case measure => simp [intOf]; omega
      · go_wp2_with fail
        refine (HN1.out 3 ((wr.alloc (.cells #[.int .i64 3, .int .i64 n, .string x] 128)).alloc (.cells #[.int .i64 3] 3)) (wr.heap.size + 1) L0 (HW.out.on (by repeat (first | with_reducible exact Below.refl _ _ | with_reducible assumption | with_reducible refine ch_alloc ?_ _ | with_reducible refine Below.drew ?_ | with_reducible refine below_draws _ ?_ | (with_reducible refine Below.setCell ?_ ?_ _; rotate_left; focus (first | with_reducible exact Nat.le_refl _ | (simp; done) | (simp; omega) | (simp at *; omega))) | with_reducible refine ch_trans ?_ (by with_reducible assumption)))) (Own.at (wr.alloc (.cells #[.int .i64 3, .int .i64 n, .string x] 128)) _ _ (by simp)) (by omega) (by omega)).mono ?_
        rintro e w1 ⟨rfl, hw1, ht1⟩
        have HW1 : Hid (WIs w1 bw (L0 ++ numL 3 1)) := hw1
        have HV1 : Own w1 wr.heap.size 128 #[.int .i64 3, .int .i64 n, .string x] := ht1.own ((Own.new _ _ _).on (ch_alloc (Below.refl _ _) _)) (by omega) (by decide)
        have hlw1 : bw < w1.heap.size := hw1.lt
        have HT1 : Hid (Wt bw w w1) := HT.out.trans ((Wt.new (show Below wr.heap.size wr ((wr.alloc (.cells #[.int .i64 3, .int .i64 n, .string x] 128)).alloc (.cells #[.int .i64 3] 3)) from (by repeat (first | with_reducible exact Below.refl _ _ | with_reducible assumption | with_reducible refine ch_alloc ?_ _ | with_reducible refine Below.drew ?_ | with_reducible refine below_draws _ ?_ | (with_reducible refine Below.setCell ?_ ?_ _; rotate_left; focus (first | with_reducible exact Nat.le_refl _ | (simp; done) | (simp; omega) | (simp at *; omega))) | with_reducible refine ch_trans ?_ (by with_reducible assumption)))) (by omega)).trans ht1)
        have hvw1 : wr.heap.size < w1.heap.size := HV1.lt
        obtain ⟨d0, d1, d2⟩ := HV1.loc.three
        clear hw1 ht1
        go_wp2_with fail
        refine (texts_any bw (some ⟨w1.heap.size, 0, none⟩) 1 [x] (L0 ++ numL 3 1) (w1.alloc (.cells #[.string x] 9)) (HW1.out.on (by repeat (first | with_reducible exact Below.refl _ _ | with_reducible assumption | with_reducible refine ch_alloc ?_ _ | with_reducible refine Below.drew ?_ | with_reducible refine below_draws _ ?_ | (with_reducible refine Below.setCell ?_ ?_ _; rotate_left; focus (first | with_reducible exact Nat.le_refl _ | (simp; done) | (simp; omega) | (simp at *; omega))) | with_reducible refine ch_trans ?_ (by with_reducible assumption)))) (fun u hu => strs_one (hu.own (Own.new _ _ _) (by omega) (by decide))) (by simpa using hx30) (by simp [numL_length]; omega) (by simp)).mono ?_
        rintro e w2 ⟨rfl, hw2, ht2⟩
        have HW2 : Hid (WIs w2 bw (L0 ++ valL ⟨3, n, x⟩)) := by
          have e1 : (L0 ++ numL 3 1) ++ [x].flatMap textL = L0 ++ valL ⟨3, n, x⟩ := by simp [valL, numL_one]
          show WIs _ _ _
          rw [← e1]; exact hw2
        have HT2 : Hid (Wt bw w w2) := HT1.out.trans ((Wt.new (ch_alloc (Below.refl _ _) _) (by omega)).trans ht2)
        clear hw2 ht2
        go_wp2
        go_round
        case rel => exact ⟨k + 1, by omega, by go_num, HT2, by
          show WIs _ _ _
          rw [← HFL.out]
          exact HW2.out⟩
        case measure => simp [intOf]; omega
    · have hlti : (vs.length : Int) ≤ k := by omega
      have HW' : Hid (WIs wr bw (L ++ vs.flatMap valL)) := by
        have := HW.out
        rwa [List.take_of_length_le (by omega)] at this
      go_wp2
      go_end0
      exact ⟨rfl, HW'.out, HT.out⟩
end Go.Proofs.YtikccmgpmbnkfaaGreat

namespace Go.Proofs.YtikccmgpmbnkfaaGreat
open Go.ChangeShapes Go.WideShapes Go.ChangeAt Go.RowKit

set_option maxRecDepth 100000 in
set_option maxHeartbeats 1000000 in
/-- impl.writerOf -/
theorem writerOf_any (lv : Value) (ns : List Nat) (w : World) (hl : IntsV w lv (ns.map natI)) (hns : ns.length ≤ 1000) :
    Calls Tryz.prog 69 #[lv] w fun e w' => ∃ bw, e = .returned (.pointer (some ⟨bw, 0, none⟩)) ∧ w.heap.size ≤ bw ∧ Below w.heap.size w w' ∧ WIs w' bw (ns.flatMap (fun n => numL n 1)) := by
  obtain ⟨a, cap, rfl, _, _, hl⟩ := hl.lit
  rw [List.length_map] at hl ⊢
  have HI : Hid (IntsV w (.slice a ns.length cap) (ns.map natI)) := hl
  clear hl
  have HW : Hid (WIs (w.alloc (.cells #[.slice none 0 0] 120)) w.heap.size []) := ⟨_, Own.new _ _ _, Got.nil _ _ _ _⟩
  go_enter Tryz.func69, Tryz.ntmps69
  go_wp2_with fail
  refine (nums_any w.heap.size 1 _ ns [] _ HW.out (fun u hu => HI.out.on ((ch_alloc (Below.refl _ _) _).trans hu.1)) (by omega) (by simp; omega)).mono ?_
  rintro e w1 ⟨rfl, hw1, ht1⟩
  have HW1 : Hid (WIs w1 w.heap.size (ns.flatMap (fun n => numL n 1))) := by
    show WIs _ _ _
    simpa using hw1
  have hb1 : Below w.heap.size w w1 := (ch_alloc (Below.refl _ _) _).trans ht1.1
  clear hw1 ht1
  go_wp2
  go_ret
  exact ⟨_, rfl, Nat.le_refl _, hb1, HW1.out⟩

def okWord (s : ByteArray) : Prop := s.size = 0 ∨ wordB s = true
theorem okWord_size {s : ByteArray} (h : okWord s) : s.size ≤ 8 := by
  rcases h with h | h
  · omega
  · unfold wordB at h
    simp at h
    omega
theorem writer_out {w : World} {bw : Nat} {L : List UInt8} (h : WIs w bw L) : ∃ a n c, w.cell? ⟨bw, 0, none⟩ = some (.slice a n c) ∧ Got w (bw + 1) 5 1 (.slice a n c) (L.map byX) := by
  obtain ⟨v, ho, hg⟩ := h
  obtain ⟨a, n, c, rfl, hg⟩ := hg.lit2
  exact ⟨a, n, c, ho.loc.one, hg⟩
theorem empty_yes {s : ByteArray} (h : s.size = 0) : s.toList.isEmpty = true := by
  rw [ByteArray.toList_eq, List.isEmpty_iff_length_eq_zero]
  simpa using h
theorem size_empty {s : ByteArray} (h : s.toList.isEmpty = true) : s.size = 0 := by
  rw [ByteArray.toList_eq, List.isEmpty_iff_length_eq_zero] at h
  simpa using h
theorem ok_below (c : Vc) (w : World) : Calls Tryz.prog 143 #[.agg c.cells] w fun e w' => e = .returned (.bool (okB c.ty c.n c.s)) ∧ Below w.heap.size w w' :=
  (ok_impl c.ty c.n c.s w).mono fun e w' ⟨he, k, hw⟩ => ⟨he, by subst hw; exact (by repeat (first | with_reducible exact Below.refl _ _ | with_reducible assumption | with_reducible refine ch_alloc ?_ _ | with_reducible refine Below.drew ?_ | with_reducible refine below_draws _ ?_ | (with_reducible refine Below.setCell ?_ ?_ _; rotate_left; focus (first | with_reducible exact Nat.le_refl _ | (simp; done) | (simp; omega) | (simp at *; omega))) | with_reducible refine ch_trans ?_ (by with_reducible assumption)))⟩
theorem writerOf_none (u : World) : Calls Tryz.prog 69 #[.slice none 0 0] u fun e w' => ∃ bw, e = .returned (.pointer (some ⟨bw, 0, none⟩)) ∧ u.heap.size ≤ bw ∧ Below u.heap.size u w' ∧ WIs w' bw [] := by
  have := writerOf_any (.slice none 0 0) [] u ⟨_, _, rfl, Nat.le_refl _, Nat.zero_le _, RowAt.nil _ _ _⟩ (by simp)
  simpa using this

end Go.Proofs.YtikccmgpmbnkfaaGreat
