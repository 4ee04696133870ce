/- The writer of bytes: numbers written, and of what was there only the writer and its own row turned. The writer of bytes: texts, values, the helper. Words, values and rows as bytes: landed. Words, values and rows as bytes: given. -/
import Derived.Test.YtiijahoheajppaaGreatCt
import Derived.Test.YtiijahoheajppaaGreatAl
import Derived.Test.YtiijahoheajppaaGreatVs
import Derived.Test.YtiijahoheajppaaGreatValOk
import Derived.Lib.ConvBytes
namespace Go.Proofs.YtiijahoheajppaaGreat
open Go.ChangeShapes Go.WideShapes Go.ChangeAt Go.RowKit

theorem Lies.refl (w : World) (v : Value) : Lies w v v := fun _ h => Or.inl h
theorem turns_lies {w a b : World} {v q q' : Value} {S : Nat → Prop} (h1 : Turns (fun c => S c ∨ v.ownBlock = some c) w a) (l1 : Lies w v q) (h2 : Turns (fun c => S c ∨ q.ownBlock = some c) a b) (l2 : Lies a q q') : Turns (fun c => S c ∨ v.ownBlock = some c) w b ∧ Lies w v q' := by
  refine ⟨⟨h2.os.trans h1.os, h2.tape.trans h1.tape, h2.output.trans h1.output, Nat.le_trans h1.size h2.size, fun i hi hn => ?_⟩, fun c hc => ?_⟩
  · refine (h2.block i (Nat.lt_of_lt_of_le hi h1.size) fun h => ?_).trans (h1.block i hi hn)
    rcases h with h | h
    · exact hn (Or.inl h)
    · rcases l1 i h with h | h
      · exact hn (Or.inr h)
      · omega
  · rcases l2 c hc with h | h
    · exact l1 c h
    · exact Or.inr (Nat.le_trans h1.size h)
set_option maxRecDepth 100000 in
set_option maxHeartbeats 1000000 in
/-- impl.appendNum -/
theorem appendNum_x (v : Value) (l : List UInt8) (n s B : Nat) (w : World) (hg : Got w B 5 1 v (l.map byX)) (hl : l.length ≤ 4000000) (hs : s ≤ 6) (hB : B ≤ w.heap.size) :
    Calls Tryz.prog 109 #[v, .int .i64 (n : Int), .int .i64 (s : Int)] w fun e w' => ∃ v', e = .returned v' ∧ Below B w w' ∧ Turns (fun c => False ∨ v.ownBlock = some c) w w' ∧ Lies w v v' ∧ Got w' B 5 1 v' ((l ++ numL n s).map byX) := by
  obtain ⟨a0, n0, c0, rfl, hg⟩ := hg.lit2
  have HG : Hid (Got w B 5 1 (.slice a0 n0 c0) (l.map byX)) := hg
  clear hg
  go_enter Tryz.func109, Tryz.ntmps109
  go_wp2
  go_loopw [0, 7] (fun q i wr => ∃ (k : Nat) (L : List UInt8), k ≤ s ∧ i = .int .i64 ((k : Int) - 1) ∧ Below B w wr ∧ Hid (Turns (fun c => False ∨ (Value.slice a0 n0 c0).ownBlock = some c) w wr ∧ Lies w (.slice a0 n0 c0) q) ∧ L.length ≤ l.length + (s - k) ∧ Hid (L ++ numL n k = l ++ numL n s) ∧ Hid (Got wr B 5 1 q (L.map byX))) (fun _ i _ => ((intOf i) + 1).toNat)
  case atStart => exact ⟨s, l, Nat.le_refl _, by go_num, Below.refl _ _, ⟨Turns.refl _ _, Lies.refl _ _⟩, by omega, rfl, HG⟩
  case round =>
    clear HG
    obtain ⟨k, L, hk, rfl, hb, HY, hL, HL, HG⟩ := hrel
    obtain ⟨ag, ng, cg, rfl, hg⟩ := HG.out.lit2
    have HG' : Hid (Got wr B 5 1 (.slice ag ng cg) (L.map byX)) := hg
    clear HG hg
    cases k with
    | zero =>
      have HE : Hid (L = l ++ numL n s) := by
        have := HL.out; rw [numL, List.append_nil] at this; exact this
      go_wp2
      go_ret
      exact ⟨_, rfl, hb, HY.out.1, HY.out.2, by rw [← HE.out]; exact HG'.out⟩
    | succ j =>
      have hj6 : j ≤ 5 := by omega
      rw [show (((j + 1 : Nat) : Int) - 1) = (j : Int) by omega]
      have HX : Hid (byX (UInt8.ofNat (n / 256 ^ j)) = #[.int .u8 ((n : Int) / 2 ^ (8 * j) % 256)]) := by show #[Value.int .u8 _] = _; rw [dig_eq]
      go_wp2_with (at_builtin; refine app_turnK rfl (.tmp 14) (.tmp 20) rfl Tryz.underlying26 infoByte rfl (by decide) (by decide) B _ (L.map byX) rfl (HG'.out.on (ch_alloc (Below.refl _ _) _)) wr.heap.size 1 #[.int .u8 ((n : Int) / 2 ^ (8 * j) % 256)] rfl (Loc.new _ _ _) rfl (fun u hu => by simp at hu; subst hu; rfl) (by simp; omega) (by have := hb.size; simp; omega) ?_; intro v' w2 hg2 hb2 ht2 hl2)
      go_round
      case rel => exact ⟨j, L ++ [UInt8.ofNat (n / 256 ^ j)], by omega, by go_num, (hb.alloc (Nat.le_trans hB hb.size) _).trans hb2, turns_lies (HY.out.1.below (ch_alloc (Below.refl _ _) _)) HY.out.2 (ht2.mono fun c h => Or.inr h) hl2, by simp; omega, by
        show _ = _
        rw [← HL.out, List.append_assoc]; rfl, by
        show Got _ _ _ _ _ _
        rw [List.map_append, List.map_cons, List.map_nil, HX.out]; exact hg2⟩
      case measure => simp [intOf]

set_option maxRecDepth 100000 in
set_option maxHeartbeats 1000000 in
/-- (*impl.byteWriter).nums -/
theorem nums_x (bw s : Nat) (lv vw : Value) (ns : List Nat) (L : List UInt8) (w : World) (h1 : Own w bw 120 #[vw]) (h2 : Got w (bw + 1) 5 1 vw (L.map byX)) (hl : ∀ u, Wt bw w u → IntsV u lv (ns.map natI)) (hs : s ≤ 6) (hL : L.length + ns.length * s ≤ 3000000) :
    Calls Tryz.prog 70 #[.pointer (some ⟨bw, 0, none⟩), .int .i64 (s : Int), lv] w fun e w' => ∃ a n c, e = .returned (.tuple #[]) ∧ Own w' bw 120 #[.slice a n c] ∧ Got w' (bw + 1) 5 1 (.slice a n c) ((L ++ ns.flatMap (fun n => numL n s)).map byX) ∧ Wt bw w w' ∧ Turns (fun c => c = bw ∨ vw.ownBlock = some c) w w' ∧ Lies w vw (.slice a n c) := by
  obtain ⟨a, cap, rfl, h3, h4, _⟩ := (hl w (Wt.refl _ _)).lit
  rw [List.length_map] at h3
  unfold maxLen at h4
  have HL : Hid (∀ u, Wt bw w u → RowAt u a 1 ((ns.map natI).map intX)) := fun u hu => (hl u hu).row
  obtain ⟨aw, nw, cw, rfl, h2⟩ := h2.lit2
  have HW : Hid (Own w bw 120 #[.slice aw nw cw] ∧ Got w (bw + 1) 5 1 (.slice aw nw cw) (L.map byX)) := ⟨h1, h2⟩
  clear hl h1 h2
  go_enter Tryz.func70, Tryz.ntmps70
  rw [List.length_map]
  go_wp2
  go_loopw [10] (fun i wr => ∃ k : Nat, k ≤ ns.length ∧ i = .int .i64 (k : Int) ∧ Hid (Wt bw w wr) ∧ Hid (∃ a n c, Own wr bw 120 #[.slice a n c] ∧ Got wr (bw + 1) 5 1 (.slice a n c) ((L ++ (ns.take k).flatMap (fun n => numL n s)).map byX) ∧ Turns (fun c => c = bw ∨ (Value.slice aw nw cw).ownBlock = some c) w wr ∧ Lies w (.slice aw nw cw) (.slice a n c))) (fun i _ => ns.length - (intOf i).toNat)
  case atStart => exact ⟨0, Nat.zero_le _, rfl, Wt.refl _ _, aw, nw, cw, HW.out.1, by simpa using HW.out.2, Turns.refl _ _, Lies.refl _ _⟩
  case round =>
    clear HW
    obtain ⟨k, hk, rfl, HT, HW⟩ := hrel
    by_cases hlt : k < ns.length
    · have hlti : (k : Int) < ns.length := by omega
      obtain ⟨b, off, rfl, c0⟩ := (HL.out _ HT.out).ints k (by simpa using hlt)
      have e0 : (ns.map natI)[k]'(by simpa using hlt) = (ns[k] : Int) := by simp
      rw [e0] at c0
      clear e0
      obtain ⟨a0, n0, q0, HO, hg, ht, hli⟩ := HW.out
      have HG : Hid (Got wr (bw + 1) 5 1 (.slice a0 n0 q0) ((L ++ (ns.take k).flatMap (fun n => numL n s)).map byX)) := hg
      have HTL : Hid (Turns (fun c => c = bw ∨ (Value.slice aw nw cw).ownBlock = some c) w wr ∧ Lies w (.slice aw nw cw) (.slice a0 n0 q0)) := ⟨ht, hli⟩
      clear hg ht hli
      have hlen : (L ++ (ns.take k).flatMap (fun n => numL n s)).length ≤ 3000000 := by
        have h1 : ((ns.take k).flatMap (fun n => numL n s)).length ≤ ns.length * s := by
          rw [flat_num]
          exact Nat.mul_le_mul_right _ (by simp; omega)
        rw [List.length_append]; omega
      have hlw := HO.lt
      have HAP : Hid (Calls Tryz.prog 109 #[.slice a0 n0 q0, .int .i64 (ns[k] : Int), .int .i64 (s : Int)] wr fun e w' => ∃ v', e = .returned v' ∧ Below (bw + 1) wr w' ∧ Turns (fun c => False ∨ (Value.slice a0 n0 q0).ownBlock = some c) wr w' ∧ Lies wr (.slice a0 n0 q0) v' ∧ Got w' (bw + 1) 5 1 v' (((L ++ (ns.take k).flatMap (fun n => numL n s)) ++ numL ns[k] s).map byX)) := appendNum_x _ _ ns[k] s (bw + 1) wr HG.out (by omega) hs (by omega)
      have HFL : Hid ((L ++ (ns.take k).flatMap (fun n => numL n s)) ++ numL ns[k] s = L ++ (ns.take (k + 1)).flatMap (fun n => numL n s)) := by
        show _ = _
        rw [List.take_succ_eq_append_getElem hlt, List.flatMap_append, List.append_assoc]
        simp
      have g0 := HO.loc.one
      generalize ns[k] = N at HAP HFL c0
      go_wp2_with (go_at_call 109; refine HAP.out.mono ?_; rintro e w1 ⟨v', rfl, b1, t1, l1, hg1⟩; obtain ⟨a1, n1, q1, rfl, hg1⟩ := hg1.lit2; have HO1 : Own w1 bw 120 #[.slice a0 n0 q0] := (b1.block bw (by omega)).trans HO; have g1 := HO1.loc.one; have i1 := HO1.frozen 0)
      have hy1 : Byt wr w1 := Byt.got HG.out (t1.mono fun c h => h.elim False.elim id)
      have htl := turns_lies (S := fun c => c = bw) HTL.out.1 HTL.out.2 (t1.mono fun c h => Or.inr (h.elim False.elim id)) l1
      have ht2 : Turns (fun c => c = bw ∨ (Value.slice aw nw cw).ownBlock = some c) w (w1.setCell ⟨bw, 0, none⟩ (.slice a1 n1 q1)) := htl.1.set (Or.inl rfl) _
      go_round
      case rel => exact ⟨k + 1, by omega, by go_num, HT.out.trans ((Wt.of hy1 b1).trans (Wt.set bw w1 _)), a1, n1, q1, HO1.set 0 _, by
        rw [← HFL.out]
        exact hg1.turns ((Turns.refl (fun c => c = bw) w1).set rfl _) (fun c h => by omega), ht2, htl.2⟩
      case measure => simp [intOf]; omega
    · have hlti : (ns.length : Int) ≤ k := by omega
      have HW' : Hid (∃ a n c, Own wr bw 120 #[.slice a n c] ∧ Got wr (bw + 1) 5 1 (.slice a n c) ((L ++ ns.flatMap (fun n => numL n s)).map byX) ∧ Turns (fun c => c = bw ∨ (Value.slice aw nw cw).ownBlock = some c) w wr ∧ Lies w (.slice aw nw cw) (.slice a n c)) := by
        have := HW.out
        rwa [List.take_of_length_le (by omega)] at this
      clear HW
      go_wp2
      go_end0
      obtain ⟨a, n, c, h1, h2, h3, h4⟩ := HW'.out
      exact ⟨a, n, c, rfl, h1, h2, HT.out, h3, h4⟩
end Go.Proofs.YtiijahoheajppaaGreat

namespace Go.Proofs.YtiijahoheajppaaGreat
open Go.ChangeShapes Go.WideShapes Go.ChangeAt Go.RowKit

theorem flat_bytes (l : List UInt8) : (l.map byX).flatMap Array.toList = l.map byV := by
  induction l with
  | nil => rfl
  | cons c r ih => rw [List.map_cons, List.flatMap_cons, ih]; rfl
section
variable {P : Program} {w : World} {ops : Array Oper} {rest : List Oper} {o : Oper} {a : Act} {Q : Exit → Act → World → Prop} {t T tu : TypeId}
/-- The bytes of a text behind those of a row of the call's own. -/
theorem app_str (hgd : o.guard = none) (s y : Operand) (ho : o.op = .call { callee := .builtin .append, args := #[s, y], argTypes := #[t, tu] })
    (ht : P.underlying t = some (.slice T)) (hu : P.underlying tu = some .string) (hinfo : (P.info? T).map (fun i => (i.zero, i.size, i.bytes)) = some (some (.int .u8 0), 1, 1))
    (B : Nat) (v : Value) (l : List UInt8) (hs : a.eval s = v) (hown : Got w B T 1 v (l.map byX)) (x : ByteArray) (hy : a.eval y = .string x) (hlen : l.length + x.size < 1000000000) (hB : B ≤ w.heap.size)
    (h : ∀ v' w', Got w' B T 1 v' ((l ++ x.data.toList).map byX) → Below B w w' → Turns (fun c => v.ownBlock = some c) w w' → wpList P ops Q rest (a.put o.dst v') w') : wpList P ops Q (o :: rest) a w := by
  obtain ⟨i, hi, hzz⟩ := Option.map_eq_some_iff.1 hinfo
  simp only [Prod.mk.injEq] at hzz
  obtain ⟨hz0, hz1, hz2⟩ := hzz
  obtain ⟨v', w', hr, h2, h3, _⟩ := Lib.run_append_own_string (P := P) (w := w) B t tu o.type T i ht hu hi hz0 hz1 hz2 v (l.map byX).length ((l.map byX).flatMap Array.toList) hown.2 x (by simp; unfold maxLen; omega) (by simp; omega) hB
  have hG : Got w' B T 1 v' ((l ++ x.data.toList).map byX) := by
    refine ⟨fun q hq => ?_, ?_⟩
    · obtain ⟨u, _, rfl⟩ := List.mem_map.1 hq; rfl
    · have e1 : ((l ++ x.data.toList).map byX).length = (l.map byX).length + x.size := by simp
      have e2 : ((l ++ x.data.toList).map byX).flatMap Array.toList = (l.map byX).flatMap Array.toList ++ Lib.strCells x := by
        rw [flat_bytes, flat_bytes, List.map_append]
        rfl
      rw [e1, e2]; exact h2
  refine wpList_plain hgd fun _ hK => ?_
  unfold Oper.wp execOp
  simp only [ho, resolve, invoke, builtin, Sem.run_bind, Sem.run_pure, Result.andThen_ok, List.map_toArray, List.map_cons, List.map_nil, hs, hy, hr]
  exact hK _ _ (h v' w' hG (Below.grown (Below.refl _ _) h3 hB (fun k hk => (World.ownsRow.lt hown.2 k hk).1)) ⟨h3.os, h3.tape, h3.output, h3.size, fun c hc hn => h3.block c hc fun e => hn e.symm⟩)
end

/-- A text as bytes, its length ahead. -/
def textL (s : ByteArray) : List UInt8 := UInt8.ofNat s.size :: s.data.toList
theorem textL_length (s : ByteArray) : (textL s).length = s.size + 1 := by simp [textL]
theorem flat_text : ∀ ss : List ByteArray, (∀ s ∈ ss, s.size ≤ 30) → (ss.flatMap textL).length ≤ ss.length * 31
  | [], _ => by simp
  | s :: r, h => by
    have h1 := flat_text r fun x hx => h x (by simp [hx])
    have h2 := h s (by simp)
    rw [List.flatMap_cons, List.length_append, textL_length, List.length_cons]; omega

set_option maxRecDepth 100000 in
set_option maxHeartbeats 1000000 in
/-- (*impl.byteWriter).texts -/
theorem texts_any (bw : Nat) (a : Option Addr) (cap : Nat) (ss : List ByteArray) (L : List UInt8) (w : World) (h : WIs w bw L) (hl : ∀ u, Wt bw w u → RowAt u a 1 (ss.map strX)) (hsz : ∀ s ∈ ss, s.size ≤ 30) (hL : L.length ≤ 1000000) (hss : ss.length ≤ 1000) :
    Calls Tryz.prog 86 #[.pointer (some ⟨bw, 0, none⟩), .slice a ss.length cap] w fun e w' => e = .returned (.tuple #[]) ∧ WIs w' bw (L ++ ss.flatMap textL) ∧ Wt bw w w' := by
  have HL : Hid (∀ u, Wt bw w u → RowAt u a 1 (ss.map strX)) := hl
  have HW : Hid (WIs w bw L) := h
  have HZ : Hid (∀ s ∈ ss, s.size ≤ 30) := hsz
  clear hl h hsz
  go_enter Tryz.func86, Tryz.ntmps86
  go_wp2
  go_loopw [8] (fun i wr => ∃ k : Nat, k ≤ ss.length ∧ i = .int .i64 (k : Int) ∧ Hid (Wt bw w wr) ∧ Hid (WIs wr bw (L ++ (ss.take k).flatMap textL))) (fun i _ => ss.length - (intOf i).toNat)
  case atStart => exact ⟨0, Nat.zero_le _, rfl, Wt.refl _ _, by
    have := HW.out
    show WIs _ _ _
    simpa using this⟩
  case round =>
    clear HW
    obtain ⟨k, hk, rfl, HT, HW⟩ := hrel
    by_cases hlt : k < ss.length
    · have hlti : (k : Int) < ss.length := by omega
      obtain ⟨b, off, rfl, c0⟩ := (HL.out _ HT.out).strs k hlt
      have hlw := HW.out.lt
      have hx30 := HZ.out ss[k] (List.getElem_mem hlt)
      have hlen : (L ++ (ss.take k).flatMap textL).length ≤ 1900000 := by
        have h1 := flat_text (ss.take k) fun x hx => HZ.out x (List.mem_of_mem_take hx)
        have h2 : (ss.take k).length ≤ 1000 := by simp; omega
        rw [List.length_append]; omega
      have HFL : Hid (((L ++ (ss.take k).flatMap textL) ++ [UInt8.ofNat ss[k].size]) ++ ss[k].data.toList = L ++ (ss.take (k + 1)).flatMap textL) := by
        show _ = _
        rw [List.take_succ_eq_append_getElem hlt, List.flatMap_append, List.append_assoc, List.append_assoc]
        simp [textL]
      have HNO : Hid (∀ (N : Nat) (u : World) (c : Nat), WIs u bw (L ++ (ss.take k).flatMap textL) → Own u c 3 #[.int .i64 (N : Int)] → c ≠ bw → Calls Tryz.prog 70 #[.pointer (some ⟨bw, 0, none⟩), .int .i64 1, .slice (some ⟨c, 0, none⟩) 1 1] u fun e w' => e = .returned (.tuple #[]) ∧ WIs w' bw ((L ++ (ss.take k).flatMap textL) ++ [UInt8.ofNat N]) ∧ Wt bw u w') := fun N u c h1 h2 h3 => by
        have := nums_one bw c 1 N _ u h1 h2 h3 (by omega) (by omega)
        rwa [numL_one] at this
      generalize L ++ (ss.take k).flatMap textL = L0 at HW hlen HFL HNO
      generalize ss[k] = x at c0 hx30 HFL
      go_wp2_with (first
        | (go_at_call 70; refine (HNO.out x.size (wr.alloc (.cells #[.int .i64 (x.size : Int)] 3)) wr.heap.size (HW.out.on (by repeat (first | with_reducible exact Below.refl _ _ | with_reducible assumption | with_reducible refine ch_alloc ?_ _ | with_reducible refine Below.drew ?_ | with_reducible refine below_draws _ ?_ | (with_reducible refine Below.setCell ?_ ?_ _; rotate_left; focus (first | with_reducible exact Nat.le_refl _ | (simp; done) | (simp; omega) | (simp at *; omega))) | with_reducible refine ch_trans ?_ (by with_reducible assumption)))) (Own.new _ _ _) (by omega)).mono ?_; rintro e w1 ⟨rfl, hw1, ht1⟩; have HT1 : Hid (Wt bw (wr.alloc (.cells #[.int .i64 (x.size : Int)] 3)) w1) := ht1; obtain ⟨v0, HO, hg⟩ := hw1; obtain ⟨a0, n0, q0, rfl, hg⟩ := hg.lit2; have HG : Hid (Got w1 (bw + 1) 5 1 (.slice a0 n0 q0) ((L0 ++ [UInt8.ofNat x.size]).map byX)) := hg; clear hg ht1; have g0 := HO.loc.one; have hlw1 := HO.lt)
        | (at_builtin; refine app_str rfl (.tmp 21) (.tmp 22) rfl Tryz.underlying26 Tryz.underlying9 infoByte (bw + 1) _ (L0 ++ [UInt8.ofNat x.size]) rfl HG.out x rfl (by simp; omega) (by omega) ?_; intro v2 w2 hg2 hb2 ht2; obtain ⟨a2, n2, q2, rfl, hg2⟩ := hg2.lit2; have HO2 : Own w2 bw 120 #[.slice a0 n0 q0] := (hb2.block bw (by omega)).trans HO; have g2 := HO2.loc.one; have i2 := HO2.frozen 0))
      go_round
      case rel => exact ⟨k + 1, by omega, by go_num, HT.out.trans ((Wt.new (ch_alloc (Below.refl _ _) _) (by omega)).trans (HT1.out.trans ((Wt.of (Byt.got HG.out ht2) hb2).trans (Wt.set bw w2 _)))), by
        show WIs _ _ _
        rw [← HFL.out]
        exact WIs.put HO2 hg2⟩
      case measure => simp [intOf]; omega
    · have hlti : (ss.length : Int) ≤ k := by omega
      have HW' : Hid (WIs wr bw (L ++ ss.flatMap textL)) := by
        have := HW.out
        rwa [List.take_of_length_le (by omega)] at this
      go_wp2
      go_end0
      exact ⟨rfl, HW'.out, HT.out⟩

/-- A value as bytes. -/
def valL (c : Vc) : List UInt8 := UInt8.ofNat c.ty.toNat :: (if c.ty = 1 then [UInt8.ofNat c.n.toNat] else if c.ty = 2 then flagN (decide (c.n < 0)) :: numL c.n.natAbs 6 else if c.ty = 3 then textL c.s else [])
theorem okB_ty {c : Vc} (h : okB c.ty c.n c.s = true) : c.ty = 0 ∨ (c.ty = 1 ∧ 0 ≤ c.n ∧ c.n ≤ 1) ∨ (c.ty = 2 ∧ -1099511627775 ≤ c.n ∧ c.n ≤ 1099511627775) ∨ (c.ty = 3 ∧ c.s.size ≤ 30) := by
  unfold okB at h
  split at h
  · exact Or.inl ‹_›
  split at h
  · refine Or.inr (Or.inl ⟨‹_›, ?_⟩)
    simp at h
    omega
  split at h
  · refine Or.inr (Or.inr (Or.inl ⟨‹_›, ?_⟩))
    rw [Bool.and_eq_true, numB_iff] at h
    exact h.1
  split at h
  · refine Or.inr (Or.inr (Or.inr ⟨‹_›, ?_⟩))
    simp at h
    exact h.2
  · cases h
theorem valL_length {c : Vc} (h : okB c.ty c.n c.s = true) : (valL c).length ≤ 32 := by
  rcases okB_ty h with h | ⟨h, _⟩ | ⟨h, _⟩ | ⟨h, hs⟩
  · simp [valL, h]
  · simp [valL, h]
  · simp [valL, h, numL_length]
  · simp [valL, h, textL_length]; omega
theorem flat_val : ∀ vs : List Vc, (∀ c ∈ vs, okB c.ty c.n c.s = true) → (vs.flatMap valL).length ≤ vs.length * 32
  | [], _ => by simp
  | c :: r, h => by
    have h1 := flat_val r fun x hx => h x (by simp [hx])
    have h2 := valL_length (h c (by simp))
    rw [List.flatMap_cons, List.length_append, List.length_cons]; omega
theorem strs_one {w : World} {c : Nat} {x : ByteArray} (h : Own w c 9 #[.string x]) : RowAt w (some ⟨c, 0, none⟩) 1 ([x].map strX) := h.loc.row1 rfl
theorem bools_one {w : World} {c : Nat} {x : Bool} (h : Own w c 4 #[.bool x]) : RowAt w (some ⟨c, 0, none⟩) 1 ([x].map boolX) := h.loc.row1 rfl

set_option maxRecDepth 100000 in
set_option maxHeartbeats 1000000 in
/-- (*impl.byteWriter).vals -/
theorem vals_any (bw : Nat) (a : Option Addr) (cap : Nat) (vs : List Vc) (L : List UInt8) (w : World) (h : WIs w bw L) (hl : ∀ u, Wt bw w u → RowAt u a 3 (vs.map Vc.cells)) (hok : ∀ c ∈ vs, okB c.ty c.n c.s = true) (hL : L.length ≤ 500000) (hvs : vs.length ≤ 1000) :
    Calls Tryz.prog 87 #[.pointer (some ⟨bw, 0, none⟩), .slice a vs.length cap] w fun e w' => e = .returned (.tuple #[]) ∧ WIs w' bw (L ++ vs.flatMap valL) ∧ Wt bw w w' := by
  have HL : Hid (∀ u, Wt bw w u → RowAt u a 3 (vs.map Vc.cells)) := hl
  have HW : Hid (WIs w bw L) := h
  have HZ : Hid (∀ c ∈ vs, okB c.ty c.n c.s = true) := hok
  clear hl h hok
  go_enter Tryz.func87, Tryz.ntmps87
  go_wp2
  go_loopw [8] (fun i wr => ∃ k : Nat, k ≤ vs.length ∧ i = .int .i64 (k : Int) ∧ Hid (Wt bw w wr) ∧ Hid (WIs wr bw (L ++ (vs.take k).flatMap valL))) (fun i _ => vs.length - (intOf i).toNat)
  case atStart => exact ⟨0, Nat.zero_le _, rfl, Wt.refl _ _, by
    have := HW.out
    show WIs _ _ _
    simpa using this⟩
  case round =>
    clear HW
    obtain ⟨k, hk, rfl, HT, HW⟩ := hrel
    by_cases hlt : k < vs.length
    · have hlti : (k : Int) < vs.length := by omega
      obtain ⟨b, off, rfl, c0, c1, c2⟩ := (HL.out _ HT.out).vals k hlt
      have hlw := HW.out.lt
      have hlen : (L ++ (vs.take k).flatMap valL).length ≤ 600000 := by
        have h1 := flat_val (vs.take k) fun x hx => HZ.out x (List.mem_of_mem_take hx)
        have h2 : (vs.take k).length ≤ 1000 := by simp; omega
        rw [List.length_append]; omega
      have HFL : Hid ((L ++ (vs.take k).flatMap valL) ++ valL vs[k] = L ++ (vs.take (k + 1)).flatMap valL) := by
        show _ = _
        rw [List.take_succ_eq_append_getElem hlt, List.flatMap_append, List.append_assoc]
        simp
      have hok := okB_ty (HZ.out vs[k] (List.getElem_mem hlt))
      generalize L ++ (vs.take k).flatMap valL = L0 at HW hlen HFL
      generalize vs[k] = c at c0 c1 c2 HFL hok
      obtain ⟨ty, n, x⟩ := c
      simp only at c0 c1 c2 hok
      have HN1 : Hid (∀ (N : Nat) (u : World) (c : Nat) (L1 : List UInt8), WIs u bw L1 → Own u c 3 #[.int .i64 (N : Int)] → c ≠ bw → L1.length ≤ 2000000 → Calls Tryz.prog 70 #[.pointer (some ⟨bw, 0, none⟩), .int .i64 1, .slice (some ⟨c, 0, none⟩) 1 1] u fun e w' => e = .returned (.tuple #[]) ∧ WIs w' bw (L1 ++ numL N 1) ∧ Wt bw u w') := fun N u c L1 h1 h2 h3 h5 => nums_one bw c 1 N L1 u h1 h2 h3 (by omega) h5
      have HN6 : Hid (∀ (m : Int) (N : Nat) (hm : m = (N : Int)) (u : World) (c : Nat) (L1 : List UInt8), WIs u bw L1 → Own u c 3 #[.int .i64 m] → c ≠ bw → L1.length ≤ 2000000 → Calls Tryz.prog 70 #[.pointer (some ⟨bw, 0, none⟩), .int .i64 6, .slice (some ⟨c, 0, none⟩) 1 1] u fun e w' => e = .returned (.tuple #[]) ∧ WIs w' bw (L1 ++ numL N 6) ∧ Wt bw u w') := fun m N hm u c L1 h1 h2 h3 h5 => by
        subst hm
        exact nums_one bw c 6 N L1 u h1 h2 h3 (by omega) h5
      rcases hok with rfl | ⟨rfl, hn0, hn1⟩ | ⟨rfl, hn0, hn1⟩ | ⟨rfl, hx30⟩
      · go_wp2_with fail
        refine (HN1.out 0 ((wr.alloc (.cells #[.int .i64 0, .int .i64 n, .string x] 128)).alloc (.cells #[.int .i64 0] 3)) (wr.heap.size + 1) L0 (HW.out.on (by repeat (first | with_reducible exact Below.refl _ _ | with_reducible assumption | with_reducible refine ch_alloc ?_ _ | with_reducible refine Below.drew ?_ | with_reducible refine below_draws _ ?_ | (with_reducible refine Below.setCell ?_ ?_ _; rotate_left; focus (first | with_reducible exact Nat.le_refl _ | (simp; done) | (simp; omega) | (simp at *; omega))) | with_reducible refine ch_trans ?_ (by with_reducible assumption)))) (Own.at (wr.alloc (.cells #[.int .i64 0, .int .i64 n, .string x] 128)) _ _ (by simp)) (by omega) (by omega)).mono ?_
        rintro e w1 ⟨rfl, hw1, ht1⟩
        have HW1 : Hid (WIs w1 bw (L0 ++ numL 0 1)) := hw1
        have HV1 : Own w1 wr.heap.size 128 #[.int .i64 0, .int .i64 n, .string x] := ht1.own ((Own.new _ _ _).on (ch_alloc (Below.refl _ _) _)) (by omega) (by decide)
        have hlw1 : bw < w1.heap.size := hw1.lt
        have HT1 : Hid (Wt bw w w1) := HT.out.trans ((Wt.new (show Below wr.heap.size wr ((wr.alloc (.cells #[.int .i64 0, .int .i64 n, .string x] 128)).alloc (.cells #[.int .i64 0] 3)) from (by repeat (first | with_reducible exact Below.refl _ _ | with_reducible assumption | with_reducible refine ch_alloc ?_ _ | with_reducible refine Below.drew ?_ | with_reducible refine below_draws _ ?_ | (with_reducible refine Below.setCell ?_ ?_ _; rotate_left; focus (first | with_reducible exact Nat.le_refl _ | (simp; done) | (simp; omega) | (simp at *; omega))) | with_reducible refine ch_trans ?_ (by with_reducible assumption)))) (by omega)).trans ht1)
        have hvw1 : wr.heap.size < w1.heap.size := HV1.lt
        obtain ⟨d0, d1, d2⟩ := HV1.loc.three
        clear hw1 ht1
        go_wp2
        go_round
        case rel => exact ⟨k + 1, by omega, by go_num, HT1, by
          show WIs _ _ _
          rw [← HFL.out]
          exact HW1.out⟩
        case measure => simp [intOf]; omega
      · obtain ⟨N, rfl⟩ : ∃ N : Nat, n = (N : Int) := ⟨n.toNat, by omega⟩
        go_wp2_with fail
        refine (HN1.out 1 ((wr.alloc (.cells #[.int .i64 1, .int .i64 (N : Int), .string x] 128)).alloc (.cells #[.int .i64 1] 3)) (wr.heap.size + 1) L0 (HW.out.on (by repeat (first | with_reducible exact Below.refl _ _ | with_reducible assumption | with_reducible refine ch_alloc ?_ _ | with_reducible refine Below.drew ?_ | with_reducible refine below_draws _ ?_ | (with_reducible refine Below.setCell ?_ ?_ _; rotate_left; focus (first | with_reducible exact Nat.le_refl _ | (simp; done) | (simp; omega) | (simp at *; omega))) | with_reducible refine ch_trans ?_ (by with_reducible assumption)))) (Own.at (wr.alloc (.cells #[.int .i64 1, .int .i64 (N : Int), .string x] 128)) _ _ (by simp)) (by omega) (by omega)).mono ?_
        rintro e w1 ⟨rfl, hw1, ht1⟩
        have HW1 : Hid (WIs w1 bw (L0 ++ numL 1 1)) := hw1
        have HV1 : Own w1 wr.heap.size 128 #[.int .i64 1, .int .i64 (N : Int), .string x] := ht1.own ((Own.new _ _ _).on (ch_alloc (Below.refl _ _) _)) (by omega) (by decide)
        have hlw1 : bw < w1.heap.size := hw1.lt
        have HT1 : Hid (Wt bw w w1) := HT.out.trans ((Wt.new (show Below wr.heap.size wr ((wr.alloc (.cells #[.int .i64 1, .int .i64 (N : Int), .string x] 128)).alloc (.cells #[.int .i64 1] 3)) from (by repeat (first | with_reducible exact Below.refl _ _ | with_reducible assumption | with_reducible refine ch_alloc ?_ _ | with_reducible refine Below.drew ?_ | with_reducible refine below_draws _ ?_ | (with_reducible refine Below.setCell ?_ ?_ _; rotate_left; focus (first | with_reducible exact Nat.le_refl _ | (simp; done) | (simp; omega) | (simp at *; omega))) | with_reducible refine ch_trans ?_ (by with_reducible assumption)))) (by omega)).trans ht1)
        have hvw1 : wr.heap.size < w1.heap.size := HV1.lt
        obtain ⟨d0, d1, d2⟩ := HV1.loc.three
        clear hw1 ht1
        go_wp2_with fail
        refine (HN1.out N (w1.alloc (.cells #[.int .i64 (N : Int)] 3)) w1.heap.size (L0 ++ numL 1 1) (HW1.out.on (by repeat (first | with_reducible exact Below.refl _ _ | with_reducible assumption | with_reducible refine ch_alloc ?_ _ | with_reducible refine Below.drew ?_ | with_reducible refine below_draws _ ?_ | (with_reducible refine Below.setCell ?_ ?_ _; rotate_left; focus (first | with_reducible exact Nat.le_refl _ | (simp; done) | (simp; omega) | (simp at *; omega))) | with_reducible refine ch_trans ?_ (by with_reducible assumption)))) (Own.new _ _ _) (by omega) (by simp [numL_length]; omega)).mono ?_
        rintro e w2 ⟨rfl, hw2, ht2⟩
        have HW2 : Hid (WIs w2 bw (L0 ++ valL ⟨1, N, x⟩)) := by
          have e1 : (L0 ++ numL 1 1) ++ numL N 1 = L0 ++ valL ⟨1, N, x⟩ := by simp [valL, numL_one]
          show WIs _ _ _
          rw [← e1]; exact hw2
        have HT2 : Hid (Wt bw w w2) := HT1.out.trans ((Wt.new (ch_alloc (Below.refl _ _) _) (by omega)).trans ht2)
        clear hw2 ht2
        go_wp2
        go_round
        case rel => exact ⟨k + 1, by omega, by go_num, HT2, by
          show WIs _ _ _
          rw [← HFL.out]
          exact HW2.out⟩
        case measure => simp [intOf]; omega
      · go_wp2_with fail
        refine (HN1.out 2 ((wr.alloc (.cells #[.int .i64 2, .int .i64 n, .string x] 128)).alloc (.cells #[.int .i64 2] 3)) (wr.heap.size + 1) L0 (HW.out.on (by repeat (first | with_reducible exact Below.refl _ _ | with_reducible assumption | with_reducible refine ch_alloc ?_ _ | with_reducible refine Below.drew ?_ | with_reducible refine below_draws _ ?_ | (with_reducible refine Below.setCell ?_ ?_ _; rotate_left; focus (first | with_reducible exact Nat.le_refl _ | (simp; done) | (simp; omega) | (simp at *; omega))) | with_reducible refine ch_trans ?_ (by with_reducible assumption)))) (Own.at (wr.alloc (.cells #[.int .i64 2, .int .i64 n, .string x] 128)) _ _ (by simp)) (by omega) (by omega)).mono ?_
        rintro e w1 ⟨rfl, hw1, ht1⟩
        have HW1 : Hid (WIs w1 bw (L0 ++ numL 2 1)) := hw1
        have HV1 : Own w1 wr.heap.size 128 #[.int .i64 2, .int .i64 n, .string x] := ht1.own ((Own.new _ _ _).on (ch_alloc (Below.refl _ _) _)) (by omega) (by decide)
        have hlw1 : bw < w1.heap.size := hw1.lt
        have HT1 : Hid (Wt bw w w1) := HT.out.trans ((Wt.new (show Below wr.heap.size wr ((wr.alloc (.cells #[.int .i64 2, .int .i64 n, .string x] 128)).alloc (.cells #[.int .i64 2] 3)) from (by repeat (first | with_reducible exact Below.refl _ _ | with_reducible assumption | with_reducible refine ch_alloc ?_ _ | with_reducible refine Below.drew ?_ | with_reducible refine below_draws _ ?_ | (with_reducible refine Below.setCell ?_ ?_ _; rotate_left; focus (first | with_reducible exact Nat.le_refl _ | (simp; done) | (simp; omega) | (simp at *; omega))) | with_reducible refine ch_trans ?_ (by with_reducible assumption)))) (by omega)).trans ht1)
        have hvw1 : wr.heap.size < w1.heap.size := HV1.lt
        obtain ⟨d0, d1, d2⟩ := HV1.loc.three
        clear hw1 ht1
        go_wp2_with fail
        refine (flags_any bw (some ⟨w1.heap.size, 0, none⟩) 1 [decide (n < 0)] (L0 ++ numL 2 1) (w1.alloc (.cells #[.bool (decide (n < 0))] 4)) (HW1.out.on (by repeat (first | with_reducible exact Below.refl _ _ | with_reducible assumption | with_reducible refine ch_alloc ?_ _ | with_reducible refine Below.drew ?_ | with_reducible refine below_draws _ ?_ | (with_reducible refine Below.setCell ?_ ?_ _; rotate_left; focus (first | with_reducible exact Nat.le_refl _ | (simp; done) | (simp; omega) | (simp at *; omega))) | with_reducible refine ch_trans ?_ (by with_reducible assumption)))) (fun u hu => bools_one (hu.own (Own.new _ _ _) (by omega) (by decide))) (by simp [numL_length]; omega) (by simp)).mono ?_
        rintro e w2 ⟨rfl, hw2, ht2⟩
        have HW2 : Hid (WIs w2 bw ((L0 ++ numL 2 1) ++ [flagN (decide (n < 0))])) := hw2
        have HV2 : Own w2 wr.heap.size 128 #[.int .i64 2, .int .i64 n, .string x] := ht2.own (HV1.on (ch_alloc (Below.refl _ _) _)) (by omega) (by decide)
        have hlw2 : bw < w2.heap.size := hw2.lt
        have HT2 : Hid (Wt bw w w2) := HT1.out.trans ((Wt.new (ch_alloc (Below.refl _ _) _) (by omega)).trans ht2)
        clear hw2 ht2 d0 d1 d2
        obtain ⟨d0, d1, d2⟩ := HV2.loc.three
        go_wp2_with fail
        · refine (HN6.out (-n) n.natAbs (by omega) (w2.alloc (.cells #[.int .i64 (-n)] 3)) w2.heap.size _ (HW2.out.on (by repeat (first | with_reducible exact Below.refl _ _ | with_reducible assumption | with_reducible refine ch_alloc ?_ _ | with_reducible refine Below.drew ?_ | with_reducible refine below_draws _ ?_ | (with_reducible refine Below.setCell ?_ ?_ _; rotate_left; focus (first | with_reducible exact Nat.le_refl _ | (simp; done) | (simp; omega) | (simp at *; omega))) | with_reducible refine ch_trans ?_ (by with_reducible assumption)))) (Own.new _ _ _) (by omega) (by simp [numL_length]; omega)).mono ?_
          rintro e w3 ⟨rfl, hw3, ht3⟩
          have HW3 : Hid (WIs w3 bw (L0 ++ valL ⟨2, n, x⟩)) := by
            have e1 : ((L0 ++ numL 2 1) ++ [flagN (decide (n < 0))]) ++ numL n.natAbs 6 = L0 ++ valL ⟨2, n, x⟩ := by simp [valL, numL_one]
            show WIs _ _ _
            rw [← e1]; exact hw3
          have HT3 : Hid (Wt bw w w3) := HT2.out.trans ((Wt.new (ch_alloc (Below.refl _ _) _) (by omega)).trans ht3)
          clear hw3 ht3
          go_wp2
          go_round
          case rel => exact ⟨k + 1, by omega, by go_num, HT3, by
            show WIs _ _ _
            rw [← HFL.out]
            exact HW3.out⟩
          case measure => simp [intOf]; omega
        · refine (HN6.out n n.natAbs (by omega) (w2.alloc (.cells #[.int .i64 n] 3)) w2.heap.size _ (HW2.out.on (by repeat (first | with_reducible exact Below.refl _ _ | with_reducible assumption | with_reducible refine ch_alloc ?_ _ | with_reducible refine Below.drew ?_ | with_reducible refine below_draws _ ?_ | (with_reducible refine Below.setCell ?_ ?_ _; rotate_left; focus (first | with_reducible exact Nat.le_refl _ | (simp; done) | (simp; omega) | (simp at *; omega))) | with_reducible refine ch_trans ?_ (by with_reducible assumption)))) (Own.new _ _ _) (by omega) (by simp [numL_length]; omega)).mono ?_
          rintro e w3 ⟨rfl, hw3, ht3⟩
          have HW3 : Hid (WIs w3 bw (L0 ++ valL ⟨2, n, x⟩)) := by
            have e1 : ((L0 ++ numL 2 1) ++ [flagN (decide (n < 0))]) ++ numL n.natAbs 6 = L0 ++ valL ⟨2, n, x⟩ := by simp [valL, numL_one]
            show WIs _ _ _
            rw [← e1]; exact hw3
          have HT3 : Hid (Wt bw w w3) := HT2.out.trans ((Wt.new (ch_alloc (Below.refl _ _) _) (by omega)).trans ht3)
          clear hw3 ht3
          go_wp2
          go_round
          case rel => exact ⟨k + 1, by omega, by go_num, HT3, by
            show WIs _ _ _
            rw [← HFL.out]
            exact HW3.out⟩
          case measure => simp [intOf]; omega
      · go_wp2_with fail
        refine (HN1.out 3 ((wr.alloc (.cells #[.int .i64 3, .int .i64 n, .string x] 128)).alloc (.cells #[.int .i64 3] 3)) (wr.heap.size + 1) L0 (HW.out.on (by repeat (first | with_reducible exact Below.refl _ _ | with_reducible assumption | with_reducible refine ch_alloc ?_ _ | with_reducible refine Below.drew ?_ | with_reducible refine below_draws _ ?_ | (with_reducible refine Below.setCell ?_ ?_ _; rotate_left; focus (first | with_reducible exact Nat.le_refl _ | (simp; done) | (simp; omega) | (simp at *; omega))) | with_reducible refine ch_trans ?_ (by with_reducible assumption)))) (Own.at (wr.alloc (.cells #[.int .i64 3, .int .i64 n, .string x] 128)) _ _ (by simp)) (by omega) (by omega)).mono ?_
        rintro e w1 ⟨rfl, hw1, ht1⟩
        have HW1 : Hid (WIs w1 bw (L0 ++ numL 3 1)) := hw1
        have HV1 : Own w1 wr.heap.size 128 #[.int .i64 3, .int .i64 n, .string x] := ht1.own ((Own.new _ _ _).on (ch_alloc (Below.refl _ _) _)) (by omega) (by decide)
        have hlw1 : bw < w1.heap.size := hw1.lt
        have HT1 : Hid (Wt bw w w1) := HT.out.trans ((Wt.new (show Below wr.heap.size wr ((wr.alloc (.cells #[.int .i64 3, .int .i64 n, .string x] 128)).alloc (.cells #[.int .i64 3] 3)) from (by repeat (first | with_reducible exact Below.refl _ _ | with_reducible assumption | with_reducible refine ch_alloc ?_ _ | with_reducible refine Below.drew ?_ | with_reducible refine below_draws _ ?_ | (with_reducible refine Below.setCell ?_ ?_ _; rotate_left; focus (first | with_reducible exact Nat.le_refl _ | (simp; done) | (simp; omega) | (simp at *; omega))) | with_reducible refine ch_trans ?_ (by with_reducible assumption)))) (by omega)).trans ht1)
        have hvw1 : wr.heap.size < w1.heap.size := HV1.lt
        obtain ⟨d0, d1, d2⟩ := HV1.loc.three
        clear hw1 ht1
        go_wp2_with fail
        refine (texts_any bw (some ⟨w1.heap.size, 0, none⟩) 1 [x] (L0 ++ numL 3 1) (w1.alloc (.cells #[.string x] 9)) (HW1.out.on (by repeat (first | with_reducible exact Below.refl _ _ | with_reducible assumption | with_reducible refine ch_alloc ?_ _ | with_reducible refine Below.drew ?_ | with_reducible refine below_draws _ ?_ | (with_reducible refine Below.setCell ?_ ?_ _; rotate_left; focus (first | with_reducible exact Nat.le_refl _ | (simp; done) | (simp; omega) | (simp at *; omega))) | with_reducible refine ch_trans ?_ (by with_reducible assumption)))) (fun u hu => strs_one (hu.own (Own.new _ _ _) (by omega) (by decide))) (by simpa using hx30) (by simp [numL_length]; omega) (by simp)).mono ?_
        rintro e w2 ⟨rfl, hw2, ht2⟩
        have HW2 : Hid (WIs w2 bw (L0 ++ valL ⟨3, n, x⟩)) := by
          have e1 : (L0 ++ numL 3 1) ++ [x].flatMap textL = L0 ++ valL ⟨3, n, x⟩ := by simp [valL, numL_one]
          show WIs _ _ _
          rw [← e1]; exact hw2
        have HT2 : Hid (Wt bw w w2) := HT1.out.trans ((Wt.new (ch_alloc (Below.refl _ _) _) (by omega)).trans ht2)
        clear hw2 ht2
        go_wp2
        go_round
        case rel => exact ⟨k + 1, by omega, by go_num, HT2, by
          show WIs _ _ _
          rw [← HFL.out]
          exact HW2.out⟩
        case measure => simp [intOf]; omega
    · have hlti : (vs.length : Int) ≤ k := by omega
      have HW' : Hid (WIs wr bw (L ++ vs.flatMap valL)) := by
        have := HW.out
        rwa [List.take_of_length_le (by omega)] at this
      go_wp2
      go_end0
      exact ⟨rfl, HW'.out, HT.out⟩
end Go.Proofs.YtiijahoheajppaaGreat

namespace Go.Proofs.YtiijahoheajppaaGreat
open Go.ChangeShapes Go.WideShapes Go.ChangeAt Go.RowKit

set_option maxRecDepth 100000 in
set_option maxHeartbeats 1000000 in
/-- impl.writerOf -/
theorem writerOf_any (lv : Value) (ns : List Nat) (w : World) (hl : IntsV w lv (ns.map natI)) (hns : ns.length ≤ 1000) :
    Calls Tryz.prog 69 #[lv] w fun e w' => ∃ bw, e = .returned (.pointer (some ⟨bw, 0, none⟩)) ∧ w.heap.size ≤ bw ∧ Below w.heap.size w w' ∧ WIs w' bw (ns.flatMap (fun n => numL n 1)) := by
  obtain ⟨a, cap, rfl, _, _, hl⟩ := hl.lit
  rw [List.length_map] at hl ⊢
  have HI : Hid (IntsV w (.slice a ns.length cap) (ns.map natI)) := hl
  clear hl
  have HW : Hid (WIs (w.alloc (.cells #[.slice none 0 0] 120)) w.heap.size []) := ⟨_, Own.new _ _ _, Got.nil _ _ _ _⟩
  go_enter Tryz.func69, Tryz.ntmps69
  go_wp2_with fail
  refine (nums_any w.heap.size 1 _ ns [] _ HW.out (fun u hu => HI.out.on ((ch_alloc (Below.refl _ _) _).trans hu.1)) (by omega) (by simp; omega)).mono ?_
  rintro e w1 ⟨rfl, hw1, ht1⟩
  have HW1 : Hid (WIs w1 w.heap.size (ns.flatMap (fun n => numL n 1))) := by
    show WIs _ _ _
    simpa using hw1
  have hb1 : Below w.heap.size w w1 := (ch_alloc (Below.refl _ _) _).trans ht1.1
  clear hw1 ht1
  go_wp2
  go_ret
  exact ⟨_, rfl, Nat.le_refl _, hb1, HW1.out⟩

def okWord (s : ByteArray) : Prop := s.size = 0 ∨ wordB s = true
theorem okWord_size {s : ByteArray} (h : okWord s) : s.size ≤ 8 := by
  rcases h with h | h
  · omega
  · unfold wordB at h
    simp at h
    omega
theorem writer_out {w : World} {bw : Nat} {L : List UInt8} (h : WIs w bw L) : ∃ a n c, w.cell? ⟨bw, 0, none⟩ = some (.slice a n c) ∧ Got w (bw + 1) 5 1 (.slice a n c) (L.map byX) := by
  obtain ⟨v, ho, hg⟩ := h
  obtain ⟨a, n, c, rfl, hg⟩ := hg.lit2
  exact ⟨a, n, c, ho.loc.one, hg⟩
theorem empty_yes {s : ByteArray} (h : s.size = 0) : s.toList.isEmpty = true := by
  rw [ByteArray.toList_eq, List.isEmpty_iff_length_eq_zero]
  simpa using h
theorem size_empty {s : ByteArray} (h : s.toList.isEmpty = true) : s.size = 0 := by
  rw [ByteArray.toList_eq, List.isEmpty_iff_length_eq_zero] at h
  simpa using h
theorem ok_below (c : Vc) (w : World) : Calls Tryz.prog 143 #[.agg c.cells] w fun e w' => e = .returned (.bool (okB c.ty c.n c.s)) ∧ Below w.heap.size w w' :=
  (ok_impl c.ty c.n c.s w).mono fun e w' ⟨he, k, hw⟩ => ⟨he, by subst hw; exact (by repeat (first | with_reducible exact Below.refl _ _ | with_reducible assumption | with_reducible refine ch_alloc ?_ _ | with_reducible refine Below.drew ?_ | with_reducible refine below_draws _ ?_ | (with_reducible refine Below.setCell ?_ ?_ _; rotate_left; focus (first | with_reducible exact Nat.le_refl _ | (simp; done) | (simp; omega) | (simp at *; omega))) | with_reducible refine ch_trans ?_ (by with_reducible assumption)))⟩
theorem writerOf_none (u : World) : Calls Tryz.prog 69 #[.slice none 0 0] u fun e w' => ∃ bw, e = .returned (.pointer (some ⟨bw, 0, none⟩)) ∧ u.heap.size ≤ bw ∧ Below u.heap.size u w' ∧ WIs w' bw [] := by
  have := writerOf_any (.slice none 0 0) [] u ⟨_, _, rfl, Nat.le_refl _, Nat.zero_le _, RowAt.nil _ _ _⟩ (by simp)
  simpa using this

end Go.Proofs.YtiijahoheajppaaGreat

namespace Go.Proofs.YtiijahoheajppaaGreat
open Go.ChangeShapes Go.WideShapes Go.ChangeAt Go.RowKit

theorem bytes_below (w : World) (e : TypeId) (s : ByteArray) : Below w.heap.size w (Lib.bytesWorld w e s) :=
  ⟨rfl, rfl, rfl, by rw [Lib.bytesWorld_size]; omega, fun k hk => Lib.bytesWorld_at_old w e s k hk⟩
theorem ch_bytes {a b : World} (h : Below a.heap.size a b) (e : TypeId) (s : ByteArray) : Below a.heap.size a (Lib.bytesWorld b e s) := ch_trans h (bytes_below b e s)
theorem bytes_row (w : World) (e : TypeId) (s : ByteArray) : RowAt (Lib.bytesWorld w e s) (some ⟨w.heap.size, 0, none⟩) 1 (s.data.toList.map byX) := by
  refine ⟨fun q hq => ?_, Or.inr ⟨w.heap.size, 0, rfl, fun i hi j hj => ?_⟩⟩
  · obtain ⟨u, _, rfl⟩ := List.mem_map.1 hq; rfl
  · obtain rfl : j = 0 := by omega
    have hi' : i < s.size := by simpa using hi
    rw [Nat.mul_one, Nat.zero_add, Nat.add_zero, Lib.bytesWorld_cell w e s i hi']
    have e1 : ((s.data.toList.map byX)[i]) = byX (s.data.toList[i]'(by simpa using hi)) := by simp
    rw [e1, List.getD_eq_getElem?_getD, List.getElem?_eq_getElem (by simpa using hi)]
    rfl
theorem conv_bytes (w : World) (s : ByteArray) : (convert 9 26 (.string s)).run Tryz.prog w = .ok (.slice (some ⟨w.heap.size, 0, none⟩) s.size (grownCap w s.size 0 5)) (Lib.bytesWorld w 5 s) :=
  Lib.run_convert_string_bytes w 9 26 5 s Tryz.underlying9 Tryz.underlying26 Tryz.underlying5
theorem RowAt.turned {w w' : World} {b off z : Nat} {xs : List (Array Value)} (h : RowAt w (some ⟨b, off, none⟩) z xs) {S : Nat → Prop} (k : Turns S w w') (hb : b < w.heap.size) (hS : ¬ S b) : RowAt w' (some ⟨b, off, none⟩) z xs := by
  refine ⟨h.1, ?_⟩
  rcases h.2 with h0 | ⟨b', off', e, h1⟩
  · exact Or.inl h0
  · cases e
    exact Or.inr ⟨b, off, rfl, fun i hi j hj => (World.cell?_of_block (w := w) (a := ⟨b, off + i * z + j, none⟩) (k.block b hb hS)).trans (h1 i hi j hj)⟩
section
variable {P : Program} {w : World} {ops : Array Oper} {o : Oper} {a : Act} {Q : Exit → Act → World → Prop} {t T : TypeId} {z bytes : Nat} {zv : Value}
theorem app_steps {K : Act → World → Prop} {E : Prop} (hgd : o.guard = none) (s y : Operand) (ho : o.op = .call { callee := .builtin .append, args := #[s, y], argTypes := #[t, t] })
    (ht : P.underlying t = some (.slice T)) (hinfo : (P.info? T).map (fun i => (i.zero, i.size, i.bytes)) = some (some zv, z, bytes)) (hzs : zv.cells.size = z) (hsz : 0 < z) (hby : bytes ≤ 1000)
    (B : Nat) (v : Value) (xs : List (Array Value)) (hs : a.eval s = v) (hown : Got w B T z v xs) (b off c : Nat) (ys : List (Array Value)) (n : Nat) (hn : n = ys.length) (hy : a.eval y = .slice (some ⟨b, off, none⟩) n c) (hrow : RowAt w (some ⟨b, off, none⟩) z ys) (h1 : ∀ x ∈ ys, ∀ u ∈ x.toList, u.oneCell' = true) (hlen : xs.length + ys.length < 1000000000) (hB : B ≤ w.heap.size)
    (h : ∀ v' w', Got w' B T z v' (xs ++ ys) → Below B w w' → K (a.put o.dst v') w') : if Region.wanted o (yielded ops a.tmps) = true then Oper.wp P o a w K Q else E := by
  have hw : Region.wanted o (yielded ops a.tmps) = true := by simp [Region.wanted, hgd]
  rw [if_pos hw]
  subst hn
  obtain ⟨v', w', hr, h2, h3, _⟩ := app_all ht hinfo hzs hsz hby hown hrow h1 hlen hB (c := c) o.type
  unfold Oper.wp execOp
  simp only [ho, resolve, invoke, builtin, Sem.run_bind, Sem.run_pure, Result.andThen_ok, List.map_toArray, List.map_cons, List.map_nil, hs, hy, hr]
  exact h v' w' h2 h3
theorem app_stepsT {K : Act → World → Prop} {E : Prop} (hgd : o.guard = none) (s y : Operand) (ho : o.op = .call { callee := .builtin .append, args := #[s, y], argTypes := #[t, t] })
    (ht : P.underlying t = some (.slice T)) (hinfo : (P.info? T).map (fun i => (i.zero, i.size, i.bytes)) = some (some zv, z, bytes)) (hzs : zv.cells.size = z) (hsz : 0 < z) (hby : bytes ≤ 1000)
    (B : Nat) (v : Value) (xs : List (Array Value)) (hs : a.eval s = v) (hown : Got w B T z v xs) (b off c : Nat) (ys : List (Array Value)) (n : Nat) (hn : n = ys.length) (hy : a.eval y = .slice (some ⟨b, off, none⟩) n c) (hrow : RowAt w (some ⟨b, off, none⟩) z ys) (h1 : ∀ x ∈ ys, ∀ u ∈ x.toList, u.oneCell' = true) (hlen : xs.length + ys.length < 1000000000) (hB : B ≤ w.heap.size)
    (h : ∀ v' w', Got w' B T z v' (xs ++ ys) → Below B w w' → Turns (fun c => v.ownBlock = some c) w w' → K (a.put o.dst v') w') : if Region.wanted o (yielded ops a.tmps) = true then Oper.wp P o a w K Q else E := by
  have hw : Region.wanted o (yielded ops a.tmps) = true := by simp [Region.wanted, hgd]
  rw [if_pos hw]
  subst hn
  obtain ⟨v', w', hr, h2, h3, h4⟩ := app_all ht hinfo hzs hsz hby hown hrow h1 hlen hB (c := c) o.type
  unfold Oper.wp execOp
  simp only [ho, resolve, invoke, builtin, Sem.run_bind, Sem.run_pure, Result.andThen_ok, List.map_toArray, List.map_cons, List.map_nil, hs, hy, hr]
  exact h v' w' h2 h3 h4
end
/-- One byte in a block of the call's own. -/
theorem got_one (w : World) (x : UInt8) : Got (w.alloc (.cells (byX x) 5)) w.heap.size 5 1 (.slice (some ⟨w.heap.size, 0, none⟩) 1 1) ([x].map byX) :=
  ⟨fun q hq => by simp at hq; subst hq; rfl, by simp, Or.inr ⟨w.heap.size, 1, byX x, rfl, Nat.le_refl _, Own.new _ _ _, Nat.le_refl _, by unfold maxLen; omega, rfl, rfl⟩⟩
set_option maxRecDepth 100000 in
set_option maxHeartbeats 1000000 in
/-- spec.WordBytes -/
theorem wordBytes_spec (s : ByteArray) (w : World) (hs : s.size ≤ maxLen) (q : Bool) (L : List UInt8) (hq : (q = true ∧ okWord s ∧ L = textL s) ∨ (q = false ∧ ¬ okWord s ∧ L = [])) :
    Calls Tryz.prog 102 #[.string s] w fun e w' => ∃ v', e = .returned (.tuple #[v', .bool q]) ∧ Below w.heap.size w w' ∧ Got w' w.heap.size 5 1 v' (L.map byX) := by
  have HS : Hid (∀ u : World, Calls Tryz.prog 98 #[.string s] u fun e w' => e = .returned (.bool (wordB s)) ∧ w' = u) := fun u => word_spec s u hs
  by_cases hok : okWord s
  · obtain ⟨rfl, rfl⟩ : q = true ∧ L = textL s := by
      rcases hq with ⟨h, _, h'⟩ | ⟨_, h, _⟩
      · exact ⟨h, h'⟩
      · exact absurd hok h
    clear hq
    have hs8 := okWord_size hok
    have hcase : s.toList.isEmpty = true ∨ (s.toList.isEmpty = false ∧ wordB s = true) := by
      rcases hok with h | h
      · exact Or.inl (empty_yes h)
      · cases h0 : s.toList.isEmpty
        · exact Or.inr ⟨rfl, h⟩
        · exact Or.inl rfl
    clear hok
    have hcv := conv_bytes (w.alloc (.cells #[.int .u8 (s.size : Int)] 5)) s
    have HX : Hid (byX (UInt8.ofNat s.size) = #[.int .u8 (s.size : Int)]) := by
      show #[Value.int .u8 _] = _
      rw [UInt8.toNat_ofNat', Nat.mod_eq_of_lt (by omega)]
    have hszw : (w.alloc (.cells #[.int .u8 (s.size : Int)] 5)).heap.size = w.heap.size + 1 := by simp
    have HGo : Hid (Got (Lib.bytesWorld (w.alloc (.cells #[.int .u8 (s.size : Int)] 5)) 5 s) w.heap.size 5 1 (.slice (some ⟨w.heap.size, 0, none⟩) 1 1) ([UInt8.ofNat s.size].map byX)) := by
      have h := got_one w (UInt8.ofNat s.size)
      rw [HX.out] at h
      exact h.on (bytes_below _ _ _)
    have HRo : Hid (RowAt (Lib.bytesWorld (w.alloc (.cells #[.int .u8 (s.size : Int)] 5)) 5 s) (some ⟨w.heap.size + 1, 0, none⟩) 1 (s.data.toList.map byX)) := by
      have h := bytes_row (w.alloc (.cells #[.int .u8 (s.size : Int)] 5)) 5 s
      rw [hszw] at h
      exact h
    have HBo : Hid (Below w.heap.size w (Lib.bytesWorld (w.alloc (.cells #[.int .u8 (s.size : Int)] 5)) 5 s)) := ch_trans (ch_alloc (Below.refl _ _) _) (bytes_below _ _ _)
    clear hszw
    rcases hcase with he | ⟨he, hwd⟩
    · go_enter Tryz.func102, Tryz.ntmps102
      go_wp2_with (at_builtin; refine app_lot rfl (.tmp 14) (.tmp 16) rfl Tryz.underlying26 infoByte rfl (by decide) (by decide) w.heap.size _ ([UInt8.ofNat s.size].map byX) rfl HGo.out (w.heap.size + 1) 0 _ (s.data.toList.map byX) s.size (by simp) rfl HRo.out (byte_one _) (by simp; omega) HBo.out.size ?_; intro v2 w2 hg2 hb2)
      go_ret2
      exact ⟨_, rfl, HBo.out.trans hb2, by rw [← List.map_append] at hg2; exact hg2⟩
    · have HSt : Hid (∀ u : World, Calls Tryz.prog 98 #[.string s] u fun e w' => e = .returned (.bool true) ∧ w' = u) := fun u => by
        have := HS.out u
        rwa [hwd] at this
      go_enter Tryz.func102, Tryz.ntmps102
      go_wp2_with fail
      refine (HSt.out _).mono ?_
      rintro e w0 ⟨rfl, rfl⟩
      go_wp2_with (at_builtin; refine app_lot rfl (.tmp 14) (.tmp 16) rfl Tryz.underlying26 infoByte rfl (by decide) (by decide) w0.heap.size _ ([UInt8.ofNat s.size].map byX) rfl HGo.out (w0.heap.size + 1) 0 _ (s.data.toList.map byX) s.size (by simp) rfl HRo.out (byte_one _) (by simp; omega) HBo.out.size ?_; intro v2 w2 hg2 hb2)
      go_ret2
      exact ⟨_, rfl, HBo.out.trans hb2, by rw [← List.map_append] at hg2; exact hg2⟩
  · obtain ⟨rfl, rfl⟩ : q = false ∧ L = [] := by
      rcases hq with ⟨_, h, _⟩ | ⟨h, _, h'⟩
      · exact absurd h hok
      · exact ⟨h, h'⟩
    clear hq
    have he : s.toList.isEmpty = false := by
      cases h0 : s.toList.isEmpty
      · rfl
      · exact absurd (Or.inl (size_empty h0)) hok
    have HSt : Hid (∀ u : World, Calls Tryz.prog 98 #[.string s] u fun e w' => e = .returned (.bool false) ∧ w' = u) := fun u => by
      have := HS.out u
      have hwd : wordB s = false := by
        cases h0 : wordB s
        · rfl
        · exact absurd (Or.inr h0) hok
      rwa [hwd] at this
    clear hok
    go_enter Tryz.func102, Tryz.ntmps102
    go_wp2_with fail
    refine (HSt.out _).mono ?_
    rintro e w0 ⟨rfl, rfl⟩
    go_wp2
    go_ret2
    exact ⟨_, rfl, (by repeat (first | with_reducible exact Below.refl _ _ | with_reducible assumption | with_reducible refine ch_alloc ?_ _ | with_reducible refine Below.drew ?_ | with_reducible refine below_draws _ ?_ | (with_reducible refine Below.setCell ?_ ?_ _; rotate_left; focus (first | with_reducible exact Nat.le_refl _ | (simp; done) | (simp; omega) | (simp at *; omega))) | with_reducible refine ch_trans ?_ (by with_reducible assumption))), Got.nil _ _ _ _⟩

theorem oks_below (c : Vc) (w : World) : Calls Tryz.prog 127 #[.agg c.cells] w fun e w' => e = .returned (.bool (okB c.ty c.n c.s)) ∧ Below w.heap.size w w' :=
  (ok_spec c.ty c.n c.s w).mono fun e w' ⟨he, hw⟩ => ⟨he, by subst hw; exact (by repeat (first | with_reducible exact Below.refl _ _ | with_reducible assumption | with_reducible refine ch_alloc ?_ _ | with_reducible refine Below.drew ?_ | with_reducible refine below_draws _ ?_ | (with_reducible refine Below.setCell ?_ ?_ _; rotate_left; focus (first | with_reducible exact Nat.le_refl _ | (simp; done) | (simp; omega) | (simp at *; omega))) | with_reducible refine ch_trans ?_ (by with_reducible assumption)))⟩
theorem got_oneI (w : World) (x : UInt8) (n : Int) (h : (x.toNat : Int) = n) : Got (w.alloc (.cells #[.int .u8 n] 5)) w.heap.size 5 1 (.slice (some ⟨w.heap.size, 0, none⟩) 1 1) ([x].map byX) := by
  subst h; exact got_one w x
set_option maxRecDepth 100000 in
set_option maxHeartbeats 1000000 in
/-- spec.ValBytes -/
theorem valBytes_spec (ty n : Int) (x : ByteArray) (w : World) (q : Bool) (L : List UInt8) (hq : (q = true ∧ okB ty n x = true ∧ L = valL ⟨ty, n, x⟩) ∨ (q = false ∧ okB ty n x = false ∧ L = [])) :
    Calls Tryz.prog 103 #[.agg #[.int .i64 ty, .int .i64 n, .string x]] w fun e w' => ∃ v', e = .returned (.tuple #[v', .bool q]) ∧ Below w.heap.size w w' ∧ Got w' w.heap.size 5 1 v' (L.map byX) := by
  have HS : Hid (∀ u : World, Calls Tryz.prog 127 #[.agg #[.int .i64 ty, .int .i64 n, .string x]] u fun e w' => e = .returned (.bool (okB ty n x)) ∧ Below u.heap.size u w') := fun u => oks_below ⟨ty, n, x⟩ u
  have HL := Loc.new w #[.int .i64 ty, .int .i64 n, .string x] 128
  rcases hq with ⟨rfl, hok, rfl⟩ | ⟨rfl, hok, rfl⟩
  · rw [hok] at HS
    have hty := okB_ty (c := ⟨ty, n, x⟩) hok
    simp only at hty
    clear hok
    rcases hty with rfl | ⟨rfl, hn0, hn1⟩ | ⟨rfl, hn0, hn1⟩ | ⟨rfl, hx30⟩
    · go_enter Tryz.func103, Tryz.ntmps103
      go_wp2_with fail
      refine (HS.out _).mono ?_
      rintro e w0 ⟨rfl, b0⟩
      have HL0 := HL.on b0
      obtain ⟨d0, d1, d2⟩ := HL0.three
      have hlt0 : w.heap.size < w0.heap.size := cell_lt d0
      have hb0 : Below w.heap.size w w0 := (by repeat (first | with_reducible exact Below.refl _ _ | with_reducible assumption | with_reducible refine ch_alloc ?_ _ | with_reducible refine Below.drew ?_ | with_reducible refine below_draws _ ?_ | (with_reducible refine Below.setCell ?_ ?_ _; rotate_left; focus (first | with_reducible exact Nat.le_refl _ | (simp; done) | (simp; omega) | (simp at *; omega))) | with_reducible refine ch_trans ?_ (by with_reducible assumption)))
      have HG : Hid (Got (w0.alloc (.cells #[.int .u8 0] 5)) w.heap.size 5 1 (.slice (some ⟨w0.heap.size, 0, none⟩) 1 1) ((valL ⟨0, n, x⟩).map byX)) := (got_oneI w0 0 0 rfl).mono hb0.size
      go_wp2
      go_ret2
      exact ⟨_, rfl, (by repeat (first | with_reducible exact Below.refl _ _ | with_reducible assumption | with_reducible refine ch_alloc ?_ _ | with_reducible refine Below.drew ?_ | with_reducible refine below_draws _ ?_ | (with_reducible refine Below.setCell ?_ ?_ _; rotate_left; focus (first | with_reducible exact Nat.le_refl _ | (simp; done) | (simp; omega) | (simp at *; omega))) | with_reducible refine ch_trans ?_ (by with_reducible assumption))), HG.out⟩
    · obtain ⟨N, rfl⟩ : ∃ N : Nat, n = (N : Int) := ⟨n.toNat, by omega⟩
      go_enter Tryz.func103, Tryz.ntmps103
      go_wp2_with fail
      refine (HS.out _).mono ?_
      rintro e w0 ⟨rfl, b0⟩
      have HL0 := HL.on b0
      obtain ⟨d0, d1, d2⟩ := HL0.three
      have hlt0 : w.heap.size < w0.heap.size := cell_lt d0
      have hb0 : Below w.heap.size w w0 := (by repeat (first | with_reducible exact Below.refl _ _ | with_reducible assumption | with_reducible refine ch_alloc ?_ _ | with_reducible refine Below.drew ?_ | with_reducible refine below_draws _ ?_ | (with_reducible refine Below.setCell ?_ ?_ _; rotate_left; focus (first | with_reducible exact Nat.le_refl _ | (simp; done) | (simp; omega) | (simp at *; omega))) | with_reducible refine ch_trans ?_ (by with_reducible assumption)))
      have HG : Hid (Got (w0.alloc (.cells #[.int .u8 1] 5)) w.heap.size 5 1 (.slice (some ⟨w0.heap.size, 0, none⟩) 1 1) ([1].map byX)) := (got_oneI w0 1 1 rfl).mono hb0.size
      have HX : Hid (byX (UInt8.ofNat N) = #[.int .u8 (N : Int)]) := by
        show #[Value.int .u8 _] = _
        rw [UInt8.toNat_ofNat', Nat.mod_eq_of_lt (by omega)]
      go_wp2_with (at_builtin; refine app_one rfl (.tmp 18) (.tmp 22) rfl Tryz.underlying26 infoByte rfl (by decide) (by decide) w.heap.size _ ([1].map byX) rfl (HG.out.on (ch_alloc (Below.refl _ _) _)) (w0.heap.size + 1) 1 #[.int .u8 (N : Int)] rfl (Own.at (w0.alloc (.cells #[.int .u8 1] 5)) _ _ (by simp)).loc rfl (fun u hu => by simp at hu; subst hu; rfl) (by simp) (by simp; omega) ?_; intro v2 w2 hg2 hb2)
      go_ret2
      exact ⟨_, rfl, (show Below w.heap.size w ((w0.alloc (.cells #[.int .u8 1] 5)).alloc (.cells #[.int .u8 (N : Int)] 5)) from (by repeat (first | with_reducible exact Below.refl _ _ | with_reducible assumption | with_reducible refine ch_alloc ?_ _ | with_reducible refine Below.drew ?_ | with_reducible refine below_draws _ ?_ | (with_reducible refine Below.setCell ?_ ?_ _; rotate_left; focus (first | with_reducible exact Nat.le_refl _ | (simp; done) | (simp; omega) | (simp at *; omega))) | with_reducible refine ch_trans ?_ (by with_reducible assumption)))).trans hb2, by
        rw [← HX.out] at hg2
        have e1 : (valL ⟨1, N, x⟩) = [1] ++ [UInt8.ofNat N] := by simp [valL]
        rw [e1, List.map_append]; exact hg2⟩
    · go_enter Tryz.func103, Tryz.ntmps103
      go_wp2_with fail
      refine (HS.out _).mono ?_
      rintro e w0 ⟨rfl, b0⟩
      have HL0 := HL.on b0
      obtain ⟨d0, d1, d2⟩ := HL0.three
      have hlt0 : w.heap.size < w0.heap.size := cell_lt d0
      have hb0 : Below w.heap.size w w0 := (by repeat (first | with_reducible exact Below.refl _ _ | with_reducible assumption | with_reducible refine ch_alloc ?_ _ | with_reducible refine Below.drew ?_ | with_reducible refine below_draws _ ?_ | (with_reducible refine Below.setCell ?_ ?_ _; rotate_left; focus (first | with_reducible exact Nat.le_refl _ | (simp; done) | (simp; omega) | (simp at *; omega))) | with_reducible refine ch_trans ?_ (by with_reducible assumption)))
      have HG : Hid (Got (w0.alloc (.cells #[.int .u8 2] 5)) w.heap.size 5 1 (.slice (some ⟨w0.heap.size, 0, none⟩) 1 1) ([2].map byX)) := (got_oneI w0 2 2 rfl).mono hb0.size
      by_cases hneg : n < 0
      · have HPN : Hid (∀ (u : World) (b off p : Nat), RowAt u (some ⟨b, off, none⟩) 1 (([2, 1] : List UInt8).map byX) → Calls Tryz.prog 30 #[.slice (some ⟨b, off, none⟩) 2 p, .int .i64 (-n), .int .i64 6] u fun e w' => ∃ v', e = .returned (.tuple #[v', .bool true]) ∧ Below u.heap.size u w' ∧ Got w' u.heap.size 5 1 v' ((valL ⟨2, n, x⟩).map byX)) := fun u b off p hu => putNum_spec b off p [2, 1] (-n) 6 u hu (by simp) true _ (Or.inl ⟨rfl, ⟨by omega, by omega, by omega, by
            have e6 : ((256 ^ (6 : Int).toNat : Nat) : Int) = 281474976710656 := by decide
            rw [e6]; omega⟩, by
            have e1 : (-n).toNat = n.natAbs := by omega
            rw [e1]
            simp [valL, flagN, hneg]⟩)
        go_wp2_with (at_builtin; refine app_one rfl (.tmp 32) (.tmp 34) rfl Tryz.underlying26 infoByte rfl (by decide) (by decide) w.heap.size _ ([2].map byX) rfl (HG.out.on (ch_alloc (Below.refl _ _) _)) (w0.heap.size + 1) 1 #[.int .u8 1] rfl (Own.at (w0.alloc (.cells #[.int .u8 2] 5)) _ _ (by simp)).loc rfl (fun u hu => by simp at hu; subst hu; rfl) (by simp) (by simp; omega) ?_; intro v2 w2 hg2 hb2; have HG2 : Hid (Got w2 w.heap.size 5 1 v2 (([2, 1] : List UInt8).map byX)) := hg2; obtain ⟨a2, c2, rfl, _, _, hr2, _⟩ := HG2.out.row; obtain ⟨b2, off2, rfl, _⟩ := hr2.bytes 0 (by simp); have HR2 : Hid (RowAt w2 (some ⟨b2, off2, none⟩) 1 (([2, 1] : List UInt8).map byX)) := hr2; have HB2 : Hid (Below w.heap.size w w2) := (show Below w.heap.size w ((w0.alloc (.cells #[.int .u8 2] 5)).alloc (.cells #[.int .u8 1] 5)) from (by repeat (first | with_reducible exact Below.refl _ _ | with_reducible assumption | with_reducible refine ch_alloc ?_ _ | with_reducible refine Below.drew ?_ | with_reducible refine below_draws _ ?_ | (with_reducible refine Below.setCell ?_ ?_ _; rotate_left; focus (first | with_reducible exact Nat.le_refl _ | (simp; done) | (simp; omega) | (simp at *; omega))) | with_reducible refine ch_trans ?_ (by with_reducible assumption)))).trans hb2; clear hg2 hb2 hr2)
        refine (HPN.out _ _ _ _ HR2.out).mono ?_
        rintro e w3 ⟨v3, rfl, b3, hg3⟩
        have HG3 : Hid (Got w3 w.heap.size 5 1 v3 ((valL ⟨2, n, x⟩).map byX)) := hg3.mono HB2.out.size
        have HB3 : Hid (Below w.heap.size w w3) := ch_trans HB2.out b3
        clear hg3 b3
        go_wp2
        go_ret2
        exact ⟨_, rfl, HB3.out, HG3.out⟩
      · have HPN : Hid (∀ (u : World) (b off p : Nat), RowAt u (some ⟨b, off, none⟩) 1 (([2, 0] : List UInt8).map byX) → Calls Tryz.prog 30 #[.slice (some ⟨b, off, none⟩) 2 p, .int .i64 n, .int .i64 6] u fun e w' => ∃ v', e = .returned (.tuple #[v', .bool true]) ∧ Below u.heap.size u w' ∧ Got w' u.heap.size 5 1 v' ((valL ⟨2, n, x⟩).map byX)) := fun u b off p hu => putNum_spec b off p [2, 0] n 6 u hu (by simp) true _ (Or.inl ⟨rfl, ⟨by omega, by omega, by omega, by
            have e6 : ((256 ^ (6 : Int).toNat : Nat) : Int) = 281474976710656 := by decide
            rw [e6]; omega⟩, by
            have e1 : n.toNat = n.natAbs := by omega
            rw [e1]
            simp [valL, flagN, hneg]⟩)
        go_wp2_with (at_builtin; refine app_one rfl (.tmp 32) (.tmp 34) rfl Tryz.underlying26 infoByte rfl (by decide) (by decide) w.heap.size _ ([2].map byX) rfl (HG.out.on (ch_alloc (Below.refl _ _) _)) (w0.heap.size + 1) 1 #[.int .u8 0] rfl (Own.at (w0.alloc (.cells #[.int .u8 2] 5)) _ _ (by simp)).loc rfl (fun u hu => by simp at hu; subst hu; rfl) (by simp) (by simp; omega) ?_; intro v2 w2 hg2 hb2; have HG2 : Hid (Got w2 w.heap.size 5 1 v2 (([2, 0] : List UInt8).map byX)) := hg2; obtain ⟨a2, c2, rfl, _, _, hr2, _⟩ := HG2.out.row; obtain ⟨b2, off2, rfl, _⟩ := hr2.bytes 0 (by simp); have HR2 : Hid (RowAt w2 (some ⟨b2, off2, none⟩) 1 (([2, 0] : List UInt8).map byX)) := hr2; have HB2 : Hid (Below w.heap.size w w2) := (show Below w.heap.size w ((w0.alloc (.cells #[.int .u8 2] 5)).alloc (.cells #[.int .u8 0] 5)) from (by repeat (first | with_reducible exact Below.refl _ _ | with_reducible assumption | with_reducible refine ch_alloc ?_ _ | with_reducible refine Below.drew ?_ | with_reducible refine below_draws _ ?_ | (with_reducible refine Below.setCell ?_ ?_ _; rotate_left; focus (first | with_reducible exact Nat.le_refl _ | (simp; done) | (simp; omega) | (simp at *; omega))) | with_reducible refine ch_trans ?_ (by with_reducible assumption)))).trans hb2; clear hg2 hb2 hr2)
        refine (HPN.out _ _ _ _ HR2.out).mono ?_
        rintro e w3 ⟨v3, rfl, b3, hg3⟩
        have HG3 : Hid (Got w3 w.heap.size 5 1 v3 ((valL ⟨2, n, x⟩).map byX)) := hg3.mono HB2.out.size
        have HB3 : Hid (Below w.heap.size w w3) := ch_trans HB2.out b3
        clear hg3 b3
        go_wp2
        go_ret2
        exact ⟨_, rfl, HB3.out, HG3.out⟩
    · go_enter Tryz.func103, Tryz.ntmps103
      go_wp2_with fail
      refine (HS.out _).mono ?_
      rintro e w0 ⟨rfl, b0⟩
      have HL0 := HL.on b0
      obtain ⟨d0, d1, d2⟩ := HL0.three
      have hlt0 : w.heap.size < w0.heap.size := cell_lt d0
      have hb0 : Below w.heap.size w w0 := (by repeat (first | with_reducible exact Below.refl _ _ | with_reducible assumption | with_reducible refine ch_alloc ?_ _ | with_reducible refine Below.drew ?_ | with_reducible refine below_draws _ ?_ | (with_reducible refine Below.setCell ?_ ?_ _; rotate_left; focus (first | with_reducible exact Nat.le_refl _ | (simp; done) | (simp; omega) | (simp at *; omega))) | with_reducible refine ch_trans ?_ (by with_reducible assumption)))
      have HG : Hid (Got (w0.alloc (.cells #[.int .u8 3] 5)) w.heap.size 5 1 (.slice (some ⟨w0.heap.size, 0, none⟩) 1 1) ([3].map byX)) := (got_oneI w0 3 3 rfl).mono hb0.size
      have HX : Hid (byX (UInt8.ofNat x.size) = #[.int .u8 (x.size : Int)]) := by
        show #[Value.int .u8 _] = _
        rw [UInt8.toNat_ofNat', Nat.mod_eq_of_lt (by omega)]
      have hwr : IntKind.u8.wrap (x.size : Int) = (x.size : Int) := by
        have := wrapY x.size
        rw [Nat.mod_eq_of_lt (by omega)] at this
        exact this
      have HG0 : Hid (Got (w0.alloc (.cells #[.int .u8 3] 5)) w0.heap.size 5 1 (.slice (some ⟨w0.heap.size, 0, none⟩) 1 1) ([3].map byX)) := got_oneI w0 3 3 rfl
      go_wp2_with fail
      have hcv := fun u : World => conv_bytes u x
      have e3 := ((show Below w0.heap.size w0 (Lib.bytesWorld ((w0.alloc (.cells #[.int .u8 3] 5)).drew) 5 x) from (by repeat (first | with_reducible exact Below.refl _ _ | with_reducible assumption | with_reducible refine ch_bytes ?_ _ _ | with_reducible refine ch_alloc ?_ _ | with_reducible refine Below.drew ?_ | with_reducible refine below_draws _ ?_ | with_reducible refine ch_trans ?_ (by with_reducible assumption)))).cell (p := ⟨w.heap.size, 2, none⟩) hlt0).trans d2
      go_region_law (first
        | (refine app_step rfl (.tmp 42) (.tmp 47) rfl Tryz.underlying26 infoByte rfl (by decide) (by decide) w0.heap.size _ ([3].map byX) rfl (HG0.out.on (by repeat (first | with_reducible exact Below.refl _ _ | with_reducible assumption | with_reducible refine ch_bytes ?_ _ _ | with_reducible refine ch_alloc ?_ _ | with_reducible refine Below.drew ?_ | with_reducible refine below_draws _ ?_ | with_reducible refine ch_trans ?_ (by with_reducible assumption)))) (w0.heap.size + 1) 1 #[.int .u8 (x.size : Int)] rfl ((Own.at (w0.alloc (.cells #[.int .u8 3] 5)) _ _ (by simp)).on (by repeat (first | with_reducible exact Below.refl _ _ | with_reducible assumption | with_reducible refine ch_bytes ?_ _ _ | with_reducible refine ch_alloc ?_ _ | with_reducible refine Below.drew ?_ | with_reducible refine below_draws _ ?_ | with_reducible refine ch_trans ?_ (by with_reducible assumption)))).loc rfl (fun u hu => by simp at hu; subst hu; rfl) (by simp) (by simp; omega) ?_; intro v2 w2 hg2 hb2; have e2 := (hb2.cell (p := ⟨w.heap.size, 2, none⟩) hlt0).trans ((show Below w0.heap.size w0 (((w0.alloc (.cells #[.int .u8 3] 5)).alloc (.cells #[.int .u8 (x.size : Int)] 5)).drew) from (by repeat (first | with_reducible exact Below.refl _ _ | with_reducible assumption | with_reducible refine ch_bytes ?_ _ _ | with_reducible refine ch_alloc ?_ _ | with_reducible refine Below.drew ?_ | with_reducible refine below_draws _ ?_ | with_reducible refine ch_trans ?_ (by with_reducible assumption)))).cell (p := ⟨w.heap.size, 2, none⟩) hlt0 |>.trans d2); have HG2 : Hid (Got w2 w0.heap.size 5 1 v2 ([3].map byX ++ [#[.int .u8 (x.size : Int)]])) := hg2; have hw02 : w0.heap.size ≤ w2.heap.size := (by have h1 := hb2.size; simp at h1; omega); have HB2 : Hid (Below w0.heap.size w0 w2) := (show Below w0.heap.size w0 (((w0.alloc (.cells #[.int .u8 3] 5)).alloc (.cells #[.int .u8 (x.size : Int)] 5)).drew) from (by repeat (first | with_reducible exact Below.refl _ _ | with_reducible assumption | with_reducible refine ch_bytes ?_ _ _ | with_reducible refine ch_alloc ?_ _ | with_reducible refine Below.drew ?_ | with_reducible refine below_draws _ ?_ | with_reducible refine ch_trans ?_ (by with_reducible assumption)))).trans hb2)
        | (refine app_stepsT rfl (.tmp 42) (.tmp 47) rfl Tryz.underlying26 infoByte rfl (by decide) (by decide) w0.heap.size _ ([3].map byX) rfl (HG0.out.on (show Below _ _ (Lib.bytesWorld (((w0.alloc (.cells #[.int .u8 3] 5)).alloc (.cells #[.int .u8 (x.size : Int)] 5)).drew) 5 x) from (by repeat (first | with_reducible exact Below.refl _ _ | with_reducible assumption | with_reducible refine ch_bytes ?_ _ _ | with_reducible refine ch_alloc ?_ _ | with_reducible refine Below.drew ?_ | with_reducible refine below_draws _ ?_ | with_reducible refine ch_trans ?_ (by with_reducible assumption))))) (w0.heap.size + 1) 0 1 [#[.int .u8 (x.size : Int)]] 1 rfl rfl (((Own.at (w0.alloc (.cells #[.int .u8 3] 5)) _ _ (by simp)).on (show Below _ _ (Lib.bytesWorld (((w0.alloc (.cells #[.int .u8 3] 5)).alloc (.cells #[.int .u8 (x.size : Int)] 5)).drew) 5 x) from (by repeat (first | with_reducible exact Below.refl _ _ | with_reducible assumption | with_reducible refine ch_bytes ?_ _ _ | with_reducible refine ch_alloc ?_ _ | with_reducible refine Below.drew ?_ | with_reducible refine below_draws _ ?_ | with_reducible refine ch_trans ?_ (by with_reducible assumption))))).loc.row1 rfl) (fun q hq u hu => by simp at hq; subst hq; simp at hu; subst hu; rfl) (by simp) (show Below w0.heap.size w0 (Lib.bytesWorld (((w0.alloc (.cells #[.int .u8 3] 5)).alloc (.cells #[.int .u8 (x.size : Int)] 5)).drew) 5 x) from (by repeat (first | with_reducible exact Below.refl _ _ | with_reducible assumption | with_reducible refine ch_bytes ?_ _ _ | with_reducible refine ch_alloc ?_ _ | with_reducible refine Below.drew ?_ | with_reducible refine below_draws _ ?_ | with_reducible refine ch_trans ?_ (by with_reducible assumption)))).size ?_; intro v2 w2 hg2 hb2 ht2; have HG2 : Hid (Got w2 w0.heap.size 5 1 v2 ([3].map byX ++ [#[.int .u8 (x.size : Int)]])) := hg2; have HR2 : Hid (RowAt w2 (some ⟨w0.heap.size + 1 + 1, 0, none⟩) 1 (x.data.toList.map byX)) := RowAt.turned ((show RowAt (Lib.bytesWorld (((w0.alloc (.cells #[.int .u8 3] 5)).alloc (.cells #[.int .u8 (x.size : Int)] 5)).drew) 5 x) (some ⟨w0.heap.size + 1 + 1, 0, none⟩) 1 (x.data.toList.map byX) from by (have h1 := bytes_row (((w0.alloc (.cells #[.int .u8 3] 5)).alloc (.cells #[.int .u8 (x.size : Int)] 5)).drew) 5 x; rw [show (((w0.alloc (.cells #[.int .u8 3] 5)).alloc (.cells #[.int .u8 (x.size : Int)] 5)).drew).heap.size = w0.heap.size + 1 + 1 from by simp] at h1; exact h1)).on (show Below _ _ (Lib.bytesWorld (((w0.alloc (.cells #[.int .u8 3] 5)).alloc (.cells #[.int .u8 (x.size : Int)] 5)).drew) 5 x) from (by repeat (first | with_reducible exact Below.refl _ _ | with_reducible assumption | with_reducible refine ch_bytes ?_ _ _ | with_reducible refine ch_alloc ?_ _ | with_reducible refine Below.drew ?_ | with_reducible refine below_draws _ ?_ | with_reducible refine ch_trans ?_ (by with_reducible assumption))))) ht2 (show w0.heap.size + 1 + 1 < (Lib.bytesWorld (((w0.alloc (.cells #[.int .u8 3] 5)).alloc (.cells #[.int .u8 (x.size : Int)] 5)).drew) 5 x).heap.size from by simp [Lib.bytesWorld_size]) (fun h1 => by (have h2 : w0.heap.size = w0.heap.size + 1 + 1 := Option.some.inj h1; omega)); have hw02 : w0.heap.size ≤ w2.heap.size := Nat.le_trans (show Below w0.heap.size w0 (Lib.bytesWorld (((w0.alloc (.cells #[.int .u8 3] 5)).alloc (.cells #[.int .u8 (x.size : Int)] 5)).drew) 5 x) from (by repeat (first | with_reducible exact Below.refl _ _ | with_reducible assumption | with_reducible refine ch_bytes ?_ _ _ | with_reducible refine ch_alloc ?_ _ | with_reducible refine Below.drew ?_ | with_reducible refine below_draws _ ?_ | with_reducible refine ch_trans ?_ (by with_reducible assumption)))).size hb2.size; have HB2 : Hid (Below w0.heap.size w0 w2) := (show Below w0.heap.size w0 (Lib.bytesWorld (((w0.alloc (.cells #[.int .u8 3] 5)).alloc (.cells #[.int .u8 (x.size : Int)] 5)).drew) 5 x) from (by repeat (first | with_reducible exact Below.refl _ _ | with_reducible assumption | with_reducible refine ch_bytes ?_ _ _ | with_reducible refine ch_alloc ?_ _ | with_reducible refine Below.drew ?_ | with_reducible refine below_draws _ ?_ | with_reducible refine ch_trans ?_ (by with_reducible assumption)))).trans hb2)
        | (refine app_stepsT rfl (.tmp 42) (.tmp 47) rfl Tryz.underlying26 infoByte rfl (by decide) (by decide) w0.heap.size _ ([3].map byX) rfl (HG0.out.on (show Below _ _ ((Lib.bytesWorld ((w0.alloc (.cells #[.int .u8 3] 5)).drew) 5 x).alloc (.cells #[.int .u8 (x.size : Int)] 5)) from (by repeat (first | with_reducible exact Below.refl _ _ | with_reducible assumption | with_reducible refine ch_bytes ?_ _ _ | with_reducible refine ch_alloc ?_ _ | with_reducible refine Below.drew ?_ | with_reducible refine below_draws _ ?_ | with_reducible refine ch_trans ?_ (by with_reducible assumption))))) ((Lib.bytesWorld ((w0.alloc (.cells #[.int .u8 3] 5)).drew) 5 x).heap.size) 0 1 [#[.int .u8 (x.size : Int)]] 1 rfl rfl ((Own.new (Lib.bytesWorld ((w0.alloc (.cells #[.int .u8 3] 5)).drew) 5 x) _ _).loc.row1 rfl) (fun q hq u hu => by simp at hq; subst hq; simp at hu; subst hu; rfl) (by simp) (show Below w0.heap.size w0 ((Lib.bytesWorld ((w0.alloc (.cells #[.int .u8 3] 5)).drew) 5 x).alloc (.cells #[.int .u8 (x.size : Int)] 5)) from (by repeat (first | with_reducible exact Below.refl _ _ | with_reducible assumption | with_reducible refine ch_bytes ?_ _ _ | with_reducible refine ch_alloc ?_ _ | with_reducible refine Below.drew ?_ | with_reducible refine below_draws _ ?_ | with_reducible refine ch_trans ?_ (by with_reducible assumption)))).size ?_; intro v2 w2 hg2 hb2 ht2; have HG2 : Hid (Got w2 w0.heap.size 5 1 v2 ([3].map byX ++ [#[.int .u8 (x.size : Int)]])) := hg2; have HR2 : Hid (RowAt w2 (some ⟨w0.heap.size + 1, 0, none⟩) 1 (x.data.toList.map byX)) := RowAt.turned ((show RowAt (Lib.bytesWorld ((w0.alloc (.cells #[.int .u8 3] 5)).drew) 5 x) (some ⟨w0.heap.size + 1, 0, none⟩) 1 (x.data.toList.map byX) from by (have h1 := bytes_row ((w0.alloc (.cells #[.int .u8 3] 5)).drew) 5 x; rw [show ((w0.alloc (.cells #[.int .u8 3] 5)).drew).heap.size = w0.heap.size + 1 from by simp] at h1; exact h1)).on (show Below _ _ ((Lib.bytesWorld ((w0.alloc (.cells #[.int .u8 3] 5)).drew) 5 x).alloc (.cells #[.int .u8 (x.size : Int)] 5)) from (by repeat (first | with_reducible exact Below.refl _ _ | with_reducible assumption | with_reducible refine ch_bytes ?_ _ _ | with_reducible refine ch_alloc ?_ _ | with_reducible refine Below.drew ?_ | with_reducible refine below_draws _ ?_ | with_reducible refine ch_trans ?_ (by with_reducible assumption))))) ht2 (show w0.heap.size + 1 < ((Lib.bytesWorld ((w0.alloc (.cells #[.int .u8 3] 5)).drew) 5 x).alloc (.cells #[.int .u8 (x.size : Int)] 5)).heap.size from by simp [Lib.bytesWorld_size]) (fun h1 => by (have h2 : w0.heap.size = w0.heap.size + 1 := Option.some.inj h1; omega)); have hw02 : w0.heap.size ≤ w2.heap.size := Nat.le_trans (show Below w0.heap.size w0 ((Lib.bytesWorld ((w0.alloc (.cells #[.int .u8 3] 5)).drew) 5 x).alloc (.cells #[.int .u8 (x.size : Int)] 5)) from (by repeat (first | with_reducible exact Below.refl _ _ | with_reducible assumption | with_reducible refine ch_bytes ?_ _ _ | with_reducible refine ch_alloc ?_ _ | with_reducible refine Below.drew ?_ | with_reducible refine below_draws _ ?_ | with_reducible refine ch_trans ?_ (by with_reducible assumption)))).size hb2.size; have HB2 : Hid (Below w0.heap.size w0 w2) := (show Below w0.heap.size w0 ((Lib.bytesWorld ((w0.alloc (.cells #[.int .u8 3] 5)).drew) 5 x).alloc (.cells #[.int .u8 (x.size : Int)] 5)) from (by repeat (first | with_reducible exact Below.refl _ _ | with_reducible assumption | with_reducible refine ch_bytes ?_ _ _ | with_reducible refine ch_alloc ?_ _ | with_reducible refine Below.drew ?_ | with_reducible refine below_draws _ ?_ | with_reducible refine ch_trans ?_ (by with_reducible assumption)))).trans hb2)
        | (refine app_steps rfl (.tmp 48) (.tmp 51) rfl Tryz.underlying26 infoByte rfl (by decide) (by decide) w0.heap.size v2 ([3].map byX ++ [#[.int .u8 (x.size : Int)]]) rfl (HG2.out.on (bytes_below _ _ _)) w2.heap.size 0 _ (x.data.toList.map byX) x.size (by simp) rfl (bytes_row _ _ _) (byte_one _) (by simp; omega) (by rw [Lib.bytesWorld_size]; omega) ?_; intro v3 w3 hg3 hb3; have HB3 : Hid (Below w0.heap.size w0 w3) := (HB2.out.trans ((bytes_below w2 _ _).mono hw02)).trans hb3)
        | (refine app_steps rfl (.tmp 48) (.tmp 51) rfl Tryz.underlying26 infoByte rfl (by decide) (by decide) w0.heap.size v2 ([3].map byX ++ [#[.int .u8 (x.size : Int)]]) rfl HG2.out _ 0 _ (x.data.toList.map byX) x.size (by simp) rfl HR2.out (byte_one _) (by simp; omega) hw02 ?_; intro v3 w3 hg3 hb3; have HB3 : Hid (Below w0.heap.size w0 w3) := HB2.out.trans hb3)
        | fail)
      all_goals
        have HG3 : Hid (Got w3 w.heap.size 5 1 v3 ((valL ⟨3, n, x⟩).map byX)) := by
          have e1 : (valL ⟨3, n, x⟩).map byX = ([3].map byX ++ [byX (UInt8.ofNat x.size)]) ++ x.data.toList.map byX := by simp [valL, textL]
          show Got _ _ _ _ _ _
          rw [e1, HX.out]
          exact hg3.mono hb0.size
        have HB4 : Hid (Below w.heap.size w w3) := hb0.trans (HB3.out.mono hb0.size)
        clear hg3
        go_wp2
        go_ret2
        exact ⟨_, rfl, HB4.out, HG3.out⟩
  · rw [hok] at HS
    clear hok
    go_enter Tryz.func103, Tryz.ntmps103
    go_wp2_with fail
    refine (HS.out _).mono ?_
    rintro e w0 ⟨rfl, b0⟩
    go_wp2
    go_ret2
    exact ⟨_, rfl, (by repeat (first | with_reducible exact Below.refl _ _ | with_reducible assumption | with_reducible refine ch_alloc ?_ _ | with_reducible refine Below.drew ?_ | with_reducible refine below_draws _ ?_ | (with_reducible refine Below.setCell ?_ ?_ _; rotate_left; focus (first | with_reducible exact Nat.le_refl _ | (simp; done) | (simp; omega) | (simp at *; omega))) | with_reducible refine ch_trans ?_ (by with_reducible assumption))), Got.nil _ _ _ _⟩
end Go.Proofs.YtiijahoheajppaaGreat
