/- A table of a call's own marked, and held. -/
import Derived.Test.YtmkgbdgafjeeiahTk
import Derived.Test.YtmkgbdgafjeeiahWm
namespace Go.Proofs.Ytmkgbdgafjeeiah
open Go.ChangeShapes Go.WideShapes Go.ChangeAt Go.RowKit

/-- A table whose lists hold marks. -/
def HeldT (w : World) (x : Array Value) (k : Nat) (t : Tc) : Prop := ∃ cv kv, x = #[.string t.name, cv, kv] ∧ HeldL w cv 7 (markC k) t.cols.length ∧ HeldL w kv 1 (markT (k + t.cols.length * 7)) t.keys.length
theorem HeldT.on {w w' : World} {x : Array Value} {k : Nat} {t : Tc} (h : HeldT w x k t) (b : Below w.heap.size w w') : HeldT w' x k t := by
  obtain ⟨cv, kv, e, h1, h2⟩ := h
  exact ⟨cv, kv, e, h1.on b, h2.on b⟩
theorem Loc.turned {w w' : World} {b : Nat} {x : Array Value} (h : Loc w b x) {S : Nat → Prop} (k : Turns S w w') (hb : ¬ S b) : Loc w' b x := fun j hj => k.cell (p := ⟨b, j, none⟩) hb (h j hj)
theorem HeldL.lit {w : World} {v : Value} {z n : Nat} {g : Nat → Value} (h : HeldL w v z g n) : ∃ a m c, v = .slice a m c := by
  rcases h with ⟨rfl, _⟩ | ⟨b', cap, m, T, f, rfl, _⟩
  · exact ⟨_, _, _, rfl⟩
  · exact ⟨_, _, _, rfl⟩

set_option maxRecDepth 100000 in
set_option maxHeartbeats 1000000 in
/-- laws.markTable -/
theorem markTable_got (w w5 : World) (B : Nat) (x : Array Value) (t : Tc) (h : TabG w B x t) (h5 : TabG w5 B x t) (hf : t.few) (k : Nat) (hk : k ≤ 1000000) :
    Calls Try.prog 26 #[.agg x, .int .i64 k] w fun e w' => e = .returned (.int .i64 ((k + t.cols.length * 7 + t.keys.length : Nat) : Int)) ∧ Turns (fun c => B ≤ c ∧ c < w5.heap.size) w w' ∧ HeldT w' x k t := by
  obtain ⟨a, n, p, b, m, q, rfl, hg⟩ := h.lit
  obtain ⟨cv, kv, e, hc, hs⟩ := hg
  simp only [Array.mk.injEq, List.cons.injEq, true_and, and_true] at e
  obtain ⟨rfl, rfl⟩ := e
  obtain ⟨cv, kv, e, hc5, hs5⟩ := h5
  simp only [Array.mk.injEq, List.cons.injEq, true_and, and_true] at e
  obtain ⟨rfl, rfl⟩ := e
  have HC5 : Hid (∀ c, (Value.slice a n p).ownBlock = some c → B ≤ c ∧ c < w5.heap.size) := fun c h => ⟨hc5.own h, (World.ownsRow.lt hc5.2 c h).2⟩
  have HS5 : Hid (∀ c, (Value.slice b m q).ownBlock = some c → B ≤ c ∧ c < w5.heap.size) := fun c h => ⟨hs5.own h, (World.ownsRow.lt hs5.2 c h).2⟩
  clear hc5 hs5
  have HC : Hid (Got w B 30 7 (.slice a n p) (t.cols.map Cl.cells)) := hc
  have HS : Hid (Got w B 9 1 (.slice b m q) (t.keys.map strX)) := hs
  have HL := Loc.new w #[.string t.name, .slice a n p, .slice b m q] 41
  have hbv : Below w.heap.size w (w.alloc (.cells #[.string t.name, .slice a n p, .slice b m q] 41)) := (by repeat (first | with_reducible exact Below.refl _ _ | with_reducible assumption | with_reducible refine ch_alloc ?_ _ | with_reducible refine Below.drew ?_ | with_reducible refine below_draws _ ?_ | (with_reducible refine Below.setCell ?_ ?_ _; rotate_left; focus (first | with_reducible exact Nat.le_refl _ | (simp; done) | (simp; omega) | (simp at *; omega))) | with_reducible refine ch_trans ?_ (by with_reducible assumption)))
  obtain ⟨hf1, hf2⟩ := hf
  clear hc hs h
  obtain ⟨l0, l1, l2⟩ := HL.three
  go_enter Try.func26, Try.ntmps26
  go_wp2_with fail
  refine (markColS_got (HC.out.on hbv) (by simpa using hf1) k (by omega)).mono ?_
  rintro e w1 ⟨rfl, h1, hh1⟩
  have c2 : w1.cell? ⟨w.heap.size, 2, none⟩ = some (.slice b m q) := h1.cell (fun hc => by have := (World.ownsRow.lt HC.out.2 w.heap.size hc).2; omega) l2
  have HT1 : Hid (Turns (fun c => B ≤ c ∧ c < w5.heap.size) w w1) := (Turns.below (Turns.refl _ _) hbv).trans (h1.mono fun c hc => HC5.out c hc)
  have HS1 : Hid (Got w1 B 9 1 (.slice b m q) (t.keys.map strX)) := (HS.out.on hbv).turned h1 fun c hc hn => HS.out.apart HC.out (Ne.symm colStr) hc hn
  have HH1 : Hid (HeldL w1 (.slice a n p) 7 (markC k) t.cols.length) := by
    show HeldL _ _ _ _ _
    simpa using hh1
  clear h1 hh1 l0 l1 l2
  simp only [List.length_map]
  go_wp2_with fail
  refine (markStringS_got HS1.out (by simp; omega) (k + t.cols.length * 7) (by omega)).mono ?_
  rintro e w2 ⟨rfl, h2, hh2⟩
  have HT2 : Hid (Turns (fun c => B ≤ c ∧ c < w5.heap.size) w w2) := HT1.out.trans (h2.mono fun c hc => HS5.out c hc)
  have HH2 : Hid (HeldL w2 (.slice a n p) 7 (markC k) t.cols.length) := HH1.out.turned h2 fun c hc hn => HC.out.apart HS.out colStr hc hn
  have HH3 : Hid (HeldL w2 (.slice b m q) 1 (markT (k + t.cols.length * 7)) t.keys.length) := by
    show HeldL _ _ _ _ _
    simpa using hh2
  clear h2 hh2
  simp only [List.length_map]
  go_wp2
  go_ret
  exact ⟨rfl, HT2.out, _, _, rfl, HH2.out, HH3.out⟩

set_option maxRecDepth 100000 in
set_option maxHeartbeats 1000000 in
/-- laws.heldTable -/
theorem heldTable_held (w : World) (x : Array Value) (t : Tc) (k : Nat) (h : HeldT w x k t) (hf : t.few) (hk : k ≤ 1000000) :
    Calls Try.prog 27 #[.agg x, .int .i64 k] w fun e w' => e = .returned (.int .i64 ((k + t.cols.length * 7 + t.keys.length : Nat) : Int)) ∧ Below w.heap.size w w' := by
  obtain ⟨cv, kv, rfl, hc, hs⟩ := h
  obtain ⟨a, n, p, rfl⟩ := hc.lit
  obtain ⟨b, m, q, rfl⟩ := hs.lit
  have HC : Hid (HeldL w (.slice a n p) 7 (markC k) t.cols.length) := hc
  have HS : Hid (HeldL w (.slice b m q) 1 (markT (k + t.cols.length * 7)) t.keys.length) := hs
  have HL := Loc.new w #[.string t.name, .slice a n p, .slice b m q] 41
  have hbv : Below w.heap.size w (w.alloc (.cells #[.string t.name, .slice a n p, .slice b m q] 41)) := (by repeat (first | with_reducible exact Below.refl _ _ | with_reducible assumption | with_reducible refine ch_alloc ?_ _ | with_reducible refine Below.drew ?_ | with_reducible refine below_draws _ ?_ | (with_reducible refine Below.setCell ?_ ?_ _; rotate_left; focus (first | with_reducible exact Nat.le_refl _ | (simp; done) | (simp; omega) | (simp at *; omega))) | with_reducible refine ch_trans ?_ (by with_reducible assumption)))
  obtain ⟨hf1, hf2⟩ := hf
  clear hc hs
  obtain ⟨l0, l1, l2⟩ := HL.three
  go_enter Try.func27, Try.ntmps27
  go_wp2_with fail
  refine (heldColS_held (HC.out.on hbv) hf1 (by omega)).mono ?_
  rintro e w1 ⟨rfl, b1⟩
  have HL1 := HL.on b1
  have hb1 := ch_trans hbv b1
  clear b1 hbv HL l0 l1 l2
  obtain ⟨l0, l1, l2⟩ := HL1.three
  have hk0 : decide (((k + t.cols.length * 7 : Nat) : Int) < 0) = false := decide_eq_false (by omega)
  have HS' : Hid (∀ u : World, HeldL u (.slice b m q) 1 (markT (k + t.cols.length * 7)) t.keys.length → Calls Try.prog 60 #[.slice b m q, .int .i64 ((k + t.cols.length * 7 : Nat) : Int)] u fun e w' => e = .returned (.int .i64 ((k + t.cols.length * 7 + t.keys.length : Nat) : Int)) ∧ Below u.heap.size u w') := fun u hu => heldStringS_held hu (by omega) (by omega)
  have HSW : Hid (HeldL w1 (.slice b m q) 1 (markT (k + t.cols.length * 7)) t.keys.length) := HS.out.on hb1
  clear HS HC
  generalize hKd : k + t.cols.length * 7 = K at hk0 HS' HSW ⊢
  have HKD : Hid (k + t.cols.length * 7 = K) := hKd
  clear hKd
  go_wp2_with fail
  refine (HS'.out _ HSW.out).mono ?_
  rintro e w2 ⟨rfl, b2⟩
  have hb2 := ch_trans hb1 b2
  have hk1 : decide (((K + t.keys.length : Nat) : Int) < 0) = false := decide_eq_false (by omega)
  clear b2 HSW HS' l0 l1 l2
  generalize hK2 : K + t.keys.length = K2 at hk1 ⊢
  have HK2 : Hid (K + t.keys.length = K2) := hK2
  clear hK2
  go_wp2
  go_ret
  exact ⟨by rw [HKD.out, HK2.out]; rfl, hb2⟩
end Go.Proofs.Ytmkgbdgafjeeiah
