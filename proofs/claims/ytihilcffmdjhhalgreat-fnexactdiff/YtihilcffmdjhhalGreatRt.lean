/- Shapes that lie in new memory alone. The laws' copies of rows, with their shape. -/
import Derived.Test.YtihilcffmdjhhalGreatMs
import Derived.Test.YtihilcffmdjhhalGreatFm
import Derived.Test.YtihilcffmdjhhalGreatDa
namespace Go.Proofs.YtihilcffmdjhhalGreat
open Go.ChangeShapes Go.WideShapes Go.ChangeAt Go.RowKit

/-- It hangs on blocks of S alone. -/
def Holds (S : Nat → Prop) (P : Shape) : Prop := ∀ w w' u, (∀ c, S c → c < w.heap.size → w'.heap[c]? = w.heap[c]?) → P w u → P w' u
theorem IntS.holds (S : Nat → Prop) : Holds S IntS := fun _ _ _ _ h => h
theorem StrS.holds (S : Nat → Prop) : Holds S StrS := fun _ _ _ _ h => h
theorem BoolS.holds (S : Nat → Prop) : Holds S BoolS := fun _ _ _ _ h => h
theorem RowS.holds {S : Nat → Prop} {T : TypeId} {es : List Shape} (he : ∀ j (h : j < es.length), Holds S es[j]) : Holds S (RowS S T es) := fun w w' _ hb ⟨b, n, cap, f, e, hS, hn, hr, hf⟩ =>
  ⟨b, n, cap, f, e, hS, hn, hr.of_block (hb b hS hr.lt), fun i hi j hj => he j hj w w' _ hb (hf i hi j hj)⟩
/-- A shape for each set of blocks. -/
structure Good (P : (Nat → Prop) → Shape) : Prop where
  holds : ∀ S, Holds S (P S)
  mono : ∀ S S' w u, (∀ c, S c → S' c) → P S w u → P S' w u
theorem ValsS.good : Good ValsS := ⟨fun S => RowS.holds fun j h => by
    match j, h with
    | 0, _ => exact IntS.holds S
    | 1, _ => exact IntS.holds S
    | 2, _ => exact StrS.holds S, fun _ _ _ _ hs h => RowS.mono hs rfl (fun _ _ _ _ _ h => h) h⟩
theorem ColsS.good : Good ColsS := ⟨fun S => RowS.holds fun j h => by
    match j, h with
    | 0, _ => exact StrS.holds S
    | 1, _ => exact IntS.holds S
    | 2, _ => exact BoolS.holds S
    | 3, _ => exact BoolS.holds S
    | 4, _ => exact IntS.holds S
    | 5, _ => exact IntS.holds S
    | 6, _ => exact StrS.holds S, fun _ _ _ _ hs h => RowS.mono hs rfl (fun _ _ _ _ _ h => h) h⟩
theorem StrsS.good : Good StrsS := ⟨fun S => RowS.holds fun j h => by
    match j, h with
    | 0, _ => exact StrS.holds S, fun _ _ _ _ hs h => RowS.mono hs rfl (fun _ _ _ _ _ h => h) h⟩
theorem one_good {P : (Nat → Prop) → Shape} (hP : Good P) (T : TypeId) : Good (fun S => RowS S T [P S]) := ⟨fun S => RowS.holds fun j h => by
    match j, h with
    | 0, _ => exact hP.holds S, fun S S' _ _ hs h => RowS.mono (es := [P S]) (es' := [P S']) hs rfl (fun j hj hj' w u hu => by
      match j, hj with
      | 0, _ => exact hP.mono S S' w u hs hu) h⟩
theorem RowsS.good : Good RowsS := one_good ValsS.good _
theorem DataS.good : Good DataS := one_good RowsS.good _
theorem TabsS.good : Good TabsS := ⟨fun S => RowS.holds fun j h => by
    match j, h with
    | 0, _ => exact StrS.holds S
    | 1, _ => exact ColsS.good.holds S
    | 2, _ => exact StrsS.good.holds S, fun S S' _ _ hs h => RowS.mono (es := [StrS, ColsS S, StrsS S]) (es' := [StrS, ColsS S', StrsS S']) hs rfl (fun j hj hj' w u hu => by
      match j, hj with
      | 0, _ => exact hu
      | 1, _ => exact ColsS.good.mono S S' w u hs hu
      | 2, _ => exact StrsS.good.mono S S' w u hs hu) h⟩
/-- It lies in blocks from B on, that are there. -/
def New (P : (Nat → Prop) → Shape) (B : Nat) (w : World) (v : Value) : Prop := P (fun c => B ≤ c ∧ c < w.heap.size) w v
theorem New.at {P : (Nat → Prop) → Shape} (hP : Good P) {B : Nat} {w w' : World} {v : Value} (h : New P B w v) (k : Apart B w w') : New P B w' v :=
  hP.mono _ _ _ _ (fun _ hc => ⟨hc.1, Nat.lt_of_lt_of_le hc.2 k.1⟩) (hP.holds _ w w' v (fun c hc hl => k.2 c hc.1 hl) h)
theorem New.on {P : (Nat → Prop) → Shape} (hP : Good P) {B : Nat} {w w' : World} {v : Value} (h : New P B w v) (k : Below w.heap.size w w') : New P B w' v := h.at hP (Apart.of_below k)
theorem New.set {P : (Nat → Prop) → Shape} (hP : Good P) {B : Nat} {w : World} {v : Value} (h : New P B w v) {p : Addr} (hp : p.block < B) (u : Value) : New P B (w.setCell p u) v := h.at hP ((Apart.refl _ _).set hp u)
theorem New.mono {P : (Nat → Prop) → Shape} (hP : Good P) {B B' : Nat} {w : World} {v : Value} (h : New P B w v) (hB : B' ≤ B) : New P B' w v := hP.mono _ _ _ _ (fun _ hc => ⟨Nat.le_trans hB hc.1, hc.2⟩) h
theorem Fill.valsN {w : World} {B : Nat} {vs : List Vc} (h : Fill w B 126 3 vs.length (vs.map Vc.cells)) (hl : vs.length ≤ 1048576) : New ValsS B w (.slice (some ⟨B, 0, none⟩) vs.length vs.length) := by
  have hlt := h.lt
  obtain ⟨h0, h1, f, hr, hf⟩ := h
  refine ⟨B, vs.length, vs.length, f, rfl, ⟨Nat.le_refl _, hlt⟩, hl, hr, fun i hi j hj => ?_⟩
  match j, hj with
  | 0, _ => have e := hf i (by simpa using hi) 0 (by omega); simp at e; exact ⟨_, e⟩
  | 1, _ => have e := hf i (by simpa using hi) 1 (by omega); simp at e; exact ⟨_, e⟩
  | 2, _ => have e := hf i (by simpa using hi) 2 (by omega); simp at e; exact ⟨_, e⟩
theorem Fill.colsN {w : World} {B : Nat} {vs : List Cl} (h : Fill w B 137 7 vs.length (vs.map Cl.cells)) (hl : vs.length ≤ 1048576) : New ColsS B w (.slice (some ⟨B, 0, none⟩) vs.length vs.length) := by
  have hlt := h.lt
  obtain ⟨h0, h1, f, hr, hf⟩ := h
  refine ⟨B, vs.length, vs.length, f, rfl, ⟨Nat.le_refl _, hlt⟩, hl, hr, fun i hi j hj => ?_⟩
  match j, hj with
  | 0, _ => have e := hf i (by simpa using hi) 0 (by omega); simp at e; exact ⟨_, e⟩
  | 1, _ => have e := hf i (by simpa using hi) 1 (by omega); simp at e; exact ⟨_, e⟩
  | 2, _ => have e := hf i (by simpa using hi) 2 (by omega); simp at e; exact ⟨_, e⟩
  | 3, _ => have e := hf i (by simpa using hi) 3 (by omega); simp at e; exact ⟨_, e⟩
  | 4, _ => have e := hf i (by simpa using hi) 4 (by omega); simp at e; exact ⟨_, e⟩
  | 5, _ => have e := hf i (by simpa using hi) 5 (by omega); simp at e; exact ⟨_, e⟩
  | 6, _ => have e := hf i (by simpa using hi) 6 (by omega); simp at e; exact ⟨_, e⟩
theorem Fill.strsN {w : World} {B : Nat} {vs : List ByteArray} (h : Fill w B 9 1 vs.length (vs.map strX)) (hl : vs.length ≤ 1048576) : New StrsS B w (.slice (some ⟨B, 0, none⟩) vs.length vs.length) := by
  have hlt := h.lt
  obtain ⟨h0, h1, f, hr, hf⟩ := h
  refine ⟨B, vs.length, vs.length, f, rfl, ⟨Nat.le_refl _, hlt⟩, hl, hr, fun i hi j hj => ?_⟩
  match j, hj with
  | 0, _ => have e := hf i (by simpa using hi) 0 (by omega); simp at e; exact ⟨_, by simpa using e⟩
/-- Elements of one cell laid so far, each with memory of its own. -/
def Nfill (P : (Nat → Prop) → Shape) (w : World) (B : Nat) (T : TypeId) (n k : Nat) : Prop := ∃ f, w.rowIs B T n f ∧ ∀ i, i < k → New P (B + 1) w (f i)
theorem Nfill.on {P : (Nat → Prop) → Shape} (hP : Good P) {w w' : World} {B : Nat} {T : TypeId} {n k : Nat} (h : Nfill P w B T n k) (b : Below w.heap.size w w') : Nfill P w' B T n k := by
  obtain ⟨f, hr, hf⟩ := h
  exact ⟨f, hr.of_block (b.block B hr.lt), fun i hi => (hf i hi).on hP b⟩
theorem Nfill.put {P : (Nat → Prop) → Shape} (hP : Good P) {w : World} {B : Nat} {T : TypeId} {n k : Nat} (h : Nfill P w B T n k) {y : Value} (hy : New P (B + 1) w y) : Nfill P (w.setCell ⟨B, k, none⟩ y) B T n (k + 1) := by
  obtain ⟨f, hr, hf⟩ := h
  refine ⟨_, hr.set k y, fun i hi => ?_⟩
  by_cases e : i = k
  · subst e; simp only [if_true]; exact hy.set hP (by simp) _
  · simp only [if_neg e]; exact (hf i (by omega)).set hP (by simp) _
theorem Nfill.done {P : (Nat → Prop) → Shape} (hP : Good P) {w : World} {B : Nat} {T : TypeId} {n : Nat} (h : Nfill P w B T n n) (hn : n ≤ 1048576) : New (fun S => RowS S T [P S]) B w (.slice (some ⟨B, 0, none⟩) n n) := by
  obtain ⟨f, hr, hf⟩ := h
  refine ⟨B, n, n, f, rfl, ⟨Nat.le_refl _, hr.lt⟩, hn, by simpa using hr, fun i hi j hj => ?_⟩
  match j, hj with
  | 0, _ =>
    have h0 : New P B w (f i) := (hf i hi).mono hP (by omega)
    simpa using (show P (fun c => B ≤ c ∧ c < w.heap.size) w (f i) from h0)
end Go.Proofs.YtihilcffmdjhhalGreat

namespace Go.Proofs.YtihilcffmdjhhalGreat
open Go.ChangeShapes Go.WideShapes Go.ChangeAt Go.RowKit

set_option maxRecDepth 100000 in
set_option maxHeartbeats 1000000 in
/-- laws.toRowS -/
theorem toRowS_full (v : Value) (rs : List (List Vc)) (w : World) (hx : RowsV w v rs) (hf : rfews rs) :
    Calls Tryz.prog 104 #[v] w fun e w' => ∃ B, e = .returned (.slice (some ⟨B, 0, none⟩) rs.length rs.length) ∧ w.heap.size ≤ B ∧ Below w.heap.size w w' ∧ Rfill w' B 55 rs rs.length ∧ New RowsS B w' (.slice (some ⟨B, 0, none⟩) rs.length rs.length) := by
  obtain ⟨a, cap, rfl, hl, hm, hx⟩ := hx.lit
  unfold maxLen at hm
  have HX : Hid (RowsV w (.slice a rs.length cap) rs) := hx
  obtain ⟨hn, hf⟩ := hf
  have HF : Hid (∀ r ∈ rs, r.length ≤ 1048576) := hf
  clear hx hf
  have hmk := run_makes (P := Tryz.prog) 101 55 (.agg #[.slice none 0 0]) _ 1 24 Tryz.underlying101 (by kernel_rfl) rfl .i64 .i64 rs.length (by omega) (by omega)
  rw [Nat.mul_one] at hmk
  go_enter Tryz.func104, Tryz.ntmps104
  go_wp2
  have HT : Hid (Rfill (w.alloc (.cells (madeCells #[.slice none 0 0] rs.length) 55)) w.heap.size 55 rs 0) := ⟨[], Fill.new w _ 1 rs.length _ ((size_madeCells _ _).trans (Nat.mul_one _).symm), rfl, fun i h => by simp at h⟩
  have HN0 : Hid (Nfill ValsS (w.alloc (.cells (madeCells #[.slice none 0 0] rs.length) 55)) w.heap.size 55 rs.length 0) := ⟨_, World.rowIs_made w _ _ _, fun i h => by omega⟩
  go_loopw [4] (fun i wr => ∃ k : Nat, k ≤ rs.length ∧ i = .int .i64 k ∧ Below w.heap.size w wr ∧ Hid (Rfill wr w.heap.size 55 rs k) ∧ Hid (Nfill ValsS wr w.heap.size 55 rs.length k)) (fun i _ => rs.length - (intOf i).toNat)
  case atStart => exact ⟨0, Nat.zero_le _, rfl, (by repeat (first | with_reducible exact Below.refl _ _ | with_reducible assumption | with_reducible refine ch_alloc ?_ _ | with_reducible refine Below.drew ?_ | with_reducible refine below_draws _ ?_ | (with_reducible refine Below.setCell ?_ ?_ _; rotate_left; focus (first | with_reducible exact Nat.le_refl _ | (simp; done) | (simp; omega) | (simp at *; omega))) | with_reducible refine ch_trans ?_ (by with_reducible assumption))), HT, HN0⟩
  case round =>
    clear HT HN0
    obtain ⟨k, hk, rfl, hb, HT, HN⟩ := hrel
    by_cases hlt : k < rs.length
    · have hlti : (k : Int) < rs.length := by omega
      obtain ⟨b, off, c, p, rfl, d0, hx⟩ := (HX.out.on hb).rw k hlt
      have HY : Hid (ValsV wr (.slice c rs[k].length p) rs[k]) := hx
      clear hx
      go_wp2_with fail
      refine (toRow_any _ rs[k] _ (HY.out.on (by repeat (first | with_reducible exact Below.refl _ _ | with_reducible assumption | with_reducible refine ch_alloc ?_ _ | with_reducible refine Below.drew ?_ | with_reducible refine below_draws _ ?_ | (with_reducible refine Below.setCell ?_ ?_ _; rotate_left; focus (first | with_reducible exact Nat.le_refl _ | (simp; done) | (simp; omega) | (simp at *; omega))) | with_reducible refine ch_trans ?_ (by with_reducible assumption)))) (HF.out _ (List.getElem_mem hlt))).mono ?_
      rintro e w1 ⟨B, rfl, hB1, b1, hy⟩
      have hB : w.heap.size + 1 ≤ wr.heap.size := by
        obtain ⟨ys, hF, _, _⟩ := HT.out
        exact hF.lt
      have hT1 := HT.out.on b1
      have hrl := HF.out _ (List.getElem_mem hlt)
      have HT' : Hid (Rfill (stores w1 w.heap.size k [.slice (some ⟨B, 0, none⟩) rs[k].length rs[k].length]) w.heap.size 55 rs (k + 1)) := hT1.put hlt (hy.valsV (by unfold maxLen; omega)) ((from_new _ _ _).mono (by omega))
      have HN' : Hid (Nfill ValsS (w1.setCell ⟨w.heap.size, k, none⟩ (.slice (some ⟨B, 0, none⟩) rs[k].length rs[k].length)) w.heap.size 55 rs.length (k + 1)) := (HN.out.on ValsS.good b1).put ValsS.good ((hy.valsN hrl).mono ValsS.good (by omega))
      obtain ⟨ys, hF, hyl, _⟩ := hT1
      obtain ⟨v0, g0, f0⟩ := hF.one (k := k) (by simpa using hyl) hlt
      clear hy hF hyl hrl hB1
      go_wp2
      go_round
      case rel => exact ⟨k + 1, by omega, by go_num, (by repeat (first | with_reducible exact Below.refl _ _ | with_reducible assumption | with_reducible refine ch_alloc ?_ _ | with_reducible refine Below.drew ?_ | with_reducible refine below_draws _ ?_ | (with_reducible refine Below.setCell ?_ ?_ _; rotate_left; focus (first | with_reducible exact Nat.le_refl _ | (simp; done) | (simp; omega) | (simp at *; omega))) | with_reducible refine ch_trans ?_ (by with_reducible assumption))), HT', HN'⟩
      case measure => simp [intOf]; omega
    · have hlti : (rs.length : Int) ≤ k := by omega
      obtain rfl : k = rs.length := by omega
      go_wp2
      go_ret
      exact ⟨_, rfl, Nat.le_refl _, (by repeat (first | with_reducible exact Below.refl _ _ | with_reducible assumption | with_reducible refine ch_alloc ?_ _ | with_reducible refine Below.drew ?_ | with_reducible refine below_draws _ ?_ | (with_reducible refine Below.setCell ?_ ?_ _; rotate_left; focus (first | with_reducible exact Nat.le_refl _ | (simp; done) | (simp; omega) | (simp at *; omega))) | with_reducible refine ch_trans ?_ (by with_reducible assumption))), HT.out, HN.out.done ValsS.good (by omega)⟩
set_option maxRecDepth 100000 in
set_option maxHeartbeats 1000000 in
/-- laws.toRows -/
theorem toRows_full (v : Value) (rs : List (List Vc)) (w : World) (hx : RowsV w v rs) (hn : rfews rs) :
    Calls Tryz.prog 59 #[.agg #[v]] w fun e w' => ∃ y, e = .returned (.agg #[y]) ∧ Below w.heap.size w w' ∧ Firm w.heap.size (fun u => RowsV u y rs) w' ∧ New RowsS w.heap.size w' y := by
  obtain ⟨a, cap, rfl, hl, hm, hx⟩ := hx.lit
  have HX : Hid (RowsV w (.slice a rs.length cap) rs) := hx
  have hn1 : rs.length ≤ maxLen := by have := hn.1; unfold maxLen; omega
  have HN : Hid (rfews rs) := hn
  clear hx hn
  go_enter Tryz.func59, Tryz.ntmps59
  go_wp2_with fail
  refine (toRowS_full _ rs _ (HX.out.on (by repeat (first | with_reducible exact Below.refl _ _ | with_reducible assumption | with_reducible refine ch_alloc ?_ _ | with_reducible refine Below.drew ?_ | with_reducible refine below_draws _ ?_ | (with_reducible refine Below.setCell ?_ ?_ _; rotate_left; focus (first | with_reducible exact Nat.le_refl _ | (simp; done) | (simp; omega) | (simp at *; omega))) | with_reducible refine ch_trans ?_ (by with_reducible assumption)))) HN.out).mono ?_
  rintro e w1 ⟨B, rfl, hB, b1, hf, hnw⟩
  have hB3 : w.heap.size + 1 + 1 + 1 ≤ B := by simpa using hB
  have HO : Own w1 (w.heap.size + 1 + 1) 103 #[.slice none 0 0] := (Own.at ((w.alloc (.cells #[.slice a rs.length cap] 98)).alloc (.cells #[.slice none 0 0] 103)) _ _ (by simp)).on b1
  have HQ : Own w1 (w.heap.size + 1) 103 #[.slice none 0 0] := ((Own.at (w.alloc (.cells #[.slice a rs.length cap] 98)) _ _ (by simp)).on (ch_alloc (Below.refl _ _) _)).on b1
  have HF : Hid (Firm (w.heap.size + 1 + 1 + 1) (fun u => RowsV u (.slice (some ⟨B, 0, none⟩) rs.length rs.length) rs) w1) := (hf.firm hn1).mono hB3
  have HW : Hid (New RowsS (w.heap.size + 1 + 1 + 1) w1 (.slice (some ⟨B, 0, none⟩) rs.length rs.length)) := hnw.mono RowsS.good hB3
  clear hf hB hnw
  have d0 := HO.loc.one
  have f0 := HO.frozen 0
  have g0 := HQ.loc.one
  have i0 := HQ.frozen 0
  go_wp2
  have HQ3 : Own _ _ _ #[.slice (some ⟨B, 0, none⟩) rs.length rs.length] := ((HQ.other (p := ⟨w.heap.size + 1 + 1, 0, none⟩) (by simp) (.slice (some ⟨B, 0, none⟩) rs.length rs.length)).set 0 (.slice (some ⟨B, 0, none⟩) rs.length rs.length))
  have HF3 : Hid (Firm (w.heap.size + 1 + 1 + 1) (fun u => RowsV u (.slice (some ⟨B, 0, none⟩) rs.length rs.length) rs) ((w1.setCell ⟨w.heap.size + 1 + 1, 0, none⟩ (.slice (some ⟨B, 0, none⟩) rs.length rs.length)).setCell ⟨w.heap.size + 1, 0, none⟩ (.slice (some ⟨B, 0, none⟩) rs.length rs.length))) := (HF.out.set (by simp) _).set (by simp) _
  have HW3 : Hid (New RowsS (w.heap.size + 1 + 1 + 1) ((w1.setCell ⟨w.heap.size + 1 + 1, 0, none⟩ (.slice (some ⟨B, 0, none⟩) rs.length rs.length)).setCell ⟨w.heap.size + 1, 0, none⟩ (.slice (some ⟨B, 0, none⟩) rs.length rs.length)) (.slice (some ⟨B, 0, none⟩) rs.length rs.length)) := (HW.out.set RowsS.good (by simp) _).set RowsS.good (by simp) _
  have HB : Hid (Below w.heap.size w ((w1.setCell ⟨w.heap.size + 1 + 1, 0, none⟩ (.slice (some ⟨B, 0, none⟩) rs.length rs.length)).setCell ⟨w.heap.size + 1, 0, none⟩ (.slice (some ⟨B, 0, none⟩) rs.length rs.length))) := by
    show Below _ _ _
    exact (by repeat (first | with_reducible exact Below.refl _ _ | with_reducible assumption | with_reducible refine ch_alloc ?_ _ | with_reducible refine Below.drew ?_ | with_reducible refine below_draws _ ?_ | (with_reducible refine Below.setCell ?_ ?_ _; rotate_left; focus (first | with_reducible exact Nat.le_refl _ | (simp; done) | (simp; omega) | (simp at *; omega))) | with_reducible refine ch_trans ?_ (by with_reducible assumption)))
  generalize ((w1.setCell ⟨w.heap.size + 1 + 1, 0, none⟩ (.slice (some ⟨B, 0, none⟩) rs.length rs.length)).setCell ⟨w.heap.size + 1, 0, none⟩ (.slice (some ⟨B, 0, none⟩) rs.length rs.length)) = W at HQ3 HB HF3 HW3 ⊢
  have e0 := HQ3.loc.one
  exact bodyPost_ret (v := .agg #[.slice (some ⟨B, 0, none⟩) rs.length rs.length]) (by simp [results, Tryz.results59, go_sem, e0]) rfl ⟨_, rfl, HB.out, HF3.out.mono (by omega), HW3.out.mono RowsS.good (by omega)⟩

set_option maxRecDepth 100000 in
set_option maxHeartbeats 1000000 in
/-- laws.toRowsS -/
theorem toRowsS_full (v : Value) (ds : List (List (List Vc))) (w : World) (hx : DataV w v ds) (hf : dfews ds) :
    Calls Tryz.prog 25 #[v] w fun e w' => ∃ B, e = .returned (.slice (some ⟨B, 0, none⟩) ds.length ds.length) ∧ w.heap.size ≤ B ∧ Below w.heap.size w w' ∧ Dfill w' B 103 ds ds.length ∧ New DataS B w' (.slice (some ⟨B, 0, none⟩) ds.length ds.length) := by
  obtain ⟨a, cap, rfl, hl, hm, hx⟩ := hx.lit
  unfold maxLen at hm
  have HX : Hid (DataV w (.slice a ds.length cap) ds) := hx
  obtain ⟨hn, hf⟩ := hf
  have HF : Hid (∀ r ∈ ds, rfews r) := hf
  clear hx hf
  have hmk := run_makes (P := Tryz.prog) 34 103 (.agg #[.slice none 0 0]) _ 1 24 Tryz.underlying34 (by kernel_rfl) rfl .i64 .i64 ds.length (by omega) (by omega)
  rw [Nat.mul_one] at hmk
  go_enter Tryz.func25, Tryz.ntmps25
  go_wp2
  have HT : Hid (Dfill (w.alloc (.cells (madeCells #[.slice none 0 0] ds.length) 103)) w.heap.size 103 ds 0) := ⟨[], Fill.new w _ 1 ds.length _ ((size_madeCells _ _).trans (Nat.mul_one _).symm), rfl, fun i h => by simp at h⟩
  have HN0 : Hid (Nfill RowsS (w.alloc (.cells (madeCells #[.slice none 0 0] ds.length) 103)) w.heap.size 103 ds.length 0) := ⟨_, World.rowIs_made w _ _ _, fun i h => by omega⟩
  go_loopw [4] (fun i wr => ∃ k : Nat, k ≤ ds.length ∧ i = .int .i64 k ∧ Below w.heap.size w wr ∧ Hid (Dfill wr w.heap.size 103 ds k) ∧ Hid (Nfill RowsS wr w.heap.size 103 ds.length k)) (fun i _ => ds.length - (intOf i).toNat)
  case atStart => exact ⟨0, Nat.zero_le _, rfl, (by repeat (first | with_reducible exact Below.refl _ _ | with_reducible assumption | with_reducible refine ch_alloc ?_ _ | with_reducible refine Below.drew ?_ | with_reducible refine below_draws _ ?_ | (with_reducible refine Below.setCell ?_ ?_ _; rotate_left; focus (first | with_reducible exact Nat.le_refl _ | (simp; done) | (simp; omega) | (simp at *; omega))) | with_reducible refine ch_trans ?_ (by with_reducible assumption))), HT, HN0⟩
  case round =>
    clear HT HN0
    obtain ⟨k, hk, rfl, hb, HT, HN⟩ := hrel
    by_cases hlt : k < ds.length
    · have hlti : (k : Int) < ds.length := by omega
      obtain ⟨b, off, c, p, rfl, d0, hx⟩ := (HX.out.on hb).rw k hlt
      have HY : Hid (RowsV wr (.slice c ds[k].length p) ds[k]) := hx
      clear hx
      go_wp2_with fail
      refine (toRows_full _ ds[k] _ (HY.out.on (by repeat (first | with_reducible exact Below.refl _ _ | with_reducible assumption | with_reducible refine ch_alloc ?_ _ | with_reducible refine Below.drew ?_ | with_reducible refine below_draws _ ?_ | (with_reducible refine Below.setCell ?_ ?_ _; rotate_left; focus (first | with_reducible exact Nat.le_refl _ | (simp; done) | (simp; omega) | (simp at *; omega))) | with_reducible refine ch_trans ?_ (by with_reducible assumption)))) (HF.out _ (List.getElem_mem hlt))).mono ?_
      rintro e w1 ⟨y, rfl, b1, hy, hnw⟩
      have hB : w.heap.size + 1 ≤ wr.heap.size := by
        obtain ⟨ys, hF, _, _⟩ := HT.out
        exact hF.lt
      have hT1 := HT.out.on b1
      obtain ⟨ay, py, rfl, _⟩ := hy.out.lit
      have HT' : Hid (Dfill (stores w1 w.heap.size k [.slice ay ds[k].length py]) w.heap.size 103 ds (k + 1)) := hT1.put hlt (hy.mono (by omega))
      have HN' : Hid (Nfill RowsS (w1.setCell ⟨w.heap.size, k, none⟩ (.slice ay ds[k].length py)) w.heap.size 103 ds.length (k + 1)) := (HN.out.on RowsS.good b1).put RowsS.good (hnw.mono RowsS.good (by omega))
      obtain ⟨ys, hF, hyl, _⟩ := hT1
      obtain ⟨v0, g0, f0⟩ := hF.one (k := k) (by simpa using hyl) hlt
      clear hy hF hyl hnw
      go_wp2
      go_round
      case rel => exact ⟨k + 1, by omega, by go_num, (by repeat (first | with_reducible exact Below.refl _ _ | with_reducible assumption | with_reducible refine ch_alloc ?_ _ | with_reducible refine Below.drew ?_ | with_reducible refine below_draws _ ?_ | (with_reducible refine Below.setCell ?_ ?_ _; rotate_left; focus (first | with_reducible exact Nat.le_refl _ | (simp; done) | (simp; omega) | (simp at *; omega))) | with_reducible refine ch_trans ?_ (by with_reducible assumption))), HT', HN'⟩
      case measure => simp [intOf]; omega
    · have hlti : (ds.length : Int) ≤ k := by omega
      obtain rfl : k = ds.length := by omega
      go_wp2
      go_ret
      exact ⟨_, rfl, Nat.le_refl _, (by repeat (first | with_reducible exact Below.refl _ _ | with_reducible assumption | with_reducible refine ch_alloc ?_ _ | with_reducible refine Below.drew ?_ | with_reducible refine below_draws _ ?_ | (with_reducible refine Below.setCell ?_ ?_ _; rotate_left; focus (first | with_reducible exact Nat.le_refl _ | (simp; done) | (simp; omega) | (simp at *; omega))) | with_reducible refine ch_trans ?_ (by with_reducible assumption))), HT.out, HN.out.done RowsS.good (by omega)⟩
end Go.Proofs.YtihilcffmdjhhalGreat
