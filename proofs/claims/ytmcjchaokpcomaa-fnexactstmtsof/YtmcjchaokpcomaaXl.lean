/- The laws' copies with their shape: lists of records. -/
import Derived.Test.YtmcjchaokpcomaaXr
namespace Go.Proofs.Ytmcjchaokpcomaa
open Go.ChangeShapes Go.WideShapes Go.ChangeAt Go.RowKit

/-- The shape of records behind a slice. -/
def RecsS (S : Nat → Prop) : Shape := RowS S 44 [IntS, IntS, IntS, StrS, ValsS S, ValsS S, IntS, StrS, ColsS S, StrsS S, StrS, StrS]
theorem RecsS.stays (S : Nat → Prop) : Stays S (RecsS S) := RowS.stays fun j h => by
  match j, h with
  | 0, _ => exact IntS.stays S
  | 1, _ => exact IntS.stays S
  | 2, _ => exact IntS.stays S
  | 3, _ => exact StrS.stays S
  | 4, _ => exact ValsS.stays S
  | 5, _ => exact ValsS.stays S
  | 6, _ => exact IntS.stays S
  | 7, _ => exact StrS.stays S
  | 8, _ => exact ColsS.stays S
  | 9, _ => exact StrsS.stays S
  | 10, _ => exact StrS.stays S
  | 11, _ => exact StrS.stays S
theorem RecsS.good : Good RecsS := ⟨fun S => RowS.holds fun j h => by
  match j, h with
  | 0, _ => exact IntS.holds S
  | 1, _ => exact IntS.holds S
  | 2, _ => exact IntS.holds S
  | 3, _ => exact StrS.holds S
  | 4, _ => exact ValsS.good.holds S
  | 5, _ => exact ValsS.good.holds S
  | 6, _ => exact IntS.holds S
  | 7, _ => exact StrS.holds S
  | 8, _ => exact ColsS.good.holds S
  | 9, _ => exact StrsS.good.holds S
  | 10, _ => exact StrS.holds S
  | 11, _ => exact StrS.holds S, fun S S' w u hs h => RowS.mono (es := [IntS, IntS, IntS, StrS, ValsS S, ValsS S, IntS, StrS, ColsS S, StrsS S, StrS, StrS]) (es' := [IntS, IntS, IntS, StrS, ValsS S', ValsS S', IntS, StrS, ColsS S', StrsS S', StrS, StrS]) hs rfl (fun j h h' w u hu => by
  match j, h with
  | 0, _ => exact hu
  | 1, _ => exact hu
  | 2, _ => exact hu
  | 3, _ => exact hu
  | 4, _ => exact ValsS.good.mono _ _ _ _ hs hu
  | 5, _ => exact ValsS.good.mono _ _ _ _ hs hu
  | 6, _ => exact hu
  | 7, _ => exact hu
  | 8, _ => exact ColsS.good.mono _ _ _ _ hs hu
  | 9, _ => exact StrsS.good.mono _ _ _ _ hs hu
  | 10, _ => exact hu
  | 11, _ => exact hu) h⟩
/-- Copied so far, with the shape. -/
def LfillN (w : World) (B : Nat) (T : TypeId) (ts : List Lc) (k : Nat) : Prop := ∃ ys, Fill w B T 12 ts.length ys ∧ ys.length = k ∧ ∀ i (h : i < ys.length) (g : i < ts.length), Firm (B + 1) (fun u => RecN (B + 1) u ys[i] ts[i]) w
theorem RecN.size {B : Nat} {w : World} {x : Array Value} {t : Lc} (h : RecN B w x t) : x.size = 12 := h.rec.size
theorem RecN.lit {B : Nat} {w : World} {x : Array Value} {t : Lc} (h : RecN B w x t) : ∃ ka kp ra rp ca cp oa op, x = #[.int .i64 t.kind, .int .i64 t.xid, .int .i64 t.st.kind, .string t.st.table, .slice ka t.st.key.length kp, .slice ra t.st.row.length rp, .int .i64 t.st.ddl.kind, .string t.st.ddl.table, .slice ca t.st.ddl.cols.length cp, .slice oa t.st.ddl.keys.length op, .string t.st.ddl.name, .string t.st.ddl.to] ∧ True ∧ True := by
  obtain ⟨ka, kp, ra, rp, ca, cp, oa, op, e, _⟩ := h.rec.lit
  exact ⟨ka, kp, ra, rp, ca, cp, oa, op, e, trivial, trivial⟩
theorem RecN.mono {B B' : Nat} {w : World} {x : Array Value} {t : Lc} (h : RecN B w x t) (hB : B' ≤ B) : RecN B' w x t := by
  obtain ⟨k, r, c, o, e, h1, h2, h3, h4⟩ := h
  exact ⟨k, r, c, o, e, ⟨h1.1, h1.2.mono ValsS.good hB⟩, ⟨h2.1, h2.2.mono ValsS.good hB⟩, ⟨h3.1, h3.2.mono ColsS.good hB⟩, ⟨h4.1, h4.2.mono StrsS.good hB⟩⟩
theorem LfillN.on {w w' : World} {B : Nat} {T : TypeId} {ts : List Lc} {k : Nat} (h : LfillN w B T ts k) (b : Below w.heap.size w w') : LfillN w' B T ts k := by
  obtain ⟨ys, h1, h2, h3⟩ := h
  exact ⟨ys, h1.on b, h2, fun i h g => (h3 i h g).on b⟩
theorem LfillN.put {w : World} {B : Nat} {T : TypeId} {ts : List Lc} {k : Nat} (h : LfillN w B T ts k) (hk : k < ts.length) {y : Array Value} (hy : Firm (B + 1) (fun u => RecN (B + 1) u y ts[k]) w) : LfillN (stores w B (k * 12) y.toList) B T ts (k + 1) := by
  obtain ⟨ys, h1, rfl, h3⟩ := h
  refine ⟨ys ++ [y], ?_, by simp, fun i h g => ?_⟩
  · have := h1.put hk y.toList (by simpa using hy.out.size)
    simpa using this
  · by_cases hi : i < ys.length
    · rw [List.getElem_append_left hi]
      exact Firm.stores (by omega) _ _ _ (h3 i hi g)
    · simp at h
      have : i = ys.length := by omega
      subst this
      simp only [List.getElem_append_right (Nat.le_refl _), Nat.sub_self, List.getElem_cons_zero]
      exact Firm.stores (by omega) _ _ _ hy
theorem LfillN.firm {w : World} {B : Nat} {ts : List Lc} (h : LfillN w B 44 ts ts.length) (hm : ts.length ≤ 1048576) : Firm B (fun u => RecsV u (.slice (some ⟨B, 0, none⟩) ts.length ts.length) ts ∧ New RecsS B u (.slice (some ⟨B, 0, none⟩) ts.length ts.length)) w := by
  obtain ⟨ys, h1, h2, h3⟩ := h
  intro u hu
  have hF := h1.firm (Nat.le_refl _) u hu
  refine ⟨⟨_, _, ys, rfl, Nat.le_refl _, by unfold maxLen; omega, hF.row, h2, fun i h g => ((h3 i h g) u (hu.mono (by omega))).rec⟩, ?_⟩
  have hlt := hF.lt
  obtain ⟨h0, _, f, hr, hf⟩ := hF
  refine ⟨B, ts.length, ts.length, f, rfl, ⟨Nat.le_refl _, hlt⟩, hm, hr, fun i hi j hj => ?_⟩
  have hiy : i < ys.length := by omega
  have hx := (h3 i hiy hi) u (hu.mono (by omega))
  obtain ⟨k, r, c, o, ex, g1, g2, g3, g4⟩ := hx
  have e := hf i hiy j (by simpa using hj)
  rw [ex] at e
  match j, hj with
  | 0, _ => simp at e; exact ⟨_, e⟩
  | 1, _ => simp at e; exact ⟨_, e⟩
  | 2, _ => simp at e; exact ⟨_, e⟩
  | 3, _ => simp at e; exact ⟨_, e⟩
  | 4, _ => simp at e; show ValsS _ u (f (i * 12 + 4)); rw [e]; exact (g1.2.mono ValsS.good (by omega) : New ValsS B u k)
  | 5, _ => simp at e; show ValsS _ u (f (i * 12 + 5)); rw [e]; exact (g2.2.mono ValsS.good (by omega) : New ValsS B u r)
  | 6, _ => simp at e; exact ⟨_, e⟩
  | 7, _ => simp at e; exact ⟨_, e⟩
  | 8, _ => simp at e; show ColsS _ u (f (i * 12 + 8)); rw [e]; exact (g3.2.mono ColsS.good (by omega) : New ColsS B u c)
  | 9, _ => simp at e; show StrsS _ u (f (i * 12 + 9)); rw [e]; exact (g4.2.mono StrsS.good (by omega) : New StrsS B u o)
  | 10, _ => simp at e; exact ⟨_, e⟩
  | 11, _ => simp at e; exact ⟨_, e⟩

set_option maxRecDepth 100000 in
set_option maxHeartbeats 1000000 in
/-- laws.toRecS -/
theorem toRecS_full (v : Value) (ts : List Lc) (w : World) (hx : RecsV w v ts) (hf : lfews ts) :
    Calls Try.prog 14 #[v] w fun e w' => ∃ y, e = .returned y ∧ Below w.heap.size w w' ∧ Firm w.heap.size (fun u => RecsV u y ts ∧ New RecsS w.heap.size u y) w' := by
  obtain ⟨a, cap, rfl, hl, hm, hx⟩ := hx.lit
  unfold maxLen at hm
  have HX : Hid (RecsV w (.slice a ts.length cap) ts) := hx
  obtain ⟨hn, hf⟩ := hf
  have HF : Hid (∀ t ∈ ts, t.few) := hf
  clear hx hf
  have hmk := run_makes (P := Try.prog) 52 44 (.agg #[.int .i64 0, .int .i64 0, .int .i64 0, .string ByteArray.empty, .slice none 0 0, .slice none 0 0, .int .i64 0, .string ByteArray.empty, .slice none 0 0, .slice none 0 0, .string ByteArray.empty, .string ByteArray.empty]) _ 12 192 Try.underlying52 (by kernel_rfl) rfl .i64 .i64 ts.length (by omega) (by omega)
  go_enter Try.func14, Try.ntmps14
  go_wp2
  have HT : Hid (LfillN (w.alloc (.cells (madeCells #[.int .i64 0, .int .i64 0, .int .i64 0, .string ByteArray.empty, .slice none 0 0, .slice none 0 0, .int .i64 0, .string ByteArray.empty, .slice none 0 0, .slice none 0 0, .string ByteArray.empty, .string ByteArray.empty] (ts.length * 12)) 44)) w.heap.size 44 ts 0) := ⟨[], Fill.new w _ 12 ts.length _ (size_madeCells _ _), rfl, fun i h => by simp at h⟩
  go_loopw [4] (fun i wr => ∃ k : Nat, k ≤ ts.length ∧ i = .int .i64 k ∧ Below w.heap.size w wr ∧ Hid (LfillN wr w.heap.size 44 ts k)) (fun i _ => ts.length - (intOf i).toNat)
  case atStart => exact ⟨0, Nat.zero_le _, rfl, (by repeat (first | with_reducible exact Below.refl _ _ | with_reducible assumption | with_reducible refine ch_alloc ?_ _ | with_reducible refine Below.drew ?_ | with_reducible refine below_draws _ ?_ | (with_reducible refine Below.setCell ?_ ?_ _; rotate_left; focus (first | with_reducible exact Nat.le_refl _ | (simp; done) | (simp; omega) | (simp at *; omega))) | with_reducible refine ch_trans ?_ (by with_reducible assumption))), HT⟩
  case round =>
    clear HT
    obtain ⟨k, hk, rfl, hb, HT⟩ := hrel
    by_cases hlt : k < ts.length
    · have hlti : (k : Int) < ts.length := by omega
      obtain ⟨b, off, ka, kp, ra, rp, ca, cp, oa, op, rfl, hx, d0, d1, d2, d3, d4, d5, d6, d7, d8, d9, d10, d11⟩ := (HX.out.on hb).rec k hlt
      have HY : Hid (RecV wr #[.int .i64 ts[k].kind, .int .i64 ts[k].xid, .int .i64 ts[k].st.kind, .string ts[k].st.table, .slice ka ts[k].st.key.length kp, .slice ra ts[k].st.row.length rp, .int .i64 ts[k].st.ddl.kind, .string ts[k].st.ddl.table, .slice ca ts[k].st.ddl.cols.length cp, .slice oa ts[k].st.ddl.keys.length op, .string ts[k].st.ddl.name, .string ts[k].st.ddl.to] ts[k]) := hx
      clear hx
      go_wp2_with fail
      refine (toRec_full _ ts[k] _ (HY.out.on (by repeat (first | with_reducible exact Below.refl _ _ | with_reducible assumption | with_reducible refine ch_alloc ?_ _ | with_reducible refine Below.drew ?_ | with_reducible refine below_draws _ ?_ | (with_reducible refine Below.setCell ?_ ?_ _; rotate_left; focus (first | with_reducible exact Nat.le_refl _ | (simp; done) | (simp; omega) | (simp at *; omega))) | with_reducible refine ch_trans ?_ (by with_reducible assumption)))) (HF.out _ (List.getElem_mem hlt))).mono ?_
      rintro e w1 ⟨y, rfl, b1, hy⟩
      obtain ⟨ka1, kp1, ra1, rp1, ca1, cp1, oa1, op1, rfl, _, _⟩ := hy.out.lit
      have hB : w.heap.size + 1 ≤ wr.heap.size := by
        obtain ⟨ys, hF, _, _⟩ := HT.out
        exact hF.lt
      have hT1 := HT.out.on b1
      have HT' : Hid (LfillN (stores w1 w.heap.size (k * 12) [.int .i64 ts[k].kind, .int .i64 ts[k].xid, .int .i64 ts[k].st.kind, .string ts[k].st.table, .slice ka1 ts[k].st.key.length kp1, .slice ra1 ts[k].st.row.length rp1, .int .i64 ts[k].st.ddl.kind, .string ts[k].st.ddl.table, .slice ca1 ts[k].st.ddl.cols.length cp1, .slice oa1 ts[k].st.ddl.keys.length op1, .string ts[k].st.ddl.name, .string ts[k].st.ddl.to]) w.heap.size 44 ts (k + 1)) := hT1.put hlt ((hy.mono hB).imp fun u hu => hu.mono hB)
      obtain ⟨ys, hF, hyl, _⟩ := hT1
      obtain ⟨v0, v1, v2, v3, v4, v5, v6, v7, v8, v9, v10, v11, ⟨g0, g1, g2, g3, g4, g5, g6, g7, g8, g9, g10, g11⟩, f0, f1, f2, f3, f4, f5, f6, f7, f8, f9, f10, f11⟩ := hF.twelve (k := k) hyl hlt
      clear hy hF hyl
      go_wp2
      go_round
      case rel => exact ⟨k + 1, by omega, by go_num, (by repeat (first | with_reducible exact Below.refl _ _ | with_reducible assumption | with_reducible refine ch_alloc ?_ _ | with_reducible refine Below.drew ?_ | with_reducible refine below_draws _ ?_ | (with_reducible refine Below.setCell ?_ ?_ _; rotate_left; focus (first | with_reducible exact Nat.le_refl _ | (simp; done) | (simp; omega) | (simp at *; omega))) | with_reducible refine ch_trans ?_ (by with_reducible assumption))), HT'⟩
      case measure => simp [intOf]; omega
    · have hlti : (ts.length : Int) ≤ k := by omega
      obtain rfl : k = ts.length := by omega
      have HD := HT.out.firm hn
      have HD' : Hid _ := HD
      clear HD
      go_wp2
      go_ret
      exact ⟨_, rfl, (by repeat (first | with_reducible exact Below.refl _ _ | with_reducible assumption | with_reducible refine ch_alloc ?_ _ | with_reducible refine Below.drew ?_ | with_reducible refine below_draws _ ?_ | (with_reducible refine Below.setCell ?_ ?_ _; rotate_left; focus (first | with_reducible exact Nat.le_refl _ | (simp; done) | (simp; omega) | (simp at *; omega))) | with_reducible refine ch_trans ?_ (by with_reducible assumption))), HD'.out⟩
end Go.Proofs.Ytmcjchaokpcomaa
