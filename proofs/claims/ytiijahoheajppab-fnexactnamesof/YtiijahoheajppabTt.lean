/- The laws' copies of tables and stores, with their shape. -/
import Derived.Test.YtiijahoheajppabRt
import Derived.Test.YtiijahoheajppabDb
import Derived.Test.YtiijahoheajppabCp
namespace Go.Proofs.Ytiijahoheajppab
open Go.ChangeShapes Go.WideShapes Go.ChangeAt Go.RowKit

/-- Tables laid so far, each with memory of its own. -/
def Tnew (w : World) (B : Nat) (T : TypeId) (n k : Nat) : Prop := ∃ f, w.rowIs B T (n * 3) f ∧ ∀ i, i < k → StrS w (f (i * 3)) ∧ New ColsS (B + 1) w (f (i * 3 + 1)) ∧ New StrsS (B + 1) w (f (i * 3 + 2))
theorem Tnew.at {w w' : World} {B : Nat} {T : TypeId} {n k : Nat} (h : Tnew w B T n k) (b : Below w.heap.size w w') : Tnew w' B T n k := by
  obtain ⟨f, hr, hf⟩ := h
  exact ⟨f, hr.of_block (b.block B hr.lt), fun i hi => ⟨(hf i hi).1, (hf i hi).2.1.on ColsS.good b, (hf i hi).2.2.on StrsS.good b⟩⟩
theorem Tnew.put {w : World} {B : Nat} {T : TypeId} {n k : Nat} (h : Tnew w B T n k) {s : ByteArray} {c o : Value} (hc : New ColsS (B + 1) w c) (ho : New StrsS (B + 1) w o) : Tnew (stores w B (k * 3) [.string s, c, o]) B T n (k + 1) := by
  obtain ⟨f, hr, hf⟩ := h
  have hA : Apart (B + 1) w (stores w B (k * 3) [.string s, c, o]) := by
    simp only [stores]
    exact (((Apart.refl _ _).set (by simp) _).set (by simp) _).set (by simp) _
  refine ⟨_, ((hr.set (k * 3) (.string s)).set (k * 3 + 1) c).set (k * 3 + 1 + 1) o, fun i hi => ?_⟩
  by_cases e : i = k
  · subst e
    have e1 : ¬ (i * 3 = i * 3 + 1 + 1) := by omega
    have e2 : ¬ (i * 3 = i * 3 + 1) := by omega
    have e3 : ¬ (i * 3 + 1 = i * 3 + 1 + 1) := by omega
    simp only [if_neg e1, if_neg e2, if_neg e3, if_true]
    exact ⟨⟨s, rfl⟩, hc.at ColsS.good hA, ho.at StrsS.good hA⟩
  · have e1 : ¬ (i * 3 = k * 3 + 1 + 1) := by omega
    have e2 : ¬ (i * 3 = k * 3 + 1) := by omega
    have e3 : ¬ (i * 3 = k * 3) := by omega
    have e4 : ¬ (i * 3 + 1 = k * 3 + 1 + 1) := by omega
    have e5 : ¬ (i * 3 + 1 = k * 3 + 1) := by omega
    have e6 : ¬ (i * 3 + 1 = k * 3) := by omega
    have e7 : ¬ (i * 3 + 2 = k * 3 + 1 + 1) := by omega
    have e8 : ¬ (i * 3 + 2 = k * 3 + 1) := by omega
    have e9 : ¬ (i * 3 + 2 = k * 3) := by omega
    simp only [if_neg e1, if_neg e2, if_neg e3, if_neg e4, if_neg e5, if_neg e6, if_neg e7, if_neg e8, if_neg e9]
    obtain ⟨h1, h2, h3⟩ := hf i (by omega)
    exact ⟨h1, h2.at ColsS.good hA, h3.at StrsS.good hA⟩
theorem Tnew.done {w : World} {B : Nat} {n : Nat} (h : Tnew w B 47 n n) (hn : n ≤ 1048576) : New TabsS B w (.slice (some ⟨B, 0, none⟩) n n) := by
  obtain ⟨f, hr, hf⟩ := h
  refine ⟨B, n, n, f, rfl, ⟨Nat.le_refl _, hr.lt⟩, hn, hr, fun i hi j hj => ?_⟩
  match j, hj with
  | 0, _ => exact (hf i hi).1
  | 1, _ => exact (hf i hi).2.1.mono ColsS.good (Nat.le_succ B)
  | 2, _ => exact (hf i hi).2.2.mono StrsS.good (Nat.le_succ B)

set_option maxRecDepth 100000 in
set_option maxHeartbeats 1000000 in
/-- laws.toTableS -/
theorem toTableS_full (v : Value) (ts : List Tc) (w : World) (hx : TabsV w v ts) (hf : fews ts) :
    Calls Try.prog 47 #[v] w fun e w' => ∃ y, e = .returned y ∧ Below w.heap.size w w' ∧ TabsN w' y ts w.heap.size ∧ New TabsS w.heap.size w' y := by
  obtain ⟨a, cap, rfl, hl, hm⟩ := hx.lit
  unfold maxLen at hm
  have HX : Hid (TabsV w (.slice a ts.length cap) ts) := hx
  obtain ⟨hn, hf⟩ := hf
  have HF : Hid (∀ t ∈ ts, t.few) := hf
  clear hx hf
  have hmk := run_makes (P := Try.prog) 32 47 (.agg #[.string ByteArray.empty, .slice none 0 0, .slice none 0 0]) _ 3 64 Try.underlying32 (by kernel_rfl) rfl .i64 .i64 ts.length (by omega) (by omega)
  go_enter Try.func47, Try.ntmps47
  go_wp2
  have HT : Hid (Tfill (w.alloc (.cells (madeCells #[.string ByteArray.empty, .slice none 0 0, .slice none 0 0] (ts.length * 3)) 47)) w.heap.size 47 ts 0) := ⟨[], Fill.new w _ 3 ts.length _ (size_madeCells _ _), rfl, fun i h => by simp at h⟩
  have HN0 : Hid (Tnew (w.alloc (.cells (madeCells #[.string ByteArray.empty, .slice none 0 0, .slice none 0 0] (ts.length * 3)) 47)) w.heap.size 47 ts.length 0) := by
    obtain ⟨f, hr⟩ := (Fill.new w 47 3 ts.length _ (size_madeCells #[.string ByteArray.empty, .slice none 0 0, .slice none 0 0] (ts.length * 3))).rowIs
    exact ⟨f, hr, fun i h => by omega⟩
  go_loopw [4] (fun i wr => ∃ k : Nat, k ≤ ts.length ∧ i = .int .i64 k ∧ Below w.heap.size w wr ∧ Hid (Tfill wr w.heap.size 47 ts k) ∧ Hid (Tnew wr w.heap.size 47 ts.length k)) (fun i _ => ts.length - (intOf i).toNat)
  case atStart => exact ⟨0, Nat.zero_le _, rfl, (by repeat (first | with_reducible exact Below.refl _ _ | with_reducible assumption | with_reducible refine ch_alloc ?_ _ | with_reducible refine Below.drew ?_ | with_reducible refine below_draws _ ?_ | (with_reducible refine Below.setCell ?_ ?_ _; rotate_left; focus (first | with_reducible exact Nat.le_refl _ | (simp; done) | (simp; omega) | (simp at *; omega))) | with_reducible refine ch_trans ?_ (by with_reducible assumption))), HT, HN0⟩
  case round =>
    clear HT HN0
    obtain ⟨k, hk, rfl, hb, HT, HN⟩ := hrel
    by_cases hlt : k < ts.length
    · have hlti : (k : Int) < ts.length := by omega
      obtain ⟨b, off, c1, p1, c2, p2, rfl, d0, d1, d2, hx⟩ := (HX.out.on hb).tab k hlt
      have HY : Hid (TabV wr #[.string ts[k].name, .slice c1 ts[k].cols.length p1, .slice c2 ts[k].keys.length p2] ts[k]) := hx
      clear hx
      go_wp2_with fail
      refine (toTable_full _ ts[k] _ (HY.out.on (by repeat (first | with_reducible exact Below.refl _ _ | with_reducible assumption | with_reducible refine ch_alloc ?_ _ | with_reducible refine Below.drew ?_ | with_reducible refine below_draws _ ?_ | (with_reducible refine Below.setCell ?_ ?_ _; rotate_left; focus (first | with_reducible exact Nat.le_refl _ | (simp; done) | (simp; omega) | (simp at *; omega))) | with_reducible refine ch_trans ?_ (by with_reducible assumption)))) (HF.out _ (List.getElem_mem hlt))).mono ?_
      rintro e w1 ⟨B1, B2, rfl, hB1, hB2, b1, hf1, hf2⟩
      obtain ⟨hc4, hk4⟩ := HF.out _ (List.getElem_mem hlt)
      have hx4 : TabV w1 #[.string ts[k].name, .slice (some ⟨B1, 0, none⟩) ts[k].cols.length ts[k].cols.length, .slice (some ⟨B2, 0, none⟩) ts[k].keys.length ts[k].keys.length] ts[k] := ⟨_, _, rfl, hf1.colsV (by unfold maxLen; omega), hf2.strsV (by unfold maxLen; omega)⟩
      have hyf : ∀ v ∈ (#[.string ts[k].name, .slice (some ⟨B1, 0, none⟩) ts[k].cols.length ts[k].cols.length, .slice (some ⟨B2, 0, none⟩) ts[k].keys.length ts[k].keys.length] : Array Value).toList, From v wr.heap.size := fun v hv => by
        simp at hv
        rcases hv with rfl | rfl | rfl
        · intro a n c e; cases e
        · exact (from_new _ _ _).mono hB1
        · exact (from_new _ _ _).mono (by omega)
      have hB : w.heap.size + 1 ≤ wr.heap.size := by
        obtain ⟨ys, hF, _, _⟩ := HT.out
        exact hF.lt
      have hT1 := HT.out.on b1
      have HT' : Hid (Tfill (stores w1 w.heap.size (k * 3) [.string ts[k].name, .slice (some ⟨B1, 0, none⟩) ts[k].cols.length ts[k].cols.length, .slice (some ⟨B2, 0, none⟩) ts[k].keys.length ts[k].keys.length]) w.heap.size 47 ts (k + 1)) := hT1.put hlt hx4 (fun v hv => (hyf v hv).mono hB) rfl
      have HN' : Hid (Tnew (stores w1 w.heap.size (k * 3) [.string ts[k].name, .slice (some ⟨B1, 0, none⟩) ts[k].cols.length ts[k].cols.length, .slice (some ⟨B2, 0, none⟩) ts[k].keys.length ts[k].keys.length]) w.heap.size 47 ts.length (k + 1)) := (HN.out.at b1).put ((hf1.colsN hc4).mono ColsS.good (by omega)) ((hf2.strsN hk4).mono StrsS.good (by omega))
      obtain ⟨ys, hF, hyl, _⟩ := hT1
      obtain ⟨v0, v1, v2, ⟨g0, g1, g2⟩, f0, f1, f2⟩ := hF.three (k := k) hyl hlt
      clear hyf hx4 hF hyl hf1 hf2
      go_wp2
      go_round
      case rel => exact ⟨k + 1, by omega, by go_num, (by repeat (first | with_reducible exact Below.refl _ _ | with_reducible assumption | with_reducible refine ch_alloc ?_ _ | with_reducible refine Below.drew ?_ | with_reducible refine below_draws _ ?_ | (with_reducible refine Below.setCell ?_ ?_ _; rotate_left; focus (first | with_reducible exact Nat.le_refl _ | (simp; done) | (simp; omega) | (simp at *; omega))) | with_reducible refine ch_trans ?_ (by with_reducible assumption))), HT', HN'⟩
      case measure => simp [intOf]; omega
    · have hlti : (ts.length : Int) ≤ k := by omega
      obtain rfl : k = ts.length := by omega
      have HD := HT.out.done (by unfold maxLen; omega)
      have HD' : Hid _ := HD
      clear HD
      go_wp2
      go_ret
      exact ⟨_, rfl, (by repeat (first | with_reducible exact Below.refl _ _ | with_reducible assumption | with_reducible refine ch_alloc ?_ _ | with_reducible refine Below.drew ?_ | with_reducible refine below_draws _ ?_ | (with_reducible refine Below.setCell ?_ ?_ _; rotate_left; focus (first | with_reducible exact Nat.le_refl _ | (simp; done) | (simp; omega) | (simp at *; omega))) | with_reducible refine ch_trans ?_ (by with_reducible assumption))), HD'.out, HN.out.done (by omega)⟩
set_option maxRecDepth 100000 in
set_option maxHeartbeats 1000000 in
/-- laws.toCat -/
theorem toCat_full (v : Value) (ts : List Tc) (w : World) (hx : TabsV w v ts) (hf : fews ts) :
    Calls Try.prog 23 #[.agg #[v]] w fun e w' => ∃ y, e = .returned (.agg #[y]) ∧ Below w.heap.size w w' ∧ TabsN w' y ts w.heap.size ∧ New TabsS w.heap.size w' y := by
  obtain ⟨a, cap, rfl, hl, hm⟩ := hx.lit
  have HX : Hid (TabsV w (.slice a ts.length cap) ts) := hx
  clear hx
  go_enter Try.func23, Try.ntmps23
  go_wp2_with fail
  refine (toTableS_full _ ts _ (HX.out.on (by repeat (first | with_reducible exact Below.refl _ _ | with_reducible assumption | with_reducible refine ch_alloc ?_ _ | with_reducible refine Below.drew ?_ | with_reducible refine below_draws _ ?_ | (with_reducible refine Below.setCell ?_ ?_ _; rotate_left; focus (first | with_reducible exact Nat.le_refl _ | (simp; done) | (simp; omega) | (simp at *; omega))) | with_reducible refine ch_trans ?_ (by with_reducible assumption)))) hf).mono ?_
  rintro e w1 ⟨y, rfl, b1, hy, hnw⟩
  obtain ⟨a1, p1, rfl, _, _⟩ := hy.1.lit
  have HY : Hid (TabsN w1 (.slice a1 ts.length p1) ts (w.heap.size + 1 + 1 + 1)) := by show TabsN _ _ _ _; simpa using hy
  have HO : Own w1 (w.heap.size + 1 + 1) 34 #[.slice none 0 0] := (Own.at ((w.alloc (.cells #[.slice a ts.length cap] 24)).alloc (.cells #[.slice none 0 0] 34)) _ _ (by simp)).on b1
  have HQ : Own w1 (w.heap.size + 1) 34 #[.slice none 0 0] := ((Own.at (w.alloc (.cells #[.slice a ts.length cap] 24)) _ _ (by simp)).on (ch_alloc (Below.refl _ _) _)).on b1
  have HW : Hid (New TabsS (w.heap.size + 1 + 1 + 1) w1 (.slice a1 ts.length p1)) := by show New _ _ _ _; simpa using hnw
  clear hy hnw
  have d0 := HO.loc.one
  have f0 := HO.frozen 0
  have g0 := HQ.loc.one
  have i0 := HQ.frozen 0
  go_wp2
  have HB : Hid (Below w.heap.size w ((w1.setCell ⟨w.heap.size + 1 + 1, 0, none⟩ (.slice a1 ts.length p1)).setCell ⟨w.heap.size + 1, 0, none⟩ (.slice a1 ts.length p1))) := by
    show Below _ _ _
    exact (by repeat (first | with_reducible exact Below.refl _ _ | with_reducible assumption | with_reducible refine ch_alloc ?_ _ | with_reducible refine Below.drew ?_ | with_reducible refine below_draws _ ?_ | (with_reducible refine Below.setCell ?_ ?_ _; rotate_left; focus (first | with_reducible exact Nat.le_refl _ | (simp; done) | (simp; omega) | (simp at *; omega))) | with_reducible refine ch_trans ?_ (by with_reducible assumption)))
  have HQ3 : Own ((w1.setCell ⟨w.heap.size + 1 + 1, 0, none⟩ (.slice a1 ts.length p1)).setCell ⟨w.heap.size + 1, 0, none⟩ (.slice a1 ts.length p1)) _ _ #[.slice a1 ts.length p1] := (HQ.other (p := ⟨w.heap.size + 1 + 1, 0, none⟩) (by simp) (.slice a1 ts.length p1)).set 0 (.slice a1 ts.length p1)
  have HY3 : Hid (TabsN ((w1.setCell ⟨w.heap.size + 1 + 1, 0, none⟩ (.slice a1 ts.length p1)).setCell ⟨w.heap.size + 1, 0, none⟩ (.slice a1 ts.length p1)) (.slice a1 ts.length p1) ts (w.heap.size + 1 + 1 + 1)) := (HY.out.set (by simp) _).set (by simp) _
  have HW3 : Hid (New TabsS (w.heap.size + 1 + 1 + 1) ((w1.setCell ⟨w.heap.size + 1 + 1, 0, none⟩ (.slice a1 ts.length p1)).setCell ⟨w.heap.size + 1, 0, none⟩ (.slice a1 ts.length p1)) (.slice a1 ts.length p1)) := (HW.out.set TabsS.good (by simp) _).set TabsS.good (by simp) _
  generalize ((w1.setCell ⟨w.heap.size + 1 + 1, 0, none⟩ (.slice a1 ts.length p1)).setCell ⟨w.heap.size + 1, 0, none⟩ (.slice a1 ts.length p1)) = W at HQ3 HB HY3 HW3 ⊢
  have e0 := HQ3.loc.one
  exact bodyPost_ret (v := .agg #[.slice a1 ts.length p1]) (by simp [results, Try.results23, go_sem, e0]) rfl ⟨_, rfl, HB.out, HY3.out.mono (by omega), HW3.out.mono TabsS.good (by omega)⟩

set_option maxRecDepth 100000 in
set_option maxHeartbeats 1000000 in
/-- laws.toDb -/
theorem toDb_full (cv dv : Value) (ts : List Tc) (ds : List (List (List Vc))) (w : World) (hc : TabsV w cv ts) (hd : DataV w dv ds) (hf : fews ts) (hg : dfews ds) :
    Calls Try.prog 7 #[.agg #[cv, dv]] w fun e w' => ∃ y z, e = .returned (.agg #[y, z]) ∧ Below w.heap.size w w' ∧ Firm w.heap.size (fun u => TabsV u y ts ∧ DataV u z ds) w' ∧ New TabsS w.heap.size w' y ∧ New DataS w.heap.size w' z := by
  obtain ⟨a, p, rfl, _, _⟩ := hc.lit
  obtain ⟨b, q, rfl, _, _, _⟩ := hd.lit
  have HC : Hid (TabsV w (.slice a ts.length p) ts) := hc
  have HD : Hid (DataV w (.slice b ds.length q) ds) := hd
  have hdl : ds.length ≤ maxLen := by have := hg.1; unfold maxLen; omega
  have HF : Hid (fews ts) := hf
  have HG : Hid (dfews ds) := hg
  have HL := Loc.new w #[.slice a ts.length p, .slice b ds.length q] 27
  clear hc hd hf hg
  go_enter Try.func7, Try.ntmps7
  go_wp2_with fail
  refine (toCat_full _ ts _ (HC.out.on (by repeat (first | with_reducible exact Below.refl _ _ | with_reducible assumption | with_reducible refine ch_alloc ?_ _ | with_reducible refine Below.drew ?_ | with_reducible refine below_draws _ ?_ | (with_reducible refine Below.setCell ?_ ?_ _; rotate_left; focus (first | with_reducible exact Nat.le_refl _ | (simp; done) | (simp; omega) | (simp at *; omega))) | with_reducible refine ch_trans ?_ (by with_reducible assumption)))) HF.out).mono ?_
  rintro e w1 ⟨y, rfl, b1, hy, hnw⟩
  obtain ⟨a1, p1, rfl, _, _⟩ := hy.1.lit
  have HY : Hid (Firm (w.heap.size + 1 + 1 + 1) (fun u => TabsV u (.slice a1 ts.length p1) ts) w1) := by show Firm _ _ _; simpa using hy.firm
  have HW : Hid (New TabsS (w.heap.size + 1 + 1 + 1) w1 (.slice a1 ts.length p1)) := by show New _ _ _ _; simpa using hnw
  clear hy hnw
  have HL1 := HL.on (w' := w1) (by repeat (first | with_reducible exact Below.refl _ _ | with_reducible assumption | with_reducible refine ch_alloc ?_ _ | with_reducible refine Below.drew ?_ | with_reducible refine below_draws _ ?_ | (with_reducible refine Below.setCell ?_ ?_ _; rotate_left; focus (first | with_reducible exact Nat.le_refl _ | (simp; done) | (simp; omega) | (simp at *; omega))) | with_reducible refine ch_trans ?_ (by with_reducible assumption)))
  have HO : Own w1 (w.heap.size + 1 + 1) 37 #[.slice none 0 0, .slice none 0 0] := (Own.at ((w.alloc (.cells #[.slice a ts.length p, .slice b ds.length q] 27)).alloc (.cells #[.slice none 0 0, .slice none 0 0] 37)) _ _ (by simp)).on b1
  have HQ : Own w1 (w.heap.size + 1) 37 #[.slice none 0 0, .slice none 0 0] := ((Own.at (w.alloc (.cells #[.slice a ts.length p, .slice b ds.length q] 27)) _ _ (by simp)).on (ch_alloc (Below.refl _ _) _)).on b1
  have hsz : w.heap.size + 1 + 1 + 1 ≤ w1.heap.size := by simpa using b1.size
  obtain ⟨c0, c1⟩ := HL1.two
  obtain ⟨d0, d1⟩ := HO.loc.two
  have f0 := HO.frozen 0
  go_wp2_with fail
  have hb1 : Below w.heap.size w (w1.setCell ⟨w.heap.size + 1 + 1, 0, none⟩ (.slice a1 ts.length p1)) := (by repeat (first | with_reducible exact Below.refl _ _ | with_reducible assumption | with_reducible refine ch_alloc ?_ _ | with_reducible refine Below.drew ?_ | with_reducible refine below_draws _ ?_ | (with_reducible refine Below.setCell ?_ ?_ _; rotate_left; focus (first | with_reducible exact Nat.le_refl _ | (simp; done) | (simp; omega) | (simp at *; omega))) | with_reducible refine ch_trans ?_ (by with_reducible assumption)))
  have HY1 : Hid (Firm (w.heap.size + 1 + 1 + 1) (fun u => TabsV u (.slice a1 ts.length p1) ts) (w1.setCell ⟨w.heap.size + 1 + 1, 0, none⟩ (.slice a1 ts.length p1))) := HY.out.set (by simp) _
  have HO1 : Own (w1.setCell ⟨w.heap.size + 1 + 1, 0, none⟩ (.slice a1 ts.length p1)) (w.heap.size + 1 + 1) 37 #[.slice a1 ts.length p1, .slice none 0 0] := HO.set 0 _
  have HQ1 : Own (w1.setCell ⟨w.heap.size + 1 + 1, 0, none⟩ (.slice a1 ts.length p1)) (w.heap.size + 1) 37 #[.slice none 0 0, .slice none 0 0] := HQ.other (by simp) _
  have hsz1 : w.heap.size + 1 + 1 + 1 ≤ (w1.setCell ⟨w.heap.size + 1 + 1, 0, none⟩ (.slice a1 ts.length p1)).heap.size := by simpa using hsz
  have HW1 : Hid (New TabsS (w.heap.size + 1 + 1 + 1) (w1.setCell ⟨w.heap.size + 1 + 1, 0, none⟩ (.slice a1 ts.length p1)) (.slice a1 ts.length p1)) := HW.out.set TabsS.good (by simp) _
  clear HW HY HO HQ hsz c0 c1 d0 d1 f0 HL1
  generalize w1.setCell ⟨w.heap.size + 1 + 1, 0, none⟩ (.slice a1 ts.length p1) = w2 at hb1 HY1 HO1 HQ1 hsz1 HW1 ⊢
  refine (toRowsS_full _ ds _ (HD.out.on hb1) HG.out).mono ?_
  rintro e w3 ⟨B, rfl, hB, b3, hf, hnd⟩
  have HZ : Hid (Firm (w.heap.size + 1 + 1 + 1) (fun u => DataV u (.slice (some ⟨B, 0, none⟩) ds.length ds.length) ds) w3) := (hf.firm hdl).mono (by omega)
  have HY3 : Hid (Firm (w.heap.size + 1 + 1 + 1) (fun u => TabsV u (.slice a1 ts.length p1) ts) w3) := HY1.out.on b3
  have HW3 : Hid (New TabsS (w.heap.size + 1 + 1 + 1) w3 (.slice a1 ts.length p1)) := HW1.out.on TabsS.good b3
  have HE3 : Hid (New DataS (w.heap.size + 1 + 1 + 1) w3 (.slice (some ⟨B, 0, none⟩) ds.length ds.length)) := hnd.mono DataS.good (by omega)
  have HO3 := HO1.on b3
  have HQ3 := HQ1.on b3
  have hb3 : Below w.heap.size w w3 := ch_trans hb1 b3
  clear hf hB hnd HW1 HY1 HO1 HQ1 b3 hb1
  obtain ⟨d0, d1⟩ := HO3.loc.two
  have f1 := HO3.frozen 1
  obtain ⟨g0, g1⟩ := HQ3.loc.two
  have i0 := HQ3.frozen 0
  have i1 := HQ3.frozen 1
  go_wp2
  have HQ4 : Own _ _ _ #[.slice a1 ts.length p1, .slice (some ⟨B, 0, none⟩) ds.length ds.length] := ((HQ3.other (p := ⟨w.heap.size + 1 + 1, 1, none⟩) (by simp) (.slice (some ⟨B, 0, none⟩) ds.length ds.length)).set 0 (.slice a1 ts.length p1)).set 1 (.slice (some ⟨B, 0, none⟩) ds.length ds.length)
  have HF4 : Hid (Firm (w.heap.size + 1 + 1 + 1) (fun u => TabsV u (.slice a1 ts.length p1) ts ∧ DataV u (.slice (some ⟨B, 0, none⟩) ds.length ds.length) ds) (((w3.setCell ⟨w.heap.size + 1 + 1, 1, none⟩ (.slice (some ⟨B, 0, none⟩) ds.length ds.length)).setCell ⟨w.heap.size + 1, 0, none⟩ (.slice a1 ts.length p1)).setCell ⟨w.heap.size + 1, 1, none⟩ (.slice (some ⟨B, 0, none⟩) ds.length ds.length))) := (((HY3.out.and HZ.out).set (by simp) _).set (by simp) _).set (by simp) _
  have HB : Hid (Below w.heap.size w (((w3.setCell ⟨w.heap.size + 1 + 1, 1, none⟩ (.slice (some ⟨B, 0, none⟩) ds.length ds.length)).setCell ⟨w.heap.size + 1, 0, none⟩ (.slice a1 ts.length p1)).setCell ⟨w.heap.size + 1, 1, none⟩ (.slice (some ⟨B, 0, none⟩) ds.length ds.length))) := by
    show Below _ _ _
    exact (by repeat (first | with_reducible exact Below.refl _ _ | with_reducible assumption | with_reducible refine ch_alloc ?_ _ | with_reducible refine Below.drew ?_ | with_reducible refine below_draws _ ?_ | (with_reducible refine Below.setCell ?_ ?_ _; rotate_left; focus (first | with_reducible exact Nat.le_refl _ | (simp; done) | (simp; omega) | (simp at *; omega))) | with_reducible refine ch_trans ?_ (by with_reducible assumption)))
  have HW4 : Hid (New TabsS (w.heap.size + 1 + 1 + 1) (((w3.setCell ⟨w.heap.size + 1 + 1, 1, none⟩ (.slice (some ⟨B, 0, none⟩) ds.length ds.length)).setCell ⟨w.heap.size + 1, 0, none⟩ (.slice a1 ts.length p1)).setCell ⟨w.heap.size + 1, 1, none⟩ (.slice (some ⟨B, 0, none⟩) ds.length ds.length)) (.slice a1 ts.length p1)) := ((HW3.out.set TabsS.good (by simp) _).set TabsS.good (by simp) _).set TabsS.good (by simp) _
  have HE4 : Hid (New DataS (w.heap.size + 1 + 1 + 1) (((w3.setCell ⟨w.heap.size + 1 + 1, 1, none⟩ (.slice (some ⟨B, 0, none⟩) ds.length ds.length)).setCell ⟨w.heap.size + 1, 0, none⟩ (.slice a1 ts.length p1)).setCell ⟨w.heap.size + 1, 1, none⟩ (.slice (some ⟨B, 0, none⟩) ds.length ds.length)) (.slice (some ⟨B, 0, none⟩) ds.length ds.length)) := ((HE3.out.set DataS.good (by simp) _).set DataS.good (by simp) _).set DataS.good (by simp) _
  generalize (((w3.setCell ⟨w.heap.size + 1 + 1, 1, none⟩ (.slice (some ⟨B, 0, none⟩) ds.length ds.length)).setCell ⟨w.heap.size + 1, 0, none⟩ (.slice a1 ts.length p1)).setCell ⟨w.heap.size + 1, 1, none⟩ (.slice (some ⟨B, 0, none⟩) ds.length ds.length)) = W at HQ4 HB HF4 HW4 HE4 ⊢
  obtain ⟨e0, e1⟩ := HQ4.loc.two
  exact bodyPost_ret (v := .agg #[.slice a1 ts.length p1, .slice (some ⟨B, 0, none⟩) ds.length ds.length]) (by simp [results, Try.results7, go_sem, e0, e1]) rfl ⟨_, _, rfl, HB.out, HF4.out.mono (by omega), HW4.out.mono TabsS.good (by omega), HE4.out.mono DataS.good (by omega)⟩
end Go.Proofs.Ytiijahoheajppab
