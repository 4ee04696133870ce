/- The rows of a table, given and landed. -/
import Derived.Test.YtmkgbdgafjeeiakDbO
import Derived.Test.YtmkgbdgafjeeiakPa
import Derived.Test.YtmkgbdgafjeeiakCr
namespace Go.Proofs.Ytmkgbdgafjeeiak
open Go.ChangeShapes Go.WideShapes Go.ChangeAt Go.RowKit

/-- What is told. -/
def isRowsOf (ts : List Tc) (ds : List (List (List Vc))) (s : ByteArray) (rs : List (List Vc)) : Prop := (dbRight ts ds ∧ ∃ i : Nat, tabAt ts s = i ∧ ∃ h : i < ds.length, rs = ds[i]) ∨ ((¬ dbRight ts ds ∨ tabAt ts s = -1) ∧ rs = [])
theorem rowsOf_is (ts : List Tc) (ds : List (List (List Vc))) (s : ByteArray) : ∃ rs, isRowsOf ts ds s rs := by
  by_cases h : dbRight ts ds
  · rcases tabAt_lt ts s with h1 | ⟨i, h1, h2⟩
    · exact ⟨[], Or.inr ⟨Or.inr h1, rfl⟩⟩
    · exact ⟨_, Or.inl ⟨h, i, h1, by rw [h.2.1]; exact h2, rfl⟩⟩
  · exact ⟨[], Or.inr ⟨Or.inl h, rfl⟩⟩
theorem good_rows {t : Tc} (ht : t.right) {rs : List (List Vc)} (h : rowsGood t rs) : (∀ r ∈ rs, 1 ≤ r.length ∧ r.length ≤ 1048576) ∧ rs.length ≤ 1048576 := by
  refine ⟨fun r hr => ?_, by have := h.1; omega⟩
  obtain ⟨i, hi, rfl⟩ := List.getElem_of_mem hr
  have h1 := (h.2.1 i hi).1
  have h2 := ht.2.1
  have h3 := ht.2.2.1
  omega

set_option maxRecDepth 100000 in
set_option maxHeartbeats 2000000 in
/-- spec.RowsOf -/
theorem rowsOf_spec (cv dv : Value) (ts : List Tc) (ds : List (List (List Vc))) (s : ByteArray) (w : World) (hc : TabsV w cv ts) (hd : DataV w dv ds) (hf : fits ts) (rs : List (List Vc)) (hrs : isRowsOf ts ds s rs) :
    Calls Try.prog 17 #[.agg #[cv, dv], .string s] w fun e w' => ∃ kv, e = .returned kv ∧ Below w.heap.size w w' ∧ RowsG w' w.heap.size kv rs := by
  obtain ⟨a, p, rfl, hl, hm⟩ := hc.lit
  obtain ⟨a', p', rfl, hl', hm', _⟩ := hd.lit
  unfold maxLen at hm hm'
  have HC : Hid (TabsV w (.slice a ts.length p) ts) := hc
  have HD : Hid (DataV w (.slice a' ds.length p') ds) := hd
  have HF : Hid (fits ts) := hf
  have HRS : Hid (isRowsOf ts ds s rs) := hrs
  have HL := Loc.new w #[.slice a ts.length p, .slice a' ds.length p'] 41
  have hbv : Below w.heap.size w (w.alloc (.cells #[.slice a ts.length p, .slice a' ds.length p'] 41)) := (by repeat (first | with_reducible exact Below.refl _ _ | with_reducible assumption | with_reducible refine ch_alloc ?_ _ | with_reducible refine Below.drew ?_ | with_reducible refine below_draws _ ?_ | (with_reducible refine Below.setCell ?_ ?_ _; rotate_left; focus (first | with_reducible exact Nat.le_refl _ | (simp; done) | (simp; omega) | (simp at *; omega))) | with_reducible refine ch_trans ?_ (by with_reducible assumption)))
  clear hc hd hf hrs
  obtain ⟨l0, l1⟩ := HL.two
  go_enter Try.func17, Try.ntmps17
  go_wp2_with fail
  refine (tabAt_spec _ ts s _ (HC.out.on hbv)).mono ?_
  rintro e w1 ⟨rfl, b1⟩
  have HL1 := HL.on b1
  have hb1 := ch_trans hbv b1
  clear b1 hbv HL l0 l1
  obtain ⟨l0, l1⟩ := HL1.two
  go_wp2_with fail
  refine (dbOk_spec _ _ ts ds _ (HC.out.on hb1) (HD.out.on hb1) HF.out).mono ?_
  rintro e w2 ⟨q, rfl, hq, b2⟩
  have HQ : Hid (q = true ↔ dbRight ts ds) := hq
  have HL2 := HL1.on b2
  have hb2 := ch_trans hb1 b2
  clear b2 HL1 l0 l1 hq hb1
  obtain ⟨l0, l1⟩ := HL2.two
  cases q
  · have e0 : rs = [] := by
      rcases HRS.out with ⟨h, _⟩ | ⟨_, h⟩
      · have := HQ.out.2 h; cases this
      · exact h
    subst e0
    clear HQ HRS
    go_wp2
    go_ret
    exact ⟨_, rfl, hb2, RowsG.nil _ _⟩
  have HR : Hid (dbRight ts ds) := HQ.out.1 (by trivial)
  clear HQ
  rcases tabAt_lt ts s with h1 | ⟨i, h1, h2⟩
  · have e0 : rs = [] := by
      rcases HRS.out with ⟨_, i, h, _⟩ | ⟨_, h⟩
      · rw [h1] at h; omega
      · exact h
    subst e0
    have hneg : decide ((-1 : Int) < 0) = true := by decide
    rw [h1]
    clear HRS h1
    go_wp2
    go_ret
    exact ⟨_, rfl, hb2, RowsG.nil _ _⟩
  · have hid : i < ds.length := by rw [HR.out.2.1]; exact h2
    have e0 : rs = ds[i] := by
      rcases HRS.out with ⟨_, j, h, hj, rfl⟩ | ⟨h, _⟩
      · rw [h1] at h
        have : i = j := by omega
        subst this
        rfl
      · rcases h with h | h
        · exact absurd HR.out h
        · rw [h1] at h; omega
    have HGR : Hid ((∀ r ∈ ds[i], 1 ≤ r.length ∧ r.length ≤ 1048576) ∧ ds[i].length ≤ 1048576) := good_rows (HR.out.1.2.1 i h2) (HR.out.2.2 i h2 hid)
    subst e0
    have hidi : (i : Int) < ds.length := by omega
    have hnn : decide ((i : Int) < 0) = false := by simp
    rw [h1]
    obtain ⟨b, off, c, pc, rfl, f0, hr⟩ := (HD.out.on hb2).rw i hid
    have HX : Hid (RowsV w2 (.slice c ds[i].length pc) ds[i]) := hr
    clear HRS h1 hr
    go_wp2_with fail
    refine (l03Copy_any _ ds[i] _ HX.out HGR.out.1 HGR.out.2).mono ?_
    rintro e w3 ⟨kv, rfl, b3, hg⟩
    obtain ⟨a3, n3, c3, rfl, hg⟩ := hg.lit
    have HG : Hid (RowsG w3 w.heap.size (.slice a3 n3 c3) ds[i]) := hg.mono hb2.size
    have hb3 := ch_trans hb2 b3
    clear b3 hg
    go_wp2
    go_ret
    exact ⟨_, rfl, hb3, HG.out⟩

set_option maxRecDepth 100000 in
set_option maxHeartbeats 2000000 in
/-- impl.RowsOf -/
theorem rowsOf_impl (cv dv : Value) (ts : List Tc) (ds : List (List (List Vc))) (s : ByteArray) (w : World) (hc : TabsV w cv ts) (hd : DataV w dv ds) (hf : fits ts) (rs : List (List Vc)) (hrs : isRowsOf ts ds s rs) :
    Calls Try.prog 18 #[.agg #[cv, dv], .string s] w fun e w' => ∃ kv, e = .returned kv ∧ Below w.heap.size w w' ∧ RowsG w' w.heap.size kv rs := by
  obtain ⟨a, p, rfl, hl, hm⟩ := hc.lit
  obtain ⟨a', p', rfl, hl', hm', _⟩ := hd.lit
  unfold maxLen at hm hm'
  have HC : Hid (TabsV w (.slice a ts.length p) ts) := hc
  have HD : Hid (DataV w (.slice a' ds.length p') ds) := hd
  have HF : Hid (fits ts) := hf
  have HRS : Hid (isRowsOf ts ds s rs) := hrs
  have HL := Loc.new w #[.slice a ts.length p, .slice a' ds.length p'] 41
  have hbv : Below w.heap.size w (w.alloc (.cells #[.slice a ts.length p, .slice a' ds.length p'] 41)) := (by repeat (first | with_reducible exact Below.refl _ _ | with_reducible assumption | with_reducible refine ch_alloc ?_ _ | with_reducible refine Below.drew ?_ | with_reducible refine below_draws _ ?_ | (with_reducible refine Below.setCell ?_ ?_ _; rotate_left; focus (first | with_reducible exact Nat.le_refl _ | (simp; done) | (simp; omega) | (simp at *; omega))) | with_reducible refine ch_trans ?_ (by with_reducible assumption)))
  clear hc hd hf hrs
  obtain ⟨l0, l1⟩ := HL.two
  go_enter Try.func18, Try.ntmps18
  go_wp2_with fail
  refine (dbOk_impl _ _ ts ds _ (HC.out.on hbv) (HD.out.on hbv) HF.out).mono ?_
  rintro e w2 ⟨q, rfl, hq, b2⟩
  have HQ : Hid (q = true ↔ dbRight ts ds) := hq
  have HL2 := HL.on b2
  have hb2 := ch_trans hbv b2
  clear b2 HL l0 l1 hq hbv
  obtain ⟨l0, l1⟩ := HL2.two
  cases q
  · have e0 : rs = [] := by
      rcases HRS.out with ⟨h, _⟩ | ⟨_, h⟩
      · have := HQ.out.2 h; cases this
      · exact h
    subst e0
    clear HQ HRS
    go_wp2
    go_ret
    exact ⟨_, rfl, hb2, RowsG.nil _ _⟩
  have HR : Hid (dbRight ts ds) := HQ.out.1 (by trivial)
  clear HQ
  go_wp2_with fail
  refine (tablePlace_any _ ts s _ (HC.out.on hb2)).mono ?_
  rintro e w3 ⟨i, q, rfl, b3, hk, g1, g2, g3⟩
  have HP : Hid ((q = true ∧ i < ts.length ∧ tabAt ts s = i) ∨ (q = false ∧ tabAt ts s = -1)) := place_at HR.out.1 hk g1 g2 g3
  have HL3 := HL2.on b3
  have hb3 := ch_trans hb2 b3
  clear b3 HL2 l0 l1 g1 g2 g3 hb2
  obtain ⟨l0, l1⟩ := HL3.two
  cases q
  · have e0 : rs = [] := by
      rcases HP.out with ⟨h, _⟩ | ⟨_, h1⟩
      · cases h
      · rcases HRS.out with ⟨_, j, h, _⟩ | ⟨_, h⟩
        · rw [h1] at h; omega
        · exact h
    subst e0
    clear HRS HP
    go_wp2
    go_ret
    exact ⟨_, rfl, hb3, RowsG.nil _ _⟩
  · obtain ⟨h2, h1⟩ : i < ts.length ∧ tabAt ts s = i := by
      rcases HP.out with ⟨_, h⟩ | ⟨h, _⟩
      · exact h
      · cases h
    have hid : i < ds.length := by rw [HR.out.2.1]; exact h2
    have e0 : rs = ds[i] := by
      rcases HRS.out with ⟨_, j, h, hj, rfl⟩ | ⟨h, _⟩
      · rw [h1] at h
        have : i = j := by omega
        subst this
        rfl
      · rcases h with h | h
        · exact absurd HR.out h
        · rw [h1] at h; omega
    have HGR : Hid ((∀ r ∈ ds[i], 1 ≤ r.length ∧ r.length ≤ 1048576) ∧ ds[i].length ≤ 1048576) := good_rows (HR.out.1.2.1 i h2) (HR.out.2.2 i h2 hid)
    subst e0
    have hidi : (i : Int) < ds.length := by omega
    obtain ⟨b, off, c, pc, rfl, f0, hr⟩ := (HD.out.on hb3).rw i hid
    have HX : Hid (RowsV w3 (.slice c ds[i].length pc) ds[i]) := hr
    clear HRS h1 hr HP
    go_wp2_with fail
    refine (copyRows_any _ ds[i] _ HX.out HGR.out.1 HGR.out.2).mono ?_
    rintro e w4 ⟨kv, rfl, b4, hg⟩
    obtain ⟨a3, n3, c3, rfl, hg⟩ := hg.lit
    have HG : Hid (RowsG w4 w.heap.size (.slice a3 n3 c3) ds[i]) := hg.mono hb3.size
    have hb4 := ch_trans hb3 b4
    clear b4 hg
    go_wp2
    go_ret
    exact ⟨_, rfl, hb4, HG.out⟩
end Go.Proofs.Ytmkgbdgafjeeiak
