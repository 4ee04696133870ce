/- The rows of a table, given and landed. -/
import Derived.Test.YtbpdbhchnpnabakDbO
import Derived.Test.YtbpdbhchnpnabakOf
import Derived.Test.YtbpdbhchnpnabakCr
namespace Go.Proofs.Ytbpdbhchnpnabak
open Go.ChangeShapes Go.WideShapes Go.ChangeAt Go.RowKit

theorem less_irrefl : ∀ x : List UInt8, Op.bytesLess x x = false
  | [] => rfl
  | a :: x => by simp [Op.bytesLess, less_irrefl x]
theorem less_trans : ∀ x y z : List UInt8, Op.bytesLess x y = true → Op.bytesLess y z = true → Op.bytesLess x z = true
  | _, [], _, h, _ => by simp [Op.bytesLess] at h
  | _, _ :: _, [], _, k => by simp [Op.bytesLess] at k
  | [], _ :: _, _ :: _, _, _ => by simp [Op.bytesLess]
  | a :: x, b :: y, c :: z, h, k => by
    simp only [Op.bytesLess, Bool.or_eq_true, Bool.and_eq_true, decide_eq_true_eq, beq_iff_eq] at h k ⊢
    rcases h with h | ⟨rfl, h⟩ <;> rcases k with k | ⟨rfl, k⟩
    · exact Or.inl (UInt8.lt_trans h k)
    · exact Or.inl h
    · exact Or.inl k
    · exact Or.inr ⟨rfl, less_trans x y z h k⟩
theorem cat_rise {ts : List Tc} (h : catRight ts) : ∀ (d i : Nat) (hi : i + d + 1 < ts.length), lessB' ts[i].name ts[i + d + 1].name = true
  | 0, i, hi => h.2.2 i hi
  | d + 1, i, hi => less_trans _ _ _ (cat_rise h d i (by omega)) (h.2.2 (i + d + 1) hi)
theorem place_at {ts : List Tc} (h : catRight ts) {s : ByteArray} {k : Nat} {q : Bool} (hk : k ≤ ts.length) (h1 : ∀ j (h : j < ts.length), j < k → lessB' ts[j].name s = true) (h2 : ∀ h : k < ts.length, lessB' ts[k].name s = false ∧ (q = true ↔ ts[k].name = s)) (h3 : k = ts.length → q = false) :
    (q = true ∧ k < ts.length ∧ tabAt ts s = k) ∨ (q = false ∧ tabAt ts s = -1) := by
  have hlow : ∀ j (h : j < ts.length), j < k → ts[j].name ≠ s := fun j hj hlt e => by
    have := h1 j hj hlt
    rw [e] at this
    have h0 := less_irrefl s.toList
    unfold lessB' at this
    rw [h0] at this
    cases this
  cases q
  · refine Or.inr ⟨rfl, tabAt_none fun j hj e => ?_⟩
    rcases Nat.lt_trichotomy j k with hlt | rfl | hgt
    · exact hlow j hj hlt e
    · have := (h2 hj).2.2 e; cases this
    · have hkl : k < ts.length := by omega
      obtain ⟨d, hd⟩ : ∃ d, j = k + d + 1 := ⟨j - k - 1, by omega⟩
      subst hd
      have := cat_rise h d k hj
      rw [e] at this
      rw [(h2 hkl).1] at this
      cases this
  · have hkl : k < ts.length := by
      rcases Nat.lt_or_eq_of_le hk with h | h
      · exact h
      · have := h3 h; cases this
    exact Or.inl ⟨rfl, hkl, tabAt_some hkl ((h2 hkl).2.1 rfl) hlow⟩

/-- What is told. -/
def isRowsOf (ts : List Tc) (ds : List (List (List Vc))) (s : ByteArray) (rs : List (List Vc)) : Prop := (dbRight ts ds ∧ ∃ i : Nat, tabAt ts s = i ∧ ∃ h : i < ds.length, rs = ds[i]) ∨ ((¬ dbRight ts ds ∨ tabAt ts s = -1) ∧ rs = [])
theorem tabAt_lt (ts : List Tc) (s : ByteArray) : tabAt ts s = -1 ∨ ∃ i : Nat, tabAt ts s = i ∧ i < ts.length := by
  unfold tabAt
  cases h : ts.findIdx? (fun t => decide (t.name = s)) with
  | none => exact Or.inl rfl
  | some i => exact Or.inr ⟨i, rfl, (List.findIdx?_eq_some_iff_getElem.1 h).1⟩
theorem rowsOf_is (ts : List Tc) (ds : List (List (List Vc))) (s : ByteArray) : ∃ rs, isRowsOf ts ds s rs := by
  by_cases h : dbRight ts ds
  · rcases tabAt_lt ts s with h1 | ⟨i, h1, h2⟩
    · exact ⟨[], Or.inr ⟨Or.inr h1, rfl⟩⟩
    · exact ⟨_, Or.inl ⟨h, i, h1, by rw [h.2.1]; exact h2, rfl⟩⟩
  · exact ⟨[], Or.inr ⟨Or.inl h, rfl⟩⟩
theorem good_rows {t : Tc} (ht : t.right) {rs : List (List Vc)} (h : rowsGood t rs) : (∀ r ∈ rs, 1 ≤ r.length ∧ r.length ≤ 1048576) ∧ rs.length ≤ 1048576 := by
  refine ⟨fun r hr => ?_, by have := h.1; omega⟩
  obtain ⟨i, hi, rfl⟩ := List.getElem_of_mem hr
  have h1 := (h.2.1 i hi).1
  have h2 := ht.2.1
  have h3 := ht.2.2.1
  omega

set_option maxRecDepth 100000 in
set_option maxHeartbeats 2000000 in
/-- spec.RowsOf -/
theorem rowsOf_spec (cv dv : Value) (ts : List Tc) (ds : List (List (List Vc))) (s : ByteArray) (w : World) (hc : TabsV w cv ts) (hd : DataV w dv ds) (hf : fits ts) (rs : List (List Vc)) (hrs : isRowsOf ts ds s rs) :
    Calls Try.prog 17 #[.agg #[cv, dv], .string s] w fun e w' => ∃ kv, e = .returned kv ∧ Below w.heap.size w w' ∧ RowsG w' w.heap.size kv rs := by
  obtain ⟨a, p, rfl, hl, hm⟩ := hc.lit
  obtain ⟨a', p', rfl, hl', hm', _⟩ := hd.lit
  unfold maxLen at hm hm'
  have HC : Hid (TabsV w (.slice a ts.length p) ts) := hc
  have HD : Hid (DataV w (.slice a' ds.length p') ds) := hd
  have HF : Hid (fits ts) := hf
  have HRS : Hid (isRowsOf ts ds s rs) := hrs
  have HL := Loc.new w #[.slice a ts.length p, .slice a' ds.length p'] 41
  have hbv : Below w.heap.size w (w.alloc (.cells #[.slice a ts.length p, .slice a' ds.length p'] 41)) := (by repeat (first | with_reducible exact Below.refl _ _ | with_reducible assumption | with_reducible refine ch_alloc ?_ _ | with_reducible refine Below.drew ?_ | with_reducible refine below_draws _ ?_ | (with_reducible refine Below.setCell ?_ ?_ _; rotate_left; focus (first | with_reducible exact Nat.le_refl _ | (simp; done) | (simp; omega) | (simp at *; omega))) | with_reducible refine ch_trans ?_ (by with_reducible assumption)))
  clear hc hd hf hrs
  obtain ⟨l0, l1⟩ := HL.two
  go_enter Try.func17, Try.ntmps17
  go_wp2_with fail
  refine (tabAt_spec _ ts s _ (HC.out.on hbv)).mono ?_
  rintro e w1 ⟨rfl, b1⟩
  have HL1 := HL.on b1
  have hb1 := ch_trans hbv b1
  clear b1 hbv HL l0 l1
  obtain ⟨l0, l1⟩ := HL1.two
  go_wp2_with fail
  refine (dbOk_spec _ _ ts ds _ (HC.out.on hb1) (HD.out.on hb1) HF.out).mono ?_
  rintro e w2 ⟨q, rfl, hq, b2⟩
  have HQ : Hid (q = true ↔ dbRight ts ds) := hq
  have HL2 := HL1.on b2
  have hb2 := ch_trans hb1 b2
  clear b2 HL1 l0 l1 hq hb1
  obtain ⟨l0, l1⟩ := HL2.two
  cases q
  · have e0 : rs = [] := by
      rcases HRS.out with ⟨h, _⟩ | ⟨_, h⟩
      · have := HQ.out.2 h; cases this
      · exact h
    subst e0
    clear HQ HRS
    go_wp2
    go_ret
    exact ⟨_, rfl, hb2, RowsG.nil _ _⟩
  have HR : Hid (dbRight ts ds) := HQ.out.1 (by trivial)
  clear HQ
  rcases tabAt_lt ts s with h1 | ⟨i, h1, h2⟩
  · have e0 : rs = [] := by
      rcases HRS.out with ⟨_, i, h, _⟩ | ⟨_, h⟩
      · rw [h1] at h; omega
      · exact h
    subst e0
    have hneg : decide ((-1 : Int) < 0) = true := by decide
    rw [h1]
    clear HRS h1
    go_wp2
    go_ret
    exact ⟨_, rfl, hb2, RowsG.nil _ _⟩
  · have hid : i < ds.length := by rw [HR.out.2.1]; exact h2
    have e0 : rs = ds[i] := by
      rcases HRS.out with ⟨_, j, h, hj, rfl⟩ | ⟨h, _⟩
      · rw [h1] at h
        have : i = j := by omega
        subst this
        rfl
      · rcases h with h | h
        · exact absurd HR.out h
        · rw [h1] at h; omega
    have HGR : Hid ((∀ r ∈ ds[i], 1 ≤ r.length ∧ r.length ≤ 1048576) ∧ ds[i].length ≤ 1048576) := good_rows (HR.out.1.2.1 i h2) (HR.out.2.2 i h2 hid)
    subst e0
    have hidi : (i : Int) < ds.length := by omega
    have hnn : decide ((i : Int) < 0) = false := by simp
    rw [h1]
    obtain ⟨b, off, c, pc, rfl, f0, hr⟩ := (HD.out.on hb2).rw i hid
    have HX : Hid (RowsV w2 (.slice c ds[i].length pc) ds[i]) := hr
    clear HRS h1 hr
    go_wp2_with fail
    refine (l03Copy_any _ ds[i] _ HX.out HGR.out.1 HGR.out.2).mono ?_
    rintro e w3 ⟨kv, rfl, b3, hg⟩
    obtain ⟨a3, n3, c3, rfl, hg⟩ := hg.lit
    have HG : Hid (RowsG w3 w.heap.size (.slice a3 n3 c3) ds[i]) := hg.mono hb2.size
    have hb3 := ch_trans hb2 b3
    clear b3 hg
    go_wp2
    go_ret
    exact ⟨_, rfl, hb3, HG.out⟩

set_option maxRecDepth 100000 in
set_option maxHeartbeats 2000000 in
/-- impl.RowsOf -/
theorem rowsOf_impl (cv dv : Value) (ts : List Tc) (ds : List (List (List Vc))) (s : ByteArray) (w : World) (hc : TabsV w cv ts) (hd : DataV w dv ds) (hf : fits ts) (rs : List (List Vc)) (hrs : isRowsOf ts ds s rs) :
    Calls Try.prog 18 #[.agg #[cv, dv], .string s] w fun e w' => ∃ kv, e = .returned kv ∧ Below w.heap.size w w' ∧ RowsG w' w.heap.size kv rs := by
  obtain ⟨a, p, rfl, hl, hm⟩ := hc.lit
  obtain ⟨a', p', rfl, hl', hm', _⟩ := hd.lit
  unfold maxLen at hm hm'
  have HC : Hid (TabsV w (.slice a ts.length p) ts) := hc
  have HD : Hid (DataV w (.slice a' ds.length p') ds) := hd
  have HF : Hid (fits ts) := hf
  have HRS : Hid (isRowsOf ts ds s rs) := hrs
  have HL := Loc.new w #[.slice a ts.length p, .slice a' ds.length p'] 41
  have hbv : Below w.heap.size w (w.alloc (.cells #[.slice a ts.length p, .slice a' ds.length p'] 41)) := (by repeat (first | with_reducible exact Below.refl _ _ | with_reducible assumption | with_reducible refine ch_alloc ?_ _ | with_reducible refine Below.drew ?_ | with_reducible refine below_draws _ ?_ | (with_reducible refine Below.setCell ?_ ?_ _; rotate_left; focus (first | with_reducible exact Nat.le_refl _ | (simp; done) | (simp; omega) | (simp at *; omega))) | with_reducible refine ch_trans ?_ (by with_reducible assumption)))
  clear hc hd hf hrs
  obtain ⟨l0, l1⟩ := HL.two
  go_enter Try.func18, Try.ntmps18
  go_wp2_with fail
  refine (dbOk_impl _ _ ts ds _ (HC.out.on hbv) (HD.out.on hbv) HF.out).mono ?_
  rintro e w2 ⟨q, rfl, hq, b2⟩
  have HQ : Hid (q = true ↔ dbRight ts ds) := hq
  have HL2 := HL.on b2
  have hb2 := ch_trans hbv b2
  clear b2 HL l0 l1 hq hbv
  obtain ⟨l0, l1⟩ := HL2.two
  cases q
  · have e0 : rs = [] := by
      rcases HRS.out with ⟨h, _⟩ | ⟨_, h⟩
      · have := HQ.out.2 h; cases this
      · exact h
    subst e0
    clear HQ HRS
    go_wp2
    go_ret
    exact ⟨_, rfl, hb2, RowsG.nil _ _⟩
  have HR : Hid (dbRight ts ds) := HQ.out.1 (by trivial)
  clear HQ
  go_wp2_with fail
  refine (tablePlace_any _ ts s _ (HC.out.on hb2)).mono ?_
  rintro e w3 ⟨i, q, rfl, b3, hk, g1, g2, g3⟩
  have HP : Hid ((q = true ∧ i < ts.length ∧ tabAt ts s = i) ∨ (q = false ∧ tabAt ts s = -1)) := place_at HR.out.1 hk g1 g2 g3
  have HL3 := HL2.on b3
  have hb3 := ch_trans hb2 b3
  clear b3 HL2 l0 l1 g1 g2 g3 hb2
  obtain ⟨l0, l1⟩ := HL3.two
  cases q
  · have e0 : rs = [] := by
      rcases HP.out with ⟨h, _⟩ | ⟨_, h1⟩
      · cases h
      · rcases HRS.out with ⟨_, j, h, _⟩ | ⟨_, h⟩
        · rw [h1] at h; omega
        · exact h
    subst e0
    clear HRS HP
    go_wp2
    go_ret
    exact ⟨_, rfl, hb3, RowsG.nil _ _⟩
  · obtain ⟨h2, h1⟩ : i < ts.length ∧ tabAt ts s = i := by
      rcases HP.out with ⟨_, h⟩ | ⟨h, _⟩
      · exact h
      · cases h
    have hid : i < ds.length := by rw [HR.out.2.1]; exact h2
    have e0 : rs = ds[i] := by
      rcases HRS.out with ⟨_, j, h, hj, rfl⟩ | ⟨h, _⟩
      · rw [h1] at h
        have : i = j := by omega
        subst this
        rfl
      · rcases h with h | h
        · exact absurd HR.out h
        · rw [h1] at h; omega
    have HGR : Hid ((∀ r ∈ ds[i], 1 ≤ r.length ∧ r.length ≤ 1048576) ∧ ds[i].length ≤ 1048576) := good_rows (HR.out.1.2.1 i h2) (HR.out.2.2 i h2 hid)
    subst e0
    have hidi : (i : Int) < ds.length := by omega
    obtain ⟨b, off, c, pc, rfl, f0, hr⟩ := (HD.out.on hb3).rw i hid
    have HX : Hid (RowsV w3 (.slice c ds[i].length pc) ds[i]) := hr
    clear HRS h1 hr HP
    go_wp2_with fail
    refine (copyRows_any _ ds[i] _ HX.out HGR.out.1 HGR.out.2).mono ?_
    rintro e w4 ⟨kv, rfl, b4, hg⟩
    obtain ⟨a3, n3, c3, rfl, hg⟩ := hg.lit
    have HG : Hid (RowsG w4 w.heap.size (.slice a3 n3 c3) ds[i]) := hg.mono hb3.size
    have hb4 := ch_trans hb3 b4
    clear b4 hg
    go_wp2
    go_ret
    exact ⟨_, rfl, hb4, HG.out⟩
end Go.Proofs.Ytbpdbhchnpnabak
