/- The names of a table's columns and keys, given and landed. -/
import Derived.Test.YtiijahoheajppabHeldS
import Derived.Test.YtiijahoheajppabNc
import Derived.Test.YtiijahoheajppabNc
import Derived.Test.YtiijahoheajppabOrd
namespace Go.Proofs.Ytiijahoheajppab
open Go.ChangeShapes Go.WideShapes Go.ChangeAt Go.RowKit

/-- What is told. -/
def isNames (ts : List Tc) (ds : List (List (List Vc))) (s : ByteArray) (cs ks : List ByteArray) : Prop := (dbRight ts ds ∧ ∃ i : Nat, tabAt ts s = i ∧ ∃ h : i < ts.length, cs = colNames ts[i] ∧ ks = ts[i].keys) ∨ ((¬ dbRight ts ds ∨ tabAt ts s = -1) ∧ cs = [] ∧ ks = [])
theorem names_is (ts : List Tc) (ds : List (List (List Vc))) (s : ByteArray) : ∃ cs ks, isNames ts ds s cs ks ∧ cs.length ≤ 1000 ∧ ks.length ≤ 1000 := by
  by_cases h : dbRight ts ds
  · rcases tabAt_lt ts s with h1 | ⟨i, h1, h2⟩
    · exact ⟨[], [], Or.inr ⟨Or.inr h1, rfl, rfl⟩, by simp, by simp⟩
    · have hr := h.1.2.1 i h2
      have hk := right_keys hr
      have hc := hr.2.2.1
      exact ⟨_, _, Or.inl ⟨h, i, h1, h2, rfl, rfl⟩, by simp [colNames]; omega, by omega⟩
  · exact ⟨[], [], Or.inr ⟨Or.inl h, rfl, rfl⟩, by simp, by simp⟩
/-- Two lists of texts of the call's own, the second in a later block. -/
def Two (w : World) (B : Nat) (v0 v1 : Value) (cs ks : List ByteArray) : Prop := ∃ B1, B ≤ B1 ∧ Got w B 9 1 v0 (cs.map strX) ∧ (∀ c, v0.ownBlock = some c → c < B1) ∧ Got w B1 9 1 v1 (ks.map strX)
theorem Two.on {w w' : World} {B : Nat} {v0 v1 : Value} {cs ks : List ByteArray} (h : Two w B v0 v1 cs ks) (k : Below w.heap.size w w') : Two w' B v0 v1 cs ks := by
  obtain ⟨B1, h0, h1, h2, h3⟩ := h
  exact ⟨B1, h0, h1.on k, h2, h3.on k⟩
theorem Two.mono {w : World} {B B' : Nat} {v0 v1 : Value} {cs ks : List ByteArray} (h : Two w B v0 v1 cs ks) (k : B' ≤ B) : Two w B' v0 v1 cs ks := by
  obtain ⟨B1, h0, h1, h2, h3⟩ := h
  exact ⟨B1, by omega, h1.mono k, h2, h3⟩
theorem Two.nil (w : World) (B : Nat) : Two w B (.slice none 0 0) (.slice none 0 0) [] [] := ⟨B, Nat.le_refl _, Got.nil _ _ _ _, by simp [Value.ownBlock], Got.nil _ _ _ _⟩
theorem Two.turned {w w' : World} {B : Nat} {v0 v1 : Value} {cs ks : List ByteArray} (h : Two w B v0 v1 cs ks) {S : Nat → Prop} (k : Turns S w w') (hS : ∀ c, S c → c < B) : Two w' B v0 v1 cs ks := by
  obtain ⟨B1, h0, h1, h2, h3⟩ := h
  exact ⟨B1, h0, h1.turns k hS, h2, h3.turns k fun c hc => by have := hS c hc; omega⟩
theorem Two.lit {w : World} {B : Nat} {v0 v1 : Value} {cs ks : List ByteArray} (h : Two w B v0 v1 cs ks) : ∃ a n c b m d, v0 = .slice a n c ∧ v1 = .slice b m d ∧ Two w B (.slice a n c) (.slice b m d) cs ks := by
  obtain ⟨B1, h0, h1, h2, h3⟩ := h
  obtain ⟨a, n, c, rfl, h1⟩ := h1.lit2
  obtain ⟨b, m, d, rfl, h3⟩ := h3.lit2
  exact ⟨a, n, c, b, m, d, rfl, rfl, B1, h0, h1, h2, h3⟩
theorem Two.strs {w : World} {B : Nat} {v0 v1 : Value} {cs ks : List ByteArray} (h : Two w B v0 v1 cs ks) : StrsV w v0 cs ∧ StrsV w v1 ks := by
  obtain ⟨B1, h0, h1, h2, h3⟩ := h
  exact ⟨h1.strs, h3.strs⟩
theorem Got.hd_lt' {w : World} {B : Nat} {T : TypeId} {z : Nat} {v : Value} {xs : List (Array Value)} (h : Got w B T z v xs) (c : Nat) (hc : v.ownBlock = some c) : c < w.heap.size := by
  obtain ⟨cur, h1⟩ := h.tag hc
  exact (Array.getElem?_eq_some_iff.1 h1).1
theorem str_all (s : ByteArray) : ∀ u ∈ (strX s).toList, u.oneCell' = true := by intro u hu; simp at hu; subst hu; rfl

set_option maxRecDepth 100000 in
set_option maxHeartbeats 2000000 in
/-- impl.namesIn -/
theorem namesIn_any (cv : Value) (ts : List Tc) (s : ByteArray) (w : World) (hc : TabsV w cv ts) (hr : catRight ts) :
    Calls Try.prog 26 #[.agg #[cv], .string s] w fun e w' => ∃ v0 v1 cs ks, e = .returned (.tuple #[v0, v1]) ∧ ((∃ i : Nat, tabAt ts s = i ∧ ∃ h : i < ts.length, cs = colNames ts[i] ∧ ks = ts[i].keys) ∨ (tabAt ts s = -1 ∧ cs = [] ∧ ks = [])) ∧ Below w.heap.size w w' ∧ Two w' w.heap.size v0 v1 cs ks := by
  obtain ⟨a, p, rfl, hl, hm⟩ := hc.lit
  unfold maxLen at hm
  have HC : Hid (TabsV w (.slice a ts.length p) ts) := hc
  have HR : Hid (catRight ts) := hr
  have HL := Loc.new w #[.slice a ts.length p] 34
  have hbv : Below w.heap.size w (w.alloc (.cells #[.slice a ts.length p] 34)) := (by repeat (first | with_reducible exact Below.refl _ _ | with_reducible assumption | with_reducible refine ch_alloc ?_ _ | with_reducible refine Below.drew ?_ | with_reducible refine below_draws _ ?_ | (with_reducible refine Below.setCell ?_ ?_ _; rotate_left; focus (first | with_reducible exact Nat.le_refl _ | (simp; done) | (simp; omega) | (simp at *; omega))) | with_reducible refine ch_trans ?_ (by with_reducible assumption)))
  clear hc hr
  have l0 := HL.one
  go_enter Try.func26, Try.ntmps26
  go_wp2_with fail
  refine (tablePlace_any _ ts s _ (HC.out.on hbv)).mono ?_
  rintro e w3 ⟨i, q, rfl, b3, hk, g1, g2, g3⟩
  have HP : Hid ((q = true ∧ i < ts.length ∧ tabAt ts s = i) ∨ (q = false ∧ tabAt ts s = -1)) := place_at HR.out hk g1 g2 g3
  have HL3 := HL.on b3
  have hb3 := ch_trans hbv b3
  clear b3 HL l0 g1 g2 g3 hbv
  have l0 := HL3.one
  cases q
  · have HI : Hid (tabAt ts s = -1) := by
      rcases HP.out with ⟨h, _⟩ | ⟨_, h1⟩
      · cases h
      · exact h1
    clear HP
    go_wp2
    go_ret2
    exact ⟨_, _, [], [], rfl, Or.inr ⟨HI.out, rfl, rfl⟩, hb3, Two.nil _ _⟩
  · obtain ⟨hlt, hI⟩ : i < ts.length ∧ tabAt ts s = i := by
      rcases HP.out with ⟨_, h1, h2⟩ | ⟨h, _⟩
      · exact ⟨h1, h2⟩
      · cases h
    have HI : Hid (tabAt ts s = i) := hI
    have HRF := right_few (HR.out.2.1 i hlt)
    have hlti : (i : Int) < ts.length := by omega
    obtain ⟨b, off, c1, p1, c2, p2, rfl, d0, d1, d2, hx⟩ := (HC.out.on hb3).tab i hlt
    obtain ⟨cv', kv', e', hcv, hkv⟩ := hx
    have e1 : cv' = .slice c1 ts[i].cols.length p1 ∧ kv' = .slice c2 ts[i].keys.length p2 := by
      have := e'; simp at this; exact ⟨this.1.symm, this.2.symm⟩
    obtain ⟨rfl, rfl⟩ := e1
    have HCV : Hid (ColsV w3 (.slice c1 ts[i].cols.length p1) ts[i].cols) := hcv
    have HKV : Hid (StrsV w3 (.slice c2 ts[i].keys.length p2) ts[i].keys) := hkv
    obtain ⟨hc1, hk1, hc2, hk2⟩ : 1 ≤ ts[i].cols.length ∧ 1 ≤ ts[i].keys.length ∧ ts[i].cols.length ≤ 1048576 ∧ ts[i].keys.length ≤ 1048576 := ⟨HRF.2.1, HRF.2.2, HRF.1.1, HRF.1.2⟩
    obtain ⟨a9, p9, e9, hp9, hq9, _⟩ := hcv.lit
    have hp1 : ts[i].cols.length ≤ p1 ∧ p1 ≤ maxLen := by cases e9; exact ⟨hp9, hq9⟩
    obtain ⟨hp1, hp1'⟩ := hp1
    unfold maxLen at hp1'
    clear HP hcv hkv e' HRF e9 hp9 hq9 hI
    obtain ⟨t, ht⟩ : ∃ t, t = ts[i] := ⟨_, rfl⟩
    rw [← ht] at hc1 hk1 hc2 hk2 hp1 HCV HKV
    have HTI : Hid (t = ts[i]) := ht
    simp only [← ht] at d0 d1 d2
    clear ht
    have HT3 : Hid (TabV w3 #[.string t.name, .slice c1 t.cols.length p1, .slice c2 t.keys.length p2] t) := ⟨_, _, rfl, HCV.out, HKV.out⟩
    have HT4 : Hid (TabV (w3.alloc (.cells #[.string t.name, .slice c1 t.cols.length p1, .slice c2 t.keys.length p2] 47)) #[.string t.name, .slice c1 t.cols.length p1, .slice c2 t.keys.length p2] t) := HT3.out.on (ch_alloc (Below.refl _ _) _)
    have hb4 : Below w3.heap.size w3 (w3.alloc (.cells #[.string t.name, .slice c1 t.cols.length p1, .slice c2 t.keys.length p2] 47)) := ch_alloc (Below.refl _ _) _
    have HL4 := Loc.new w3 #[.string t.name, .slice c1 t.cols.length p1, .slice c2 t.keys.length p2] 47
    have hz4 : w3.heap.size ≤ (w3.alloc (.cells #[.string t.name, .slice c1 t.cols.length p1, .slice c2 t.keys.length p2] 47)).heap.size := by simp
    obtain ⟨m0, m1, m2⟩ := HL4.three
    go_wp2_with fail
    generalize w3.alloc (.cells #[.string t.name, .slice c1 t.cols.length p1, .slice c2 t.keys.length p2] 47) = u4 at HT4 hb4 HL4 hz4 m0 m1 m2 ⊢
    refine region_plan [([0, 2, 3], 1), ([], 4)] [5, 6] (by kernel_rfl) (by kernel_rfl) ?_
    have hgd := Grows.drawn u4
    generalize { u4 with drawn := u4.drawn + 1 } = wd at hgd ⊢
    have m0 := cell_on m0 hgd
    have m1 := cell_on m1 hgd
    have m2 := cell_on m2 hgd
    refine plan_on (by simp only [pick, List.getElem?_toArray, List.getElem?_cons_succ, List.getElem?_cons_zero]; rfl) ?_
    repeat (go_big_quiet_step ((intro hu; have j0 := hu.cell m0; have j1 := hu.cell m1; have j2 := hu.cell m2; go_simp; (try exact rfl))))
    refine wpQuiet_nil ?_
    refine plan_call rfl rfl (fun K hK => ?_)
    go_simp
    go_at_call 52
    refine (colNames_any _ t _ (HT4.out.on hgd) hc2).mono ?_
    rintro e w4 ⟨v4, rfl, b4, hg4⟩
    refine ⟨_, rfl, hK _ _ ⟨b4, ?_⟩⟩
    obtain ⟨a', n', cap', rfl, hg4⟩ := hg4.lit2
    have HG9 : Hid (Got w4 wd.heap.size 9 1 (.slice a' n' cap') ((colNames t).map strX)) := hg4
    have h34 := ch_trans (ch_trans hb4 hgd) b4
    have HK5 : Hid (StrsV w4 (.slice c2 t.keys.length p2) t.keys) := HKV.out.on h34
    have hz5 := b4.size
    have hzd : w.heap.size ≤ wd.heap.size := by have := hgd.size; have := hb3.size; omega
    clear m0 m1 m2 hg4 hb4 HL4 hK K
    refine plan_on rfl ?_
    refine wpQuiet_nil ?_
    refine plan_call rfl rfl (fun K hK => ?_)
    go_simp
    go_at_call 53
    refine (cloneStrs _ t.keys _ HK5.out hk1 hk2).mono ?_
    rintro e w5 ⟨kv, rfl, b5, hkv⟩
    refine ⟨_, rfl, hK _ _ ⟨b5, ?_⟩⟩
    have HT5 : Hid (Two w5 w.heap.size (.slice a' n' cap') kv (colNames t) t.keys) := ⟨w4.heap.size, Nat.le_trans hzd hz5, (HG9.out.on b5).mono hzd, fun c hc => HG9.out.hd_lt' c hc, hkv⟩
    have HB5 : Hid (Below w.heap.size w w5) := ch_trans hb3 (ch_trans h34 b5)
    clear b5 hkv hK K
    refine plan_end (by simp only [pick, List.getElem?_toArray, List.getElem?_cons_succ, List.getElem?_cons_zero]; rfl) ?_
    repeat (go_big_quiet_step ((intro hu; go_simp; (try exact rfl))))
    refine wpQuiet_nil ?_
    go_wp2
    go_ret2
    exact ⟨_, _, _, _, rfl, Or.inl ⟨i, HI.out, hlt, by rw [HTI.out], by rw [HTI.out]⟩, HB5.out, HT5.out⟩
end Go.Proofs.Ytiijahoheajppab
