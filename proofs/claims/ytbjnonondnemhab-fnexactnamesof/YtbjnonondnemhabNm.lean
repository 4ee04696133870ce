/- The table of a name, given and landed. The names of a table's columns and keys, given and landed. -/
import Derived.Test.YtbjnonondnemhabTk
import Derived.Test.YtbjnonondnemhabPa
import Derived.Test.YtbjnonondnemhabKg
import Derived.Test.YtbjnonondnemhabHeldS
namespace Go.Proofs.Ytbjnonondnemhab
open Go.ChangeShapes Go.WideShapes Go.ChangeAt Go.RowKit

/-- No table. -/
def noTab : Tc := ⟨ByteArray.empty, [], []⟩
theorem TabG.none (w : World) (B : Nat) : TabG w B #[.string ByteArray.empty, .slice none 0 0, .slice none 0 0] noTab := ⟨_, _, rfl, Got.nil _ _ _ _, Got.nil _ _ _ _⟩
/-- What is told. -/
def isTableOf (ts : List Tc) (s : ByteArray) (t : Tc) (q : Bool) : Prop := (catRight ts ∧ ∃ i : Nat, tabAt ts s = i ∧ ∃ h : i < ts.length, t = ts[i] ∧ q = true) ∨ ((¬ catRight ts ∨ tabAt ts s = -1) ∧ t = noTab ∧ q = false)
theorem tableOf_is (ts : List Tc) (s : ByteArray) : ∃ t q, isTableOf ts s t q := by
  by_cases h : catRight ts
  · rcases tabAt_lt ts s with h1 | ⟨i, h1, h2⟩
    · exact ⟨_, _, Or.inr ⟨Or.inr h1, rfl, rfl⟩⟩
    · exact ⟨_, _, Or.inl ⟨h, i, h1, h2, rfl, rfl⟩⟩
  · exact ⟨_, _, Or.inr ⟨Or.inl h, rfl, rfl⟩⟩
theorem right_few {t : Tc} (h : t.right) : t.few ∧ 1 ≤ t.cols.length ∧ 1 ≤ t.keys.length := by
  have hk := right_keys h
  have h1 := h.2.1
  have h2 := h.2.2.1
  have h3 := h.2.2.2.1
  exact ⟨⟨by omega, by omega⟩, h1, h3⟩

set_option maxRecDepth 100000 in
set_option maxHeartbeats 2000000 in
/-- spec.TableOf -/
theorem tableOf_spec (cv : Value) (ts : List Tc) (s : ByteArray) (w : World) (hc : TabsV w cv ts) (hf : fits ts) (t : Tc) (q0 : Bool) (hrs : isTableOf ts s t q0) :
    Calls Try.prog 34 #[.agg #[cv], .string s] w fun e w' => ∃ y, e = .returned (.tuple #[.agg y, .bool q0]) ∧ Below w.heap.size w w' ∧ TabG w' w.heap.size y t := by
  obtain ⟨a, p, rfl, hl, hm⟩ := hc.lit
  unfold maxLen at hm
  have HC : Hid (TabsV w (.slice a ts.length p) ts) := hc
  have HF : Hid (fits ts) := hf
  have HRS : Hid (isTableOf ts s t q0) := hrs
  have HL := Loc.new w #[.slice a ts.length p] 34
  have hbv : Below w.heap.size w (w.alloc (.cells #[.slice a ts.length p] 34)) := (by repeat (first | with_reducible exact Below.refl _ _ | with_reducible assumption | with_reducible refine ch_alloc ?_ _ | with_reducible refine Below.drew ?_ | with_reducible refine below_draws _ ?_ | (with_reducible refine Below.setCell ?_ ?_ _; rotate_left; focus (first | with_reducible exact Nat.le_refl _ | (simp; done) | (simp; omega) | (simp at *; omega))) | with_reducible refine ch_trans ?_ (by with_reducible assumption)))
  have hv2 : Below (w.alloc (.cells #[.slice a ts.length p] 34)).heap.size (w.alloc (.cells #[.slice a ts.length p] 34)) ((w.alloc (.cells #[.slice a ts.length p] 34)).alloc (.cells #[.string ⟨#[]⟩, .slice none 0 0, .slice none 0 0] 79)) := ch_alloc (Below.refl _ _) _
  have HQ : Own ((w.alloc (.cells #[.slice a ts.length p] 34)).alloc (.cells #[.string ⟨#[]⟩, .slice none 0 0, .slice none 0 0] 79)) (w.heap.size + 1) 79 #[.string ⟨#[]⟩, .slice none 0 0, .slice none 0 0] := Own.at (w.alloc (.cells #[.slice a ts.length p] 34)) _ _ (by simp)
  have hz : w.heap.size + 1 + 1 ≤ ((w.alloc (.cells #[.slice a ts.length p] 34)).alloc (.cells #[.string ⟨#[]⟩, .slice none 0 0, .slice none 0 0] 79)).heap.size := by simp
  have HL := HL.on hv2
  have hbv := ch_trans hbv hv2
  clear hc hf hrs hv2
  have l0 := HL.one
  go_enter Try.func34, Try.ntmps34
  go_wp2_with fail
  generalize (w.alloc (.cells #[.slice a ts.length p] 34)).alloc (.cells #[.string ⟨#[]⟩, .slice none 0 0, .slice none 0 0] 79) = wv at HQ hz HL hbv l0 ⊢
  refine (tabAt_spec _ ts s _ (HC.out.on hbv)).mono ?_
  rintro e w1 ⟨rfl, b1⟩
  have HL1 := HL.on b1
  have HQ1 := HQ.on b1
  have hz1 : w.heap.size + 1 + 1 ≤ w1.heap.size := Nat.le_trans hz b1.size
  have hb1 := ch_trans hbv b1
  clear b1 hbv HL l0 HQ hz
  have l0 := HL1.one
  go_wp2_with fail
  refine (catOk_spec _ ts _ (HC.out.on hb1) HF.out).mono ?_
  rintro e w2 ⟨q, rfl, hq, b2⟩
  have HQU : Hid (q = true ↔ catRight ts) := hq
  have HL2 := HL1.on b2
  have HQ2 := HQ1.on b2
  have hz2 : w.heap.size + 1 + 1 ≤ w2.heap.size := Nat.le_trans hz1 b2.size
  have hb2 := ch_trans hb1 b2
  clear b2 HL1 l0 hq hb1 HQ1 hz1
  have l0 := HL2.one
  obtain ⟨g0, g1, g2⟩ := HQ2.loc.three
  have i0 := HQ2.frozen 0
  have i1 := HQ2.frozen 1
  have i2 := HQ2.frozen 2
  cases q
  · obtain ⟨rfl, rfl⟩ : t = noTab ∧ q0 = false := by
      rcases HRS.out with ⟨h, _⟩ | ⟨_, h⟩
      · have := HQU.out.2 h; cases this
      · exact h
    clear HQU HRS
    have HQ9 := own3 HQ2 (.string ⟨#[]⟩) (.slice none 0 0) (.slice none 0 0)
    have hT := turns3 w2 (w.heap.size + 1) (.string ⟨#[]⟩) (.slice none 0 0) (.slice none 0 0)
    have HB : Hid (Below w.heap.size w (((w2.setCell ⟨w.heap.size + 1, 0, none⟩ (.string ⟨#[]⟩)).setCell ⟨w.heap.size + 1, 1, none⟩ (.slice none 0 0)).setCell ⟨w.heap.size + 1, 2, none⟩ (.slice none 0 0))) := hb2.trans (hT.toBelow (fun c h => by omega) hb2.size)
    have HG9 : Hid (TabG (((w2.setCell ⟨w.heap.size + 1, 0, none⟩ (.string ⟨#[]⟩)).setCell ⟨w.heap.size + 1, 1, none⟩ (.slice none 0 0)).setCell ⟨w.heap.size + 1, 2, none⟩ (.slice none 0 0)) w.heap.size #[(.string ⟨#[]⟩), (.slice none 0 0), (.slice none 0 0)] noTab) := TabG.none _ _
    clear hT
    go_wp2
    generalize ((w2.setCell ⟨w.heap.size + 1, 0, none⟩ (.string ⟨#[]⟩)).setCell ⟨w.heap.size + 1, 1, none⟩ (.slice none 0 0)).setCell ⟨w.heap.size + 1, 2, none⟩ (.slice none 0 0) = W at HQ9 HG9 HB ⊢
    obtain ⟨e0, e1, e2⟩ := HQ9.loc.three
    exact bodyPost_ret (v := .tuple #[.agg #[(.string ⟨#[]⟩), (.slice none 0 0), (.slice none 0 0)], .bool false]) (by simp [results, Try.results34, go_sem, e0, e1, e2]) rfl ⟨_, rfl, HB.out, HG9.out⟩
  have HR : Hid (catRight ts) := HQU.out.1 (by trivial)
  clear HQU
  rcases tabAt_lt ts s with h1 | ⟨i, h1, h2⟩
  · obtain ⟨rfl, rfl⟩ : t = noTab ∧ q0 = false := by
      rcases HRS.out with ⟨_, i, h, _⟩ | ⟨_, h⟩
      · rw [h1] at h; omega
      · exact h
    have hneg : decide ((-1 : Int) < 0) = true := by decide
    rw [h1]
    clear HRS h1
    have HQ9 := own3 HQ2 (.string ⟨#[]⟩) (.slice none 0 0) (.slice none 0 0)
    have hT := turns3 w2 (w.heap.size + 1) (.string ⟨#[]⟩) (.slice none 0 0) (.slice none 0 0)
    have HB : Hid (Below w.heap.size w (((w2.setCell ⟨w.heap.size + 1, 0, none⟩ (.string ⟨#[]⟩)).setCell ⟨w.heap.size + 1, 1, none⟩ (.slice none 0 0)).setCell ⟨w.heap.size + 1, 2, none⟩ (.slice none 0 0))) := hb2.trans (hT.toBelow (fun c h => by omega) hb2.size)
    have HG9 : Hid (TabG (((w2.setCell ⟨w.heap.size + 1, 0, none⟩ (.string ⟨#[]⟩)).setCell ⟨w.heap.size + 1, 1, none⟩ (.slice none 0 0)).setCell ⟨w.heap.size + 1, 2, none⟩ (.slice none 0 0)) w.heap.size #[(.string ⟨#[]⟩), (.slice none 0 0), (.slice none 0 0)] noTab) := TabG.none _ _
    clear hT
    go_wp2
    generalize ((w2.setCell ⟨w.heap.size + 1, 0, none⟩ (.string ⟨#[]⟩)).setCell ⟨w.heap.size + 1, 1, none⟩ (.slice none 0 0)).setCell ⟨w.heap.size + 1, 2, none⟩ (.slice none 0 0) = W at HQ9 HG9 HB ⊢
    obtain ⟨e0, e1, e2⟩ := HQ9.loc.three
    exact bodyPost_ret (v := .tuple #[.agg #[(.string ⟨#[]⟩), (.slice none 0 0), (.slice none 0 0)], .bool false]) (by simp [results, Try.results34, go_sem, e0, e1, e2]) rfl ⟨_, rfl, HB.out, HG9.out⟩
  · obtain ⟨rfl, rfl⟩ : t = ts[i] ∧ q0 = true := by
      rcases HRS.out with ⟨_, j, h, hj, e1, e2⟩ | ⟨h, _⟩
      · rw [h1] at h
        have : i = j := by omega
        subst this
        exact ⟨e1, e2⟩
      · rcases h with h | h
        · exact absurd HR.out h
        · rw [h1] at h; omega
    have HRF : Hid (ts[i].few ∧ 1 ≤ ts[i].cols.length ∧ 1 ≤ ts[i].keys.length) := right_few (HR.out.2.1 i h2)
    have hidi : (i : Int) < ts.length := by omega
    have hnn : decide ((i : Int) < 0) = false := by simp
    rw [h1]
    obtain ⟨b, off, c1, p1, c2, p2, rfl, d0, d1, d2, hx⟩ := (HC.out.on hb2).tab i h2
    have HX : Hid (TabV w2 #[.string ts[i].name, .slice c1 ts[i].cols.length p1, .slice c2 ts[i].keys.length p2] ts[i]) := hx
    clear HRS h1 hx g0 g1 g2 i0 i1 i2
    go_wp2_with fail
    refine (l02Table_any _ ts[i] _ HX.out HRF.out.1 HRF.out.2.1 HRF.out.2.2).mono ?_
    rintro e w3 ⟨y, rfl, b3, hg⟩
    obtain ⟨xa, xn, xp, ya, yn, yp, rfl, hg⟩ := hg.lit
    have hb3 := ch_trans hb2 b3
    have HQ3 := HQ2.on b3
    have HG3 : Hid (TabG w3 (w.heap.size + 1 + 1) #[.string ts[i].name, .slice xa xn xp, .slice ya yn yp] ts[i]) := hg.mono hz2
    clear b3 hg HQ2 l0
    obtain ⟨g0, g1, g2⟩ := HQ3.loc.three
    have i0 := HQ3.frozen 0
    have i1 := HQ3.frozen 1
    have i2 := HQ3.frozen 2
    have HQ9 := own3 HQ3 (.string ts[i].name) (.slice xa xn xp) (.slice ya yn yp)
    have hT := turns3 w3 (w.heap.size + 1) (.string ts[i].name) (.slice xa xn xp) (.slice ya yn yp)
    have HB : Hid (Below w.heap.size w (((w3.setCell ⟨w.heap.size + 1, 0, none⟩ (.string ts[i].name)).setCell ⟨w.heap.size + 1, 1, none⟩ (.slice xa xn xp)).setCell ⟨w.heap.size + 1, 2, none⟩ (.slice ya yn yp))) := hb3.trans (hT.toBelow (fun c h => by omega) hb3.size)
    have HG9 : Hid (TabG (((w3.setCell ⟨w.heap.size + 1, 0, none⟩ (.string ts[i].name)).setCell ⟨w.heap.size + 1, 1, none⟩ (.slice xa xn xp)).setCell ⟨w.heap.size + 1, 2, none⟩ (.slice ya yn yp)) w.heap.size #[(.string ts[i].name), (.slice xa xn xp), (.slice ya yn yp)] ts[i]) := (HG3.out.turned hT fun c h => by omega).mono (by omega)
    clear hT
    go_wp2
    generalize ((w3.setCell ⟨w.heap.size + 1, 0, none⟩ (.string ts[i].name)).setCell ⟨w.heap.size + 1, 1, none⟩ (.slice xa xn xp)).setCell ⟨w.heap.size + 1, 2, none⟩ (.slice ya yn yp) = W at HQ9 HG9 HB ⊢
    obtain ⟨e0, e1, e2⟩ := HQ9.loc.three
    exact bodyPost_ret (v := .tuple #[.agg #[(.string ts[i].name), (.slice xa xn xp), (.slice ya yn yp)], .bool true]) (by simp [results, Try.results34, go_sem, e0, e1, e2]) rfl ⟨_, rfl, HB.out, HG9.out⟩

end Go.Proofs.Ytbjnonondnemhab

namespace Go.Proofs.Ytbjnonondnemhab
open Go.ChangeShapes Go.WideShapes Go.ChangeAt Go.RowKit

def colNames (t : Tc) : List ByteArray := t.cols.map fun c => c.name
/-- What is told. -/
def isNames (ts : List Tc) (ds : List (List (List Vc))) (s : ByteArray) (cs ks : List ByteArray) : Prop := (dbRight ts ds ∧ ∃ i : Nat, tabAt ts s = i ∧ ∃ h : i < ts.length, cs = colNames ts[i] ∧ ks = ts[i].keys) ∨ ((¬ dbRight ts ds ∨ tabAt ts s = -1) ∧ cs = [] ∧ ks = [])
theorem names_is (ts : List Tc) (ds : List (List (List Vc))) (s : ByteArray) : ∃ cs ks, isNames ts ds s cs ks ∧ cs.length ≤ 1000 ∧ ks.length ≤ 1000 := by
  by_cases h : dbRight ts ds
  · rcases tabAt_lt ts s with h1 | ⟨i, h1, h2⟩
    · exact ⟨[], [], Or.inr ⟨Or.inr h1, rfl, rfl⟩, by simp, by simp⟩
    · have hr := h.1.2.1 i h2
      have hk := right_keys hr
      have hc := hr.2.2.1
      exact ⟨_, _, Or.inl ⟨h, i, h1, h2, rfl, rfl⟩, by simp [colNames]; omega, by omega⟩
  · exact ⟨[], [], Or.inr ⟨Or.inl h, rfl, rfl⟩, by simp, by simp⟩
/-- Two lists of texts of the call's own, the second in a later block. -/
def Two (w : World) (B : Nat) (v0 v1 : Value) (cs ks : List ByteArray) : Prop := ∃ B1, B ≤ B1 ∧ Got w B 9 1 v0 (cs.map strX) ∧ (∀ c, v0.ownBlock = some c → c < B1) ∧ Got w B1 9 1 v1 (ks.map strX)
theorem Two.on {w w' : World} {B : Nat} {v0 v1 : Value} {cs ks : List ByteArray} (h : Two w B v0 v1 cs ks) (k : Below w.heap.size w w') : Two w' B v0 v1 cs ks := by
  obtain ⟨B1, h0, h1, h2, h3⟩ := h
  exact ⟨B1, h0, h1.on k, h2, h3.on k⟩
theorem Two.mono {w : World} {B B' : Nat} {v0 v1 : Value} {cs ks : List ByteArray} (h : Two w B v0 v1 cs ks) (k : B' ≤ B) : Two w B' v0 v1 cs ks := by
  obtain ⟨B1, h0, h1, h2, h3⟩ := h
  exact ⟨B1, by omega, h1.mono k, h2, h3⟩
theorem Two.nil (w : World) (B : Nat) : Two w B (.slice none 0 0) (.slice none 0 0) [] [] := ⟨B, Nat.le_refl _, Got.nil _ _ _ _, by simp [Value.ownBlock], Got.nil _ _ _ _⟩
theorem Two.turned {w w' : World} {B : Nat} {v0 v1 : Value} {cs ks : List ByteArray} (h : Two w B v0 v1 cs ks) {S : Nat → Prop} (k : Turns S w w') (hS : ∀ c, S c → c < B) : Two w' B v0 v1 cs ks := by
  obtain ⟨B1, h0, h1, h2, h3⟩ := h
  exact ⟨B1, h0, h1.turns k hS, h2, h3.turns k fun c hc => by have := hS c hc; omega⟩
theorem Two.lit {w : World} {B : Nat} {v0 v1 : Value} {cs ks : List ByteArray} (h : Two w B v0 v1 cs ks) : ∃ a n c b m d, v0 = .slice a n c ∧ v1 = .slice b m d ∧ Two w B (.slice a n c) (.slice b m d) cs ks := by
  obtain ⟨B1, h0, h1, h2, h3⟩ := h
  obtain ⟨a, n, c, rfl, h1⟩ := h1.lit2
  obtain ⟨b, m, d, rfl, h3⟩ := h3.lit2
  exact ⟨a, n, c, b, m, d, rfl, rfl, B1, h0, h1, h2, h3⟩
theorem Two.strs {w : World} {B : Nat} {v0 v1 : Value} {cs ks : List ByteArray} (h : Two w B v0 v1 cs ks) : StrsV w v0 cs ∧ StrsV w v1 ks := by
  obtain ⟨B1, h0, h1, h2, h3⟩ := h
  exact ⟨h1.strs, h3.strs⟩
theorem Got.hd_lt' {w : World} {B : Nat} {T : TypeId} {z : Nat} {v : Value} {xs : List (Array Value)} (h : Got w B T z v xs) (c : Nat) (hc : v.ownBlock = some c) : c < w.heap.size := by
  obtain ⟨cur, h1⟩ := h.tag hc
  exact (Array.getElem?_eq_some_iff.1 h1).1
theorem str_all (s : ByteArray) : ∀ u ∈ (strX s).toList, u.oneCell' = true := by intro u hu; simp at hu; subst hu; rfl

set_option maxRecDepth 100000 in
set_option maxHeartbeats 2000000 in
/-- impl.namesIn -/
theorem namesIn_any (cv : Value) (ts : List Tc) (s : ByteArray) (w : World) (hc : TabsV w cv ts) (hr : catRight ts) :
    Calls Try.prog 39 #[.agg #[cv], .string s] w fun e w' => ∃ v0 v1 cs ks, e = .returned (.tuple #[v0, v1]) ∧ ((∃ i : Nat, tabAt ts s = i ∧ ∃ h : i < ts.length, cs = colNames ts[i] ∧ ks = ts[i].keys) ∨ (tabAt ts s = -1 ∧ cs = [] ∧ ks = [])) ∧ Below w.heap.size w w' ∧ Two w' w.heap.size v0 v1 cs ks := by
  obtain ⟨a, p, rfl, hl, hm⟩ := hc.lit
  unfold maxLen at hm
  have HC : Hid (TabsV w (.slice a ts.length p) ts) := hc
  have HR : Hid (catRight ts) := hr
  have HL := Loc.new w #[.slice a ts.length p] 34
  have hbv : Below w.heap.size w (w.alloc (.cells #[.slice a ts.length p] 34)) := (by repeat (first | with_reducible exact Below.refl _ _ | with_reducible assumption | with_reducible refine ch_alloc ?_ _ | with_reducible refine Below.drew ?_ | with_reducible refine below_draws _ ?_ | (with_reducible refine Below.setCell ?_ ?_ _; rotate_left; focus (first | with_reducible exact Nat.le_refl _ | (simp; done) | (simp; omega) | (simp at *; omega))) | with_reducible refine ch_trans ?_ (by with_reducible assumption)))
  clear hc hr
  have l0 := HL.one
  go_enter Try.func39, Try.ntmps39
  go_wp2_with fail
  refine (tablePlace_any _ ts s _ (HC.out.on hbv)).mono ?_
  rintro e w3 ⟨i, q, rfl, b3, hk, g1, g2, g3⟩
  have HP : Hid ((q = true ∧ i < ts.length ∧ tabAt ts s = i) ∨ (q = false ∧ tabAt ts s = -1)) := place_at HR.out hk g1 g2 g3
  have HL3 := HL.on b3
  have hb3 := ch_trans hbv b3
  clear b3 HL l0 g1 g2 g3 hbv
  have l0 := HL3.one
  cases q
  · have HI : Hid (tabAt ts s = -1) := by
      rcases HP.out with ⟨h, _⟩ | ⟨_, h1⟩
      · cases h
      · exact h1
    clear HP
    go_wp2
    go_ret2
    exact ⟨_, _, [], [], rfl, Or.inr ⟨HI.out, rfl, rfl⟩, hb3, Two.nil _ _⟩
  · obtain ⟨hlt, hI⟩ : i < ts.length ∧ tabAt ts s = i := by
      rcases HP.out with ⟨_, h1, h2⟩ | ⟨h, _⟩
      · exact ⟨h1, h2⟩
      · cases h
    have HI : Hid (tabAt ts s = i) := hI
    have HRF := right_few (HR.out.2.1 i hlt)
    have hlti : (i : Int) < ts.length := by omega
    obtain ⟨b, off, c1, p1, c2, p2, rfl, d0, d1, d2, hx⟩ := (HC.out.on hb3).tab i hlt
    obtain ⟨cv', kv', e', hcv, hkv⟩ := hx
    have e1 : cv' = .slice c1 ts[i].cols.length p1 ∧ kv' = .slice c2 ts[i].keys.length p2 := by
      have := e'; simp at this; exact ⟨this.1.symm, this.2.symm⟩
    obtain ⟨rfl, rfl⟩ := e1
    have HCV : Hid (ColsV w3 (.slice c1 ts[i].cols.length p1) ts[i].cols) := hcv
    have HKV : Hid (StrsV w3 (.slice c2 ts[i].keys.length p2) ts[i].keys) := hkv
    obtain ⟨hc1, hk1, hc2, hk2⟩ : 1 ≤ ts[i].cols.length ∧ 1 ≤ ts[i].keys.length ∧ ts[i].cols.length ≤ 1048576 ∧ ts[i].keys.length ≤ 1048576 := ⟨HRF.2.1, HRF.2.2, HRF.1.1, HRF.1.2⟩
    obtain ⟨a9, p9, e9, hp9, hq9, _⟩ := hcv.lit
    have hp1 : ts[i].cols.length ≤ p1 ∧ p1 ≤ maxLen := by cases e9; exact ⟨hp9, hq9⟩
    obtain ⟨hp1, hp1'⟩ := hp1
    unfold maxLen at hp1'
    clear HP hcv hkv e' HRF e9 hp9 hq9 hI
    obtain ⟨t, ht⟩ : ∃ t, t = ts[i] := ⟨_, rfl⟩
    rw [← ht] at hc1 hk1 hc2 hk2 hp1 HCV HKV
    have HTI : Hid (t = ts[i]) := ht
    simp only [← ht] at d0 d1 d2
    clear ht
    go_wp2
    go_loopw [8, 26] (fun v j wr => ∃ k : Nat, k ≤ t.cols.length ∧ j = .int .i64 (k : Int) ∧ Hid (Below w3.heap.size w3 wr) ∧ Hid (Got wr w3.heap.size 9 1 v (((colNames t).take k).map strX))) (fun _ j _ => t.cols.length - (intOf j).toNat)
    case atStart => exact ⟨0, Nat.zero_le _, rfl, Below.refl _ _, by show Got _ _ _ _ _ _; simpa using Got.nil _ _ _ _⟩
    case round =>
      obtain ⟨k, hk, rfl, HB, HG⟩ := hrel
      obtain ⟨a', n', cap', rfl, hg⟩ := HG.out.lit2
      have HG1 : Hid (Got wr w3.heap.size 9 1 (.slice a' n' cap') (((colNames t).take k).map strX)) := hg
      clear HG hg
      by_cases hkt : k < t.cols.length
      · have hlti2 : (k : Int) < t.cols.length := by omega
        obtain ⟨b', off', rfl, e0, e1, e2, e3, e4, e5, e6⟩ := (HCV.out.on HB.out).rowAt.cols k hkt
        have HE : Hid (((colNames t).take k).map strX ++ [#[.string t.cols[k].name]] = ((colNames t).take (k + 1)).map strX) := by
          show _ = _
          rw [List.take_succ_eq_append_getElem (by simpa [colNames] using hkt), List.map_append]
          simp [colNames]
        have hlk : (((colNames t).take k).map strX).length ≤ 1048576 := by simp [colNames]; omega
        have hsz : w3.heap.size ≤ wr.heap.size := HB.out.size
        generalize ((colNames t).take k).map strX = T0 at HG1 HE hlk
        go_wp2_with (at_builtin; refine app_one rfl (.tmp 30) (.tmp 33) rfl Try.underlying29 infoStr rfl (by decide) (by decide) w3.heap.size _ T0 rfl (HG1.out.on (by repeat (first | with_reducible exact Below.refl _ _ | with_reducible assumption | with_reducible refine ch_alloc ?_ _ | with_reducible refine Below.drew ?_ | with_reducible refine below_draws _ ?_ | (with_reducible refine Below.setCell ?_ ?_ _; rotate_left; focus (first | with_reducible exact Nat.le_refl _ | (simp; done) | (simp; omega) | (simp at *; omega))) | with_reducible refine ch_trans ?_ (by with_reducible assumption)))) (wr.heap.size + 1) 1 #[.string t.cols[k].name] rfl (Own.at (wr.alloc _) _ _ (by simp)).loc rfl (str_all _) (by omega) (by simp; omega) ?_; intro v3 w4 hg4 hb4)
        have HG4 : Hid (Got w4 w3.heap.size 9 1 v3 (((colNames t).take (k + 1)).map strX)) := by
          show Got _ _ _ _ _ _
          rw [← HE.out]; exact hg4
        have HB4 : Hid (Below w3.heap.size w3 w4) := HB.out.trans ((Below.mono (ch_alloc (ch_alloc (Below.refl _ _) _) _) hsz).trans hb4)
        clear hg4 hb4
        go_round
        case rel => exact ⟨k + 1, by omega, by go_num, HB4, HG4⟩
        case measure => simp [intOf]; omega
      · have hlti2 : (t.cols.length : Int) ≤ k := by omega
        have HG9 : Hid (Got wr w3.heap.size 9 1 (.slice a' n' cap') ((colNames t).map strX)) := by
          show Got _ _ _ _ _ _
          have := HG1.out
          rwa [List.take_of_length_le (by simp [colNames]; omega)] at this
        have l0 := (HL3.on HB.out).one
        have f0 := cell_on d0 HB.out
        have f1 := cell_on d1 HB.out
        have f2 := cell_on d2 HB.out
        go_wp2_with fail
        refine (cloneStrs _ t.keys _ (HKV.out.on HB.out) hk1 hk2).mono ?_
        rintro e w5 ⟨kv, rfl, b5, hkv⟩
        have HT5 : Hid (Two w5 w.heap.size (.slice a' n' cap') kv (colNames t) t.keys) := ⟨wr.heap.size, Nat.le_trans hb3.size HB.out.size, (HG9.out.on b5).mono hb3.size, fun c hc => HG9.out.hd_lt' c hc, hkv⟩
        have HB5 : Hid (Below w.heap.size w w5) := ch_trans hb3 (ch_trans HB.out b5)
        clear b5 hkv
        go_wp2
        go_ret2
        exact ⟨_, _, _, _, rfl, Or.inl ⟨i, HI.out, hlt, by rw [HTI.out], by rw [HTI.out]⟩, HB5.out, HT5.out⟩
end Go.Proofs.Ytbjnonondnemhab
