/- The table of a name, given and landed. The names of a table's columns, landed. -/
import Derived.Test.YtiijahoheajppabTk
import Derived.Test.YtiijahoheajppabPa
import Derived.Test.YtiijahoheajppabKg
import Derived.Test.YtiijahoheajppabAp
import Derived.Test.YtiijahoheajppabTab
namespace Go.Proofs.Ytiijahoheajppab
open Go.ChangeShapes Go.WideShapes Go.ChangeAt Go.RowKit

/-- No table. -/
def noTab : Tc := ⟨ByteArray.empty, [], []⟩
theorem TabG.none (w : World) (B : Nat) : TabG w B #[.string ByteArray.empty, .slice none 0 0, .slice none 0 0] noTab := ⟨_, _, rfl, Got.nil _ _ _ _, Got.nil _ _ _ _⟩
/-- What is told. -/
def isTableOf (ts : List Tc) (s : ByteArray) (t : Tc) (q : Bool) : Prop := (catRight ts ∧ ∃ i : Nat, tabAt ts s = i ∧ ∃ h : i < ts.length, t = ts[i] ∧ q = true) ∨ ((¬ catRight ts ∨ tabAt ts s = -1) ∧ t = noTab ∧ q = false)
theorem tableOf_is (ts : List Tc) (s : ByteArray) : ∃ t q, isTableOf ts s t q := by
  by_cases h : catRight ts
  · rcases tabAt_lt ts s with h1 | ⟨i, h1, h2⟩
    · exact ⟨_, _, Or.inr ⟨Or.inr h1, rfl, rfl⟩⟩
    · exact ⟨_, _, Or.inl ⟨h, i, h1, h2, rfl, rfl⟩⟩
  · exact ⟨_, _, Or.inr ⟨Or.inl h, rfl, rfl⟩⟩
theorem right_few {t : Tc} (h : t.right) : t.few ∧ 1 ≤ t.cols.length ∧ 1 ≤ t.keys.length := by
  have hk := right_keys h
  have h1 := h.2.1
  have h2 := h.2.2.1
  have h3 := h.2.2.2.1
  exact ⟨⟨by omega, by omega⟩, h1, h3⟩

set_option maxRecDepth 100000 in
set_option maxHeartbeats 2000000 in
/-- spec.TableOf -/
theorem tableOf_spec (cv : Value) (ts : List Tc) (s : ByteArray) (w : World) (hc : TabsV w cv ts) (hf : fits ts) (t : Tc) (q0 : Bool) (hrs : isTableOf ts s t q0) :
    Calls Try.prog 21 #[.agg #[cv], .string s] w fun e w' => ∃ y, e = .returned (.tuple #[.agg y, .bool q0]) ∧ Below w.heap.size w w' ∧ TabG w' w.heap.size y t := by
  obtain ⟨a, p, rfl, hl, hm⟩ := hc.lit
  unfold maxLen at hm
  have HC : Hid (TabsV w (.slice a ts.length p) ts) := hc
  have HF : Hid (fits ts) := hf
  have HRS : Hid (isTableOf ts s t q0) := hrs
  have HL := Loc.new w #[.slice a ts.length p] 34
  have hbv : Below w.heap.size w (w.alloc (.cells #[.slice a ts.length p] 34)) := (by repeat (first | with_reducible exact Below.refl _ _ | with_reducible assumption | with_reducible refine ch_alloc ?_ _ | with_reducible refine Below.drew ?_ | with_reducible refine below_draws _ ?_ | (with_reducible refine Below.setCell ?_ ?_ _; rotate_left; focus (first | with_reducible exact Nat.le_refl _ | (simp; done) | (simp; omega) | (simp at *; omega))) | with_reducible refine ch_trans ?_ (by with_reducible assumption)))
  have hv2 : Below (w.alloc (.cells #[.slice a ts.length p] 34)).heap.size (w.alloc (.cells #[.slice a ts.length p] 34)) ((w.alloc (.cells #[.slice a ts.length p] 34)).alloc (.cells #[.string ⟨#[]⟩, .slice none 0 0, .slice none 0 0] 47)) := ch_alloc (Below.refl _ _) _
  have HQ : Own ((w.alloc (.cells #[.slice a ts.length p] 34)).alloc (.cells #[.string ⟨#[]⟩, .slice none 0 0, .slice none 0 0] 47)) (w.heap.size + 1) 47 #[.string ⟨#[]⟩, .slice none 0 0, .slice none 0 0] := Own.at (w.alloc (.cells #[.slice a ts.length p] 34)) _ _ (by simp)
  have hz : w.heap.size + 1 + 1 ≤ ((w.alloc (.cells #[.slice a ts.length p] 34)).alloc (.cells #[.string ⟨#[]⟩, .slice none 0 0, .slice none 0 0] 47)).heap.size := by simp
  have HL := HL.on hv2
  have hbv := ch_trans hbv hv2
  clear hc hf hrs hv2
  have l0 := HL.one
  go_enter Try.func21, Try.ntmps21
  go_wp2_with fail
  generalize (w.alloc (.cells #[.slice a ts.length p] 34)).alloc (.cells #[.string ⟨#[]⟩, .slice none 0 0, .slice none 0 0] 47) = wv at HQ hz HL hbv l0 ⊢
  refine (tabAt_spec _ ts s _ (HC.out.on hbv)).mono ?_
  rintro e w1 ⟨rfl, b1⟩
  have HL1 := HL.on b1
  have HQ1 := HQ.on b1
  have hz1 : w.heap.size + 1 + 1 ≤ w1.heap.size := Nat.le_trans hz b1.size
  have hb1 := ch_trans hbv b1
  clear b1 hbv HL l0 HQ hz
  have l0 := HL1.one
  go_wp2_with fail
  refine (catOk_spec _ ts _ (HC.out.on hb1) HF.out).mono ?_
  rintro e w2 ⟨q, rfl, hq, b2⟩
  have HQU : Hid (q = true ↔ catRight ts) := hq
  have HL2 := HL1.on b2
  have HQ2 := HQ1.on b2
  have hz2 : w.heap.size + 1 + 1 ≤ w2.heap.size := Nat.le_trans hz1 b2.size
  have hb2 := ch_trans hb1 b2
  clear b2 HL1 l0 hq hb1 HQ1 hz1
  have l0 := HL2.one
  obtain ⟨g0, g1, g2⟩ := HQ2.loc.three
  have i0 := HQ2.frozen 0
  have i1 := HQ2.frozen 1
  have i2 := HQ2.frozen 2
  cases q
  · obtain ⟨rfl, rfl⟩ : t = noTab ∧ q0 = false := by
      rcases HRS.out with ⟨h, _⟩ | ⟨_, h⟩
      · have := HQU.out.2 h; cases this
      · exact h
    clear HQU HRS
    have HQ9 := own3 HQ2 (.string ⟨#[]⟩) (.slice none 0 0) (.slice none 0 0)
    have hT := turns3 w2 (w.heap.size + 1) (.string ⟨#[]⟩) (.slice none 0 0) (.slice none 0 0)
    have HB : Hid (Below w.heap.size w (((w2.setCell ⟨w.heap.size + 1, 0, none⟩ (.string ⟨#[]⟩)).setCell ⟨w.heap.size + 1, 1, none⟩ (.slice none 0 0)).setCell ⟨w.heap.size + 1, 2, none⟩ (.slice none 0 0))) := hb2.trans (hT.toBelow (fun c h => by omega) hb2.size)
    have HG9 : Hid (TabG (((w2.setCell ⟨w.heap.size + 1, 0, none⟩ (.string ⟨#[]⟩)).setCell ⟨w.heap.size + 1, 1, none⟩ (.slice none 0 0)).setCell ⟨w.heap.size + 1, 2, none⟩ (.slice none 0 0)) w.heap.size #[(.string ⟨#[]⟩), (.slice none 0 0), (.slice none 0 0)] noTab) := TabG.none _ _
    clear hT
    go_wp2
    generalize ((w2.setCell ⟨w.heap.size + 1, 0, none⟩ (.string ⟨#[]⟩)).setCell ⟨w.heap.size + 1, 1, none⟩ (.slice none 0 0)).setCell ⟨w.heap.size + 1, 2, none⟩ (.slice none 0 0) = W at HQ9 HG9 HB ⊢
    obtain ⟨e0, e1, e2⟩ := HQ9.loc.three
    exact bodyPost_ret (v := .tuple #[.agg #[(.string ⟨#[]⟩), (.slice none 0 0), (.slice none 0 0)], .bool false]) (by simp [results, Try.results21, go_sem, e0, e1, e2]) rfl ⟨_, rfl, HB.out, HG9.out⟩
  have HR : Hid (catRight ts) := HQU.out.1 (by trivial)
  clear HQU
  rcases tabAt_lt ts s with h1 | ⟨i, h1, h2⟩
  · obtain ⟨rfl, rfl⟩ : t = noTab ∧ q0 = false := by
      rcases HRS.out with ⟨_, i, h, _⟩ | ⟨_, h⟩
      · rw [h1] at h; omega
      · exact h
    have hneg : decide ((-1 : Int) < 0) = true := by decide
    rw [h1]
    clear HRS h1
    have HQ9 := own3 HQ2 (.string ⟨#[]⟩) (.slice none 0 0) (.slice none 0 0)
    have hT := turns3 w2 (w.heap.size + 1) (.string ⟨#[]⟩) (.slice none 0 0) (.slice none 0 0)
    have HB : Hid (Below w.heap.size w (((w2.setCell ⟨w.heap.size + 1, 0, none⟩ (.string ⟨#[]⟩)).setCell ⟨w.heap.size + 1, 1, none⟩ (.slice none 0 0)).setCell ⟨w.heap.size + 1, 2, none⟩ (.slice none 0 0))) := hb2.trans (hT.toBelow (fun c h => by omega) hb2.size)
    have HG9 : Hid (TabG (((w2.setCell ⟨w.heap.size + 1, 0, none⟩ (.string ⟨#[]⟩)).setCell ⟨w.heap.size + 1, 1, none⟩ (.slice none 0 0)).setCell ⟨w.heap.size + 1, 2, none⟩ (.slice none 0 0)) w.heap.size #[(.string ⟨#[]⟩), (.slice none 0 0), (.slice none 0 0)] noTab) := TabG.none _ _
    clear hT
    go_wp2
    generalize ((w2.setCell ⟨w.heap.size + 1, 0, none⟩ (.string ⟨#[]⟩)).setCell ⟨w.heap.size + 1, 1, none⟩ (.slice none 0 0)).setCell ⟨w.heap.size + 1, 2, none⟩ (.slice none 0 0) = W at HQ9 HG9 HB ⊢
    obtain ⟨e0, e1, e2⟩ := HQ9.loc.three
    exact bodyPost_ret (v := .tuple #[.agg #[(.string ⟨#[]⟩), (.slice none 0 0), (.slice none 0 0)], .bool false]) (by simp [results, Try.results21, go_sem, e0, e1, e2]) rfl ⟨_, rfl, HB.out, HG9.out⟩
  · obtain ⟨rfl, rfl⟩ : t = ts[i] ∧ q0 = true := by
      rcases HRS.out with ⟨_, j, h, hj, e1, e2⟩ | ⟨h, _⟩
      · rw [h1] at h
        have : i = j := by omega
        subst this
        exact ⟨e1, e2⟩
      · rcases h with h | h
        · exact absurd HR.out h
        · rw [h1] at h; omega
    have HRF : Hid (ts[i].few ∧ 1 ≤ ts[i].cols.length ∧ 1 ≤ ts[i].keys.length) := right_few (HR.out.2.1 i h2)
    have hidi : (i : Int) < ts.length := by omega
    have hnn : decide ((i : Int) < 0) = false := by simp
    rw [h1]
    obtain ⟨b, off, c1, p1, c2, p2, rfl, d0, d1, d2, hx⟩ := (HC.out.on hb2).tab i h2
    have HX : Hid (TabV w2 #[.string ts[i].name, .slice c1 ts[i].cols.length p1, .slice c2 ts[i].keys.length p2] ts[i]) := hx
    clear HRS h1 hx g0 g1 g2 i0 i1 i2
    go_wp2_with fail
    refine (l02Table_any _ ts[i] _ HX.out HRF.out.1 HRF.out.2.1 HRF.out.2.2).mono ?_
    rintro e w3 ⟨y, rfl, b3, hg⟩
    obtain ⟨xa, xn, xp, ya, yn, yp, rfl, hg⟩ := hg.lit
    have hb3 := ch_trans hb2 b3
    have HQ3 := HQ2.on b3
    have HG3 : Hid (TabG w3 (w.heap.size + 1 + 1) #[.string ts[i].name, .slice xa xn xp, .slice ya yn yp] ts[i]) := hg.mono hz2
    clear b3 hg HQ2 l0
    obtain ⟨g0, g1, g2⟩ := HQ3.loc.three
    have i0 := HQ3.frozen 0
    have i1 := HQ3.frozen 1
    have i2 := HQ3.frozen 2
    have HQ9 := own3 HQ3 (.string ts[i].name) (.slice xa xn xp) (.slice ya yn yp)
    have hT := turns3 w3 (w.heap.size + 1) (.string ts[i].name) (.slice xa xn xp) (.slice ya yn yp)
    have HB : Hid (Below w.heap.size w (((w3.setCell ⟨w.heap.size + 1, 0, none⟩ (.string ts[i].name)).setCell ⟨w.heap.size + 1, 1, none⟩ (.slice xa xn xp)).setCell ⟨w.heap.size + 1, 2, none⟩ (.slice ya yn yp))) := hb3.trans (hT.toBelow (fun c h => by omega) hb3.size)
    have HG9 : Hid (TabG (((w3.setCell ⟨w.heap.size + 1, 0, none⟩ (.string ts[i].name)).setCell ⟨w.heap.size + 1, 1, none⟩ (.slice xa xn xp)).setCell ⟨w.heap.size + 1, 2, none⟩ (.slice ya yn yp)) w.heap.size #[(.string ts[i].name), (.slice xa xn xp), (.slice ya yn yp)] ts[i]) := (HG3.out.turned hT fun c h => by omega).mono (by omega)
    clear hT
    go_wp2
    generalize ((w3.setCell ⟨w.heap.size + 1, 0, none⟩ (.string ts[i].name)).setCell ⟨w.heap.size + 1, 1, none⟩ (.slice xa xn xp)).setCell ⟨w.heap.size + 1, 2, none⟩ (.slice ya yn yp) = W at HQ9 HG9 HB ⊢
    obtain ⟨e0, e1, e2⟩ := HQ9.loc.three
    exact bodyPost_ret (v := .tuple #[.agg #[(.string ts[i].name), (.slice xa xn xp), (.slice ya yn yp)], .bool true]) (by simp [results, Try.results21, go_sem, e0, e1, e2]) rfl ⟨_, rfl, HB.out, HG9.out⟩

end Go.Proofs.Ytiijahoheajppab

namespace Go.Proofs.Ytiijahoheajppab
open Go.ChangeShapes Go.WideShapes Go.ChangeAt Go.RowKit

def colNames (t : Tc) : List ByteArray := t.cols.map fun c => c.name
theorem infoStrN : (Try.prog.info? 9).map (fun i => (i.zero, i.size, i.bytes)) = some (some (.string ByteArray.empty), 1, 16) := by kernel_rfl
theorem str_allN (s : ByteArray) : ∀ u ∈ (strX s).toList, u.oneCell' = true := by intro u hu; simp at hu; subst hu; rfl

set_option maxRecDepth 100000 in
set_option maxHeartbeats 2000000 in
/-- impl.colNames -/
theorem colNames_any (x : Array Value) (t : Tc) (w : World) (hx : TabV w x t) (hn : t.cols.length ≤ 1048576) :
    Calls Try.prog 52 #[.agg x] w fun e w' => ∃ v, e = .returned v ∧ Below w.heap.size w w' ∧ Got w' w.heap.size 9 1 v ((colNames t).map strX) := by
  obtain ⟨cv, kv, rfl, hcv, hkv⟩ := hx
  obtain ⟨a, p, rfl, hp, hp', hr⟩ := hcv
  unfold maxLen at hp'
  have HCV : Hid (RowAt w a 7 (t.cols.map Cl.cells)) := hr
  have HL := Loc.new w #[.string t.name, .slice a t.cols.length p, kv] 47
  have hb0 : Below w.heap.size w (w.alloc (.cells #[.string t.name, .slice a t.cols.length p, kv] 47)) := (by repeat (first | with_reducible exact Below.refl _ _ | with_reducible assumption | with_reducible refine ch_alloc ?_ _ | with_reducible refine Below.drew ?_ | with_reducible refine below_draws _ ?_ | (with_reducible refine Below.setCell ?_ ?_ _; rotate_left; focus (first | with_reducible exact Nat.le_refl _ | (simp; done) | (simp; omega) | (simp at *; omega))) | with_reducible refine ch_trans ?_ (by with_reducible assumption)))
  clear hr hkv
  obtain ⟨l0, l1, l2⟩ := HL.three
  have HG0 : Hid (Got (w.alloc (.cells #[.string t.name, .slice a t.cols.length p, kv] 47)) w.heap.size 9 1 (.slice none 0 0) (((colNames t).take 0).map strX)) := by
    show Got _ _ _ _ _ _
    simpa using Got.nil _ _ _ _
  clear HL
  go_enter Try.func52, Try.ntmps52
  go_wp2
  go_loopw [3, 9] (fun v j wr => ∃ k : Nat, k ≤ t.cols.length ∧ j = .int .i64 (k : Int) ∧ Hid (Below w.heap.size w wr) ∧ Hid (Got wr w.heap.size 9 1 v (((colNames t).take k).map strX))) (fun _ j _ => t.cols.length - (intOf j).toNat)
  case atStart => exact ⟨0, Nat.zero_le _, rfl, hb0, HG0⟩
  case round =>
    obtain ⟨k, hk, rfl, HB, HG⟩ := hrel
    obtain ⟨a', n', cap', rfl, hg⟩ := HG.out.lit2
    have HG1 : Hid (Got wr w.heap.size 9 1 (.slice a' n' cap') (((colNames t).take k).map strX)) := hg
    clear HG hg HG0
    by_cases hkt : k < t.cols.length
    · have hlti2 : (k : Int) < t.cols.length := by omega
      obtain ⟨b', off', rfl, e0, e1, e2, e3, e4, e5, e6⟩ := (HCV.out.on HB.out).cols k hkt
      have HE : Hid (((colNames t).take k).map strX ++ [#[.string t.cols[k].name]] = ((colNames t).take (k + 1)).map strX) := by
        show _ = _
        rw [List.take_succ_eq_append_getElem (by simpa [colNames] using hkt), List.map_append]
        simp [colNames]
      have hlk : (((colNames t).take k).map strX).length ≤ 1048576 := by simp [colNames]; omega
      have hsz : w.heap.size ≤ wr.heap.size := HB.out.size
      generalize ((colNames t).take k).map strX = T0 at HG1 HE hlk
      go_wp2_with (at_builtin; refine app_one rfl (.tmp 13) (.tmp 16) rfl Try.underlying29 infoStrN rfl (by decide) (by decide) w.heap.size _ T0 rfl (HG1.out.on (by repeat (first | with_reducible exact Below.refl _ _ | with_reducible assumption | with_reducible refine ch_alloc ?_ _ | with_reducible refine Below.drew ?_ | with_reducible refine below_draws _ ?_ | (with_reducible refine Below.setCell ?_ ?_ _; rotate_left; focus (first | with_reducible exact Nat.le_refl _ | (simp; done) | (simp; omega) | (simp at *; omega))) | with_reducible refine ch_trans ?_ (by with_reducible assumption)))) (wr.heap.size + 1) 1 #[.string t.cols[k].name] rfl (Own.at (wr.alloc _) _ _ (by simp)).loc rfl (str_allN _) (by omega) (by simp; omega) ?_; intro v3 w4 hg4 hb4)
      have HG4 : Hid (Got w4 w.heap.size 9 1 v3 (((colNames t).take (k + 1)).map strX)) := by
        show Got _ _ _ _ _ _
        rw [← HE.out]; exact hg4
      have HB4 : Hid (Below w.heap.size w w4) := HB.out.trans ((Below.mono (ch_alloc (ch_alloc (Below.refl _ _) _) _) hsz).trans hb4)
      clear hg4 hb4
      go_round
      case rel => exact ⟨k + 1, by omega, by go_num, HB4, HG4⟩
      case measure => simp [intOf]; omega
    · have hlti2 : (t.cols.length : Int) ≤ k := by omega
      have HG9 : Hid (Got wr w.heap.size 9 1 (.slice a' n' cap') ((colNames t).map strX)) := by
        show Got _ _ _ _ _ _
        have := HG1.out
        rwa [List.take_of_length_le (by simp [colNames]; omega)] at this
      go_wp2
      go_ret
      exact ⟨_, rfl, HB.out, HG9.out⟩
end Go.Proofs.Ytiijahoheajppab
