/- A record passed over the open transactions: the landed pass, a statement. -/
import Derived.Test.YtmcjchaokpcomaaPass
namespace Go.Proofs.Ytmcjchaokpcomaa
open Go.ChangeShapes Go.WideShapes Go.ChangeAt Go.RowKit

set_option maxRecDepth 100000 in
set_option maxHeartbeats 4000000 in
/-- (*impl.openList).pass -/
theorem pass_add (w0 : World) (P : Nat) (TP : TypeId) (pc : Array Value) (v : Value) (os : List Xc) (x : Array Value) (t : Lc) (w : World)
    (ho : Own w P TP pc) (hv : pc[0]? = some v) (hg : OpenG w0 w (P + 1) v os) (hx : RecV w0 x t) (hl : os.length ≤ 2000000) (hsl : ∀ o ∈ os, o.sts.length ≤ 2000000) (i : Nat) (hi : i < os.length) (he : os[i].xid = t.xid) (hN : ∀ j (h : j < os.length), j < i → os[j].xid ≠ t.xid) (h2 : t.kind = 2) :
    Calls Try.prog 37 #[.pointer (some ⟨P, 0, none⟩), .agg x] w fun e w' => e = .returned (.tuple #[]) ∧ ∃ v', Own w' P TP (pc.setIfInBounds 0 v') ∧ OpenG w0 w' (P + 1) v' (passL os t) ∧ Pt P w w' := by
  obtain ⟨ka, kp, ra, rp, ca, cp, oa, op, rfl, _, hs⟩ := hx.lit
  have hG0 := hg
  obtain ⟨L, rfl, hL, h3, h4⟩ := hg
  obtain ⟨a, n, cap, rfl, hL'⟩ := hL.lit2
  have hlt := ho.lt
  have HLL : n = L.length ∧ n ≤ cap ∧ cap ≤ maxLen := by
    obtain ⟨a', cap', e, h1, h2, _⟩ := hL'.row
    simp at e
    obtain ⟨_, rfl, rfl⟩ := e
    exact ⟨rfl, by simpa using h1, h2⟩
  obtain ⟨hnl, hnc, hcm⟩ := HLL
  unfold maxLen at hcm
  subst hnl
  have HG0 : Hid (OpenG w0 w (P + 1) (.slice a L.length cap) (L.map fun p => p.1)) := hG0
  have HL : Hid (Got w (P + 1) 96 2 (.slice a L.length cap) (L.map tcell)) := hL'
  have H3 : Hid (∀ p ∈ L, StsG w0 w (P + 1) p.2 p.1.sts) := h3
  have H4 : Hid (L.Pairwise (fun p q => ∀ c, p.2.ownBlock = some c → q.2.ownBlock ≠ some c)) := h4
  have HST : Hid (StmtV w0 #[.int .i64 t.st.kind, .string t.st.table, .slice ka t.st.key.length kp, .slice ra t.st.row.length rp, .int .i64 t.st.ddl.kind, .string t.st.ddl.table, .slice ca t.st.ddl.cols.length cp, .slice oa t.st.ddl.keys.length op, .string t.st.ddl.name, .string t.st.ddl.to] t.st) := hs
  have HO : Hid (Own w P TP pc) := ho
  have HV : Hid (pc[0]? = some (.slice a L.length cap)) := hv
  have HAT : Hid (∀ u : World, Below w.heap.size w u → Calls Try.prog 67 #[.slice a L.length cap, .int .i64 t.xid] u fun e w' => e = .returned (.int .i64 (xAt (L.map fun p => p.1) t.xid)) ∧ Below u.heap.size u w') := fun u hu => openAt_any _ _ L u (hL'.on hu).tr
  have HRA : Hid (Own (w.alloc (.cells #[.int .i64 t.kind, .int .i64 t.xid, .int .i64 t.st.kind, .string t.st.table, .slice ka t.st.key.length kp, .slice ra t.st.row.length rp, .int .i64 t.st.ddl.kind, .string t.st.ddl.table, .slice ca t.st.ddl.cols.length cp, .slice oa t.st.ddl.keys.length op, .string t.st.ddl.name, .string t.st.ddl.to] 44)) w.heap.size 44 #[.int .i64 t.kind, .int .i64 t.xid, .int .i64 t.st.kind, .string t.st.table, .slice ka t.st.key.length kp, .slice ra t.st.row.length rp, .int .i64 t.st.ddl.kind, .string t.st.ddl.table, .slice ca t.st.ddl.cols.length cp, .slice oa t.st.ddl.keys.length op, .string t.st.ddl.name, .string t.st.ddl.to]) := Own.new _ _ _
  have c0 : (w.alloc (.cells #[.int .i64 t.kind, .int .i64 t.xid, .int .i64 t.st.kind, .string t.st.table, .slice ka t.st.key.length kp, .slice ra t.st.row.length rp, .int .i64 t.st.ddl.kind, .string t.st.ddl.table, .slice ca t.st.ddl.cols.length cp, .slice oa t.st.ddl.keys.length op, .string t.st.ddl.name, .string t.st.ddl.to] 44)).cell? ⟨P, 0, none⟩ = some (.slice a L.length cap) := cell_on (ho.at0 hv) (ch_alloc (Below.refl _ _) _)
  have hLl : L.length ≤ 2000000 := by simpa using hl
  have hsl' : ∀ p ∈ L, p.1.sts.length ≤ 2000000 := fun p hp => hsl p.1 (List.mem_map.2 ⟨p, hp, rfl⟩)
  clear hx hL hL' h3 h4 hs ho hv hl hG0 hsl
  have HSL : Hid (∀ p ∈ L, p.1.sts.length ≤ 2000000) := hsl'
  clear hsl'
  have hA := xAt_some hi he hN
  rw [hA] at HAT
  have hi' : i < L.length := by simpa using hi
  have hii : (i : Int) < L.length := by omega
  have hd0 : decide ((i : Int) < 0) = false := by simp
  have HR0 : Hid (passL (L.map fun p => p.1) t = if t.kind = 2 then (L.map fun p => p.1).set i ⟨L[i].1.xid, L[i].1.sts ++ [t.st]⟩ else if t.kind = 3 ∨ t.kind = 4 then (L.map fun p => p.1).eraseIdx i else L.map fun p => p.1) := by
    show _ = _
    rw [passL_some hi he hN]
    simp
  clear he hN hi
  have HR : Hid (passL (L.map fun p => p.1) t = (L.map fun p => p.1).set i ⟨L[i].1.xid, L[i].1.sts ++ [t.st]⟩) := by
    show _ = _
    rw [HR0.out, if_pos h2]
  have j2 : (t.kind == 2) = true := by simpa using h2
  obtain ⟨xs, gx, hxl, hxv⟩ := H3.out L[i] (List.getElem_mem hi')
  obtain ⟨sa, sn, sq, hse, gx⟩ := gx.lit2
  have GX : Hid (Got w (P + 1) 42 10 (.slice sa sn sq) xs) := gx
  have HXV : Hid (xs.length = L[i].1.sts.length ∧ ∀ j (h : j < xs.length) (g : j < L[i].1.sts.length), StmtV w0 xs[j] L[i].1.sts[j]) := ⟨hxl, hxv⟩
  have HSE : Hid (L[i].2 = .slice sa sn sq) := hse
  have hxll : xs.length ≤ 2000000 := by rw [hxl]; exact HSL.out _ (List.getElem_mem hi')
  clear h2 HR0 HG0 hxl hxv gx hse
  go_enter Try.func37, Try.ntmps37
  go_wp2_with fail
  go_region_with (go_at_call 67; refine (HAT.out _ (by repeat (first | with_reducible exact Below.refl _ _ | with_reducible assumption | with_reducible refine ch_alloc ?_ _ | with_reducible refine Below.drew ?_ | with_reducible refine below_draws _ ?_ | (with_reducible refine Below.setCell ?_ ?_ _; rotate_left; focus (first | with_reducible exact Nat.le_refl _ | (simp; done) | (simp; omega) | (simp at *; omega))) | with_reducible refine ch_trans ?_ (by with_reducible assumption)))).mono ?_; rintro e w1 ⟨rfl, b1⟩; obtain ⟨g0, g1, g2, g3, g4, g5, g6, g7, g8, g9, g10, g11⟩ := (HRA.out.on (w' := w1) (by repeat (first | with_reducible exact Below.refl _ _ | with_reducible assumption | with_reducible refine ch_alloc ?_ _ | with_reducible refine Below.drew ?_ | with_reducible refine below_draws _ ?_ | (with_reducible refine Below.setCell ?_ ?_ _; rotate_left; focus (first | with_reducible exact Nat.le_refl _ | (simp; done) | (simp; omega) | (simp at *; omega))) | with_reducible refine ch_trans ?_ (by with_reducible assumption)))).loc.twelve; have hb1 : Below w.heap.size w w1 := (by repeat (first | with_reducible exact Below.refl _ _ | with_reducible assumption | with_reducible refine ch_alloc ?_ _ | with_reducible refine Below.drew ?_ | with_reducible refine below_draws _ ?_ | (with_reducible refine Below.setCell ?_ ?_ _; rotate_left; focus (first | with_reducible exact Nat.le_refl _ | (simp; done) | (simp; omega) | (simp at *; omega))) | with_reducible refine ch_trans ?_ (by with_reducible assumption))); have HO1 : Hid (Own w1 P TP pc) := HO.out.on hb1; have c1 := HO1.out.at0 HV.out)
  all_goals
    have hs1 := hb1.size
    have hP1 : P < w1.heap.size := by omega
    obtain ⟨gb, rfl, hgb, hcb, hfb, _⟩ := (HL.out.on hb1).poke i 1 (by simpa using hi') (by omega) (.int .i64 0)
    have hcc : w1.cell? ⟨gb, i * 2 + 1, none⟩ = some (.slice sa sn sq) := by rw [hcb]; simp [HSE.out]
    have hgl : gb < w1.heap.size := cell_lt hcc
    clear hcb hfb
    go_wp2_with fail
    go_region_law (refine app_stepK rfl (.tmp 40) (.tmp 43) rfl Try.underlying61 infoSt rfl (by decide) (by decide) (P + 1) _ xs rfl (GX.out.on (by repeat (first | with_reducible exact Below.refl _ _ | with_reducible assumption | with_reducible refine ch_alloc ?_ _ | with_reducible refine Below.drew ?_ | with_reducible refine below_draws _ ?_ | (with_reducible refine Below.setCell ?_ ?_ _; rotate_left; focus (first | with_reducible exact Nat.le_refl _ | (simp; done) | (simp; omega) | (simp at *; omega))) | with_reducible refine ch_trans ?_ (by with_reducible assumption)))) w1.heap.size 1 #[.int .i64 t.st.kind, .string t.st.table, .slice ka t.st.key.length kp, .slice ra t.st.row.length rp, .int .i64 t.st.ddl.kind, .string t.st.ddl.table, .slice ca t.st.ddl.cols.length cp, .slice oa t.st.ddl.keys.length op, .string t.st.ddl.name, .string t.st.ddl.to] rfl (Loc.new _ _ _) rfl HST.out.one (by omega) (by simp; omega) ?_; intro v' w2 hg2 hb2 ht2 hl2; obtain ⟨a2, n2, q2, rfl, hg2⟩ := hg2.lit2; have HO2 : Hid (Own w2 P TP pc) := (HO1.out.on (by repeat (first | with_reducible exact Below.refl _ _ | with_reducible assumption | with_reducible refine ch_alloc ?_ _ | with_reducible refine Below.drew ?_ | with_reducible refine below_draws _ ?_ | (with_reducible refine Below.setCell ?_ ?_ _; rotate_left; focus (first | with_reducible exact Nat.le_refl _ | (simp; done) | (simp; omega) | (simp at *; omega))) | with_reducible refine ch_trans ?_ (by with_reducible assumption)))).turned ht2 (fun hc => by have := GX.out.own hc; omega); have c2 := HO2.out.at0 HV.out; obtain ⟨gb', egb, _, hc2, hf2, hG2⟩ := OpenG.change' hi' HL.out H3.out H4.out HXV.out.1 HXV.out.2 HST.out HSE.out (by repeat (first | with_reducible exact Below.refl _ _ | with_reducible assumption | with_reducible refine ch_alloc ?_ _ | with_reducible refine Below.drew ?_ | with_reducible refine below_draws _ ?_ | (with_reducible refine Below.setCell ?_ ?_ _; rotate_left; focus (first | with_reducible exact Nat.le_refl _ | (simp; done) | (simp; omega) | (simp at *; omega))) | with_reducible refine ch_trans ?_ (by with_reducible assumption))) hg2 ht2 hl2; cases egb; have HG2 : Hid (OpenG w0 (w2.setCell ⟨gb, i * 2 + 1, none⟩ (.slice a2 n2 q2)) (P + 1) (.slice (some ⟨gb, 0, none⟩) L.length cap) ((L.map (fun p => p.1)).set i ⟨L[i].1.xid, L[i].1.sts ++ [t.st]⟩)) := hG2; have HP2 : Hid (Pt P w (w2.setCell ⟨gb, i * 2 + 1, none⟩ (.slice a2 n2 q2))) := (Pt.grow (Or.inr rfl) GX.out (by repeat (first | with_reducible exact Below.refl _ _ | with_reducible assumption | with_reducible refine ch_alloc ?_ _ | with_reducible refine Below.drew ?_ | with_reducible refine below_draws _ ?_ | (with_reducible refine Below.setCell ?_ ?_ _; rotate_left; focus (first | with_reducible exact Nat.le_refl _ | (simp; done) | (simp; omega) | (simp at *; omega))) | with_reducible refine ch_trans ?_ (by with_reducible assumption))) ht2 hlt).trans (Pt.poke (by omega) hG2); clear hg2 hb2 ht2 hl2 hG2)
    all_goals
      go_wp2
      refine bodyPost_end (results_none rfl _ _ _) rfl ?_
      exact ⟨rfl, _, by rw [set_same HV.out]; exact HO2.out.other (by simp; omega) _, by rw [HR.out]; exact HG2.out, HP2.out⟩

end Go.Proofs.Ytmcjchaokpcomaa
