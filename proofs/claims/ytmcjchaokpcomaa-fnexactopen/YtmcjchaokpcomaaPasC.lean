/- A record passed over the open transactions: the landed pass, an end. -/
import Derived.Test.YtmcjchaokpcomaaPasB
namespace Go.Proofs.Ytmcjchaokpcomaa
open Go.ChangeShapes Go.WideShapes Go.ChangeAt Go.RowKit

set_option maxRecDepth 100000 in
set_option maxHeartbeats 4000000 in
/-- (*impl.openList).pass -/
theorem pass_out (w0 : World) (P : Nat) (TP : TypeId) (pc : Array Value) (v : Value) (os : List Xc) (x : Array Value) (t : Lc) (w : World)
    (ho : Own w P TP pc) (hv : pc[0]? = some v) (hg : OpenG w0 w (P + 1) v os) (hx : RecV w0 x t) (hl : os.length ≤ 2000000) (hsl : ∀ o ∈ os, o.sts.length ≤ 2000000) (i : Nat) (hi : i < os.length) (he : os[i].xid = t.xid) (hN : ∀ j (h : j < os.length), j < i → os[j].xid ≠ t.xid) (h2 : t.kind ≠ 2) :
    Calls Try.prog 37 #[.pointer (some ⟨P, 0, none⟩), .agg x] w fun e w' => e = .returned (.tuple #[]) ∧ ∃ v', Own w' P TP (pc.setIfInBounds 0 v') ∧ OpenG w0 w' (P + 1) v' (passL os t) ∧ Pt P w w' := by
  obtain ⟨ka, kp, ra, rp, ca, cp, oa, op, rfl, _, hs⟩ := hx.lit
  have hG0 := hg
  obtain ⟨L, rfl, hL, h3, h4⟩ := hg
  obtain ⟨a, n, cap, rfl, hL'⟩ := hL.lit2
  have hlt := ho.lt
  have HLL : n = L.length ∧ n ≤ cap ∧ cap ≤ maxLen := by
    obtain ⟨a', cap', e, h1, h2, _⟩ := hL'.row
    simp at e
    obtain ⟨_, rfl, rfl⟩ := e
    exact ⟨rfl, by simpa using h1, h2⟩
  obtain ⟨hnl, hnc, hcm⟩ := HLL
  unfold maxLen at hcm
  subst hnl
  have HG0 : Hid (OpenG w0 w (P + 1) (.slice a L.length cap) (L.map fun p => p.1)) := hG0
  have HL : Hid (Got w (P + 1) 96 2 (.slice a L.length cap) (L.map tcell)) := hL'
  have H3 : Hid (∀ p ∈ L, StsG w0 w (P + 1) p.2 p.1.sts) := h3
  have H4 : Hid (L.Pairwise (fun p q => ∀ c, p.2.ownBlock = some c → q.2.ownBlock ≠ some c)) := h4
  have HST : Hid (StmtV w0 #[.int .i64 t.st.kind, .string t.st.table, .slice ka t.st.key.length kp, .slice ra t.st.row.length rp, .int .i64 t.st.ddl.kind, .string t.st.ddl.table, .slice ca t.st.ddl.cols.length cp, .slice oa t.st.ddl.keys.length op, .string t.st.ddl.name, .string t.st.ddl.to] t.st) := hs
  have HO : Hid (Own w P TP pc) := ho
  have HV : Hid (pc[0]? = some (.slice a L.length cap)) := hv
  have HAT : Hid (∀ u : World, Below w.heap.size w u → Calls Try.prog 67 #[.slice a L.length cap, .int .i64 t.xid] u fun e w' => e = .returned (.int .i64 (xAt (L.map fun p => p.1) t.xid)) ∧ Below u.heap.size u w') := fun u hu => openAt_any _ _ L u (hL'.on hu).tr
  have HRA : Hid (Own (w.alloc (.cells #[.int .i64 t.kind, .int .i64 t.xid, .int .i64 t.st.kind, .string t.st.table, .slice ka t.st.key.length kp, .slice ra t.st.row.length rp, .int .i64 t.st.ddl.kind, .string t.st.ddl.table, .slice ca t.st.ddl.cols.length cp, .slice oa t.st.ddl.keys.length op, .string t.st.ddl.name, .string t.st.ddl.to] 44)) w.heap.size 44 #[.int .i64 t.kind, .int .i64 t.xid, .int .i64 t.st.kind, .string t.st.table, .slice ka t.st.key.length kp, .slice ra t.st.row.length rp, .int .i64 t.st.ddl.kind, .string t.st.ddl.table, .slice ca t.st.ddl.cols.length cp, .slice oa t.st.ddl.keys.length op, .string t.st.ddl.name, .string t.st.ddl.to]) := Own.new _ _ _
  have c0 : (w.alloc (.cells #[.int .i64 t.kind, .int .i64 t.xid, .int .i64 t.st.kind, .string t.st.table, .slice ka t.st.key.length kp, .slice ra t.st.row.length rp, .int .i64 t.st.ddl.kind, .string t.st.ddl.table, .slice ca t.st.ddl.cols.length cp, .slice oa t.st.ddl.keys.length op, .string t.st.ddl.name, .string t.st.ddl.to] 44)).cell? ⟨P, 0, none⟩ = some (.slice a L.length cap) := cell_on (ho.at0 hv) (ch_alloc (Below.refl _ _) _)
  have hLl : L.length ≤ 2000000 := by simpa using hl
  have hsl' : ∀ p ∈ L, p.1.sts.length ≤ 2000000 := fun p hp => hsl p.1 (List.mem_map.2 ⟨p, hp, rfl⟩)
  clear hx hL hL' h3 h4 hs ho hv hl hG0 hsl
  have HSL : Hid (∀ p ∈ L, p.1.sts.length ≤ 2000000) := hsl'
  clear hsl'
  have hA := xAt_some hi he hN
  rw [hA] at HAT
  have hi' : i < L.length := by simpa using hi
  have hii : (i : Int) < L.length := by omega
  have hd0 : decide ((i : Int) < 0) = false := by simp
  have HR0 : Hid (passL (L.map fun p => p.1) t = if t.kind = 2 then (L.map fun p => p.1).set i ⟨L[i].1.xid, L[i].1.sts ++ [t.st]⟩ else if t.kind = 3 ∨ t.kind = 4 then (L.map fun p => p.1).eraseIdx i else L.map fun p => p.1) := by
    show _ = _
    rw [passL_some hi he hN]
    simp
  clear he hN hi
  have j2 : (t.kind == 2) = false := by simpa using h2
  by_cases h3 : t.kind = 3 ∨ t.kind = 4
  · have HR : Hid (passL (L.map fun p => p.1) t = (L.map fun p => p.1).eraseIdx i) := by
      show _ = _
      rw [HR0.out, if_neg h2, if_pos h3]
    have HDEL : Hid (∀ u : World, Below w.heap.size w u → Calls Try.prog 68 #[.slice a L.length cap, .int .i64 (i : Int), .int .i64 ((i : Int) + 1)] u fun e w' => ∃ v', e = .returned v' ∧ OpenG w0 w' (P + 1) v' ((L.map fun p => p.1).eraseIdx i) ∧ Pt P w w' ∧ Own w' P TP pc ∧ ∃ a2 n2 q2, v' = .slice a2 n2 q2) := fun u hu => by
      have h := delTr (HL.out.on hu) (fun x hx y hy => by
        obtain ⟨p, hp, rfl⟩ := List.mem_map.1 hx
        obtain ⟨zs, gz, _⟩ := H3.out p hp
        obtain ⟨sa, sn, sq, hse, _⟩ := gz.lit2
        simp at hy
        rcases hy with rfl | rfl
        · rfl
        · rw [hse]; rfl) i (i + 1) (by omega) (by rw [List.length_map]; omega)
      have e : ((i + 1 : Nat) : Int) = (i : Int) + 1 := by omega
      rw [e] at h
      refine h.mono ?_
      rintro e w' ⟨v', rfl, hg', ht', hb'⟩
      exact ⟨v', rfl, OpenG.out' HL.out H3.out H4.out hu hg' ht', Pt.grow (Or.inl rfl) HL.out hu ht' hlt, (HO.out.on hu).turned ht' (fun hc => by have := HL.out.own hc; omega), by
        obtain ⟨a2, n2, q2, h2, _⟩ := hg'.lit2
        exact ⟨a2, n2, q2, h2⟩⟩
    have hi63 : (i : Int) + 1 ≤ 9223372036854775807 := by omega
    obtain ⟨q3, q4, j3, j4, hq⟩ : ∃ q3 q4 : Bool, (t.kind == 3) = q3 ∧ (t.kind == 4) = q4 ∧ (q3 = true ∨ (q3 = false ∧ q4 = true)) := ⟨_, _, rfl, rfl, by
      rcases h3 with h | h <;> simp [h]⟩
    clear h2 h3 HR0 HG0 HST
    rcases hq with rfl | ⟨rfl, rfl⟩
    all_goals
      go_enter Try.func37, Try.ntmps37
      go_wp2_with fail
      go_region_with (go_at_call 67; refine (HAT.out _ (by repeat (first | with_reducible exact Below.refl _ _ | with_reducible assumption | with_reducible refine ch_alloc ?_ _ | with_reducible refine Below.drew ?_ | with_reducible refine below_draws _ ?_ | (with_reducible refine Below.setCell ?_ ?_ _; rotate_left; focus (first | with_reducible exact Nat.le_refl _ | (simp; done) | (simp; omega) | (simp at *; omega))) | with_reducible refine ch_trans ?_ (by with_reducible assumption)))).mono ?_; rintro e w1 ⟨rfl, b1⟩; obtain ⟨g0, g1, g2, g3, g4, g5, g6, g7, g8, g9, g10, g11⟩ := (HRA.out.on (w' := w1) (by repeat (first | with_reducible exact Below.refl _ _ | with_reducible assumption | with_reducible refine ch_alloc ?_ _ | with_reducible refine Below.drew ?_ | with_reducible refine below_draws _ ?_ | (with_reducible refine Below.setCell ?_ ?_ _; rotate_left; focus (first | with_reducible exact Nat.le_refl _ | (simp; done) | (simp; omega) | (simp at *; omega))) | with_reducible refine ch_trans ?_ (by with_reducible assumption)))).loc.twelve; have hb1 : Below w.heap.size w w1 := (by repeat (first | with_reducible exact Below.refl _ _ | with_reducible assumption | with_reducible refine ch_alloc ?_ _ | with_reducible refine Below.drew ?_ | with_reducible refine below_draws _ ?_ | (with_reducible refine Below.setCell ?_ ?_ _; rotate_left; focus (first | with_reducible exact Nat.le_refl _ | (simp; done) | (simp; omega) | (simp at *; omega))) | with_reducible refine ch_trans ?_ (by with_reducible assumption))); have HO1 : Hid (Own w1 P TP pc) := HO.out.on hb1; have c1 := HO1.out.at0 HV.out)
      all_goals
        go_wp2_with (go_at_call 68; refine (HDEL.out _ (by repeat (first | with_reducible exact Below.refl _ _ | with_reducible assumption | with_reducible refine ch_alloc ?_ _ | with_reducible refine Below.drew ?_ | with_reducible refine below_draws _ ?_ | (with_reducible refine Below.setCell ?_ ?_ _; rotate_left; focus (first | with_reducible exact Nat.le_refl _ | (simp; done) | (simp; omega) | (simp at *; omega))) | with_reducible refine ch_trans ?_ (by with_reducible assumption)))).mono ?_; rintro e w2 ⟨v', rfl, hG2, hP2, hO2, a2, n2, q2, rfl⟩; have HO2 : Hid (Own w2 P TP pc) := hO2; have HG2 : Hid (OpenG w0 w2 (P + 1) (.slice a2 n2 q2) ((L.map fun p => p.1).eraseIdx i)) := hG2; have HP2 : Hid (Pt P w w2) := hP2; have c2 := hO2.at0 HV.out; have i2 := hO2.frozen 0; clear hG2 hP2 hO2)
        refine bodyPost_end (results_none rfl _ _ _) rfl ?_
        exact ⟨rfl, _, HO2.out.set 0 _, by rw [HR.out]; exact HG2.out.past _, HP2.out.trans (Pt.set _ _ _)⟩
  · have HR : Hid (passL (L.map fun p => p.1) t = L.map fun p => p.1) := by
      show _ = _
      rw [HR0.out, if_neg h2, if_neg h3]
    have j3 : (t.kind == 3) = false := by simp; omega
    have j4 : (t.kind == 4) = false := by simp; omega
    clear h2 h3 HR0 HST HSL
    go_enter Try.func37, Try.ntmps37
    go_wp2_with fail
    go_region_with (go_at_call 67; refine (HAT.out _ (by repeat (first | with_reducible exact Below.refl _ _ | with_reducible assumption | with_reducible refine ch_alloc ?_ _ | with_reducible refine Below.drew ?_ | with_reducible refine below_draws _ ?_ | (with_reducible refine Below.setCell ?_ ?_ _; rotate_left; focus (first | with_reducible exact Nat.le_refl _ | (simp; done) | (simp; omega) | (simp at *; omega))) | with_reducible refine ch_trans ?_ (by with_reducible assumption)))).mono ?_; rintro e w1 ⟨rfl, b1⟩; obtain ⟨g0, g1, g2, g3, g4, g5, g6, g7, g8, g9, g10, g11⟩ := (HRA.out.on (w' := w1) (by repeat (first | with_reducible exact Below.refl _ _ | with_reducible assumption | with_reducible refine ch_alloc ?_ _ | with_reducible refine Below.drew ?_ | with_reducible refine below_draws _ ?_ | (with_reducible refine Below.setCell ?_ ?_ _; rotate_left; focus (first | with_reducible exact Nat.le_refl _ | (simp; done) | (simp; omega) | (simp at *; omega))) | with_reducible refine ch_trans ?_ (by with_reducible assumption)))).loc.twelve; have hb1 : Below w.heap.size w w1 := (by repeat (first | with_reducible exact Below.refl _ _ | with_reducible assumption | with_reducible refine ch_alloc ?_ _ | with_reducible refine Below.drew ?_ | with_reducible refine below_draws _ ?_ | (with_reducible refine Below.setCell ?_ ?_ _; rotate_left; focus (first | with_reducible exact Nat.le_refl _ | (simp; done) | (simp; omega) | (simp at *; omega))) | with_reducible refine ch_trans ?_ (by with_reducible assumption))); have HO1 : Hid (Own w1 P TP pc) := HO.out.on hb1; have c1 := HO1.out.at0 HV.out)
    all_goals
      have HG1 : Hid (OpenG w0 w1 (P + 1) (.slice a L.length cap) (L.map fun p => p.1)) := HG0.out.on hb1
      have HP1 : Hid (Pt P w w1) := Pt.new hb1 (by omega)
      go_wp2
      refine bodyPost_end (results_none rfl _ _ _) rfl ?_
      exact ⟨rfl, _, by rw [set_same HV.out]; exact HO1.out, by rw [HR.out]; exact HG1.out, HP1.out⟩


/-- (*impl.openList).pass -/
theorem pass_any (w0 : World) (P : Nat) (TP : TypeId) (pc : Array Value) (v : Value) (os : List Xc) (x : Array Value) (t : Lc) (w : World)
    (ho : Own w P TP pc) (hv : pc[0]? = some v) (hg : OpenG w0 w (P + 1) v os) (hx : RecV w0 x t) (hl : os.length ≤ 2000000) (hsl : ∀ o ∈ os, o.sts.length ≤ 2000000) :
    Calls Try.prog 37 #[.pointer (some ⟨P, 0, none⟩), .agg x] w fun e w' => e = .returned (.tuple #[]) ∧ ∃ v', Own w' P TP (pc.setIfInBounds 0 v') ∧ OpenG w0 w' (P + 1) v' (passL os t) ∧ Pt P w w' := by
  rcases xAt_cases os t.xid with ⟨_, hN⟩ | ⟨i, hi, _, he, hN⟩
  · exact pass_none w0 P TP pc v os x t w ho hv hg hx hl hsl hN
  · by_cases h2 : t.kind = 2
    · exact pass_add w0 P TP pc v os x t w ho hv hg hx hl hsl i hi he hN h2
    · exact pass_out w0 P TP pc v os x t w ho hv hg hx hl hsl i hi he hN h2
end Go.Proofs.Ytmcjchaokpcomaa
