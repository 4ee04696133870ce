/- A record passed over the open transactions: the landed pass. -/
import Derived.Test.YtmcjchaokpcomaaOk
namespace Go.Proofs.Ytmcjchaokpcomaa
open Go.ChangeShapes Go.WideShapes Go.ChangeAt Go.RowKit

theorem OpenG.past {w0 w : World} {P : Nat} {v : Value} {os : List Xc} (h : OpenG w0 w (P + 1) v os) (u : Value) : OpenG w0 (w.setCell ⟨P, 0, none⟩ u) (P + 1) v os := by
  obtain ⟨L, h1, h2, h3, h4⟩ := h
  have ht := (Turns.refl (fun c => c = P) w).set (p := ⟨P, 0, none⟩) rfl u
  refine ⟨L, h1, h2.turned ht (fun c hc e => by have := h2.own hc; omega), fun p hp => ?_, h4⟩
  obtain ⟨xs, g1, g2⟩ := h3 p hp
  exact ⟨xs, g1.turned ht (fun c hc e => by have := g1.own hc; omega), g2⟩
theorem set_same {pc : Array Value} {v : Value} (h : pc[0]? = some v) : pc.setIfInBounds 0 v = pc := by
  apply Array.ext_getElem?
  intro i
  rw [Array.getElem?_setIfInBounds]
  split
  · rename_i e; subst e; obtain ⟨h0, _⟩ := Array.getElem?_eq_some_iff.1 h; rw [if_pos h0, h]
  · rfl

theorem OpenG.add' {w0 w u w1 : World} {B : Nat} {v v' : Value} {L : List (Xc × Value)} {x : Int} (hL : Got w B 96 2 v (L.map tcell)) (h3 : ∀ p ∈ L, StsG w0 w B p.2 p.1.sts) (h4 : L.Pairwise (fun p q => ∀ c, p.2.ownBlock = some c → q.2.ownBlock ≠ some c))
    (hb : Below w.heap.size w u) (hg : Got w1 B 96 2 v' (L.map tcell ++ [#[.int .i64 x, .slice none 0 0]])) (ht : Turns (fun c => v.ownBlock = some c) u w1) : OpenG w0 w1 B v' (L.map (fun p => p.1) ++ [⟨x, []⟩]) :=
  OpenG.add (hL.on hb) (fun p hp => (h3 p hp).on hb) h4 hg ht
theorem OpenG.out' {w0 w u w1 : World} {B : Nat} {v v' : Value} {L : List (Xc × Value)} {i : Nat} (hL : Got w B 96 2 v (L.map tcell)) (h3 : ∀ p ∈ L, StsG w0 w B p.2 p.1.sts) (h4 : L.Pairwise (fun p q => ∀ c, p.2.ownBlock = some c → q.2.ownBlock ≠ some c))
    (hb : Below w.heap.size w u) (hg : Got w1 B 96 2 v' ((L.map tcell).take i ++ (L.map tcell).drop (i + 1))) (ht : Turns (fun c => v.ownBlock = some c) u w1) : OpenG w0 w1 B v' ((L.map (fun p => p.1)).eraseIdx i) :=
  OpenG.out (hL.on hb) (fun p hp => (h3 p hp).on hb) h4 hg ht
theorem OpenG.change' {w0 w u w1 : World} {B : Nat} {a : Option Addr} {n cap : Nat} {v' sv : Value} {L : List (Xc × Value)} {i : Nat} (hi : i < L.length) {st : Sc} {sx : Array Value} (hL : Got w B 96 2 (.slice a n cap) (L.map tcell)) (h3 : ∀ p ∈ L, StsG w0 w B p.2 p.1.sts) (h4 : L.Pairwise (fun p q => ∀ c, p.2.ownBlock = some c → q.2.ownBlock ≠ some c))
    {xs : List (Array Value)} (hxs : xs.length = L[i].1.sts.length) (hxv : ∀ j (h : j < xs.length) (g : j < L[i].1.sts.length), StmtV w0 xs[j] L[i].1.sts[j]) (hst : StmtV w0 sx st) (hsv : L[i].2 = sv)
    (hb : Below w.heap.size w u) (hg : Got w1 B 42 10 v' (xs ++ [sx])) (ht : Turns (fun c => sv.ownBlock = some c) u w1) (hli : Lies u sv v') :
    ∃ g, a = some ⟨g, 0, none⟩ ∧ B ≤ g ∧ w1.cell? ⟨g, i * 2 + 1, none⟩ = some L[i].2 ∧ w1.frozen? ⟨g, i * 2 + 1, none⟩ = false ∧
      OpenG w0 (w1.setCell ⟨g, i * 2 + 1, none⟩ v') B (.slice a n cap) ((L.map (fun p => p.1)).set i ⟨L[i].1.xid, L[i].1.sts ++ [st]⟩) := by
  subst hsv
  obtain ⟨g, e, h1, h2, h3', _, h5⟩ := OpenG.change hi (hL.on hb) (fun p hp => (h3 p hp).on hb) h4 hxs hxv hst hg ht hli
  exact ⟨g, e, h1, h2, h3', h5⟩
theorem Pt.poke {P g o : Nat} {w0 w1 : World} {u : Value} {n cap : Nat} {os : List Xc} (hg : P ≤ g) (h : OpenG w0 (w1.setCell ⟨g, o, none⟩ u) (P + 1) (.slice (some ⟨g, 0, none⟩) n cap) os) : Pt P w1 (w1.setCell ⟨g, o, none⟩ u) := by
  refine ⟨Below.setCell (p := ⟨g, o, none⟩) (Below.refl _ _) hg u, fun c hc _ hn _ => ?_⟩
  by_cases e : c = g
  · subst e
    obtain ⟨L, _, h2, _⟩ := h
    obtain ⟨cur, hh⟩ := h2.tag (c := c) rfl
    have h0 : ∃ cur', w1.heap[c]? = some (.cells cur' 96) := by
      simp only [World.setCell, Array.getElem?_modify] at hh
      cases hq : w1.heap[c]? with
      | none => simp [hq] at hh
      | some ob => cases ob <;> simp [hq] at hh ⊢ <;> exact hh.2
    exact absurd h0 hn
  · exact Below.heap_setCell _ _ _ _ e
theorem Pt.grow {P : Nat} {w u w1 : World} {v : Value} {T : TypeId} {z : Nat} {xs : List (Array Value)} (hT : T = 96 ∨ T = 42) (hL : Got w (P + 1) T z v xs) (hb : Below w.heap.size w u) (ht : Turns (fun c => v.ownBlock = some c) u w1) (hP : P < w.heap.size) : Pt P w w1 :=
  (Pt.new hb (by omega)).trans (Pt.of ht (by have := hb.size; omega) fun c hc => ⟨by have := hL.own hc; omega, by
    obtain ⟨cur, hh⟩ := (hL.on hb).tag hc
    rcases hT with rfl | rfl
    · exact Or.inl ⟨cur, hh⟩
    · exact Or.inr ⟨cur, hh⟩⟩)

set_option maxRecDepth 100000 in
set_option maxHeartbeats 4000000 in
/-- (*impl.openList).pass -/
theorem pass_none (w0 : World) (P : Nat) (TP : TypeId) (pc : Array Value) (v : Value) (os : List Xc) (x : Array Value) (t : Lc) (w : World)
    (ho : Own w P TP pc) (hv : pc[0]? = some v) (hg : OpenG w0 w (P + 1) v os) (hx : RecV w0 x t) (hl : os.length ≤ 2000000) (hsl : ∀ o ∈ os, o.sts.length ≤ 2000000) (hN : ∀ j (h : j < os.length), os[j].xid ≠ t.xid) :
    Calls Try.prog 37 #[.pointer (some ⟨P, 0, none⟩), .agg x] w fun e w' => e = .returned (.tuple #[]) ∧ ∃ v', Own w' P TP (pc.setIfInBounds 0 v') ∧ OpenG w0 w' (P + 1) v' (passL os t) ∧ Pt P w w' := by
  obtain ⟨ka, kp, ra, rp, ca, cp, oa, op, rfl, _, hs⟩ := hx.lit
  have hG0 := hg
  obtain ⟨L, rfl, hL, h3, h4⟩ := hg
  obtain ⟨a, n, cap, rfl, hL'⟩ := hL.lit2
  have hlt := ho.lt
  have HLL : n = L.length ∧ n ≤ cap ∧ cap ≤ maxLen := by
    obtain ⟨a', cap', e, h1, h2, _⟩ := hL'.row
    simp at e
    obtain ⟨_, rfl, rfl⟩ := e
    exact ⟨rfl, by simpa using h1, h2⟩
  obtain ⟨hnl, hnc, hcm⟩ := HLL
  unfold maxLen at hcm
  subst hnl
  have HG0 : Hid (OpenG w0 w (P + 1) (.slice a L.length cap) (L.map fun p => p.1)) := hG0
  have HL : Hid (Got w (P + 1) 96 2 (.slice a L.length cap) (L.map tcell)) := hL'
  have H3 : Hid (∀ p ∈ L, StsG w0 w (P + 1) p.2 p.1.sts) := h3
  have H4 : Hid (L.Pairwise (fun p q => ∀ c, p.2.ownBlock = some c → q.2.ownBlock ≠ some c)) := h4
  have HST : Hid (StmtV w0 #[.int .i64 t.st.kind, .string t.st.table, .slice ka t.st.key.length kp, .slice ra t.st.row.length rp, .int .i64 t.st.ddl.kind, .string t.st.ddl.table, .slice ca t.st.ddl.cols.length cp, .slice oa t.st.ddl.keys.length op, .string t.st.ddl.name, .string t.st.ddl.to] t.st) := hs
  have HO : Hid (Own w P TP pc) := ho
  have HV : Hid (pc[0]? = some (.slice a L.length cap)) := hv
  have HAT : Hid (∀ u : World, Below w.heap.size w u → Calls Try.prog 67 #[.slice a L.length cap, .int .i64 t.xid] u fun e w' => e = .returned (.int .i64 (xAt (L.map fun p => p.1) t.xid)) ∧ Below u.heap.size u w') := fun u hu => openAt_any _ _ L u (hL'.on hu).tr
  have HRA : Hid (Own (w.alloc (.cells #[.int .i64 t.kind, .int .i64 t.xid, .int .i64 t.st.kind, .string t.st.table, .slice ka t.st.key.length kp, .slice ra t.st.row.length rp, .int .i64 t.st.ddl.kind, .string t.st.ddl.table, .slice ca t.st.ddl.cols.length cp, .slice oa t.st.ddl.keys.length op, .string t.st.ddl.name, .string t.st.ddl.to] 44)) w.heap.size 44 #[.int .i64 t.kind, .int .i64 t.xid, .int .i64 t.st.kind, .string t.st.table, .slice ka t.st.key.length kp, .slice ra t.st.row.length rp, .int .i64 t.st.ddl.kind, .string t.st.ddl.table, .slice ca t.st.ddl.cols.length cp, .slice oa t.st.ddl.keys.length op, .string t.st.ddl.name, .string t.st.ddl.to]) := Own.new _ _ _
  have c0 : (w.alloc (.cells #[.int .i64 t.kind, .int .i64 t.xid, .int .i64 t.st.kind, .string t.st.table, .slice ka t.st.key.length kp, .slice ra t.st.row.length rp, .int .i64 t.st.ddl.kind, .string t.st.ddl.table, .slice ca t.st.ddl.cols.length cp, .slice oa t.st.ddl.keys.length op, .string t.st.ddl.name, .string t.st.ddl.to] 44)).cell? ⟨P, 0, none⟩ = some (.slice a L.length cap) := cell_on (ho.at0 hv) (ch_alloc (Below.refl _ _) _)
  have hLl : L.length ≤ 2000000 := by simpa using hl
  have hsl' : ∀ p ∈ L, p.1.sts.length ≤ 2000000 := fun p hp => hsl p.1 (List.mem_map.2 ⟨p, hp, rfl⟩)
  clear hx hL hL' h3 h4 hs ho hv hl hG0 hsl
  have HSL : Hid (∀ p ∈ L, p.1.sts.length ≤ 2000000) := hsl'
  clear hsl'
  have hA := xAt_none hN
  rw [hA] at HAT
  by_cases h1 : t.kind = 1
  · have HR : Hid (passL (L.map fun p => p.1) t = (L.map fun p => p.1) ++ [⟨t.xid, []⟩]) := by
      show _ = _
      rw [passL_none hN, if_pos h1]
    have j1 : (t.kind == 1) = true := by simpa using h1
    clear hN hA h1 HST HG0 HSL
    go_enter Try.func37, Try.ntmps37
    go_wp2_with fail
    go_region_with (go_at_call 67; refine (HAT.out _ (by repeat (first | with_reducible exact Below.refl _ _ | with_reducible assumption | with_reducible refine ch_alloc ?_ _ | with_reducible refine Below.drew ?_ | with_reducible refine below_draws _ ?_ | (with_reducible refine Below.setCell ?_ ?_ _; rotate_left; focus (first | with_reducible exact Nat.le_refl _ | (simp; done) | (simp; omega) | (simp at *; omega))) | with_reducible refine ch_trans ?_ (by with_reducible assumption)))).mono ?_; rintro e w1 ⟨rfl, b1⟩; obtain ⟨g0, g1, g2, g3, g4, g5, g6, g7, g8, g9, g10, g11⟩ := (HRA.out.on (w' := w1) (by repeat (first | with_reducible exact Below.refl _ _ | with_reducible assumption | with_reducible refine ch_alloc ?_ _ | with_reducible refine Below.drew ?_ | with_reducible refine below_draws _ ?_ | (with_reducible refine Below.setCell ?_ ?_ _; rotate_left; focus (first | with_reducible exact Nat.le_refl _ | (simp; done) | (simp; omega) | (simp at *; omega))) | with_reducible refine ch_trans ?_ (by with_reducible assumption)))).loc.twelve; have hb1 : Below w.heap.size w w1 := (by repeat (first | with_reducible exact Below.refl _ _ | with_reducible assumption | with_reducible refine ch_alloc ?_ _ | with_reducible refine Below.drew ?_ | with_reducible refine below_draws _ ?_ | (with_reducible refine Below.setCell ?_ ?_ _; rotate_left; focus (first | with_reducible exact Nat.le_refl _ | (simp; done) | (simp; omega) | (simp at *; omega))) | with_reducible refine ch_trans ?_ (by with_reducible assumption))); have HO1 : Hid (Own w1 P TP pc) := HO.out.on hb1; have c1 := HO1.out.at0 HV.out)
    all_goals
      have hs1 := hb1.size
      have hP1 : P < w1.heap.size := by omega
      go_wp2_with fail
      go_region_law (refine app_stepK rfl (.tmp 19) (.tmp 23) rfl Try.underlying72 infoDTr rfl (by decide) (by decide) (P + 1) _ (L.map tcell) rfl (HL.out.on (by repeat (first | with_reducible exact Below.refl _ _ | with_reducible assumption | with_reducible refine ch_alloc ?_ _ | with_reducible refine Below.drew ?_ | with_reducible refine below_draws _ ?_ | (with_reducible refine Below.setCell ?_ ?_ _; rotate_left; focus (first | with_reducible exact Nat.le_refl _ | (simp; done) | (simp; omega) | (simp at *; omega))) | with_reducible refine ch_trans ?_ (by with_reducible assumption)))) w1.heap.size 1 #[.int .i64 t.xid, .slice none 0 0] rfl (Loc.new _ _ _) rfl (fun u hu => by simp at hu; rcases hu with rfl | rfl <;> rfl) (by rw [List.length_map]; omega) (by simp; omega) ?_; intro v' w2 hg2 hb2 ht2 hl2; obtain ⟨a2, n2, q2, rfl, hg2⟩ := hg2.lit2; have HO2 : Hid (Own w2 P TP pc) := (HO1.out.on (by repeat (first | with_reducible exact Below.refl _ _ | with_reducible assumption | with_reducible refine ch_alloc ?_ _ | with_reducible refine Below.drew ?_ | with_reducible refine below_draws _ ?_ | (with_reducible refine Below.setCell ?_ ?_ _; rotate_left; focus (first | with_reducible exact Nat.le_refl _ | (simp; done) | (simp; omega) | (simp at *; omega))) | with_reducible refine ch_trans ?_ (by with_reducible assumption)))).turned ht2 (fun hc => by have := HL.out.own hc; omega); have c2 := HO2.out.at0 HV.out; have i2 := HO2.out.frozen 0; have HG2 : Hid (OpenG w0 w2 (P + 1) (.slice a2 n2 q2) ((L.map fun p => p.1) ++ [⟨t.xid, []⟩])) := OpenG.add' HL.out H3.out H4.out (by repeat (first | with_reducible exact Below.refl _ _ | with_reducible assumption | with_reducible refine ch_alloc ?_ _ | with_reducible refine Below.drew ?_ | with_reducible refine below_draws _ ?_ | (with_reducible refine Below.setCell ?_ ?_ _; rotate_left; focus (first | with_reducible exact Nat.le_refl _ | (simp; done) | (simp; omega) | (simp at *; omega))) | with_reducible refine ch_trans ?_ (by with_reducible assumption))) hg2 ht2; have HP2 : Hid (Pt P w w2) := Pt.grow (Or.inl rfl) HL.out (by repeat (first | with_reducible exact Below.refl _ _ | with_reducible assumption | with_reducible refine ch_alloc ?_ _ | with_reducible refine Below.drew ?_ | with_reducible refine below_draws _ ?_ | (with_reducible refine Below.setCell ?_ ?_ _; rotate_left; focus (first | with_reducible exact Nat.le_refl _ | (simp; done) | (simp; omega) | (simp at *; omega))) | with_reducible refine ch_trans ?_ (by with_reducible assumption))) ht2 hlt; clear hg2 hb2 ht2 hl2)
      all_goals
        go_wp2
        refine bodyPost_ret (results_none rfl _ _ _) rfl ?_
        exact ⟨rfl, _, HO2.out.set 0 _, by rw [HR.out]; exact HG2.out.past _, HP2.out.trans (Pt.set _ _ _)⟩
  · have HR : Hid (passL (L.map fun p => p.1) t = L.map fun p => p.1) := by
      show _ = _
      rw [passL_none hN, if_neg h1]
    have j1 : (t.kind == 1) = false := by simpa using h1
    clear hN hA h1 HST HSL
    go_enter Try.func37, Try.ntmps37
    go_wp2_with fail
    go_region_with (go_at_call 67; refine (HAT.out _ (by repeat (first | with_reducible exact Below.refl _ _ | with_reducible assumption | with_reducible refine ch_alloc ?_ _ | with_reducible refine Below.drew ?_ | with_reducible refine below_draws _ ?_ | (with_reducible refine Below.setCell ?_ ?_ _; rotate_left; focus (first | with_reducible exact Nat.le_refl _ | (simp; done) | (simp; omega) | (simp at *; omega))) | with_reducible refine ch_trans ?_ (by with_reducible assumption)))).mono ?_; rintro e w1 ⟨rfl, b1⟩; obtain ⟨g0, g1, g2, g3, g4, g5, g6, g7, g8, g9, g10, g11⟩ := (HRA.out.on (w' := w1) (by repeat (first | with_reducible exact Below.refl _ _ | with_reducible assumption | with_reducible refine ch_alloc ?_ _ | with_reducible refine Below.drew ?_ | with_reducible refine below_draws _ ?_ | (with_reducible refine Below.setCell ?_ ?_ _; rotate_left; focus (first | with_reducible exact Nat.le_refl _ | (simp; done) | (simp; omega) | (simp at *; omega))) | with_reducible refine ch_trans ?_ (by with_reducible assumption)))).loc.twelve; have hb1 : Below w.heap.size w w1 := (by repeat (first | with_reducible exact Below.refl _ _ | with_reducible assumption | with_reducible refine ch_alloc ?_ _ | with_reducible refine Below.drew ?_ | with_reducible refine below_draws _ ?_ | (with_reducible refine Below.setCell ?_ ?_ _; rotate_left; focus (first | with_reducible exact Nat.le_refl _ | (simp; done) | (simp; omega) | (simp at *; omega))) | with_reducible refine ch_trans ?_ (by with_reducible assumption))); have HO1 : Hid (Own w1 P TP pc) := HO.out.on hb1; have c1 := HO1.out.at0 HV.out)
    all_goals
      have HG1 : Hid (OpenG w0 w1 (P + 1) (.slice a L.length cap) (L.map fun p => p.1)) := HG0.out.on hb1
      have HP1 : Hid (Pt P w w1) := Pt.new hb1 (by omega)
      go_wp2
      refine bodyPost_ret (results_none rfl _ _ _) rfl ?_
      exact ⟨rfl, _, by rw [set_same HV.out]; exact HO1.out, by rw [HR.out]; exact HG1.out, HP1.out⟩

end Go.Proofs.Ytmcjchaokpcomaa
