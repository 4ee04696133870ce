/- A row by names: the given l10Row, l10Map, MapRow. -/
import Derived.Test.YtiijahoheajppaaMrw
import Derived.Test.YtiijahoheajppaaCq
import Derived.Test.YtiijahoheajppaaWm
namespace Go.Proofs.Ytiijahoheajppaa
open Go.ChangeShapes Go.WideShapes Go.ChangeAt Go.RowKit

/-- What stands where none comes. -/
def restOf (t : Tc) (other : List Vc) : List Vc := if other.length = t.cols.length then other else defs t
theorem restOf_len (t : Tc) (other : List Vc) : (restOf t other).length = t.cols.length := by
  unfold restOf
  split
  · assumption
  · exact defs_len t
theorem own3v {w : World} {b : Nat} {T : TypeId} {c : Vc} (h : Own w b T c.cells) (d : Vc) : Own (((w.setCell ⟨b, 0, none⟩ (.int .i64 d.ty)).setCell ⟨b, 1, none⟩ (.int .i64 d.n)).setCell ⟨b, 2, none⟩ (.string d.s)) b T d.cells := own3 h _ _ _

set_option maxRecDepth 100000 in
set_option maxHeartbeats 4000000 in
/-- spec.l10Row -/
theorem l10Row_any (x : Array Value) (cv vv ov : Value) (cols : List ByteArray) (t : Tc) (vs other : List Vc) (w : World) (hx : TabV w x t) (hc : StrsV w cv cols) (hv : ValsV w vv vs) (hr : ValsV w ov other) (hl : cols.length ≤ vs.length) (hn : t.cols.length ≤ 1048576) :
    Calls Try.prog 64 #[cv, .agg x, vv, .agg #[ov]] w fun e w' => ∃ (v : Value), e = .returned (.agg #[v]) ∧ Below w.heap.size w w' ∧ Got w' w.heap.size 58 3 v ((mapL cols (colNames t) vs (restOf t other)).map Vc.cells) := by
  obtain ⟨a, p, o, z, rfl, hx, hcs, hks⟩ := hx.lit
  have HAT : Hid (∀ (u : World) (s : ByteArray), Below w.heap.size w u → Calls Try.prog 51 #[cv, .string s] u fun e w' => e = .returned (.int .i64 (idxS cols s)) ∧ Below u.heap.size u w') := fun u s hu => l10At_any cv cols s u (hc.on hu)
  have HCR : Hid (RowAt w a 7 (t.cols.map Cl.cells)) := by obtain ⟨_, _, e, _, _, h⟩ := hcs; cases e; exact h
  have hp : t.cols.length ≤ p ∧ p ≤ 2 ^ 63 - 1 := by obtain ⟨_, _, e, h1, h2, h⟩ := hcs; cases e; exact ⟨h1, h2⟩
  obtain ⟨ac, pc, rfl, _, hpc, _⟩ := hc
  obtain ⟨av, pv, rfl, hlv, hpv, hvr⟩ := hv
  obtain ⟨ao, po, rfl, hlo, hpo, hor⟩ := hr
  unfold maxLen at hpv hpo
  have HV : Hid (RowAt w av 3 (vs.map Vc.cells)) := hvr
  have HR : Hid (RowAt w ao 3 (other.map Vc.cells)) := hor
  have HLV : Hid (cols.length ≤ vs.length) := hl
  have hb1 : Below w.heap.size w (w.alloc (.cells #[.string t.name, .slice a t.cols.length p, .slice o t.keys.length z] 32)) := (by repeat (first | with_reducible exact Below.refl _ _ | with_reducible assumption | with_reducible refine ch_alloc ?_ _ | with_reducible refine Below.drew ?_ | with_reducible refine below_draws _ ?_ | (with_reducible refine Below.setCell ?_ ?_ _; rotate_left; focus (first | with_reducible exact Nat.le_refl _ | (simp; done) | (simp; omega) | (simp at *; omega))) | with_reducible refine ch_trans ?_ (by with_reducible assumption)))
  have HL := ((((Own.new w 32 #[.string t.name, .slice a t.cols.length p, .slice o t.keys.length z]).on (ch_alloc (Below.refl _ _) (.cells #[.slice ao other.length po] 41))).on (ch_alloc (Below.refl _ _) (.cells #[.slice none 0 0] 41))).on (ch_alloc (Below.refl _ _) (.cells #[.slice none 0 0] 41)))
  have HQ := (((Own.at (w.alloc (.cells #[.string t.name, .slice a t.cols.length p, .slice o t.keys.length z] 32)) 41 #[.slice ao other.length po] (n := w.heap.size + 1) (by simp)).on (ch_alloc (Below.refl _ _) (.cells #[.slice none 0 0] 41))).on (ch_alloc (Below.refl _ _) (.cells #[.slice none 0 0] 41)))
  have HO := ((Own.at ((w.alloc (.cells #[.string t.name, .slice a t.cols.length p, .slice o t.keys.length z] 32)).alloc (.cells #[.slice ao other.length po] 41)) 41 #[.slice none 0 0] (n := w.heap.size + 1 + 1) (by simp)).on (ch_alloc (Below.refl _ _) (.cells #[.slice none 0 0] 41)))
  have HU := (Own.at (((w.alloc (.cells #[.string t.name, .slice a t.cols.length p, .slice o t.keys.length z] 32)).alloc (.cells #[.slice ao other.length po] 41)).alloc (.cells #[.slice none 0 0] 41)) 41 #[.slice none 0 0] (n := w.heap.size + 1 + 1 + 1) (by simp))
  have hb0 : Below w.heap.size w ((((w.alloc (.cells #[.string t.name, .slice a t.cols.length p, .slice o t.keys.length z] 32)).alloc (.cells #[.slice ao other.length po] 41)).alloc (.cells #[.slice none 0 0] 41)).alloc (.cells #[.slice none 0 0] 41)) := (by repeat (first | with_reducible exact Below.refl _ _ | with_reducible assumption | with_reducible refine ch_alloc ?_ _ | with_reducible refine Below.drew ?_ | with_reducible refine below_draws _ ?_ | (with_reducible refine Below.setCell ?_ ?_ _; rotate_left; focus (first | with_reducible exact Nat.le_refl _ | (simp; done) | (simp; omega) | (simp at *; omega))) | with_reducible refine ch_trans ?_ (by with_reducible assumption)))
  have hz0 : ((((w.alloc (.cells #[.string t.name, .slice a t.cols.length p, .slice o t.keys.length z] 32)).alloc (.cells #[.slice ao other.length po] 41)).alloc (.cells #[.slice none 0 0] 41)).alloc (.cells #[.slice none 0 0] 41)).heap.size = w.heap.size + 1 + 1 + 1 + 1 := by simp
  clear hx hcs hks hl hvr hor hb1
  go_enter Try.func64, Try.ntmps64
  obtain ⟨l0, l1, l2⟩ := HL.loc.three
  have q0 := HQ.loc.one
  have r0 := HU.loc.one
  go_wp2_with fail
  clear l0 l1 l2 q0 r0
  generalize (((w.alloc (.cells #[.string t.name, .slice a t.cols.length p, .slice o t.keys.length z] 32)).alloc (.cells #[.slice ao other.length po] 41)).alloc (.cells #[.slice none 0 0] 41)).alloc (.cells #[.slice none 0 0] 41) = u0 at HL HQ HO HU hb0 hz0 ⊢
  have HG0 : Hid (Got u0 (w.heap.size + 1 + 1 + 1 + 1) 58 3 (.slice none 0 0) (((mapL cols (colNames t) vs (restOf t other)).take 0).map Vc.cells)) := Got.nil _ _ _ _
  have HU0 : Hid (Own u0 (w.heap.size + 1 + 1 + 1) 41 #[.slice none 0 0]) := HU
  have HF : Hid (Own u0 w.heap.size 32 #[.string t.name, .slice a t.cols.length p, .slice o t.keys.length z] ∧ Own u0 (w.heap.size + 1) 41 #[.slice ao other.length po] ∧ Own u0 (w.heap.size + 1 + 1) 41 #[.slice none 0 0] ∧ Below w.heap.size w u0) := ⟨HL, HQ, HO, hb0⟩
  clear HL HQ HO HU hb0
  go_loopw [18] (fun i wr => ∃ (k : Nat) (g : Value), k ≤ t.cols.length ∧ i = .int .i64 (k : Int) ∧ Hid (Below (w.heap.size + 1 + 1 + 1) u0 wr) ∧ Hid (Own wr (w.heap.size + 1 + 1 + 1) 41 #[g]) ∧ Hid (Got wr (w.heap.size + 1 + 1 + 1 + 1) 58 3 g (((mapL cols (colNames t) vs (restOf t other)).take k).map Vc.cells))) (fun i _ => t.cols.length - (intOf i).toNat)
  case atStart => exact ⟨0, _, Nat.zero_le _, rfl, Below.refl _ _, HU0, HG0⟩
  case round =>
    clear HG0 HU0
    obtain ⟨k, g, hk, rfl, HB, HU, HG⟩ := hrel
    obtain ⟨ag, ng, cg, rfl, hg⟩ := HG.out.lit2
    have HG1 : Hid (Got wr (w.heap.size + 1 + 1 + 1 + 1) 58 3 (.slice ag ng cg) (((mapL cols (colNames t) vs (restOf t other)).take k).map Vc.cells)) := hg
    have HLw : Own wr w.heap.size 32 #[.string t.name, .slice a t.cols.length p, .slice o t.keys.length z] := (HB.out.block w.heap.size (by omega)).trans HF.out.1
    have HQw : Own wr (w.heap.size + 1) 41 #[.slice ao other.length po] := (HB.out.block (w.heap.size + 1) (by omega)).trans HF.out.2.1
    have hbw : Below w.heap.size w wr := HF.out.2.2.2.trans (HB.out.mono (by omega))
    have hzw : w.heap.size + 1 + 1 + 1 + 1 ≤ wr.heap.size := by have := HB.out.size; omega
    have h00 : w.heap.size < wr.heap.size := by omega
    have h01 : w.heap.size + 1 < wr.heap.size := by omega
    have h03 : w.heap.size + 1 + 1 + 1 < wr.heap.size := by omega
    clear hg HG
    obtain ⟨l0, l1, l2⟩ := HLw.loc.three
    have s0 := HU.out.loc.one
    have q0 := HQw.loc.one
    by_cases hlt : k < t.cols.length
    · have hlti : (k : Int) < t.cols.length := by omega
      obtain ⟨b1, off1, rfl, c0, c1, c2, c3, c4, c5, c6⟩ := (HCR.out.on hbw).cols k hlt
      by_cases ho : other.length = t.cols.length
      · have hoi : (other.length : Int) = t.cols.length := by omega
        have hko : k < other.length := by omega
        have hkoi : (k : Int) < other.length := by omega
        obtain ⟨b2, off2, rfl, e0, e1, e2⟩ := (HR.out.on hbw).vals k hko
        have hb2 : b2 < wr.heap.size := cell_lt e0
        have hrest : (restOf t other).getD k Vc.zero = other[k] := by unfold restOf; rw [if_pos ho]; simp [hko]
        clear ho
        have HRE : Hid ((restOf t other).getD k Vc.zero = other[k]) := hrest
        clear hrest
        go_wp2_with fail
        clear l0 l1 l2 q0 s0
        have HB2 : Below wr.heap.size wr ((wr.alloc (.cells #[.string t.cols[k].name, .int .i64 t.cols[k].ty, .bool t.cols[k].nt, .bool t.cols[k].has, .int .i64 t.cols[k].dt, .int .i64 t.cols[k].dn, .string t.cols[k].ds] 60)).alloc (.cells #[.int .i64 other[k].ty, .int .i64 other[k].n, .string other[k].s] 58)) := ch_alloc (ch_alloc (Below.refl _ _) _) _
        have HV2 : Own ((wr.alloc (.cells #[.string t.cols[k].name, .int .i64 t.cols[k].ty, .bool t.cols[k].nt, .bool t.cols[k].has, .int .i64 t.cols[k].dt, .int .i64 t.cols[k].dn, .string t.cols[k].ds] 60)).alloc (.cells #[.int .i64 other[k].ty, .int .i64 other[k].n, .string other[k].s] 58)) (wr.heap.size + 1) 58 #[.int .i64 other[k].ty, .int .i64 other[k].n, .string other[k].s] := Own.at (wr.alloc (.cells #[.string t.cols[k].name, .int .i64 t.cols[k].ty, .bool t.cols[k].nt, .bool t.cols[k].has, .int .i64 t.cols[k].dt, .int .i64 t.cols[k].dn, .string t.cols[k].ds] 60)) _ _ (by simp)
        have hz2 : (((wr.alloc (.cells #[.string t.cols[k].name, .int .i64 t.cols[k].ty, .bool t.cols[k].nt, .bool t.cols[k].has, .int .i64 t.cols[k].dt, .int .i64 t.cols[k].dn, .string t.cols[k].ds] 60)).alloc (.cells #[.int .i64 other[k].ty, .int .i64 other[k].n, .string other[k].s] 58))).heap.size = wr.heap.size + 2 := by simp
        generalize ((wr.alloc (.cells #[.string t.cols[k].name, .int .i64 t.cols[k].ty, .bool t.cols[k].nt, .bool t.cols[k].has, .int .i64 t.cols[k].dt, .int .i64 t.cols[k].dn, .string t.cols[k].ds] 60)).alloc (.cells #[.int .i64 other[k].ty, .int .i64 other[k].n, .string other[k].s] 58)) = u2 at HB2 HV2 hz2 ⊢
        have hbu := ch_trans hbw HB2
        rcases idxS_iff cols t.cols[k].name with ⟨g0, g1⟩ | ⟨i, hi, g0, g1, _⟩
        · have HA : Hid (Calls Try.prog 51 #[.slice ac cols.length pc, .string t.cols[k].name] u2 fun e w' => e = .returned (.int .i64 (-1)) ∧ Below u2.heap.size u2 w') := by
            have h0 := HAT.out u2 t.cols[k].name hbu
            rw [g0] at h0; exact h0
          have HPL : Hid (((mapL cols (colNames t) vs (restOf t other)).take (k + 1)).map Vc.cells = ((mapL cols (colNames t) vs (restOf t other)).take k).map Vc.cells ++ [(other[k] : Vc).cells]) := mapL_take (by simp [colNames]; exact hlt) (by unfold mapC; simp only [colNames, List.getElem_map]; rw [if_pos g0]; exact HRE.out)
          clear g0 g1 HRE
          refine HA.out.mono ?_
          rintro e w3 ⟨rfl, b3⟩
          have hs3 := b3.size
          have HV3 := HV2.on b3
          have h13 := ch_trans HB2 b3
          have HU4 : Hid (Own w3 (w.heap.size + 1 + 1 + 1) 41 #[.slice ag ng cg]) := HU.out.on h13
          have HB4 : Hid (Below (w.heap.size + 1 + 1 + 1) u0 w3) := HB.out.trans (h13.mono (by omega))
          have HG4 : Hid (Got w3 (w.heap.size + 1 + 1 + 1 + 1) 58 3 (.slice ag ng cg) (((mapL cols (colNames t) vs (restOf t other)).take k).map Vc.cells)) := HG1.out.on h13
          have s0 := HU4.out.loc.one
          have k0 := HU4.out.frozen 0
          obtain ⟨y0, y1, y2⟩ := HV3.loc.three
          clear b3 HV2 HV3 HA HG1 HU HB h13 hbu HB2
          go_wp2_with (at_builtin; refine app_one rfl (.tmp 48) (.tmp 50) rfl Try.underlying39 infoVal rfl (by decide) (by decide) (w.heap.size + 1 + 1 + 1 + 1) _ (((mapL cols (colNames t) vs (restOf t other)).take k).map Vc.cells) rfl (HG4.out.on (ch_alloc (Below.refl _ _) _)) w3.heap.size 1 #[.int .i64 other[k].ty, .int .i64 other[k].n, .string other[k].s] rfl (Own.at w3 _ _ (by simp)).loc rfl (val_one other[k]) (by simp; omega) (by simp; omega) ?_; intro v5 w5 hg5 hb5; obtain ⟨a5, n5, c5, rfl, hg5⟩ := hg5.lit2; have HU5 : Own w5 (w.heap.size + 1 + 1 + 1) 41 #[.slice ag ng cg] := (hb5.block (w.heap.size + 1 + 1 + 1) (by omega)).trans (HU4.out.on (ch_alloc (Below.refl _ _) _)); have z0 := HU5.loc.one; have k5 := HU5.frozen 0)
          have HU6 : Hid (Own (w5.setCell ⟨w.heap.size + 1 + 1 + 1, 0, none⟩ (.slice a5 n5 c5)) (w.heap.size + 1 + 1 + 1) 41 #[.slice a5 n5 c5]) := HU5.set 0 _
          have HB6 : Hid (Below (w.heap.size + 1 + 1 + 1) u0 (w5.setCell ⟨w.heap.size + 1 + 1 + 1, 0, none⟩ (.slice a5 n5 c5))) := (HB4.out.trans ((Below.mono (ch_alloc (Below.refl _ _) _) (by omega)).trans (hb5.mono (by omega)))).setCell (p := ⟨w.heap.size + 1 + 1 + 1, 0, none⟩) (Nat.le_refl _) _
          have HG6 : Hid (Got (w5.setCell ⟨w.heap.size + 1 + 1 + 1, 0, none⟩ (.slice a5 n5 c5)) (w.heap.size + 1 + 1 + 1 + 1) 58 3 (.slice a5 n5 c5) (((mapL cols (colNames t) vs (restOf t other)).take (k + 1)).map Vc.cells)) := by
            show Got _ _ _ _ _ _
            rw [HPL.out]
            exact hg5.turns ((Turns.refl (· = w.heap.size + 1 + 1 + 1) w5).set (p := ⟨w.heap.size + 1 + 1 + 1, 0, none⟩) rfl _) fun c hc => by have h2 : c = w.heap.size + 1 + 1 + 1 := hc; omega
          clear hg5 hb5 HU5 z0 k5 HPL HU4 HB4 HG4
          go_round
          case rel => exact ⟨k + 1, _, by omega, by go_num, HB6, HU6, HG6⟩
          case measure => simp [intOf]; omega
        · have hiv : i < vs.length := by have := HLV.out; omega
          have hivi : (i : Int) < vs.length := by omega
          have HA : Hid (Calls Try.prog 51 #[.slice ac cols.length pc, .string t.cols[k].name] u2 fun e w' => e = .returned (.int .i64 (i : Int)) ∧ Below u2.heap.size u2 w') := by
            have h0 := HAT.out u2 t.cols[k].name hbu
            rw [g0] at h0; exact h0
          have HPL : Hid (((mapL cols (colNames t) vs (restOf t other)).take (k + 1)).map Vc.cells = ((mapL cols (colNames t) vs (restOf t other)).take k).map Vc.cells ++ [vs[i].cells]) := mapL_take (by simp [colNames]; exact hlt) (by unfold mapC; simp only [colNames, List.getElem_map]; rw [g0, if_neg (by omega), Int.toNat_natCast]; simp [hiv])
          clear g0 g1 HRE
          refine HA.out.mono ?_
          rintro e w3 ⟨rfl, b3⟩
          have hs3 := b3.size
          have HV3 := HV2.on b3
          have h13 := ch_trans HB2 b3
          have hbw3 := ch_trans hbw h13
          obtain ⟨b6, off6, rfl, f0', f1', f2'⟩ := (HV.out.on hbw).vals i hiv
          have hb6 : b6 < wr.heap.size := cell_lt f0'
          have hb6' : b6 < w3.heap.size := by omega
          have f0 := cell_on f0' h13
          have f1 := cell_on f1' h13
          have f2 := cell_on f2' h13
          obtain ⟨y0, y1, y2⟩ := HV3.loc.three
          have k0 := HV3.frozen 0
          have k1 := HV3.frozen 1
          have k2 := HV3.frozen 2
          have hV4 := own3v (c := other[k]) HV3 vs[i]
          have hT4 := turns3 w3 (wr.heap.size + 1) (.int .i64 vs[i].ty) (.int .i64 vs[i].n) (.string vs[i].s)
          have hU3 := HU.out.on h13
          have hzW : w3.heap.size ≤ (((w3.setCell ⟨wr.heap.size + 1, 0, none⟩ (.int .i64 vs[i].ty)).setCell ⟨wr.heap.size + 1, 1, none⟩ (.int .i64 vs[i].n)).setCell ⟨wr.heap.size + 1, 2, none⟩ (.string vs[i].s)).heap.size := by simp
          have HU4 : Hid (Own (((w3.setCell ⟨wr.heap.size + 1, 0, none⟩ (.int .i64 vs[i].ty)).setCell ⟨wr.heap.size + 1, 1, none⟩ (.int .i64 vs[i].n)).setCell ⟨wr.heap.size + 1, 2, none⟩ (.string vs[i].s)) (w.heap.size + 1 + 1 + 1) 41 #[.slice ag ng cg]) := hU3.turned hT4 (by show ¬ (w.heap.size + 1 + 1 + 1 = wr.heap.size + 1); omega)
          have HB4 : Hid (Below (w.heap.size + 1 + 1 + 1) u0 (((w3.setCell ⟨wr.heap.size + 1, 0, none⟩ (.int .i64 vs[i].ty)).setCell ⟨wr.heap.size + 1, 1, none⟩ (.int .i64 vs[i].n)).setCell ⟨wr.heap.size + 1, 2, none⟩ (.string vs[i].s))) := (HB.out.trans (h13.mono (by omega))).trans (hT4.toBelow (fun c hc => by have h2 : c = wr.heap.size + 1 := hc; omega) (by omega))
          have HG4 : Hid (Got (((w3.setCell ⟨wr.heap.size + 1, 0, none⟩ (.int .i64 vs[i].ty)).setCell ⟨wr.heap.size + 1, 1, none⟩ (.int .i64 vs[i].n)).setCell ⟨wr.heap.size + 1, 2, none⟩ (.string vs[i].s)) (w.heap.size + 1 + 1 + 1 + 1) 58 3 (.slice ag ng cg) (((mapL cols (colNames t) vs (restOf t other)).take k).map Vc.cells)) := (HG1.out.on h13).turned hT4 fun c hc hs => by
            obtain ⟨cur, h7⟩ := HG1.out.tag hc
            have h8 := (Array.getElem?_eq_some_iff.1 h7).1
            have h2 : c = wr.heap.size + 1 := hs
            omega
          have s0 := hU3.loc.one
          clear b3 HV2 HV3 HA HG1 HU HB h13 hbu HB2 hT4 hU3 hV4 f0' f1' f2'
          go_wp2_with (at_builtin; refine app_one rfl (.tmp 48) (.tmp 50) rfl Try.underlying39 infoVal rfl (by decide) (by decide) (w.heap.size + 1 + 1 + 1 + 1) _ (((mapL cols (colNames t) vs (restOf t other)).take k).map Vc.cells) rfl (HG4.out.on (ch_alloc (Below.refl _ _) _)) w3.heap.size 1 #[.int .i64 vs[i].ty, .int .i64 vs[i].n, .string vs[i].s] rfl (Own.at (((w3.setCell ⟨wr.heap.size + 1, 0, none⟩ (.int .i64 vs[i].ty)).setCell ⟨wr.heap.size + 1, 1, none⟩ (.int .i64 vs[i].n)).setCell ⟨wr.heap.size + 1, 2, none⟩ (.string vs[i].s)) _ _ (by simp)).loc rfl (val_one vs[i]) (by simp; omega) (by simp; omega) ?_; intro v5 w5 hg5 hb5; obtain ⟨a5, n5, c5, rfl, hg5⟩ := hg5.lit2; have HU5 : Own w5 (w.heap.size + 1 + 1 + 1) 41 #[.slice ag ng cg] := (hb5.block (w.heap.size + 1 + 1 + 1) (by omega)).trans (HU4.out.on (ch_alloc (Below.refl _ _) _)); have z0 := HU5.loc.one; have k5 := HU5.frozen 0)
          have HU6 : Hid (Own (w5.setCell ⟨w.heap.size + 1 + 1 + 1, 0, none⟩ (.slice a5 n5 c5)) (w.heap.size + 1 + 1 + 1) 41 #[.slice a5 n5 c5]) := HU5.set 0 _
          have HB6 : Hid (Below (w.heap.size + 1 + 1 + 1) u0 (w5.setCell ⟨w.heap.size + 1 + 1 + 1, 0, none⟩ (.slice a5 n5 c5))) := (HB4.out.trans ((Below.mono (ch_alloc (Below.refl _ _) _) (by omega)).trans (hb5.mono (by omega)))).setCell (p := ⟨w.heap.size + 1 + 1 + 1, 0, none⟩) (Nat.le_refl _) _
          have HG6 : Hid (Got (w5.setCell ⟨w.heap.size + 1 + 1 + 1, 0, none⟩ (.slice a5 n5 c5)) (w.heap.size + 1 + 1 + 1 + 1) 58 3 (.slice a5 n5 c5) (((mapL cols (colNames t) vs (restOf t other)).take (k + 1)).map Vc.cells)) := by
            show Got _ _ _ _ _ _
            rw [HPL.out]
            exact hg5.turns ((Turns.refl (· = w.heap.size + 1 + 1 + 1) w5).set (p := ⟨w.heap.size + 1 + 1 + 1, 0, none⟩) rfl _) fun c hc => by have h2 : c = w.heap.size + 1 + 1 + 1 := hc; omega
          clear hg5 hb5 HU5 z0 k5 HPL HU4 HB4 HG4
          go_round
          case rel => exact ⟨k + 1, _, by omega, by go_num, HB6, HU6, HG6⟩
          case measure => simp [intOf]; omega
      · have hne : ¬ (other.length : Int) = t.cols.length := by omega
        have hrest : (restOf t other).getD k Vc.zero = ⟨t.cols[k].dt, t.cols[k].dn, t.cols[k].ds⟩ := by unfold restOf; rw [if_neg ho]; simp [defs, hlt]
        clear ho
        have HRE : Hid ((restOf t other).getD k Vc.zero = ⟨t.cols[k].dt, t.cols[k].dn, t.cols[k].ds⟩) := hrest
        clear hrest
        go_wp2_with fail
        clear l0 l1 l2 q0 s0
        have HB2 : Below wr.heap.size wr ((wr.alloc (.cells #[.string t.cols[k].name, .int .i64 t.cols[k].ty, .bool t.cols[k].nt, .bool t.cols[k].has, .int .i64 t.cols[k].dt, .int .i64 t.cols[k].dn, .string t.cols[k].ds] 60)).alloc (.cells #[.int .i64 t.cols[k].dt, .int .i64 t.cols[k].dn, .string t.cols[k].ds] 58)) := ch_alloc (ch_alloc (Below.refl _ _) _) _
        have HV2 : Own ((wr.alloc (.cells #[.string t.cols[k].name, .int .i64 t.cols[k].ty, .bool t.cols[k].nt, .bool t.cols[k].has, .int .i64 t.cols[k].dt, .int .i64 t.cols[k].dn, .string t.cols[k].ds] 60)).alloc (.cells #[.int .i64 t.cols[k].dt, .int .i64 t.cols[k].dn, .string t.cols[k].ds] 58)) (wr.heap.size + 1) 58 #[.int .i64 t.cols[k].dt, .int .i64 t.cols[k].dn, .string t.cols[k].ds] := Own.at (wr.alloc (.cells #[.string t.cols[k].name, .int .i64 t.cols[k].ty, .bool t.cols[k].nt, .bool t.cols[k].has, .int .i64 t.cols[k].dt, .int .i64 t.cols[k].dn, .string t.cols[k].ds] 60)) _ _ (by simp)
        have hz2 : (((wr.alloc (.cells #[.string t.cols[k].name, .int .i64 t.cols[k].ty, .bool t.cols[k].nt, .bool t.cols[k].has, .int .i64 t.cols[k].dt, .int .i64 t.cols[k].dn, .string t.cols[k].ds] 60)).alloc (.cells #[.int .i64 t.cols[k].dt, .int .i64 t.cols[k].dn, .string t.cols[k].ds] 58))).heap.size = wr.heap.size + 2 := by simp
        generalize ((wr.alloc (.cells #[.string t.cols[k].name, .int .i64 t.cols[k].ty, .bool t.cols[k].nt, .bool t.cols[k].has, .int .i64 t.cols[k].dt, .int .i64 t.cols[k].dn, .string t.cols[k].ds] 60)).alloc (.cells #[.int .i64 t.cols[k].dt, .int .i64 t.cols[k].dn, .string t.cols[k].ds] 58)) = u2 at HB2 HV2 hz2 ⊢
        have hbu := ch_trans hbw HB2
        rcases idxS_iff cols t.cols[k].name with ⟨g0, g1⟩ | ⟨i, hi, g0, g1, _⟩
        · have HA : Hid (Calls Try.prog 51 #[.slice ac cols.length pc, .string t.cols[k].name] u2 fun e w' => e = .returned (.int .i64 (-1)) ∧ Below u2.heap.size u2 w') := by
            have h0 := HAT.out u2 t.cols[k].name hbu
            rw [g0] at h0; exact h0
          have HPL : Hid (((mapL cols (colNames t) vs (restOf t other)).take (k + 1)).map Vc.cells = ((mapL cols (colNames t) vs (restOf t other)).take k).map Vc.cells ++ [(⟨t.cols[k].dt, t.cols[k].dn, t.cols[k].ds⟩ : Vc).cells]) := mapL_take (by simp [colNames]; exact hlt) (by unfold mapC; simp only [colNames, List.getElem_map]; rw [if_pos g0]; exact HRE.out)
          clear g0 g1 HRE
          refine HA.out.mono ?_
          rintro e w3 ⟨rfl, b3⟩
          have hs3 := b3.size
          have HV3 := HV2.on b3
          have h13 := ch_trans HB2 b3
          have HU4 : Hid (Own w3 (w.heap.size + 1 + 1 + 1) 41 #[.slice ag ng cg]) := HU.out.on h13
          have HB4 : Hid (Below (w.heap.size + 1 + 1 + 1) u0 w3) := HB.out.trans (h13.mono (by omega))
          have HG4 : Hid (Got w3 (w.heap.size + 1 + 1 + 1 + 1) 58 3 (.slice ag ng cg) (((mapL cols (colNames t) vs (restOf t other)).take k).map Vc.cells)) := HG1.out.on h13
          have s0 := HU4.out.loc.one
          have k0 := HU4.out.frozen 0
          obtain ⟨y0, y1, y2⟩ := HV3.loc.three
          clear b3 HV2 HV3 HA HG1 HU HB h13 hbu HB2
          go_wp2_with (at_builtin; refine app_one rfl (.tmp 48) (.tmp 50) rfl Try.underlying39 infoVal rfl (by decide) (by decide) (w.heap.size + 1 + 1 + 1 + 1) _ (((mapL cols (colNames t) vs (restOf t other)).take k).map Vc.cells) rfl (HG4.out.on (ch_alloc (Below.refl _ _) _)) w3.heap.size 1 #[.int .i64 t.cols[k].dt, .int .i64 t.cols[k].dn, .string t.cols[k].ds] rfl (Own.at w3 _ _ (by simp)).loc rfl (val_one ⟨t.cols[k].dt, t.cols[k].dn, t.cols[k].ds⟩) (by simp; omega) (by simp; omega) ?_; intro v5 w5 hg5 hb5; obtain ⟨a5, n5, c5, rfl, hg5⟩ := hg5.lit2; have HU5 : Own w5 (w.heap.size + 1 + 1 + 1) 41 #[.slice ag ng cg] := (hb5.block (w.heap.size + 1 + 1 + 1) (by omega)).trans (HU4.out.on (ch_alloc (Below.refl _ _) _)); have z0 := HU5.loc.one; have k5 := HU5.frozen 0)
          have HU6 : Hid (Own (w5.setCell ⟨w.heap.size + 1 + 1 + 1, 0, none⟩ (.slice a5 n5 c5)) (w.heap.size + 1 + 1 + 1) 41 #[.slice a5 n5 c5]) := HU5.set 0 _
          have HB6 : Hid (Below (w.heap.size + 1 + 1 + 1) u0 (w5.setCell ⟨w.heap.size + 1 + 1 + 1, 0, none⟩ (.slice a5 n5 c5))) := (HB4.out.trans ((Below.mono (ch_alloc (Below.refl _ _) _) (by omega)).trans (hb5.mono (by omega)))).setCell (p := ⟨w.heap.size + 1 + 1 + 1, 0, none⟩) (Nat.le_refl _) _
          have HG6 : Hid (Got (w5.setCell ⟨w.heap.size + 1 + 1 + 1, 0, none⟩ (.slice a5 n5 c5)) (w.heap.size + 1 + 1 + 1 + 1) 58 3 (.slice a5 n5 c5) (((mapL cols (colNames t) vs (restOf t other)).take (k + 1)).map Vc.cells)) := by
            show Got _ _ _ _ _ _
            rw [HPL.out]
            exact hg5.turns ((Turns.refl (· = w.heap.size + 1 + 1 + 1) w5).set (p := ⟨w.heap.size + 1 + 1 + 1, 0, none⟩) rfl _) fun c hc => by have h2 : c = w.heap.size + 1 + 1 + 1 := hc; omega
          clear hg5 hb5 HU5 z0 k5 HPL HU4 HB4 HG4
          go_round
          case rel => exact ⟨k + 1, _, by omega, by go_num, HB6, HU6, HG6⟩
          case measure => simp [intOf]; omega
        · have hiv : i < vs.length := by have := HLV.out; omega
          have hivi : (i : Int) < vs.length := by omega
          have HA : Hid (Calls Try.prog 51 #[.slice ac cols.length pc, .string t.cols[k].name] u2 fun e w' => e = .returned (.int .i64 (i : Int)) ∧ Below u2.heap.size u2 w') := by
            have h0 := HAT.out u2 t.cols[k].name hbu
            rw [g0] at h0; exact h0
          have HPL : Hid (((mapL cols (colNames t) vs (restOf t other)).take (k + 1)).map Vc.cells = ((mapL cols (colNames t) vs (restOf t other)).take k).map Vc.cells ++ [vs[i].cells]) := mapL_take (by simp [colNames]; exact hlt) (by unfold mapC; simp only [colNames, List.getElem_map]; rw [g0, if_neg (by omega), Int.toNat_natCast]; simp [hiv])
          clear g0 g1 HRE
          refine HA.out.mono ?_
          rintro e w3 ⟨rfl, b3⟩
          have hs3 := b3.size
          have HV3 := HV2.on b3
          have h13 := ch_trans HB2 b3
          have hbw3 := ch_trans hbw h13
          obtain ⟨b6, off6, rfl, f0', f1', f2'⟩ := (HV.out.on hbw).vals i hiv
          have hb6 : b6 < wr.heap.size := cell_lt f0'
          have hb6' : b6 < w3.heap.size := by omega
          have f0 := cell_on f0' h13
          have f1 := cell_on f1' h13
          have f2 := cell_on f2' h13
          obtain ⟨y0, y1, y2⟩ := HV3.loc.three
          have k0 := HV3.frozen 0
          have k1 := HV3.frozen 1
          have k2 := HV3.frozen 2
          have hV4 := own3v (c := (⟨t.cols[k].dt, t.cols[k].dn, t.cols[k].ds⟩ : Vc)) HV3 vs[i]
          have hT4 := turns3 w3 (wr.heap.size + 1) (.int .i64 vs[i].ty) (.int .i64 vs[i].n) (.string vs[i].s)
          have hU3 := HU.out.on h13
          have hzW : w3.heap.size ≤ (((w3.setCell ⟨wr.heap.size + 1, 0, none⟩ (.int .i64 vs[i].ty)).setCell ⟨wr.heap.size + 1, 1, none⟩ (.int .i64 vs[i].n)).setCell ⟨wr.heap.size + 1, 2, none⟩ (.string vs[i].s)).heap.size := by simp
          have HU4 : Hid (Own (((w3.setCell ⟨wr.heap.size + 1, 0, none⟩ (.int .i64 vs[i].ty)).setCell ⟨wr.heap.size + 1, 1, none⟩ (.int .i64 vs[i].n)).setCell ⟨wr.heap.size + 1, 2, none⟩ (.string vs[i].s)) (w.heap.size + 1 + 1 + 1) 41 #[.slice ag ng cg]) := hU3.turned hT4 (by show ¬ (w.heap.size + 1 + 1 + 1 = wr.heap.size + 1); omega)
          have HB4 : Hid (Below (w.heap.size + 1 + 1 + 1) u0 (((w3.setCell ⟨wr.heap.size + 1, 0, none⟩ (.int .i64 vs[i].ty)).setCell ⟨wr.heap.size + 1, 1, none⟩ (.int .i64 vs[i].n)).setCell ⟨wr.heap.size + 1, 2, none⟩ (.string vs[i].s))) := (HB.out.trans (h13.mono (by omega))).trans (hT4.toBelow (fun c hc => by have h2 : c = wr.heap.size + 1 := hc; omega) (by omega))
          have HG4 : Hid (Got (((w3.setCell ⟨wr.heap.size + 1, 0, none⟩ (.int .i64 vs[i].ty)).setCell ⟨wr.heap.size + 1, 1, none⟩ (.int .i64 vs[i].n)).setCell ⟨wr.heap.size + 1, 2, none⟩ (.string vs[i].s)) (w.heap.size + 1 + 1 + 1 + 1) 58 3 (.slice ag ng cg) (((mapL cols (colNames t) vs (restOf t other)).take k).map Vc.cells)) := (HG1.out.on h13).turned hT4 fun c hc hs => by
            obtain ⟨cur, h7⟩ := HG1.out.tag hc
            have h8 := (Array.getElem?_eq_some_iff.1 h7).1
            have h2 : c = wr.heap.size + 1 := hs
            omega
          have s0 := hU3.loc.one
          clear b3 HV2 HV3 HA HG1 HU HB h13 hbu HB2 hT4 hU3 hV4 f0' f1' f2'
          go_wp2_with (at_builtin; refine app_one rfl (.tmp 48) (.tmp 50) rfl Try.underlying39 infoVal rfl (by decide) (by decide) (w.heap.size + 1 + 1 + 1 + 1) _ (((mapL cols (colNames t) vs (restOf t other)).take k).map Vc.cells) rfl (HG4.out.on (ch_alloc (Below.refl _ _) _)) w3.heap.size 1 #[.int .i64 vs[i].ty, .int .i64 vs[i].n, .string vs[i].s] rfl (Own.at (((w3.setCell ⟨wr.heap.size + 1, 0, none⟩ (.int .i64 vs[i].ty)).setCell ⟨wr.heap.size + 1, 1, none⟩ (.int .i64 vs[i].n)).setCell ⟨wr.heap.size + 1, 2, none⟩ (.string vs[i].s)) _ _ (by simp)).loc rfl (val_one vs[i]) (by simp; omega) (by simp; omega) ?_; intro v5 w5 hg5 hb5; obtain ⟨a5, n5, c5, rfl, hg5⟩ := hg5.lit2; have HU5 : Own w5 (w.heap.size + 1 + 1 + 1) 41 #[.slice ag ng cg] := (hb5.block (w.heap.size + 1 + 1 + 1) (by omega)).trans (HU4.out.on (ch_alloc (Below.refl _ _) _)); have z0 := HU5.loc.one; have k5 := HU5.frozen 0)
          have HU6 : Hid (Own (w5.setCell ⟨w.heap.size + 1 + 1 + 1, 0, none⟩ (.slice a5 n5 c5)) (w.heap.size + 1 + 1 + 1) 41 #[.slice a5 n5 c5]) := HU5.set 0 _
          have HB6 : Hid (Below (w.heap.size + 1 + 1 + 1) u0 (w5.setCell ⟨w.heap.size + 1 + 1 + 1, 0, none⟩ (.slice a5 n5 c5))) := (HB4.out.trans ((Below.mono (ch_alloc (Below.refl _ _) _) (by omega)).trans (hb5.mono (by omega)))).setCell (p := ⟨w.heap.size + 1 + 1 + 1, 0, none⟩) (Nat.le_refl _) _
          have HG6 : Hid (Got (w5.setCell ⟨w.heap.size + 1 + 1 + 1, 0, none⟩ (.slice a5 n5 c5)) (w.heap.size + 1 + 1 + 1 + 1) 58 3 (.slice a5 n5 c5) (((mapL cols (colNames t) vs (restOf t other)).take (k + 1)).map Vc.cells)) := by
            show Got _ _ _ _ _ _
            rw [HPL.out]
            exact hg5.turns ((Turns.refl (· = w.heap.size + 1 + 1 + 1) w5).set (p := ⟨w.heap.size + 1 + 1 + 1, 0, none⟩) rfl _) fun c hc => by have h2 : c = w.heap.size + 1 + 1 + 1 := hc; omega
          clear hg5 hb5 HU5 z0 k5 HPL HU4 HB4 HG4
          go_round
          case rel => exact ⟨k + 1, _, by omega, by go_num, HB6, HU6, HG6⟩
          case measure => simp [intOf]; omega
    · have hlti : (t.cols.length : Int) ≤ k := by omega
      have hg := HG1.out
      rw [List.take_of_length_le (by rw [mapL_len]; simp [colNames]; omega)] at hg
      have HRw : Own wr (w.heap.size + 1 + 1) 41 #[.slice none 0 0] := (HB.out.block (w.heap.size + 1 + 1) (by omega)).trans HF.out.2.2.1
      have hQ : Own (wr.setCell ⟨w.heap.size + 1 + 1, 0, none⟩ (.slice ag ng cg)) (w.heap.size + 1 + 1) 41 #[.slice ag ng cg] := HRw.set 0 _
      have HBd : Hid (Below w.heap.size w (wr.setCell ⟨w.heap.size + 1 + 1, 0, none⟩ (.slice ag ng cg))) := hbw.setCell (p := ⟨w.heap.size + 1 + 1, 0, none⟩) (by show w.heap.size ≤ w.heap.size + 1 + 1; omega) _
      have HGd : Hid (Got (wr.setCell ⟨w.heap.size + 1 + 1, 0, none⟩ (.slice ag ng cg)) w.heap.size 58 3 (.slice ag ng cg) ((mapL cols (colNames t) vs (restOf t other)).map Vc.cells)) := (hg.turns ((Turns.refl (· = w.heap.size + 1 + 1) wr).set (p := ⟨w.heap.size + 1 + 1, 0, none⟩) rfl _) fun c hc => by have h2 : c = w.heap.size + 1 + 1 := hc; omega).mono (by omega)
      have k0 := HRw.frozen 0
      have r0 := HRw.loc.one
      clear hg HG1 HB
      go_wp2
      generalize wr.setCell ⟨w.heap.size + 1 + 1, 0, none⟩ (.slice ag ng cg) = W at hQ HBd HGd ⊢
      have e0 := hQ.loc.one
      exact bodyPost_ret (v := .agg #[.slice ag ng cg]) (by simp [results, Try.results64, go_sem, e0]) rfl ⟨_, rfl, HBd.out, HGd.out⟩

set_option maxRecDepth 100000 in
set_option maxHeartbeats 4000000 in
/-- spec.l10Map -/
theorem l10Map_any (x : Array Value) (cv vv ov : Value) (cols : List ByteArray) (t : Tc) (vs other : List Vc) (w : World) (hx : TabV w x t) (hc : StrsV w cv cols) (hv : ValsV w vv vs) (hr : ValsV w ov other) (hf : t.fit) (hn : t.cols.length ≤ 1048576) :
    Calls Try.prog 44 #[cv, .agg x, vv, .agg #[ov]] w fun e w' => ∃ (v : Value) (out : List Vc) (r : Int), e = .returned (.tuple #[.agg #[v], .int .i64 r]) ∧ isMapRow cols t vs (restOf t other) out r ∧ Below w.heap.size w w' ∧ Got w' w.heap.size 58 3 v (out.map Vc.cells) := by
  obtain ⟨a, p, o, z, rfl, hx, hcs, hks⟩ := hx.lit
  obtain ⟨qt, hqt⟩ := boolOf t.right
  obtain ⟨q2, hq2⟩ := boolOf cols.Nodup
  obtain ⟨q7, hq7⟩ := boolOf (rowRight t (mapL cols (colNames t) vs (restOf t other)))
  have HQ : Hid ((qt = true ↔ t.right) ∧ (q2 = true ↔ cols.Nodup) ∧ (q7 = true ↔ rowRight t (mapL cols (colNames t) vs (restOf t other)))) := ⟨hqt, hq2, hq7⟩
  have HT : Hid (∀ u : World, Below w.heap.size w u → Calls Try.prog 29 #[.agg #[.string t.name, .slice a t.cols.length p, .slice o t.keys.length z]] u fun e w' => e = .returned (.bool qt) ∧ Below u.heap.size u w') := fun u hu => (tableOk_spec _ t u (hx.on hu) hf).mono fun e w' ⟨q, h1, h2, h3⟩ => ⟨by rw [h1, bool_same h2 hqt], h3⟩
  have H2 : Hid (∀ u : World, Below w.heap.size w u → Calls Try.prog 30 #[cv] u fun e w' => e = .returned (.bool q2) ∧ Below u.heap.size u w') := fun u hu => (l10Once_any cv cols u (hc.on hu)).mono fun e w' ⟨q, h1, h2, h3⟩ => ⟨by rw [h1, bool_same h2 hq2], h3⟩
  have HCA : Hid (∀ (u : World) (s : ByteArray), Below w.heap.size w u → Calls Try.prog 32 #[.agg #[.string t.name, .slice a t.cols.length p, .slice o t.keys.length z], .string s] u fun e w' => e = .returned (.int .i64 (colAt t.cols s)) ∧ Below u.heap.size u w') := fun u s hu => colAt_spec _ _ _ t.cols s u (hcs.on hu)
  have HRW : Hid (cols.length ≤ vs.length → ∀ u : World, Below w.heap.size w u → Calls Try.prog 64 #[cv, .agg #[.string t.name, .slice a t.cols.length p, .slice o t.keys.length z], vv, .agg #[ov]] u fun e w' => ∃ (v : Value), e = .returned (.agg #[v]) ∧ Below u.heap.size u w' ∧ Got w' u.heap.size 58 3 v ((mapL cols (colNames t) vs (restOf t other)).map Vc.cells)) := fun hl u hu => l10Row_any _ cv vv ov cols t vs other u (hx.on hu) (hc.on hu) (hv.on hu) (hr.on hu) hl hn
  have HRO : Hid (∀ (u : World) (v : Value), Below w.heap.size w u → ValsV u v (mapL cols (colNames t) vs (restOf t other)) → Calls Try.prog 65 #[.agg #[.string t.name, .slice a t.cols.length p, .slice o t.keys.length z], .agg #[v]] u fun e w' => e = .returned (.bool q7) ∧ Below u.heap.size u w') := fun u v hu h => (rowOk_spec _ t v _ u (hx.on hu) h hf).mono fun e w' ⟨q, h1, h2, h3⟩ => ⟨by rw [h1, bool_same h2 hq7], h3⟩
  obtain ⟨ac, pc, rfl, hcl, hcm, hcr⟩ := hc
  obtain ⟨av, pv, rfl, _, hpv, _⟩ := hv
  obtain ⟨ao, po, rfl, _, hpo, _⟩ := hr
  unfold maxLen at hcm
  have HCR : Hid (RowAt w ac 1 (cols.map strX)) := hcr
  have HL := (((Own.new w 32 #[.string t.name, .slice a t.cols.length p, .slice o t.keys.length z]).on (ch_alloc (Below.refl _ _) (.cells #[.slice ao other.length po] 41))).on (ch_alloc (Below.refl _ _) (.cells #[.slice none 0 0] 41)))
  have HP := ((Own.at (w.alloc (.cells #[.string t.name, .slice a t.cols.length p, .slice o t.keys.length z] 32)) 41 #[.slice ao other.length po] (n := w.heap.size + 1) (by simp)).on (ch_alloc (Below.refl _ _) (.cells #[.slice none 0 0] 41)))
  have HO := (Own.at ((w.alloc (.cells #[.string t.name, .slice a t.cols.length p, .slice o t.keys.length z] 32)).alloc (.cells #[.slice ao other.length po] 41)) 41 #[.slice none 0 0] (n := w.heap.size + 1 + 1) (by simp))
  have hb0 : Below w.heap.size w (((w.alloc (.cells #[.string t.name, .slice a t.cols.length p, .slice o t.keys.length z] 32)).alloc (.cells #[.slice ao other.length po] 41)).alloc (.cells #[.slice none 0 0] 41)) := (by repeat (first | with_reducible exact Below.refl _ _ | with_reducible assumption | with_reducible refine ch_alloc ?_ _ | with_reducible refine Below.drew ?_ | with_reducible refine below_draws _ ?_ | (with_reducible refine Below.setCell ?_ ?_ _; rotate_left; focus (first | with_reducible exact Nat.le_refl _ | (simp; done) | (simp; omega) | (simp at *; omega))) | with_reducible refine ch_trans ?_ (by with_reducible assumption)))
  clear hx hcs hks hf hqt hq2 hq7 hcr hn
  obtain ⟨l0, l1, l2⟩ := HL.loc.three
  go_enter Try.func44, Try.ntmps44
  go_wp2_with fail
  clear l0 l1 l2
  generalize ((w.alloc (.cells #[.string t.name, .slice a t.cols.length p, .slice o t.keys.length z] 32)).alloc (.cells #[.slice ao other.length po] 41)).alloc (.cells #[.slice none 0 0] 41) = u0 at HL HP HO hb0 ⊢
  refine (HT.out _ hb0).mono ?_
  rintro e w2 ⟨rfl, b2⟩
  have HL2 := HL.on b2
  have HP2 := HP.on b2
  have HO2 := HO.on b2
  have hb2 := ch_trans hb0 b2
  clear HT HL HP HO b2 hb0
  obtain ⟨l0, l1, l2⟩ := HL2.loc.three
  cases qt
  · have HI : Hid (isMapRow cols t vs (restOf t other) [] 1) := Or.inl ⟨fun h => (by have := HQ.out.1.2 h.1; cases this), rfl, rfl⟩
    have hQ : Own (w2.setCell ⟨w.heap.size + 1 + 1, 0, none⟩ (.slice none 0 0)) (w.heap.size + 1 + 1) 41 #[.slice none 0 0] := HO2.set 0 _
    have HBd : Hid (Below w.heap.size w (w2.setCell ⟨w.heap.size + 1 + 1, 0, none⟩ (.slice none 0 0))) := hb2.setCell (p := ⟨w.heap.size + 1 + 1, 0, none⟩) (by show w.heap.size ≤ w.heap.size + 1 + 1; omega) _
    have k0 := HO2.frozen 0
    have r0 := HO2.loc.one
    go_wp2
    generalize w2.setCell ⟨w.heap.size + 1 + 1, 0, none⟩ (.slice none 0 0) = W at hQ HBd ⊢
    have q0 := hQ.loc.one
    exact bodyPost_ret (v := .tuple #[.agg #[.slice none 0 0], .int .i64 1]) (by simp [results, Try.results44, go_sem, q0]) rfl ⟨_, _, _, rfl, HI.out, HBd.out, Got.nil _ _ _ _⟩
  go_wp2_with fail
  refine (H2.out _ hb2).mono ?_
  rintro e w3 ⟨rfl, b3⟩
  have HL3 := HL2.on b3
  have HP3 := HP2.on b3
  have HO3 := HO2.on b3
  have hb3 := ch_trans hb2 b3
  clear l0 l1 l2 H2 HL2 HP2 HO2 hb2 b3
  obtain ⟨l0, l1, l2⟩ := HL3.loc.three
  cases q2
  · have HI : Hid (isMapRow cols t vs (restOf t other) [] 1) := Or.inl ⟨fun h => (by have := HQ.out.2.1.2 h.2.1; cases this), rfl, rfl⟩
    have hQ : Own (w3.setCell ⟨w.heap.size + 1 + 1, 0, none⟩ (.slice none 0 0)) (w.heap.size + 1 + 1) 41 #[.slice none 0 0] := HO3.set 0 _
    have HBd : Hid (Below w.heap.size w (w3.setCell ⟨w.heap.size + 1 + 1, 0, none⟩ (.slice none 0 0))) := hb3.setCell (p := ⟨w.heap.size + 1 + 1, 0, none⟩) (by show w.heap.size ≤ w.heap.size + 1 + 1; omega) _
    have k0 := HO3.frozen 0
    have r0 := HO3.loc.one
    go_wp2
    generalize w3.setCell ⟨w.heap.size + 1 + 1, 0, none⟩ (.slice none 0 0) = W at hQ HBd ⊢
    have q0 := hQ.loc.one
    exact bodyPost_ret (v := .tuple #[.agg #[.slice none 0 0], .int .i64 1]) (by simp [results, Try.results44, go_sem, q0]) rfl ⟨_, _, _, rfl, HI.out, HBd.out, Got.nil _ _ _ _⟩
  by_cases hlen : cols.length = vs.length
  rotate_left
  · have HI : Hid (isMapRow cols t vs (restOf t other) [] 1) := Or.inl ⟨fun h => hlen h.2.2.symm, rfl, rfl⟩
    have hne : ¬ (cols.length : Int) = vs.length := by omega
    clear hlen
    have hQ : Own (w3.setCell ⟨w.heap.size + 1 + 1, 0, none⟩ (.slice none 0 0)) (w.heap.size + 1 + 1) 41 #[.slice none 0 0] := HO3.set 0 _
    have HBd : Hid (Below w.heap.size w (w3.setCell ⟨w.heap.size + 1 + 1, 0, none⟩ (.slice none 0 0))) := hb3.setCell (p := ⟨w.heap.size + 1 + 1, 0, none⟩) (by show w.heap.size ≤ w.heap.size + 1 + 1; omega) _
    have k0 := HO3.frozen 0
    have r0 := HO3.loc.one
    go_wp2
    generalize w3.setCell ⟨w.heap.size + 1 + 1, 0, none⟩ (.slice none 0 0) = W at hQ HBd ⊢
    have q0 := hQ.loc.one
    exact bodyPost_ret (v := .tuple #[.agg #[.slice none 0 0], .int .i64 1]) (by simp [results, Try.results44, go_sem, q0]) rfl ⟨_, _, _, rfl, HI.out, HBd.out, Got.nil _ _ _ _⟩
  have H1 : Hid (mr1 cols t vs) := ⟨HQ.out.1.1 (by trivial), HQ.out.2.1.1 (by trivial), hlen.symm⟩
  have HLE : Hid (cols.length ≤ vs.length) := Nat.le_of_eq hlen
  have HLQ : Hid (cols.length = vs.length) := hlen
  have heq : (cols.length : Int) = vs.length := by omega
  clear hlen
  have HS3 : Hid (Own w3 w.heap.size 32 #[.string t.name, .slice a t.cols.length p, .slice o t.keys.length z] ∧ Own w3 (w.heap.size + 1) 41 #[.slice ao other.length po] ∧ Own w3 (w.heap.size + 1 + 1) 41 #[.slice none 0 0]) := ⟨HL3, HP3, HO3⟩
  go_wp2
  clear l0 l1 l2 HL3 HP3 HO3 heq
  go_loopw [31] (fun i wr => ∃ k : Nat, k ≤ cols.length ∧ i = .int .i64 (k : Int) ∧ Hid (Below w3.heap.size w3 wr) ∧ Hid (∀ j (h : j < cols.length), j < k → cols[j] ∈ colNames t)) (fun i _ => cols.length - (intOf i).toNat)
  case atStart => exact ⟨0, Nat.zero_le _, by simp, Below.refl _ _, fun j h hj => by omega⟩
  case round =>
    obtain ⟨k, hk, rfl, HB, HN⟩ := hrel
    have hbw := ch_trans hb3 HB.out
    have HLw := HS3.out.1.on HB.out
    have HPw := HS3.out.2.1.on HB.out
    have HOw := HS3.out.2.2.on HB.out
    obtain ⟨l0, l1, l2⟩ := HLw.loc.three
    by_cases hlt : k < cols.length
    · have hlti : (k : Int) < cols.length := by omega
      have hltv : (k : Int) < vs.length := by have := HLQ.out; omega
      obtain ⟨cb, off, rfl, c0⟩ := (HCR.out.on hbw).strs k hlt
      have HCN := colAt_names t cols[k]
      go_wp2_with fail
      refine (HCA.out _ _ hbw).mono ?_
      rintro e w6 ⟨rfl, b6⟩
      have hb6 := ch_trans hbw b6
      have HB6 : Hid (Below w3.heap.size w3 w6) := ch_trans HB.out b6
      have HO6 := HOw.on b6
      clear b6 l0 l1 l2 HLw HPw HOw
      rcases HCN with ⟨h1, h2⟩ | ⟨h1, h2⟩
      · have h2' : ¬ colAt t.cols cols[k] < 0 := by omega
        have HN' : Hid (∀ j (h : j < cols.length), j < k + 1 → cols[j] ∈ colNames t) := fun j h hj => by
          by_cases e : j = k
          · subst e; exact h1
          · exact HN.out j h (by omega)
        clear h1 h2
        go_wp2
        go_round
        case rel => exact ⟨k + 1, by omega, by go_num, HB6, HN'⟩
        case measure => simp [intOf]; omega
      · have HI : Hid (isMapRow cols t vs (restOf t other) [] 11) := Or.inr ⟨H1.out, Or.inl ⟨fun h => h1 (h _ (List.getElem_mem hlt)), rfl, rfl⟩⟩
        have h2' : colAt t.cols cols[k] < 0 := by omega
        clear h1 h2
        have hQ : Own (w6.setCell ⟨w.heap.size + 1 + 1, 0, none⟩ (.slice none 0 0)) (w.heap.size + 1 + 1) 41 #[.slice none 0 0] := HO6.set 0 _
        have HBd : Hid (Below w.heap.size w (w6.setCell ⟨w.heap.size + 1 + 1, 0, none⟩ (.slice none 0 0))) := hb6.setCell (p := ⟨w.heap.size + 1 + 1, 0, none⟩) (by show w.heap.size ≤ w.heap.size + 1 + 1; omega) _
        have k0 := HO6.frozen 0
        have r0 := HO6.loc.one
        go_wp2
        generalize w6.setCell ⟨w.heap.size + 1 + 1, 0, none⟩ (.slice none 0 0) = W at hQ HBd ⊢
        have q0 := hQ.loc.one
        exact bodyPost_ret (v := .tuple #[.agg #[.slice none 0 0], .int .i64 11]) (by simp [results, Try.results44, go_sem, q0]) rfl ⟨_, _, _, rfl, HI.out, HBd.out, Got.nil _ _ _ _⟩
    · have hlti : (cols.length : Int) ≤ k := by omega
      have hltv : (vs.length : Int) ≤ k := by have := HLQ.out; omega
      have HD2 : Hid (drift2 cols t) := fun s hs => by
        obtain ⟨j, hj, rfl⟩ := List.getElem_of_mem hs
        exact HN.out j hj (by omega)
      have q0 := HPw.loc.one
      clear HN
      go_wp2_with fail
      refine (HRW.out HLE.out _ hbw).mono ?_
      rintro e w7 ⟨v7, rfl, b7, hg7⟩
      obtain ⟨a7, n7, c7, rfl, hg7⟩ := hg7.lit2
      have HLb : Hid (Own w7 w.heap.size 32 #[.string t.name, .slice a t.cols.length p, .slice o t.keys.length z]) := HLw.on b7
      have HOb : Hid (Own w7 (w.heap.size + 1 + 1) 41 #[.slice none 0 0]) := HOw.on b7
      have HBb : Hid (Below w.heap.size w w7) := ch_trans hbw b7
      have HGb : Hid (Got w7 wr.heap.size 58 3 (.slice a7 n7 c7) ((mapL cols (colNames t) vs (restOf t other)).map Vc.cells)) := hg7
      have hs6 : w.heap.size + 1 + 1 < wr.heap.size := HOw.lt
      clear l0 l1 l2 q0
      obtain ⟨l0, l1, l2⟩ := HLb.out.loc.three
      have hs7' : w.heap.size < w7.heap.size := HLb.out.lt
      clear b7 hg7 HLw HPw HOw hbw
      go_wp2_with fail
      clear l0 l1 l2
      have hv7 : Below w7.heap.size w7 (w7.alloc (.cells #[.slice a7 n7 c7] 41)) := ch_alloc (Below.refl _ _) _
      have HO7 := HOb.out.on hv7
      have hb7 := ch_trans HBb.out hv7
      have hg8 := HGb.out.on hv7
      have HV7 := hg8.vals
      have HG7 : Hid (Got (w7.alloc (.cells #[.slice a7 n7 c7] 41)) wr.heap.size 58 3 (.slice a7 n7 c7) ((mapL cols (colNames t) vs (restOf t other)).map Vc.cells)) := hg8
      have HR7 := Loc.new w7 #[.slice a7 n7 c7] 41
      clear hg8 HLb HOb HBb HGb
      generalize w7.alloc (.cells #[.slice a7 n7 c7] 41) = u7 at hv7 HO7 hb7 HV7 HG7 HR7 ⊢
      refine (HRO.out _ _ hb7 HV7).mono ?_
      rintro e w8 ⟨rfl, b8⟩
      have HO8 := HO7.on b8
      have HR8 := HR7.on b8
      have hb8 := ch_trans hb7 b8
      have HG8 : Hid (Got w8 wr.heap.size 58 3 (.slice a7 n7 c7) ((mapL cols (colNames t) vs (restOf t other)).map Vc.cells)) := HG7.out.on b8
      clear HRO HO7 HR7 hb7 b8 HV7 HG7 hv7
      have m0 := HR8.one
      cases q7
      · have HI : Hid (isMapRow cols t vs (restOf t other) [] 14) := Or.inr ⟨H1.out, Or.inr ⟨HD2.out, Or.inl ⟨fun h => (by have := HQ.out.2.2.2 ⟨H1.out.1, h⟩; cases this), rfl, rfl⟩⟩⟩
        have hQ : Own (w8.setCell ⟨w.heap.size + 1 + 1, 0, none⟩ (.slice none 0 0)) (w.heap.size + 1 + 1) 41 #[.slice none 0 0] := HO8.set 0 _
        have HBd : Hid (Below w.heap.size w (w8.setCell ⟨w.heap.size + 1 + 1, 0, none⟩ (.slice none 0 0))) := hb8.setCell (p := ⟨w.heap.size + 1 + 1, 0, none⟩) (by show w.heap.size ≤ w.heap.size + 1 + 1; omega) _
        have k0 := HO8.frozen 0
        have r0 := HO8.loc.one
        go_wp2
        generalize w8.setCell ⟨w.heap.size + 1 + 1, 0, none⟩ (.slice none 0 0) = W at hQ HBd ⊢
        have q0 := hQ.loc.one
        exact bodyPost_ret (v := .tuple #[.agg #[.slice none 0 0], .int .i64 14]) (by simp [results, Try.results44, go_sem, q0]) rfl ⟨_, _, _, rfl, HI.out, HBd.out, Got.nil _ _ _ _⟩
      · have HI : Hid (isMapRow cols t vs (restOf t other) (mapL cols (colNames t) vs (restOf t other)) 0) := Or.inr ⟨H1.out, Or.inr ⟨HD2.out, Or.inr ⟨(HQ.out.2.2.1 (by trivial)).2, rfl, rfl⟩⟩⟩
        have hQ : Own (w8.setCell ⟨w.heap.size + 1 + 1, 0, none⟩ (.slice a7 n7 c7)) (w.heap.size + 1 + 1) 41 #[.slice a7 n7 c7] := HO8.set 0 _
        have HBd : Hid (Below w.heap.size w (w8.setCell ⟨w.heap.size + 1 + 1, 0, none⟩ (.slice a7 n7 c7))) := hb8.setCell (p := ⟨w.heap.size + 1 + 1, 0, none⟩) (by show w.heap.size ≤ w.heap.size + 1 + 1; omega) _
        have HGd : Hid (Got (w8.setCell ⟨w.heap.size + 1 + 1, 0, none⟩ (.slice a7 n7 c7)) w.heap.size 58 3 (.slice a7 n7 c7) ((mapL cols (colNames t) vs (restOf t other)).map Vc.cells)) := (HG8.out.turns ((Turns.refl (· = w.heap.size + 1 + 1) w8).set (p := ⟨w.heap.size + 1 + 1, 0, none⟩) rfl _) fun c hc => by have h2 : c = w.heap.size + 1 + 1 := hc; omega).mono (by omega)
        have k0 := HO8.frozen 0
        have r0 := HO8.loc.one
        go_wp2
        generalize w8.setCell ⟨w.heap.size + 1 + 1, 0, none⟩ (.slice a7 n7 c7) = W at hQ HBd HGd ⊢
        have q0 := hQ.loc.one
        exact bodyPost_ret (v := .tuple #[.agg #[.slice a7 n7 c7], .int .i64 0]) (by simp [results, Try.results44, go_sem, q0]) rfl ⟨_, _, _, rfl, HI.out, HBd.out, HGd.out⟩

set_option maxRecDepth 100000 in
set_option maxHeartbeats 1000000 in
/-- spec.MapRow -/
theorem mapRow_spec (x : Array Value) (cv vv : Value) (cols : List ByteArray) (t : Tc) (vs : List Vc) (w : World) (hx : TabV w x t) (hc : StrsV w cv cols) (hv : ValsV w vv vs) (hf : t.fit) (hn : t.cols.length ≤ 1048576) :
    Calls Try.prog 15 #[cv, .agg x, vv] w fun e w' => ∃ (v : Value) (out : List Vc) (r : Int), e = .returned (.tuple #[.agg #[v], .int .i64 r]) ∧ isMapRow cols t vs (restOf t []) out r ∧ Below w.heap.size w w' ∧ Got w' w.heap.size 58 3 v (out.map Vc.cells) := by
  obtain ⟨a, p, o, z, rfl, hx, hcs, hks⟩ := hx.lit
  have HM : Hid (∀ u : World, Below w.heap.size w u → Calls Try.prog 44 #[cv, .agg #[.string t.name, .slice a t.cols.length p, .slice o t.keys.length z], vv, .agg #[.slice none 0 0]] u fun e w' => ∃ (v : Value) (out : List Vc) (r : Int), e = .returned (.tuple #[.agg #[v], .int .i64 r]) ∧ isMapRow cols t vs (restOf t []) out r ∧ Below u.heap.size u w' ∧ Got w' u.heap.size 58 3 v (out.map Vc.cells)) := fun u hu => l10Map_any _ cv vv _ cols t vs [] u (hx.on hu) (hc.on hu) (hv.on hu) (ValsV.void u) hf hn
  obtain ⟨ac, pc, rfl, _, hpc, _⟩ := hc
  obtain ⟨av, pv, rfl, _, hpv, _⟩ := hv
  have HL := ((Own.new w 32 #[.string t.name, .slice a t.cols.length p, .slice o t.keys.length z]).on (ch_alloc (Below.refl _ _) (.cells #[.slice none 0 0] 41)))
  have HO := Own.at (w.alloc (.cells #[.string t.name, .slice a t.cols.length p, .slice o t.keys.length z] 32)) 41 #[.slice none 0 0] (n := w.heap.size + 1) (by simp)
  have hb0 : Below w.heap.size w ((w.alloc (.cells #[.string t.name, .slice a t.cols.length p, .slice o t.keys.length z] 32)).alloc (.cells #[.slice none 0 0] 41)) := (by repeat (first | with_reducible exact Below.refl _ _ | with_reducible assumption | with_reducible refine ch_alloc ?_ _ | with_reducible refine Below.drew ?_ | with_reducible refine below_draws _ ?_ | (with_reducible refine Below.setCell ?_ ?_ _; rotate_left; focus (first | with_reducible exact Nat.le_refl _ | (simp; done) | (simp; omega) | (simp at *; omega))) | with_reducible refine ch_trans ?_ (by with_reducible assumption)))
  clear hx hcs hks hf hn
  obtain ⟨l0, l1, l2⟩ := HL.loc.three
  go_enter Try.func15, Try.ntmps15
  go_wp2_with fail
  clear l0 l1 l2
  generalize (w.alloc (.cells #[.string t.name, .slice a t.cols.length p, .slice o t.keys.length z] 32)).alloc (.cells #[.slice none 0 0] 41) = u0 at HL HO hb0 ⊢
  refine (HM.out _ hb0).mono ?_
  rintro e w1 ⟨v1, out, r, rfl, hi, b1, hg1⟩
  obtain ⟨a3, n3, c3, rfl, hg1⟩ := hg1.lit2
  have HI : Hid (isMapRow cols t vs (restOf t []) out r) := hi
  have HO1 := HO.on b1
  have hb1 := ch_trans hb0 b1
  have hs0 : w.heap.size + 1 < u0.heap.size := HO.lt
  have hQ : Own (w1.setCell ⟨w.heap.size + 1, 0, none⟩ (.slice a3 n3 c3)) (w.heap.size + 1) 41 #[.slice a3 n3 c3] := HO1.set 0 _
  have HBd : Hid (Below w.heap.size w (w1.setCell ⟨w.heap.size + 1, 0, none⟩ (.slice a3 n3 c3))) := hb1.setCell (p := ⟨w.heap.size + 1, 0, none⟩) (by show w.heap.size ≤ w.heap.size + 1; omega) _
  have HGd : Hid (Got (w1.setCell ⟨w.heap.size + 1, 0, none⟩ (.slice a3 n3 c3)) w.heap.size 58 3 (.slice a3 n3 c3) (out.map Vc.cells)) := (hg1.turns ((Turns.refl (· = w.heap.size + 1) w1).set (p := ⟨w.heap.size + 1, 0, none⟩) rfl _) fun c hc => by have h2 : c = w.heap.size + 1 := hc; omega).mono (by omega)
  have k0 := HO1.frozen 0
  have r0 := HO1.loc.one
  clear hi hg1 b1 HM HL HO hb0 hb1
  go_wp2
  generalize w1.setCell ⟨w.heap.size + 1, 0, none⟩ (.slice a3 n3 c3) = W at hQ HBd HGd ⊢
  have q0 := hQ.loc.one
  exact bodyPost_ret (v := .tuple #[.agg #[.slice a3 n3 c3], .int .i64 r]) (by simp [results, Try.results15, go_sem, q0]) rfl ⟨_, _, _, rfl, HI.out, HBd.out, HGd.out⟩
end Go.Proofs.Ytiijahoheajppaa
