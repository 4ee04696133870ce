/- Tables copied: slices.Clone of columns and of texts, the given and the landed copy of a table. -/
import Derived.Test.YtiijahoheajppabHeldS
import Derived.Test.YtiijahoheajppabWm
import Derived.Test.YtiijahoheajppabPa
import Derived.Test.YtiijahoheajppabOrd
namespace Go.Proofs.Ytiijahoheajppab
open Go.ChangeShapes Go.WideShapes Go.ChangeAt Go.RowKit

theorem infoCol : (Try.prog.info? 66).map (fun i => (i.zero, i.size, i.bytes)) = some (some (.agg #[.string ByteArray.empty, .int .i64 0, .bool false, .bool false, .int .i64 0, .int .i64 0, .string ByteArray.empty]), 7, 64) := by kernel_rfl
theorem colStr : (66 : TypeId) ≠ 9 := by decide
theorem infoStr : (Try.prog.info? 9).map (fun i => (i.zero, i.size, i.bytes)) = some (some (.string ByteArray.empty), 1, 16) := by kernel_rfl
theorem cols_one (cs : List Cl) : ∀ x ∈ cs.map Cl.cells, ∀ u ∈ x.toList, u.oneCell' = true := fun x hx u hu => by
  obtain ⟨c, _, rfl⟩ := List.mem_map.1 hx
  simp at hu
  rcases hu with h | h | h | h | h | h | h <;> subst h <;> rfl
theorem strs_one (ks : List ByteArray) : ∀ x ∈ ks.map strX, ∀ u ∈ x.toList, u.oneCell' = true := fun x hx u hu => by
  obtain ⟨c, _, rfl⟩ := List.mem_map.1 hx
  simp at hu
  subst hu; rfl
theorem notNilC (b off n p : Nat) (w : World) : (binOp .eql 45 (.slice (some ⟨b, off, none⟩) n p) (.slice none 0 0)).run Try.prog w = .ok (.bool false) w := by kernel_rfl
theorem notNilS (b off n p : Nat) (w : World) : (binOp .eql 29 (.slice (some ⟨b, off, none⟩) n p) (.slice none 0 0)).run Try.prog w = .ok (.bool false) w := by kernel_rfl
theorem ColsV.lit {w : World} {v : Value} {cs : List Cl} (h : ColsV w v cs) : ∃ a p, v = .slice a cs.length p ∧ cs.length ≤ p ∧ p ≤ maxLen ∧ RowAt w a 7 (cs.map Cl.cells) := h
theorem ColsV.rowAt {w : World} {a : Option Addr} {n p : Nat} {cs : List Cl} (h : ColsV w (.slice a n p) cs) : RowAt w a 7 (cs.map Cl.cells) := by
  obtain ⟨_, _, e, _, _, h⟩ := h; cases e; exact h
theorem StrsV.lit {w : World} {v : Value} {cs : List ByteArray} (h : StrsV w v cs) : ∃ a p, v = .slice a cs.length p ∧ cs.length ≤ p ∧ p ≤ maxLen ∧ RowAt w a 1 (cs.map strX) := h

set_option maxRecDepth 100000 in
set_option maxHeartbeats 1000000 in
theorem cloneStrs (v : Value) (vs : List ByteArray) (w : World) (hv : StrsV w v vs) (h1 : 1 ≤ vs.length) (hl : vs.length ≤ 1048576) :
    Calls Try.prog 53 #[v] w fun e w' => ∃ kv, e = .returned kv ∧ Below w.heap.size w w' ∧ Got w' w.heap.size 9 1 kv (vs.map strX) := by
  obtain ⟨a, p, rfl, hlp, hm, hr⟩ := hv
  unfold maxLen at hm
  obtain ⟨b, off, rfl, _⟩ := hr.strs 0 h1
  have HR : Hid (RowAt w (some ⟨b, off, none⟩) 1 (vs.map strX)) := hr
  have hnn := notNilS b off vs.length p w
  clear hr
  go_enter Try.func53, Try.ntmps53
  go_wp2_with (at_builtin; refine app_lot rfl (.tmp 5) (.tmp 6) rfl Try.underlying29 infoStr rfl (by decide) (by decide) w.heap.size _ [] rfl (Got.empty w _ _) b off p (vs.map strX) vs.length (by simp) rfl (HR.out.on (ch_alloc (Below.refl _ _) _)) (strs_one vs) (by simp; omega) (by simp) ?_; intro v' w2 hg2 hb2)
  go_ret
  exact ⟨_, rfl, Below.trans (ch_alloc (Below.refl _ _) _) hb2, by simpa using hg2⟩

section
variable {P : Program} {w : World} {t T : TypeId} {zv : Value} {z bytes : Nat} {o : Oper} {a : Act} {K : Act → World → Prop}
/-- append of a whole list, as an operation of a drawn region. -/
theorem app_calm (s y : Operand) (ho : o.op = .call { callee := .builtin .append, args := #[s, y], argTypes := #[t, t] })
    (ht : P.underlying t = some (.slice T)) (hinfo : (P.info? T).map (fun i => (i.zero, i.size, i.bytes)) = some (some zv, z, bytes)) (hzs : zv.cells.size = z) (hsz : 0 < z) (hby : bytes ≤ 1000)
    (B : Nat) (v : Value) (xs : List (Array Value)) (hs : a.eval s = v) (hown : Got w B T z v xs) (b off c : Nat) (ys : List (Array Value)) (n : Nat) (hn : n = ys.length) (hy : a.eval y = .slice (some ⟨b, off, none⟩) n c) (hrow : RowAt w (some ⟨b, off, none⟩) z ys) (h1 : ∀ x ∈ ys, ∀ u ∈ x.toList, u.oneCell' = true) (hlen : xs.length + ys.length < 1000000000) (hB : B ≤ w.heap.size)
    (h : ∀ v' w', Got w' B T z v' (xs ++ ys) → Below B w w' → Turns (fun c => v.ownBlock = some c) w w' → K (a.put o.dst v') w') : calm P o a w K := by
  subst hn
  obtain ⟨v', w', hr, h2, h3, h4⟩ := app_all ht hinfo hzs hsz hby hown hrow h1 hlen hB (c := c) o.type
  unfold calm execOp
  simp only [ho, resolve, invoke, builtin, Sem.run_bind, Sem.run_pure, Result.andThen_ok, List.map_toArray, List.map_cons, List.map_nil, hs, hy, hr, calmUpon]
  exact h v' w' h2 h3 h4
end
/-- A table whose lists are the call's own. -/
def TabG (w : World) (B : Nat) (x : Array Value) (t : Tc) : Prop := ∃ cv kv, x = #[.string t.name, cv, kv] ∧ Got w B 66 7 cv (t.cols.map Cl.cells) ∧ Got w B 9 1 kv (t.keys.map strX)
theorem TabG.tab {w : World} {B : Nat} {x : Array Value} {t : Tc} (h : TabG w B x t) : TabV w x t := by
  obtain ⟨cv, kv, e, h1, h2⟩ := h
  exact ⟨cv, kv, e, h1.cols, h2.strs⟩
theorem TabG.on {w w' : World} {B : Nat} {x : Array Value} {t : Tc} (h : TabG w B x t) (k : Below w.heap.size w w') : TabG w' B x t := by
  obtain ⟨cv, kv, e, h1, h2⟩ := h
  exact ⟨cv, kv, e, h1.on k, h2.on k⟩
theorem TabG.mono {w : World} {B B' : Nat} {x : Array Value} {t : Tc} (h : TabG w B x t) (hB : B' ≤ B) : TabG w B' x t := by
  obtain ⟨cv, kv, e, h1, h2⟩ := h
  exact ⟨cv, kv, e, h1.mono hB, h2.mono hB⟩
theorem TabG.turned {w w' : World} {B : Nat} {x : Array Value} {t : Tc} (h : TabG w B x t) {S : Nat → Prop} (k : Turns S w w') (hS : ∀ c, S c → c < B) : TabG w' B x t := by
  obtain ⟨cv, kv, e, h1, h2⟩ := h
  exact ⟨cv, kv, e, h1.turns k hS, h2.turns k hS⟩
theorem TabG.lit {w : World} {B : Nat} {x : Array Value} {t : Tc} (h : TabG w B x t) : ∃ a n p b m q, x = #[.string t.name, .slice a n p, .slice b m q] ∧ TabG w B #[.string t.name, .slice a n p, .slice b m q] t := by
  obtain ⟨cv, kv, e, h1, h2⟩ := h
  obtain ⟨a, n, p, rfl, h1⟩ := h1.lit2
  obtain ⟨b, m, q, rfl, h2⟩ := h2.lit2
  exact ⟨a, n, p, b, m, q, e, _, _, rfl, h1, h2⟩

set_option maxRecDepth 100000 in
set_option maxHeartbeats 1000000 in
/-- spec.l02Table -/
theorem l02Table_any (x : Array Value) (t : Tc) (w : World) (hx : TabV w x t) (hf : t.few) (h1 : 1 ≤ t.cols.length) (h2 : 1 ≤ t.keys.length) :
    Calls Try.prog 45 #[.agg x] w fun e w' => ∃ y, e = .returned (.agg y) ∧ Below w.heap.size w w' ∧ TabG w' w.heap.size y t := by
  obtain ⟨a, p, b, q, rfl, hx, hc, hk⟩ := hx.lit
  obtain ⟨ac, pc, ec, hlc, hmc, hrc⟩ := hc
  obtain ⟨ak, pk, ek, hlk, hmk, hrk⟩ := hk
  cases ec
  cases ek
  unfold maxLen at hmc hmk
  obtain ⟨b', off, rfl, _⟩ := hrc.cols 0 h1
  obtain ⟨c', off', rfl, _⟩ := hrk.strs 0 h2
  have HC : Hid (RowAt w (some ⟨b', off, none⟩) 7 (t.cols.map Cl.cells) ∧ RowAt w (some ⟨c', off', none⟩) 1 (t.keys.map strX)) := ⟨hrc, hrk⟩
  have HL := Loc.new w #[.string t.name, .slice (some ⟨b', off, none⟩) t.cols.length p, .slice (some ⟨c', off', none⟩) t.keys.length q] 47
  have hbv : Below w.heap.size w (w.alloc (.cells #[.string t.name, .slice (some ⟨b', off, none⟩) t.cols.length p, .slice (some ⟨c', off', none⟩) t.keys.length q] 47)) := (by repeat (first | with_reducible exact Below.refl _ _ | with_reducible assumption | with_reducible refine ch_alloc ?_ _ | with_reducible refine Below.drew ?_ | with_reducible refine below_draws _ ?_ | (with_reducible refine Below.setCell ?_ ?_ _; rotate_left; focus (first | with_reducible exact Nat.le_refl _ | (simp; done) | (simp; omega) | (simp at *; omega))) | with_reducible refine ch_trans ?_ (by with_reducible assumption)))
  obtain ⟨hf1, hf2⟩ := hf
  clear hx hrc hrk
  obtain ⟨l0, l1, l2⟩ := HL.three
  go_enter Try.func45, Try.ntmps45
  go_wp2_with fail
  have HQ0 : Own ((w.alloc (.cells #[.string t.name, .slice (some ⟨b', off, none⟩) t.cols.length p, .slice (some ⟨c', off', none⟩) t.keys.length q] 47)).alloc (.cells #[.string ⟨#[]⟩, .slice none 0 0, .slice none 0 0] 47)) (w.heap.size + 1) 47 #[.string ⟨#[]⟩, .slice none 0 0, .slice none 0 0] := Own.at (w.alloc (.cells #[.string t.name, .slice (some ⟨b', off, none⟩) t.cols.length p, .slice (some ⟨c', off', none⟩) t.keys.length q] 47)) _ _ (by simp)
  have hsz : ((w.alloc (.cells #[.string t.name, .slice (some ⟨b', off, none⟩) t.cols.length p, .slice (some ⟨c', off', none⟩) t.keys.length q] 47)).alloc (.cells #[.string ⟨#[]⟩, .slice none 0 0, .slice none 0 0] 47)).heap.size = w.heap.size + 1 + 1 := by simp
  have hv2 : Below (w.alloc (.cells #[.string t.name, .slice (some ⟨b', off, none⟩) t.cols.length p, .slice (some ⟨c', off', none⟩) t.keys.length q] 47)).heap.size (w.alloc (.cells #[.string t.name, .slice (some ⟨b', off, none⟩) t.cols.length p, .slice (some ⟨c', off', none⟩) t.keys.length q] 47)) ((w.alloc (.cells #[.string t.name, .slice (some ⟨b', off, none⟩) t.cols.length p, .slice (some ⟨c', off', none⟩) t.keys.length q] 47)).alloc (.cells #[.string ⟨#[]⟩, .slice none 0 0, .slice none 0 0] 47)) := ch_alloc (Below.refl _ _) _
  have HL2 := HL.on hv2
  have hb2 := ch_trans hbv hv2
  clear l0 l1 l2 HL hbv hv2
  generalize (w.alloc (.cells #[.string t.name, .slice (some ⟨b', off, none⟩) t.cols.length p, .slice (some ⟨c', off', none⟩) t.keys.length q] 47)).alloc (.cells #[.string ⟨#[]⟩, .slice none 0 0, .slice none 0 0] 47) = wv at HQ0 hsz HL2 hb2 ⊢
  refine region_fork (Below (w.heap.size + 1 + 1)) 12 (by kernel_rfl) rfl ?_
  have hgd := Grows.drawn wv
  have hzd : w.heap.size + 1 + 1 ≤ ({ wv with drawn := wv.drawn + 1 } : World).heap.size := Nat.le_of_eq hsz.symm
  generalize { wv with drawn := wv.drawn + 1 } = wd at hgd hzd ⊢
  have hb0 := ch_trans hb2 hgd
  have HQ0 := HQ0.on hgd
  obtain ⟨c0, c1, c2⟩ := (HL2.on hgd).three
  clear HL2 hb2 hgd hsz
  refine gAny_fork (fuel := 5) (Below.rel _) (by kernel_rfl) [0, 1, 3, 4, 7, 8] [2, 6] (by simp only [pick, List.getElem?_toArray, List.getElem?_cons_succ, List.getElem?_cons_zero]; rfl) (by kernel_rfl) (by kernel_rfl) rfl ?_
  repeat (go_big_quiet_step ((intro hu; have j0 := (hu.cell (p := ⟨w.heap.size, 0, none⟩) (show w.heap.size < w.heap.size + 1 + 1 by omega)).trans c0; have j1 := (hu.cell (p := ⟨w.heap.size, 1, none⟩) (show w.heap.size < w.heap.size + 1 + 1 by omega)).trans c1; have j2 := (hu.cell (p := ⟨w.heap.size, 2, none⟩) (show w.heap.size < w.heap.size + 1 + 1 by omega)).trans c2; go_simp; (try exact rfl))))
  refine wpQuiet_nil ?_
  clear c0 c1 c2
  have hz0 := hzd
  clear hzd
  intro i hi
  rcases List.mem_cons.1 hi with rfl | hi
  · refine plan_call rfl rfl (fun K hK => ?_)
    go_simp
    refine hK _ _ ⟨Below.mono (ch_alloc (Below.refl _ _) _) hz0, ?_⟩
    have E5 : Hid (Got (wd.alloc (.cells #[] 66)) (w.heap.size + 1 + 1) 66 7 (.slice (some ⟨wd.heap.size, 0, none⟩) 0 0) []) := (Got.empty wd 66 7).mono hz0
    have bb : Below wd.heap.size wd (wd.alloc (.cells #[] 66)) := ch_alloc (Below.refl _ _) _
    have hb1 := ch_trans hb0 bb
    have HQ1 := HQ0.on bb
    have hz1 : w.heap.size + 1 + 1 ≤ (wd.alloc (.cells #[] 66)).heap.size := Nat.le_trans hz0 bb.size
    clear hK K bb
    generalize Value.slice (some ⟨wd.heap.size, 0, none⟩) 0 0 = e5 at E5 ⊢
    generalize wd.alloc (.cells #[] 66) = u1 at E5  hb1 HQ1 hz1 ⊢
    refine gAny_fork (fuel := 4) (Below.rel _) (by kernel_rfl) [] [5, 6] rfl (by kernel_rfl) (by kernel_rfl) rfl ?_
    refine wpQuiet_nil ?_
    intro i hi
    rcases List.mem_cons.1 hi with rfl | hi
    · refine plan_call rfl rfl (fun K hK => ?_)
      refine app_calm (.tmp 5) (.tmp 7) rfl Try.underlying45 infoCol rfl (by decide) (by decide) (w.heap.size + 1 + 1) _ [] rfl E5.out b' off p (t.cols.map Cl.cells) t.cols.length (by simp) rfl (HC.out.1.on hb1) (cols_one t.cols) (by simp; omega) hz1 ?_
      intro v' u2 hg bb ht
      obtain ⟨xa, xn, xp, rfl, hg⟩ := hg.lit2
      refine hK _ _ ⟨bb, ?_⟩
      go_simp
      have Gx : Hid (Got u2 (w.heap.size + 1 + 1) 66 7 (.slice xa xn xp) ((t.cols.map Cl.cells))) := hg
      have hb2 : Below w.heap.size w u2 := hb1.trans (bb.mono (by omega))
      have HQ2 : Own u2 (w.heap.size + 1) 47 #[.string ⟨#[]⟩, .slice none 0 0, .slice none 0 0] := (bb.block (w.heap.size + 1) (by omega)).trans HQ1
      have hz2 : w.heap.size + 1 + 1 ≤ u2.heap.size := Nat.le_trans hz1 bb.size
      clear hK K bb ht hg
      refine gAny_fork (fuel := 3) (Below.rel _) (by kernel_rfl) [] [6] rfl (by kernel_rfl) (by kernel_rfl) rfl ?_
      refine wpQuiet_nil ?_
      intro i hi
      obtain rfl : i = 6 := by simpa using hi
      refine plan_call rfl rfl (fun K hK => ?_)
      go_simp
      refine hK _ _ ⟨Below.mono (ch_alloc (Below.refl _ _) _) hz2, ?_⟩
      have E9 : Hid (Got (u2.alloc (.cells #[] 9)) (w.heap.size + 1 + 1) 9 1 (.slice (some ⟨u2.heap.size, 0, none⟩) 0 0) []) := (Got.empty u2 9 1).mono hz2
      have bb : Below u2.heap.size u2 (u2.alloc (.cells #[] 9)) := ch_alloc (Below.refl _ _) _
      have hb3 := ch_trans hb2 bb
      have HQ3 := HQ2.on bb
      have hz3 : w.heap.size + 1 + 1 ≤ (u2.alloc (.cells #[] 9)).heap.size := Nat.le_trans hz2 bb.size
      have Gx : Hid (Got (u2.alloc (.cells #[] 9)) (w.heap.size + 1 + 1) 66 7 (.slice xa xn xp) (t.cols.map Cl.cells)) := Gx.out.on bb
      clear hK K bb
      generalize Value.slice (some ⟨u2.heap.size, 0, none⟩) 0 0 = e9 at E9 ⊢
      generalize u2.alloc (.cells #[] 9) = u3 at E9 Gx hb3 HQ3 hz3 ⊢
      refine gAny_fork (fuel := 2) (Below.rel _) (by kernel_rfl) [] [9] rfl (by kernel_rfl) (by kernel_rfl) rfl ?_
      refine wpQuiet_nil ?_
      intro i hi
      obtain rfl : i = 9 := by simpa using hi
      refine plan_call rfl rfl (fun K hK => ?_)
      refine app_calm (.tmp 9) (.tmp 11) rfl Try.underlying29 infoStr rfl (by decide) (by decide) (w.heap.size + 1 + 1) _ [] rfl E9.out c' off' q (t.keys.map strX) t.keys.length (by simp) rfl (HC.out.2.on hb3) (strs_one t.keys) (by simp; omega) hz3 ?_
      intro v' u4 hg bb ht
      obtain ⟨ya, yn, yp, rfl, hg⟩ := hg.lit2
      refine hK _ _ ⟨bb, ?_⟩
      go_simp
      have Gy : Hid (Got u4 (w.heap.size + 1 + 1) 9 1 (.slice ya yn yp) ((t.keys.map strX))) := hg
      have Gx : Hid (Got u4 (w.heap.size + 1 + 1) 66 7 (.slice xa xn xp) (t.cols.map Cl.cells)) := Gx.out.turned ht fun c hc hn => Gx.out.apart E9.out (colStr) hc hn
      have hb4 : Below w.heap.size w u4 := hb3.trans (bb.mono (by omega))
      have HQ4 : Own u4 (w.heap.size + 1) 47 #[.string ⟨#[]⟩, .slice none 0 0, .slice none 0 0] := (bb.block (w.heap.size + 1) (by omega)).trans HQ3
      have hz4 : w.heap.size + 1 + 1 ≤ u4.heap.size := Nat.le_trans hz3 bb.size
      clear hK K bb ht hg
      refine gAny_stop (Below.rel _) (by kernel_rfl) [10] 11 (by simp only [pick, List.getElem?_toArray, List.getElem?_cons_succ, List.getElem?_cons_zero]; rfl) (by kernel_rfl) (by kernel_rfl) (by kernel_rfl) (by kernel_rfl) ?_
      repeat (go_big_quiet_step ((intro hu; go_simp; (try exact rfl))))
      refine wpQuiet_nil ?_
      refine plan_call rfl rfl (fun K hK => ?_)
      obtain ⟨g0, g1, g2⟩ := HQ4.loc.three
      have i0 := HQ4.frozen 0
      have i1 := HQ4.frozen 1
      have i2 := HQ4.frozen 2
      go_simp
      refine hK _ _ ?_
      have HQ9 : Own (((u4.setCell ⟨w.heap.size + 1, 0, none⟩ (.string t.name)).setCell ⟨w.heap.size + 1, 1, none⟩ (.slice xa xn xp)).setCell ⟨w.heap.size + 1, 2, none⟩ (.slice ya yn yp)) (w.heap.size + 1) 47 #[.string t.name, .slice xa xn xp, .slice ya yn yp] := ((HQ4.set 0 _).set 1 _).set 2 _
      have hT : Turns (fun c => c = w.heap.size + 1) u4 (((u4.setCell ⟨w.heap.size + 1, 0, none⟩ (.string t.name)).setCell ⟨w.heap.size + 1, 1, none⟩ (.slice xa xn xp)).setCell ⟨w.heap.size + 1, 2, none⟩ (.slice ya yn yp)) := (((Turns.refl (fun c => c = w.heap.size + 1) u4).set (p := ⟨w.heap.size + 1, 0, none⟩) rfl (.string t.name)).set (p := ⟨w.heap.size + 1, 1, none⟩) rfl (.slice xa xn xp)).set (p := ⟨w.heap.size + 1, 2, none⟩) rfl (.slice ya yn yp)
      have HG3 : Hid (Got (((u4.setCell ⟨w.heap.size + 1, 0, none⟩ (.string t.name)).setCell ⟨w.heap.size + 1, 1, none⟩ (.slice xa xn xp)).setCell ⟨w.heap.size + 1, 2, none⟩ (.slice ya yn yp)) (w.heap.size + 1 + 1) 66 7 (.slice xa xn xp) (t.cols.map Cl.cells) ∧ Got (((u4.setCell ⟨w.heap.size + 1, 0, none⟩ (.string t.name)).setCell ⟨w.heap.size + 1, 1, none⟩ (.slice xa xn xp)).setCell ⟨w.heap.size + 1, 2, none⟩ (.slice ya yn yp)) (w.heap.size + 1 + 1) 9 1 (.slice ya yn yp) (t.keys.map strX)) := ⟨Gx.out.turns hT fun c h => by omega, Gy.out.turns hT fun c h => by omega⟩
      have HB : Hid (Below w.heap.size w (((u4.setCell ⟨w.heap.size + 1, 0, none⟩ (.string t.name)).setCell ⟨w.heap.size + 1, 1, none⟩ (.slice xa xn xp)).setCell ⟨w.heap.size + 1, 2, none⟩ (.slice ya yn yp))) := hb4.trans (hT.toBelow (fun c h => by omega) hb4.size)
      clear hT Gx Gy g0 g1 g2 i0 i1 i2 hK
      generalize ((u4.setCell ⟨w.heap.size + 1, 0, none⟩ (.string t.name)).setCell ⟨w.heap.size + 1, 1, none⟩ (.slice xa xn xp)).setCell ⟨w.heap.size + 1, 2, none⟩ (.slice ya yn yp) = W at HQ9 HG3 HB ⊢
      obtain ⟨e0, e1, e2⟩ := HQ9.loc.three
      go_wp2
      exact bodyPost_ret (v := .agg #[.string t.name, .slice xa xn xp, .slice ya yn yp]) (by simp [results, Try.results45, go_sem, e0, e1, e2]) rfl ⟨_, rfl, HB.out, _, _, rfl, HG3.out.1.mono (by omega), HG3.out.2.mono (by omega)⟩
    · obtain rfl : i = 6 := by simpa using hi
      refine plan_call rfl rfl (fun K hK => ?_)
      go_simp
      refine hK _ _ ⟨Below.mono (ch_alloc (Below.refl _ _) _) hz1, ?_⟩
      have E9 : Hid (Got (u1.alloc (.cells #[] 9)) (w.heap.size + 1 + 1) 9 1 (.slice (some ⟨u1.heap.size, 0, none⟩) 0 0) []) := (Got.empty u1 9 1).mono hz1
      have bb : Below u1.heap.size u1 (u1.alloc (.cells #[] 9)) := ch_alloc (Below.refl _ _) _
      have hb2 := ch_trans hb1 bb
      have HQ2 := HQ1.on bb
      have hz2 : w.heap.size + 1 + 1 ≤ (u1.alloc (.cells #[] 9)).heap.size := Nat.le_trans hz1 bb.size
      have E5 : Hid (Got (u1.alloc (.cells #[] 9)) (w.heap.size + 1 + 1) 66 7 e5 []) := E5.out.on bb
      clear hK K bb
      generalize Value.slice (some ⟨u1.heap.size, 0, none⟩) 0 0 = e9 at E9 ⊢
      generalize u1.alloc (.cells #[] 9) = u2 at E9 E5 hb2 HQ2 hz2 ⊢
      refine gAny_fork (fuel := 3) (Below.rel _) (by kernel_rfl) [] [5] rfl (by kernel_rfl) (by kernel_rfl) rfl ?_
      refine wpQuiet_nil ?_
      intro i hi
      obtain rfl : i = 5 := by simpa using hi
      refine plan_call rfl rfl (fun K hK => ?_)
      refine app_calm (.tmp 5) (.tmp 7) rfl Try.underlying45 infoCol rfl (by decide) (by decide) (w.heap.size + 1 + 1) _ [] rfl E5.out b' off p (t.cols.map Cl.cells) t.cols.length (by simp) rfl (HC.out.1.on hb2) (cols_one t.cols) (by simp; omega) hz2 ?_
      intro v' u3 hg bb ht
      obtain ⟨xa, xn, xp, rfl, hg⟩ := hg.lit2
      refine hK _ _ ⟨bb, ?_⟩
      go_simp
      have Gx : Hid (Got u3 (w.heap.size + 1 + 1) 66 7 (.slice xa xn xp) ((t.cols.map Cl.cells))) := hg
      have E9 : Hid (Got u3 (w.heap.size + 1 + 1) 9 1 e9 []) := E9.out.turned ht fun c hc hn => E9.out.apart E5.out (Ne.symm colStr) hc hn
      have hb3 : Below w.heap.size w u3 := hb2.trans (bb.mono (by omega))
      have HQ3 : Own u3 (w.heap.size + 1) 47 #[.string ⟨#[]⟩, .slice none 0 0, .slice none 0 0] := (bb.block (w.heap.size + 1) (by omega)).trans HQ2
      have hz3 : w.heap.size + 1 + 1 ≤ u3.heap.size := Nat.le_trans hz2 bb.size
      clear hK K bb ht hg
      refine gAny_fork (fuel := 2) (Below.rel _) (by kernel_rfl) [] [9] rfl (by kernel_rfl) (by kernel_rfl) rfl ?_
      refine wpQuiet_nil ?_
      intro i hi
      obtain rfl : i = 9 := by simpa using hi
      refine plan_call rfl rfl (fun K hK => ?_)
      refine app_calm (.tmp 9) (.tmp 11) rfl Try.underlying29 infoStr rfl (by decide) (by decide) (w.heap.size + 1 + 1) _ [] rfl E9.out c' off' q (t.keys.map strX) t.keys.length (by simp) rfl (HC.out.2.on hb3) (strs_one t.keys) (by simp; omega) hz3 ?_
      intro v' u4 hg bb ht
      obtain ⟨ya, yn, yp, rfl, hg⟩ := hg.lit2
      refine hK _ _ ⟨bb, ?_⟩
      go_simp
      have Gy : Hid (Got u4 (w.heap.size + 1 + 1) 9 1 (.slice ya yn yp) ((t.keys.map strX))) := hg
      have Gx : Hid (Got u4 (w.heap.size + 1 + 1) 66 7 (.slice xa xn xp) (t.cols.map Cl.cells)) := Gx.out.turned ht fun c hc hn => Gx.out.apart E9.out (colStr) hc hn
      have hb4 : Below w.heap.size w u4 := hb3.trans (bb.mono (by omega))
      have HQ4 : Own u4 (w.heap.size + 1) 47 #[.string ⟨#[]⟩, .slice none 0 0, .slice none 0 0] := (bb.block (w.heap.size + 1) (by omega)).trans HQ3
      have hz4 : w.heap.size + 1 + 1 ≤ u4.heap.size := Nat.le_trans hz3 bb.size
      clear hK K bb ht hg
      refine gAny_stop (Below.rel _) (by kernel_rfl) [10] 11 (by simp only [pick, List.getElem?_toArray, List.getElem?_cons_succ, List.getElem?_cons_zero]; rfl) (by kernel_rfl) (by kernel_rfl) (by kernel_rfl) (by kernel_rfl) ?_
      repeat (go_big_quiet_step ((intro hu; go_simp; (try exact rfl))))
      refine wpQuiet_nil ?_
      refine plan_call rfl rfl (fun K hK => ?_)
      obtain ⟨g0, g1, g2⟩ := HQ4.loc.three
      have i0 := HQ4.frozen 0
      have i1 := HQ4.frozen 1
      have i2 := HQ4.frozen 2
      go_simp
      refine hK _ _ ?_
      have HQ9 : Own (((u4.setCell ⟨w.heap.size + 1, 0, none⟩ (.string t.name)).setCell ⟨w.heap.size + 1, 1, none⟩ (.slice xa xn xp)).setCell ⟨w.heap.size + 1, 2, none⟩ (.slice ya yn yp)) (w.heap.size + 1) 47 #[.string t.name, .slice xa xn xp, .slice ya yn yp] := ((HQ4.set 0 _).set 1 _).set 2 _
      have hT : Turns (fun c => c = w.heap.size + 1) u4 (((u4.setCell ⟨w.heap.size + 1, 0, none⟩ (.string t.name)).setCell ⟨w.heap.size + 1, 1, none⟩ (.slice xa xn xp)).setCell ⟨w.heap.size + 1, 2, none⟩ (.slice ya yn yp)) := (((Turns.refl (fun c => c = w.heap.size + 1) u4).set (p := ⟨w.heap.size + 1, 0, none⟩) rfl (.string t.name)).set (p := ⟨w.heap.size + 1, 1, none⟩) rfl (.slice xa xn xp)).set (p := ⟨w.heap.size + 1, 2, none⟩) rfl (.slice ya yn yp)
      have HG3 : Hid (Got (((u4.setCell ⟨w.heap.size + 1, 0, none⟩ (.string t.name)).setCell ⟨w.heap.size + 1, 1, none⟩ (.slice xa xn xp)).setCell ⟨w.heap.size + 1, 2, none⟩ (.slice ya yn yp)) (w.heap.size + 1 + 1) 66 7 (.slice xa xn xp) (t.cols.map Cl.cells) ∧ Got (((u4.setCell ⟨w.heap.size + 1, 0, none⟩ (.string t.name)).setCell ⟨w.heap.size + 1, 1, none⟩ (.slice xa xn xp)).setCell ⟨w.heap.size + 1, 2, none⟩ (.slice ya yn yp)) (w.heap.size + 1 + 1) 9 1 (.slice ya yn yp) (t.keys.map strX)) := ⟨Gx.out.turns hT fun c h => by omega, Gy.out.turns hT fun c h => by omega⟩
      have HB : Hid (Below w.heap.size w (((u4.setCell ⟨w.heap.size + 1, 0, none⟩ (.string t.name)).setCell ⟨w.heap.size + 1, 1, none⟩ (.slice xa xn xp)).setCell ⟨w.heap.size + 1, 2, none⟩ (.slice ya yn yp))) := hb4.trans (hT.toBelow (fun c h => by omega) hb4.size)
      clear hT Gx Gy g0 g1 g2 i0 i1 i2 hK
      generalize ((u4.setCell ⟨w.heap.size + 1, 0, none⟩ (.string t.name)).setCell ⟨w.heap.size + 1, 1, none⟩ (.slice xa xn xp)).setCell ⟨w.heap.size + 1, 2, none⟩ (.slice ya yn yp) = W at HQ9 HG3 HB ⊢
      obtain ⟨e0, e1, e2⟩ := HQ9.loc.three
      go_wp2
      exact bodyPost_ret (v := .agg #[.string t.name, .slice xa xn xp, .slice ya yn yp]) (by simp [results, Try.results45, go_sem, e0, e1, e2]) rfl ⟨_, rfl, HB.out, _, _, rfl, HG3.out.1.mono (by omega), HG3.out.2.mono (by omega)⟩
  · obtain rfl : i = 6 := by simpa using hi
    refine plan_call rfl rfl (fun K hK => ?_)
    go_simp
    refine hK _ _ ⟨Below.mono (ch_alloc (Below.refl _ _) _) hz0, ?_⟩
    have E9 : Hid (Got (wd.alloc (.cells #[] 9)) (w.heap.size + 1 + 1) 9 1 (.slice (some ⟨wd.heap.size, 0, none⟩) 0 0) []) := (Got.empty wd 9 1).mono hz0
    have bb : Below wd.heap.size wd (wd.alloc (.cells #[] 9)) := ch_alloc (Below.refl _ _) _
    have hb1 := ch_trans hb0 bb
    have HQ1 := HQ0.on bb
    have hz1 : w.heap.size + 1 + 1 ≤ (wd.alloc (.cells #[] 9)).heap.size := Nat.le_trans hz0 bb.size
    clear hK K bb
    generalize Value.slice (some ⟨wd.heap.size, 0, none⟩) 0 0 = e9 at E9 ⊢
    generalize wd.alloc (.cells #[] 9) = u1 at E9  hb1 HQ1 hz1 ⊢
    refine gAny_fork (fuel := 4) (Below.rel _) (by kernel_rfl) [] [2] rfl (by kernel_rfl) (by kernel_rfl) rfl ?_
    refine wpQuiet_nil ?_
    intro i hi
    obtain rfl : i = 2 := by simpa using hi
    refine plan_call rfl rfl (fun K hK => ?_)
    go_simp
    refine hK _ _ ⟨Below.mono (ch_alloc (Below.refl _ _) _) hz1, ?_⟩
    have E5 : Hid (Got (u1.alloc (.cells #[] 66)) (w.heap.size + 1 + 1) 66 7 (.slice (some ⟨u1.heap.size, 0, none⟩) 0 0) []) := (Got.empty u1 66 7).mono hz1
    have bb : Below u1.heap.size u1 (u1.alloc (.cells #[] 66)) := ch_alloc (Below.refl _ _) _
    have hb2 := ch_trans hb1 bb
    have HQ2 := HQ1.on bb
    have hz2 : w.heap.size + 1 + 1 ≤ (u1.alloc (.cells #[] 66)).heap.size := Nat.le_trans hz1 bb.size
    have E9 : Hid (Got (u1.alloc (.cells #[] 66)) (w.heap.size + 1 + 1) 9 1 e9 []) := E9.out.on bb
    clear hK K bb
    generalize Value.slice (some ⟨u1.heap.size, 0, none⟩) 0 0 = e5 at E5 ⊢
    generalize u1.alloc (.cells #[] 66) = u2 at E5 E9 hb2 HQ2 hz2 ⊢
    refine gAny_fork (fuel := 3) (Below.rel _) (by kernel_rfl) [] [5] rfl (by kernel_rfl) (by kernel_rfl) rfl ?_
    refine wpQuiet_nil ?_
    intro i hi
    obtain rfl : i = 5 := by simpa using hi
    refine plan_call rfl rfl (fun K hK => ?_)
    refine app_calm (.tmp 5) (.tmp 7) rfl Try.underlying45 infoCol rfl (by decide) (by decide) (w.heap.size + 1 + 1) _ [] rfl E5.out b' off p (t.cols.map Cl.cells) t.cols.length (by simp) rfl (HC.out.1.on hb2) (cols_one t.cols) (by simp; omega) hz2 ?_
    intro v' u3 hg bb ht
    obtain ⟨xa, xn, xp, rfl, hg⟩ := hg.lit2
    refine hK _ _ ⟨bb, ?_⟩
    go_simp
    have Gx : Hid (Got u3 (w.heap.size + 1 + 1) 66 7 (.slice xa xn xp) ((t.cols.map Cl.cells))) := hg
    have E9 : Hid (Got u3 (w.heap.size + 1 + 1) 9 1 e9 []) := E9.out.turned ht fun c hc hn => E9.out.apart E5.out (Ne.symm colStr) hc hn
    have hb3 : Below w.heap.size w u3 := hb2.trans (bb.mono (by omega))
    have HQ3 : Own u3 (w.heap.size + 1) 47 #[.string ⟨#[]⟩, .slice none 0 0, .slice none 0 0] := (bb.block (w.heap.size + 1) (by omega)).trans HQ2
    have hz3 : w.heap.size + 1 + 1 ≤ u3.heap.size := Nat.le_trans hz2 bb.size
    clear hK K bb ht hg
    refine gAny_fork (fuel := 2) (Below.rel _) (by kernel_rfl) [] [9] rfl (by kernel_rfl) (by kernel_rfl) rfl ?_
    refine wpQuiet_nil ?_
    intro i hi
    obtain rfl : i = 9 := by simpa using hi
    refine plan_call rfl rfl (fun K hK => ?_)
    refine app_calm (.tmp 9) (.tmp 11) rfl Try.underlying29 infoStr rfl (by decide) (by decide) (w.heap.size + 1 + 1) _ [] rfl E9.out c' off' q (t.keys.map strX) t.keys.length (by simp) rfl (HC.out.2.on hb3) (strs_one t.keys) (by simp; omega) hz3 ?_
    intro v' u4 hg bb ht
    obtain ⟨ya, yn, yp, rfl, hg⟩ := hg.lit2
    refine hK _ _ ⟨bb, ?_⟩
    go_simp
    have Gy : Hid (Got u4 (w.heap.size + 1 + 1) 9 1 (.slice ya yn yp) ((t.keys.map strX))) := hg
    have Gx : Hid (Got u4 (w.heap.size + 1 + 1) 66 7 (.slice xa xn xp) (t.cols.map Cl.cells)) := Gx.out.turned ht fun c hc hn => Gx.out.apart E9.out (colStr) hc hn
    have hb4 : Below w.heap.size w u4 := hb3.trans (bb.mono (by omega))
    have HQ4 : Own u4 (w.heap.size + 1) 47 #[.string ⟨#[]⟩, .slice none 0 0, .slice none 0 0] := (bb.block (w.heap.size + 1) (by omega)).trans HQ3
    have hz4 : w.heap.size + 1 + 1 ≤ u4.heap.size := Nat.le_trans hz3 bb.size
    clear hK K bb ht hg
    refine gAny_stop (Below.rel _) (by kernel_rfl) [10] 11 (by simp only [pick, List.getElem?_toArray, List.getElem?_cons_succ, List.getElem?_cons_zero]; rfl) (by kernel_rfl) (by kernel_rfl) (by kernel_rfl) (by kernel_rfl) ?_
    repeat (go_big_quiet_step ((intro hu; go_simp; (try exact rfl))))
    refine wpQuiet_nil ?_
    refine plan_call rfl rfl (fun K hK => ?_)
    obtain ⟨g0, g1, g2⟩ := HQ4.loc.three
    have i0 := HQ4.frozen 0
    have i1 := HQ4.frozen 1
    have i2 := HQ4.frozen 2
    go_simp
    refine hK _ _ ?_
    have HQ9 : Own (((u4.setCell ⟨w.heap.size + 1, 0, none⟩ (.string t.name)).setCell ⟨w.heap.size + 1, 1, none⟩ (.slice xa xn xp)).setCell ⟨w.heap.size + 1, 2, none⟩ (.slice ya yn yp)) (w.heap.size + 1) 47 #[.string t.name, .slice xa xn xp, .slice ya yn yp] := ((HQ4.set 0 _).set 1 _).set 2 _
    have hT : Turns (fun c => c = w.heap.size + 1) u4 (((u4.setCell ⟨w.heap.size + 1, 0, none⟩ (.string t.name)).setCell ⟨w.heap.size + 1, 1, none⟩ (.slice xa xn xp)).setCell ⟨w.heap.size + 1, 2, none⟩ (.slice ya yn yp)) := (((Turns.refl (fun c => c = w.heap.size + 1) u4).set (p := ⟨w.heap.size + 1, 0, none⟩) rfl (.string t.name)).set (p := ⟨w.heap.size + 1, 1, none⟩) rfl (.slice xa xn xp)).set (p := ⟨w.heap.size + 1, 2, none⟩) rfl (.slice ya yn yp)
    have HG3 : Hid (Got (((u4.setCell ⟨w.heap.size + 1, 0, none⟩ (.string t.name)).setCell ⟨w.heap.size + 1, 1, none⟩ (.slice xa xn xp)).setCell ⟨w.heap.size + 1, 2, none⟩ (.slice ya yn yp)) (w.heap.size + 1 + 1) 66 7 (.slice xa xn xp) (t.cols.map Cl.cells) ∧ Got (((u4.setCell ⟨w.heap.size + 1, 0, none⟩ (.string t.name)).setCell ⟨w.heap.size + 1, 1, none⟩ (.slice xa xn xp)).setCell ⟨w.heap.size + 1, 2, none⟩ (.slice ya yn yp)) (w.heap.size + 1 + 1) 9 1 (.slice ya yn yp) (t.keys.map strX)) := ⟨Gx.out.turns hT fun c h => by omega, Gy.out.turns hT fun c h => by omega⟩
    have HB : Hid (Below w.heap.size w (((u4.setCell ⟨w.heap.size + 1, 0, none⟩ (.string t.name)).setCell ⟨w.heap.size + 1, 1, none⟩ (.slice xa xn xp)).setCell ⟨w.heap.size + 1, 2, none⟩ (.slice ya yn yp))) := hb4.trans (hT.toBelow (fun c h => by omega) hb4.size)
    clear hT Gx Gy g0 g1 g2 i0 i1 i2 hK
    generalize ((u4.setCell ⟨w.heap.size + 1, 0, none⟩ (.string t.name)).setCell ⟨w.heap.size + 1, 1, none⟩ (.slice xa xn xp)).setCell ⟨w.heap.size + 1, 2, none⟩ (.slice ya yn yp) = W at HQ9 HG3 HB ⊢
    obtain ⟨e0, e1, e2⟩ := HQ9.loc.three
    go_wp2
    exact bodyPost_ret (v := .agg #[.string t.name, .slice xa xn xp, .slice ya yn yp]) (by simp [results, Try.results45, go_sem, e0, e1, e2]) rfl ⟨_, rfl, HB.out, _, _, rfl, HG3.out.1.mono (by omega), HG3.out.2.mono (by omega)⟩
end Go.Proofs.Ytiijahoheajppab
