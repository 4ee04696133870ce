/- spec.Diff -/
import Derived.Test.YtihilcffmdjhhalGreatPa
import Derived.Test.YtihilcffmdjhhalGreatDn
import Derived.Test.YtihilcffmdjhhalGreatDl
import Derived.Test.YtihilcffmdjhhalGreatOrd
namespace Go.Proofs.YtihilcffmdjhhalGreat
open Go.ChangeShapes Go.WideShapes Go.ChangeAt Go.RowKit

/-- The names that differ among the first k tables. -/
structure Dif (us : List Tc) (S : ByteArray → Prop) (k : Nat) (ol : List ByteArray) : Prop where
  rise : rising ol
  mem : ∀ x, x ∈ ol ↔ (∃ j, ∃ h : j < us.length, j < k ∧ us[j].name = x) ∧ ¬ S x
  len : ol.length ≤ k
theorem Dif.start (us : List Tc) (S : ByteArray → Prop) : Dif us S 0 [] := ⟨rising_nil, fun x => ⟨fun h => by simp at h, fun ⟨⟨j, _, h, _⟩, _⟩ => by omega⟩, by simp⟩
theorem Dif.skip {us : List Tc} {S : ByteArray → Prop} {k : Nat} {ol : List ByteArray} (h : Dif us S k ol) (hk : k < us.length) (hs : S us[k].name) : Dif us S (k + 1) ol := by
  refine ⟨h.rise, fun x => (h.mem x).trans ⟨fun ⟨⟨j, h1, h2, h3⟩, h4⟩ => ⟨⟨j, h1, by omega, h3⟩, h4⟩, fun ⟨⟨j, h1, h2, h3⟩, h4⟩ => ⟨⟨j, h1, ?_, h3⟩, h4⟩⟩, by have := h.len; omega⟩
  by_cases e : j = k
  · subst e; rw [h3] at hs; exact absurd hs h4
  · omega
theorem Dif.add {us : List Tc} {S : ByteArray → Prop} {k : Nat} {ol ol' : List ByteArray} (h : Dif us S k ol) (hk : k < us.length) (hs : ¬ S us[k].name) (h1 : rising ol') (h2 : ∀ x, x ∈ ol' ↔ x ∈ ol ∨ x = us[k].name) (h3 : ol'.length ≤ ol.length + 1) : Dif us S (k + 1) ol' := by
  refine ⟨h1, fun x => ?_, by have := h.len; omega⟩
  rw [h2, h.mem]
  constructor
  · rintro (⟨⟨j, g1, g2, g3⟩, g4⟩ | rfl)
    · exact ⟨⟨j, g1, by omega, g3⟩, g4⟩
    · exact ⟨⟨k, hk, by omega, rfl⟩, hs⟩
  · rintro ⟨⟨j, g1, g2, g3⟩, g4⟩
    by_cases e : j = k
    · subst e; exact Or.inr g3.symm
    · exact Or.inl ⟨⟨j, g1, by omega, g3⟩, g4⟩
/-- The names of the tables that differ: none where a store is not right. -/
def isDiff (ts : List Tc) (ds : List (List (List Vc))) (ts' : List Tc) (ds' : List (List (List Vc))) (ns : List ByteArray) : Prop :=
  (¬ (dbRight ts ds ∧ dbRight ts' ds') ∧ ns = []) ∨ (dbRight ts ds ∧ dbRight ts' ds' ∧ rising ns ∧ ∀ x, x ∈ ns ↔ (∃ t ∈ ts ++ ts', t.name = x) ∧ ¬ isSame ts ds ts' ds' x)
theorem isDiff.unique {ts ts' : List Tc} {ds ds' : List (List (List Vc))} {ns ms : List ByteArray} (h : isDiff ts ds ts' ds' ns) (k : isDiff ts ds ts' ds' ms) : ns = ms := by
  rcases h with ⟨h1, h2⟩ | ⟨h1, h2, h3, h4⟩ <;> rcases k with ⟨k1, k2⟩ | ⟨k1, k2, k3, k4⟩
  · rw [h2, k2]
  · exact absurd ⟨k1, k2⟩ h1
  · exact absurd ⟨h1, h2⟩ k1
  · exact rising_unique h3 k3 fun x => (h4 x).trans (k4 x).symm
theorem Dif.done {ts ts' : List Tc} {ds ds' : List (List (List Vc))} {k : Nat} {ol : List ByteArray} (h : Dif (ts ++ ts') (isSame ts ds ts' ds') k ol) (hk : (ts ++ ts').length ≤ k) (h1 : dbRight ts ds) (h2 : dbRight ts' ds') : isDiff ts ds ts' ds' ol := by
  refine Or.inr ⟨h1, h2, h.rise, fun x => (h.mem x).trans ⟨fun ⟨⟨j, g1, _, g3⟩, g4⟩ => ⟨⟨_, List.getElem_mem g1, g3⟩, g4⟩, fun ⟨⟨u, g1, g3⟩, g4⟩ => ?_⟩⟩
  obtain ⟨j, hj, rfl⟩ := List.getElem_of_mem g1
  exact ⟨⟨j, hj, by omega, g3⟩, g4⟩
section
variable {P : Program} {w : World} {t T : TypeId} {zv : Value} {z bytes : Nat} {o : Oper} {a : Act} {K : Act → World → Prop}
/-- append of any list, as an operation of a drawn region. -/
theorem app_calmE (s y : Operand) (ho : o.op = .call { callee := .builtin .append, args := #[s, y], argTypes := #[t, t] })
    (ht : P.underlying t = some (.slice T)) (hinfo : (P.info? T).map (fun i => (i.zero, i.size, i.bytes)) = some (some zv, z, bytes)) (hzs : zv.cells.size = z) (hsz : 0 < z) (hby : bytes ≤ 1000)
    (B : Nat) (v : Value) (xs : List (Array Value)) (hs : a.eval s = v) (hown : Got w B T z v xs) (b : Option Addr) (c : Nat) (ys : List (Array Value)) (n : Nat) (hn : n = ys.length) (hy : a.eval y = .slice b n c) (hrow : RowAt w b z ys) (h1 : ∀ x ∈ ys, ∀ u ∈ x.toList, u.oneCell' = true) (hlen : xs.length + ys.length < 900000000) (hB : B ≤ w.heap.size)
    (h : ∀ v' w', Got w' B T z v' (xs ++ ys) → Below B w w' → K (a.put o.dst v') w') : calm P o a w K := by
  subst hn
  obtain ⟨v', w', hr, h2, h3, h4⟩ := app_each ht hinfo hzs hsz hby hown hrow h1 hlen hB (c := c) o.type
  unfold calm execOp
  simp only [ho, resolve, invoke, builtin, Sem.run_bind, Sem.run_pure, Result.andThen_ok, List.map_toArray, List.map_cons, List.map_nil, hs, hy, hr, calmUpon]
  exact h v' w' h2 h3
end

set_option maxRecDepth 100000 in
set_option maxHeartbeats 4000000 in
/-- spec.Diff -/
theorem diff_spec (cv dv cv' dv' : Value) (ts ts' : List Tc) (ds ds' : List (List (List Vc))) (w : World) (hc : TabsV w cv ts) (hd : DataV w dv ds) (hc' : TabsV w cv' ts') (hd' : DataV w dv' ds') (hf : fits ts) (hf' : fits ts') :
    Calls Tryz.prog 6 #[.agg #[cv, dv], .agg #[cv', dv']] w fun e w' => ∃ kv ns, e = .returned kv ∧ isDiff ts ds ts' ds' ns ∧ ns.length ≤ 12 ∧ Below w.heap.size w w' ∧ Got w' w.heap.size 9 1 kv (ns.map strX) := by
  obtain ⟨a, p, rfl, hl, hm⟩ := hc.lit
  obtain ⟨b, q, rfl, hl2, hm2, _⟩ := hd.lit
  obtain ⟨a', p', rfl, hl', hm'⟩ := hc'.lit
  obtain ⟨b', q', rfl, hl2', hm2', _⟩ := hd'.lit
  unfold maxLen at hm hm2 hm' hm2'
  have HC : Hid (TabsV w (.slice a ts.length p) ts) := hc
  have HD : Hid (DataV w (.slice b ds.length q) ds) := hd
  have HC' : Hid (TabsV w (.slice a' ts'.length p') ts') := hc'
  have HD' : Hid (DataV w (.slice b' ds'.length q') ds') := hd'
  have HF : Hid (fits ts ∧ fits ts') := ⟨hf, hf'⟩
  obtain ⟨qa, hqa⟩ := bool_of (dbRight ts ds)
  obtain ⟨qb, hqb⟩ := bool_of (dbRight ts' ds')
  have HA : Hid (∀ u : World, Below w.heap.size w u → Calls Tryz.prog 21 #[.agg #[.slice a ts.length p, .slice b ds.length q]] u fun e w' => e = .returned (.bool qa) ∧ Below u.heap.size u w') := fun u hu => (dbOk_spec _ _ ts ds u (hc.on hu) (hd.on hu) hf).mono fun e w' ⟨q, g1, g2, g3⟩ => ⟨by rw [g1, Bool.eq_iff_iff.2 (g2.trans hqa.symm)], g3⟩
  have HB : Hid (∀ u : World, Below w.heap.size w u → Calls Tryz.prog 21 #[.agg #[.slice a' ts'.length p', .slice b' ds'.length q']] u fun e w' => e = .returned (.bool qb) ∧ Below u.heap.size u w') := fun u hu => (dbOk_spec _ _ ts' ds' u (hc'.on hu) (hd'.on hu) hf').mono fun e w' ⟨q, g1, g2, g3⟩ => ⟨by rw [g1, Bool.eq_iff_iff.2 (g2.trans hqb.symm)], g3⟩
  have HQ : Hid ((qa = true ↔ dbRight ts ds) ∧ (qb = true ↔ dbRight ts' ds')) := ⟨hqa, hqb⟩
  have HL := Loc.new w #[.slice a ts.length p, .slice b ds.length q] 36
  have HL2 := Loc.new (w.alloc (.cells #[.slice a ts.length p, .slice b ds.length q] 36)) #[.slice a' ts'.length p', .slice b' ds'.length q'] 36
  rw [show (w.alloc (.cells #[.slice a ts.length p, .slice b ds.length q] 36)).heap.size = w.heap.size + 1 from by simp] at HL2
  have HLb := (HL.on (ch_alloc (Below.refl _ _) (.cells #[.slice a' ts'.length p', .slice b' ds'.length q'] 36))).on (ch_alloc (Below.refl _ _) (.cells #[] 9))
  have HLc := HL2.on (ch_alloc (Below.refl _ _) (.cells #[] 9))
  have HG0 : Hid (Got (((w.alloc (.cells #[.slice a ts.length p, .slice b ds.length q] 36)).alloc (.cells #[.slice a' ts'.length p', .slice b' ds'.length q'] 36)).alloc (.cells #[] 9)) (w.heap.size + 1 + 1) 9 1 (.slice (some ⟨w.heap.size + 1 + 1, 0, none⟩) 0 0) (([] : List ByteArray).map strX)) := Got.emptyAt _ _ _ (by simp)
  have hbv : Below w.heap.size w (((w.alloc (.cells #[.slice a ts.length p, .slice b ds.length q] 36)).alloc (.cells #[.slice a' ts'.length p', .slice b' ds'.length q'] 36)).alloc (.cells #[] 9)) := (by repeat (first | with_reducible exact Below.refl _ _ | with_reducible assumption | with_reducible refine ch_alloc ?_ _ | with_reducible refine Below.drew ?_ | with_reducible refine below_draws _ ?_ | (with_reducible refine Below.setCell ?_ ?_ _; rotate_left; focus (first | with_reducible exact Nat.le_refl _ | (simp; done) | (simp; omega) | (simp at *; omega))) | with_reducible refine ch_trans ?_ (by with_reducible assumption)))
  have hzv : w.heap.size + 1 < (((w.alloc (.cells #[.slice a ts.length p, .slice b ds.length q] 36)).alloc (.cells #[.slice a' ts'.length p', .slice b' ds'.length q'] 36)).alloc (.cells #[] 9)).heap.size := by simp
  clear hc hd hc' hd' hf hf' hqa hqb HL HL2
  obtain ⟨l0, l1⟩ := HLb.two
  obtain ⟨m0, m1⟩ := HLc.two
  go_enter Tryz.func6, Tryz.ntmps6
  go_wp2_with fail
  generalize (((w.alloc (.cells #[.slice a ts.length p, .slice b ds.length q] 36)).alloc (.cells #[.slice a' ts'.length p', .slice b' ds'.length q'] 36)).alloc (.cells #[] 9)) = wv at HLb HLc HG0 hbv l0 l1 m0 m1 hzv ⊢
  refine (HA.out _ hbv).mono ?_
  rintro e w1 ⟨rfl, b1⟩
  have hb1 := ch_trans hbv b1
  have HLd := HLb.on b1
  have HLe := HLc.on b1
  have HG1 : Hid (Got w1 (w.heap.size + 1 + 1) 9 1 (.slice (some ⟨w.heap.size + 1 + 1, 0, none⟩) 0 0) (([] : List ByteArray).map strX)) := HG0.out.on b1
  have hz1 := Nat.lt_of_lt_of_le hzv b1.size
  clear b1 hbv hzv HLb HLc l0 l1 m0 m1 HG0
  obtain ⟨l0, l1⟩ := HLd.two
  obtain ⟨m0, m1⟩ := HLe.two
  cases qa
  · have HN : Hid (isDiff ts ds ts' ds' []) := Or.inl ⟨fun h => (by have := HQ.out.1.2 h.1; cases this), rfl⟩
    go_wp2
    go_ret
    exact ⟨_, [], rfl, HN.out, by simp, hb1, HG1.out.mono (by omega)⟩
  go_wp2_with fail
  refine (HB.out _ hb1).mono ?_
  rintro e w4 ⟨rfl, b4⟩
  have hb4 := ch_trans hb1 b4
  have HLf := HLd.on b4
  have HLg := HLe.on b4
  have HG4 : Hid (Got w4 (w.heap.size + 1 + 1) 9 1 (.slice (some ⟨w.heap.size + 1 + 1, 0, none⟩) 0 0) (([] : List ByteArray).map strX)) := HG1.out.on b4
  have hz4 := Nat.lt_of_lt_of_le hz1 b4.size
  clear b4 hb1 hz1 HLd HLe l0 l1 m0 m1 HG1
  obtain ⟨l0, l1⟩ := HLf.two
  obtain ⟨m0, m1⟩ := HLg.two
  cases qb
  · have HN : Hid (isDiff ts ds ts' ds' []) := Or.inl ⟨fun h => (by have := HQ.out.2.2 h.2; cases this), rfl⟩
    go_wp2
    go_ret
    exact ⟨_, [], rfl, HN.out, by simp, hb4, HG4.out.mono (by omega)⟩
  have HR : Hid (dbRight ts ds ∧ dbRight ts' ds') := ⟨HQ.out.1.1 (by trivial), HQ.out.2.1 (by trivial)⟩
  have hn1 : ts.length ≤ 6 := HR.out.1.1.1
  have hn2 : ts'.length ≤ 6 := HR.out.2.1.1
  have HG5 : Hid (Got w4 w.heap.size 9 1 (.slice (some ⟨w.heap.size + 1 + 1, 0, none⟩) 0 0) (([] : List ByteArray).map strX)) := HG4.out.mono (by omega)
  clear HA HB HQ HG4
  generalize Value.slice (some ⟨w.heap.size + 1 + 1, 0, none⟩) 0 0 = e5 at HG5 ⊢
  go_wp2_with fail
  refine region_fork (Below w4.heap.size) 11 (by kernel_rfl) rfl ?_
  have hgd := Grows.drawn w4
  have hzd : w4.heap.size ≤ ({ w4 with drawn := w4.drawn + 1 } : World).heap.size := Nat.le_refl _
  generalize { w4 with drawn := w4.drawn + 1 } = wd at hgd hzd ⊢
  obtain ⟨xs, hxl, hxr, hx1, hxt⟩ := (HC.out.on hb4).row
  obtain ⟨ys, hyl, hyr, hy1, hyt⟩ := (HC'.out.on hb4).row
  have HX : Hid (RowAt w4 a 3 xs ∧ RowAt w4 a' 3 ys) := ⟨hxr, hyr⟩
  have HX1 : Hid ((∀ x ∈ xs, ∀ u ∈ x.toList, u.oneCell' = true) ∧ (∀ x ∈ ys, ∀ u ∈ x.toList, u.oneCell' = true)) := ⟨hx1, hy1⟩
  have HXT : Hid ((∀ i (h : i < xs.length) (g : i < ts.length), TabV w4 xs[i] ts[i]) ∧ ∀ i (h : i < ys.length) (g : i < ts'.length), TabV w4 ys[i] ts'[i]) := ⟨hxt, hyt⟩
  clear hxr hyr hx1 hy1 hxt hyt
  have c0 := cell_on l0 hgd
  have d0 := cell_on m0 hgd
  have hw1 : w.heap.size < w4.heap.size := by omega
  have hw2 : w.heap.size + 1 < w4.heap.size := hz4
  have hgd : Below w4.heap.size w4 wd := hgd
  clear l0 l1 m0 m1
  refine gAny_fork (fuel := 3) (Below.rel _) (by kernel_rfl) [1, 2, 3, 5, 6, 7, 10] [0] (by simp only [pick, List.getElem?_toArray, List.getElem?_cons_succ, List.getElem?_cons_zero]; rfl) (by kernel_rfl) (by kernel_rfl) rfl ?_
  repeat (go_big_quiet_step ((intro hu; have j0 := (hu.cell (p := ⟨w.heap.size, 0, none⟩) hw1).trans c0; have j1 := (hu.cell (p := ⟨w.heap.size + 1, 0, none⟩) hw2).trans d0; go_simp; (try exact rfl))))
  refine wpQuiet_nil ?_
  intro i hi
  obtain rfl : i = 0 := by simpa using hi
  refine plan_call rfl rfl (fun K hK => ?_)
  go_simp
  refine hK _ _ ⟨Below.mono (ch_alloc (Below.refl _ _) _) hzd, ?_⟩
  have E18 : Hid (Got (wd.alloc (.cells #[] 68)) w4.heap.size 68 3 (.slice (some ⟨wd.heap.size, 0, none⟩) 0 0) []) := (Got.empty wd 68 3).mono hzd
  have k1 : Below w4.heap.size w4 (wd.alloc (.cells #[] 68)) := hgd.trans (Below.mono (ch_alloc (Below.refl _ _) _) hzd)
  clear hK K hgd hzd c0 d0
  generalize Value.slice (some ⟨wd.heap.size, 0, none⟩) 0 0 = e18 at E18 ⊢
  generalize wd.alloc (.cells #[] 68) = u1 at E18 k1 ⊢
  refine gAny_fork (fuel := 2) (Below.rel _) (by kernel_rfl) [] [4] rfl (by kernel_rfl) (by kernel_rfl) rfl ?_
  refine wpQuiet_nil ?_
  intro i hi
  obtain rfl : i = 4 := by simpa using hi
  refine plan_call rfl rfl (fun K hK => ?_)
  refine app_calmE (.tmp 18) (.tmp 21) rfl Tryz.underlying31 infoTab rfl (by decide) (by decide) w4.heap.size _ [] rfl E18.out a p xs ts.length hxl.symm rfl (HX.out.1.on k1) HX1.out.1 (by simp; omega) k1.size ?_
  intro v' u2 hg bb
  obtain ⟨xa, xn, xp, rfl, hg⟩ := hg.lit2
  refine hK _ _ ⟨bb, ?_⟩
  go_simp
  have G22 : Hid (Got u2 w4.heap.size 68 3 (.slice xa xn xp) xs) := hg
  have k2 := k1.trans bb
  clear hK K bb hg E18 k1
  refine gAny_fork (fuel := 1) (Below.rel _) (by kernel_rfl) [] [8] rfl (by kernel_rfl) (by kernel_rfl) rfl ?_
  refine wpQuiet_nil ?_
  intro i hi
  obtain rfl : i = 8 := by simpa using hi
  refine plan_call rfl rfl (fun K hK => ?_)
  refine app_calmE (.tmp 22) (.tmp 25) rfl Tryz.underlying31 infoTab rfl (by decide) (by decide) w4.heap.size _ xs rfl G22.out a' p' ys ts'.length hyl.symm rfl (HX.out.2.on k2) HX1.out.2 (by omega) k2.size ?_
  intro v' u3 hg bb
  have k3 := k2.trans bb
  have htv : TabsV u3 v' (ts ++ ts') := TabsV.both hg hxl hyl (fun i h g => (HXT.out.1 i h g).on k3) (fun i h g => (HXT.out.2 i h g).on k3)
  obtain ⟨va, vp, rfl, hvl, hvm⟩ := htv.lit
  generalize hun : (ts ++ ts').length = un at hvl htv ⊢
  have HTV : Hid (TabsV u3 (.slice va un vp) (ts ++ ts')) := htv
  refine hK _ _ ⟨bb, ?_⟩
  go_simp
  clear hK K bb hg G22 k2 htv
  unfold maxLen at hvm
  refine gAny_fork (fuel := 0) (Below.rel _) (by kernel_rfl) [] [9] rfl (by kernel_rfl) (by kernel_rfl) rfl ?_
  refine wpQuiet_nil ?_
  intro i hi
  obtain rfl : i = 9 := by simpa using hi
  refine plan_call rfl rfl (fun K hK => ?_)
  go_simp
  refine hK _ _ ⟨Below.refl _ _, ?_⟩
  clear hK K
  refine gAny_more (by kernel_rfl) ?_ 0
  have hb5 := hb4.trans (k3.mono (by omega))
  have HL5 := HLf.on k3
  have HM5 := HLg.on k3
  have HG6 : Hid (Got u3 w.heap.size 9 1 e5 (([] : List ByteArray).map strX)) := HG5.out.on k3
  have hz5 : w.heap.size + 1 < u3.heap.size := Nat.lt_of_lt_of_le hz4 k3.size
  clear HX HX1 HXT HLf HLg HG5 hb4 k3 hz4 hw1 hw2 hxl hyl
  have HRD : Hid (∀ k ol, Dif (ts ++ ts') (isSame ts ds ts' ds') k ol → (ts ++ ts').length ≤ k → isDiff ts ds ts' ds' ol) := fun k ol h hk => h.done hk HR.out.1 HR.out.2
  have hul : (ts ++ ts').length ≤ 12 := by simp; omega
  generalize ts ++ ts' = us at HTV hun hul HRD ⊢
  have huni : un ≤ 12 := by omega
  go_wp2
  go_loopw [5, 28] (fun o i wr => ∃ (k : Nat) (ol : List ByteArray), k ≤ us.length ∧ i = .int .i64 k ∧ Below u3.heap.size u3 wr ∧ Hid (Dif us (isSame ts ds ts' ds') k ol) ∧ Hid (Got wr w.heap.size 9 1 o (ol.map strX))) (fun _ i _ => us.length - (intOf i).toNat)
  case atStart => exact ⟨0, [], Nat.zero_le _, rfl, Below.refl _ _, Dif.start _ _, HG6⟩
  case round =>
    clear HG6
    obtain ⟨k, ol, hk, rfl, hb, HN, HG⟩ := hrel
    obtain ⟨oa, on, oc, rfl, hg⟩ := HG.out.lit2
    have HG' : Hid (Got wr w.heap.size 9 1 (.slice oa on oc) (ol.map strX)) := hg
    have hbw : Below w.heap.size w wr := ch_trans hb5 hb
    clear HG hg
    by_cases hlt : k < us.length
    · have hlti : (k : Int) < un := by omega
      obtain ⟨bt, offt, c1, p1, c2, p2, rfl, t0, t1, t2, hxt⟩ := (HTV.out.on hb).tab k hlt
      obtain ⟨l0, l1⟩ := (HL5.on hb).two
      obtain ⟨m0, m1⟩ := (HM5.on hb).two
      have hs1 : w.heap.size + 1 < wr.heap.size := Nat.lt_of_lt_of_le hz5 hb.size
      have hs0 : w.heap.size < wr.heap.size := by omega
      have hbA : Below w.heap.size w (wr.alloc (.cells #[.string us[k].name, .slice c1 us[k].cols.length p1, .slice c2 us[k].keys.length p2] 68)) := (by repeat (first | with_reducible exact Below.refl _ _ | with_reducible assumption | with_reducible refine ch_alloc ?_ _ | with_reducible refine Below.drew ?_ | with_reducible refine below_draws _ ?_ | (with_reducible refine Below.setCell ?_ ?_ _; rotate_left; focus (first | with_reducible exact Nat.le_refl _ | (simp; done) | (simp; omega) | (simp at *; omega))) | with_reducible refine ch_trans ?_ (by with_reducible assumption)))
      clear hxt
      go_wp2_with fail
      refine (l04Same_any _ _ _ _ ts ts' ds ds' us[k].name _ (HC.out.on hbA) (HD.out.on hbA) (HC'.out.on hbA) (HD'.out.on hbA) HF.out.1 HF.out.2 HR.out.1 HR.out.2).mono ?_
      rintro e w6 ⟨qs, rfl, hqs, b6⟩
      have b6' : Below wr.heap.size wr w6 := ch_trans (ch_alloc (Below.refl _ _) _) b6
      have HT := (Loc.new wr #[.string us[k].name, .slice c1 us[k].cols.length p1, .slice c2 us[k].keys.length p2] 68).on b6
      have hb7 := ch_trans hb b6'
      have HG7 : Hid (Got w6 w.heap.size 9 1 (.slice oa on oc) (ol.map strX)) := HG'.out.on b6'
      have hsz7 : w.heap.size ≤ w6.heap.size := by have := b6'.size; omega
      clear b6 hbA l0 l1 m0 m1 t0 t1 t2 hs1 hs0
      cases qs
      · have HNS : Hid (¬ isSame ts ds ts' ds' us[k].name) := fun h => by have := hqs.2 h; cases this
        obtain ⟨x0, x1, x2⟩ := HT.three
        have HND : Hid (rising ol) := HN.out.rise
        have hol : ol.length ≤ 1000 := by have := HN.out.len; omega
        clear hqs
        go_wp2_with fail
        refine (l04Name_any _ ol us[k].name w.heap.size _ HG7.out hsz7 HND.out hol).mono ?_
        rintro e w8 ⟨kv, ol', rfl, b8, hg8, hr8, hm8, hn8⟩
        have HG8 : Hid (Got w8 w.heap.size 9 1 kv (ol'.map strX)) := hg8
        have HN8 : Hid (Dif us (isSame ts ds ts' ds') (k + 1) ol') := HN.out.add hlt HNS.out hr8 hm8 hn8
        have hb8 := ch_trans hb7 b8
        clear b8 hg8 hr8 hm8 hn8
        go_wp2
        go_round
        case rel => exact ⟨k + 1, ol', hlt, by go_num, hb8, HN8, HG8⟩
        case measure => simp [intOf]; omega
      · have HN8 : Hid (Dif us (isSame ts ds ts' ds') (k + 1) ol) := HN.out.skip hlt (hqs.1 rfl)
        clear hqs
        go_wp2
        go_round
        case rel => exact ⟨k + 1, ol, hlt, by go_num, hb7, HN8, HG7⟩
        case measure => simp [intOf]; omega
    · have hlti : (un : Int) ≤ k := by omega
      have HI : Hid (isDiff ts ds ts' ds' ol) := HRD.out k ol HN.out (by omega)
      have hol : ol.length ≤ 12 := by have := HN.out.len; omega
      go_wp2
      go_ret
      exact ⟨_, ol, rfl, HI.out, hol, hbw, HG'.out⟩
end Go.Proofs.YtihilcffmdjhhalGreat
