/- The text of a column: the given one. -/
import Derived.Test.YtmkgbdgafjeeiamDoorCi
import Derived.Test.YtmkgbdgafjeeiamDoorValTextS
namespace Go.Proofs.YtmkgbdgafjeeiamDoor
open Go.ChangeShapes Go.WideShapes Go.ChangeAt Go.RowKit

abbrev tyBs : List ByteArray := [⟨#[]⟩, ⟨#[98, 111, 111, 108]⟩, ⟨#[105, 110, 116]⟩, ⟨#[116, 101, 120, 116]⟩]
set_option maxRecDepth 100000 in
set_option maxHeartbeats 1000000 in
/-- spec.l05Types -/
theorem types_spec (w : World) : Calls Tryd.prog 15 #[] w fun e w' => ∃ kv, e = .returned kv ∧ Below w.heap.size w w' ∧ Got w' w.heap.size 9 1 kv (tyBs.map strX) := by
  have HG : Hid (Got (w.alloc (.cells #[.string ⟨#[]⟩, .string ⟨#[98, 111, 111, 108]⟩, .string ⟨#[105, 110, 116]⟩, .string ⟨#[116, 101, 120, 116]⟩] 9)) w.heap.size 9 1 (.slice (some ⟨w.heap.size, 0, none⟩) 4 4) (tyBs.map strX)) := Got.strs_new w tyBs (by decide)
  go_enter Tryd.func15, Tryd.ntmps15
  go_wp2
  go_ret
  exact ⟨_, rfl, ch_alloc (Below.refl _ _) _, HG.out⟩

/-- The words of a column, as texts. -/
def Cl.wordsB (c : Cl) : List ByteArray := c.name :: tyT c.ty :: ((if c.nt = true then [⟨#[110, 111, 116]⟩] else []) ++ (if c.has = true then [⟨#[61]⟩ ++ valText c.dt c.dn c.ds] else []))
theorem words_data (c : Cl) : c.wordsB.map (fun s => s.data.toList) = c.words := by
  unfold Cl.wordsB Cl.words
  cases c.nt <;> cases c.has <;> simp

set_option maxRecDepth 100000 in
set_option maxHeartbeats 1000000 in
/-- spec.l05Col -/
theorem col_words (c : Cl) (w : World) (hok : c.ok = true) :
    Calls Tryd.prog 20 #[c.v] w fun e w' => ∃ kv, e = .returned kv ∧ Below w.heap.size w w' ∧ Got w' w.heap.size 9 1 kv (c.wordsB.map strX) := by
  have HL := Loc.new w c.cells 25
  have hbv : Below w.heap.size w (w.alloc (.cells c.cells 25)) := ch_alloc (Below.refl _ _) _
  have hty := (ok_parts hok).2.1
  have hvt : (valText c.dt c.dn c.ds).size ≤ 1048576 := vt_size _ _ _
  have HV : Hid (∀ u : World, Calls Tryd.prog 31 #[V c.dt c.dn c.ds] u fun e w' => e = .returned (.string (valText c.dt c.dn c.ds)) ∧ Below u.heap.size u w') := fun u => valText_spec _ _ _ u
  have HTY : Hid (∀ u : World, Calls Tryd.prog 15 #[] u fun e w' => ∃ kv, e = .returned kv ∧ Below u.heap.size u w' ∧ Got w' u.heap.size 9 1 kv (tyBs.map strX)) := fun u => types_spec u
  obtain ⟨l0, l1, l2, l3, l4, l5, l6⟩ := HL.seven
  go_enter Tryd.func20, Tryd.ntmps20
  go_wp2_with fail
  obtain ⟨n, hn, hn1, hn3, htn⟩ : ∃ n : Nat, c.ty = n ∧ 1 ≤ n ∧ n ≤ 3 ∧ tyBs[n]? = some (tyT c.ty) := by
    rcases hty with h | h | h
    · exact ⟨1, h, by omega, by omega, by rw [h]; rfl⟩
    · exact ⟨2, h, by omega, by omega, by rw [h]; rfl⟩
    · exact ⟨3, h, by omega, by omega, by rw [h]; rfl⟩
  have hni : (n : Int) < 4 := by omega
  rw [hn] at l1
  have HTN : Hid (tyBs[n]? = some (tyT c.ty)) := htn
  have hz1 : w.heap.size + 1 ≤ (w.alloc (.cells c.cells 25)).heap.size := by simp
  clear hty htn hn
  generalize w.alloc (.cells c.cells 25) = wv at HL hbv l0 l1 l2 l3 l4 l5 l6 hz1 ⊢
  refine region_plan [([0, 1, 3, 4], 2), ([5, 6], 7)] [8] (by kernel_rfl) (by kernel_rfl) ?_
  have hgd := Grows.drawn wv
  generalize { wv with drawn := wv.drawn + 1 } = wd at hgd ⊢
  have hbd := ch_trans hbv hgd
  have HLd := HL.on hgd
  have c0 := cell_on l0 hgd
  have c1 := cell_on l1 hgd
  clear l0 l1 l2 l3 l4 l5 l6 HL hbv
  refine plan_on (by simp only [pick, List.getElem?_toArray, List.getElem?_cons_succ, List.getElem?_cons_zero]; rfl) ?_
  repeat (go_big_quiet_step ((intro hu; have j0 := hu.cell c0; have j1 := hu.cell c1; go_simp; (try exact rfl))))
  refine wpQuiet_nil ?_
  refine plan_call rfl rfl (fun K hK => ?_)
  go_simp
  go_at_call 15
  refine (HTY.out _).mono ?_
  rintro e w1 ⟨kv, rfl, b1, hg⟩
  obtain ⟨ta, tp, htv, _, _, htr⟩ := hg.strs
  obtain ⟨tb, toff, rfl, t0⟩ := htr.strs n (by simp; omega)
  subst htv
  refine ⟨_, rfl, hK _ _ ⟨b1, ?_⟩⟩
  have ht0 : w1.cell? ⟨tb, toff + n, none⟩ = some (.string (tyT c.ty)) := by
    rw [t0]
    have := HTN.out
    rw [List.getElem?_eq_getElem (by simp; omega)] at this
    rw [Option.some.inj this]
  have hb1 := ch_trans hbd b1
  have hzw : w.heap.size + 1 ≤ w1.heap.size := Nat.le_trans hz1 (Nat.le_trans (show wv.heap.size ≤ wd.heap.size from Below.size hgd) b1.size)
  have HL1 := HLd.on b1
  clear hK K hg t0 htr c0 c1 b1 HLd hgd hbd
  refine plan_on (by simp only [pick, List.getElem?_toArray, List.getElem?_cons_succ, List.getElem?_cons_zero]; rfl) ?_
  repeat (go_big_quiet_step ((intro hu; have j0 := hu.cell ht0; go_simp; (try exact rfl))))
  refine wpQuiet_nil ?_
  refine plan_call rfl rfl (fun K hK => ?_)
  go_simp
  refine hK _ _ ⟨ch_alloc (Below.refl _ _) _, ?_⟩
  have HG : Hid (Got (w1.alloc (.cells #[.string c.name, .string (tyT c.ty)] 9)) (w.heap.size + 1) 9 1 (.slice (some ⟨w1.heap.size, 0, none⟩) 2 2) ([c.name, tyT c.ty].map strX)) := (Got.strs_new w1 [c.name, tyT c.ty] (by simp [maxLen])).mono hzw
  have hv1 : Below w1.heap.size w1 (w1.alloc (.cells #[.string c.name, .string (tyT c.ty)] 9)) := ch_alloc (Below.refl _ _) _
  have hb2 := ch_trans hb1 hv1
  have HL2 := HL1.on hv1
  have HZ2 : Hid (w.heap.size + 1 ≤ (w1.alloc (.cells #[.string c.name, .string (tyT c.ty)] 9)).heap.size) := Nat.le_trans hzw hv1.size
  clear hK K hv1 hb1 HL1 ht0
  generalize w1.alloc (.cells #[.string c.name, .string (tyT c.ty)] 9) = w2 at HG hb2 HL2 HZ2 ⊢
  refine plan_end (by simp only [pick, List.getElem?_toArray, List.getElem?_cons_succ, List.getElem?_cons_zero]; rfl) ?_
  repeat (go_big_quiet_step ((intro hu; go_simp; (try exact rfl))))
  refine wpQuiet_nil ?_
  have hz2 : w.heap.size + 1 ≤ w2.heap.size := HZ2.out
  obtain ⟨l0, l1, l2, l3, l4, l5, l6⟩ := HL2.seven
  cases hnt : c.nt <;> cases hh : c.has
  all_goals
    rw [hnt] at l2
    rw [hh] at l3
  · have HE : Hid (c.wordsB = [c.name, tyT c.ty]) := by show _ = _; simp [Cl.wordsB, hnt, hh]
    clear hnt hh
    go_wp2
    go_ret
    exact ⟨_, rfl, hb2, by rw [HE.out]; exact HG.out.mono (by omega)⟩
  · have HE : Hid (c.wordsB.map strX = [c.name, tyT c.ty].map strX ++ [strX (⟨#[61]⟩ ++ valText c.dt c.dn c.ds)]) := by show _ = _; simp [Cl.wordsB, hnt, hh]
    clear hnt hh
    go_wp2_with fail
    refine (HV.out _).mono ?_
    rintro e w4 ⟨rfl, b4⟩
    have hb4 := ch_trans hb2 b4
    have hz4 : w.heap.size + 1 ≤ w4.heap.size := Nat.le_trans hz2 b4.size
    have HG4 : Hid (Got w4 (w.heap.size + 1) 9 1 (.slice (some ⟨w1.heap.size, 0, none⟩) 2 2) ([c.name, tyT c.ty].map strX)) := HG.out.on b4
    have hB4 : w.heap.size + 1 ≤ (w4.alloc (.cells #[.string (⟨#[61]⟩ ++ valText c.dt c.dn c.ds)] 9)).heap.size := by simp; omega
    clear b4 l0 l1 l2 l3 l4 l5 l6
    go_wp2_with (at_builtin; refine app_one rfl (.tmp 19) (.tmp 24) rfl Tryd.underlying31 infoStrW rfl (by decide) (by decide) (w.heap.size + 1) _ ([c.name, tyT c.ty].map strX) rfl (HG4.out.on (ch_alloc (Below.refl _ _) _)) w4.heap.size 1 (strX (⟨#[61]⟩ ++ valText c.dt c.dn c.ds)) rfl (Loc.new _ _ _) rfl (fun u hu => by simp at hu; subst hu; rfl) (by simp) hB4 ?_; intro v' w5 hg5 hb5)
    have HG5 : Hid (Got w5 w.heap.size 9 1 v' (c.wordsB.map strX)) := by
      show Got _ _ _ _ _ _
      rw [HE.out]; exact hg5.mono (by omega)
    have hb6 : Below w.heap.size w w5 := Below.trans (ch_alloc hb4 _) (hb5.mono (by omega))
    clear hg5 hb5
    go_wp2
    go_ret
    exact ⟨_, rfl, hb6, HG5.out⟩
  · have HE : Hid (c.wordsB.map strX = [c.name, tyT c.ty].map strX ++ [strX ⟨#[110, 111, 116]⟩]) := by show _ = _; simp [Cl.wordsB, hnt, hh]
    clear hnt
    have hB2 : w.heap.size + 1 ≤ (w2.alloc (.cells #[.string ⟨#[110, 111, 116]⟩] 9)).heap.size := by simp; omega
    have HL3' := HL2.on (ch_alloc (Below.refl w2.heap.size w2) (.cells #[.string ⟨#[110, 111, 116]⟩] 9))
    have hb2' : Below w.heap.size w (w2.alloc (.cells #[.string ⟨#[110, 111, 116]⟩] 9)) := ch_alloc hb2 _
    clear l0 l1 l4 l5 l6
    go_wp2_with (at_builtin; refine app_one rfl (.tmp 14) (.tmp 15) rfl Tryd.underlying31 infoStrW rfl (by decide) (by decide) (w.heap.size + 1) _ ([c.name, tyT c.ty].map strX) rfl (HG.out.on (ch_alloc (Below.refl _ _) _)) w2.heap.size 1 (strX ⟨#[110, 111, 116]⟩) rfl (Loc.new _ _ _) rfl (fun u hu => by simp at hu; subst hu; rfl) (by simp) hB2 ?_; intro v' w3 hg3 hb3; obtain ⟨va, vn, vc, rfl, hg3⟩ := hg3.lit2; have HL3 : Loc w3 w.heap.size c.cells := (fun j hj => (hb3.cell (p := ⟨w.heap.size, j, none⟩) (by simp)).trans (HL3' j hj)); obtain ⟨n0, n1, n2, n3, n4, n5, n6⟩ := HL3.seven; rw [hh] at n3)
    have hb3' : Below w.heap.size w w3 := hb2'.trans (hb3.mono (by omega))
    have hz3 : w.heap.size + 1 ≤ w3.heap.size := Nat.le_trans hB2 hb3.size
    have HG3 : Hid (Got w3 w.heap.size 9 1 (.slice va vn vc) (c.wordsB.map strX)) := by
      show Got _ _ _ _ _ _
      rw [HE.out]; exact hg3.mono (by omega)
    clear hg3 hb3 HL3 hh
    go_wp2
    go_ret
    exact ⟨_, rfl, hb3', HG3.out⟩
  · have HE : Hid (c.wordsB.map strX = [c.name, tyT c.ty, ⟨#[110, 111, 116]⟩].map strX ++ [strX (⟨#[61]⟩ ++ valText c.dt c.dn c.ds)]) := by show _ = _; simp [Cl.wordsB, hnt, hh]
    clear hnt
    have hB2 : w.heap.size + 1 ≤ (w2.alloc (.cells #[.string ⟨#[110, 111, 116]⟩] 9)).heap.size := by simp; omega
    have HL3' := HL2.on (ch_alloc (Below.refl w2.heap.size w2) (.cells #[.string ⟨#[110, 111, 116]⟩] 9))
    have hb2' : Below w.heap.size w (w2.alloc (.cells #[.string ⟨#[110, 111, 116]⟩] 9)) := ch_alloc hb2 _
    clear l0 l1 l4 l5 l6
    go_wp2_with (at_builtin; refine app_one rfl (.tmp 14) (.tmp 15) rfl Tryd.underlying31 infoStrW rfl (by decide) (by decide) (w.heap.size + 1) _ ([c.name, tyT c.ty].map strX) rfl (HG.out.on (ch_alloc (Below.refl _ _) _)) w2.heap.size 1 (strX ⟨#[110, 111, 116]⟩) rfl (Loc.new _ _ _) rfl (fun u hu => by simp at hu; subst hu; rfl) (by simp) hB2 ?_; intro v' w3 hg3 hb3; obtain ⟨va, vn, vc, rfl, hg3⟩ := hg3.lit2; have HL3 : Loc w3 w.heap.size c.cells := (fun j hj => (hb3.cell (p := ⟨w.heap.size, j, none⟩) (by simp)).trans (HL3' j hj)); obtain ⟨n0, n1, n2, n3, n4, n5, n6⟩ := HL3.seven; rw [hh] at n3)
    have hb3' : Below w.heap.size w w3 := hb2'.trans (hb3.mono (by omega))
    have hz3 : w.heap.size + 1 ≤ w3.heap.size := Nat.le_trans hB2 hb3.size
    have HG3 : Hid (Got w3 (w.heap.size + 1) 9 1 (.slice va vn vc) ([c.name, tyT c.ty, ⟨#[110, 111, 116]⟩].map strX)) := hg3
    clear hg3 hb3 HL3 hh hz2 l2 l3
    have hz2 := hz3
    go_wp2_with fail
    refine (HV.out _).mono ?_
    rintro e w4 ⟨rfl, b4⟩
    have hb4 := ch_trans hb3' b4
    have hz4 : w.heap.size + 1 ≤ w4.heap.size := Nat.le_trans hz2 b4.size
    have HG4 : Hid (Got w4 (w.heap.size + 1) 9 1 (.slice va vn vc) ([c.name, tyT c.ty, ⟨#[110, 111, 116]⟩].map strX)) := HG3.out.on b4
    have hB4 : w.heap.size + 1 ≤ (w4.alloc (.cells #[.string (⟨#[61]⟩ ++ valText c.dt c.dn c.ds)] 9)).heap.size := by simp; omega
    clear b4 n0 n1 n2 n3 n4 n5 n6
    go_wp2_with (at_builtin; refine app_one rfl (.tmp 19) (.tmp 24) rfl Tryd.underlying31 infoStrW rfl (by decide) (by decide) (w.heap.size + 1) _ ([c.name, tyT c.ty, ⟨#[110, 111, 116]⟩].map strX) rfl (HG4.out.on (ch_alloc (Below.refl _ _) _)) w4.heap.size 1 (strX (⟨#[61]⟩ ++ valText c.dt c.dn c.ds)) rfl (Loc.new _ _ _) rfl (fun u hu => by simp at hu; subst hu; rfl) (by simp) hB4 ?_; intro v' w5 hg5 hb5)
    have HG5 : Hid (Got w5 w.heap.size 9 1 v' (c.wordsB.map strX)) := by
      show Got _ _ _ _ _ _
      rw [HE.out]; exact hg5.mono (by omega)
    have hb6 : Below w.heap.size w w5 := Below.trans (ch_alloc hb4 _) (hb5.mono (by omega))
    clear hg5 hb5
    go_wp2
    go_ret
    exact ⟨_, rfl, hb6, HG5.out⟩

theorem joinL_snoc : ∀ (ws : List (List UInt8)) (x : List UInt8), joinL (ws ++ [x]) = if ws = [] then x else joinL ws ++ 32 :: x
  | [], x => by simp [joinL]
  | [a], x => by simp [joinL]
  | a :: b :: r, x => by
    have := joinL_snoc (b :: r) x
    simp only [List.cons_append, reduceCtorEq, if_false] at this ⊢
    rw [joinL, this, joinL]; simp
theorem join_step (ks : List ByteArray) (k : Nat) (hk : k < ks.length) : joinL ((ks.take (k + 1)).map fun s => s.data.toList) = (if k = 0 then ks[k].data.toList else joinL ((ks.take k).map fun s => s.data.toList) ++ 32 :: ks[k].data.toList) := by
  rw [List.take_succ_eq_append_getElem hk, List.map_append, List.map_cons, List.map_nil, joinL_snoc]
  by_cases h : k = 0
  · subst h; simp
  · rw [if_neg h, if_neg (by simp; exact ⟨h, fun e => by subst e; simp at hk⟩)]
theorem joinL_len : ∀ (a b : List (List UInt8)), (joinL a).length ≤ (joinL (a ++ b)).length
  | [], b => by simp [joinL]
  | [x], [] => by simp [joinL]
  | [x], y :: r => by simp [joinL]
  | x :: y :: r, b => by
    have := joinL_len (y :: r) b
    simp only [List.cons_append] at this ⊢
    rw [joinL, joinL]; simp; omega
theorem join_le (ks : List ByteArray) (k : Nat) : (joinL ((ks.take k).map fun s => s.data.toList)).length ≤ (joinL (ks.map fun s => s.data.toList)).length := by
  have := joinL_len ((ks.take k).map fun s => s.data.toList) ((ks.drop k).map fun s => s.data.toList)
  rwa [← List.map_append, List.take_append_drop] at this
set_option maxRecDepth 100000 in
set_option maxHeartbeats 1000000 in
/-- spec.l05Join -/
theorem join_spec (v : Value) (ks : List ByteArray) (w : World) (hv : StrsV w v ks) (hl : (joinL (ks.map fun s => s.data.toList)).length ≤ 10000000) :
    Calls Tryd.prog 19 #[v] w fun e w' => e = .returned (.string ⟨(joinL (ks.map fun s => s.data.toList)).toArray⟩) ∧ Below w.heap.size w w' := by
  obtain ⟨a, p, rfl, hlp, hm, hr⟩ := hv
  unfold maxLen at hm
  have HR : Hid (RowAt w a 1 (ks.map strX)) := hr
  clear hr
  go_enter Tryd.func19, Tryd.ntmps19
  go_wp2
  go_loopw [3, 8] (fun o i wr => ∃ (k : Nat) (b : ByteArray), k ≤ ks.length ∧ i = .int .i64 k ∧ o = .string b ∧ Below w.heap.size w wr ∧ b.size ≤ 10000000 ∧ Hid (b.data.toList = joinL ((ks.take k).map fun s => s.data.toList))) (fun _ i _ => ks.length - (intOf i).toNat)
  case atStart => exact ⟨0, _, Nat.zero_le _, rfl, rfl, (by repeat (first | with_reducible exact Below.refl _ _ | with_reducible assumption | with_reducible refine ch_alloc ?_ _ | with_reducible refine Below.drew ?_ | with_reducible refine below_draws _ ?_ | (with_reducible refine Below.setCell ?_ ?_ _; rotate_left; focus (first | with_reducible exact Nat.le_refl _ | (simp; done) | (simp; omega) | (simp at *; omega))) | with_reducible refine ch_trans ?_ (by with_reducible assumption))), by decide, rfl⟩
  case round =>
    obtain ⟨k, b, hk, rfl, rfl, hb, hbs, HB⟩ := hrel
    by_cases hlt : k < ks.length
    · have hlti : (k : Int) < ks.length := by omega
      obtain ⟨b', off', rfl, d0⟩ := (HR.out.on hb).strs k hlt
      have HS : Hid (joinL ((ks.take (k + 1)).map fun s => s.data.toList) = (if k = 0 then ks[k].data.toList else b.data.toList ++ 32 :: ks[k].data.toList)) := by
        show _ = _
        rw [HB.out]
        exact join_step ks k hlt
      have HSZ : Hid ((joinL ((ks.take (k + 1)).map fun s => s.data.toList)).length ≤ 10000000) := Nat.le_trans (join_le ks (k + 1)) hl
      by_cases h0 : k = 0
      · subst h0
        have hg0 : decide ((0 : Int) < ((0 : Nat) : Int)) = false := by decide
        have hks : ks[0].size ≤ 10000000 := by
          have := HSZ.out
          rw [HS.out, if_pos rfl] at this
          simpa using this
        have HN : Hid (b = ⟨#[]⟩) := bytes_inj (by rw [HB.out]; rfl)
        have HF : Hid ((b ++ ks[0]).data.toList = joinL ((ks.take (0 + 1)).map fun s => s.data.toList)) := by
          show _ = _
          rw [HS.out, if_pos rfl, HN.out]; simp
        have hsz : (b ++ ks[0]).size ≤ 10000000 := by
          have h1 : (⟨#[]⟩ : ByteArray).size = 0 := rfl
          rw [HN.out, ByteArray.size_append, h1]; omega
        simp only [Nat.add_zero] at d0
        go_wp2
        go_round
        case rel => exact ⟨0 + 1, _, by omega, by go_num, rfl, (by repeat (first | with_reducible exact Below.refl _ _ | with_reducible assumption | with_reducible refine ch_alloc ?_ _ | with_reducible refine Below.drew ?_ | with_reducible refine below_draws _ ?_ | (with_reducible refine Below.setCell ?_ ?_ _; rotate_left; focus (first | with_reducible exact Nat.le_refl _ | (simp; done) | (simp; omega) | (simp at *; omega))) | with_reducible refine ch_trans ?_ (by with_reducible assumption))), hsz, HF⟩
        case measure => simp [intOf]; omega
      · have hg0 : decide ((0 : Int) < (k : Int)) = true := by simp; omega
        have hg1 : decide (0 < k) = true := by simp; omega
        have HF : Hid ((b ++ ⟨#[32]⟩ ++ ks[k]).data.toList = joinL ((ks.take (k + 1)).map fun s => s.data.toList)) := by
          show _ = _
          rw [HS.out, if_neg h0]; simp
        have hsz : (b ++ ⟨#[32]⟩ ++ ks[k]).size ≤ 10000000 := by
          have := HSZ.out
          rw [← HF.out] at this
          exact this
        have hks : ks[k].size ≤ 10000000 := by rw [ByteArray.size_append] at hsz; omega
        go_wp2
        go_round
        case rel => exact ⟨k + 1, _, by omega, by go_num, rfl, (by repeat (first | with_reducible exact Below.refl _ _ | with_reducible assumption | with_reducible refine ch_alloc ?_ _ | with_reducible refine Below.drew ?_ | with_reducible refine below_draws _ ?_ | (with_reducible refine Below.setCell ?_ ?_ _; rotate_left; focus (first | with_reducible exact Nat.le_refl _ | (simp; done) | (simp; omega) | (simp at *; omega))) | with_reducible refine ch_trans ?_ (by with_reducible assumption))), hsz, HF⟩
        case measure => simp [intOf]; omega
    · have hlti : (ks.length : Int) ≤ k := by omega
      obtain rfl : k = ks.length := by omega
      have HF : Hid (b = ⟨(joinL (ks.map fun s => s.data.toList)).toArray⟩) := by
        show _ = _
        apply bytes_inj
        rw [HB.out, List.take_length]
      go_wp2
      go_ret
      exact ⟨ret_s HF.out, (by repeat (first | with_reducible exact Below.refl _ _ | with_reducible assumption | with_reducible refine ch_alloc ?_ _ | with_reducible refine Below.drew ?_ | with_reducible refine below_draws _ ?_ | (with_reducible refine Below.setCell ?_ ?_ _; rotate_left; focus (first | with_reducible exact Nat.le_refl _ | (simp; done) | (simp; omega) | (simp at *; omega))) | with_reducible refine ch_trans ?_ (by with_reducible assumption)))⟩

theorem text_len {c : Cl} (h : c.ok = true) : (joinL c.words).length ≤ 10000000 := by
  have hn8 : c.name.size ≤ 8 := by
    have h1 := (ok_parts h).1
    simp only [wordB, Bool.and_eq_true, decide_eq_true_eq] at h1
    exact h1.2.2
  have hty : (tyT c.ty).size ≤ 4 := by
    rcases (ok_parts h).2.1 with h | h | h <;> rw [h] <;> decide
  have hvt : (valText c.dt c.dn c.ds).size ≤ 1048576 := vt_size _ _ _
  have e1 : c.name.data.toList.length = c.name.size := by simp
  have e2 : (tyT c.ty).data.toList.length = (tyT c.ty).size := by simp
  have e3 : (valText c.dt c.dn c.ds).data.toList.length = (valText c.dt c.dn c.ds).size := by simp
  unfold Cl.words
  cases c.nt <;> cases c.has <;> simp [joinL] <;> omega
set_option maxRecDepth 100000 in
set_option maxHeartbeats 1000000 in
/-- spec.ColText -/
theorem colText_spec (c : Cl) (w : World) (hn : c.name.size ≤ maxLen) : Calls Tryd.prog 9 #[c.v] w fun e w' => e = .returned (.string ⟨c.text.toArray⟩) ∧ Below w.heap.size w w' := by
  have HO : Hid (∀ u : World, Calls Tryd.prog 18 #[c.v] u fun e w' => e = .returned (.bool c.ok) ∧ Below u.heap.size u w') := fun u => colOk_spec c u hn
  have HL := Loc.new w c.cells 25
  have hbv : Below w.heap.size w (w.alloc (.cells c.cells 25)) := ch_alloc (Below.refl _ _) _
  obtain ⟨l0, l1, l2, l3, l4, l5, l6⟩ := HL.seven
  go_enter Tryd.func9, Tryd.ntmps9
  go_wp2_with fail
  refine (HO.out _).mono ?_
  rintro e w1 ⟨rfl, b1⟩
  have HL1 := HL.on b1
  have hb1 := ch_trans hbv b1
  clear b1 hbv l0 l1 l2 l3 l4 l5 l6 HL
  cases hok : c.ok
  · have HE : Hid (c.text = []) := by show _ = _; rw [Cl.text, if_neg (by simp [hok])]
    clear hok
    go_wp2
    go_ret
    exact ⟨by rw [HE.out]; rfl, hb1⟩
  have HE : Hid (c.text = joinL c.words) := by show _ = _; rw [Cl.text, if_pos hok]
  have HOK : Hid (c.ok = true) := hok
  clear hok
  obtain ⟨l0, l1, l2, l3, l4, l5, l6⟩ := HL1.seven
  go_wp2_with fail
  refine (col_words c _ HOK.out).mono ?_
  rintro e w2 ⟨kv, rfl, b2, hg⟩
  obtain ⟨ka, kn, kc, rfl, hg⟩ := hg.lit2
  have HG : Hid (StrsV w2 (.slice ka kn kc) c.wordsB) := hg.strs
  have hb2 := ch_trans hb1 b2
  clear b2 hg l0 l1 l2 l3 l4 l5 l6
  go_wp2_with fail
  refine (join_spec _ c.wordsB _ HG.out (by rw [words_data]; exact text_len HOK.out)).mono ?_
  rintro e w3 ⟨rfl, b3⟩
  have hb3 := ch_trans hb2 b3
  clear b3
  go_wp2
  go_ret
  exact ⟨by rw [HE.out, words_data]; rfl, hb3⟩
end Go.Proofs.YtmkgbdgafjeeiamDoor
