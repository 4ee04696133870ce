/- The landed search of a row by its key: find. -/
import Derived.Test.YtbpdbhchnpnabajRaI
import Derived.Test.YtbpdbhchnpnabajRs
import Derived.Deep.LoopGhost
import Derived.WalkMore
namespace Go.Proofs.Ytbpdbhchnpnabaj
open Go.ChangeShapes Go.WideShapes Go.ChangeAt Go.RowKit

/-- The first place of a key among keys; -1 where there is none. -/
def IsAt (ks : List (List Vc)) (key : List Vc) (r : Int) : Prop := (r = -1 ∧ ∀ i (h : i < ks.length), ks[i] ≠ key) ∨ ∃ k : Nat, ∃ h : k < ks.length, r = k ∧ ks[k] = key ∧ ∀ i (g : i < ks.length), i < k → ks[i] ≠ key
theorem isAt_one {ks : List (List Vc)} {key : List Vc} {r s : Int} (h : IsAt ks key r) (g : IsAt ks key s) : r = s := by
  rcases h with ⟨rfl, h⟩ | ⟨k, hk, rfl, he, hn⟩
  · rcases g with ⟨rfl, _⟩ | ⟨j, hj, rfl, he', _⟩
    · rfl
    · exact absurd he' (h j hj)
  · rcases g with ⟨rfl, g⟩ | ⟨j, hj, rfl, he', hn'⟩
    · exact absurd he (g k hk)
    · by_cases h1 : k < j
      · exact absurd he (hn' k hk h1)
      · by_cases h2 : j < k
        · exact absurd he' (hn j hj h2)
        · have : k = j := by omega
          rw [this]

set_option maxRecDepth 100000 in
set_option maxHeartbeats 4000000 in
/-- (impl.keyPlaces).find -/
theorem find_any (pv : Value) (is : List Int) (lv : Value) (rs : List (List Vc)) (kv : Value) (key : List Vc) (w : World) (hp : IntsV w pv is) (hl : RowsV w lv rs) (hk : ValsV w kv key) (hw : ∀ r ∈ rs, within' is r.length) :
    Calls Try.prog 28 #[pv, lv, kv] w fun e w' => ∃ c : Int, e = .returned (.int .i64 c) ∧ IsAt (rs.map (valsAt is)) key c ∧ Below w.heap.size w w' := by
  obtain ⟨a, p, rfl, _, hm0, hp⟩ := hp.lit
  obtain ⟨a1, p1, rfl, _, hm1, hl⟩ := hl.lit
  obtain ⟨a2, p2, rfl, _, hm2, hk⟩ := hk.lit
  unfold maxLen at hm0 hm1 hm2
  have HP : Hid (RowAt w a 1 (is.map intX)) := hp.row
  have HA : Hid (RowsV w (.slice a1 rs.length p1) rs) := hl
  have HB : Hid (RowAt w a2 3 (key.map Vc.cells)) := hk.row
  have HW : Hid (∀ r ∈ rs, within' is r.length) := hw
  clear hp hl hk hw
  by_cases hn : key.length = is.length
  case neg =>
    have hn' : ((key.length : Int) != (is.length : Int)) = true := by simp; omega
    have HZ : Hid (IsAt (rs.map (valsAt is)) key (-1)) := Or.inl ⟨rfl, fun i h e => hn (by rw [← e]; simp [valsAt])⟩
    clear hn
    go_enter Try.func28, Try.ntmps28
    go_wp2
    go_step3
    go_wp2
    rw [Exit.noGoto_ret]
    go_ret
    exact ⟨_, rfl, HZ.out, (by repeat (first | with_reducible exact Below.refl _ _ | with_reducible assumption | with_reducible refine ch_alloc ?_ _ | with_reducible refine Below.drew ?_ | with_reducible refine below_draws _ ?_ | (with_reducible refine Below.setCell ?_ ?_ _; rotate_left; focus (first | with_reducible exact Nat.le_refl _ | (simp; done) | (simp; omega) | (simp at *; omega))) | with_reducible refine ch_trans ?_ (by with_reducible assumption)))⟩
  have hn' : ((key.length : Int) != (is.length : Int)) = false := by simp; omega
  have HNL : Hid (key.length = is.length) := hn
  clear hn
  go_enter Try.func28, Try.ntmps28
  go_wp2
  go_step3
  go_wp2
  go_step3
  go_wp2
  go_loopg [7, 19] rs.length (fun g f i wr => ∃ k : Nat, k + g = rs.length ∧ i = .int .i64 k ∧ f = .int .i64 (-1) ∧ Below w.heap.size w wr ∧ Hid (∀ i (h : i < (rs.map (valsAt is)).length), i < k → (rs.map (valsAt is))[i] ≠ key))
  case atStart => exact ⟨0, by omega, rfl, rfl, (by repeat (first | with_reducible exact Below.refl _ _ | with_reducible assumption | with_reducible refine ch_alloc ?_ _ | with_reducible refine Below.drew ?_ | with_reducible refine below_draws _ ?_ | (with_reducible refine Below.setCell ?_ ?_ _; rotate_left; focus (first | with_reducible exact Nat.le_refl _ | (simp; done) | (simp; omega) | (simp at *; omega))) | with_reducible refine ch_trans ?_ (by with_reducible assumption))), fun i h hi => by omega⟩
  case round =>
    obtain ⟨k, hkg, rfl, rfl, hb, HN⟩ := hrel
    cases gk with
    | zero =>
      have hlti : (rs.length : Int) ≤ k := by omega
      have HZ : Hid (IsAt (rs.map (valsAt is)) key (-1)) := Or.inl ⟨rfl, fun i h => HN.out i h (by simp at h; omega)⟩
      go_wp2
      rw [Exit.noGoto_ret]
      go_ret
      exact ⟨_, rfl, HZ.out, hb⟩
    | succ g =>
      have hlt : k < rs.length := by omega
      have hlti : (k : Int) < rs.length := by omega
      obtain ⟨b, off, c, pc, rfl, d0, hx⟩ := (HA.out.on hb).rw k hlt
      have HV : Hid (RowAt wr c 3 (rs[k].map Vc.cells)) := hx.row
      have HL := Loc.new wr #[.slice c rs[k].length pc] 54
      have hb1 : Below w.heap.size w (wr.alloc (.cells #[.slice c rs[k].length pc] 54)) := (by repeat (first | with_reducible exact Below.refl _ _ | with_reducible assumption | with_reducible refine ch_alloc ?_ _ | with_reducible refine Below.drew ?_ | with_reducible refine below_draws _ ?_ | (with_reducible refine Below.setCell ?_ ?_ _; rotate_left; focus (first | with_reducible exact Nat.le_refl _ | (simp; done) | (simp; omega) | (simp at *; omega))) | with_reducible refine ch_trans ?_ (by with_reducible assumption)))
      have hwk := HW.out _ (List.getElem_mem hlt)
      have HWK : Hid (within' is rs[k].length) := hwk
      have hrl : rs[k].length ≤ 9223372036854775807 := by
        obtain ⟨_, _, e, h1, h2, _⟩ := hx
        unfold maxLen at h2
        omega
      clear hx hwk
      go_wp2
      have hbv : Below wr.heap.size wr (wr.alloc (.cells #[.slice c rs[k].length pc] 54)) := ch_alloc (Below.refl _ _) _
      generalize wr.alloc (.cells #[.slice c rs[k].length pc] 54) = wi at HL hb1 hbv ⊢
      go_loopg [26] is.length (fun g2 j wy => ∃ jj : Nat, jj + g2 = is.length ∧ j = .int .i64 jj ∧ Below wi.heap.size wi wy ∧ Hid (∀ i (h : i < (valsAt is rs[k]).length) (g : i < key.length), i < jj → (valsAt is rs[k])[i] = key[i]))
      case atStart => exact ⟨0, by omega, rfl, Below.refl _ _, fun i h g hi => by omega⟩
      case round =>
        obtain ⟨jj, hjg, rfl, hbi, HM⟩ := hrel
        cases gk with
        | zero =>
          have hltj : (is.length : Int) ≤ jj := by omega
          have HZ : Hid (IsAt (rs.map (valsAt is)) key k) := Or.inr ⟨k, by simpa using hlt, rfl, by
            rw [List.getElem_map]
            exact List.ext_getElem (by simp [valsAt, HNL.out]) fun i h g => HM.out i h g (by simp [valsAt] at h; omega), fun i g hi => HN.out i g hi⟩
          go_wp2
          rw [Exit.noGoto_ret]
          go_ret
          exact ⟨_, rfl, HZ.out, ch_trans hb1 hbi⟩
        | succ g2 =>
          have hltj : jj < is.length := by omega
          have hltji : (jj : Int) < is.length := by omega
          have hkj : jj < key.length := by have := HNL.out; omega
          have hkji : (jj : Int) < key.length := by omega
          have hbw : Below w.heap.size w wr := ch_trans hb1 hbi
          obtain ⟨bp, op, rfl, c0⟩ := (HP.out.on hbw).ints jj hltj
          obtain ⟨i, hi, hci⟩ := HWK.out jj hltj
          have hii : (i : Int) < rs[k].length := by omega
          rw [hci] at c0
          have hvl : jj < (valsAt is rs[k]).length := by simpa [valsAt] using hltj
          have HVL : Hid ((valsAt is rs[k])[jj] = rs[k][i]) := valsAt_get hltj hci hi hvl
          obtain ⟨bc, oc, rfl, f0, f1, f2⟩ := (HV.out.on (ch_trans hbv hbi)).vals i hi
          obtain ⟨bk, ok, rfl, g0, g1, g3⟩ := (HB.out.on hbw).vals jj hkj
          have l0 := (HL.on hbi).one
          clear hci
          rcases vc_cases rs[k][i] key[jj] with ⟨e0, e1, e2, he⟩ | ⟨hne, hcs⟩
          · have HM' : Hid (∀ i (h : i < (valsAt is rs[k]).length) (g : i < key.length), i < jj + 1 → (valsAt is rs[k])[i] = key[i]) := fun i' h g hi' => by
              by_cases e : i' = jj
              · subst e; rw [HVL.out]; exact he
              · exact HM.out i' h g (by omega)
            clear he
            go_wp2_with fail
            refine region_grown (by kernel_rfl) (by kernel_rfl) ?_
            repeat (go_big_quiet_step ((intro hu; have n0 := hu.cell l0; have n1 := hu.cell f0; have n2 := hu.cell f1; have n3 := hu.cell f2; have n4 := hu.cell g0; have n5 := hu.cell g1; have n6 := hu.cell g3; go_simp; (try exact rfl))))
            refine wpQuiet_nil ?_
            intro w1 b1
            have b1 : Below wr.heap.size wr w1 := b1
            go_wp2
            go_roundg g2
            case measure => omega
            case rel => exact ⟨jj + 1, by omega, by go_num, ch_trans hbi b1, HM'⟩
          · have HN' : Hid (∀ i (h : i < (rs.map (valsAt is)).length), i < k + 1 → (rs.map (valsAt is))[i] ≠ key) := fun i' h hi' => by
              by_cases e : i' = k
              · subst e
                intro e
                rw [List.getElem_map] at e
                apply hne
                rw [← HVL.out]
                simp only [e]
              · exact HN.out i' h (by omega)
            clear hne
            rcases hcs with e0 | ⟨e0, e1⟩ | ⟨e0, e1, e2⟩
            all_goals
              go_wp2_with fail
              refine region_grown (by kernel_rfl) (by kernel_rfl) ?_
              repeat (go_big_quiet_step ((intro hu; have n0 := hu.cell l0; have n1 := hu.cell f0; have n2 := hu.cell f1; have n3 := hu.cell f2; have n4 := hu.cell g0; have n5 := hu.cell g1; have n6 := hu.cell g3; go_simp; (try exact rfl))))
              refine wpQuiet_nil ?_
              intro w1 b1
              have b1 : Below wr.heap.size wr w1 := b1
              go_wp2
              go_roundg g
              case measure => omega
              case rel => exact ⟨k + 1, by omega, by go_num, rfl, ch_trans hbw b1, HN'⟩
end Go.Proofs.Ytbpdbhchnpnabaj
