/- A Bool for a Prop. Whether a value may stand in a column, given and landed. Whether a statement is right, given and landed. The writer of bytes: columns, changes. -/
import Derived.Test.YtikccmgpmbnkfaaCh
import Derived.Test.YtikccmgpmbnkfaaVs
import Derived.Test.YtikccmgpmbnkfaaPl
import Derived.Test.YtikccmgpmbnkfaaSt
import Derived.Test.YtikccmgpmbnkfaaDdOkS
import Derived.Test.YtikccmgpmbnkfaaDdOkI
import Derived.Test.YtikccmgpmbnkfaaWu
import Derived.Test.YtikccmgpmbnkfaaCn
namespace Go.Proofs.Ytikccmgpmbnkfaa
theorem bool_of (p : Prop) : ∃ q : Bool, q = true ↔ p := by
  by_cases h : p
  · exact ⟨true, by simp [h]⟩
  · exact ⟨false, by simp [h]⟩
end Go.Proofs.Ytikccmgpmbnkfaa

namespace Go.Proofs.Ytikccmgpmbnkfaa
open Go.ChangeShapes Go.WideShapes Go.ChangeAt Go.RowKit

/-- Whether a value may stand in a column. -/
def fitsB (c : Cl) (v : Vc) : Bool := okB v.ty v.n v.s && (if v.ty = 0 then !c.nt else v.ty == c.ty)

end Go.Proofs.Ytikccmgpmbnkfaa

namespace Go.Proofs.Ytikccmgpmbnkfaa
open Go.ChangeShapes Go.WideShapes Go.ChangeAt Go.RowKit

/-- No change. -/
def Dc.nil (d : Dc) : Prop := d.kind = 0 ∧ noneB d.table = true ∧ d.cols.length = 0 ∧ d.keys.length = 0 ∧ noneB d.name = true ∧ noneB d.to = true
/-- A statement is right. -/
def Sc.right (s : Sc) : Prop := wordB s.table = true ∧
  ((s.kind = 1 ∧ s.key.length = 0 ∧ someV s.row ∧ s.ddl.nil) ∨
  (s.kind = 2 ∧ someV s.key ∧ someV s.row ∧ s.ddl.nil) ∨
  (s.kind = 3 ∧ someV s.key ∧ s.row.length = 0 ∧ s.ddl.nil) ∨
  (s.kind = 4 ∧ s.key.length = 0 ∧ s.row.length = 0 ∧ s.ddl.nil) ∨
  (s.kind = 5 ∧ s.key.length = 0 ∧ s.row.length = 0 ∧ s.ddl.right ∧ s.ddl.table = s.table))

set_option maxRecDepth 100000 in
set_option maxHeartbeats 1000000 in
/-- spec.l04Vals -/
theorem someV_spec (v : Value) (l : List Vc) (w : World) (hv : ValsV w v l) : Calls Try.prog 60 #[v] w fun e w' => ∃ q : Bool, e = .returned (.bool q) ∧ (q = true ↔ someV l) ∧ Below w.heap.size w w' := by
  obtain ⟨a, p, rfl, hl, hm, hv⟩ := hv.lit
  unfold maxLen at hm
  have HV : Hid (ValsV w (.slice a l.length p) l) := hv
  clear hv
  go_enter Try.func60, Try.ntmps60
  go_wp2
  go_loopw [7] (fun i wr => ∃ k : Nat, k ≤ l.length ∧ i = .int .i64 k ∧ Below w.heap.size w wr ∧ Hid (∀ i (h : i < l.length), i < k → okB l[i].ty l[i].n l[i].s = true)) (fun i _ => l.length - (intOf i).toNat)
  case atStart => exact ⟨0, Nat.zero_le _, rfl, (by repeat (first | with_reducible exact Below.refl _ _ | with_reducible assumption | with_reducible refine ch_alloc ?_ _ | with_reducible refine Below.drew ?_ | with_reducible refine below_draws _ ?_ | (with_reducible refine Below.setCell ?_ ?_ _; rotate_left; focus (first | with_reducible exact Nat.le_refl _ | (simp; done) | (simp; omega) | (simp at *; omega))) | with_reducible refine ch_trans ?_ (by with_reducible assumption))), fun i h hi => by omega⟩
  case round =>
    obtain ⟨k, hk, rfl, hb, HN⟩ := hrel
    by_cases hlt : k < l.length
    · have hlti : (k : Int) < l.length := by omega
      obtain ⟨b, off, rfl, d0, d1, d2⟩ := (HV.out.on hb).row.vals k hlt
      have HS : Hid (∀ u : World, Calls Try.prog 91 #[V l[k].ty l[k].n l[k].s] u fun e w' => e = .returned (.bool (okB l[k].ty l[k].n l[k].s)) ∧ Below u.heap.size u w') := fun u => (ok_spec _ _ _ u).mono fun e w' ⟨h1, h2⟩ => ⟨h1, by rw [h2]; exact ch_alloc (Below.refl _ _) _⟩
      have HE : Hid (someV l → okB l[k].ty l[k].n l[k].s = true) := fun h => h.2.2 k hlt
      have HG : Hid (okB l[k].ty l[k].n l[k].s = true → ∀ i (h : i < l.length), i < k + 1 → okB l[i].ty l[i].n l[i].s = true) := fun hq i h hi => by
        by_cases e : i = k
        · subst e; exact hq
        · exact HN.out i h (by omega)
      generalize okB l[k].ty l[k].n l[k].s = q at HS HE HG
      go_wp2_with fail
      refine (HS.out _).mono ?_
      rintro e w1 ⟨rfl, b1⟩
      have hb1 : Below w.heap.size w w1 := (by repeat (first | with_reducible exact Below.refl _ _ | with_reducible assumption | with_reducible refine ch_alloc ?_ _ | with_reducible refine Below.drew ?_ | with_reducible refine below_draws _ ?_ | (with_reducible refine Below.setCell ?_ ?_ _; rotate_left; focus (first | with_reducible exact Nat.le_refl _ | (simp; done) | (simp; omega) | (simp at *; omega))) | with_reducible refine ch_trans ?_ (by with_reducible assumption)))
      clear b1
      cases q
      · have HB : Hid (¬ someV l) := fun h => by have := HE.out h; cases this
        go_wp2
        go_ret
        exact ⟨_, rfl, ⟨fun h => by simp at h, fun h => absurd h HB.out⟩, hb1⟩
      · have HN' : Hid (∀ i (h : i < l.length), i < k + 1 → okB l[i].ty l[i].n l[i].s = true) := HG.out rfl
        go_wp2
        go_round
        case rel => exact ⟨k + 1, by omega, by go_num, hb1, HN'⟩
        case measure => simp [intOf]; omega
    · have hlti : (l.length : Int) ≤ k := by omega
      have HA : Hid (∀ i (h : i < l.length), okB l[i].ty l[i].n l[i].s = true) := fun i h => HN.out i h (by omega)
      by_cases h1 : 1 ≤ l.length
      · have h1' : decide ((1 : Int) ≤ l.length) = true := by simp; omega
        have h1n : decide (1 ≤ l.length) = true := by simp; omega
        by_cases h8 : l.length ≤ 8
        · have h8' : decide ((l.length : Int) ≤ 8) = true := by simp; omega
          have h8n : decide (l.length ≤ 8) = true := by simp; omega
          have HY : Hid (someV l) := ⟨h1, h8, HA.out⟩
          clear h1 h8
          go_wp2
          go_ret
          exact ⟨_, rfl, ⟨fun _ => HY.out, fun _ => rfl⟩, hb⟩
        · have h8' : decide ((l.length : Int) ≤ 8) = false := by simp; omega
          have HB : Hid (¬ someV l) := fun h => h8 h.2.1
          clear h1 h8
          go_wp2
          go_ret
          exact ⟨_, rfl, ⟨fun h => by simp at h, fun h => absurd h HB.out⟩, hb⟩
      · have h1' : decide ((1 : Int) ≤ l.length) = false := by simp; omega
        have HB : Hid (¬ someV l) := fun h => h1 h.1
        clear h1
        go_wp2
        go_ret
        exact ⟨_, rfl, ⟨fun h => by simp at h, fun h => absurd h HB.out⟩, hb⟩

def Dc.nilB (d : Dc) : Bool := decide (d.kind = 0) && noneB d.table && decide (d.cols.length = 0) && decide (d.keys.length = 0) && noneB d.name && noneB d.to
theorem Dc.nilB_iff (d : Dc) : d.nilB = true ↔ d.nil := by
  unfold Dc.nilB Dc.nil
  simp [and_assoc]

set_option maxRecDepth 100000 in
set_option maxHeartbeats 1000000 in
/-- spec.l04NoDdl -/
theorem nil_spec (x : Array Value) (t : Dc) (w : World) (hx : DdlV w x t) : Calls Try.prog 61 #[.agg x] w fun e w' => e = .returned (.bool t.nilB) ∧ Below w.heap.size w w' := by
  obtain ⟨a, p, o, q, rfl, hx, hc, hkk⟩ := hx.lit
  have hcap : t.cols.length ≤ 9223372036854775807 ∧ t.keys.length ≤ 9223372036854775807 := by
    obtain ⟨_, _, e, h1, h2, _⟩ := hc
    obtain ⟨_, _, e', h1', h2', _⟩ := hkk
    unfold maxLen at h2 h2'
    omega
  obtain ⟨hl1, hl2⟩ := hcap
  clear hx hc hkk
  have HR0 : t.nilB = t.nilB := rfl
  conv at HR0 => rhs; unfold Dc.nilB
  obtain ⟨kind, table, cs, ks, name, to⟩ := t
  generalize Dc.nilB ⟨kind, table, cs, ks, name, to⟩ = R at HR0 ⊢
  simp only at HR0 hl1 hl2
  have HR : Hid (R = _) := HR0
  clear HR0
  go_enter Try.func61, Try.ntmps61
  go_wp2
  all_goals
    go_ret
    exact ⟨by rw [HR.out]; simp [noneB, *], (by repeat (first | with_reducible exact Below.refl _ _ | with_reducible assumption | with_reducible refine ch_alloc ?_ _ | with_reducible refine Below.drew ?_ | with_reducible refine below_draws _ ?_ | (with_reducible refine Below.setCell ?_ ?_ _; rotate_left; focus (first | with_reducible exact Nat.le_refl _ | (simp; done) | (simp; omega) | (simp at *; omega))) | with_reducible refine ch_trans ?_ (by with_reducible assumption)))⟩

set_option maxRecDepth 100000 in
set_option maxHeartbeats 1000000 in
/-- impl.noDdl -/
theorem nil_impl (x : Array Value) (t : Dc) (w : World) (hx : DdlV w x t) : Calls Try.prog 79 #[.agg x] w fun e w' => e = .returned (.bool t.nilB) ∧ Below w.heap.size w w' := by
  obtain ⟨a, p, o, q, rfl, hx, hc, hkk⟩ := hx.lit
  have hcap : t.cols.length ≤ 9223372036854775807 ∧ t.keys.length ≤ 9223372036854775807 := by
    obtain ⟨_, _, e, h1, h2, _⟩ := hc
    obtain ⟨_, _, e', h1', h2', _⟩ := hkk
    unfold maxLen at h2 h2'
    omega
  obtain ⟨hl1, hl2⟩ := hcap
  clear hx hc hkk
  have HR0 : t.nilB = t.nilB := rfl
  conv at HR0 => rhs; unfold Dc.nilB
  obtain ⟨kind, table, cs, ks, name, to⟩ := t
  generalize Dc.nilB ⟨kind, table, cs, ks, name, to⟩ = R at HR0 ⊢
  simp only at HR0 hl1 hl2
  have HR : Hid (R = _) := HR0
  clear HR0
  go_enter Try.func79, Try.ntmps79
  go_wp2
  all_goals
    go_ret
    exact ⟨by rw [HR.out]; simp [noneB, *], (by repeat (first | with_reducible exact Below.refl _ _ | with_reducible assumption | with_reducible refine ch_alloc ?_ _ | with_reducible refine Below.drew ?_ | with_reducible refine below_draws _ ?_ | (with_reducible refine Below.setCell ?_ ?_ _; rotate_left; focus (first | with_reducible exact Nat.le_refl _ | (simp; done) | (simp; omega) | (simp at *; omega))) | with_reducible refine ch_trans ?_ (by with_reducible assumption)))⟩
end Go.Proofs.Ytikccmgpmbnkfaa

namespace Go.Proofs.Ytikccmgpmbnkfaa
open Go.ChangeShapes Go.WideShapes Go.ChangeAt Go.RowKit

/-- What is written of a column. -/
def colL (c : Cl) : List UInt8 := textL c.name ++ [UInt8.ofNat c.ty.toNat] ++ [flagN c.nt, flagN c.has] ++ valL ⟨c.dt, c.dn, c.ds⟩
/-- Small enough to be written. -/
def Cl.small (c : Cl) : Prop := c.name.size ≤ 30 ∧ 0 ≤ c.ty ∧ okB c.dt c.dn c.ds = true
theorem colL_length {c : Cl} (h : c.small) : (colL c).length ≤ 66 := by
  have h1 := valL_length (c := ⟨c.dt, c.dn, c.ds⟩) h.2.2
  have h2 := h.1
  simp only [colL, List.length_append, textL_length, List.length_cons, List.length_nil]
  omega
theorem flat_col : ∀ cs : List Cl, (∀ c ∈ cs, c.small) → (cs.flatMap colL).length ≤ cs.length * 66
  | [], _ => by simp
  | c :: r, h => by
    have h1 := flat_col r fun x hx => h x (by simp [hx])
    have h2 := colL_length (h c (by simp))
    rw [List.flatMap_cons, List.length_append, List.length_cons, Nat.add_mul]
    omega
theorem bools_two {w : World} {c : Nat} {x y : Bool} (h : Own w c 4 #[.bool x, .bool y]) : RowAt w (some ⟨c, 0, none⟩) 1 ([x, y].map boolX) := by
  refine ⟨fun z hz => by simp at hz; rcases hz with rfl | rfl <;> rfl, Or.inr ⟨c, 0, rfl, fun i hi j hj => ?_⟩⟩
  obtain rfl : j = 0 := by omega
  obtain ⟨e0, e1⟩ := h.loc.two
  match i, hi with
  | 0, _ => simpa using e0
  | 1, _ => simpa using e1
theorem ints_two {w : World} {c : Nat} {x y : Int} (h : Own w c 3 #[.int .i64 x, .int .i64 y]) : IntsV w (.slice (some ⟨c, 0, none⟩) 2 2) [x, y] := by
  refine ⟨_, _, rfl, Nat.le_refl _, by unfold maxLen; simp, fun z hz => by simp at hz; rcases hz with rfl | rfl <;> rfl, Or.inr ⟨c, 0, rfl, fun i hi j hj => ?_⟩⟩
  obtain rfl : j = 0 := by omega
  obtain ⟨e0, e1⟩ := h.loc.two
  match i, hi with
  | 0, _ => simpa using e0
  | 1, _ => simpa using e1
theorem strs_two {w : World} {c : Nat} {x y : ByteArray} (h : Own w c 9 #[.string x, .string y]) : RowAt w (some ⟨c, 0, none⟩) 1 ([x, y].map strX) := by
  refine ⟨fun z hz => by simp at hz; rcases hz with rfl | rfl <;> rfl, Or.inr ⟨c, 0, rfl, fun i hi j hj => ?_⟩⟩
  obtain rfl : j = 0 := by omega
  obtain ⟨e0, e1⟩ := h.loc.two
  match i, hi with
  | 0, _ => simpa using e0
  | 1, _ => simpa using e1

set_option maxRecDepth 100000 in
set_option maxHeartbeats 2000000 in
/-- (*impl.byteWriter).cols -/
theorem cols_any (bw : Nat) (a : Option Addr) (cap : Nat) (cs : List Cl) (L : List UInt8) (w : World) (h : WIs w bw L) (hl : ∀ u, Wt bw w u → RowAt u a 7 (cs.map Cl.cells)) (hok : ∀ c ∈ cs, c.small) (hL : L.length ≤ 300000) (hcs : cs.length ≤ 1000) :
    Calls Try.prog 83 #[.pointer (some ⟨bw, 0, none⟩), .slice a cs.length cap] w fun e w' => e = .returned (.tuple #[]) ∧ WIs w' bw (L ++ cs.flatMap colL) ∧ Wt bw w w' := by
  have HL : Hid (∀ u, Wt bw w u → RowAt u a 7 (cs.map Cl.cells)) := hl
  have HW : Hid (WIs w bw L) := h
  have HZ : Hid (∀ c ∈ cs, c.small) := hok
  clear hl h hok
  go_enter Try.func83, Try.ntmps83
  go_wp2
  go_loopw [8] (fun i wr => ∃ k : Nat, k ≤ cs.length ∧ i = .int .i64 (k : Int) ∧ Hid (Wt bw w wr) ∧ Hid (WIs wr bw (L ++ (cs.take k).flatMap colL))) (fun i _ => cs.length - (intOf i).toNat)
  case atStart => exact ⟨0, Nat.zero_le _, rfl, Wt.refl _ _, by
    have := HW.out
    show WIs _ _ _
    simpa using this⟩
  case round =>
    clear HW
    obtain ⟨k, hk, rfl, HT, HW⟩ := hrel
    by_cases hlt : k < cs.length
    · have hlti : (k : Int) < cs.length := by omega
      obtain ⟨b, off, rfl, c0, c1, c2, c3, c4, c5, c6⟩ := (HL.out _ HT.out).cols k hlt
      have hlw := HW.out.lt
      have hlen : (L ++ (cs.take k).flatMap colL).length ≤ 370000 := by
        have h1 := flat_col (cs.take k) fun x hx => HZ.out x (List.mem_of_mem_take hx)
        have h2 : (cs.take k).length ≤ 1000 := by simp; omega
        rw [List.length_append]; omega
      have HFL : Hid ((L ++ (cs.take k).flatMap colL) ++ colL cs[k] = L ++ (cs.take (k + 1)).flatMap colL) := by
        show _ = _
        rw [List.take_succ_eq_append_getElem hlt, List.flatMap_append, List.append_assoc]
        simp
      have hok := HZ.out cs[k] (List.getElem_mem hlt)
      generalize L ++ (cs.take k).flatMap colL = L0 at HW hlen HFL
      generalize cs[k] = c at c0 c1 c2 c3 c4 c5 c6 HFL hok
      obtain ⟨name, ty, nt, has, dt, dn, ds⟩ := c
      obtain ⟨hn30, hty, hdef⟩ := hok
      simp only at c0 c1 c2 c3 c4 c5 c6 hn30 hty hdef
      obtain ⟨N, rfl⟩ : ∃ N : Nat, ty = (N : Int) := ⟨ty.toNat, by omega⟩
      have hd32 := valL_length (c := ⟨dt, dn, ds⟩) hdef
      have HDF : Hid (okB dt dn ds = true) := hdef
      clear hdef
      go_wp2_with fail
      refine (texts_any bw (some ⟨wr.heap.size + 1, 0, none⟩) 1 [name] L0 ((wr.alloc (.cells #[.string name, .int .i64 (N : Int), .bool nt, .bool has, .int .i64 dt, .int .i64 dn, .string ds] 121)).alloc (.cells #[.string name] 9)) (HW.out.on (by repeat (first | with_reducible exact Below.refl _ _ | with_reducible assumption | with_reducible refine ch_alloc ?_ _ | with_reducible refine Below.drew ?_ | with_reducible refine below_draws _ ?_ | (with_reducible refine Below.setCell ?_ ?_ _; rotate_left; focus (first | with_reducible exact Nat.le_refl _ | (simp; done) | (simp; omega) | (simp at *; omega))) | with_reducible refine ch_trans ?_ (by with_reducible assumption)))) (fun u hu => strs_one (hu.own (Own.at (wr.alloc (.cells #[.string name, .int .i64 (N : Int), .bool nt, .bool has, .int .i64 dt, .int .i64 dn, .string ds] 121)) _ _ (by simp)) (by omega) (by decide))) (by simpa using hn30) (by omega) (by simp)).mono ?_
      rintro e w1 ⟨rfl, hw1, ht1⟩
      have HW1 : Hid (WIs w1 bw (L0 ++ textL name)) := by show WIs _ _ _; simpa using hw1
      have HV1 : Own w1 wr.heap.size 121 #[.string name, .int .i64 (N : Int), .bool nt, .bool has, .int .i64 dt, .int .i64 dn, .string ds] := ht1.own ((Own.new _ _ _).on (ch_alloc (Below.refl _ _) _)) (by omega) (by decide)
      have hlw1 : bw < w1.heap.size := hw1.lt
      have HT1 : Hid (Wt bw w w1) := HT.out.trans ((Wt.new (show Below wr.heap.size wr ((wr.alloc (.cells #[.string name, .int .i64 (N : Int), .bool nt, .bool has, .int .i64 dt, .int .i64 dn, .string ds] 121)).alloc (.cells #[.string name] 9)) from (by repeat (first | with_reducible exact Below.refl _ _ | with_reducible assumption | with_reducible refine ch_alloc ?_ _ | with_reducible refine Below.drew ?_ | with_reducible refine below_draws _ ?_ | (with_reducible refine Below.setCell ?_ ?_ _; rotate_left; focus (first | with_reducible exact Nat.le_refl _ | (simp; done) | (simp; omega) | (simp at *; omega))) | with_reducible refine ch_trans ?_ (by with_reducible assumption)))) (by omega)).trans ht1)
      have hvw1 : wr.heap.size < w1.heap.size := HV1.lt
      have HV1' : Hid (Own w1 wr.heap.size 121 #[.string name, .int .i64 (N : Int), .bool nt, .bool has, .int .i64 dt, .int .i64 dn, .string ds]) := HV1
      obtain ⟨d0, d1, d2, d3, d4, d5, d6⟩ := HV1.loc.seven
      clear hw1 ht1 HV1 HW
      go_wp2_with fail
      refine (nums_one bw w1.heap.size 1 N (L0 ++ textL name) (w1.alloc (.cells #[.int .i64 (N : Int)] 3)) (HW1.out.on (by repeat (first | with_reducible exact Below.refl _ _ | with_reducible assumption | with_reducible refine ch_alloc ?_ _ | with_reducible refine Below.drew ?_ | with_reducible refine below_draws _ ?_ | (with_reducible refine Below.setCell ?_ ?_ _; rotate_left; focus (first | with_reducible exact Nat.le_refl _ | (simp; done) | (simp; omega) | (simp at *; omega))) | with_reducible refine ch_trans ?_ (by with_reducible assumption)))) (Own.new _ _ _) (by omega) (by omega) (by simp [textL_length]; omega)).mono ?_
      rintro e w2 ⟨rfl, hw2, ht2⟩
      have HW2 : Hid (WIs w2 bw (L0 ++ textL name ++ numL N 1)) := hw2
      have HV2 : Hid (Own w2 wr.heap.size 121 #[.string name, .int .i64 (N : Int), .bool nt, .bool has, .int .i64 dt, .int .i64 dn, .string ds]) := ht2.own (HV1'.out.on (ch_alloc (Below.refl _ _) _)) (by omega) (by decide)
      have HT2 : Hid (Wt bw w w2) := HT1.out.trans ((Wt.new (ch_alloc (Below.refl _ _) _) (by omega)).trans ht2)
      have hlw2 : bw < w2.heap.size := hw2.lt
      have hvw2 := HV2.out.lt
      clear hw2 ht2 HW1 HT1 HV1' d0 d1 d2 d3 d4 d5 d6
      obtain ⟨d0, d1, d2, d3, d4, d5, d6⟩ := HV2.out.loc.seven
      go_wp2_with fail
      refine (flags_any bw (some ⟨w2.heap.size, 0, none⟩) 2 [nt, has] (L0 ++ textL name ++ numL N 1) (w2.alloc (.cells #[.bool nt, .bool has] 4)) (HW2.out.on (by repeat (first | with_reducible exact Below.refl _ _ | with_reducible assumption | with_reducible refine ch_alloc ?_ _ | with_reducible refine Below.drew ?_ | with_reducible refine below_draws _ ?_ | (with_reducible refine Below.setCell ?_ ?_ _; rotate_left; focus (first | with_reducible exact Nat.le_refl _ | (simp; done) | (simp; omega) | (simp at *; omega))) | with_reducible refine ch_trans ?_ (by with_reducible assumption)))) (fun u hu => bools_two (hu.own (Own.new _ _ _) (by omega) (by decide))) (by simp [textL_length, numL_length]; omega) (by simp)).mono ?_
      rintro e w3 ⟨rfl, hw3, ht3⟩
      have HW3 : Hid (WIs w3 bw (L0 ++ textL name ++ numL N 1 ++ [flagN nt, flagN has])) := by show WIs _ _ _; simpa using hw3
      have HV3 : Hid (Own w3 wr.heap.size 121 #[.string name, .int .i64 (N : Int), .bool nt, .bool has, .int .i64 dt, .int .i64 dn, .string ds]) := ht3.own (HV2.out.on (ch_alloc (Below.refl _ _) _)) (by omega) (by decide)
      have HT3 : Hid (Wt bw w w3) := HT2.out.trans ((Wt.new (ch_alloc (Below.refl _ _) _) (by omega)).trans ht3)
      have hlw3 : bw < w3.heap.size := hw3.lt
      have hvw3 := HV3.out.lt
      clear hw3 ht3 HW2 HT2 HV2 d0 d1 d2 d3 d4 d5 d6
      obtain ⟨d0, d1, d2, d3, d4, d5, d6⟩ := HV3.out.loc.seven
      go_wp2_with fail
      refine (vals_any bw (some ⟨w3.heap.size, 0, none⟩) 1 [⟨dt, dn, ds⟩] (L0 ++ textL name ++ numL N 1 ++ [flagN nt, flagN has]) (w3.alloc (.cells #[.int .i64 dt, .int .i64 dn, .string ds] 118)) (HW3.out.on (by repeat (first | with_reducible exact Below.refl _ _ | with_reducible assumption | with_reducible refine ch_alloc ?_ _ | with_reducible refine Below.drew ?_ | with_reducible refine below_draws _ ?_ | (with_reducible refine Below.setCell ?_ ?_ _; rotate_left; focus (first | with_reducible exact Nat.le_refl _ | (simp; done) | (simp; omega) | (simp at *; omega))) | with_reducible refine ch_trans ?_ (by with_reducible assumption)))) (fun u hu => (hu.own (Own.new w3 118 #[.int .i64 dt, .int .i64 dn, .string ds]) (by omega) (by decide)).loc.row1 rfl) (by simpa using HDF.out) (by simp [textL_length, numL_length]; omega) (by simp)).mono ?_
      rintro e w4 ⟨rfl, hw4, ht4⟩
      have HW4 : Hid (WIs w4 bw (L0 ++ colL ⟨name, (N : Int), nt, has, dt, dn, ds⟩)) := by
        have e1 : (L0 ++ textL name ++ numL N 1 ++ [flagN nt, flagN has]) ++ [(⟨dt, dn, ds⟩ : Vc)].flatMap valL = L0 ++ colL ⟨name, (N : Int), nt, has, dt, dn, ds⟩ := by simp [colL, numL_one]
        show WIs _ _ _
        rw [← e1]; exact hw4
      have HT4 : Hid (Wt bw w w4) := HT3.out.trans ((Wt.new (ch_alloc (Below.refl _ _) _) (by omega)).trans ht4)
      clear hw4 ht4 HW3 HT3 HV3 d0 d1 d2 d3 d4 d5 d6
      go_wp2
      go_round
      case rel => exact ⟨k + 1, by omega, by go_num, HT4, by
        show WIs _ _ _
        rw [← HFL.out]
        exact HW4.out⟩
      case measure => simp [intOf]; omega
    · have hlti : (cs.length : Int) ≤ k := by omega
      have HW' : Hid (WIs wr bw (L ++ cs.flatMap colL)) := by
        have := HW.out
        rwa [List.take_of_length_le (by omega)] at this
      go_wp2
      go_end0
      exact ⟨rfl, HW'.out, HT.out⟩
end Go.Proofs.Ytikccmgpmbnkfaa
