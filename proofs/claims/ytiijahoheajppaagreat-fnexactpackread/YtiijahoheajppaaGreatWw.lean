/- A Bool for a Prop. Whether a value may stand in a column, given and landed. Whether a statement is right, given and landed. The writer of bytes: columns, changes. The writer of bytes: changes. -/
import Derived.Test.YtiijahoheajppaaGreatCh
import Derived.Test.YtiijahoheajppaaGreatVs
import Derived.Test.YtiijahoheajppaaGreatValOk
import Derived.Test.YtiijahoheajppaaGreatSt
import Derived.Test.YtiijahoheajppaaGreatDdOkI
import Derived.Test.YtiijahoheajppaaGreatCt
namespace Go.Proofs.YtiijahoheajppaaGreat
theorem bool_of (p : Prop) : ∃ q : Bool, q = true ↔ p := by
  by_cases h : p
  · exact ⟨true, by simp [h]⟩
  · exact ⟨false, by simp [h]⟩
end Go.Proofs.YtiijahoheajppaaGreat

namespace Go.Proofs.YtiijahoheajppaaGreat
open Go.ChangeShapes Go.WideShapes Go.ChangeAt Go.RowKit

/-- Whether a value may stand in a column. -/
def fitsB (c : Cl) (v : Vc) : Bool := okB v.ty v.n v.s && (if v.ty = 0 then !c.nt else v.ty == c.ty)

end Go.Proofs.YtiijahoheajppaaGreat

namespace Go.Proofs.YtiijahoheajppaaGreat
open Go.ChangeShapes Go.WideShapes Go.ChangeAt Go.RowKit

/-- No change. -/
def Dc.nil (d : Dc) : Prop := d.kind = 0 ∧ noneB d.table = true ∧ d.cols.length = 0 ∧ d.keys.length = 0 ∧ noneB d.name = true ∧ noneB d.to = true
/-- A statement is right. -/
def Sc.right (s : Sc) : Prop := wordB s.table = true ∧
  ((s.kind = 1 ∧ s.key.length = 0 ∧ someV s.row ∧ s.ddl.nil) ∨
  (s.kind = 2 ∧ someV s.key ∧ someV s.row ∧ s.ddl.nil) ∨
  (s.kind = 3 ∧ someV s.key ∧ s.row.length = 0 ∧ s.ddl.nil) ∨
  (s.kind = 4 ∧ s.key.length = 0 ∧ s.row.length = 0 ∧ s.ddl.nil) ∨
  (s.kind = 5 ∧ s.key.length = 0 ∧ s.row.length = 0 ∧ s.ddl.right ∧ s.ddl.table = s.table))

set_option maxRecDepth 100000 in
set_option maxHeartbeats 1000000 in
/-- spec.l04Vals -/
theorem someV_spec (v : Value) (l : List Vc) (w : World) (hv : ValsV w v l) : Calls Tryz.prog 99 #[v] w fun e w' => ∃ q : Bool, e = .returned (.bool q) ∧ (q = true ↔ someV l) ∧ Below w.heap.size w w' := by
  obtain ⟨a, p, rfl, hl, hm, hv⟩ := hv.lit
  unfold maxLen at hm
  have HV : Hid (ValsV w (.slice a l.length p) l) := hv
  clear hv
  go_enter Tryz.func99, Tryz.ntmps99
  go_wp2
  go_loopw [7] (fun i wr => ∃ k : Nat, k ≤ l.length ∧ i = .int .i64 k ∧ Below w.heap.size w wr ∧ Hid (∀ i (h : i < l.length), i < k → okB l[i].ty l[i].n l[i].s = true)) (fun i _ => l.length - (intOf i).toNat)
  case atStart => exact ⟨0, Nat.zero_le _, rfl, (by repeat (first | with_reducible exact Below.refl _ _ | with_reducible assumption | with_reducible refine ch_alloc ?_ _ | with_reducible refine Below.drew ?_ | with_reducible refine below_draws _ ?_ | (with_reducible refine Below.setCell ?_ ?_ _; rotate_left; focus (first | with_reducible exact Nat.le_refl _ | (simp; done) | (simp; omega) | (simp at *; omega))) | with_reducible refine ch_trans ?_ (by with_reducible assumption))), fun i h hi => by omega⟩
  case round =>
    obtain ⟨k, hk, rfl, hb, HN⟩ := hrel
    by_cases hlt : k < l.length
    · have hlti : (k : Int) < l.length := by omega
      obtain ⟨b, off, rfl, d0, d1, d2⟩ := (HV.out.on hb).row.vals k hlt
      have HS : Hid (∀ u : World, Calls Tryz.prog 127 #[V l[k].ty l[k].n l[k].s] u fun e w' => e = .returned (.bool (okB l[k].ty l[k].n l[k].s)) ∧ Below u.heap.size u w') := fun u => (ok_spec _ _ _ u).mono fun e w' ⟨h1, h2⟩ => ⟨h1, by rw [h2]; exact ch_alloc (Below.refl _ _) _⟩
      have HE : Hid (someV l → okB l[k].ty l[k].n l[k].s = true) := fun h => h.2.2 k hlt
      have HG : Hid (okB l[k].ty l[k].n l[k].s = true → ∀ i (h : i < l.length), i < k + 1 → okB l[i].ty l[i].n l[i].s = true) := fun hq i h hi => by
        by_cases e : i = k
        · subst e; exact hq
        · exact HN.out i h (by omega)
      generalize okB l[k].ty l[k].n l[k].s = q at HS HE HG
      go_wp2_with fail
      refine (HS.out _).mono ?_
      rintro e w1 ⟨rfl, b1⟩
      have hb1 : Below w.heap.size w w1 := (by repeat (first | with_reducible exact Below.refl _ _ | with_reducible assumption | with_reducible refine ch_alloc ?_ _ | with_reducible refine Below.drew ?_ | with_reducible refine below_draws _ ?_ | (with_reducible refine Below.setCell ?_ ?_ _; rotate_left; focus (first | with_reducible exact Nat.le_refl _ | (simp; done) | (simp; omega) | (simp at *; omega))) | with_reducible refine ch_trans ?_ (by with_reducible assumption)))
      clear b1
      cases q
      · have HB : Hid (¬ someV l) := fun h => by have := HE.out h; cases this
        go_wp2
        go_ret
        exact ⟨_, rfl, ⟨fun h => by simp at h, fun h => absurd h HB.out⟩, hb1⟩
      · have HN' : Hid (∀ i (h : i < l.length), i < k + 1 → okB l[i].ty l[i].n l[i].s = true) := HG.out rfl
        go_wp2
        go_round
        case rel => exact ⟨k + 1, by omega, by go_num, hb1, HN'⟩
        case measure => simp [intOf]; omega
    · have hlti : (l.length : Int) ≤ k := by omega
      have HA : Hid (∀ i (h : i < l.length), okB l[i].ty l[i].n l[i].s = true) := fun i h => HN.out i h (by omega)
      by_cases h1 : 1 ≤ l.length
      · have h1' : decide ((1 : Int) ≤ l.length) = true := by simp; omega
        have h1n : decide (1 ≤ l.length) = true := by simp; omega
        by_cases h8 : l.length ≤ 8
        · have h8' : decide ((l.length : Int) ≤ 8) = true := by simp; omega
          have h8n : decide (l.length ≤ 8) = true := by simp; omega
          have HY : Hid (someV l) := ⟨h1, h8, HA.out⟩
          clear h1 h8
          go_wp2
          go_ret
          exact ⟨_, rfl, ⟨fun _ => HY.out, fun _ => rfl⟩, hb⟩
        · have h8' : decide ((l.length : Int) ≤ 8) = false := by simp; omega
          have HB : Hid (¬ someV l) := fun h => h8 h.2.1
          clear h1 h8
          go_wp2
          go_ret
          exact ⟨_, rfl, ⟨fun h => by simp at h, fun h => absurd h HB.out⟩, hb⟩
      · have h1' : decide ((1 : Int) ≤ l.length) = false := by simp; omega
        have HB : Hid (¬ someV l) := fun h => h1 h.1
        clear h1
        go_wp2
        go_ret
        exact ⟨_, rfl, ⟨fun h => by simp at h, fun h => absurd h HB.out⟩, hb⟩

def Dc.nilB (d : Dc) : Bool := decide (d.kind = 0) && noneB d.table && decide (d.cols.length = 0) && decide (d.keys.length = 0) && noneB d.name && noneB d.to
theorem Dc.nilB_iff (d : Dc) : d.nilB = true ↔ d.nil := by
  unfold Dc.nilB Dc.nil
  simp [and_assoc]

set_option maxRecDepth 100000 in
set_option maxHeartbeats 1000000 in
/-- spec.l04NoDdl -/
theorem nil_spec (x : Array Value) (t : Dc) (w : World) (hx : DdlV w x t) : Calls Tryz.prog 100 #[.agg x] w fun e w' => e = .returned (.bool t.nilB) ∧ Below w.heap.size w w' := by
  obtain ⟨a, p, o, q, rfl, hx, hc, hkk⟩ := hx.lit
  have hcap : t.cols.length ≤ 9223372036854775807 ∧ t.keys.length ≤ 9223372036854775807 := by
    obtain ⟨_, _, e, h1, h2, _⟩ := hc
    obtain ⟨_, _, e', h1', h2', _⟩ := hkk
    unfold maxLen at h2 h2'
    omega
  obtain ⟨hl1, hl2⟩ := hcap
  clear hx hc hkk
  have HR0 : t.nilB = t.nilB := rfl
  conv at HR0 => rhs; unfold Dc.nilB
  obtain ⟨kind, table, cs, ks, name, to⟩ := t
  generalize Dc.nilB ⟨kind, table, cs, ks, name, to⟩ = R at HR0 ⊢
  simp only at HR0 hl1 hl2
  have HR : Hid (R = _) := HR0
  clear HR0
  go_enter Tryz.func100, Tryz.ntmps100
  go_wp2
  all_goals
    go_ret
    exact ⟨by rw [HR.out]; simp [noneB, *], (by repeat (first | with_reducible exact Below.refl _ _ | with_reducible assumption | with_reducible refine ch_alloc ?_ _ | with_reducible refine Below.drew ?_ | with_reducible refine below_draws _ ?_ | (with_reducible refine Below.setCell ?_ ?_ _; rotate_left; focus (first | with_reducible exact Nat.le_refl _ | (simp; done) | (simp; omega) | (simp at *; omega))) | with_reducible refine ch_trans ?_ (by with_reducible assumption)))⟩

set_option maxRecDepth 100000 in
set_option maxHeartbeats 1000000 in
/-- impl.noDdl -/
theorem nil_impl (x : Array Value) (t : Dc) (w : World) (hx : DdlV w x t) : Calls Tryz.prog 119 #[.agg x] w fun e w' => e = .returned (.bool t.nilB) ∧ Below w.heap.size w w' := by
  obtain ⟨a, p, o, q, rfl, hx, hc, hkk⟩ := hx.lit
  have hcap : t.cols.length ≤ 9223372036854775807 ∧ t.keys.length ≤ 9223372036854775807 := by
    obtain ⟨_, _, e, h1, h2, _⟩ := hc
    obtain ⟨_, _, e', h1', h2', _⟩ := hkk
    unfold maxLen at h2 h2'
    omega
  obtain ⟨hl1, hl2⟩ := hcap
  clear hx hc hkk
  have HR0 : t.nilB = t.nilB := rfl
  conv at HR0 => rhs; unfold Dc.nilB
  obtain ⟨kind, table, cs, ks, name, to⟩ := t
  generalize Dc.nilB ⟨kind, table, cs, ks, name, to⟩ = R at HR0 ⊢
  simp only at HR0 hl1 hl2
  have HR : Hid (R = _) := HR0
  clear HR0
  go_enter Tryz.func119, Tryz.ntmps119
  go_wp2
  all_goals
    go_ret
    exact ⟨by rw [HR.out]; simp [noneB, *], (by repeat (first | with_reducible exact Below.refl _ _ | with_reducible assumption | with_reducible refine ch_alloc ?_ _ | with_reducible refine Below.drew ?_ | with_reducible refine below_draws _ ?_ | (with_reducible refine Below.setCell ?_ ?_ _; rotate_left; focus (first | with_reducible exact Nat.le_refl _ | (simp; done) | (simp; omega) | (simp at *; omega))) | with_reducible refine ch_trans ?_ (by with_reducible assumption)))⟩
end Go.Proofs.YtiijahoheajppaaGreat

namespace Go.Proofs.YtiijahoheajppaaGreat
open Go.ChangeShapes Go.WideShapes Go.ChangeAt Go.RowKit

/-- What is written of a column. -/
def colL (c : Cl) : List UInt8 := textL c.name ++ [UInt8.ofNat c.ty.toNat] ++ [flagN c.nt, flagN c.has] ++ valL ⟨c.dt, c.dn, c.ds⟩
/-- Small enough to be written. -/
def Cl.small (c : Cl) : Prop := c.name.size ≤ 30 ∧ 0 ≤ c.ty ∧ okB c.dt c.dn c.ds = true
theorem colL_length {c : Cl} (h : c.small) : (colL c).length ≤ 66 := by
  have h1 := valL_length (c := ⟨c.dt, c.dn, c.ds⟩) h.2.2
  have h2 := h.1
  simp only [colL, List.length_append, textL_length, List.length_cons, List.length_nil]
  omega
theorem flat_col : ∀ cs : List Cl, (∀ c ∈ cs, c.small) → (cs.flatMap colL).length ≤ cs.length * 66
  | [], _ => by simp
  | c :: r, h => by
    have h1 := flat_col r fun x hx => h x (by simp [hx])
    have h2 := colL_length (h c (by simp))
    rw [List.flatMap_cons, List.length_append, List.length_cons, Nat.add_mul]
    omega
theorem bools_two {w : World} {c : Nat} {x y : Bool} (h : Own w c 4 #[.bool x, .bool y]) : RowAt w (some ⟨c, 0, none⟩) 1 ([x, y].map boolX) := by
  refine ⟨fun z hz => by simp at hz; rcases hz with rfl | rfl <;> rfl, Or.inr ⟨c, 0, rfl, fun i hi j hj => ?_⟩⟩
  obtain rfl : j = 0 := by omega
  obtain ⟨e0, e1⟩ := h.loc.two
  match i, hi with
  | 0, _ => simpa using e0
  | 1, _ => simpa using e1
theorem ints_two {w : World} {c : Nat} {x y : Int} (h : Own w c 3 #[.int .i64 x, .int .i64 y]) : IntsV w (.slice (some ⟨c, 0, none⟩) 2 2) [x, y] := by
  refine ⟨_, _, rfl, Nat.le_refl _, by unfold maxLen; simp, fun z hz => by simp at hz; rcases hz with rfl | rfl <;> rfl, Or.inr ⟨c, 0, rfl, fun i hi j hj => ?_⟩⟩
  obtain rfl : j = 0 := by omega
  obtain ⟨e0, e1⟩ := h.loc.two
  match i, hi with
  | 0, _ => simpa using e0
  | 1, _ => simpa using e1
theorem strs_two {w : World} {c : Nat} {x y : ByteArray} (h : Own w c 9 #[.string x, .string y]) : RowAt w (some ⟨c, 0, none⟩) 1 ([x, y].map strX) := by
  refine ⟨fun z hz => by simp at hz; rcases hz with rfl | rfl <;> rfl, Or.inr ⟨c, 0, rfl, fun i hi j hj => ?_⟩⟩
  obtain rfl : j = 0 := by omega
  obtain ⟨e0, e1⟩ := h.loc.two
  match i, hi with
  | 0, _ => simpa using e0
  | 1, _ => simpa using e1

set_option maxRecDepth 100000 in
set_option maxHeartbeats 2000000 in
/-- (*impl.byteWriter).cols -/
theorem cols_any (bw : Nat) (a : Option Addr) (cap : Nat) (cs : List Cl) (L : List UInt8) (w : World) (h : WIs w bw L) (hl : ∀ u, Wt bw w u → RowAt u a 7 (cs.map Cl.cells)) (hok : ∀ c ∈ cs, c.small) (hL : L.length ≤ 300000) (hcs : cs.length ≤ 1000) :
    Calls Tryz.prog 122 #[.pointer (some ⟨bw, 0, none⟩), .slice a cs.length cap] w fun e w' => e = .returned (.tuple #[]) ∧ WIs w' bw (L ++ cs.flatMap colL) ∧ Wt bw w w' := by
  have HL : Hid (∀ u, Wt bw w u → RowAt u a 7 (cs.map Cl.cells)) := hl
  have HW : Hid (WIs w bw L) := h
  have HZ : Hid (∀ c ∈ cs, c.small) := hok
  clear hl h hok
  go_enter Tryz.func122, Tryz.ntmps122
  go_wp2
  go_loopw [8] (fun i wr => ∃ k : Nat, k ≤ cs.length ∧ i = .int .i64 (k : Int) ∧ Hid (Wt bw w wr) ∧ Hid (WIs wr bw (L ++ (cs.take k).flatMap colL))) (fun i _ => cs.length - (intOf i).toNat)
  case atStart => exact ⟨0, Nat.zero_le _, rfl, Wt.refl _ _, by
    have := HW.out
    show WIs _ _ _
    simpa using this⟩
  case round =>
    clear HW
    obtain ⟨k, hk, rfl, HT, HW⟩ := hrel
    by_cases hlt : k < cs.length
    · have hlti : (k : Int) < cs.length := by omega
      obtain ⟨b, off, rfl, c0, c1, c2, c3, c4, c5, c6⟩ := (HL.out _ HT.out).cols k hlt
      have hlw := HW.out.lt
      have hlen : (L ++ (cs.take k).flatMap colL).length ≤ 370000 := by
        have h1 := flat_col (cs.take k) fun x hx => HZ.out x (List.mem_of_mem_take hx)
        have h2 : (cs.take k).length ≤ 1000 := by simp; omega
        rw [List.length_append]; omega
      have HFL : Hid ((L ++ (cs.take k).flatMap colL) ++ colL cs[k] = L ++ (cs.take (k + 1)).flatMap colL) := by
        show _ = _
        rw [List.take_succ_eq_append_getElem hlt, List.flatMap_append, List.append_assoc]
        simp
      have hok := HZ.out cs[k] (List.getElem_mem hlt)
      generalize L ++ (cs.take k).flatMap colL = L0 at HW hlen HFL
      generalize cs[k] = c at c0 c1 c2 c3 c4 c5 c6 HFL hok
      obtain ⟨name, ty, nt, has, dt, dn, ds⟩ := c
      obtain ⟨hn30, hty, hdef⟩ := hok
      simp only at c0 c1 c2 c3 c4 c5 c6 hn30 hty hdef
      obtain ⟨N, rfl⟩ : ∃ N : Nat, ty = (N : Int) := ⟨ty.toNat, by omega⟩
      have hd32 := valL_length (c := ⟨dt, dn, ds⟩) hdef
      have HDF : Hid (okB dt dn ds = true) := hdef
      clear hdef
      go_wp2_with fail
      refine (texts_any bw (some ⟨wr.heap.size + 1, 0, none⟩) 1 [name] L0 ((wr.alloc (.cells #[.string name, .int .i64 (N : Int), .bool nt, .bool has, .int .i64 dt, .int .i64 dn, .string ds] 131)).alloc (.cells #[.string name] 9)) (HW.out.on (by repeat (first | with_reducible exact Below.refl _ _ | with_reducible assumption | with_reducible refine ch_alloc ?_ _ | with_reducible refine Below.drew ?_ | with_reducible refine below_draws _ ?_ | (with_reducible refine Below.setCell ?_ ?_ _; rotate_left; focus (first | with_reducible exact Nat.le_refl _ | (simp; done) | (simp; omega) | (simp at *; omega))) | with_reducible refine ch_trans ?_ (by with_reducible assumption)))) (fun u hu => strs_one (hu.own (Own.at (wr.alloc (.cells #[.string name, .int .i64 (N : Int), .bool nt, .bool has, .int .i64 dt, .int .i64 dn, .string ds] 131)) _ _ (by simp)) (by omega) (by decide))) (by simpa using hn30) (by omega) (by simp)).mono ?_
      rintro e w1 ⟨rfl, hw1, ht1⟩
      have HW1 : Hid (WIs w1 bw (L0 ++ textL name)) := by show WIs _ _ _; simpa using hw1
      have HV1 : Own w1 wr.heap.size 131 #[.string name, .int .i64 (N : Int), .bool nt, .bool has, .int .i64 dt, .int .i64 dn, .string ds] := ht1.own ((Own.new _ _ _).on (ch_alloc (Below.refl _ _) _)) (by omega) (by decide)
      have hlw1 : bw < w1.heap.size := hw1.lt
      have HT1 : Hid (Wt bw w w1) := HT.out.trans ((Wt.new (show Below wr.heap.size wr ((wr.alloc (.cells #[.string name, .int .i64 (N : Int), .bool nt, .bool has, .int .i64 dt, .int .i64 dn, .string ds] 131)).alloc (.cells #[.string name] 9)) from (by repeat (first | with_reducible exact Below.refl _ _ | with_reducible assumption | with_reducible refine ch_alloc ?_ _ | with_reducible refine Below.drew ?_ | with_reducible refine below_draws _ ?_ | (with_reducible refine Below.setCell ?_ ?_ _; rotate_left; focus (first | with_reducible exact Nat.le_refl _ | (simp; done) | (simp; omega) | (simp at *; omega))) | with_reducible refine ch_trans ?_ (by with_reducible assumption)))) (by omega)).trans ht1)
      have hvw1 : wr.heap.size < w1.heap.size := HV1.lt
      have HV1' : Hid (Own w1 wr.heap.size 131 #[.string name, .int .i64 (N : Int), .bool nt, .bool has, .int .i64 dt, .int .i64 dn, .string ds]) := HV1
      obtain ⟨d0, d1, d2, d3, d4, d5, d6⟩ := HV1.loc.seven
      clear hw1 ht1 HV1 HW
      go_wp2_with fail
      refine (nums_one bw w1.heap.size 1 N (L0 ++ textL name) (w1.alloc (.cells #[.int .i64 (N : Int)] 3)) (HW1.out.on (by repeat (first | with_reducible exact Below.refl _ _ | with_reducible assumption | with_reducible refine ch_alloc ?_ _ | with_reducible refine Below.drew ?_ | with_reducible refine below_draws _ ?_ | (with_reducible refine Below.setCell ?_ ?_ _; rotate_left; focus (first | with_reducible exact Nat.le_refl _ | (simp; done) | (simp; omega) | (simp at *; omega))) | with_reducible refine ch_trans ?_ (by with_reducible assumption)))) (Own.new _ _ _) (by omega) (by omega) (by simp [textL_length]; omega)).mono ?_
      rintro e w2 ⟨rfl, hw2, ht2⟩
      have HW2 : Hid (WIs w2 bw (L0 ++ textL name ++ numL N 1)) := hw2
      have HV2 : Hid (Own w2 wr.heap.size 131 #[.string name, .int .i64 (N : Int), .bool nt, .bool has, .int .i64 dt, .int .i64 dn, .string ds]) := ht2.own (HV1'.out.on (ch_alloc (Below.refl _ _) _)) (by omega) (by decide)
      have HT2 : Hid (Wt bw w w2) := HT1.out.trans ((Wt.new (ch_alloc (Below.refl _ _) _) (by omega)).trans ht2)
      have hlw2 : bw < w2.heap.size := hw2.lt
      have hvw2 := HV2.out.lt
      clear hw2 ht2 HW1 HT1 HV1' d0 d1 d2 d3 d4 d5 d6
      obtain ⟨d0, d1, d2, d3, d4, d5, d6⟩ := HV2.out.loc.seven
      go_wp2_with fail
      refine (flags_any bw (some ⟨w2.heap.size, 0, none⟩) 2 [nt, has] (L0 ++ textL name ++ numL N 1) (w2.alloc (.cells #[.bool nt, .bool has] 4)) (HW2.out.on (by repeat (first | with_reducible exact Below.refl _ _ | with_reducible assumption | with_reducible refine ch_alloc ?_ _ | with_reducible refine Below.drew ?_ | with_reducible refine below_draws _ ?_ | (with_reducible refine Below.setCell ?_ ?_ _; rotate_left; focus (first | with_reducible exact Nat.le_refl _ | (simp; done) | (simp; omega) | (simp at *; omega))) | with_reducible refine ch_trans ?_ (by with_reducible assumption)))) (fun u hu => bools_two (hu.own (Own.new _ _ _) (by omega) (by decide))) (by simp [textL_length, numL_length]; omega) (by simp)).mono ?_
      rintro e w3 ⟨rfl, hw3, ht3⟩
      have HW3 : Hid (WIs w3 bw (L0 ++ textL name ++ numL N 1 ++ [flagN nt, flagN has])) := by show WIs _ _ _; simpa using hw3
      have HV3 : Hid (Own w3 wr.heap.size 131 #[.string name, .int .i64 (N : Int), .bool nt, .bool has, .int .i64 dt, .int .i64 dn, .string ds]) := ht3.own (HV2.out.on (ch_alloc (Below.refl _ _) _)) (by omega) (by decide)
      have HT3 : Hid (Wt bw w w3) := HT2.out.trans ((Wt.new (ch_alloc (Below.refl _ _) _) (by omega)).trans ht3)
      have hlw3 : bw < w3.heap.size := hw3.lt
      have hvw3 := HV3.out.lt
      clear hw3 ht3 HW2 HT2 HV2 d0 d1 d2 d3 d4 d5 d6
      obtain ⟨d0, d1, d2, d3, d4, d5, d6⟩ := HV3.out.loc.seven
      go_wp2_with fail
      refine (vals_any bw (some ⟨w3.heap.size, 0, none⟩) 1 [⟨dt, dn, ds⟩] (L0 ++ textL name ++ numL N 1 ++ [flagN nt, flagN has]) (w3.alloc (.cells #[.int .i64 dt, .int .i64 dn, .string ds] 128)) (HW3.out.on (by repeat (first | with_reducible exact Below.refl _ _ | with_reducible assumption | with_reducible refine ch_alloc ?_ _ | with_reducible refine Below.drew ?_ | with_reducible refine below_draws _ ?_ | (with_reducible refine Below.setCell ?_ ?_ _; rotate_left; focus (first | with_reducible exact Nat.le_refl _ | (simp; done) | (simp; omega) | (simp at *; omega))) | with_reducible refine ch_trans ?_ (by with_reducible assumption)))) (fun u hu => (hu.own (Own.new w3 128 #[.int .i64 dt, .int .i64 dn, .string ds]) (by omega) (by decide)).loc.row1 rfl) (by simpa using HDF.out) (by simp [textL_length, numL_length]; omega) (by simp)).mono ?_
      rintro e w4 ⟨rfl, hw4, ht4⟩
      have HW4 : Hid (WIs w4 bw (L0 ++ colL ⟨name, (N : Int), nt, has, dt, dn, ds⟩)) := by
        have e1 : (L0 ++ textL name ++ numL N 1 ++ [flagN nt, flagN has]) ++ [(⟨dt, dn, ds⟩ : Vc)].flatMap valL = L0 ++ colL ⟨name, (N : Int), nt, has, dt, dn, ds⟩ := by simp [colL, numL_one]
        show WIs _ _ _
        rw [← e1]; exact hw4
      have HT4 : Hid (Wt bw w w4) := HT3.out.trans ((Wt.new (ch_alloc (Below.refl _ _) _) (by omega)).trans ht4)
      clear hw4 ht4 HW3 HT3 HV3 d0 d1 d2 d3 d4 d5 d6
      go_wp2
      go_round
      case rel => exact ⟨k + 1, by omega, by go_num, HT4, by
        show WIs _ _ _
        rw [← HFL.out]
        exact HW4.out⟩
      case measure => simp [intOf]; omega
    · have hlti : (cs.length : Int) ≤ k := by omega
      have HW' : Hid (WIs wr bw (L ++ cs.flatMap colL)) := by
        have := HW.out
        rwa [List.take_of_length_le (by omega)] at this
      go_wp2
      go_end0
      exact ⟨rfl, HW'.out, HT.out⟩
end Go.Proofs.YtiijahoheajppaaGreat

namespace Go.Proofs.YtiijahoheajppaaGreat
open Go.ChangeShapes Go.WideShapes Go.ChangeAt Go.RowKit

/-- What is written of a change. -/
def ddlL (d : Dc) : List UInt8 := [UInt8.ofNat d.kind.toNat, UInt8.ofNat d.cols.length] ++ d.cols.flatMap colL ++ [UInt8.ofNat d.keys.length] ++ d.keys.flatMap textL ++ textL d.name ++ textL d.to
/-- Small enough to be written. -/
def Dc.small (d : Dc) : Prop := 0 ≤ d.kind ∧ d.cols.length ≤ 8 ∧ (∀ c ∈ d.cols, c.small) ∧ d.keys.length ≤ 8 ∧ (∀ s ∈ d.keys, s.size ≤ 30) ∧ d.name.size ≤ 30 ∧ d.to.size ≤ 30
theorem ddlL_length {d : Dc} (h : d.small) : (ddlL d).length ≤ 900 := by
  obtain ⟨_, h1, h2, h3, h4, h5, h6⟩ := h
  have e1 := flat_col _ h2
  have e2 := flat_text _ h4
  simp only [ddlL, List.length_append, textL_length, List.length_cons, List.length_nil]
  omega

set_option maxRecDepth 100000 in
set_option maxHeartbeats 1000000 in
/-- (*impl.byteWriter).words -/
theorem words_any (bw : Nat) (o : Option Addr) (q : Nat) (ks : List ByteArray) (L : List UInt8) (w : World) (h : WIs w bw L) (hk : ∀ u, Wt bw w u → RowAt u o 1 (ks.map strX)) (hk8 : ks.length ≤ 8) (hks : ∀ s ∈ ks, s.size ≤ 30) (hL : L.length ≤ 900000) :
    Calls Tryz.prog 110 #[.pointer (some ⟨bw, 0, none⟩), .slice o ks.length q] w fun e w' => e = .returned (.tuple #[]) ∧ WIs w' bw (L ++ [UInt8.ofNat ks.length] ++ ks.flatMap textL) ∧ Wt bw w w' := by
  have HK : Hid (∀ u, Wt bw w u → RowAt u o 1 (ks.map strX)) := hk
  have HKS : Hid (∀ s ∈ ks, s.size ≤ 30) := hks
  have HW : Hid (WIs w bw L) := h
  have hlw := h.lt
  clear hk hks h
  go_enter Tryz.func110, Tryz.ntmps110
  go_wp2_with fail
  refine (nums_one bw w.heap.size 1 ks.length L (w.alloc (.cells #[.int .i64 (ks.length : Int)] 3)) (HW.out.on (by repeat (first | with_reducible exact Below.refl _ _ | with_reducible assumption | with_reducible refine ch_alloc ?_ _ | with_reducible refine Below.drew ?_ | with_reducible refine below_draws _ ?_ | (with_reducible refine Below.setCell ?_ ?_ _; rotate_left; focus (first | with_reducible exact Nat.le_refl _ | (simp; done) | (simp; omega) | (simp at *; omega))) | with_reducible refine ch_trans ?_ (by with_reducible assumption)))) (Own.new _ _ _) (by omega) (by omega) (by omega)).mono ?_
  rintro e w1 ⟨rfl, hw1, ht1⟩
  have HW1 : Hid (WIs w1 bw (L ++ [UInt8.ofNat ks.length])) := by show WIs _ _ _; rw [numL_one] at hw1; exact hw1
  have HT1 : Hid (Wt bw w w1) := (Wt.new (ch_alloc (Below.refl _ _) _) (by omega)).trans ht1
  have hlw1 : bw < w1.heap.size := hw1.lt
  clear hw1 ht1 HW
  go_wp2_with fail
  refine (texts_any bw o q ks (L ++ [UInt8.ofNat ks.length]) w1 HW1.out (fun u hu => HK.out u (HT1.out.trans hu)) HKS.out (by simp only [List.length_append, List.length_cons, List.length_nil]; omega) (by omega)).mono ?_
  rintro e w2 ⟨rfl, hw2, ht2⟩
  have HW2 : Hid (WIs w2 bw (L ++ [UInt8.ofNat ks.length] ++ ks.flatMap textL)) := hw2
  have HT2 : Hid (Wt bw w w2) := HT1.out.trans ht2
  clear hw2 ht2 HW1 HT1
  go_wp2
  first | go_end0 | (refine bodyPost_end (results_none rfl _ _ _) rfl ?_) | (refine bodyPost_ret (results_none rfl _ _ _) rfl ?_)
  exact ⟨rfl, HW2.out, HT2.out⟩

set_option maxRecDepth 100000 in
set_option maxHeartbeats 2000000 in
/-- (*impl.byteWriter).ddl -/
theorem ddl_any (bw : Nat) (a o : Option Addr) (p q : Nat) (d : Dc) (L : List UInt8) (w : World) (h : WIs w bw L) (hc : ∀ u, Wt bw w u → RowAt u a 7 (d.cols.map Cl.cells)) (hk : ∀ u, Wt bw w u → RowAt u o 1 (d.keys.map strX)) (hsm : d.small) (hL : L.length ≤ 200000) :
    Calls Tryz.prog 88 #[.pointer (some ⟨bw, 0, none⟩), .agg #[.int .i64 d.kind, .string d.table, .slice a d.cols.length p, .slice o d.keys.length q, .string d.name, .string d.to]] w fun e w' => e = .returned (.tuple #[]) ∧ WIs w' bw (L ++ ddlL d) ∧ Wt bw w w' := by
  obtain ⟨kind, table, cs, ks, name, to⟩ := d
  obtain ⟨hkd, hc8, hcs, hk8, hks, hn30, ht30⟩ := hsm
  simp only at hc hk hkd hc8 hcs hk8 hks hn30 ht30
  obtain ⟨N, rfl⟩ : ∃ N : Nat, kind = (N : Int) := ⟨kind.toNat, by omega⟩
  have HC : Hid (∀ u, Wt bw w u → RowAt u a 7 (cs.map Cl.cells)) := hc
  have HK : Hid (∀ u, Wt bw w u → RowAt u o 1 (ks.map strX)) := hk
  have HCS : Hid (∀ c ∈ cs, c.small) := hcs
  have HKS : Hid (∀ s ∈ ks, s.size ≤ 30) := hks
  have HW : Hid (WIs w bw L) := h
  have hlw := h.lt
  have hcl := flat_col _ hcs
  have hkl := flat_text _ hks
  have HT0 : Hid (ddlL ⟨(N : Int), table, cs, ks, name, to⟩ = [UInt8.ofNat N, UInt8.ofNat cs.length] ++ cs.flatMap colL ++ [UInt8.ofNat ks.length] ++ ks.flatMap textL ++ (textL name ++ textL to)) := by
    show _ = _
    simp [ddlL]
  generalize ddlL ⟨(N : Int), table, cs, ks, name, to⟩ = D at HT0
  clear hc hk hcs hks h
  go_enter Tryz.func88, Tryz.ntmps88
  go_wp2_with fail
  refine (nums_any bw 1 (.slice (some ⟨w.heap.size + 1, 0, none⟩) 2 2) [N, cs.length] L ((w.alloc (.cells #[.int .i64 (N : Int), .string table, .slice a cs.length p, .slice o ks.length q, .string name, .string to] 46)).alloc (.cells #[.int .i64 (N : Int), .int .i64 (cs.length : Int)] 3)) (HW.out.on (by repeat (first | with_reducible exact Below.refl _ _ | with_reducible assumption | with_reducible refine ch_alloc ?_ _ | with_reducible refine Below.drew ?_ | with_reducible refine below_draws _ ?_ | (with_reducible refine Below.setCell ?_ ?_ _; rotate_left; focus (first | with_reducible exact Nat.le_refl _ | (simp; done) | (simp; omega) | (simp at *; omega))) | with_reducible refine ch_trans ?_ (by with_reducible assumption)))) (fun u hu => ints_two (hu.own (Own.at (w.alloc (.cells #[.int .i64 (N : Int), .string table, .slice a cs.length p, .slice o ks.length q, .string name, .string to] 46)) _ _ (by simp)) (by omega) (by decide))) (by omega) (by simp; omega)).mono ?_
  rintro e w1 ⟨rfl, hw1, ht1⟩
  have HW1 : Hid (WIs w1 bw (L ++ [UInt8.ofNat N, UInt8.ofNat cs.length])) := by show WIs _ _ _; simpa [numL_one] using hw1
  have HV1 : Own w1 w.heap.size 46 #[.int .i64 (N : Int), .string table, .slice a cs.length p, .slice o ks.length q, .string name, .string to] := ht1.own ((Own.new _ _ _).on (ch_alloc (Below.refl _ _) _)) (by omega) (by decide)
  have HT1 : Hid (Wt bw w w1) := (Wt.new (show Below w.heap.size w ((w.alloc (.cells #[.int .i64 (N : Int), .string table, .slice a cs.length p, .slice o ks.length q, .string name, .string to] 46)).alloc (.cells #[.int .i64 (N : Int), .int .i64 (cs.length : Int)] 3)) from (by repeat (first | with_reducible exact Below.refl _ _ | with_reducible assumption | with_reducible refine ch_alloc ?_ _ | with_reducible refine Below.drew ?_ | with_reducible refine below_draws _ ?_ | (with_reducible refine Below.setCell ?_ ?_ _; rotate_left; focus (first | with_reducible exact Nat.le_refl _ | (simp; done) | (simp; omega) | (simp at *; omega))) | with_reducible refine ch_trans ?_ (by with_reducible assumption)))) (by omega)).trans ht1
  have hlw1 : bw < w1.heap.size := hw1.lt
  have hvw1 : w.heap.size < w1.heap.size := HV1.lt
  have HV1' : Hid (Own w1 w.heap.size 46 #[.int .i64 (N : Int), .string table, .slice a cs.length p, .slice o ks.length q, .string name, .string to]) := HV1
  obtain ⟨d0, d1, d2, d3, d4, d5⟩ := HV1.loc.six
  clear hw1 ht1 HV1 HW
  go_wp2_with fail
  refine (cols_any bw a p cs (L ++ [UInt8.ofNat N, UInt8.ofNat cs.length]) w1 HW1.out (fun u hu => HC.out u (HT1.out.trans hu)) HCS.out (by simp; omega) (by omega)).mono ?_
  rintro e w2 ⟨rfl, hw2, ht2⟩
  have HW2 : Hid (WIs w2 bw (L ++ [UInt8.ofNat N, UInt8.ofNat cs.length] ++ cs.flatMap colL)) := hw2
  have HV2 : Hid (Own w2 w.heap.size 46 #[.int .i64 (N : Int), .string table, .slice a cs.length p, .slice o ks.length q, .string name, .string to]) := ht2.own HV1'.out (by omega) (by decide)
  have HT2 : Hid (Wt bw w w2) := HT1.out.trans ht2
  have hlw2 : bw < w2.heap.size := hw2.lt
  have hvw2 := HV2.out.lt
  clear hw2 ht2 HW1 HT1 HV1' d0 d1 d2 d3 d4 d5
  obtain ⟨d0, d1, d2, d3, d4, d5⟩ := HV2.out.loc.six
  go_wp2_with fail
  refine (words_any bw o q ks (L ++ [UInt8.ofNat N, UInt8.ofNat cs.length] ++ cs.flatMap colL) w2 HW2.out (fun u hu => HK.out u (HT2.out.trans hu)) hk8 HKS.out (by simp only [List.length_append, List.length_cons, List.length_nil]; omega)).mono ?_
  rintro e w4 ⟨rfl, hw4, ht4⟩
  have HW4 : Hid (WIs w4 bw (L ++ [UInt8.ofNat N, UInt8.ofNat cs.length] ++ cs.flatMap colL ++ [UInt8.ofNat ks.length] ++ ks.flatMap textL)) := hw4
  have HV4 : Hid (Own w4 w.heap.size 46 #[.int .i64 (N : Int), .string table, .slice a cs.length p, .slice o ks.length q, .string name, .string to]) := ht4.own HV2.out (by omega) (by decide)
  have HT4 : Hid (Wt bw w w4) := HT2.out.trans ht4
  have hlw4 : bw < w4.heap.size := hw4.lt
  have hvw4 := HV4.out.lt
  clear hw4 ht4 HW2 HT2 HV2 d0 d1 d2 d3 d4 d5
  obtain ⟨d0, d1, d2, d3, d4, d5⟩ := HV4.out.loc.six
  go_wp2_with fail
  refine (texts_any bw (some ⟨w4.heap.size, 0, none⟩) 2 [name, to] (L ++ [UInt8.ofNat N, UInt8.ofNat cs.length] ++ cs.flatMap colL ++ [UInt8.ofNat ks.length] ++ ks.flatMap textL) (w4.alloc (.cells #[.string name, .string to] 9)) (HW4.out.on (by repeat (first | with_reducible exact Below.refl _ _ | with_reducible assumption | with_reducible refine ch_alloc ?_ _ | with_reducible refine Below.drew ?_ | with_reducible refine below_draws _ ?_ | (with_reducible refine Below.setCell ?_ ?_ _; rotate_left; focus (first | with_reducible exact Nat.le_refl _ | (simp; done) | (simp; omega) | (simp at *; omega))) | with_reducible refine ch_trans ?_ (by with_reducible assumption)))) (fun u hu => strs_two (hu.own (Own.new _ _ _) (by omega) (by decide))) (by intro s hs; simp at hs; rcases hs with rfl | rfl <;> omega) (by simp only [List.length_append, List.length_cons, List.length_nil]; omega) (by simp)).mono ?_
  rintro e w5 ⟨rfl, hw5, ht5⟩
  have HW5 : Hid (WIs w5 bw (L ++ D)) := by
    have e1 : (L ++ [UInt8.ofNat N, UInt8.ofNat cs.length] ++ cs.flatMap colL ++ [UInt8.ofNat ks.length] ++ ks.flatMap textL) ++ [name, to].flatMap textL = L ++ D := by rw [HT0.out]; simp
    show WIs _ _ _
    rw [← e1]; exact hw5
  have HT5 : Hid (Wt bw w w5) := HT4.out.trans ((Wt.new (ch_alloc (Below.refl _ _) _) (by omega)).trans ht5)
  clear hw5 ht5 HW4 HT4 HV4
  go_wp2
  first | go_end0 | (refine bodyPost_end (results_none rfl _ _ _) rfl ?_) | (refine bodyPost_ret (results_none rfl _ _ _) rfl ?_)
  exact ⟨rfl, HW5.out, HT5.out⟩
end Go.Proofs.YtiijahoheajppaaGreat
