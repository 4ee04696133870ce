/- Some right values: landed. Rows as bytes: given and landed. Statements in memory: the laws' size, copy and look. -/
import Derived.Test.YtiijahoheajppaaGreatVs
import Derived.Test.YtiijahoheajppaaGreatValOk
import Derived.Test.YtiijahoheajppaaGreatWs
import Derived.Test.YtiijahoheajppaaGreatAl
import Derived.Test.YtiijahoheajppaaGreatCt
namespace Go.Proofs.YtiijahoheajppaaGreat
open Go.ChangeShapes Go.WideShapes Go.ChangeAt Go.RowKit

/-- Some right values. -/
def someV (l : List Vc) : Prop := 1 ≤ l.length ∧ l.length ≤ 8 ∧ ∀ i (h : i < l.length), okB l[i].ty l[i].n l[i].s = true

set_option maxRecDepth 100000 in
set_option maxHeartbeats 1000000 in
/-- impl.someVals -/
theorem someV_impl (v : Value) (l : List Vc) (w : World) (hv : ValsV w v l) : Calls Tryz.prog 120 #[v] w fun e w' => ∃ q : Bool, e = .returned (.bool q) ∧ (q = true ↔ someV l) ∧ Below w.heap.size w w' := by
  obtain ⟨a, p, rfl, hl, hm, hv⟩ := hv.lit
  unfold maxLen at hm
  have HV : Hid (ValsV w (.slice a l.length p) l) := hv
  clear hv
  by_cases h0 : l.length = 0
  · have HB : Hid (¬ someV l) := fun h => by have := h.1; omega
    have h0' : ((l.length : Int) == 0) = true := by simp [h0]
    clear h0
    go_enter Tryz.func120, Tryz.ntmps120
    go_wp2
    go_ret
    exact ⟨_, rfl, ⟨fun h => by simp at h, fun h => absurd h HB.out⟩, (by repeat (first | with_reducible exact Below.refl _ _ | with_reducible assumption | with_reducible refine ch_alloc ?_ _ | with_reducible refine Below.drew ?_ | with_reducible refine below_draws _ ?_ | (with_reducible refine Below.setCell ?_ ?_ _; rotate_left; focus (first | with_reducible exact Nat.le_refl _ | (simp; done) | (simp; omega) | (simp at *; omega))) | with_reducible refine ch_trans ?_ (by with_reducible assumption)))⟩
  have h0' : ((l.length : Int) == 0) = false := beq_eq_false_iff_ne.2 (by omega)
  by_cases h8 : 8 < l.length
  · have HB : Hid (¬ someV l) := fun h => by have := h.2.1; omega
    have h8' : decide ((8 : Int) < l.length) = true := by simp; omega
    clear h0
    go_enter Tryz.func120, Tryz.ntmps120
    go_wp2
    go_ret
    exact ⟨_, rfl, ⟨fun h => by simp at h, fun h => absurd h HB.out⟩, (by repeat (first | with_reducible exact Below.refl _ _ | with_reducible assumption | with_reducible refine ch_alloc ?_ _ | with_reducible refine Below.drew ?_ | with_reducible refine below_draws _ ?_ | (with_reducible refine Below.setCell ?_ ?_ _; rotate_left; focus (first | with_reducible exact Nat.le_refl _ | (simp; done) | (simp; omega) | (simp at *; omega))) | with_reducible refine ch_trans ?_ (by with_reducible assumption)))⟩
  have h8' : decide ((8 : Int) < l.length) = false := by simp; omega
  have H0 : Hid (¬ l.length = 0) := h0
  clear h0
  go_enter Tryz.func120, Tryz.ntmps120
  go_wp2
  go_loopw [15] (fun i wr => ∃ k : Nat, k ≤ l.length ∧ i = .int .i64 k ∧ Below w.heap.size w wr ∧ Hid (∀ i (h : i < l.length), i < k → okB l[i].ty l[i].n l[i].s = true)) (fun i _ => l.length - (intOf i).toNat)
  case atStart => exact ⟨0, Nat.zero_le _, rfl, (by repeat (first | with_reducible exact Below.refl _ _ | with_reducible assumption | with_reducible refine ch_alloc ?_ _ | with_reducible refine Below.drew ?_ | with_reducible refine below_draws _ ?_ | (with_reducible refine Below.setCell ?_ ?_ _; rotate_left; focus (first | with_reducible exact Nat.le_refl _ | (simp; done) | (simp; omega) | (simp at *; omega))) | with_reducible refine ch_trans ?_ (by with_reducible assumption))), fun i h hi => by omega⟩
  case round =>
    obtain ⟨k, hk, rfl, hb, HN⟩ := hrel
    by_cases hlt : k < l.length
    · have hlti : (k : Int) < l.length := by omega
      obtain ⟨b, off, rfl, d0, d1, d2⟩ := (HV.out.on hb).row.vals k hlt
      have HS : Hid (∀ u : World, Calls Tryz.prog 143 #[V l[k].ty l[k].n l[k].s] u fun e w' => e = .returned (.bool (okB l[k].ty l[k].n l[k].s)) ∧ Below u.heap.size u w') := fun u => (ok_impl _ _ _ u).mono fun e w' ⟨h1, k, h2⟩ => ⟨h1, by rw [h2]; exact below_draws _ (ch_alloc (ch_alloc (Below.refl _ _) _) _)⟩
      have HE : Hid (someV l → okB l[k].ty l[k].n l[k].s = true) := fun h => h.2.2 k hlt
      have HG : Hid (okB l[k].ty l[k].n l[k].s = true → ∀ i (h : i < l.length), i < k + 1 → okB l[i].ty l[i].n l[i].s = true) := fun hq i h hi => by
        by_cases e : i = k
        · subst e; exact hq
        · exact HN.out i h (by omega)
      generalize okB l[k].ty l[k].n l[k].s = q at HS HE HG
      go_wp2_with fail
      refine (HS.out _).mono ?_
      rintro e w1 ⟨rfl, b1⟩
      have hb1 : Below w.heap.size w w1 := (by repeat (first | with_reducible exact Below.refl _ _ | with_reducible assumption | with_reducible refine ch_alloc ?_ _ | with_reducible refine Below.drew ?_ | with_reducible refine below_draws _ ?_ | (with_reducible refine Below.setCell ?_ ?_ _; rotate_left; focus (first | with_reducible exact Nat.le_refl _ | (simp; done) | (simp; omega) | (simp at *; omega))) | with_reducible refine ch_trans ?_ (by with_reducible assumption)))
      clear b1
      cases q
      · have HB : Hid (¬ someV l) := fun h => by have := HE.out h; cases this
        go_wp2
        go_ret
        exact ⟨_, rfl, ⟨fun h => by simp at h, fun h => absurd h HB.out⟩, hb1⟩
      · have HN' : Hid (∀ i (h : i < l.length), i < k + 1 → okB l[i].ty l[i].n l[i].s = true) := HG.out rfl
        go_wp2
        go_round
        case rel => exact ⟨k + 1, by omega, by go_num, hb1, HN'⟩
        case measure => simp [intOf]; omega
    · have hlti : (l.length : Int) ≤ k := by omega
      have HA : Hid (∀ i (h : i < l.length), okB l[i].ty l[i].n l[i].s = true) := fun i h => HN.out i h (by omega)
      have HY : Hid (someV l) := ⟨by have := H0.out; omega, by omega, HA.out⟩
      go_wp2
      go_ret
      exact ⟨_, rfl, ⟨fun _ => HY.out, fun _ => rfl⟩, hb⟩
end Go.Proofs.YtiijahoheajppaaGreat

namespace Go.Proofs.YtiijahoheajppaaGreat
open Go.ChangeShapes Go.WideShapes Go.ChangeAt Go.RowKit

/-- A row of values as bytes. -/
def rowL (vs : List Vc) : List UInt8 := UInt8.ofNat vs.length :: vs.flatMap valL
def okRow (vs : List Vc) : Prop := vs.length ≤ 8 ∧ ∀ c ∈ vs, okB c.ty c.n c.s = true
theorem rowL_length {vs : List Vc} (h : okRow vs) : (rowL vs).length ≤ 257 := by
  have h1 := flat_val vs h.2
  have h2 := h.1
  rw [rowL, List.length_cons]; omega
theorem someV_row {vs : List Vc} : someV vs ↔ 1 ≤ vs.length ∧ okRow vs := by
  constructor
  · rintro ⟨h1, h2, h3⟩
    refine ⟨h1, h2, fun c hc => ?_⟩
    obtain ⟨i, hi, rfl⟩ := List.getElem_of_mem hc
    exact h3 i hi
  · rintro ⟨h1, h2, h3⟩
    exact ⟨h1, h2, fun i hi => h3 _ (List.getElem_mem hi)⟩
set_option maxRecDepth 100000 in
set_option maxHeartbeats 1000000 in
/-- spec.RowBytes -/
theorem rowBytes_spec (v : Value) (vs : List Vc) (w : World) (hv : ValsV w v vs) (q : Bool) (L : List UInt8) (hq : (q = true ∧ okRow vs ∧ L = rowL vs) ∨ (q = false ∧ ¬ okRow vs ∧ L = [])) :
    Calls Tryz.prog 65 #[v] w fun e w' => ∃ v', e = .returned (.tuple #[v', .bool q]) ∧ Below w.heap.size w w' ∧ Got w' w.heap.size 5 1 v' (L.map byX) := by
  obtain ⟨a, p, rfl, hlp, hm, hv⟩ := hv.lit
  unfold maxLen at hm
  have HV : Hid (ValsV w (.slice a vs.length p) vs) := hv
  clear hv
  by_cases h8 : 8 < vs.length
  · obtain ⟨rfl, rfl⟩ : q = false ∧ L = [] := by
      rcases hq with ⟨_, h, _⟩ | ⟨h, _, h'⟩
      · exact absurd h.1 (by omega)
      · exact ⟨h, h'⟩
    clear hq
    have h8' : (8 : Int) < vs.length := by omega
    go_enter Tryz.func65, Tryz.ntmps65
    go_wp2
    go_ret2
    exact ⟨_, rfl, (by repeat (first | with_reducible exact Below.refl _ _ | with_reducible assumption | with_reducible refine ch_alloc ?_ _ | with_reducible refine Below.drew ?_ | with_reducible refine below_draws _ ?_ | (with_reducible refine Below.setCell ?_ ?_ _; rotate_left; focus (first | with_reducible exact Nat.le_refl _ | (simp; done) | (simp; omega) | (simp at *; omega))) | with_reducible refine ch_trans ?_ (by with_reducible assumption))), Got.nil _ _ _ _⟩
  have h8' : (vs.length : Int) ≤ 8 := by omega
  have HQ : Hid ((q = true ∧ okRow vs ∧ L = rowL vs) ∨ (q = false ∧ ¬ okRow vs ∧ L = [])) := hq
  clear hq
  have HG0 : Hid (Got (w.alloc (.cells #[.int .u8 (vs.length : Int)] 5)) w.heap.size 5 1 (.slice (some ⟨w.heap.size, 0, none⟩) 1 1) ([UInt8.ofNat vs.length].map byX)) := got_oneI w _ _ (by rw [UInt8.toNat_ofNat', Nat.mod_eq_of_lt (by omega)])
  go_enter Tryz.func65, Tryz.ntmps65
  go_wp2
  go_loopw [4, 18] (fun bv i wr => ∃ k : Nat, k ≤ vs.length ∧ i = .int .i64 (k : Int) ∧ Below w.heap.size w wr ∧ Hid (∀ c ∈ vs.take k, okB c.ty c.n c.s = true) ∧ Hid (Got wr w.heap.size 5 1 bv ((UInt8.ofNat vs.length :: (vs.take k).flatMap valL).map byX))) (fun _ i _ => vs.length - (intOf i).toNat)
  case atStart => exact ⟨0, Nat.zero_le _, rfl, (by repeat (first | with_reducible exact Below.refl _ _ | with_reducible assumption | with_reducible refine ch_alloc ?_ _ | with_reducible refine Below.drew ?_ | with_reducible refine below_draws _ ?_ | (with_reducible refine Below.setCell ?_ ?_ _; rotate_left; focus (first | with_reducible exact Nat.le_refl _ | (simp; done) | (simp; omega) | (simp at *; omega))) | with_reducible refine ch_trans ?_ (by with_reducible assumption))), fun c hc => by simp at hc, HG0⟩
  case round =>
    clear HG0
    obtain ⟨k, hk, rfl, hb, HK, HG⟩ := hrel
    obtain ⟨a1, n1, c1, rfl, hg1⟩ := HG.out.lit2
    have HG1 : Hid (Got wr w.heap.size 5 1 (.slice a1 n1 c1) ((UInt8.ofNat vs.length :: (vs.take k).flatMap valL).map byX)) := hg1
    clear hg1 HG
    by_cases hlt : k < vs.length
    · have hlti : (k : Int) < vs.length := by omega
      obtain ⟨b, off, rfl, d0, d1, d2⟩ := (HV.out.on hb).row.vals k hlt
      have hbs := hb.size
      have HKL : Hid ((UInt8.ofNat vs.length :: (vs.take k).flatMap valL).length ≤ 1000) := by
        have h1 := flat_val (vs.take k) HK.out
        have h2 : (vs.take k).length ≤ 8 := by simp; omega
        show _ ≤ _
        rw [List.length_cons]; omega
      cases hok : okB vs[k].ty vs[k].n vs[k].s with
      | true =>
        have HS : Hid (∀ u : World, Calls Tryz.prog 103 #[.agg #[.int .i64 vs[k].ty, .int .i64 vs[k].n, .string vs[k].s]] u fun e w' => ∃ v', e = .returned (.tuple #[v', .bool true]) ∧ Below u.heap.size u w' ∧ Got w' u.heap.size 5 1 v' ((valL vs[k]).map byX)) := fun u => valBytes_spec _ _ _ u true _ (Or.inl ⟨rfl, hok, rfl⟩)
        have HK' : Hid (∀ c ∈ vs.take (k + 1), okB c.ty c.n c.s = true) := fun c hc => by
          rw [List.take_succ_eq_append_getElem hlt, List.mem_append] at hc
          rcases hc with hc | hc
          · exact HK.out c hc
          · simp at hc; subst hc; exact hok
        have HVL : Hid (1 ≤ (valL vs[k]).length ∧ (valL vs[k]).length ≤ 32) := ⟨by simp [valL], valL_length hok⟩
        have HFL : Hid ((UInt8.ofNat vs.length :: (vs.take k).flatMap valL) ++ valL vs[k] = UInt8.ofNat vs.length :: (vs.take (k + 1)).flatMap valL) := by
          show _ = _
          rw [List.take_succ_eq_append_getElem hlt, List.flatMap_append, List.cons_append]
          simp
        clear hok
        generalize vs[k].ty = ty at d0 HS
        generalize vs[k].n = n at d1 HS
        generalize vs[k].s = x at d2 HS
        go_wp2_with fail
        refine (HS.out _).mono ?_
        rintro e w1 ⟨v', rfl, b1, hg2⟩
        obtain ⟨a2, c2, rfl, _, _, hr2, _⟩ := hg2.row
        obtain ⟨b2, off2, rfl, _⟩ := hr2.bytes 0 (by have := HVL.out.1; omega)
        have HR2 : Hid (RowAt w1 (some ⟨b2, off2, none⟩) 1 ((valL vs[k]).map byX)) := hr2
        rw [List.length_map]
        have hl1 := HVL.out.1
        have hl2 := HVL.out.2
        generalize valL vs[k] = X at HR2 HFL hl1 hl2 ⊢
        have HG11 : Hid (Got w1 w.heap.size 5 1 (.slice a1 n1 c1) ((UInt8.ofNat vs.length :: (vs.take k).flatMap valL).map byX)) := HG1.out.on (by repeat (first | with_reducible exact Below.refl _ _ | with_reducible assumption | with_reducible refine ch_alloc ?_ _ | with_reducible refine Below.drew ?_ | with_reducible refine below_draws _ ?_ | (with_reducible refine Below.setCell ?_ ?_ _; rotate_left; focus (first | with_reducible exact Nat.le_refl _ | (simp; done) | (simp; omega) | (simp at *; omega))) | with_reducible refine ch_trans ?_ (by with_reducible assumption)))
        have hb1 : Below w.heap.size w w1 := (by repeat (first | with_reducible exact Below.refl _ _ | with_reducible assumption | with_reducible refine ch_alloc ?_ _ | with_reducible refine Below.drew ?_ | with_reducible refine below_draws _ ?_ | (with_reducible refine Below.setCell ?_ ?_ _; rotate_left; focus (first | with_reducible exact Nat.le_refl _ | (simp; done) | (simp; omega) | (simp at *; omega))) | with_reducible refine ch_trans ?_ (by with_reducible assumption)))
        clear hg2 hr2 b1
        go_wp2_with (at_builtin; refine app_lot rfl (.tmp 29) (.tmp 30) rfl Tryz.underlying26 infoByte rfl (by decide) (by decide) w.heap.size _ _ rfl HG11.out b2 off2 _ (X.map byX) X.length (by simp) rfl HR2.out (byte_one _) (by have := HKL.out; simp only [List.length_map]; omega) hb1.size ?_; intro v3 w3 hg3 hb3)
        go_round
        case rel => exact ⟨k + 1, by omega, by go_num, hb1.trans hb3, HK', by
          show Got _ _ _ _ _ _
          rw [← HFL.out, List.map_append]; exact hg3⟩
        case measure => simp [intOf]; omega
      | false =>
        have HS : Hid (∀ u : World, Calls Tryz.prog 103 #[.agg #[.int .i64 vs[k].ty, .int .i64 vs[k].n, .string vs[k].s]] u fun e w' => ∃ v', e = .returned (.tuple #[v', .bool false]) ∧ Below u.heap.size u w' ∧ Got w' u.heap.size 5 1 v' (([] : List UInt8).map byX)) := fun u => valBytes_spec _ _ _ u false _ (Or.inr ⟨rfl, hok, rfl⟩)
        obtain ⟨rfl, rfl⟩ : q = false ∧ L = [] := by
          rcases HQ.out with ⟨_, h, _⟩ | ⟨h, _, h'⟩
          · have := h.2 _ (List.getElem_mem hlt)
            rw [hok] at this
            cases this
          · exact ⟨h, h'⟩
        clear hok HQ
        generalize vs[k].ty = ty at d0 HS
        generalize vs[k].n = n at d1 HS
        generalize vs[k].s = x at d2 HS
        go_wp2_with fail
        refine (HS.out _).mono ?_
        rintro e w1 ⟨v', rfl, b1, hg2⟩
        go_wp2
        go_ret2
        exact ⟨_, rfl, (by repeat (first | with_reducible exact Below.refl _ _ | with_reducible assumption | with_reducible refine ch_alloc ?_ _ | with_reducible refine Below.drew ?_ | with_reducible refine below_draws _ ?_ | (with_reducible refine Below.setCell ?_ ?_ _; rotate_left; focus (first | with_reducible exact Nat.le_refl _ | (simp; done) | (simp; omega) | (simp at *; omega))) | with_reducible refine ch_trans ?_ (by with_reducible assumption))), Got.nil _ _ _ _⟩
    · have hlti : (vs.length : Int) ≤ k := by omega
      have HA : Hid (∀ c ∈ vs, okB c.ty c.n c.s = true) := by
        have := HK.out
        rwa [List.take_of_length_le (by omega)] at this
      have HGE : Hid (Got wr w.heap.size 5 1 (.slice a1 n1 c1) ((rowL vs).map byX)) := by
        have := HG1.out
        rwa [List.take_of_length_le (by omega)] at this
      obtain ⟨rfl, rfl⟩ : q = true ∧ L = rowL vs := by
        rcases HQ.out with ⟨h, _, h'⟩ | ⟨_, h, _⟩
        · exact ⟨h, h'⟩
        · exact absurd ⟨by omega, HA.out⟩ h
      go_wp2
      go_ret2
      exact ⟨_, rfl, (by repeat (first | with_reducible exact Below.refl _ _ | with_reducible assumption | with_reducible refine ch_alloc ?_ _ | with_reducible refine Below.drew ?_ | with_reducible refine below_draws _ ?_ | (with_reducible refine Below.setCell ?_ ?_ _; rotate_left; focus (first | with_reducible exact Nat.le_refl _ | (simp; done) | (simp; omega) | (simp at *; omega))) | with_reducible refine ch_trans ?_ (by with_reducible assumption))), HGE.out⟩
end Go.Proofs.YtiijahoheajppaaGreat

namespace Go.Proofs.YtiijahoheajppaaGreat
open Go.ChangeShapes Go.WideShapes Go.ChangeAt Go.RowKit

/-- What a statement holds. -/
structure Sc where
  kind : Int
  table : ByteArray
  key : List Vc
  row : List Vc
  ddl : Dc
def Sc.fit (s : Sc) : Prop := s.table.size ≤ maxLen ∧ vfit s.key ∧ vfit s.row ∧ s.ddl.fit
def Sc.few (s : Sc) : Prop := s.key.length ≤ 1048576 ∧ s.row.length ≤ 1048576 ∧ s.ddl.few
/-- A statement's cells. -/
abbrev Sc.cells (s : Sc) (k r c o : Value) : Array Value := #[.int .i64 s.kind, .string s.table, k, r, .int .i64 s.ddl.kind, .string s.ddl.table, c, o, .string s.ddl.name, .string s.ddl.to]
def StmtV (w : World) (x : Array Value) (s : Sc) : Prop := ∃ k r c o, x = s.cells k r c o ∧ ValsV w k s.key ∧ ValsV w r s.row ∧ ColsV w c s.ddl.cols ∧ StrsV w o s.ddl.keys
theorem StmtV.on {w w' : World} {x : Array Value} {s : Sc} (h : StmtV w x s) (b : Below w.heap.size w w') : StmtV w' x s := by
  obtain ⟨k, r, c, o, e, h1, h2, h3, h4⟩ := h; exact ⟨k, r, c, o, e, h1.on b, h2.on b, h3.on b, h4.on b⟩
theorem StmtV.lit {w : World} {x : Array Value} {s : Sc} (h : StmtV w x s) : ∃ a p b q c r d t, x = s.cells (.slice a s.key.length p) (.slice b s.row.length q) (.slice c s.ddl.cols.length r) (.slice d s.ddl.keys.length t) ∧
    ValsV w (.slice a s.key.length p) s.key ∧ ValsV w (.slice b s.row.length q) s.row ∧ ColsV w (.slice c s.ddl.cols.length r) s.ddl.cols ∧ StrsV w (.slice d s.ddl.keys.length t) s.ddl.keys := by
  obtain ⟨k, r, c, o, rfl, h1, h2, h3, h4⟩ := h
  obtain ⟨a, p, rfl, _⟩ := h1.lit
  obtain ⟨b, q, rfl, _⟩ := h2.lit
  obtain ⟨c, r, rfl, h3'⟩ := id h3
  obtain ⟨d, t, rfl, h4'⟩ := id h4
  exact ⟨a, p, b, q, c, r, d, t, rfl, h1, h2, h3, h4⟩
theorem StmtV.mk {w : World} {s : Sc} {k r c o : Value} (h1 : ValsV w k s.key) (h2 : ValsV w r s.row) (h3 : ColsV w c s.ddl.cols) (h4 : StrsV w o s.ddl.keys) : StmtV w (s.cells k r c o) s := ⟨k, r, c, o, rfl, h1, h2, h3, h4⟩
theorem StmtV.ddl {w : World} {s : Sc} {c o : Value} (h3 : ColsV w c s.ddl.cols) (h4 : StrsV w o s.ddl.keys) : DdlV w #[.int .i64 s.ddl.kind, .string s.ddl.table, c, o, .string s.ddl.name, .string s.ddl.to] s.ddl := ⟨c, o, rfl, h3, h4⟩
theorem Loc.ten {w : World} {b : Nat} {a0 a1 a2 a3 a4 a5 a6 a7 a8 a9 : Value} (h : Loc w b #[a0, a1, a2, a3, a4, a5, a6, a7, a8, a9]) : w.cell? ⟨b, 0, none⟩ = some a0 ∧ w.cell? ⟨b, 1, none⟩ = some a1 ∧ w.cell? ⟨b, 2, none⟩ = some a2 ∧ w.cell? ⟨b, 3, none⟩ = some a3 ∧ w.cell? ⟨b, 4, none⟩ = some a4 ∧ w.cell? ⟨b, 5, none⟩ = some a5 ∧ w.cell? ⟨b, 6, none⟩ = some a6 ∧ w.cell? ⟨b, 7, none⟩ = some a7 ∧ w.cell? ⟨b, 8, none⟩ = some a8 ∧ w.cell? ⟨b, 9, none⟩ = some a9 :=
  ⟨h 0 (by simp), h 1 (by simp), h 2 (by simp), h 3 (by simp), h 4 (by simp), h 5 (by simp), h 6 (by simp), h 7 (by simp), h 8 (by simp), h 9 (by simp)⟩

theorem Loc.other {w : World} {b : Nat} {cells : Array Value} (h : Loc w b cells) {p : Addr} (hp : b ≠ p.block) (v : Value) : Loc (w.setCell p v) b cells := fun j hj => by
  have h1 := h j hj
  unfold World.cell? at h1 ⊢
  rw [Below.heap_setCell _ _ _ _ hp]; exact h1
set_option maxRecDepth 100000 in
set_option maxHeartbeats 1000000 in
/-- laws.szStmt -/
theorem szStmt_any (x : Array Value) (t : Sc) (l : Int) (w : World) (hx : StmtV w x t) (hf : t.fit) (h0 : 0 ≤ l) (h1 : l ≤ 1048576) :
    Calls Tryz.prog 96 #[.agg x, .int .i64 l] w fun e w' => ∃ r : Int, e = .returned (.int .i64 r) ∧ Below w.heap.size w w' ∧ (r = -1 ∨ (0 ≤ r ∧ r ≤ l ∧ t.few)) := by
  obtain ⟨ka, kp, ra, rp, ca, cp, oa, op, rfl, hk, hr, hc, ho⟩ := hx.lit
  obtain ⟨hn, hfk, hfr, hfd⟩ := hf
  unfold maxLen at hn
  obtain ⟨kind, table, key, row, ⟨dk, dt, cs, ks, dn, to⟩⟩ := t
  simp only [Sc.cells] at *
  have HK : Hid (ValsV w (.slice ka key.length kp) key ∧ vfit key) := ⟨hk, hfk⟩
  have HR : Hid (ValsV w (.slice ra row.length rp) row ∧ vfit row) := ⟨hr, hfr⟩
  have HD : Hid (∀ u : World, Below w.heap.size w u → DdlV u #[.int .i64 dk, .string dt, .slice ca cs.length cp, .slice oa ks.length op, .string dn, .string to] ⟨dk, dt, cs, ks, dn, to⟩) := fun u hu => ⟨_, _, rfl, hc.on hu, ho.on hu⟩
  have HF : Hid (Dc.fit ⟨dk, dt, cs, ks, dn, to⟩) := hfd
  clear hk hr hc ho hfk hfr hfd hx
  by_cases ha : l - table.size < 0
  · go_enter Tryz.func96, Tryz.ntmps96
    go_wp2
    go_ret
    exact ⟨_, rfl, (by repeat (first | with_reducible exact Below.refl _ _ | with_reducible assumption | with_reducible refine ch_alloc ?_ _ | with_reducible refine Below.drew ?_ | with_reducible refine below_draws _ ?_ | (with_reducible refine Below.setCell ?_ ?_ _; rotate_left; focus (first | with_reducible exact Nat.le_refl _ | (simp; done) | (simp; omega) | (simp at *; omega))) | with_reducible refine ch_trans ?_ (by with_reducible assumption))), Or.inl rfl⟩
  have HL := Loc.new w #[.int .i64 kind, .string table, .slice ka key.length kp, .slice ra row.length rp, .int .i64 dk, .string dt, .slice ca cs.length cp, .slice oa ks.length op, .string dn, .string to] 105
  have hbv : Below w.heap.size w (w.alloc (.cells #[.int .i64 kind, .string table, .slice ka key.length kp, .slice ra row.length rp, .int .i64 dk, .string dt, .slice ca cs.length cp, .slice oa ks.length op, .string dn, .string to] 105)) := (by repeat (first | with_reducible exact Below.refl _ _ | with_reducible assumption | with_reducible refine ch_alloc ?_ _ | with_reducible refine Below.drew ?_ | with_reducible refine below_draws _ ?_ | (with_reducible refine Below.setCell ?_ ?_ _; rotate_left; focus (first | with_reducible exact Nat.le_refl _ | (simp; done) | (simp; omega) | (simp at *; omega))) | with_reducible refine ch_trans ?_ (by with_reducible assumption)))
  go_enter Tryz.func96, Tryz.ntmps96
  go_wp2_with fail
  refine (szValS_any _ key (l - table.size) _ (HK.out.1.on hbv) HK.out.2 (by omega) (by omega)).mono ?_
  rintro e w1 ⟨r, rfl, b1, hr⟩
  have HL1 := HL.on b1
  have hb1 := ch_trans hbv b1
  clear b1 hbv HL
  obtain ⟨c0, c1, c2, c3, c4, c5, c6, c7, c8, c9⟩ := HL1.ten
  rcases hr with rfl | ⟨r0, r1, r2⟩
  · go_wp2
    go_ret
    exact ⟨_, rfl, hb1, Or.inl rfl⟩
  go_wp2_with fail
  refine (szRow_any _ row r _ (HR.out.1.on hb1) HR.out.2 r0 (by omega)).mono ?_
  rintro e w2 ⟨q, rfl, b2, hq⟩
  have HL2 := HL1.on b2
  have hb2 := ch_trans hb1 b2
  clear b2 hb1 HL1 c0 c1 c2 c3 c4 c5 c6 c7 c8 c9
  obtain ⟨c0, c1, c2, c3, c4, c5, c6, c7, c8, c9⟩ := HL2.ten
  rcases hq with rfl | ⟨q0, q1, q2⟩
  · go_wp2
    go_ret
    exact ⟨_, rfl, hb2, Or.inl rfl⟩
  go_wp2_with fail
  refine (szDdl_any _ _ q _ (HD.out _ hb2) HF.out q0 (by omega)).mono ?_
  rintro e w3 ⟨p, rfl, b3, hp⟩
  have hb3 := ch_trans hb2 b3
  clear b3 hb2 c0 c1 c2 c3 c4 c5 c6 c7 c8 c9
  rcases hp with rfl | ⟨p0, p1, p2⟩
  · go_wp2
    go_ret
    exact ⟨_, rfl, hb3, Or.inl rfl⟩
  · have HP : Hid (Dc.few ⟨dk, dt, cs, ks, dn, to⟩) := p2
    clear p2
    go_wp2
    go_ret
    exact ⟨_, rfl, hb3, Or.inr ⟨p0, by omega, r2, q2, HP.out⟩⟩

set_option maxRecDepth 100000 in
set_option maxHeartbeats 1000000 in
/-- laws.eqStmt -/
theorem eqStmt_same (x y : Array Value) (t : Sc) (w : World) (hx : StmtV w x t) (hy : StmtV w y t) : Calls Tryz.prog 18 #[.agg x, .agg y] w fun e w' => e = .returned (.bool true) ∧ Below w.heap.size w w' := by
  obtain ⟨ka, kp, ra, rp, ca, cp, oa, op, rfl, hk, hr, hc, ho⟩ := hx.lit
  obtain ⟨ka', kp', ra', rp', ca', cp', oa', op', rfl, hk', hr', hc', ho'⟩ := hy.lit
  obtain ⟨kind, table, key, row, ⟨dk, dt, cs, ks, dn, to⟩⟩ := t
  simp only [Sc.cells] at *
  have HK : Hid (ValsV w (.slice ka key.length kp) key ∧ ValsV w (.slice ka' key.length kp') key) := ⟨hk, hk'⟩
  have HR : Hid (ValsV w (.slice ra row.length rp) row ∧ ValsV w (.slice ra' row.length rp') row) := ⟨hr, hr'⟩
  have HD : Hid (∀ u : World, Below w.heap.size w u → DdlV u #[.int .i64 dk, .string dt, .slice ca cs.length cp, .slice oa ks.length op, .string dn, .string to] ⟨dk, dt, cs, ks, dn, to⟩ ∧ DdlV u #[.int .i64 dk, .string dt, .slice ca' cs.length cp', .slice oa' ks.length op', .string dn, .string to] ⟨dk, dt, cs, ks, dn, to⟩) := fun u hu => ⟨⟨_, _, rfl, hc.on hu, ho.on hu⟩, ⟨_, _, rfl, hc'.on hu, ho'.on hu⟩⟩
  clear hk hr hc ho hk' hr' hc' ho' hx hy
  have HL := Loc.new w #[.int .i64 kind, .string table, .slice ka key.length kp, .slice ra row.length rp, .int .i64 dk, .string dt, .slice ca cs.length cp, .slice oa ks.length op, .string dn, .string to] 48
  have HM := Loc.new (w.alloc (.cells #[.int .i64 kind, .string table, .slice ka key.length kp, .slice ra row.length rp, .int .i64 dk, .string dt, .slice ca cs.length cp, .slice oa ks.length op, .string dn, .string to] 48)) #[.int .i64 kind, .string table, .slice ka' key.length kp', .slice ra' row.length rp', .int .i64 dk, .string dt, .slice ca' cs.length cp', .slice oa' ks.length op', .string dn, .string to] 48
  rw [show (w.alloc (.cells #[.int .i64 kind, .string table, .slice ka key.length kp, .slice ra row.length rp, .int .i64 dk, .string dt, .slice ca cs.length cp, .slice oa ks.length op, .string dn, .string to] 48)).heap.size = w.heap.size + 1 from by simp] at HM
  go_enter Tryz.func18, Tryz.ntmps18
  go_wp2_with fail
  refine (eqValS_same _ _ key _ (HK.out.1.on (by repeat (first | with_reducible exact Below.refl _ _ | with_reducible assumption | with_reducible refine ch_alloc ?_ _ | with_reducible refine Below.drew ?_ | with_reducible refine below_draws _ ?_ | (with_reducible refine Below.setCell ?_ ?_ _; rotate_left; focus (first | with_reducible exact Nat.le_refl _ | (simp; done) | (simp; omega) | (simp at *; omega))) | with_reducible refine ch_trans ?_ (by with_reducible assumption)))) (HK.out.2.on (by repeat (first | with_reducible exact Below.refl _ _ | with_reducible assumption | with_reducible refine ch_alloc ?_ _ | with_reducible refine Below.drew ?_ | with_reducible refine below_draws _ ?_ | (with_reducible refine Below.setCell ?_ ?_ _; rotate_left; focus (first | with_reducible exact Nat.le_refl _ | (simp; done) | (simp; omega) | (simp at *; omega))) | with_reducible refine ch_trans ?_ (by with_reducible assumption))))).mono ?_
  rintro e w1 ⟨rfl, b1⟩
  have HL1 := HL.on (w' := w1) (by repeat (first | with_reducible exact Below.refl _ _ | with_reducible assumption | with_reducible refine ch_alloc ?_ _ | with_reducible refine Below.drew ?_ | with_reducible refine below_draws _ ?_ | (with_reducible refine Below.setCell ?_ ?_ _; rotate_left; focus (first | with_reducible exact Nat.le_refl _ | (simp; done) | (simp; omega) | (simp at *; omega))) | with_reducible refine ch_trans ?_ (by with_reducible assumption)))
  have HM1 := HM.on (w' := w1) (by repeat (first | with_reducible exact Below.refl _ _ | with_reducible assumption | with_reducible refine ch_alloc ?_ _ | with_reducible refine Below.drew ?_ | with_reducible refine below_draws _ ?_ | (with_reducible refine Below.setCell ?_ ?_ _; rotate_left; focus (first | with_reducible exact Nat.le_refl _ | (simp; done) | (simp; omega) | (simp at *; omega))) | with_reducible refine ch_trans ?_ (by with_reducible assumption)))
  have hb1 : Below w.heap.size w w1 := (by repeat (first | with_reducible exact Below.refl _ _ | with_reducible assumption | with_reducible refine ch_alloc ?_ _ | with_reducible refine Below.drew ?_ | with_reducible refine below_draws _ ?_ | (with_reducible refine Below.setCell ?_ ?_ _; rotate_left; focus (first | with_reducible exact Nat.le_refl _ | (simp; done) | (simp; omega) | (simp at *; omega))) | with_reducible refine ch_trans ?_ (by with_reducible assumption)))
  clear b1 HL HM
  obtain ⟨c0, c1, c2, c3, c4, c5, c6, c7, c8, c9⟩ := HL1.ten
  obtain ⟨d0, d1, d2, d3, d4, d5, d6, d7, d8, d9⟩ := HM1.ten
  go_wp2_with fail
  refine (eqRow_same _ _ row _ (HR.out.1.on (by repeat (first | with_reducible exact Below.refl _ _ | with_reducible assumption | with_reducible refine ch_alloc ?_ _ | with_reducible refine Below.drew ?_ | with_reducible refine below_draws _ ?_ | (with_reducible refine Below.setCell ?_ ?_ _; rotate_left; focus (first | with_reducible exact Nat.le_refl _ | (simp; done) | (simp; omega) | (simp at *; omega))) | with_reducible refine ch_trans ?_ (by with_reducible assumption)))) (HR.out.2.on (by repeat (first | with_reducible exact Below.refl _ _ | with_reducible assumption | with_reducible refine ch_alloc ?_ _ | with_reducible refine Below.drew ?_ | with_reducible refine below_draws _ ?_ | (with_reducible refine Below.setCell ?_ ?_ _; rotate_left; focus (first | with_reducible exact Nat.le_refl _ | (simp; done) | (simp; omega) | (simp at *; omega))) | with_reducible refine ch_trans ?_ (by with_reducible assumption))))).mono ?_
  rintro e w2 ⟨rfl, b2⟩
  have HL2 := HL1.on (w' := w2) (by repeat (first | with_reducible exact Below.refl _ _ | with_reducible assumption | with_reducible refine ch_alloc ?_ _ | with_reducible refine Below.drew ?_ | with_reducible refine below_draws _ ?_ | (with_reducible refine Below.setCell ?_ ?_ _; rotate_left; focus (first | with_reducible exact Nat.le_refl _ | (simp; done) | (simp; omega) | (simp at *; omega))) | with_reducible refine ch_trans ?_ (by with_reducible assumption)))
  have HM2 := HM1.on (w' := w2) (by repeat (first | with_reducible exact Below.refl _ _ | with_reducible assumption | with_reducible refine ch_alloc ?_ _ | with_reducible refine Below.drew ?_ | with_reducible refine below_draws _ ?_ | (with_reducible refine Below.setCell ?_ ?_ _; rotate_left; focus (first | with_reducible exact Nat.le_refl _ | (simp; done) | (simp; omega) | (simp at *; omega))) | with_reducible refine ch_trans ?_ (by with_reducible assumption)))
  have hb2 : Below w.heap.size w w2 := (by repeat (first | with_reducible exact Below.refl _ _ | with_reducible assumption | with_reducible refine ch_alloc ?_ _ | with_reducible refine Below.drew ?_ | with_reducible refine below_draws _ ?_ | (with_reducible refine Below.setCell ?_ ?_ _; rotate_left; focus (first | with_reducible exact Nat.le_refl _ | (simp; done) | (simp; omega) | (simp at *; omega))) | with_reducible refine ch_trans ?_ (by with_reducible assumption)))
  clear c0 c1 c2 c3 c4 c5 c6 c7 c8 c9 d0 d1 d2 d3 d4 d5 d6 d7 d8 d9 b2 hb1 HL1 HM1
  obtain ⟨c0, c1, c2, c3, c4, c5, c6, c7, c8, c9⟩ := HL2.ten
  obtain ⟨d0, d1, d2, d3, d4, d5, d6, d7, d8, d9⟩ := HM2.ten
  go_wp2_with fail
  refine (eqDdl_same _ _ _ _ (HD.out _ hb2).1 (HD.out _ hb2).2).mono ?_
  rintro e w3 ⟨rfl, b3⟩
  go_wp2
  go_ret
  exact ⟨rfl, (by repeat (first | with_reducible exact Below.refl _ _ | with_reducible assumption | with_reducible refine ch_alloc ?_ _ | with_reducible refine Below.drew ?_ | with_reducible refine below_draws _ ?_ | (with_reducible refine Below.setCell ?_ ?_ _; rotate_left; focus (first | with_reducible exact Nat.le_refl _ | (simp; done) | (simp; omega) | (simp at *; omega))) | with_reducible refine ch_trans ?_ (by with_reducible assumption)))⟩

set_option maxRecDepth 100000 in
set_option maxHeartbeats 2000000 in
/-- laws.toStmt -/
theorem toStmt_any (x : Array Value) (t : Sc) (w : World) (hx : StmtV w x t) (hf : t.few) :
    Calls Tryz.prog 105 #[.agg x] w fun e w' => ∃ y, e = .returned (.agg y) ∧ Below w.heap.size w w' ∧ Firm w.heap.size (fun u => StmtV u y t) w' := by
  obtain ⟨ka, kp, ra, rp, ca, cp, oa, op, rfl, hk, hr, hc, ho⟩ := hx.lit
  obtain ⟨hfk, hfr, hfd⟩ := hf
  obtain ⟨kind, table, key, row, ⟨dk, dt, cs, ks, dn, to⟩⟩ := t
  simp only [Sc.cells] at *
  have HK : Hid (ValsV w (.slice ka key.length kp) key) := hk
  have HR : Hid (ValsV w (.slice ra row.length rp) row) := hr
  have HD : Hid (∀ u : World, Below w.heap.size w u → DdlV u #[.int .i64 dk, .string dt, .slice ca cs.length cp, .slice oa ks.length op, .string dn, .string to] ⟨dk, dt, cs, ks, dn, to⟩) := fun u hu => ⟨_, _, rfl, hc.on hu, ho.on hu⟩
  have HF : Hid (Dc.few ⟨dk, dt, cs, ks, dn, to⟩) := hfd
  have hkm : key.length ≤ maxLen := by unfold maxLen; omega
  have hrm : row.length ≤ maxLen := by unfold maxLen; omega
  clear hk hr hc ho hfd hx
  have HL := Loc.new w #[.int .i64 kind, .string table, .slice ka key.length kp, .slice ra row.length rp, .int .i64 dk, .string dt, .slice ca cs.length cp, .slice oa ks.length op, .string dn, .string to] 105
  go_enter Tryz.func105, Tryz.ntmps105
  go_wp2_with fail
  have hb0 : Below w.heap.size w (((w.alloc (.cells #[.int .i64 kind, .string table, .slice ka key.length kp, .slice ra row.length rp, .int .i64 dk, .string dt, .slice ca cs.length cp, .slice oa ks.length op, .string dn, .string to] 105)).alloc (.cells #[.int .i64 0, .string { data := #[] }, .slice none 0 0, .slice none 0 0, .int .i64 0, .string { data := #[] }, .slice none 0 0, .slice none 0 0, .string { data := #[] }, .string { data := #[] }] 48)).alloc (.cells #[.int .i64 kind, .string table, .slice none 0 0, .slice none 0 0, .int .i64 0, .string { data := #[] }, .slice none 0 0, .slice none 0 0, .string { data := #[] }, .string { data := #[] }] 48)) := (by repeat (first | with_reducible exact Below.refl _ _ | with_reducible assumption | with_reducible refine ch_alloc ?_ _ | with_reducible refine Below.drew ?_ | with_reducible refine below_draws _ ?_ | (with_reducible refine Below.setCell ?_ ?_ _; rotate_left; focus (first | with_reducible exact Nat.le_refl _ | (simp; done) | (simp; omega) | (simp at *; omega))) | with_reducible refine ch_trans ?_ (by with_reducible assumption)))
  have HQ := Own.at (w.alloc (.cells #[.int .i64 kind, .string table, .slice ka key.length kp, .slice ra row.length rp, .int .i64 dk, .string dt, .slice ca cs.length cp, .slice oa ks.length op, .string dn, .string to] 105)) 48 #[.int .i64 0, .string { data := #[] }, .slice none 0 0, .slice none 0 0, .int .i64 0, .string { data := #[] }, .slice none 0 0, .slice none 0 0, .string { data := #[] }, .string { data := #[] }] (n := w.heap.size + 1) (by simp)
  have HO := Own.at ((w.alloc (.cells #[.int .i64 kind, .string table, .slice ka key.length kp, .slice ra row.length rp, .int .i64 dk, .string dt, .slice ca cs.length cp, .slice oa ks.length op, .string dn, .string to] 105)).alloc (.cells #[.int .i64 0, .string { data := #[] }, .slice none 0 0, .slice none 0 0, .int .i64 0, .string { data := #[] }, .slice none 0 0, .slice none 0 0, .string { data := #[] }, .string { data := #[] }] 48)) 48 #[.int .i64 kind, .string table, .slice none 0 0, .slice none 0 0, .int .i64 0, .string { data := #[] }, .slice none 0 0, .slice none 0 0, .string { data := #[] }, .string { data := #[] }] (n := w.heap.size + 1 + 1) (by simp)
  have HQ0 := HQ.on (ch_alloc (Below.refl _ _) (.cells #[.int .i64 kind, .string table, .slice none 0 0, .slice none 0 0, .int .i64 0, .string { data := #[] }, .slice none 0 0, .slice none 0 0, .string { data := #[] }, .string { data := #[] }] 48))
  have HL0 := (HL.on1 (.cells #[.int .i64 0, .string { data := #[] }, .slice none 0 0, .slice none 0 0, .int .i64 0, .string { data := #[] }, .slice none 0 0, .slice none 0 0, .string { data := #[] }, .string { data := #[] }] 48)).on1 (.cells #[.int .i64 kind, .string table, .slice none 0 0, .slice none 0 0, .int .i64 0, .string { data := #[] }, .slice none 0 0, .slice none 0 0, .string { data := #[] }, .string { data := #[] }] 48)
  have hs0 : w.heap.size + 1 + 1 + 1 ≤ (((w.alloc (.cells #[.int .i64 kind, .string table, .slice ka key.length kp, .slice ra row.length rp, .int .i64 dk, .string dt, .slice ca cs.length cp, .slice oa ks.length op, .string dn, .string to] 105)).alloc (.cells #[.int .i64 0, .string { data := #[] }, .slice none 0 0, .slice none 0 0, .int .i64 0, .string { data := #[] }, .slice none 0 0, .slice none 0 0, .string { data := #[] }, .string { data := #[] }] 48)).alloc (.cells #[.int .i64 kind, .string table, .slice none 0 0, .slice none 0 0, .int .i64 0, .string { data := #[] }, .slice none 0 0, .slice none 0 0, .string { data := #[] }, .string { data := #[] }] 48)).heap.size := by simp
  clear HL HQ
  generalize ((w.alloc (.cells #[.int .i64 kind, .string table, .slice ka key.length kp, .slice ra row.length rp, .int .i64 dk, .string dt, .slice ca cs.length cp, .slice oa ks.length op, .string dn, .string to] 105)).alloc (.cells #[.int .i64 0, .string { data := #[] }, .slice none 0 0, .slice none 0 0, .int .i64 0, .string { data := #[] }, .slice none 0 0, .slice none 0 0, .string { data := #[] }, .string { data := #[] }] 48)).alloc (.cells #[.int .i64 kind, .string table, .slice none 0 0, .slice none 0 0, .int .i64 0, .string { data := #[] }, .slice none 0 0, .slice none 0 0, .string { data := #[] }, .string { data := #[] }] 48) = u0 at hb0 HO HQ0 HL0 hs0 ⊢
  refine (toValS_any _ key _ (HK.out.on hb0) hfk).mono ?_
  rintro e w1 ⟨rfl, b1, hy⟩
  have HY : Hid (Firm (w.heap.size + 1 + 1 + 1) (fun u => ValsV u (.slice (some ⟨u0.heap.size, 0, none⟩) key.length key.length) key) w1) := ((hy.firm (Nat.le_refl _)).imp fun u hu => hu.valsV hkm).mono hs0
  have hb1 := ch_trans hb0 b1
  have HO1 := HO.on b1
  have HQ1 := HQ0.on b1
  have HL1 := HL0.on b1
  have hs1 : w.heap.size + 1 + 1 + 1 ≤ w1.heap.size := by have := b1.size; omega
  generalize u0.heap.size = B1 at HY ⊢
  clear hy hb0 b1 HO HQ0 HL0 hs0
  obtain ⟨c0, c1, c2, c3, c4, c5, c6, c7, c8, c9⟩ := HL1.ten
  obtain ⟨d0, d1, d2, d3, d4, d5, d6, d7, d8, d9⟩ := HO1.loc.ten
  have f2 := HO1.frozen 2
  go_wp2_with fail
  have HO2 := HO1.set 2 (.slice (some ⟨B1, 0, none⟩) key.length key.length)
  have HQ2 := HQ1.other (p := ⟨w.heap.size + 1 + 1, 2, none⟩) (by simp) (.slice (some ⟨B1, 0, none⟩) key.length key.length)
  have hb2 : Below w.heap.size w (w1.setCell ⟨w.heap.size + 1 + 1, 2, none⟩ (.slice (some ⟨B1, 0, none⟩) key.length key.length)) := (by repeat (first | with_reducible exact Below.refl _ _ | with_reducible assumption | with_reducible refine ch_alloc ?_ _ | with_reducible refine Below.drew ?_ | with_reducible refine below_draws _ ?_ | (with_reducible refine Below.setCell ?_ ?_ _; rotate_left; focus (first | with_reducible exact Nat.le_refl _ | (simp; done) | (simp; omega) | (simp at *; omega))) | with_reducible refine ch_trans ?_ (by with_reducible assumption)))
  have HL2 := HL1.other (p := ⟨w.heap.size + 1 + 1, 2, none⟩) (by simp; omega) (.slice (some ⟨B1, 0, none⟩) key.length key.length)
  have HY2 : Hid (Firm (w.heap.size + 1 + 1 + 1) (fun u => ValsV u (.slice (some ⟨B1, 0, none⟩) key.length key.length) key) (w1.setCell ⟨w.heap.size + 1 + 1, 2, none⟩ (.slice (some ⟨B1, 0, none⟩) key.length key.length))) := HY.out.set (by simp) _
  have hs2 : w.heap.size + 1 + 1 + 1 ≤ (w1.setCell ⟨w.heap.size + 1 + 1, 2, none⟩ (.slice (some ⟨B1, 0, none⟩) key.length key.length)).heap.size := by simpa using hs1
  clear HY hs1 HO1 HQ1 HL1 hb1 c0 c1 c2 c3 c4 c5 c6 c7 c8 c9 d0 d1 d2 d3 d4 d5 d6 d7 d8 d9 f2
  generalize (w1.setCell ⟨w.heap.size + 1 + 1, 2, none⟩ (.slice (some ⟨B1, 0, none⟩) key.length key.length)) = u1 at HO2 HQ2 hb2 HL2 HY2 hs2 ⊢
  refine (toRow_any _ row _ (HR.out.on hb2) hfr).mono ?_
  rintro e w2 ⟨B2, rfl, hB2, b2, hy⟩
  have HZ : Hid (Firm (w.heap.size + 1 + 1 + 1) (fun u => ValsV u (.slice (some ⟨B2, 0, none⟩) row.length row.length) row) w2) := ((hy.firm (Nat.le_refl _)).imp fun u hu => hu.valsV hrm).mono (by omega)
  have HY3 : Hid (Firm (w.heap.size + 1 + 1 + 1) (fun u => ValsV u (.slice (some ⟨B1, 0, none⟩) key.length key.length) key) w2) := HY2.out.on b2
  have hb3 := ch_trans hb2 b2
  have HO3 := HO2.on b2
  have HQ3 := HQ2.on b2
  have HL3 := HL2.on b2
  have hs3 : w.heap.size + 1 + 1 + 1 ≤ w2.heap.size := by have := b2.size; omega
  clear hy hB2 b2 HO2 HQ2 HL2 hb2 hs2 HY2
  obtain ⟨c0, c1, c2, c3, c4, c5, c6, c7, c8, c9⟩ := HL3.ten
  obtain ⟨d0, d1, d2, d3, d4, d5, d6, d7, d8, d9⟩ := HO3.loc.ten
  have f3 := HO3.frozen 3
  go_wp2_with fail
  have HO4 := HO3.set 3 (.slice (some ⟨B2, 0, none⟩) row.length row.length)
  have HQ4 := HQ3.other (p := ⟨w.heap.size + 1 + 1, 3, none⟩) (by simp) (.slice (some ⟨B2, 0, none⟩) row.length row.length)
  have HF4 : Hid (Firm (w.heap.size + 1 + 1 + 1) (fun u => ValsV u (.slice (some ⟨B1, 0, none⟩) key.length key.length) key ∧ ValsV u (.slice (some ⟨B2, 0, none⟩) row.length row.length) row) (w2.setCell ⟨w.heap.size + 1 + 1, 3, none⟩ (.slice (some ⟨B2, 0, none⟩) row.length row.length))) := (HY3.out.and HZ.out).set (by simp) _
  have hb4 : Below w.heap.size w (w2.setCell ⟨w.heap.size + 1 + 1, 3, none⟩ (.slice (some ⟨B2, 0, none⟩) row.length row.length)) := (by repeat (first | with_reducible exact Below.refl _ _ | with_reducible assumption | with_reducible refine ch_alloc ?_ _ | with_reducible refine Below.drew ?_ | with_reducible refine below_draws _ ?_ | (with_reducible refine Below.setCell ?_ ?_ _; rotate_left; focus (first | with_reducible exact Nat.le_refl _ | (simp; done) | (simp; omega) | (simp at *; omega))) | with_reducible refine ch_trans ?_ (by with_reducible assumption)))
  have hs4 : w.heap.size + 1 + 1 + 1 ≤ (w2.setCell ⟨w.heap.size + 1 + 1, 3, none⟩ (.slice (some ⟨B2, 0, none⟩) row.length row.length)).heap.size := by simpa using hs3
  clear HY3 HZ HO3 HQ3 HL3 hb3 hs3 c0 c1 c2 c3 c4 c5 c6 c7 c8 c9 d0 d1 d2 d3 d4 d5 d6 d7 d8 d9 f3
  generalize (w2.setCell ⟨w.heap.size + 1 + 1, 3, none⟩ (.slice (some ⟨B2, 0, none⟩) row.length row.length)) = u2 at HO4 HQ4 hb4 HF4 hs4 ⊢
  refine (toDdl_any _ ⟨dk, dt, cs, ks, dn, to⟩ _ (HD.out _ hb4) HF.out).mono ?_
  rintro e w3 ⟨y, rfl, b3, hy, hyf⟩
  obtain ⟨c1, q1, o1, q2, rfl, hy, _, _⟩ := hy.lit
  have HZ : Hid (Firm (w.heap.size + 1 + 1 + 1) (fun u => DdlV u #[.int .i64 dk, .string dt, .slice c1 cs.length q1, .slice o1 ks.length q2, .string dn, .string to] ⟨dk, dt, cs, ks, dn, to⟩) w3) := (hy.firm hyf).mono (by omega)
  have HF5 : Hid (Firm (w.heap.size + 1 + 1 + 1) (fun u => ValsV u (.slice (some ⟨B1, 0, none⟩) key.length key.length) key ∧ ValsV u (.slice (some ⟨B2, 0, none⟩) row.length row.length) row) w3) := HF4.out.on b3
  have HF6 : Hid (Firm (w.heap.size + 1 + 1 + 1) (fun u => StmtV u #[.int .i64 kind, .string table, .slice (some ⟨B1, 0, none⟩) key.length key.length, .slice (some ⟨B2, 0, none⟩) row.length row.length, .int .i64 dk, .string dt, .slice c1 cs.length q1, .slice o1 ks.length q2, .string dn, .string to] ⟨kind, table, key, row, ⟨dk, dt, cs, ks, dn, to⟩⟩) w3) := (HF5.out.and HZ.out).imp fun u ⟨⟨h1, h2⟩, h3⟩ => by
    obtain ⟨cv, kv, e, h4, h5⟩ := h3
    simp at e
    obtain ⟨rfl, rfl⟩ := e
    exact ⟨_, _, _, _, rfl, h1, h2, h4, h5⟩
  have hb3 := ch_trans hb4 b3
  have HO3 := HO4.on b3
  have HQ3 := HQ4.on b3
  clear hy hyf HZ HF5 HF4 b3 HO4 HQ4 hb4 hs4
  obtain ⟨d0, d1, d2, d3, d4, d5, d6, d7, d8, d9⟩ := HO3.loc.ten
  have f4 := HO3.frozen 4
  have f5 := HO3.frozen 5
  have f6 := HO3.frozen 6
  have f7 := HO3.frozen 7
  have f8 := HO3.frozen 8
  have f9 := HO3.frozen 9
  obtain ⟨g0, g1, g2, g3, g4, g5, g6, g7, g8, g9⟩ := HQ3.loc.ten
  have i0 := HQ3.frozen 0
  have i1 := HQ3.frozen 1
  have i2 := HQ3.frozen 2
  have i3 := HQ3.frozen 3
  have i4 := HQ3.frozen 4
  have i5 := HQ3.frozen 5
  have i6 := HQ3.frozen 6
  have i7 := HQ3.frozen 7
  have i8 := HQ3.frozen 8
  have i9 := HQ3.frozen 9
  go_wp2
  have HQ4 : Own ((((((((((((((((w3.setCell ⟨w.heap.size + 1 + 1, 4, none⟩ (.int .i64 dk)).setCell ⟨w.heap.size + 1 + 1, 5, none⟩ (.string dt)).setCell ⟨w.heap.size + 1 + 1, 6, none⟩ (.slice c1 cs.length q1)).setCell ⟨w.heap.size + 1 + 1, 7, none⟩ (.slice o1 ks.length q2)).setCell ⟨w.heap.size + 1 + 1, 8, none⟩ (.string dn)).setCell ⟨w.heap.size + 1 + 1, 9, none⟩ (.string to)).setCell ⟨w.heap.size + 1, 0, none⟩ (.int .i64 kind)).setCell ⟨w.heap.size + 1, 1, none⟩ (.string table)).setCell ⟨w.heap.size + 1, 2, none⟩ (.slice (some ⟨B1, 0, none⟩) key.length key.length)).setCell ⟨w.heap.size + 1, 3, none⟩ (.slice (some ⟨B2, 0, none⟩) row.length row.length)).setCell ⟨w.heap.size + 1, 4, none⟩ (.int .i64 dk)).setCell ⟨w.heap.size + 1, 5, none⟩ (.string dt)).setCell ⟨w.heap.size + 1, 6, none⟩ (.slice c1 cs.length q1)).setCell ⟨w.heap.size + 1, 7, none⟩ (.slice o1 ks.length q2)).setCell ⟨w.heap.size + 1, 8, none⟩ (.string dn)).setCell ⟨w.heap.size + 1, 9, none⟩ (.string to)) _ _ #[.int .i64 kind, .string table, .slice (some ⟨B1, 0, none⟩) key.length key.length, .slice (some ⟨B2, 0, none⟩) row.length row.length, .int .i64 dk, .string dt, .slice c1 cs.length q1, .slice o1 ks.length q2, .string dn, .string to] := (Own.past (c := w.heap.size + 1 + 1) (by omega) [.int .i64 dk, .string dt, .slice c1 cs.length q1, .slice o1 ks.length q2, .string dn, .string to] _ 4 HQ3).fill (old := [_, _, _, _, _, _, _, _, _, _]) [.int .i64 kind, .string table, .slice (some ⟨B1, 0, none⟩) key.length key.length, .slice (some ⟨B2, 0, none⟩) row.length row.length, .int .i64 dk, .string dt, .slice c1 cs.length q1, .slice o1 ks.length q2, .string dn, .string to] rfl
  have HF7 : Hid (Firm (w.heap.size + 1 + 1 + 1) (fun u => StmtV u #[.int .i64 kind, .string table, .slice (some ⟨B1, 0, none⟩) key.length key.length, .slice (some ⟨B2, 0, none⟩) row.length row.length, .int .i64 dk, .string dt, .slice c1 cs.length q1, .slice o1 ks.length q2, .string dn, .string to] ⟨kind, table, key, row, ⟨dk, dt, cs, ks, dn, to⟩⟩) ((((((((((((((((w3.setCell ⟨w.heap.size + 1 + 1, 4, none⟩ (.int .i64 dk)).setCell ⟨w.heap.size + 1 + 1, 5, none⟩ (.string dt)).setCell ⟨w.heap.size + 1 + 1, 6, none⟩ (.slice c1 cs.length q1)).setCell ⟨w.heap.size + 1 + 1, 7, none⟩ (.slice o1 ks.length q2)).setCell ⟨w.heap.size + 1 + 1, 8, none⟩ (.string dn)).setCell ⟨w.heap.size + 1 + 1, 9, none⟩ (.string to)).setCell ⟨w.heap.size + 1, 0, none⟩ (.int .i64 kind)).setCell ⟨w.heap.size + 1, 1, none⟩ (.string table)).setCell ⟨w.heap.size + 1, 2, none⟩ (.slice (some ⟨B1, 0, none⟩) key.length key.length)).setCell ⟨w.heap.size + 1, 3, none⟩ (.slice (some ⟨B2, 0, none⟩) row.length row.length)).setCell ⟨w.heap.size + 1, 4, none⟩ (.int .i64 dk)).setCell ⟨w.heap.size + 1, 5, none⟩ (.string dt)).setCell ⟨w.heap.size + 1, 6, none⟩ (.slice c1 cs.length q1)).setCell ⟨w.heap.size + 1, 7, none⟩ (.slice o1 ks.length q2)).setCell ⟨w.heap.size + 1, 8, none⟩ (.string dn)).setCell ⟨w.heap.size + 1, 9, none⟩ (.string to))) := Firm.stores (b := w.heap.size + 1) (by omega) [.int .i64 kind, .string table, .slice (some ⟨B1, 0, none⟩) key.length key.length, .slice (some ⟨B2, 0, none⟩) row.length row.length, .int .i64 dk, .string dt, .slice c1 cs.length q1, .slice o1 ks.length q2, .string dn, .string to] _ 0 (Firm.stores (b := w.heap.size + 1 + 1) (by omega) [.int .i64 dk, .string dt, .slice c1 cs.length q1, .slice o1 ks.length q2, .string dn, .string to] _ 4 HF6.out)
  have HB : Hid (Below w.heap.size w ((((((((((((((((w3.setCell ⟨w.heap.size + 1 + 1, 4, none⟩ (.int .i64 dk)).setCell ⟨w.heap.size + 1 + 1, 5, none⟩ (.string dt)).setCell ⟨w.heap.size + 1 + 1, 6, none⟩ (.slice c1 cs.length q1)).setCell ⟨w.heap.size + 1 + 1, 7, none⟩ (.slice o1 ks.length q2)).setCell ⟨w.heap.size + 1 + 1, 8, none⟩ (.string dn)).setCell ⟨w.heap.size + 1 + 1, 9, none⟩ (.string to)).setCell ⟨w.heap.size + 1, 0, none⟩ (.int .i64 kind)).setCell ⟨w.heap.size + 1, 1, none⟩ (.string table)).setCell ⟨w.heap.size + 1, 2, none⟩ (.slice (some ⟨B1, 0, none⟩) key.length key.length)).setCell ⟨w.heap.size + 1, 3, none⟩ (.slice (some ⟨B2, 0, none⟩) row.length row.length)).setCell ⟨w.heap.size + 1, 4, none⟩ (.int .i64 dk)).setCell ⟨w.heap.size + 1, 5, none⟩ (.string dt)).setCell ⟨w.heap.size + 1, 6, none⟩ (.slice c1 cs.length q1)).setCell ⟨w.heap.size + 1, 7, none⟩ (.slice o1 ks.length q2)).setCell ⟨w.heap.size + 1, 8, none⟩ (.string dn)).setCell ⟨w.heap.size + 1, 9, none⟩ (.string to))) := by
    show Below _ _ _
    exact stores_below (b := w.heap.size + 1) (by omega) [.int .i64 kind, .string table, .slice (some ⟨B1, 0, none⟩) key.length key.length, .slice (some ⟨B2, 0, none⟩) row.length row.length, .int .i64 dk, .string dt, .slice c1 cs.length q1, .slice o1 ks.length q2, .string dn, .string to] _ 0 (stores_below (b := w.heap.size + 1 + 1) (by omega) [.int .i64 dk, .string dt, .slice c1 cs.length q1, .slice o1 ks.length q2, .string dn, .string to] _ 4 hb3)
  generalize ((((((((((((((((w3.setCell ⟨w.heap.size + 1 + 1, 4, none⟩ (.int .i64 dk)).setCell ⟨w.heap.size + 1 + 1, 5, none⟩ (.string dt)).setCell ⟨w.heap.size + 1 + 1, 6, none⟩ (.slice c1 cs.length q1)).setCell ⟨w.heap.size + 1 + 1, 7, none⟩ (.slice o1 ks.length q2)).setCell ⟨w.heap.size + 1 + 1, 8, none⟩ (.string dn)).setCell ⟨w.heap.size + 1 + 1, 9, none⟩ (.string to)).setCell ⟨w.heap.size + 1, 0, none⟩ (.int .i64 kind)).setCell ⟨w.heap.size + 1, 1, none⟩ (.string table)).setCell ⟨w.heap.size + 1, 2, none⟩ (.slice (some ⟨B1, 0, none⟩) key.length key.length)).setCell ⟨w.heap.size + 1, 3, none⟩ (.slice (some ⟨B2, 0, none⟩) row.length row.length)).setCell ⟨w.heap.size + 1, 4, none⟩ (.int .i64 dk)).setCell ⟨w.heap.size + 1, 5, none⟩ (.string dt)).setCell ⟨w.heap.size + 1, 6, none⟩ (.slice c1 cs.length q1)).setCell ⟨w.heap.size + 1, 7, none⟩ (.slice o1 ks.length q2)).setCell ⟨w.heap.size + 1, 8, none⟩ (.string dn)).setCell ⟨w.heap.size + 1, 9, none⟩ (.string to)) = W at HQ4 HB HF7 ⊢
  obtain ⟨e0, e1, e2, e3, e4, e5, e6, e7, e8, e9⟩ := HQ4.loc.ten
  exact bodyPost_ret (v := .agg #[.int .i64 kind, .string table, .slice (some ⟨B1, 0, none⟩) key.length key.length, .slice (some ⟨B2, 0, none⟩) row.length row.length, .int .i64 dk, .string dt, .slice c1 cs.length q1, .slice o1 ks.length q2, .string dn, .string to]) (by simp [results, Tryz.results105, go_sem, e0, e1, e2, e3, e4, e5, e6, e7, e8, e9]) rfl ⟨_, rfl, HB.out, HF7.out.mono (by omega)⟩
end Go.Proofs.YtiijahoheajppaaGreat
