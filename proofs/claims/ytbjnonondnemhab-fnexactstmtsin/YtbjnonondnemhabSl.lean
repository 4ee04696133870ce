/- Rows copied: given and landed. Lists of statements in memory: read, looked at. -/
import Derived.Test.YtbjnonondnemhabCn
import Derived.Test.YtbjnonondnemhabFm
import Derived.Test.YtbjnonondnemhabSt
import Derived.Test.YtbjnonondnemhabFl
namespace Go.Proofs.Ytbjnonondnemhab
open Go.ChangeShapes Go.WideShapes Go.ChangeAt Go.RowKit

/-- A row of the call's own lies in a block of its elements' type. -/
theorem Got.tag {w : World} {B : Nat} {T : TypeId} {z : Nat} {v : Value} {xs : List (Array Value)} (h : Got w B T z v xs) {c : Nat} (hc : v.ownBlock = some c) : ∃ cur, w.heap[c]? = some (.cells cur T (0, 0)) := by
  rcases h.2.2 with ⟨rfl, _⟩ | ⟨g, cap, cur, rfl, _, hg, _⟩
  · cases hc
  · simp [Value.ownBlock] at hc; subst hc; exact ⟨cur, hg⟩
theorem Got.apart {w : World} {B B' : Nat} {T T' : TypeId} {z z' : Nat} {v v' : Value} {xs xs' : List (Array Value)} (h : Got w B T z v xs) (h' : Got w B' T' z' v' xs') (hT : T ≠ T') {c : Nat} (hc : v.ownBlock = some c) : v'.ownBlock ≠ some c := fun hc' => by
  obtain ⟨_, e⟩ := h.tag hc
  obtain ⟨_, e'⟩ := h'.tag hc'
  rw [e] at e'
  cases e'
  exact hT rfl
theorem Got.turned {w w' : World} {B : Nat} {T : TypeId} {z : Nat} {v : Value} {xs : List (Array Value)} (h : Got w B T z v xs) {S : Nat → Prop} (k : Turns S w w') (hS : ∀ c, v.ownBlock = some c → ¬ S c) : Got w' B T z v xs := by
  refine ⟨h.1, h.2.1, ?_⟩
  rcases h.2.2 with hn | ⟨g, cap, cur, rfl, hb, hg, rest⟩
  · exact Or.inl hn
  · exact Or.inr ⟨g, cap, cur, rfl, hb, (k.block g (Array.getElem?_eq_some_iff.1 hg).1 (hS g rfl)).trans hg, rest⟩

/-- Rows of a call's own, each with a block of its own. -/
def RowsY (w : World) (B : Nat) (v : Value) (rs : List (List Vc)) (ys : List Value) (bs : List Nat) : Prop := Got w B 62 1 v (ys.map one1) ∧ ys.length = rs.length ∧ bs.length = rs.length ∧ bs.Nodup ∧
  ∀ i (h : i < rs.length) (hy : i < ys.length) (hb : i < bs.length), Got w B 84 3 ys[i] (rs[i].map Vc.cells) ∧ ∃ cap, ys[i] = .slice (some ⟨bs[i], 0, none⟩) rs[i].length cap
def RowsG (w : World) (B : Nat) (v : Value) (rs : List (List Vc)) : Prop := ∃ (ys : List Value) (bs : List Nat), RowsY w B v rs ys bs
theorem RowsG.on {w w' : World} {B : Nat} {v : Value} {rs : List (List Vc)} (h : RowsG w B v rs) (k : Below w.heap.size w w') : RowsG w' B v rs := by
  obtain ⟨ys, bs, h1, h2, h3, h4, h5⟩ := h
  exact ⟨ys, bs, h1.on k, h2, h3, h4, fun i h hy hb => ⟨(h5 i h hy hb).1.on k, (h5 i h hy hb).2⟩⟩
theorem RowsG.mono {w : World} {B B' : Nat} {v : Value} {rs : List (List Vc)} (h : RowsG w B v rs) (hB : B' ≤ B) : RowsG w B' v rs := by
  obtain ⟨ys, bs, h1, h2, h3, h4, h5⟩ := h
  exact ⟨ys, bs, h1.mono hB, h2, h3, h4, fun i h hy hb => ⟨(h5 i h hy hb).1.mono hB, (h5 i h hy hb).2⟩⟩
theorem RowsG.nil (w : World) (B : Nat) : RowsG w B (.slice none 0 0) [] := ⟨[], [], Got.nil _ _ _ _, rfl, rfl, List.nodup_nil, fun i h => by simp at h⟩
theorem RowsG.emptyAt (w : World) {n : Nat} (h : w.heap.size = n) : RowsG (w.alloc (.cells #[] 62)) n (.slice (some ⟨n, 0, none⟩) 0 0) [] := ⟨[], [], Got.emptyAt _ _ _ h, rfl, rfl, List.nodup_nil, fun i h => by simp at h⟩
theorem RowsG.turned {w w' : World} {B : Nat} {v : Value} {rs : List (List Vc)} (h : RowsG w B v rs) {S : Nat → Prop} (k : Turns S w w') (hS : ∀ c, S c → c < B) : RowsG w' B v rs := by
  obtain ⟨ys, bs, h1, h2, h3, h4, h5⟩ := h
  exact ⟨ys, bs, h1.turns k hS, h2, h3, h4, fun i h hy hb => ⟨(h5 i h hy hb).1.turns k hS, (h5 i h hy hb).2⟩⟩
theorem RowsG.lit {w : World} {B : Nat} {v : Value} {rs : List (List Vc)} (h : RowsG w B v rs) : ∃ a n cap, v = .slice a n cap ∧ RowsG w B (.slice a n cap) rs := by
  obtain ⟨ys, bs, h1, h2⟩ := h
  obtain ⟨a, n, cap, rfl, h1⟩ := h1.lit2
  exact ⟨a, n, cap, rfl, ys, bs, h1, h2⟩
theorem RowsG.rows {w : World} {B : Nat} {v : Value} {rs : List (List Vc)} (h : RowsG w B v rs) : RowsV w v rs := by
  obtain ⟨ys, bs, h1, h2, h3, h4, h5⟩ := h
  obtain ⟨a, cap, e, h6, h7, h8, _⟩ := h1.row
  simp only [List.length_map] at e h6
  exact ⟨a, cap, ys, by rw [e, h2], by omega, h7, h8, h2, fun i hi g => (h5 i g hi (by omega)).1.vals⟩
/-- One more row. -/
theorem RowsY.step {w0 w1 w2 : World} {B : Nat} {v v' : Value} {rs : List (List Vc)} {ys : List Value} {bs : List Nat} {r : List Vc} {kv : Value} (h : RowsY w0 B v rs ys bs) (hb : Below w0.heap.size w0 w1) (hB : B ≤ w0.heap.size) (hk : Got w1 w0.heap.size 84 3 kv (r.map Vc.cells)) (hr : 1 ≤ r.length)
    (hv : Got w2 B 62 1 v' (ys.map one1 ++ [one1 kv])) (ht : Turns (fun c => v.ownBlock = some c) w1 w2) : RowsG w2 B v' (rs ++ [r]) := by
  obtain ⟨h1, h2, h3, h4, h5⟩ := h
  have hkb : ∃ b cap, kv = .slice (some ⟨b, 0, none⟩) r.length cap ∧ w0.heap.size ≤ b := by
    rcases hk.2.2 with ⟨_, hn⟩ | ⟨g, cap, cur, e, hg, _⟩
    · simp at hn; subst hn; simp at hr
    · exact ⟨g, cap, by simpa using e, hg⟩
  obtain ⟨b, cap, rfl, hb0⟩ := hkb
  have hT : (62 : TypeId) ≠ 84 := by decide
  have hout := h1.on hb
  refine ⟨ys ++ [.slice (some ⟨b, 0, none⟩) r.length cap], bs ++ [b], by rw [List.map_append]; exact hv, by simp [h2], by simp [h3], ?_, fun i hi hy hb' => ?_⟩
  · rw [List.nodup_append]
    refine ⟨h4, by simp, fun c hc d hd => ?_⟩
    simp at hd
    subst hd
    obtain ⟨i, hi, rfl⟩ := List.getElem_of_mem hc
    obtain ⟨hg, cap', e⟩ := h5 i (by omega) (by omega) hi
    have := (World.ownsRow.lt hg.2 bs[i] (by rw [e]; rfl)).2
    omega
  · by_cases hlt : i < rs.length
    · obtain ⟨hg, cap', e⟩ := h5 i hlt (by omega) (by omega)
      rw [List.getElem_append_left (by omega), List.getElem_append_left (by omega), List.getElem_append_left (by omega)]
      exact ⟨(hg.on hb).turned ht fun c hc => (hg.on hb).apart hout (Ne.symm hT) hc, cap', e⟩
    · simp at hi
      have e : i = rs.length := by omega
      subst e
      have e1 : (ys ++ [Value.slice (some ⟨b, 0, none⟩) r.length cap])[rs.length] = .slice (some ⟨b, 0, none⟩) r.length cap := by
        rw [List.getElem_append_right (by omega)]; simp [h2]
      have e2 : (bs ++ [b])[rs.length] = b := by rw [List.getElem_append_right (by omega)]; simp [h3]
      have e3 : (rs ++ [r])[rs.length] = r := by rw [List.getElem_append_right (by omega)]; simp
      rw [e1, e2, e3]
      exact ⟨(hk.mono hB).turned ht fun c hc => (hk.mono hB).apart hout (Ne.symm hT) hc, cap, rfl⟩
end Go.Proofs.Ytbjnonondnemhab

namespace Go.Proofs.Ytbjnonondnemhab
open Go.ChangeShapes Go.WideShapes Go.ChangeAt Go.RowKit

/-- Statements behind a slice. -/
def StmtsV (w : World) (v : Value) (ts : List Sc) : Prop := ∃ a cap xs, v = .slice a ts.length cap ∧ ts.length ≤ cap ∧ cap ≤ maxLen ∧ RowAt w a 10 xs ∧ xs.length = ts.length ∧ ∀ i (h : i < xs.length) (g : i < ts.length), StmtV w xs[i] ts[i]
theorem StmtsV.on {w w' : World} {v : Value} {ts : List Sc} (h : StmtsV w v ts) (b : Below w.heap.size w w') : StmtsV w' v ts := by
  obtain ⟨a, cap, xs, e, h1, h2, h3, h4, h5⟩ := h; exact ⟨a, cap, xs, e, h1, h2, h3.on b, h4, fun i h g => (h5 i h g).on b⟩
theorem StmtsV.lit {w : World} {v : Value} {ts : List Sc} (h : StmtsV w v ts) : ∃ a cap, v = .slice a ts.length cap ∧ ts.length ≤ cap ∧ cap ≤ maxLen ∧ StmtsV w (.slice a ts.length cap) ts := by
  obtain ⟨a, cap, xs, rfl, h1, h2, h3⟩ := h; exact ⟨a, cap, rfl, h1, h2, a, cap, xs, rfl, h1, h2, h3⟩
theorem StmtsV.st {w : World} {a : Option Addr} {n cap : Nat} {ts : List Sc} (h : StmtsV w (.slice a n cap) ts) (k : Nat) (hk : k < ts.length) : ∃ b off ka kp ra rp ca cp oa op, a = some ⟨b, off, none⟩ ∧ StmtV w #[.int .i64 ts[k].kind, .string ts[k].table, .slice ka ts[k].key.length kp, .slice ra ts[k].row.length rp, .int .i64 ts[k].ddl.kind, .string ts[k].ddl.table, .slice ca ts[k].ddl.cols.length cp, .slice oa ts[k].ddl.keys.length op, .string ts[k].ddl.name, .string ts[k].ddl.to] ts[k] ∧
    w.cell? ⟨b, off + k * 10, none⟩ = some (.int .i64 ts[k].kind) ∧ w.cell? ⟨b, off + k * 10 + 1, none⟩ = some (.string ts[k].table) ∧ w.cell? ⟨b, off + k * 10 + 2, none⟩ = some (.slice ka ts[k].key.length kp) ∧ w.cell? ⟨b, off + k * 10 + 3, none⟩ = some (.slice ra ts[k].row.length rp) ∧ w.cell? ⟨b, off + k * 10 + 4, none⟩ = some (.int .i64 ts[k].ddl.kind) ∧ w.cell? ⟨b, off + k * 10 + 5, none⟩ = some (.string ts[k].ddl.table) ∧ w.cell? ⟨b, off + k * 10 + 6, none⟩ = some (.slice ca ts[k].ddl.cols.length cp) ∧ w.cell? ⟨b, off + k * 10 + 7, none⟩ = some (.slice oa ts[k].ddl.keys.length op) ∧ w.cell? ⟨b, off + k * 10 + 8, none⟩ = some (.string ts[k].ddl.name) ∧ w.cell? ⟨b, off + k * 10 + 9, none⟩ = some (.string ts[k].ddl.to) := by
  obtain ⟨a', cap', xs, e, h1, h2, h3, h4, h5⟩ := h
  cases e
  rcases h3.2 with h0 | ⟨b, off, ha, h⟩
  · subst h0; simp at h4; omega
  · obtain ⟨ka, kp, ra, rp, ca, cp, oa, op, ex, g1, g2, g3, g4⟩ := (h5 k (by omega) hk).lit
    have e0 := h k (by omega) 0 (by omega)
    have e1 := h k (by omega) 1 (by omega)
    have e2 := h k (by omega) 2 (by omega)
    have e3 := h k (by omega) 3 (by omega)
    have e4 := h k (by omega) 4 (by omega)
    have e5 := h k (by omega) 5 (by omega)
    have e6 := h k (by omega) 6 (by omega)
    have e7 := h k (by omega) 7 (by omega)
    have e8 := h k (by omega) 8 (by omega)
    have e9 := h k (by omega) 9 (by omega)
    rw [ex] at e0 e1 e2 e3 e4 e5 e6 e7 e8 e9
    exact ⟨b, off, ka, kp, ra, rp, ca, cp, oa, op, ha, ⟨_, _, _, _, rfl, g1, g2, g3, g4⟩, e0, e1, e2, e3, e4, e5, e6, e7, e8, e9⟩

set_option maxRecDepth 100000 in
set_option maxHeartbeats 1000000 in
/-- laws.eqStmtS -/
theorem eqStmtS_same (av bv : Value) (ts : List Sc) (w : World) (ha : StmtsV w av ts) (hb : StmtsV w bv ts) : Calls Try.prog 19 #[av, bv] w fun e w' => e = .returned (.bool true) ∧ Below w.heap.size w w' := by
  obtain ⟨a, cap, rfl, hl, hm, ha⟩ := ha.lit
  obtain ⟨a', cap', rfl, hl', hm', hb⟩ := hb.lit
  unfold maxLen at hm
  have HC : Hid (StmtsV w (.slice a ts.length cap) ts) := ha
  have HC' : Hid (StmtsV w (.slice a' ts.length cap') ts) := hb
  clear ha hb hm' hl'
  go_enter Try.func19, Try.ntmps19
  go_wp2
  go_loopw [5] (fun i wr => ∃ k : Nat, k ≤ ts.length ∧ i = .int .i64 k ∧ Below w.heap.size w wr) (fun i _ => ts.length - (intOf i).toNat)
  case atStart => exact ⟨0, Nat.zero_le _, rfl, (by repeat (first | with_reducible exact Below.refl _ _ | with_reducible assumption | with_reducible refine ch_alloc ?_ _ | with_reducible refine Below.drew ?_ | with_reducible refine below_draws _ ?_ | (with_reducible refine Below.setCell ?_ ?_ _; rotate_left; focus (first | with_reducible exact Nat.le_refl _ | (simp; done) | (simp; omega) | (simp at *; omega))) | with_reducible refine ch_trans ?_ (by with_reducible assumption)))⟩
  case round =>
    obtain ⟨k, hk, rfl, hb⟩ := hrel
    by_cases hlt : k < ts.length
    · have hlti : (k : Int) < ts.length := by omega
      obtain ⟨b, off, ka, kp, ra, rp, ca, cp, oa, op, rfl, hx, d0, d1, d2, d3, d4, d5, d6, d7, d8, d9⟩ := (HC.out.on hb).st k hlt
      obtain ⟨b', off', ka1, kp1, ra1, rp1, ca1, cp1, oa1, op1, rfl, hx', g0, g1, g2, g3, g4, g5, g6, g7, g8, g9⟩ := (HC'.out.on hb).st k hlt
      have HY : Hid (StmtV wr #[.int .i64 ts[k].kind, .string ts[k].table, .slice ka ts[k].key.length kp, .slice ra ts[k].row.length rp, .int .i64 ts[k].ddl.kind, .string ts[k].ddl.table, .slice ca ts[k].ddl.cols.length cp, .slice oa ts[k].ddl.keys.length op, .string ts[k].ddl.name, .string ts[k].ddl.to] ts[k]) := hx
      have HY' : Hid (StmtV wr #[.int .i64 ts[k].kind, .string ts[k].table, .slice ka1 ts[k].key.length kp1, .slice ra1 ts[k].row.length rp1, .int .i64 ts[k].ddl.kind, .string ts[k].ddl.table, .slice ca1 ts[k].ddl.cols.length cp1, .slice oa1 ts[k].ddl.keys.length op1, .string ts[k].ddl.name, .string ts[k].ddl.to] ts[k]) := hx'
      clear hx hx'
      go_wp2_with fail
      go_region_with (go_at_call 27; refine (eqStmt_same _ _ ts[k] _ (HY.out.on (by repeat (first | with_reducible exact Below.refl _ _ | with_reducible assumption | with_reducible refine ch_alloc ?_ _ | with_reducible refine Below.drew ?_ | with_reducible refine below_draws _ ?_ | (with_reducible refine Below.setCell ?_ ?_ _; rotate_left; focus (first | with_reducible exact Nat.le_refl _ | (simp; done) | (simp; omega) | (simp at *; omega))) | with_reducible refine ch_trans ?_ (by with_reducible assumption)))) (HY'.out.on (by repeat (first | with_reducible exact Below.refl _ _ | with_reducible assumption | with_reducible refine ch_alloc ?_ _ | with_reducible refine Below.drew ?_ | with_reducible refine below_draws _ ?_ | (with_reducible refine Below.setCell ?_ ?_ _; rotate_left; focus (first | with_reducible exact Nat.le_refl _ | (simp; done) | (simp; omega) | (simp at *; omega))) | with_reducible refine ch_trans ?_ (by with_reducible assumption))))).mono ?_; rintro e w1 ⟨rfl, b1⟩)
      all_goals
        go_wp2
        go_round
        case rel => exact ⟨k + 1, by omega, by go_num, (by repeat (first | with_reducible exact Below.refl _ _ | with_reducible assumption | with_reducible refine ch_alloc ?_ _ | with_reducible refine Below.drew ?_ | with_reducible refine below_draws _ ?_ | (with_reducible refine Below.setCell ?_ ?_ _; rotate_left; focus (first | with_reducible exact Nat.le_refl _ | (simp; done) | (simp; omega) | (simp at *; omega))) | with_reducible refine ch_trans ?_ (by with_reducible assumption)))⟩
        case measure => simp [intOf]; omega
    · have hlti : (ts.length : Int) ≤ k := by omega
      go_wp2
      go_ret
      exact ⟨rfl, (by repeat (first | with_reducible exact Below.refl _ _ | with_reducible assumption | with_reducible refine ch_alloc ?_ _ | with_reducible refine Below.drew ?_ | with_reducible refine below_draws _ ?_ | (with_reducible refine Below.setCell ?_ ?_ _; rotate_left; focus (first | with_reducible exact Nat.le_refl _ | (simp; done) | (simp; omega) | (simp at *; omega))) | with_reducible refine ch_trans ?_ (by with_reducible assumption)))⟩
end Go.Proofs.Ytbjnonondnemhab
