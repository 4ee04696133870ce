/- Places of statements behind a slice: marked, held. Rows copied: given and landed. Lists of statements in memory: read, looked at. Rows of a call's own, told by their places. -/
import Derived.Test.YtikccmgpmbnkfaaGreatPv
import Derived.Test.YtikccmgpmbnkfaaGreatWy
import Derived.Test.YtikccmgpmbnkfaaGreatPn
import Derived.Test.YtikccmgpmbnkfaaGreatFm
import Derived.Test.YtikccmgpmbnkfaaGreatSt
import Derived.Test.YtikccmgpmbnkfaaGreatWq
namespace Go.Proofs.YtikccmgpmbnkfaaGreat
open Go.ChangeShapes Go.WideShapes Go.ChangeAt Go.RowKit

def StmtsP := RowP 48 [LeafP 0, LeafP 1, NestP ValsP, NestP ValsP, LeafP 0, LeafP 1, NestP ColsP, NestP StrsP, LeafP 1, LeafP 1]
theorem StmtsP.lay : Lay StmtsP := RowP.lay fun j h => by
  match j, h with
  | 0, _ => exact Or.inl ⟨0, rfl⟩
  | 1, _ => exact Or.inl ⟨1, rfl⟩
  | 2, _ => exact Or.inr ⟨ValsP, rfl, leaves_lay _ _, fun w v ps h => RowP.lit h⟩
  | 3, _ => exact Or.inr ⟨ValsP, rfl, leaves_lay _ _, fun w v ps h => RowP.lit h⟩
  | 4, _ => exact Or.inl ⟨0, rfl⟩
  | 5, _ => exact Or.inl ⟨1, rfl⟩
  | 6, _ => exact Or.inr ⟨ColsP, rfl, leaves_lay _ _, fun w v ps h => RowP.lit h⟩
  | 7, _ => exact Or.inr ⟨StrsP, rfl, leaves_lay _ _, fun w v ps h => RowP.lit h⟩
  | 8, _ => exact Or.inl ⟨1, rfl⟩
  | 9, _ => exact Or.inl ⟨1, rfl⟩
theorem StmtsP.len {w : World} {v : Value} {ps : List Plc} (h : StmtsP w v ps) : ps.length ≤ 76965813944320 := by
  rcases h with ⟨rfl, rfl⟩ | ⟨b, n, cap, m, f, qs, rfl, hn1, hr, hl, rfl, hf⟩
  · simp
  · have h1 := upTo_le (L := 7340032) qs (n * 10) fun c hc => by
      have hi : c / 10 < n := by omega
      have h0 := hf _ hi (c % 10) (by have := Nat.mod_lt c (show 0 < 10 by omega); simpa using this)
      have hd : c / 10 * 10 + c % 10 = c := by omega
      have hj : c % 10 < 10 := Nat.mod_lt _ (by omega)
      simp only [List.length_cons, List.length_nil, Nat.zero_add, Nat.reduceAdd, hd] at h0
      have key : ∀ (j : Nat) (hj : j < [LeafP 0, LeafP 1, NestP ValsP, NestP ValsP, LeafP 0, LeafP 1, NestP ColsP, NestP StrsP, LeafP 1, LeafP 1].length), ([LeafP 0, LeafP 1, NestP ValsP, NestP ValsP, LeafP 0, LeafP 1, NestP ColsP, NestP StrsP, LeafP 1, LeafP 1] : List CellP)[j] w ⟨b, c, none⟩ (f c) (qs c) → (qs c).length ≤ 7340032 := fun j hj h0 => by
        match j, hj, h0 with
        | 0, _, h0 => have := h0.2; rw [this]; simp
        | 1, _, h0 => have := h0.2; rw [this]; simp
        | 2, _, h0 => exact Nat.le_trans (ValsP_len h0) (by omega)
        | 3, _, h0 => exact Nat.le_trans (ValsP_len h0) (by omega)
        | 4, _, h0 => have := h0.2; rw [this]; simp
        | 5, _, h0 => have := h0.2; rw [this]; simp
        | 6, _, h0 => exact Nat.le_trans (ColsP_len h0) (by omega)
        | 7, _, h0 => exact Nat.le_trans (StrsP_len h0) (by omega)
        | 8, _, h0 => have := h0.2; rw [this]; simp
        | 9, _, h0 => have := h0.2; rw [this]; simp
      exact key _ _ h0
    show (upTo qs (n * 10)).length ≤ _
    have h2 : n * 10 * 7340032 ≤ 76965813944320 := by omega
    omega

theorem StmtsP.elem {w : World} {b n : Nat} {f : Nat → Value} {qs : Nat → List Plc} (hf : ∀ i, i < n → ∀ j (h : j < [LeafP 0, LeafP 1, NestP ValsP, NestP ValsP, LeafP 0, LeafP 1, NestP ColsP, NestP StrsP, LeafP 1, LeafP 1].length), [LeafP 0, LeafP 1, NestP ValsP, NestP ValsP, LeafP 0, LeafP 1, NestP ColsP, NestP StrsP, LeafP 1, LeafP 1][j] w ⟨b, i * [LeafP 0, LeafP 1, NestP ValsP, NestP ValsP, LeafP 0, LeafP 1, NestP ColsP, NestP StrsP, LeafP 1, LeafP 1].length + j, none⟩ (f (i * [LeafP 0, LeafP 1, NestP ValsP, NestP ValsP, LeafP 0, LeafP 1, NestP ColsP, NestP StrsP, LeafP 1, LeafP 1].length + j)) (qs (i * [LeafP 0, LeafP 1, NestP ValsP, NestP ValsP, LeafP 0, LeafP 1, NestP ColsP, NestP StrsP, LeafP 1, LeafP 1].length + j))) (j : Nat) (hj : j < n) : (leafK 0 (f (j * 10)) ∧ qs (j * 10) = [(⟨b, j * 10, none⟩, 0)]) ∧ (leafK 1 (f (j * 10 + 1)) ∧ qs (j * 10 + 1) = [(⟨b, j * 10 + 1, none⟩, 1)]) ∧ ValsP w (f (j * 10 + 2)) (qs (j * 10 + 2)) ∧ ValsP w (f (j * 10 + 3)) (qs (j * 10 + 3)) ∧ (leafK 0 (f (j * 10 + 4)) ∧ qs (j * 10 + 4) = [(⟨b, j * 10 + 4, none⟩, 0)]) ∧ (leafK 1 (f (j * 10 + 5)) ∧ qs (j * 10 + 5) = [(⟨b, j * 10 + 5, none⟩, 1)]) ∧ ColsP w (f (j * 10 + 6)) (qs (j * 10 + 6)) ∧ StrsP w (f (j * 10 + 7)) (qs (j * 10 + 7)) ∧ (leafK 1 (f (j * 10 + 8)) ∧ qs (j * 10 + 8) = [(⟨b, j * 10 + 8, none⟩, 1)]) ∧ (leafK 1 (f (j * 10 + 9)) ∧ qs (j * 10 + 9) = [(⟨b, j * 10 + 9, none⟩, 1)]) := by
  have h0 := hf j hj 0 (by simp)
  have h1 := hf j hj 1 (by simp)
  have h2 := hf j hj 2 (by simp)
  have h3 := hf j hj 3 (by simp)
  have h4 := hf j hj 4 (by simp)
  have h5 := hf j hj 5 (by simp)
  have h6 := hf j hj 6 (by simp)
  have h7 := hf j hj 7 (by simp)
  have h8 := hf j hj 8 (by simp)
  have h9 := hf j hj 9 (by simp)
  exact ⟨h0, h1, h2, h3, h4, h5, h6, h7, h8, h9⟩
end Go.Proofs.YtikccmgpmbnkfaaGreat

namespace Go.Proofs.YtikccmgpmbnkfaaGreat
open Go.ChangeShapes Go.WideShapes Go.ChangeAt Go.RowKit

/-- A row of the call's own lies in a block of its elements' type. -/
theorem Got.tag {w : World} {B : Nat} {T : TypeId} {z : Nat} {v : Value} {xs : List (Array Value)} (h : Got w B T z v xs) {c : Nat} (hc : v.ownBlock = some c) : ∃ cur, w.heap[c]? = some (.cells cur T (0, 0)) := by
  rcases h.2.2 with ⟨rfl, _⟩ | ⟨g, cap, cur, rfl, _, hg, _⟩
  · cases hc
  · simp [Value.ownBlock] at hc; subst hc; exact ⟨cur, hg⟩
theorem Got.apart {w : World} {B B' : Nat} {T T' : TypeId} {z z' : Nat} {v v' : Value} {xs xs' : List (Array Value)} (h : Got w B T z v xs) (h' : Got w B' T' z' v' xs') (hT : T ≠ T') {c : Nat} (hc : v.ownBlock = some c) : v'.ownBlock ≠ some c := fun hc' => by
  obtain ⟨_, e⟩ := h.tag hc
  obtain ⟨_, e'⟩ := h'.tag hc'
  rw [e] at e'
  cases e'
  exact hT rfl
theorem Got.turned {w w' : World} {B : Nat} {T : TypeId} {z : Nat} {v : Value} {xs : List (Array Value)} (h : Got w B T z v xs) {S : Nat → Prop} (k : Turns S w w') (hS : ∀ c, v.ownBlock = some c → ¬ S c) : Got w' B T z v xs := by
  refine ⟨h.1, h.2.1, ?_⟩
  rcases h.2.2 with hn | ⟨g, cap, cur, rfl, hb, hg, rest⟩
  · exact Or.inl hn
  · exact Or.inr ⟨g, cap, cur, rfl, hb, (k.block g (Array.getElem?_eq_some_iff.1 hg).1 (hS g rfl)).trans hg, rest⟩

/-- Rows of a call's own, each with a block of its own. -/
def RowsY (w : World) (B : Nat) (v : Value) (rs : List (List Vc)) (ys : List Value) (bs : List Nat) : Prop := Got w B 42 1 v (ys.map one1) ∧ ys.length = rs.length ∧ bs.length = rs.length ∧ bs.Nodup ∧
  ∀ i (h : i < rs.length) (hy : i < ys.length) (hb : i < bs.length), Got w B 128 3 ys[i] (rs[i].map Vc.cells) ∧ ∃ cap, ys[i] = .slice (some ⟨bs[i], 0, none⟩) rs[i].length cap
def RowsG (w : World) (B : Nat) (v : Value) (rs : List (List Vc)) : Prop := ∃ (ys : List Value) (bs : List Nat), RowsY w B v rs ys bs
theorem RowsG.on {w w' : World} {B : Nat} {v : Value} {rs : List (List Vc)} (h : RowsG w B v rs) (k : Below w.heap.size w w') : RowsG w' B v rs := by
  obtain ⟨ys, bs, h1, h2, h3, h4, h5⟩ := h
  exact ⟨ys, bs, h1.on k, h2, h3, h4, fun i h hy hb => ⟨(h5 i h hy hb).1.on k, (h5 i h hy hb).2⟩⟩
theorem RowsG.mono {w : World} {B B' : Nat} {v : Value} {rs : List (List Vc)} (h : RowsG w B v rs) (hB : B' ≤ B) : RowsG w B' v rs := by
  obtain ⟨ys, bs, h1, h2, h3, h4, h5⟩ := h
  exact ⟨ys, bs, h1.mono hB, h2, h3, h4, fun i h hy hb => ⟨(h5 i h hy hb).1.mono hB, (h5 i h hy hb).2⟩⟩
theorem RowsG.nil (w : World) (B : Nat) : RowsG w B (.slice none 0 0) [] := ⟨[], [], Got.nil _ _ _ _, rfl, rfl, List.nodup_nil, fun i h => by simp at h⟩
theorem RowsG.emptyAt (w : World) {n : Nat} (h : w.heap.size = n) : RowsG (w.alloc (.cells #[] 42)) n (.slice (some ⟨n, 0, none⟩) 0 0) [] := ⟨[], [], Got.emptyAt _ _ _ h, rfl, rfl, List.nodup_nil, fun i h => by simp at h⟩
theorem RowsG.turned {w w' : World} {B : Nat} {v : Value} {rs : List (List Vc)} (h : RowsG w B v rs) {S : Nat → Prop} (k : Turns S w w') (hS : ∀ c, S c → c < B) : RowsG w' B v rs := by
  obtain ⟨ys, bs, h1, h2, h3, h4, h5⟩ := h
  exact ⟨ys, bs, h1.turns k hS, h2, h3, h4, fun i h hy hb => ⟨(h5 i h hy hb).1.turns k hS, (h5 i h hy hb).2⟩⟩
theorem RowsG.lit {w : World} {B : Nat} {v : Value} {rs : List (List Vc)} (h : RowsG w B v rs) : ∃ a n cap, v = .slice a n cap ∧ RowsG w B (.slice a n cap) rs := by
  obtain ⟨ys, bs, h1, h2⟩ := h
  obtain ⟨a, n, cap, rfl, h1⟩ := h1.lit2
  exact ⟨a, n, cap, rfl, ys, bs, h1, h2⟩
theorem RowsG.rows {w : World} {B : Nat} {v : Value} {rs : List (List Vc)} (h : RowsG w B v rs) : RowsV w v rs := by
  obtain ⟨ys, bs, h1, h2, h3, h4, h5⟩ := h
  obtain ⟨a, cap, e, h6, h7, h8, _⟩ := h1.row
  simp only [List.length_map] at e h6
  exact ⟨a, cap, ys, by rw [e, h2], by omega, h7, h8, h2, fun i hi g => (h5 i g hi (by omega)).1.vals⟩
/-- One more row. -/
theorem RowsY.step {w0 w1 w2 : World} {B : Nat} {v v' : Value} {rs : List (List Vc)} {ys : List Value} {bs : List Nat} {r : List Vc} {kv : Value} (h : RowsY w0 B v rs ys bs) (hb : Below w0.heap.size w0 w1) (hB : B ≤ w0.heap.size) (hk : Got w1 w0.heap.size 128 3 kv (r.map Vc.cells)) (hr : 1 ≤ r.length)
    (hv : Got w2 B 42 1 v' (ys.map one1 ++ [one1 kv])) (ht : Turns (fun c => v.ownBlock = some c) w1 w2) : RowsG w2 B v' (rs ++ [r]) := by
  obtain ⟨h1, h2, h3, h4, h5⟩ := h
  have hkb : ∃ b cap, kv = .slice (some ⟨b, 0, none⟩) r.length cap ∧ w0.heap.size ≤ b := by
    rcases hk.2.2 with ⟨_, hn⟩ | ⟨g, cap, cur, e, hg, _⟩
    · simp at hn; subst hn; simp at hr
    · exact ⟨g, cap, by simpa using e, hg⟩
  obtain ⟨b, cap, rfl, hb0⟩ := hkb
  have hT : (42 : TypeId) ≠ 128 := by decide
  have hout := h1.on hb
  refine ⟨ys ++ [.slice (some ⟨b, 0, none⟩) r.length cap], bs ++ [b], by rw [List.map_append]; exact hv, by simp [h2], by simp [h3], ?_, fun i hi hy hb' => ?_⟩
  · rw [List.nodup_append]
    refine ⟨h4, by simp, fun c hc d hd => ?_⟩
    simp at hd
    subst hd
    obtain ⟨i, hi, rfl⟩ := List.getElem_of_mem hc
    obtain ⟨hg, cap', e⟩ := h5 i (by omega) (by omega) hi
    have := (World.ownsRow.lt hg.2 bs[i] (by rw [e]; rfl)).2
    omega
  · by_cases hlt : i < rs.length
    · obtain ⟨hg, cap', e⟩ := h5 i hlt (by omega) (by omega)
      rw [List.getElem_append_left (by omega), List.getElem_append_left (by omega), List.getElem_append_left (by omega)]
      exact ⟨(hg.on hb).turned ht fun c hc => (hg.on hb).apart hout (Ne.symm hT) hc, cap', e⟩
    · simp at hi
      have e : i = rs.length := by omega
      subst e
      have e1 : (ys ++ [Value.slice (some ⟨b, 0, none⟩) r.length cap])[rs.length] = .slice (some ⟨b, 0, none⟩) r.length cap := by
        rw [List.getElem_append_right (by omega)]; simp [h2]
      have e2 : (bs ++ [b])[rs.length] = b := by rw [List.getElem_append_right (by omega)]; simp [h3]
      have e3 : (rs ++ [r])[rs.length] = r := by rw [List.getElem_append_right (by omega)]; simp
      rw [e1, e2, e3]
      exact ⟨(hk.mono hB).turned ht fun c hc => (hk.mono hB).apart hout (Ne.symm hT) hc, cap, rfl⟩
end Go.Proofs.YtikccmgpmbnkfaaGreat

namespace Go.Proofs.YtikccmgpmbnkfaaGreat
open Go.ChangeShapes Go.WideShapes Go.ChangeAt Go.RowKit

/-- Statements behind a slice. -/
def StmtsV (w : World) (v : Value) (ts : List Sc) : Prop := ∃ a cap xs, v = .slice a ts.length cap ∧ ts.length ≤ cap ∧ cap ≤ maxLen ∧ RowAt w a 10 xs ∧ xs.length = ts.length ∧ ∀ i (h : i < xs.length) (g : i < ts.length), StmtV w xs[i] ts[i]
theorem StmtsV.on {w w' : World} {v : Value} {ts : List Sc} (h : StmtsV w v ts) (b : Below w.heap.size w w') : StmtsV w' v ts := by
  obtain ⟨a, cap, xs, e, h1, h2, h3, h4, h5⟩ := h; exact ⟨a, cap, xs, e, h1, h2, h3.on b, h4, fun i h g => (h5 i h g).on b⟩
theorem StmtsV.lit {w : World} {v : Value} {ts : List Sc} (h : StmtsV w v ts) : ∃ a cap, v = .slice a ts.length cap ∧ ts.length ≤ cap ∧ cap ≤ maxLen ∧ StmtsV w (.slice a ts.length cap) ts := by
  obtain ⟨a, cap, xs, rfl, h1, h2, h3⟩ := h; exact ⟨a, cap, rfl, h1, h2, a, cap, xs, rfl, h1, h2, h3⟩
theorem StmtsV.st {w : World} {a : Option Addr} {n cap : Nat} {ts : List Sc} (h : StmtsV w (.slice a n cap) ts) (k : Nat) (hk : k < ts.length) : ∃ b off ka kp ra rp ca cp oa op, a = some ⟨b, off, none⟩ ∧ StmtV w #[.int .i64 ts[k].kind, .string ts[k].table, .slice ka ts[k].key.length kp, .slice ra ts[k].row.length rp, .int .i64 ts[k].ddl.kind, .string ts[k].ddl.table, .slice ca ts[k].ddl.cols.length cp, .slice oa ts[k].ddl.keys.length op, .string ts[k].ddl.name, .string ts[k].ddl.to] ts[k] ∧
    w.cell? ⟨b, off + k * 10, none⟩ = some (.int .i64 ts[k].kind) ∧ w.cell? ⟨b, off + k * 10 + 1, none⟩ = some (.string ts[k].table) ∧ w.cell? ⟨b, off + k * 10 + 2, none⟩ = some (.slice ka ts[k].key.length kp) ∧ w.cell? ⟨b, off + k * 10 + 3, none⟩ = some (.slice ra ts[k].row.length rp) ∧ w.cell? ⟨b, off + k * 10 + 4, none⟩ = some (.int .i64 ts[k].ddl.kind) ∧ w.cell? ⟨b, off + k * 10 + 5, none⟩ = some (.string ts[k].ddl.table) ∧ w.cell? ⟨b, off + k * 10 + 6, none⟩ = some (.slice ca ts[k].ddl.cols.length cp) ∧ w.cell? ⟨b, off + k * 10 + 7, none⟩ = some (.slice oa ts[k].ddl.keys.length op) ∧ w.cell? ⟨b, off + k * 10 + 8, none⟩ = some (.string ts[k].ddl.name) ∧ w.cell? ⟨b, off + k * 10 + 9, none⟩ = some (.string ts[k].ddl.to) := by
  obtain ⟨a', cap', xs, e, h1, h2, h3, h4, h5⟩ := h
  cases e
  rcases h3.2 with h0 | ⟨b, off, ha, h⟩
  · subst h0; simp at h4; omega
  · obtain ⟨ka, kp, ra, rp, ca, cp, oa, op, ex, g1, g2, g3, g4⟩ := (h5 k (by omega) hk).lit
    have e0 := h k (by omega) 0 (by omega)
    have e1 := h k (by omega) 1 (by omega)
    have e2 := h k (by omega) 2 (by omega)
    have e3 := h k (by omega) 3 (by omega)
    have e4 := h k (by omega) 4 (by omega)
    have e5 := h k (by omega) 5 (by omega)
    have e6 := h k (by omega) 6 (by omega)
    have e7 := h k (by omega) 7 (by omega)
    have e8 := h k (by omega) 8 (by omega)
    have e9 := h k (by omega) 9 (by omega)
    rw [ex] at e0 e1 e2 e3 e4 e5 e6 e7 e8 e9
    exact ⟨b, off, ka, kp, ra, rp, ca, cp, oa, op, ha, ⟨_, _, _, _, rfl, g1, g2, g3, g4⟩, e0, e1, e2, e3, e4, e5, e6, e7, e8, e9⟩

end Go.Proofs.YtikccmgpmbnkfaaGreat

namespace Go.Proofs.YtikccmgpmbnkfaaGreat
open Go.ChangeShapes Go.WideShapes Go.ChangeAt Go.RowKit

theorem leaves_nodup (b : Nat) (κ : Nat → Nat) : ∀ M, ((upTo (fun c => [((⟨b, c, none⟩, κ c) : Plc)]) M).map (·.1)).Nodup
  | 0 => by simp [upTo]
  | M + 1 => by
    rw [upTo_succ, List.map_append, List.nodup_append]
    refine ⟨leaves_nodup b κ M, by simp, fun a ha c hc e => ?_⟩
    simp at hc
    subst hc
    subst e
    obtain ⟨p, hp, e⟩ := List.mem_map.1 ha
    obtain ⟨q, hq, hp⟩ := List.mem_flatMap.1 hp
    rw [List.mem_range] at hq
    simp at hp
    subst hp
    simp at e
    omega
theorem Got.leaves {w : World} {B : Nat} {T : TypeId} {κs : List Nat} {v : Value} {xs : List (Array Value)} (h : Got w B T κs.length v xs) (hl : xs.length ≤ 1048576) (hκ : ∀ x ∈ xs, ∀ j (hj : j < κs.length) u, x[j]? = some u → leafK κs[j] u) :
    ∃ ps : List Plc, (ps.map (·.1)).Nodup ∧ (∀ p ∈ ps, v.ownBlock = some p.1.block) ∧ ∀ u : World, (∀ g, v.ownBlock = some g → u.heap[g]? = w.heap[g]?) → RowP T (κs.map LeafP) u v ps ∧ Got u B T κs.length v xs := by
  obtain ⟨h0, h1, h2⟩ := h
  rcases h2 with ⟨rfl, hn⟩ | ⟨g, cap, cur, rfl, hb, hg, hc1, hc2, hs, ht⟩
  · exact ⟨[], by simp, by simp, fun u _ => ⟨Or.inl ⟨rfl, rfl⟩, h0, h1, Or.inl ⟨rfl, hn⟩⟩⟩
  · refine ⟨upTo (fun c => [((⟨g, c, none⟩, κs.getD (c % κs.length) 0) : Plc)]) (xs.length * κs.length), leaves_nodup g _ _, fun p hp => ?_, fun u hu => ?_⟩
    · obtain ⟨q, hq, hp⟩ := List.mem_flatMap.1 hp
      simp at hp; subst hp; rfl
    · have hgu := (hu g rfl).trans hg
      refine ⟨Or.inr ⟨g, xs.length, cap, cap * κs.length, fun i => cur.getD i default, fun c => [((⟨g, c, none⟩, κs.getD (c % κs.length) 0) : Plc)], rfl, hl, ⟨cur, hgu, hs, fun i hi => by simp [Array.getD, hs, hi]⟩, by rw [List.length_map]; exact Nat.mul_le_mul_right _ hc1, by rw [List.length_map], fun i hi j hj => ?_⟩, h0, h1, Or.inr ⟨g, cap, cur, rfl, hb, hgu, hc1, hc2, hs, ht⟩⟩
      rw [List.length_map] at hj
      have hlt : i * κs.length + j < xs.length * κs.length := by
        have : (i + 1) * κs.length ≤ xs.length * κs.length := Nat.mul_le_mul_right _ hi
        rw [Nat.add_mul, Nat.one_mul] at this
        omega
      have hle : xs.length * κs.length ≤ cap * κs.length := Nat.mul_le_mul_right _ hc1
      simp only [List.getElem_map, List.length_map]
      have hmod : (i * κs.length + j) % κs.length = j := by rw [Nat.mul_comm, Nat.mul_add_mod, Nat.mod_eq_of_lt hj]
      refine ⟨?_, by rw [hmod, List.getD_eq_getElem?_getD, List.getElem?_eq_getElem hj]; rfl⟩
      have e1 := flat_at xs h0 i hi j hj
      rw [← ht, List.getElem?_take, if_pos hlt, Array.getElem?_toList, Array.getElem?_eq_getElem (by omega)] at e1
      have e2 : cur.getD (i * κs.length + j) default = cur[i * κs.length + j]'(by omega) := by simp [Array.getD, show i * κs.length + j < cur.size by omega]
      show leafK _ (cur.getD (i * κs.length + j) default)
      rw [e2]
      exact hκ _ (List.getElem_mem hi) j hj _ e1.symm
theorem Got.valsV {w : World} {B : Nat} {T : TypeId} {v : Value} {vs : List Vc} (h : Got w B T 3 v (vs.map Vc.cells)) : ValsV w v vs := by
  obtain ⟨a, cap, e, h1, h2, h3, _⟩ := h.row
  exact ⟨a, cap, by simpa using e, by simpa using h1, h2, h3⟩
theorem Got.ownVals {w : World} {B : Nat} {v : Value} {vs : List Vc} (h : Got w B 128 3 v (vs.map Vc.cells)) (hl : vs.length ≤ 1048576) : ∃ ps : List Plc, (ps.map (·.1)).Nodup ∧ (∀ p ∈ ps, v.ownBlock = some p.1.block) ∧ ∀ u : World, (∀ g, v.ownBlock = some g → u.heap[g]? = w.heap[g]?) → ValsV u v vs ∧ ValsP u v ps := by
  obtain ⟨ps, h1, h2, h3⟩ := Got.leaves (κs := [0, 0, 1]) h (by simpa using hl) (fun x hx j hj u hu => by
    obtain ⟨c, _, rfl⟩ := List.mem_map.1 hx
    match j, hj with
    | 0, _ => simp at hu; subst hu; exact ⟨_, rfl⟩
    | 1, _ => simp at hu; subst hu; exact ⟨_, rfl⟩
    | 2, _ => simp at hu; subst hu; exact ⟨_, rfl⟩)
  exact ⟨ps, h1, h2, fun u hu => ⟨(h3 u hu).2.valsV, (h3 u hu).1⟩⟩
theorem Got.ownCols {w : World} {B : Nat} {v : Value} {vs : List Cl} (h : Got w B 131 7 v (vs.map Cl.cells)) (hl : vs.length ≤ 1048576) : ∃ ps : List Plc, (ps.map (·.1)).Nodup ∧ (∀ p ∈ ps, v.ownBlock = some p.1.block) ∧ ∀ u : World, (∀ g, v.ownBlock = some g → u.heap[g]? = w.heap[g]?) → ColsV u v vs ∧ ColsP u v ps := by
  obtain ⟨ps, h1, h2, h3⟩ := Got.leaves (κs := [1, 0, 2, 2, 0, 0, 1]) h (by simpa using hl) (fun x hx j hj u hu => by
    obtain ⟨c, _, rfl⟩ := List.mem_map.1 hx
    match j, hj with
    | 0, _ => simp at hu; subst hu; exact ⟨_, rfl⟩
    | 1, _ => simp at hu; subst hu; exact ⟨_, rfl⟩
    | 2, _ => simp at hu; subst hu; exact ⟨_, rfl⟩
    | 3, _ => simp at hu; subst hu; exact ⟨_, rfl⟩
    | 4, _ => simp at hu; subst hu; exact ⟨_, rfl⟩
    | 5, _ => simp at hu; subst hu; exact ⟨_, rfl⟩
    | 6, _ => simp at hu; subst hu; exact ⟨_, rfl⟩)
  exact ⟨ps, h1, h2, fun u hu => ⟨(h3 u hu).2.cols, (h3 u hu).1⟩⟩
theorem Got.ownStrs {w : World} {B : Nat} {v : Value} {vs : List ByteArray} (h : Got w B 9 1 v (vs.map strX)) (hl : vs.length ≤ 1048576) : ∃ ps : List Plc, (ps.map (·.1)).Nodup ∧ (∀ p ∈ ps, v.ownBlock = some p.1.block) ∧ ∀ u : World, (∀ g, v.ownBlock = some g → u.heap[g]? = w.heap[g]?) → StrsV u v vs ∧ StrsP u v ps := by
  obtain ⟨ps, h1, h2, h3⟩ := Got.leaves (κs := [1]) h (by simpa using hl) (fun x hx j hj u hu => by
    obtain ⟨c, _, rfl⟩ := List.mem_map.1 hx
    match j, hj with
    | 0, _ => simp at hu; subst hu; exact ⟨_, rfl⟩)
  exact ⟨ps, h1, h2, fun u hu => ⟨(h3 u hu).2.strs, (h3 u hu).1⟩⟩

/-- A statement of a call's own: its parts, and their places; all lies in the blocks from lo to hi. -/
structure Est where
  s : Sc
  k : Value
  r : Value
  c : Value
  o : Value
  p2 : List Plc
  p3 : List Plc
  p6 : List Plc
  p7 : List Plc
  lo : Nat
  hi : Nat
abbrev Est.cells (e : Est) : Array Value := e.s.cells e.k e.r e.c e.o
def Est.pl (e : Est) : List Plc := e.p2 ++ e.p3 ++ e.p6 ++ e.p7
def Est.reads (e : Est) (u : World) : Prop := (ValsV u e.k e.s.key ∧ ValsP u e.k e.p2) ∧ (ValsV u e.r e.s.row ∧ ValsP u e.r e.p3) ∧ (ColsV u e.c e.s.ddl.cols ∧ ColsP u e.c e.p6) ∧ (StrsV u e.o e.s.ddl.keys ∧ StrsP u e.o e.p7)
structure Est.Good (w : World) (e : Est) : Prop where
  le : e.lo ≤ e.hi
  top : e.hi ≤ w.heap.size
  reads : ∀ u : World, (∀ b, e.lo ≤ b → b < e.hi → u.heap[b]? = w.heap[b]?) → e.reads u
  nodup : (e.pl.map (·.1)).Nodup
  inside : ∀ p ∈ e.pl, e.lo ≤ p.1.block ∧ p.1.block < e.hi
theorem Est.Good.stmt {w : World} {e : Est} (h : e.Good w) : StmtV w e.cells e.s := by
  obtain ⟨h1, h2, h3, h4⟩ := h.reads w fun _ _ _ => rfl
  exact ⟨_, _, _, _, rfl, h1.1, h2.1, h3.1, h4.1⟩
theorem Est.Good.keep {w w' : World} {e : Est} (h : e.Good w) (hs : w.heap.size ≤ w'.heap.size) (hb : ∀ b, e.lo ≤ b → b < e.hi → w'.heap[b]? = w.heap[b]?) : e.Good w' :=
  ⟨h.le, Nat.le_trans h.top hs, fun u hu => h.reads u fun b h1 h2 => (hu b h1 h2).trans (hb b h1 h2), h.nodup, h.inside⟩
theorem Est.Good.on {w w' : World} {e : Est} (h : e.Good w) (k : Below w.heap.size w w') : e.Good w' := h.keep k.size fun b _ hb => k.block b (Nat.lt_of_lt_of_le hb h.top)
/-- Four rows of the call's own, one behind the other. -/
theorem Est.make {w : World} {s : Sc} {k r c o : Value} {b0 b1 b2 b3 b4 : Nat} (hk : Got w b0 128 3 k (s.key.map Vc.cells)) (hr : Got w b1 128 3 r (s.row.map Vc.cells)) (hc : Got w b2 131 7 c (s.ddl.cols.map Cl.cells)) (ho : Got w b3 9 1 o (s.ddl.keys.map strX)) (few : s.few)
    (gk : ∀ g, k.ownBlock = some g → g < b1) (gr : ∀ g, r.ownBlock = some g → g < b2) (gc : ∀ g, c.ownBlock = some g → g < b3) (go : ∀ g, o.ownBlock = some g → g < b4) (h01 : b0 ≤ b1) (h12 : b1 ≤ b2) (h23 : b2 ≤ b3) (h34 : b3 ≤ b4) (h4 : b4 ≤ w.heap.size) :
    ∃ e : Est, e.s = s ∧ e.cells = s.cells k r c o ∧ e.lo = b0 ∧ e.hi = b4 ∧ e.Good w := by
  obtain ⟨p2, n2, i2, r2⟩ := hk.ownVals few.1
  obtain ⟨p3, n3, i3, r3⟩ := hr.ownVals few.2.1
  obtain ⟨p6, n6, i6, r6⟩ := hc.ownCols few.2.2.1
  obtain ⟨p7, n7, i7, r7⟩ := ho.ownStrs few.2.2.2
  have B2 : ∀ p ∈ p2, b0 ≤ p.1.block ∧ p.1.block < b1 := fun p hp => ⟨hk.own (i2 p hp), gk _ (i2 p hp)⟩
  have B3 : ∀ p ∈ p3, b1 ≤ p.1.block ∧ p.1.block < b2 := fun p hp => ⟨hr.own (i3 p hp), gr _ (i3 p hp)⟩
  have B6 : ∀ p ∈ p6, b2 ≤ p.1.block ∧ p.1.block < b3 := fun p hp => ⟨hc.own (i6 p hp), gc _ (i6 p hp)⟩
  have B7 : ∀ p ∈ p7, b3 ≤ p.1.block ∧ p.1.block < b4 := fun p hp => ⟨ho.own (i7 p hp), go _ (i7 p hp)⟩
  refine ⟨⟨s, k, r, c, o, p2, p3, p6, p7, b0, b4⟩, rfl, rfl, rfl, rfl, by show b0 ≤ b4; omega, h4, fun u hu => ⟨r2 u fun g hg => hu g (hk.own hg) ?_, r3 u fun g hg => hu g ?_ ?_, r6 u fun g hg => hu g ?_ ?_, r7 u fun g hg => hu g ?_ (go g hg)⟩, ?_, fun p hp => ?_⟩
  · have := gk g hg; show g < b4; omega
  · have := hr.own hg; show b0 ≤ g; omega
  · have := gr g hg; show g < b4; omega
  · have := hc.own hg; show b0 ≤ g; omega
  · have := gc g hg; show g < b4; omega
  · have := ho.own hg; show b0 ≤ g; omega
  · simp only [Est.pl, List.map_append, List.nodup_append]
    have key : ∀ {ps qs : List Plc} {m : Nat}, (∀ p ∈ ps, p.1.block < m) → (∀ p ∈ qs, m ≤ p.1.block) → ∀ a ∈ ps.map (·.1), ∀ b ∈ qs.map (·.1), a ≠ b := fun {ps qs m} h1 h2 a ha b hb e => by
      obtain ⟨p, hp, rfl⟩ := List.mem_map.1 ha
      obtain ⟨q, hq, e2⟩ := List.mem_map.1 hb
      have h3 := h1 p hp
      have h4 := h2 q hq
      rw [e, ← e2] at h3
      omega
    refine ⟨⟨⟨n2, n3, key (m := b1) (fun p hp => (B2 p hp).2) (fun p hp => (B3 p hp).1)⟩, n6, ?_⟩, n7, ?_⟩
    · rw [← List.map_append]
      exact key (m := b2) (fun p hp => by
        rcases List.mem_append.1 hp with hp | hp
        · have := (B2 p hp).2; omega
        · exact (B3 p hp).2) (fun p hp => (B6 p hp).1)
    · rw [← List.map_append, ← List.map_append]
      exact key (m := b3) (fun p hp => by
        rcases List.mem_append.1 hp with hp | hp
        · rcases List.mem_append.1 hp with hp | hp
          · have := (B2 p hp).2; omega
          · have := (B3 p hp).2; omega
        · exact (B6 p hp).2) (fun p hp => (B7 p hp).1)
  · show b0 ≤ p.1.block ∧ p.1.block < b4
    simp only [Est.pl, List.mem_append] at hp
    rcases hp with ((hp | hp) | hp) | hp
    · have := B2 p hp; omega
    · have := B3 p hp; omega
    · have := B6 p hp; omega
    · have := B7 p hp; omega
end Go.Proofs.YtikccmgpmbnkfaaGreat
