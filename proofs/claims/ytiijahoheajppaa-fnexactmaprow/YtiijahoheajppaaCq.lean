/- What hangs on blocks from a number on alone. Rows copied: given and landed. -/
import Derived.Test.YtiijahoheajppaaCt
import Derived.Test.YtiijahoheajppaaDdOkI
import Derived.Test.YtiijahoheajppaaCn
namespace Go.Proofs.Ytiijahoheajppaa
open Go.ChangeShapes Go.WideShapes Go.ChangeAt Go.RowKit

/-- The blocks from B on are as they were. -/
def Apart (B : Nat) (w w' : World) : Prop := w.heap.size ≤ w'.heap.size ∧ ∀ b, B ≤ b → b < w.heap.size → w'.heap[b]? = w.heap[b]?
theorem Apart.refl (B : Nat) (w : World) : Apart B w w := ⟨Nat.le_refl _, fun _ _ _ => rfl⟩
theorem Apart.trans {B : Nat} {a b c : World} (h : Apart B a b) (k : Apart B b c) : Apart B a c :=
  ⟨Nat.le_trans h.1 k.1, fun n h1 h2 => (k.2 n h1 (Nat.lt_of_lt_of_le h2 h.1)).trans (h.2 n h1 h2)⟩
theorem Apart.mono {B B' : Nat} {a b : World} (h : Apart B a b) (hB : B ≤ B') : Apart B' a b := ⟨h.1, fun n h1 h2 => h.2 n (Nat.le_trans hB h1) h2⟩
theorem Apart.of_below {B : Nat} {w w' : World} (h : Below w.heap.size w w') : Apart B w w' := ⟨h.size, fun b _ h2 => h.block b h2⟩
theorem Apart.set {B : Nat} {w w' : World} (h : Apart B w w') {p : Addr} (hp : p.block < B) (u : Value) : Apart B w (w'.setCell p u) :=
  ⟨by simpa using h.1, fun b h1 h2 => (Below.heap_setCell _ _ _ _ (by omega)).trans (h.2 b h1 h2)⟩
theorem Apart.cell {B : Nat} {w w' : World} (h : Apart B w w') {p : Addr} {v : Value} (hp : B ≤ p.block) (hc : w.cell? p = some v) : w'.cell? p = some v := by
  have hb := h.2 p.block hp (cell_lt hc)
  unfold World.cell? at hc ⊢
  rw [hb]; exact hc
/-- It holds, and hangs on those blocks alone. -/
def Firm (B : Nat) (R : World → Prop) (w : World) : Prop := ∀ w', Apart B w w' → R w'
theorem Firm.out {B : Nat} {R : World → Prop} {w : World} (h : Firm B R w) : R w := h w (Apart.refl _ _)
theorem Firm.at {B : Nat} {R : World → Prop} {w w' : World} (h : Firm B R w) (k : Apart B w w') : Firm B R w' := fun u hu => h u (k.trans hu)
theorem Firm.on {B : Nat} {R : World → Prop} {w w' : World} (h : Firm B R w) (k : Below w.heap.size w w') : Firm B R w' := h.at (Apart.of_below k)
theorem Firm.set {B : Nat} {R : World → Prop} {w : World} (h : Firm B R w) {p : Addr} (hp : p.block < B) (u : Value) : Firm B R (w.setCell p u) := h.at ((Apart.refl _ _).set hp u)
theorem Firm.mono {B B' : Nat} {R : World → Prop} {w : World} (h : Firm B R w) (hB : B' ≤ B) : Firm B' R w := fun u hu => h u (hu.mono hB)
theorem Firm.imp {B : Nat} {R S : World → Prop} {w : World} (h : Firm B R w) (k : ∀ u, R u → S u) : Firm B S w := fun u hu => k u (h u hu)
theorem Firm.and {B : Nat} {R S : World → Prop} {w : World} (h : Firm B R w) (k : Firm B S w) : Firm B (fun u => R u ∧ S u) w := fun u hu => ⟨h u hu, k u hu⟩
theorem Firm.stores {B : Nat} {R : World → Prop} {b : Nat} (hb : b < B) : ∀ (us : List Value) (w : World) (o : Nat), Firm B R w → Firm B R (stores w b o us)
  | [], _, _, h => h
  | u :: r, _, o, h => Firm.stores hb r _ (o + 1) (h.set hb u)

theorem RowAt.firm {w : World} {a : Option Addr} {z : Nat} {xs : List (Array Value)} (h : RowAt w a z xs) {B : Nat} (hf : ∀ q, a = some q → B ≤ q.block) : Firm B (fun u => RowAt u a z xs) w := by
  intro u hu
  obtain ⟨hz, h⟩ := h
  refine ⟨hz, ?_⟩
  rcases h with h | ⟨b, off, ha, h⟩
  · exact Or.inl h
  · refine Or.inr ⟨b, off, ha, fun i hi j hj => ?_⟩
    have h0 := h i hi j hj
    rw [Array.getElem?_eq_getElem (by rw [hz _ (List.getElem_mem hi)]; exact hj)] at h0 ⊢
    exact hu.cell (p := ⟨b, off + i * z + j, none⟩) (hf ⟨b, off, none⟩ ha) h0
theorem From.at {a : Option Addr} {n c B : Nat} (h : From (.slice a n c) B) : ∀ q, a = some q → B ≤ q.block := fun q e => h q n c (by rw [e])
theorem ValsV.firm {w : World} {v : Value} {vs : List Vc} (h : ValsV w v vs) {B : Nat} (hf : From v B) : Firm B (fun u => ValsV u v vs) w := by
  obtain ⟨a, cap, rfl, h1, h2, h3⟩ := h
  exact (h3.firm hf.at).imp fun u hu => ⟨a, cap, rfl, h1, h2, hu⟩
theorem ColsV.firm {w : World} {v : Value} {vs : List Cl} (h : ColsV w v vs) {B : Nat} (hf : From v B) : Firm B (fun u => ColsV u v vs) w := by
  obtain ⟨a, cap, rfl, h1, h2, h3⟩ := h
  exact (h3.firm hf.at).imp fun u hu => ⟨a, cap, rfl, h1, h2, hu⟩
theorem StrsV.firm {w : World} {v : Value} {vs : List ByteArray} (h : StrsV w v vs) {B : Nat} (hf : From v B) : Firm B (fun u => StrsV u v vs) w := by
  obtain ⟨a, cap, rfl, h1, h2, h3⟩ := h
  exact (h3.firm hf.at).imp fun u hu => ⟨a, cap, rfl, h1, h2, hu⟩
theorem TabV.firm {w : World} {x : Array Value} {t : Tc} (h : TabV w x t) {B : Nat} (hf : TabFrom x B) : Firm B (fun u => TabV u x t) w := by
  obtain ⟨cv, kv, rfl, h1, h2⟩ := h
  exact ((h1.firm (hf cv (by simp))).and (h2.firm (hf kv (by simp)))).imp fun u hu => ⟨cv, kv, rfl, hu.1, hu.2⟩
theorem DdlV.firm {w : World} {x : Array Value} {t : Dc} (h : DdlV w x t) {B : Nat} (hf : TabFrom x B) : Firm B (fun u => DdlV u x t) w := by
  obtain ⟨cv, kv, rfl, h1, h2⟩ := h
  exact ((h1.firm (hf cv (by simp))).and (h2.firm (hf kv (by simp)))).imp fun u hu => ⟨cv, kv, rfl, hu.1, hu.2⟩
theorem TabsN.firm {w : World} {v : Value} {ts : List Tc} {B : Nat} (h : TabsN w v ts B) : Firm B (fun u => TabsV u v ts) w := by
  obtain ⟨⟨a, cap, xs, rfl, h1, h2, h3, h4, h5⟩, hf, hg⟩ := h
  intro u hu
  refine ⟨a, cap, xs, rfl, h1, h2, h3.firm hf.at u hu, h4, fun i hi g => ?_⟩
  refine (h5 i hi g).firm (fun y hy => ?_) u hu
  rcases h3.2 with h0 | ⟨b, off, ha, h⟩
  · subst h0; simp at hi
  · obtain ⟨j, hj, rfl⟩ := List.getElem_of_mem hy
    have hj' : j < xs[i].size := by simpa using hj
    have hz := h3.1 _ (List.getElem_mem hi)
    have e := h i hi j (by omega)
    rw [Array.getElem?_eq_getElem hj'] at e
    have := hg ⟨b, off, none⟩ ts.length cap (by rw [ha]) i g j (by omega) _ e
    simpa using this
theorem Fill.firm {w : World} {b : Nat} {T : TypeId} {z n : Nat} {xs : List (Array Value)} (h : Fill w b T z n xs) {B : Nat} (hB : B ≤ b) : Firm B (fun u => Fill u b T z n xs) w := by
  intro u hu
  obtain ⟨h0, h1, f, hr, hf⟩ := h
  exact ⟨h0, h1, f, hr.of_block (hu.2 b hB hr.lt), hf⟩
theorem Rfill.firm {w : World} {B : Nat} {T : TypeId} {rs : List (List Vc)} (h : Rfill w B T rs rs.length) (hm : rs.length ≤ maxLen) : Firm B (fun u => RowsV u (.slice (some ⟨B, 0, none⟩) rs.length rs.length) rs) w := by
  obtain ⟨ys, h1, h2, h3⟩ := h
  intro u hu
  exact ⟨_, _, ys, rfl, Nat.le_refl _, hm, (h1.firm (Nat.le_refl _) u hu).row, h2, fun i h g => ((h3 i h g).1.firm ((h3 i h g).2.mono (by omega))) u hu⟩
end Go.Proofs.Ytiijahoheajppaa

namespace Go.Proofs.Ytiijahoheajppaa
open Go.ChangeShapes Go.WideShapes Go.ChangeAt Go.RowKit

/-- A row of the call's own lies in a block of its elements' type. -/
theorem Got.tag {w : World} {B : Nat} {T : TypeId} {z : Nat} {v : Value} {xs : List (Array Value)} (h : Got w B T z v xs) {c : Nat} (hc : v.ownBlock = some c) : ∃ cur, w.heap[c]? = some (.cells cur T (0, 0)) := by
  rcases h.2.2 with ⟨rfl, _⟩ | ⟨g, cap, cur, rfl, _, hg, _⟩
  · cases hc
  · simp [Value.ownBlock] at hc; subst hc; exact ⟨cur, hg⟩
theorem Got.apart {w : World} {B B' : Nat} {T T' : TypeId} {z z' : Nat} {v v' : Value} {xs xs' : List (Array Value)} (h : Got w B T z v xs) (h' : Got w B' T' z' v' xs') (hT : T ≠ T') {c : Nat} (hc : v.ownBlock = some c) : v'.ownBlock ≠ some c := fun hc' => by
  obtain ⟨_, e⟩ := h.tag hc
  obtain ⟨_, e'⟩ := h'.tag hc'
  rw [e] at e'
  cases e'
  exact hT rfl
theorem Got.turned {w w' : World} {B : Nat} {T : TypeId} {z : Nat} {v : Value} {xs : List (Array Value)} (h : Got w B T z v xs) {S : Nat → Prop} (k : Turns S w w') (hS : ∀ c, v.ownBlock = some c → ¬ S c) : Got w' B T z v xs := by
  refine ⟨h.1, h.2.1, ?_⟩
  rcases h.2.2 with hn | ⟨g, cap, cur, rfl, hb, hg, rest⟩
  · exact Or.inl hn
  · exact Or.inr ⟨g, cap, cur, rfl, hb, (k.block g (Array.getElem?_eq_some_iff.1 hg).1 (hS g rfl)).trans hg, rest⟩

/-- Rows of a call's own, each with a block of its own. -/
def RowsY (w : World) (B : Nat) (v : Value) (rs : List (List Vc)) (ys : List Value) (bs : List Nat) : Prop := Got w B 41 1 v (ys.map one1) ∧ ys.length = rs.length ∧ bs.length = rs.length ∧ bs.Nodup ∧
  ∀ i (h : i < rs.length) (hy : i < ys.length) (hb : i < bs.length), Got w B 58 3 ys[i] (rs[i].map Vc.cells) ∧ ∃ cap, ys[i] = .slice (some ⟨bs[i], 0, none⟩) rs[i].length cap
def RowsG (w : World) (B : Nat) (v : Value) (rs : List (List Vc)) : Prop := ∃ (ys : List Value) (bs : List Nat), RowsY w B v rs ys bs
theorem RowsG.on {w w' : World} {B : Nat} {v : Value} {rs : List (List Vc)} (h : RowsG w B v rs) (k : Below w.heap.size w w') : RowsG w' B v rs := by
  obtain ⟨ys, bs, h1, h2, h3, h4, h5⟩ := h
  exact ⟨ys, bs, h1.on k, h2, h3, h4, fun i h hy hb => ⟨(h5 i h hy hb).1.on k, (h5 i h hy hb).2⟩⟩
theorem RowsG.mono {w : World} {B B' : Nat} {v : Value} {rs : List (List Vc)} (h : RowsG w B v rs) (hB : B' ≤ B) : RowsG w B' v rs := by
  obtain ⟨ys, bs, h1, h2, h3, h4, h5⟩ := h
  exact ⟨ys, bs, h1.mono hB, h2, h3, h4, fun i h hy hb => ⟨(h5 i h hy hb).1.mono hB, (h5 i h hy hb).2⟩⟩
theorem RowsG.nil (w : World) (B : Nat) : RowsG w B (.slice none 0 0) [] := ⟨[], [], Got.nil _ _ _ _, rfl, rfl, List.nodup_nil, fun i h => by simp at h⟩
theorem RowsG.emptyAt (w : World) {n : Nat} (h : w.heap.size = n) : RowsG (w.alloc (.cells #[] 41)) n (.slice (some ⟨n, 0, none⟩) 0 0) [] := ⟨[], [], Got.emptyAt _ _ _ h, rfl, rfl, List.nodup_nil, fun i h => by simp at h⟩
theorem RowsG.turned {w w' : World} {B : Nat} {v : Value} {rs : List (List Vc)} (h : RowsG w B v rs) {S : Nat → Prop} (k : Turns S w w') (hS : ∀ c, S c → c < B) : RowsG w' B v rs := by
  obtain ⟨ys, bs, h1, h2, h3, h4, h5⟩ := h
  exact ⟨ys, bs, h1.turns k hS, h2, h3, h4, fun i h hy hb => ⟨(h5 i h hy hb).1.turns k hS, (h5 i h hy hb).2⟩⟩
theorem RowsG.lit {w : World} {B : Nat} {v : Value} {rs : List (List Vc)} (h : RowsG w B v rs) : ∃ a n cap, v = .slice a n cap ∧ RowsG w B (.slice a n cap) rs := by
  obtain ⟨ys, bs, h1, h2⟩ := h
  obtain ⟨a, n, cap, rfl, h1⟩ := h1.lit2
  exact ⟨a, n, cap, rfl, ys, bs, h1, h2⟩
theorem RowsG.rows {w : World} {B : Nat} {v : Value} {rs : List (List Vc)} (h : RowsG w B v rs) : RowsV w v rs := by
  obtain ⟨ys, bs, h1, h2, h3, h4, h5⟩ := h
  obtain ⟨a, cap, e, h6, h7, h8, _⟩ := h1.row
  simp only [List.length_map] at e h6
  exact ⟨a, cap, ys, by rw [e, h2], by omega, h7, h8, h2, fun i hi g => (h5 i g hi (by omega)).1.vals⟩
/-- One more row. -/
theorem RowsY.step {w0 w1 w2 : World} {B : Nat} {v v' : Value} {rs : List (List Vc)} {ys : List Value} {bs : List Nat} {r : List Vc} {kv : Value} (h : RowsY w0 B v rs ys bs) (hb : Below w0.heap.size w0 w1) (hB : B ≤ w0.heap.size) (hk : Got w1 w0.heap.size 58 3 kv (r.map Vc.cells)) (hr : 1 ≤ r.length)
    (hv : Got w2 B 41 1 v' (ys.map one1 ++ [one1 kv])) (ht : Turns (fun c => v.ownBlock = some c) w1 w2) : RowsG w2 B v' (rs ++ [r]) := by
  obtain ⟨h1, h2, h3, h4, h5⟩ := h
  have hkb : ∃ b cap, kv = .slice (some ⟨b, 0, none⟩) r.length cap ∧ w0.heap.size ≤ b := by
    rcases hk.2.2 with ⟨_, hn⟩ | ⟨g, cap, cur, e, hg, _⟩
    · simp at hn; subst hn; simp at hr
    · exact ⟨g, cap, by simpa using e, hg⟩
  obtain ⟨b, cap, rfl, hb0⟩ := hkb
  have hT : (41 : TypeId) ≠ 58 := by decide
  have hout := h1.on hb
  refine ⟨ys ++ [.slice (some ⟨b, 0, none⟩) r.length cap], bs ++ [b], by rw [List.map_append]; exact hv, by simp [h2], by simp [h3], ?_, fun i hi hy hb' => ?_⟩
  · rw [List.nodup_append]
    refine ⟨h4, by simp, fun c hc d hd => ?_⟩
    simp at hd
    subst hd
    obtain ⟨i, hi, rfl⟩ := List.getElem_of_mem hc
    obtain ⟨hg, cap', e⟩ := h5 i (by omega) (by omega) hi
    have := (World.ownsRow.lt hg.2 bs[i] (by rw [e]; rfl)).2
    omega
  · by_cases hlt : i < rs.length
    · obtain ⟨hg, cap', e⟩ := h5 i hlt (by omega) (by omega)
      rw [List.getElem_append_left (by omega), List.getElem_append_left (by omega), List.getElem_append_left (by omega)]
      exact ⟨(hg.on hb).turned ht fun c hc => (hg.on hb).apart hout (Ne.symm hT) hc, cap', e⟩
    · simp at hi
      have e : i = rs.length := by omega
      subst e
      have e1 : (ys ++ [Value.slice (some ⟨b, 0, none⟩) r.length cap])[rs.length] = .slice (some ⟨b, 0, none⟩) r.length cap := by
        rw [List.getElem_append_right (by omega)]; simp [h2]
      have e2 : (bs ++ [b])[rs.length] = b := by rw [List.getElem_append_right (by omega)]; simp [h3]
      have e3 : (rs ++ [r])[rs.length] = r := by rw [List.getElem_append_right (by omega)]; simp
      rw [e1, e2, e3]
      exact ⟨(hk.mono hB).turned ht fun c hc => (hk.mono hB).apart hout (Ne.symm hT) hc, cap, rfl⟩
end Go.Proofs.Ytiijahoheajppaa
