/- Lists of numbers of a call's own: looked at, marked, held. Places that a law marks: what they are, what stands there afterwards. Places of rows of values, columns and texts: marked, held. Places of statements behind a slice: marked, held. Lists of statements in memory: read, looked at. Rows of a call's own, told by their places. -/
import Derived.Test.YtiijahoheajppaaGreatCt
import Derived.Test.YtiijahoheajppaaGreatWm
import Derived.Test.YtiijahoheajppaaGreatXs
import Derived.Test.YtiijahoheajppaaGreatRv
import Derived.Test.YtiijahoheajppaaGreatSt
import Derived.Test.YtiijahoheajppaaGreatAl
namespace Go.Proofs.YtiijahoheajppaaGreat
open Go.ChangeShapes Go.WideShapes Go.ChangeAt Go.RowKit

/-- The mark of a number at a place. -/
abbrev markN (k i : Nat) : Value := .int .i64 ((k + i : Nat) : Int)
end Go.Proofs.YtiijahoheajppaaGreat

namespace Go.Proofs.YtiijahoheajppaaGreat
open Go.ChangeShapes Go.WideShapes Go.ChangeAt Go.RowKit

/-- A place, and what is marked there: 0 a number, 1 a text, 2 a yes or no. -/
abbrev Plc := Addr × Nat
/-- The mark. -/
def mkV (κ k : Nat) : Value := match κ with | 0 => .int .i64 (k : Int) | 1 => .string (markB k) | _ => .bool (k % 3 == 0)
/-- What stands where such a mark comes. -/
def leafK (κ : Nat) (v : Value) : Prop := match κ with | 0 => ∃ a, v = .int .i64 a | 1 => ∃ s, v = .string s | _ => ∃ b, v = .bool b
theorem mkV_kind {κ k : Nat} {v : Value} (h : leafK κ v) : kind1 v (mkV κ k) := by
  match κ, h with
  | 0, ⟨a, e⟩ => exact Or.inr (Or.inl ⟨_, _, e, rfl⟩)
  | 1, ⟨a, e⟩ => exact Or.inr (Or.inr (Or.inl ⟨_, _, e, rfl⟩))
  | n + 2, ⟨a, e⟩ => exact Or.inr (Or.inr (Or.inr ⟨_, _, e, rfl⟩))
theorem leafK_stay {κ : Nat} {u v : Value} (h : leafK κ u) (k : kind1 u v) : leafK κ v := by
  rcases k with rfl | ⟨a, b, rfl, rfl⟩ | ⟨a, b, rfl, rfl⟩ | ⟨a, b, rfl, rfl⟩
  · exact h
  all_goals
    match κ, h with
    | 0, ⟨a, e⟩ => first | (cases e; done) | exact ⟨_, rfl⟩
    | 1, ⟨a, e⟩ => first | (cases e; done) | exact ⟨_, rfl⟩
    | n + 2, ⟨a, e⟩ => first | (cases e; done) | exact ⟨_, rfl⟩
/-- The places ps are marked from k on, nothing else has turned. -/
structure Mk (w wr : World) (k : Nat) (ps : List Plc) : Prop where
  marks : Marks (fun c => ∃ p ∈ ps, p.1.block = c) w wr
  cell : ∀ a : Addr, a.block < w.heap.size → a ∉ ps.map (·.1) → wr.cell? a = w.cell? a
  done : ∀ j (h : j < ps.length), wr.cell? ps[j].1 = some (mkV ps[j].2 (k + j))
theorem Mk.refl (w : World) (k : Nat) : Mk w w k [] := ⟨Marks.refl _ _, fun _ _ _ => rfl, fun j h => by simp at h⟩
theorem Mk.below {w wr wr' : World} {k : Nat} {ps : List Plc} (h : Mk w wr k ps) (b : Below wr.heap.size wr wr') : Mk w wr' k ps :=
  ⟨h.marks.below b, fun a ha hn => (b.cell (Nat.lt_of_lt_of_le ha h.marks.turns.size)).trans (h.cell a ha hn), fun j hj => cell_on (h.done j hj) b⟩
/-- A block of before, afterwards. -/
theorem Mk.row {w wr : World} {k : Nat} {ps : List Plc} (h : Mk w wr k ps) {b : Nat} {T : TypeId} {m : Nat} {f : Nat → Value} (hr : w.rowIs b T m f) : ∃ f', wr.rowIs b T m f' ∧ ∀ i, i < m → kind1 (f i) (f' i) := by
  by_cases hb : ∃ p ∈ ps, p.1.block = b
  · exact h.marks.kinds b T m f hb hr
  · exact ⟨f, hr.of_block (h.marks.turns.block b hr.lt hb), fun _ _ => kind1.refl _⟩
theorem Mk.trans {w u wr : World} {k : Nat} {ps qs : List Plc} (h : Mk w u k ps) (g : Mk u wr (k + ps.length) qs) (hps : ∀ p ∈ ps, p.1.block < u.heap.size) (hd : ∀ p ∈ ps, p.1 ∉ qs.map (·.1)) : Mk w wr k (ps ++ qs) := by
  refine ⟨(h.marks.mono fun c ⟨p, hp, e⟩ => ⟨p, by simp [hp], e⟩).trans (g.marks.mono fun c ⟨p, hp, e⟩ => ⟨p, by simp [hp], e⟩), fun a ha hn => ?_, fun j hj => ?_⟩
  · rw [List.map_append, List.mem_append, not_or] at hn
    exact (g.cell a (Nat.lt_of_lt_of_le ha h.marks.turns.size) hn.2).trans (h.cell a ha hn.1)
  · by_cases hl : j < ps.length
    · simp only [List.getElem_append_left hl]
      exact (g.cell _ (hps _ (List.getElem_mem hl)) (hd _ (List.getElem_mem hl))).trans (h.done j hl)
    · simp only [List.length_append] at hj
      simp only [List.getElem_append_right (Nat.le_of_not_lt hl)]
      have := g.done (j - ps.length) (by omega)
      rwa [show k + ps.length + (j - ps.length) = k + j by omega] at this
/-- One place marked. -/
theorem Mk.one {w : World} {k κ b o : Nat} {T : TypeId} {m : Nat} {f : Nat → Value} (hr : w.rowIs b T m f) (ho : o < m) (hκ : leafK κ (f o)) : Mk w (w.setCell ⟨b, o, none⟩ (mkV κ k)) k [(⟨b, o, none⟩, κ)] := by
  refine ⟨Marks.set ⟨(⟨b, o, none⟩, κ), by simp, rfl⟩ hr fun _ => mkV_kind hκ, fun a ha hn => ?_, fun j hj => ?_⟩
  · rw [World.cell?_setCell_other]
    exact fun e => hn (by simp [← e])
  · simp at hj; subst hj
    simpa using World.cell?_setCell_same w _ _ (hr.cell ho)
/-- Places gathered cell by cell. -/
abbrev upTo (qs : Nat → List Plc) (c : Nat) : List Plc := (List.range c).flatMap qs
theorem upTo_succ (qs : Nat → List Plc) (c : Nat) : upTo qs (c + 1) = upTo qs c ++ qs c := by simp [upTo, List.range_succ]
theorem upTo_len (qs : Nat → List Plc) (c : Nat) : (upTo qs (c + 1)).length = (upTo qs c).length + (qs c).length := by rw [upTo_succ, List.length_append]
theorem upTo_sub (qs : Nat → List Plc) {c d : Nat} (h : c ≤ d) : ∃ r, upTo qs d = upTo qs c ++ r := by
  induction d with
  | zero => obtain rfl : c = 0 := by omega
            exact ⟨[], by simp⟩
  | succ d ih =>
    by_cases e : c = d + 1
    · subst e; exact ⟨[], by simp⟩
    · obtain ⟨r, hr⟩ := ih (by omega)
      exact ⟨r ++ qs d, by rw [upTo_succ, hr, List.append_assoc]⟩
theorem upTo_apart {qs : Nat → List Plc} {M c : Nat} (hn : ((upTo qs M).map (·.1)).Nodup) (hc : c < M) : ∀ p ∈ upTo qs c, p.1 ∉ (qs c).map (·.1) := by
  intro p hp hq
  obtain ⟨r, hr⟩ := upTo_sub qs (show c + 1 ≤ M from hc)
  rw [hr, upTo_succ, List.map_append, List.map_append, List.nodup_append, List.nodup_append] at hn
  exact hn.1.2.2 _ (List.mem_map.2 ⟨p, hp, rfl⟩) _ hq rfl
theorem upTo_mono (qs : Nat → List Plc) {c d : Nat} (h : c ≤ d) : (upTo qs c).length ≤ (upTo qs d).length := by
  obtain ⟨r, hr⟩ := upTo_sub qs h
  rw [hr, List.length_append]; omega
theorem upTo_le {L : Nat} (qs : Nat → List Plc) : ∀ M, (∀ c, c < M → (qs c).length ≤ L) → (upTo qs M).length ≤ M * L
  | 0, _ => by simp
  | M + 1, h => by
    have h1 := upTo_le qs M fun c hc => h c (by omega)
    have h2 := h M (by omega)
    rw [upTo_len, Nat.add_mul, Nat.one_mul]; omega
theorem upTo_nodup {qs : Nat → List Plc} {M c : Nat} (hn : ((upTo qs M).map (·.1)).Nodup) (hc : c < M) : ((qs c).map (·.1)).Nodup := by
  obtain ⟨r, hr⟩ := upTo_sub qs (show c + 1 ≤ M from hc)
  rw [hr, upTo_succ, List.map_append, List.map_append, List.nodup_append, List.nodup_append] at hn
  exact hn.1.2.1
/-- One cell more: a place. -/
theorem Mk.leaf {w W : World} {k b c : Nat} {κ : Nat} {T : TypeId} {m M : Nat} {f : Nat → Value} {qs : Nat → List Plc} (h : Mk w W k (upTo qs c)) (hr : w.rowIs b T m f) (hc : c < m) (hM : c < M) (hκ : leafK κ (f c)) (hq : qs c = [(⟨b, c, none⟩, κ)]) (hn : ((upTo qs M).map (·.1)).Nodup) (hb : ∀ p ∈ upTo qs M, p.1.block < w.heap.size) {u : Value} (hu : u = mkV κ (k + (upTo qs c).length)) : Mk w (W.setCell ⟨b, c, none⟩ u) k (upTo qs (c + 1)) := by
  subst hu
  obtain ⟨f', hr', hk⟩ := h.row hr
  rw [upTo_succ, hq]
  refine h.trans (Mk.one hr' hc (leafK_stay hκ (hk c hc))) (fun p hp => ?_) (fun p hp => ?_)
  · obtain ⟨r, hr2⟩ := upTo_sub qs (Nat.le_of_lt hM)
    exact Nat.lt_of_lt_of_le (hb p (by rw [hr2]; simp [hp])) h.marks.turns.size
  · have := upTo_apart hn hM p hp
    rwa [hq] at this
/-- One cell more: what lies behind it. -/
theorem Mk.nest {w W W' : World} {k c M : Nat} {qs : Nat → List Plc} (h : Mk w W k (upTo qs c)) (g : Mk W W' (k + (upTo qs c).length) (qs c)) (hM : c < M) (hn : ((upTo qs M).map (·.1)).Nodup) (hb : ∀ p ∈ upTo qs M, p.1.block < w.heap.size) : Mk w W' k (upTo qs (c + 1)) := by
  rw [upTo_succ]
  refine h.trans g (fun p hp => ?_) (upTo_apart hn hM)
  obtain ⟨r, hr2⟩ := upTo_sub qs (Nat.le_of_lt hM)
  exact Nat.lt_of_lt_of_le (hb p (by rw [hr2]; simp [hp])) h.marks.turns.size
/-- The places are marked. -/
def Marked (w : World) (k : Nat) (ps : List Plc) : Prop := ∀ j (h : j < ps.length), w.cell? ps[j].1 = some (mkV ps[j].2 (k + j))
theorem Marked.on {w w' : World} {k : Nat} {ps : List Plc} (h : Marked w k ps) (b : Below w.heap.size w w') : Marked w' k ps := fun j hj => cell_on (h j hj) b
theorem Marked.at {w : World} {k M c : Nat} {qs : Nat → List Plc} (h : Marked w k (upTo qs M)) (hc : c < M) : Marked w (k + (upTo qs c).length) (qs c) := by
  intro j hj
  obtain ⟨r, hr⟩ := upTo_sub qs (show c + 1 ≤ M from hc)
  have h1 := h ((upTo qs c).length + j) (by rw [hr, upTo_succ, List.length_append, List.length_append]; omega)
  have e : (upTo qs M)[(upTo qs c).length + j]'(by rw [hr, upTo_succ, List.length_append, List.length_append]; omega) = (qs c)[j] := by
    simp only [hr, upTo_succ, List.append_assoc]
    rw [List.getElem_append_right (by omega), List.getElem_append_left (by omega)]
    simp
  rw [e] at h1
  rw [h1, Nat.add_assoc]
theorem Marked.leaf {w : World} {k M c b κ : Nat} {qs : Nat → List Plc} (h : Marked w k (upTo qs M)) (hc : c < M) (hq : qs c = [(⟨b, c, none⟩, κ)]) : w.cell? ⟨b, c, none⟩ = some (mkV κ (k + (upTo qs c).length)) := by
  have h1 := h.at hc
  rw [hq] at h1
  simpa using h1 0 (by simp)

/-- What one cell of an element is: a place, or a slice with places behind it. -/
abbrev CellP := World → Addr → Value → List Plc → Prop
def LeafP (κ : Nat) : CellP := fun _ a u ps => leafK κ u ∧ ps = [(a, κ)]
def NestP (P : World → Value → List Plc → Prop) : CellP := fun w _ u ps => P w u ps
/-- The places of a list of elements. -/
def RowP (T : TypeId) (es : List CellP) (w : World) (v : Value) (ps : List Plc) : Prop := (v = .slice none 0 0 ∧ ps = []) ∨ ∃ b n cap m f qs, v = .slice (some ⟨b, 0, none⟩) n cap ∧ n ≤ 1048576 ∧ w.rowIs b T m f ∧ n * es.length ≤ m ∧ ps = upTo qs (n * es.length) ∧ ∀ i, i < n → ∀ j (h : j < es.length), es[j] w ⟨b, i * es.length + j, none⟩ (f (i * es.length + j)) (qs (i * es.length + j))
/-- It lies in blocks that are there. -/
def Lay (P : World → Value → List Plc → Prop) : Prop := (∀ w v ps, P w v ps → ∀ p ∈ ps, p.1.block < w.heap.size) ∧ (∀ S w w' u ps, Marks S w w' → P w u ps → P w' u ps)
theorem RowP.lay {T : TypeId} {es : List CellP} (he : ∀ j (h : j < es.length), (∃ κ, es[j] = LeafP κ) ∨ ∃ P, es[j] = NestP P ∧ Lay P ∧ ∀ w v ps, P w v ps → ∃ a n c, v = .slice a n c) : Lay (RowP T es) := by
  refine ⟨fun w v ps h p hp => ?_, fun S w w' u ps hm h => ?_⟩
  · rcases h with ⟨_, rfl⟩ | ⟨b, n, cap, m, f, qs, rfl, hn, hr, hl, rfl, hf⟩
    · simp at hp
    · obtain ⟨c, hc, hp⟩ := List.mem_flatMap.1 hp
      rw [List.mem_range] at hc
      have hz : 0 < es.length := by
        rcases Nat.eq_zero_or_pos es.length with h0 | h0
        · rw [h0, Nat.mul_zero] at hc; omega
        · exact h0
      have hi : c / es.length < n := Nat.div_lt_of_lt_mul (by rwa [Nat.mul_comm])
      have hj : c % es.length < es.length := Nat.mod_lt _ hz
      have hd : c / es.length * es.length + c % es.length = c := by rw [Nat.mul_comm]; exact Nat.div_add_mod c es.length
      have h1 := hf _ hi _ hj
      rw [hd] at h1
      rcases he _ hj with ⟨κ, e⟩ | ⟨P, e, hP, _⟩
      · rw [e] at h1
        rw [h1.2] at hp
        simp at hp; subst hp
        exact hr.lt
      · rw [e] at h1
        exact hP.1 _ _ _ h1 p hp
  · rcases h with ⟨rfl, rfl⟩ | ⟨b, n, cap, m, f, qs, rfl, hn, hr, hl, rfl, hf⟩
    · exact Or.inl ⟨rfl, rfl⟩
    · obtain ⟨f', hr', hk⟩ : ∃ f', w'.rowIs b T m f' ∧ ∀ i, i < m → kind1 (f i) (f' i) := by
        by_cases hb : S b
        · exact hm.kinds b T m f hb hr
        · exact ⟨f, hr.of_block (hm.turns.block b hr.lt hb), fun _ _ => kind1.refl _⟩
      refine Or.inr ⟨b, n, cap, m, f', qs, rfl, hn, hr', hl, rfl, fun i hi j hj => ?_⟩
      have h1 := hf i hi j hj
      have hlt : i * es.length + j < m := by
        have : (i + 1) * es.length ≤ n * es.length := Nat.mul_le_mul_right _ hi
        rw [Nat.add_mul, Nat.one_mul] at this
        omega
      have h2 := hk _ hlt
      rcases he j hj with ⟨κ, e⟩ | ⟨P, e, hP, hs⟩
      · rw [e] at h1 ⊢
        exact ⟨leafK_stay h1.1 h2, h1.2⟩
      · rw [e] at h1 ⊢
        obtain ⟨a, n', c', e2⟩ := hs _ _ _ h1
        rw [e2] at h1 h2
        show P w' _ _
        rw [h2.slice]
        exact hP.2 _ _ _ _ _ hm h1
theorem RowP.lit {T : TypeId} {es : List CellP} {w : World} {v : Value} {ps : List Plc} (h : RowP T es w v ps) : ∃ a n c, v = .slice a n c := by
  rcases h with ⟨rfl, _⟩ | ⟨b, n, cap, m, f, qs, rfl, _⟩ <;> exact ⟨_, _, _, rfl⟩
end Go.Proofs.YtiijahoheajppaaGreat

namespace Go.Proofs.YtiijahoheajppaaGreat
open Go.ChangeShapes Go.WideShapes Go.ChangeAt Go.RowKit

/-- All cells of a row are places. -/
theorem RowP.leaves {T : TypeId} {κs : List Nat} {w : World} {v : Value} {ps : List Plc} (hz : 0 < κs.length) (h : RowP T (κs.map LeafP) w v ps) : (v = .slice none 0 0 ∧ ps = []) ∨ ∃ b n cap m f, v = .slice (some ⟨b, 0, none⟩) n cap ∧ n ≤ 1048576 ∧ w.rowIs b T m f ∧ n * κs.length ≤ m ∧ ps = upTo (fun c => [(⟨b, c, none⟩, κs.getD (c % κs.length) 0)]) (n * κs.length) ∧ ∀ c, c < n * κs.length → leafK (κs.getD (c % κs.length) 0) (f c) := by
  rcases h with h | ⟨b, n, cap, m, f, qs, rfl, hn, hr, hl, rfl, hf⟩
  · exact Or.inl h
  · rw [List.length_map] at hl ⊢
    have key : ∀ c, c < n * κs.length → leafK (κs.getD (c % κs.length) 0) (f c) ∧ qs c = [(⟨b, c, none⟩, κs.getD (c % κs.length) 0)] := fun c hc => by
      have hi : c / κs.length < n := Nat.div_lt_of_lt_mul (by rwa [Nat.mul_comm])
      have hj : c % κs.length < κs.length := Nat.mod_lt _ hz
      have hd : c / κs.length * κs.length + c % κs.length = c := by rw [Nat.mul_comm]; exact Nat.div_add_mod c κs.length
      have h1 := hf _ hi (c % κs.length) (by simpa using hj)
      simp only [List.getElem_map, List.length_map, hd] at h1
      rw [List.getD_eq_getElem?_getD, List.getElem?_eq_getElem hj]
      exact h1
    refine Or.inr ⟨b, n, cap, m, f, rfl, hn, hr, hl, ?_, fun c hc => (key c hc).1⟩
    have hfm : ∀ N, N ≤ n * κs.length → upTo qs N = upTo (fun c => [(⟨b, c, none⟩, κs.getD (c % κs.length) 0)]) N := fun N => by
      induction N with
      | zero => intro _; rfl
      | succ N ih => intro hN; rw [upTo_succ, upTo_succ, ih (by omega), (key N (by omega)).2]
    exact hfm _ (Nat.le_refl _)
theorem leaves_len (g : Nat → Plc) : ∀ M, (upTo (fun c => [g c]) M).length = M
  | 0 => rfl
  | M + 1 => by rw [upTo_len, leaves_len g M]; rfl
theorem leaves_at (g : Nat → Plc) : ∀ M c (h : c < (upTo (fun c => [g c]) M).length), (upTo (fun c => [g c]) M)[c] = g c
  | 0, c, h => by simp at h
  | M + 1, c, h => by
    have hl := leaves_len g M
    have h' := h
    rw [leaves_len] at h'
    simp only [upTo_succ]
    by_cases e : c < M
    · rw [List.getElem_append_left (by omega)]; exact leaves_at g M c (by omega)
    · obtain rfl : c = M := by omega
      rw [List.getElem_append_right (by omega)]
      simp
theorem Mk.of_row {w w' : World} {b M m k : Nat} {T : TypeId} {f g : Nat → Value} {κ : Nat → Nat} (ht : Turns (· = b) w w') (hr : w.rowIs b T m f) (hr' : w'.rowIs b T m (fun i => if i < M then g i else f i)) (hM : M ≤ m) (hg : ∀ c, c < M → g c = mkV (κ c) (k + c)) (hf : ∀ c, c < M → leafK (κ c) (f c)) : Mk w w' k (upTo (fun c => [(⟨b, c, none⟩, κ c)]) M) := by
  have hmem : ∀ c, c < M → ((⟨b, c, none⟩, κ c) : Plc) ∈ upTo (fun c => [(⟨b, c, none⟩, κ c)]) M := fun c hc => List.mem_flatMap.2 ⟨c, List.mem_range.2 hc, by simp⟩
  by_cases h0 : M = 0
  · subst h0
    have hww : w'.rowIs b T m f := hr'.congr fun i _ => by simp
    refine ⟨⟨⟨ht.os, ht.tape, ht.output, ht.size, fun c hc _ => ?_⟩, fun x T' m' f' hx => by obtain ⟨p, hp, _⟩ := hx; simp at hp⟩, fun a ha _ => ?_, fun j hj => by simp at hj⟩
    · by_cases e : c = b
      · subst e
        obtain ⟨c1, h1, h2, h3⟩ := hr
        obtain ⟨c2, g1, g2, g3⟩ := hww
        rw [h1, g1]
        have : c2 = c1 := by
          apply Array.ext (by omega)
          intro i hi1 hi2
          have e1 := h3 i (by omega)
          have e2 := g3 i (by omega)
          rw [Array.getElem?_eq_getElem hi2] at e1
          rw [Array.getElem?_eq_getElem hi1] at e2
          exact Option.some.inj (e2.trans e1.symm)
        rw [this]
      · exact ht.block c hc e
    · by_cases e : a.block = b
      · obtain ⟨bb, o, sp⟩ := a
        simp only at e
        subst e
        obtain ⟨c1, h1, h2, h3⟩ := hr
        obtain ⟨c2, g1, g2, g3⟩ := hww
        have : c2 = c1 := by
          apply Array.ext (by omega)
          intro i hi1 hi2
          have e1 := h3 i (by omega)
          have e2 := g3 i (by omega)
          rw [Array.getElem?_eq_getElem hi2] at e1
          rw [Array.getElem?_eq_getElem hi1] at e2
          exact Option.some.inj (e2.trans e1.symm)
        unfold World.cell?
        simp only [h1, g1, this]
      · have := ht.block a.block ha e
        unfold World.cell?
        rw [this]
  · have hS : ∃ p ∈ upTo (fun c => [(⟨b, c, none⟩, κ c)]) M, p.1.block = b := ⟨_, hmem 0 (by omega), rfl⟩
    refine ⟨Marks.one hS ht hr hr' fun i hi => ?_, fun a ha hn => ?_, fun j hj => ?_⟩
    · by_cases hiM : i < M
      · simp only [if_pos hiM, hg i hiM]
        exact mkV_kind (hf i hiM)
      · simp only [if_neg hiM]; exact kind1.refl _
    · by_cases e : a.block = b
      · obtain ⟨bb, o, sp⟩ := a
        simp only at e
        subst e
        cases sp with
        | some s =>
          obtain ⟨c1, h1, h2, h3⟩ := hr
          obtain ⟨c2, g1, g2, g3⟩ := hr'
          unfold World.cell?
          simp [h1, g1]
        | none =>
          have ho : ¬ o < M := fun h => hn (List.mem_map.2 ⟨_, hmem o h, rfl⟩)
          by_cases hom : o < m
          · rw [hr'.cell hom, hr.cell hom, if_neg ho]
          · obtain ⟨c1, h1, h2, h3⟩ := hr
            obtain ⟨c2, g1, g2, g3⟩ := hr'
            unfold World.cell?
            simp only [h1, g1]
            rw [Array.getElem?_eq_none (by omega), Array.getElem?_eq_none (by omega)]
      · have := ht.block a.block ha e
        unfold World.cell?
        rw [this]
    · have hl := leaves_len (fun c => ((⟨b, c, none⟩, κ c) : Plc)) M
      have hjM : j < M := by omega
      rw [leaves_at (fun c => ((⟨b, c, none⟩, κ c) : Plc)) M j hj]
      show w'.cell? ⟨b, j, none⟩ = _
      rw [hr'.cell (by omega), if_pos hjM, hg j hjM]
def ValsP := RowP 128 ([0, 0, 1].map LeafP)
def ColsP := RowP 131 ([1, 0, 2, 2, 0, 0, 1].map LeafP)
def StrsP := RowP 9 ([1].map LeafP)
def IntsP := RowP 3 ([0].map LeafP)
theorem leaves_lay (T : TypeId) (κs : List Nat) : Lay (RowP T (κs.map LeafP)) := RowP.lay fun j h => Or.inl ⟨κs[j]'(by simpa using h), by simp⟩
theorem leaves_lenP {T : TypeId} {κs : List Nat} (hz : 0 < κs.length) {w : World} {v : Value} {ps : List Plc} (h : RowP T (κs.map LeafP) w v ps) : ps.length ≤ 1048576 * κs.length := by
  rcases RowP.leaves hz h with ⟨rfl, rfl⟩ | ⟨b, n, cap, m, f, rfl, hn, hr, hl, rfl, hf⟩
  · simp
  · rw [leaves_len (fun c => ((⟨b, c, none⟩, κs.getD (c % κs.length) 0) : Plc))]; exact Nat.mul_le_mul_right _ hn
theorem ValsP_len {w : World} {v : Value} {ps : List Plc} (h : ValsP w v ps) : ps.length ≤ 3145728 := leaves_lenP (by simp) h
theorem ColsP_len {w : World} {v : Value} {ps : List Plc} (h : ColsP w v ps) : ps.length ≤ 7340032 := leaves_lenP (by simp) h
theorem StrsP_len {w : World} {v : Value} {ps : List Plc} (h : StrsP w v ps) : ps.length ≤ 1048576 := leaves_lenP (by simp) h
theorem markV_mkV (k c : Nat) : markV k c = mkV ([0, 0, 1].getD (c % 3) 0) (k + c) := by
  unfold markV
  rcases (by omega : c % 3 = 0 ∨ c % 3 = 1 ∨ c % 3 = 2) with h | h | h <;> rw [h] <;> rfl
theorem markC_mkV (k c : Nat) : markC k c = mkV ([1, 0, 2, 2, 0, 0, 1].getD (c % 7) 0) (k + c) := by
  unfold markC
  rcases (by omega : c % 7 = 0 ∨ c % 7 = 1 ∨ c % 7 = 2 ∨ c % 7 = 3 ∨ c % 7 = 4 ∨ c % 7 = 5 ∨ c % 7 = 6) with h | h | h | h | h | h | h <;> rw [h] <;> rfl
theorem markValS_pl {w : World} {v : Value} {ps : List Plc} (h : ValsP w v ps) (k : Nat) (hk : k ≤ 8000000000000000000) :
    Calls Tryz.prog 49 #[v, .int .i64 k] w fun e w' => e = .returned (.int .i64 ((k + ps.length : Nat) : Int)) ∧ Mk w w' k ps := by
  rcases RowP.leaves (by simp) h with ⟨rfl, rfl⟩ | ⟨b, n, cap, m, f, rfl, hn, hr, hl, rfl, hf⟩
  · exact (markValS_nil k w).mono fun e w' ⟨h1, h2⟩ => ⟨by simpa using h1, (Mk.refl w k).below h2⟩
  · refine (markValS_any b n cap m _ f k w hr hl hn hk).mono fun e w' ⟨h1, h2, h3⟩ => ⟨?_, Mk.of_row h2 hr h3 hl (fun c _ => markV_mkV k c) hf⟩
    rw [leaves_len (fun c => ((⟨b, c, none⟩, _) : Plc))]; exact h1
theorem markColS_pl {w : World} {v : Value} {ps : List Plc} (h : ColsP w v ps) (k : Nat) (hk : k ≤ 8000000000000000000) :
    Calls Tryz.prog 75 #[v, .int .i64 k] w fun e w' => e = .returned (.int .i64 ((k + ps.length : Nat) : Int)) ∧ Mk w w' k ps := by
  rcases RowP.leaves (by simp) h with ⟨rfl, rfl⟩ | ⟨b, n, cap, m, f, rfl, hn, hr, hl, rfl, hf⟩
  · exact (markColS_nil k w).mono fun e w' ⟨h1, h2⟩ => ⟨by simpa using h1, (Mk.refl w k).below h2⟩
  · refine (markColS_any b n cap m _ f k w hr hl hn hk).mono fun e w' ⟨h1, h2, h3⟩ => ⟨?_, Mk.of_row h2 hr h3 hl (fun c _ => markC_mkV k c) hf⟩
    rw [leaves_len (fun c => ((⟨b, c, none⟩, _) : Plc))]; exact h1
theorem markStringS_pl {w : World} {v : Value} {ps : List Plc} (h : StrsP w v ps) (k : Nat) (hk : k ≤ 8000000000000000000) :
    Calls Tryz.prog 76 #[v, .int .i64 k] w fun e w' => e = .returned (.int .i64 ((k + ps.length : Nat) : Int)) ∧ Mk w w' k ps := by
  rcases RowP.leaves (by simp) h with ⟨rfl, rfl⟩ | ⟨b, n, cap, m, f, rfl, hn, hr, hl, rfl, hf⟩
  · exact (markStringS_nil k w).mono fun e w' ⟨h1, h2⟩ => ⟨by simpa using h1, (Mk.refl w k).below h2⟩
  · refine (markStringS_wide b n cap m _ f k w hr (by simpa using hl) (by omega) hk).mono fun e w' ⟨h1, h2, h3⟩ => ⟨?_, Mk.of_row h2 hr (M := n * [1].length) (g := fun i => .string (markB (k + i))) (by simpa using h3) hl (fun c _ => by simp [mkV, Nat.mod_one]) hf⟩
    rw [leaves_len (fun c => ((⟨b, c, none⟩, _) : Plc))]; simpa using h1
theorem heldValS_pl {w : World} {v : Value} {ps : List Plc} (h : ValsP w v ps) (k : Nat) (hk : k ≤ 8000000000000000000) (hm : Marked w k ps) :
    Calls Tryz.prog 52 #[v, .int .i64 k] w fun e w' => e = .returned (.int .i64 ((k + ps.length : Nat) : Int)) ∧ Below w.heap.size w w' := by
  rcases RowP.leaves (by simp) h with ⟨rfl, rfl⟩ | ⟨b, n, cap, m, f, rfl, hn, hr, hl, rfl, hf⟩
  · exact (heldValS_nil k w).mono fun e w' ⟨h1, h2⟩ => ⟨by simpa using h1, h2⟩
  · have hlen := leaves_len (fun c => ((⟨b, c, none⟩, [0, 0, 1].getD (c % [0, 0, 1].length) 0) : Plc)) (n * [0, 0, 1].length)
    refine (heldValS_any b n cap m _ f k w hr hl hn hk fun c hc => ?_).mono fun e w' ⟨h1, h2⟩ => ⟨by rw [hlen]; exact h1, h2⟩
    have h1 := hm c (by rw [hlen]; exact hc)
    rw [leaves_at (fun c => ((⟨b, c, none⟩, [0, 0, 1].getD (c % [0, 0, 1].length) 0) : Plc))] at h1
    rw [markV_mkV]
    exact Option.some.inj ((hr.cell (by simp at hl; omega)).symm.trans h1)
theorem heldColS_pl {w : World} {v : Value} {ps : List Plc} (h : ColsP w v ps) (k : Nat) (hk : k ≤ 8000000000000000000) (hm : Marked w k ps) :
    Calls Tryz.prog 92 #[v, .int .i64 k] w fun e w' => e = .returned (.int .i64 ((k + ps.length : Nat) : Int)) ∧ Below w.heap.size w w' := by
  rcases RowP.leaves (by simp) h with ⟨rfl, rfl⟩ | ⟨b, n, cap, m, f, rfl, hn, hr, hl, rfl, hf⟩
  · exact (heldColS_nil k w).mono fun e w' ⟨h1, h2⟩ => ⟨by simpa using h1, h2⟩
  · have hlen := leaves_len (fun c => ((⟨b, c, none⟩, [1, 0, 2, 2, 0, 0, 1].getD (c % [1, 0, 2, 2, 0, 0, 1].length) 0) : Plc)) (n * [1, 0, 2, 2, 0, 0, 1].length)
    refine (heldColS_any b n cap m _ f k w hr hl hn hk fun c hc => ?_).mono fun e w' ⟨h1, h2⟩ => ⟨by rw [hlen]; exact h1, h2⟩
    have h1 := hm c (by rw [hlen]; exact hc)
    rw [leaves_at (fun c => ((⟨b, c, none⟩, [1, 0, 2, 2, 0, 0, 1].getD (c % [1, 0, 2, 2, 0, 0, 1].length) 0) : Plc))] at h1
    rw [markC_mkV]
    exact Option.some.inj ((hr.cell (by simp at hl; omega)).symm.trans h1)
theorem heldStringS_pl {w : World} {v : Value} {ps : List Plc} (h : StrsP w v ps) (k : Nat) (hk : k ≤ 8000000000000000000) (hm : Marked w k ps) :
    Calls Tryz.prog 93 #[v, .int .i64 k] w fun e w' => e = .returned (.int .i64 ((k + ps.length : Nat) : Int)) ∧ Below w.heap.size w w' := by
  rcases RowP.leaves (by simp) h with ⟨rfl, rfl⟩ | ⟨b, n, cap, m, f, rfl, hn, hr, hl, rfl, hf⟩
  · exact (heldStringS_nil k w).mono fun e w' ⟨h1, h2⟩ => ⟨by simpa using h1, h2⟩
  · have hlen := leaves_len (fun c => ((⟨b, c, none⟩, [1].getD (c % [1].length) 0) : Plc)) (n * [1].length)
    refine (heldStringS_wide b n cap m _ f k w hr (by simpa using hl) (by omega) hk fun c hc => ?_).mono fun e w' ⟨h1, h2⟩ => ⟨by rw [hlen]; simpa using h1, h2⟩
    have h1 := hm c (by rw [hlen]; simpa using hc)
    rw [leaves_at (fun c => ((⟨b, c, none⟩, [1].getD (c % [1].length) 0) : Plc))] at h1
    have h2 := (hr.cell (i := c) (by simp at hl; omega)).symm.trans h1
    simpa [mkV, Nat.mod_one] using Option.some.inj h2
end Go.Proofs.YtiijahoheajppaaGreat

namespace Go.Proofs.YtiijahoheajppaaGreat
open Go.ChangeShapes Go.WideShapes Go.ChangeAt Go.RowKit

def StmtsP := RowP 48 [LeafP 0, LeafP 1, NestP ValsP, NestP ValsP, LeafP 0, LeafP 1, NestP ColsP, NestP StrsP, LeafP 1, LeafP 1]
theorem StmtsP.lay : Lay StmtsP := RowP.lay fun j h => by
  match j, h with
  | 0, _ => exact Or.inl ⟨0, rfl⟩
  | 1, _ => exact Or.inl ⟨1, rfl⟩
  | 2, _ => exact Or.inr ⟨ValsP, rfl, leaves_lay _ _, fun w v ps h => RowP.lit h⟩
  | 3, _ => exact Or.inr ⟨ValsP, rfl, leaves_lay _ _, fun w v ps h => RowP.lit h⟩
  | 4, _ => exact Or.inl ⟨0, rfl⟩
  | 5, _ => exact Or.inl ⟨1, rfl⟩
  | 6, _ => exact Or.inr ⟨ColsP, rfl, leaves_lay _ _, fun w v ps h => RowP.lit h⟩
  | 7, _ => exact Or.inr ⟨StrsP, rfl, leaves_lay _ _, fun w v ps h => RowP.lit h⟩
  | 8, _ => exact Or.inl ⟨1, rfl⟩
  | 9, _ => exact Or.inl ⟨1, rfl⟩
theorem StmtsP.len {w : World} {v : Value} {ps : List Plc} (h : StmtsP w v ps) : ps.length ≤ 76965813944320 := by
  rcases h with ⟨rfl, rfl⟩ | ⟨b, n, cap, m, f, qs, rfl, hn1, hr, hl, rfl, hf⟩
  · simp
  · have h1 := upTo_le (L := 7340032) qs (n * 10) fun c hc => by
      have hi : c / 10 < n := by omega
      have h0 := hf _ hi (c % 10) (by have := Nat.mod_lt c (show 0 < 10 by omega); simpa using this)
      have hd : c / 10 * 10 + c % 10 = c := by omega
      have hj : c % 10 < 10 := Nat.mod_lt _ (by omega)
      simp only [List.length_cons, List.length_nil, Nat.zero_add, Nat.reduceAdd, hd] at h0
      have key : ∀ (j : Nat) (hj : j < [LeafP 0, LeafP 1, NestP ValsP, NestP ValsP, LeafP 0, LeafP 1, NestP ColsP, NestP StrsP, LeafP 1, LeafP 1].length), ([LeafP 0, LeafP 1, NestP ValsP, NestP ValsP, LeafP 0, LeafP 1, NestP ColsP, NestP StrsP, LeafP 1, LeafP 1] : List CellP)[j] w ⟨b, c, none⟩ (f c) (qs c) → (qs c).length ≤ 7340032 := fun j hj h0 => by
        match j, hj, h0 with
        | 0, _, h0 => have := h0.2; rw [this]; simp
        | 1, _, h0 => have := h0.2; rw [this]; simp
        | 2, _, h0 => exact Nat.le_trans (ValsP_len h0) (by omega)
        | 3, _, h0 => exact Nat.le_trans (ValsP_len h0) (by omega)
        | 4, _, h0 => have := h0.2; rw [this]; simp
        | 5, _, h0 => have := h0.2; rw [this]; simp
        | 6, _, h0 => exact Nat.le_trans (ColsP_len h0) (by omega)
        | 7, _, h0 => exact Nat.le_trans (StrsP_len h0) (by omega)
        | 8, _, h0 => have := h0.2; rw [this]; simp
        | 9, _, h0 => have := h0.2; rw [this]; simp
      exact key _ _ h0
    show (upTo qs (n * 10)).length ≤ _
    have h2 : n * 10 * 7340032 ≤ 76965813944320 := by omega
    omega

theorem StmtsP.elem {w : World} {b n : Nat} {f : Nat → Value} {qs : Nat → List Plc} (hf : ∀ i, i < n → ∀ j (h : j < [LeafP 0, LeafP 1, NestP ValsP, NestP ValsP, LeafP 0, LeafP 1, NestP ColsP, NestP StrsP, LeafP 1, LeafP 1].length), [LeafP 0, LeafP 1, NestP ValsP, NestP ValsP, LeafP 0, LeafP 1, NestP ColsP, NestP StrsP, LeafP 1, LeafP 1][j] w ⟨b, i * [LeafP 0, LeafP 1, NestP ValsP, NestP ValsP, LeafP 0, LeafP 1, NestP ColsP, NestP StrsP, LeafP 1, LeafP 1].length + j, none⟩ (f (i * [LeafP 0, LeafP 1, NestP ValsP, NestP ValsP, LeafP 0, LeafP 1, NestP ColsP, NestP StrsP, LeafP 1, LeafP 1].length + j)) (qs (i * [LeafP 0, LeafP 1, NestP ValsP, NestP ValsP, LeafP 0, LeafP 1, NestP ColsP, NestP StrsP, LeafP 1, LeafP 1].length + j))) (j : Nat) (hj : j < n) : (leafK 0 (f (j * 10)) ∧ qs (j * 10) = [(⟨b, j * 10, none⟩, 0)]) ∧ (leafK 1 (f (j * 10 + 1)) ∧ qs (j * 10 + 1) = [(⟨b, j * 10 + 1, none⟩, 1)]) ∧ ValsP w (f (j * 10 + 2)) (qs (j * 10 + 2)) ∧ ValsP w (f (j * 10 + 3)) (qs (j * 10 + 3)) ∧ (leafK 0 (f (j * 10 + 4)) ∧ qs (j * 10 + 4) = [(⟨b, j * 10 + 4, none⟩, 0)]) ∧ (leafK 1 (f (j * 10 + 5)) ∧ qs (j * 10 + 5) = [(⟨b, j * 10 + 5, none⟩, 1)]) ∧ ColsP w (f (j * 10 + 6)) (qs (j * 10 + 6)) ∧ StrsP w (f (j * 10 + 7)) (qs (j * 10 + 7)) ∧ (leafK 1 (f (j * 10 + 8)) ∧ qs (j * 10 + 8) = [(⟨b, j * 10 + 8, none⟩, 1)]) ∧ (leafK 1 (f (j * 10 + 9)) ∧ qs (j * 10 + 9) = [(⟨b, j * 10 + 9, none⟩, 1)]) := by
  have h0 := hf j hj 0 (by simp)
  have h1 := hf j hj 1 (by simp)
  have h2 := hf j hj 2 (by simp)
  have h3 := hf j hj 3 (by simp)
  have h4 := hf j hj 4 (by simp)
  have h5 := hf j hj 5 (by simp)
  have h6 := hf j hj 6 (by simp)
  have h7 := hf j hj 7 (by simp)
  have h8 := hf j hj 8 (by simp)
  have h9 := hf j hj 9 (by simp)
  exact ⟨h0, h1, h2, h3, h4, h5, h6, h7, h8, h9⟩
end Go.Proofs.YtiijahoheajppaaGreat

namespace Go.Proofs.YtiijahoheajppaaGreat
open Go.ChangeShapes Go.WideShapes Go.ChangeAt Go.RowKit

/-- Statements behind a slice. -/
def StmtsV (w : World) (v : Value) (ts : List Sc) : Prop := ∃ a cap xs, v = .slice a ts.length cap ∧ ts.length ≤ cap ∧ cap ≤ maxLen ∧ RowAt w a 10 xs ∧ xs.length = ts.length ∧ ∀ i (h : i < xs.length) (g : i < ts.length), StmtV w xs[i] ts[i]
theorem StmtsV.on {w w' : World} {v : Value} {ts : List Sc} (h : StmtsV w v ts) (b : Below w.heap.size w w') : StmtsV w' v ts := by
  obtain ⟨a, cap, xs, e, h1, h2, h3, h4, h5⟩ := h; exact ⟨a, cap, xs, e, h1, h2, h3.on b, h4, fun i h g => (h5 i h g).on b⟩
theorem StmtsV.lit {w : World} {v : Value} {ts : List Sc} (h : StmtsV w v ts) : ∃ a cap, v = .slice a ts.length cap ∧ ts.length ≤ cap ∧ cap ≤ maxLen ∧ StmtsV w (.slice a ts.length cap) ts := by
  obtain ⟨a, cap, xs, rfl, h1, h2, h3⟩ := h; exact ⟨a, cap, rfl, h1, h2, a, cap, xs, rfl, h1, h2, h3⟩
theorem StmtsV.st {w : World} {a : Option Addr} {n cap : Nat} {ts : List Sc} (h : StmtsV w (.slice a n cap) ts) (k : Nat) (hk : k < ts.length) : ∃ b off ka kp ra rp ca cp oa op, a = some ⟨b, off, none⟩ ∧ StmtV w #[.int .i64 ts[k].kind, .string ts[k].table, .slice ka ts[k].key.length kp, .slice ra ts[k].row.length rp, .int .i64 ts[k].ddl.kind, .string ts[k].ddl.table, .slice ca ts[k].ddl.cols.length cp, .slice oa ts[k].ddl.keys.length op, .string ts[k].ddl.name, .string ts[k].ddl.to] ts[k] ∧
    w.cell? ⟨b, off + k * 10, none⟩ = some (.int .i64 ts[k].kind) ∧ w.cell? ⟨b, off + k * 10 + 1, none⟩ = some (.string ts[k].table) ∧ w.cell? ⟨b, off + k * 10 + 2, none⟩ = some (.slice ka ts[k].key.length kp) ∧ w.cell? ⟨b, off + k * 10 + 3, none⟩ = some (.slice ra ts[k].row.length rp) ∧ w.cell? ⟨b, off + k * 10 + 4, none⟩ = some (.int .i64 ts[k].ddl.kind) ∧ w.cell? ⟨b, off + k * 10 + 5, none⟩ = some (.string ts[k].ddl.table) ∧ w.cell? ⟨b, off + k * 10 + 6, none⟩ = some (.slice ca ts[k].ddl.cols.length cp) ∧ w.cell? ⟨b, off + k * 10 + 7, none⟩ = some (.slice oa ts[k].ddl.keys.length op) ∧ w.cell? ⟨b, off + k * 10 + 8, none⟩ = some (.string ts[k].ddl.name) ∧ w.cell? ⟨b, off + k * 10 + 9, none⟩ = some (.string ts[k].ddl.to) := by
  obtain ⟨a', cap', xs, e, h1, h2, h3, h4, h5⟩ := h
  cases e
  rcases h3.2 with h0 | ⟨b, off, ha, h⟩
  · subst h0; simp at h4; omega
  · obtain ⟨ka, kp, ra, rp, ca, cp, oa, op, ex, g1, g2, g3, g4⟩ := (h5 k (by omega) hk).lit
    have e0 := h k (by omega) 0 (by omega)
    have e1 := h k (by omega) 1 (by omega)
    have e2 := h k (by omega) 2 (by omega)
    have e3 := h k (by omega) 3 (by omega)
    have e4 := h k (by omega) 4 (by omega)
    have e5 := h k (by omega) 5 (by omega)
    have e6 := h k (by omega) 6 (by omega)
    have e7 := h k (by omega) 7 (by omega)
    have e8 := h k (by omega) 8 (by omega)
    have e9 := h k (by omega) 9 (by omega)
    rw [ex] at e0 e1 e2 e3 e4 e5 e6 e7 e8 e9
    exact ⟨b, off, ka, kp, ra, rp, ca, cp, oa, op, ha, ⟨_, _, _, _, rfl, g1, g2, g3, g4⟩, e0, e1, e2, e3, e4, e5, e6, e7, e8, e9⟩

end Go.Proofs.YtiijahoheajppaaGreat

namespace Go.Proofs.YtiijahoheajppaaGreat
open Go.ChangeShapes Go.WideShapes Go.ChangeAt Go.RowKit

theorem leaves_nodup (b : Nat) (κ : Nat → Nat) : ∀ M, ((upTo (fun c => [((⟨b, c, none⟩, κ c) : Plc)]) M).map (·.1)).Nodup
  | 0 => by simp [upTo]
  | M + 1 => by
    rw [upTo_succ, List.map_append, List.nodup_append]
    refine ⟨leaves_nodup b κ M, by simp, fun a ha c hc e => ?_⟩
    simp at hc
    subst hc
    subst e
    obtain ⟨p, hp, e⟩ := List.mem_map.1 ha
    obtain ⟨q, hq, hp⟩ := List.mem_flatMap.1 hp
    rw [List.mem_range] at hq
    simp at hp
    subst hp
    simp at e
    omega
theorem Got.leaves {w : World} {B : Nat} {T : TypeId} {κs : List Nat} {v : Value} {xs : List (Array Value)} (h : Got w B T κs.length v xs) (hl : xs.length ≤ 1048576) (hκ : ∀ x ∈ xs, ∀ j (hj : j < κs.length) u, x[j]? = some u → leafK κs[j] u) :
    ∃ ps : List Plc, (ps.map (·.1)).Nodup ∧ (∀ p ∈ ps, v.ownBlock = some p.1.block) ∧ ∀ u : World, (∀ g, v.ownBlock = some g → u.heap[g]? = w.heap[g]?) → RowP T (κs.map LeafP) u v ps ∧ Got u B T κs.length v xs := by
  obtain ⟨h0, h1, h2⟩ := h
  rcases h2 with ⟨rfl, hn⟩ | ⟨g, cap, cur, rfl, hb, hg, hc1, hc2, hs, ht⟩
  · exact ⟨[], by simp, by simp, fun u _ => ⟨Or.inl ⟨rfl, rfl⟩, h0, h1, Or.inl ⟨rfl, hn⟩⟩⟩
  · refine ⟨upTo (fun c => [((⟨g, c, none⟩, κs.getD (c % κs.length) 0) : Plc)]) (xs.length * κs.length), leaves_nodup g _ _, fun p hp => ?_, fun u hu => ?_⟩
    · obtain ⟨q, hq, hp⟩ := List.mem_flatMap.1 hp
      simp at hp; subst hp; rfl
    · have hgu := (hu g rfl).trans hg
      refine ⟨Or.inr ⟨g, xs.length, cap, cap * κs.length, fun i => cur.getD i default, fun c => [((⟨g, c, none⟩, κs.getD (c % κs.length) 0) : Plc)], rfl, hl, ⟨cur, hgu, hs, fun i hi => by simp [Array.getD, hs, hi]⟩, by rw [List.length_map]; exact Nat.mul_le_mul_right _ hc1, by rw [List.length_map], fun i hi j hj => ?_⟩, h0, h1, Or.inr ⟨g, cap, cur, rfl, hb, hgu, hc1, hc2, hs, ht⟩⟩
      rw [List.length_map] at hj
      have hlt : i * κs.length + j < xs.length * κs.length := by
        have : (i + 1) * κs.length ≤ xs.length * κs.length := Nat.mul_le_mul_right _ hi
        rw [Nat.add_mul, Nat.one_mul] at this
        omega
      have hle : xs.length * κs.length ≤ cap * κs.length := Nat.mul_le_mul_right _ hc1
      simp only [List.getElem_map, List.length_map]
      have hmod : (i * κs.length + j) % κs.length = j := by rw [Nat.mul_comm, Nat.mul_add_mod, Nat.mod_eq_of_lt hj]
      refine ⟨?_, by rw [hmod, List.getD_eq_getElem?_getD, List.getElem?_eq_getElem hj]; rfl⟩
      have e1 := flat_at xs h0 i hi j hj
      rw [← ht, List.getElem?_take, if_pos hlt, Array.getElem?_toList, Array.getElem?_eq_getElem (by omega)] at e1
      have e2 : cur.getD (i * κs.length + j) default = cur[i * κs.length + j]'(by omega) := by simp [Array.getD, show i * κs.length + j < cur.size by omega]
      show leafK _ (cur.getD (i * κs.length + j) default)
      rw [e2]
      exact hκ _ (List.getElem_mem hi) j hj _ e1.symm
theorem Got.valsV {w : World} {B : Nat} {T : TypeId} {v : Value} {vs : List Vc} (h : Got w B T 3 v (vs.map Vc.cells)) : ValsV w v vs := by
  obtain ⟨a, cap, e, h1, h2, h3, _⟩ := h.row
  exact ⟨a, cap, by simpa using e, by simpa using h1, h2, h3⟩
theorem Got.ownVals {w : World} {B : Nat} {v : Value} {vs : List Vc} (h : Got w B 128 3 v (vs.map Vc.cells)) (hl : vs.length ≤ 1048576) : ∃ ps : List Plc, (ps.map (·.1)).Nodup ∧ (∀ p ∈ ps, v.ownBlock = some p.1.block) ∧ ∀ u : World, (∀ g, v.ownBlock = some g → u.heap[g]? = w.heap[g]?) → ValsV u v vs ∧ ValsP u v ps := by
  obtain ⟨ps, h1, h2, h3⟩ := Got.leaves (κs := [0, 0, 1]) h (by simpa using hl) (fun x hx j hj u hu => by
    obtain ⟨c, _, rfl⟩ := List.mem_map.1 hx
    match j, hj with
    | 0, _ => simp at hu; subst hu; exact ⟨_, rfl⟩
    | 1, _ => simp at hu; subst hu; exact ⟨_, rfl⟩
    | 2, _ => simp at hu; subst hu; exact ⟨_, rfl⟩)
  exact ⟨ps, h1, h2, fun u hu => ⟨(h3 u hu).2.valsV, (h3 u hu).1⟩⟩
theorem Got.ownCols {w : World} {B : Nat} {v : Value} {vs : List Cl} (h : Got w B 131 7 v (vs.map Cl.cells)) (hl : vs.length ≤ 1048576) : ∃ ps : List Plc, (ps.map (·.1)).Nodup ∧ (∀ p ∈ ps, v.ownBlock = some p.1.block) ∧ ∀ u : World, (∀ g, v.ownBlock = some g → u.heap[g]? = w.heap[g]?) → ColsV u v vs ∧ ColsP u v ps := by
  obtain ⟨ps, h1, h2, h3⟩ := Got.leaves (κs := [1, 0, 2, 2, 0, 0, 1]) h (by simpa using hl) (fun x hx j hj u hu => by
    obtain ⟨c, _, rfl⟩ := List.mem_map.1 hx
    match j, hj with
    | 0, _ => simp at hu; subst hu; exact ⟨_, rfl⟩
    | 1, _ => simp at hu; subst hu; exact ⟨_, rfl⟩
    | 2, _ => simp at hu; subst hu; exact ⟨_, rfl⟩
    | 3, _ => simp at hu; subst hu; exact ⟨_, rfl⟩
    | 4, _ => simp at hu; subst hu; exact ⟨_, rfl⟩
    | 5, _ => simp at hu; subst hu; exact ⟨_, rfl⟩
    | 6, _ => simp at hu; subst hu; exact ⟨_, rfl⟩)
  exact ⟨ps, h1, h2, fun u hu => ⟨(h3 u hu).2.cols, (h3 u hu).1⟩⟩
theorem Got.ownStrs {w : World} {B : Nat} {v : Value} {vs : List ByteArray} (h : Got w B 9 1 v (vs.map strX)) (hl : vs.length ≤ 1048576) : ∃ ps : List Plc, (ps.map (·.1)).Nodup ∧ (∀ p ∈ ps, v.ownBlock = some p.1.block) ∧ ∀ u : World, (∀ g, v.ownBlock = some g → u.heap[g]? = w.heap[g]?) → StrsV u v vs ∧ StrsP u v ps := by
  obtain ⟨ps, h1, h2, h3⟩ := Got.leaves (κs := [1]) h (by simpa using hl) (fun x hx j hj u hu => by
    obtain ⟨c, _, rfl⟩ := List.mem_map.1 hx
    match j, hj with
    | 0, _ => simp at hu; subst hu; exact ⟨_, rfl⟩)
  exact ⟨ps, h1, h2, fun u hu => ⟨(h3 u hu).2.strs, (h3 u hu).1⟩⟩

/-- A statement of a call's own: its parts, and their places; all lies in the blocks from lo to hi. -/
structure Est where
  s : Sc
  k : Value
  r : Value
  c : Value
  o : Value
  p2 : List Plc
  p3 : List Plc
  p6 : List Plc
  p7 : List Plc
  lo : Nat
  hi : Nat
abbrev Est.cells (e : Est) : Array Value := e.s.cells e.k e.r e.c e.o
def Est.pl (e : Est) : List Plc := e.p2 ++ e.p3 ++ e.p6 ++ e.p7
def Est.reads (e : Est) (u : World) : Prop := (ValsV u e.k e.s.key ∧ ValsP u e.k e.p2) ∧ (ValsV u e.r e.s.row ∧ ValsP u e.r e.p3) ∧ (ColsV u e.c e.s.ddl.cols ∧ ColsP u e.c e.p6) ∧ (StrsV u e.o e.s.ddl.keys ∧ StrsP u e.o e.p7)
structure Est.Good (w : World) (e : Est) : Prop where
  le : e.lo ≤ e.hi
  top : e.hi ≤ w.heap.size
  reads : ∀ u : World, (∀ b, e.lo ≤ b → b < e.hi → u.heap[b]? = w.heap[b]?) → e.reads u
  nodup : (e.pl.map (·.1)).Nodup
  inside : ∀ p ∈ e.pl, e.lo ≤ p.1.block ∧ p.1.block < e.hi
theorem Est.Good.stmt {w : World} {e : Est} (h : e.Good w) : StmtV w e.cells e.s := by
  obtain ⟨h1, h2, h3, h4⟩ := h.reads w fun _ _ _ => rfl
  exact ⟨_, _, _, _, rfl, h1.1, h2.1, h3.1, h4.1⟩
theorem Est.Good.keep {w w' : World} {e : Est} (h : e.Good w) (hs : w.heap.size ≤ w'.heap.size) (hb : ∀ b, e.lo ≤ b → b < e.hi → w'.heap[b]? = w.heap[b]?) : e.Good w' :=
  ⟨h.le, Nat.le_trans h.top hs, fun u hu => h.reads u fun b h1 h2 => (hu b h1 h2).trans (hb b h1 h2), h.nodup, h.inside⟩
theorem Est.Good.on {w w' : World} {e : Est} (h : e.Good w) (k : Below w.heap.size w w') : e.Good w' := h.keep k.size fun b _ hb => k.block b (Nat.lt_of_lt_of_le hb h.top)
/-- Four rows of the call's own, one behind the other. -/
theorem Est.make {w : World} {s : Sc} {k r c o : Value} {b0 b1 b2 b3 b4 : Nat} (hk : Got w b0 128 3 k (s.key.map Vc.cells)) (hr : Got w b1 128 3 r (s.row.map Vc.cells)) (hc : Got w b2 131 7 c (s.ddl.cols.map Cl.cells)) (ho : Got w b3 9 1 o (s.ddl.keys.map strX)) (few : s.few)
    (gk : ∀ g, k.ownBlock = some g → g < b1) (gr : ∀ g, r.ownBlock = some g → g < b2) (gc : ∀ g, c.ownBlock = some g → g < b3) (go : ∀ g, o.ownBlock = some g → g < b4) (h01 : b0 ≤ b1) (h12 : b1 ≤ b2) (h23 : b2 ≤ b3) (h34 : b3 ≤ b4) (h4 : b4 ≤ w.heap.size) :
    ∃ e : Est, e.s = s ∧ e.cells = s.cells k r c o ∧ e.lo = b0 ∧ e.hi = b4 ∧ e.Good w := by
  obtain ⟨p2, n2, i2, r2⟩ := hk.ownVals few.1
  obtain ⟨p3, n3, i3, r3⟩ := hr.ownVals few.2.1
  obtain ⟨p6, n6, i6, r6⟩ := hc.ownCols few.2.2.1
  obtain ⟨p7, n7, i7, r7⟩ := ho.ownStrs few.2.2.2
  have B2 : ∀ p ∈ p2, b0 ≤ p.1.block ∧ p.1.block < b1 := fun p hp => ⟨hk.own (i2 p hp), gk _ (i2 p hp)⟩
  have B3 : ∀ p ∈ p3, b1 ≤ p.1.block ∧ p.1.block < b2 := fun p hp => ⟨hr.own (i3 p hp), gr _ (i3 p hp)⟩
  have B6 : ∀ p ∈ p6, b2 ≤ p.1.block ∧ p.1.block < b3 := fun p hp => ⟨hc.own (i6 p hp), gc _ (i6 p hp)⟩
  have B7 : ∀ p ∈ p7, b3 ≤ p.1.block ∧ p.1.block < b4 := fun p hp => ⟨ho.own (i7 p hp), go _ (i7 p hp)⟩
  refine ⟨⟨s, k, r, c, o, p2, p3, p6, p7, b0, b4⟩, rfl, rfl, rfl, rfl, by show b0 ≤ b4; omega, h4, fun u hu => ⟨r2 u fun g hg => hu g (hk.own hg) ?_, r3 u fun g hg => hu g ?_ ?_, r6 u fun g hg => hu g ?_ ?_, r7 u fun g hg => hu g ?_ (go g hg)⟩, ?_, fun p hp => ?_⟩
  · have := gk g hg; show g < b4; omega
  · have := hr.own hg; show b0 ≤ g; omega
  · have := gr g hg; show g < b4; omega
  · have := hc.own hg; show b0 ≤ g; omega
  · have := gc g hg; show g < b4; omega
  · have := ho.own hg; show b0 ≤ g; omega
  · simp only [Est.pl, List.map_append, List.nodup_append]
    have key : ∀ {ps qs : List Plc} {m : Nat}, (∀ p ∈ ps, p.1.block < m) → (∀ p ∈ qs, m ≤ p.1.block) → ∀ a ∈ ps.map (·.1), ∀ b ∈ qs.map (·.1), a ≠ b := fun {ps qs m} h1 h2 a ha b hb e => by
      obtain ⟨p, hp, rfl⟩ := List.mem_map.1 ha
      obtain ⟨q, hq, e2⟩ := List.mem_map.1 hb
      have h3 := h1 p hp
      have h4 := h2 q hq
      rw [e, ← e2] at h3
      omega
    refine ⟨⟨⟨n2, n3, key (m := b1) (fun p hp => (B2 p hp).2) (fun p hp => (B3 p hp).1)⟩, n6, ?_⟩, n7, ?_⟩
    · rw [← List.map_append]
      exact key (m := b2) (fun p hp => by
        rcases List.mem_append.1 hp with hp | hp
        · have := (B2 p hp).2; omega
        · exact (B3 p hp).2) (fun p hp => (B6 p hp).1)
    · rw [← List.map_append, ← List.map_append]
      exact key (m := b3) (fun p hp => by
        rcases List.mem_append.1 hp with hp | hp
        · rcases List.mem_append.1 hp with hp | hp
          · have := (B2 p hp).2; omega
          · have := (B3 p hp).2; omega
        · exact (B6 p hp).2) (fun p hp => (B7 p hp).1)
  · show b0 ≤ p.1.block ∧ p.1.block < b4
    simp only [Est.pl, List.mem_append] at hp
    rcases hp with ((hp | hp) | hp) | hp
    · have := B2 p hp; omega
    · have := B3 p hp; omega
    · have := B6 p hp; omega
    · have := B7 p hp; omega
end Go.Proofs.YtiijahoheajppaaGreat
