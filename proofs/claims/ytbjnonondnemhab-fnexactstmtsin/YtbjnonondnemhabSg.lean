/- Statements of a call's own: gathered, read, their places. -/
import Derived.Test.YtbjnonondnemhabAl
import Derived.Test.YtbjnonondnemhabAl
namespace Go.Proofs.Ytbjnonondnemhab
open Go.ChangeShapes Go.WideShapes Go.ChangeAt Go.RowKit

theorem infoStm : (Try.prog.info? 67).map (fun i => (i.zero, i.size, i.bytes)) = some (some (.agg #[.int .i64 0, .string ByteArray.empty, .slice none 0 0, .slice none 0 0, .int .i64 0, .string ByteArray.empty, .slice none 0 0, .slice none 0 0, .string ByteArray.empty, .string ByteArray.empty]), 10, 176) := by kernel_rfl
theorem StmtV.oneC {w : World} {x : Array Value} {s : Sc} (h : StmtV w x s) : ∀ u ∈ x.toList, u.oneCell' = true := fun u hu => by
  obtain ⟨a, p, b, q, c, r, d, t, rfl, _⟩ := h.lit
  simp at hu
  rcases hu with rfl | rfl | rfl | rfl | rfl | rfl | rfl | rfl | rfl | rfl <;> rfl
/-- Statements of the call's own, from block B on; their parts, too. -/
def StmtsG (w : World) (B : Nat) (v : Value) (ss : List Sc) : Prop := ∃ E : List Est, E.map (fun e => e.s) = ss ∧ Got w B 67 10 v (E.map Est.cells) ∧ (∀ e ∈ E, B ≤ e.lo ∧ e.Good w) ∧ E.Pairwise (fun a b => a.hi ≤ b.lo) ∧ ∀ g, v.ownBlock = some g → ∀ e ∈ E, g < e.lo ∨ e.hi ≤ g
theorem StmtsG.on {w w' : World} {B : Nat} {v : Value} {ss : List Sc} (h : StmtsG w B v ss) (k : Below w.heap.size w w') : StmtsG w' B v ss := by
  obtain ⟨E, h1, h2, h3, h4⟩ := h
  exact ⟨E, h1, h2.on k, fun e he => ⟨(h3 e he).1, (h3 e he).2.on k⟩, h4⟩
theorem StmtsG.nil (w : World) (B : Nat) : StmtsG w B (.slice none 0 0) [] := ⟨[], rfl, Got.nil _ _ _ _, by simp, List.Pairwise.nil, by simp⟩
theorem StmtsG.emptyAt (w : World) {n : Nat} (h : w.heap.size = n) : StmtsG (w.alloc (.cells #[] 67)) n (.slice (some ⟨n, 0, none⟩) 0 0) [] := ⟨[], rfl, Got.emptyAt _ _ _ h, by simp, List.Pairwise.nil, by simp⟩
theorem StmtsG.lit {w : World} {B : Nat} {v : Value} {ss : List Sc} (h : StmtsG w B v ss) : ∃ a n c, v = .slice a n c ∧ StmtsG w B (.slice a n c) ss := by
  obtain ⟨E, h1, h2, h3⟩ := h
  obtain ⟨a, n, c, rfl, h2'⟩ := h2.lit2
  exact ⟨a, n, c, rfl, E, h1, h2', h3⟩
theorem StmtsG.turned {w w' : World} {B : Nat} {v : Value} {ss : List Sc} (h : StmtsG w B v ss) {S : Nat → Prop} (k : Turns S w w') (hS : ∀ c, S c → c < B) : StmtsG w' B v ss := by
  obtain ⟨E, h1, h2, h3, h4⟩ := h
  refine ⟨E, h1, h2.turned k (fun c hc hs => by have := h2.own hc; have := hS c hs; omega), fun e he => ⟨(h3 e he).1, (h3 e he).2.keep k.size fun b hb hb' => k.block b (Nat.lt_of_lt_of_le hb' (h3 e he).2.top) fun hs => ?_⟩, h4⟩
  have := hS b hs
  have := (h3 e he).1
  omega
theorem StmtsG.mono {w : World} {B B' : Nat} {v : Value} {ss : List Sc} (h : StmtsG w B v ss) (hB : B' ≤ B) : StmtsG w B' v ss := by
  obtain ⟨E, h1, h2, h3, h4⟩ := h
  exact ⟨E, h1, h2.mono hB, fun e he => ⟨Nat.le_trans hB (h3 e he).1, (h3 e he).2⟩, h4⟩
theorem StmtsG.read {w : World} {B : Nat} {v : Value} {ss : List Sc} (h : StmtsG w B v ss) : StmtsV w v ss := by
  obtain ⟨E, rfl, h2, h3, _⟩ := h
  obtain ⟨a, cap, e, g1, g2, g3, _⟩ := h2.row
  refine ⟨a, cap, E.map Est.cells, by simpa using e, by simpa using g1, g2, g3, by simp, fun i hi hg => ?_⟩
  simp only [List.getElem_map]
  exact (h3 _ (List.getElem_mem _)).2.stmt
/-- One more, behind the others. -/
theorem StmtsG.add {w w1 w2 w3 : World} {B : Nat} {v v' : Value} {E : List Est} {e : Est} (hE : Got w B 67 10 v (E.map Est.cells)) (h3 : ∀ e ∈ E, B ≤ e.lo ∧ e.Good w) (h4 : E.Pairwise (fun a b => a.hi ≤ b.lo)) (h5 : ∀ g, v.ownBlock = some g → ∀ e ∈ E, g < e.lo ∨ e.hi ≤ g)
    (hb1 : Below w.heap.size w w1) (he : e.Good w1) (hlo : w.heap.size ≤ e.lo) (hB : B ≤ w.heap.size) (hb2 : Below w1.heap.size w1 w2) (hg : Got w3 B 67 10 v' (E.map Est.cells ++ [e.cells])) (ht : Turns (fun c => v.ownBlock = some c) w2 w3) (hl : Lies w2 v v') : StmtsG w3 B v' (E.map (fun e => e.s) ++ [e.s]) := by
  have hv : ∀ g, v.ownBlock = some g → g < w.heap.size := fun g hg => by
    obtain ⟨cur, hh⟩ := hE.tag hg
    exact (Array.getElem?_eq_some_iff.1 hh).1
  have h12 := ch_trans hb1 hb2
  have hs1 := hb1.size
  have hs2 := hb2.size
  have hs3 := ht.size
  refine ⟨E ++ [e], by simp, by simpa using hg, fun x hx => ?_, ?_, fun g hg' x hx => ?_⟩
  · rcases List.mem_append.1 hx with hx | hx
    · have hx2 := ((h3 x hx).2.on h12)
      refine ⟨(h3 x hx).1, hx2.keep ht.size fun b b1 b2 => ht.block b (Nat.lt_of_lt_of_le b2 hx2.top) fun hs => ?_⟩
      rcases h5 b hs x hx with h | h <;> omega
    · simp at hx; subst hx
      have he2 := he.on hb2
      refine ⟨by omega, he2.keep ht.size fun b b1 b2 => ht.block b (Nat.lt_of_lt_of_le b2 he2.top) fun hs => ?_⟩
      have := hv b hs
      omega
  · rw [List.pairwise_append]
    refine ⟨h4, by simp, fun x hx y hy => ?_⟩
    simp at hy; subst hy
    have := (h3 x hx).2.top
    omega
  · have htop : x.hi ≤ w1.heap.size := by
      rcases List.mem_append.1 hx with hx | hx
      · have := (h3 x hx).2.top; omega
      · simp at hx; subst hx; exact he.top
    rcases hl g hg' with h | h
    · rcases List.mem_append.1 hx with hx | hx
      · exact h5 g h x hx
      · simp at hx; subst hx
        have := hv g h
        omega
    · omega
theorem nodup_upTo {qs : Nat → List Plc} : ∀ M, (∀ c, c < M → ((qs c).map (·.1)).Nodup) → (∀ c d, c < d → d < M → ∀ p ∈ qs c, ∀ q ∈ qs d, p.1 ≠ q.1) → ((upTo qs M).map (·.1)).Nodup
  | 0, _, _ => by simp [upTo]
  | M + 1, h1, h2 => by
    rw [upTo_succ, List.map_append, List.nodup_append]
    refine ⟨nodup_upTo M (fun c hc => h1 c (by omega)) (fun c d hcd hd => h2 c d hcd (by omega)), h1 M (by omega), fun a ha b hb e => ?_⟩
    obtain ⟨p, hp, rfl⟩ := List.mem_map.1 ha
    obtain ⟨q, hq, rfl⟩ := List.mem_map.1 hb
    obtain ⟨c, hc, hp⟩ := List.mem_flatMap.1 hp
    rw [List.mem_range] at hc
    exact h2 c M hc (by omega) p hp q hq e
/-- The places of one cell of a statement. -/
def Est.at (e : Est) (b i : Nat) : Nat → List Plc
  | 0 => [(⟨b, i * 10, none⟩, 0)]
  | 1 => [(⟨b, i * 10 + 1, none⟩, 1)]
  | 2 => e.p2
  | 3 => e.p3
  | 4 => [(⟨b, i * 10 + 4, none⟩, 0)]
  | 5 => [(⟨b, i * 10 + 5, none⟩, 1)]
  | 6 => e.p6
  | 7 => e.p7
  | 8 => [(⟨b, i * 10 + 8, none⟩, 1)]
  | 9 => [(⟨b, i * 10 + 9, none⟩, 1)]
  | _ => []
theorem Est.at_cases (e : Est) (b i j : Nat) : (∃ κ, e.at b i j = [(⟨b, i * 10 + j, none⟩, κ)]) ∨ ((j = 2 ∨ j = 3 ∨ j = 6 ∨ j = 7) ∧ ∀ p ∈ e.at b i j, p ∈ e.pl) ∨ e.at b i j = [] := by
  match j with
  | 0 => exact Or.inl ⟨_, rfl⟩
  | 1 => exact Or.inl ⟨_, rfl⟩
  | 2 => exact Or.inr (Or.inl ⟨by omega, fun p hp => by simp only [Est.at] at hp; simp [Est.pl, hp]⟩)
  | 3 => exact Or.inr (Or.inl ⟨by omega, fun p hp => by simp only [Est.at] at hp; simp [Est.pl, hp]⟩)
  | 4 => exact Or.inl ⟨_, rfl⟩
  | 5 => exact Or.inl ⟨_, rfl⟩
  | 6 => exact Or.inr (Or.inl ⟨by omega, fun p hp => by simp only [Est.at] at hp; simp [Est.pl, hp]⟩)
  | 7 => exact Or.inr (Or.inl ⟨by omega, fun p hp => by simp only [Est.at] at hp; simp [Est.pl, hp]⟩)
  | 8 => exact Or.inl ⟨_, rfl⟩
  | 9 => exact Or.inl ⟨_, rfl⟩
  | j + 10 => exact Or.inr (Or.inr rfl)
theorem Est.parts_apart {e : Est} (hn : (e.pl.map (·.1)).Nodup) (b i : Nat) {j j' : Nat} (h : j < j') (h1 : j = 2 ∨ j = 3 ∨ j = 6 ∨ j = 7) (h2 : j' = 2 ∨ j' = 3 ∨ j' = 6 ∨ j' = 7) : ∀ p ∈ e.at b i j, ∀ q ∈ e.at b i j', p.1 ≠ q.1 := by
  simp only [Est.pl, List.map_append, List.nodup_append, List.mem_append, List.mem_map] at hn
  obtain ⟨⟨⟨_, _, h23⟩, _, h6⟩, _, h7⟩ := hn
  intro p hp q hq
  rcases h1 with rfl | rfl | rfl | rfl
  · rcases h2 with rfl | rfl | rfl | rfl
    · omega
    · exact h23 _ ⟨p, hp, rfl⟩ _ ⟨q, hq, rfl⟩
    · exact h6 _ (Or.inl ⟨p, hp, rfl⟩) _ ⟨q, hq, rfl⟩
    · exact h7 _ (Or.inl (Or.inl ⟨p, hp, rfl⟩)) _ ⟨q, hq, rfl⟩
  · rcases h2 with rfl | rfl | rfl | rfl
    · omega
    · omega
    · exact h6 _ (Or.inr ⟨p, hp, rfl⟩) _ ⟨q, hq, rfl⟩
    · exact h7 _ (Or.inl (Or.inr ⟨p, hp, rfl⟩)) _ ⟨q, hq, rfl⟩
  · rcases h2 with rfl | rfl | rfl | rfl
    · omega
    · omega
    · omega
    · exact h7 _ (Or.inr ⟨p, hp, rfl⟩) _ ⟨q, hq, rfl⟩
  · omega
theorem Est.at_nodup {e : Est} (hn : (e.pl.map (·.1)).Nodup) (b i j : Nat) : ((e.at b i j).map (·.1)).Nodup := by
  simp only [Est.pl, List.map_append, List.nodup_append] at hn
  obtain ⟨⟨⟨n2, n3, _⟩, n6, _⟩, n7, _⟩ := hn
  match j with
  | 0 => simp [Est.at]
  | 1 => simp [Est.at]
  | 2 => exact n2
  | 3 => exact n3
  | 4 => simp [Est.at]
  | 5 => simp [Est.at]
  | 6 => exact n6
  | 7 => exact n7
  | 8 => simp [Est.at]
  | 9 => simp [Est.at]
  | j + 10 => simp [Est.at]
/-- Their places. -/
theorem StmtsG.pl {w : World} {B : Nat} {v : Value} {ss : List Sc} (h : StmtsG w B v ss) (hl : ss.length ≤ 1048576) : ∃ ps, StmtsP w v ps ∧ (ps.map (·.1)).Nodup ∧ ∀ p ∈ ps, B ≤ p.1.block := by
  obtain ⟨E, rfl, h2, h3, h4, h5⟩ := h
  rw [List.length_map] at hl
  have hown := fun c => h2.own (c := c)
  obtain ⟨h0, h1, h2⟩ := h2
  rcases h2 with ⟨rfl, hn⟩ | ⟨g, cap, cur, rfl, hb, hg, hc1, hc2, hs, ht⟩
  · exact ⟨[], Or.inl ⟨rfl, rfl⟩, by simp, by simp⟩
  rw [List.length_map] at hc1 ht h1
  have hget : ∀ c, c < E.length * 10 → c / 10 < E.length := fun c hc => by omega
  obtain ⟨qs, hqs⟩ : ∃ qs : Nat → List Plc, ∀ c (hc : c < E.length * 10), qs c = (E[c / 10]'(hget c hc)).at g (c / 10) (c % 10) := ⟨fun c => if hc : c < E.length * 10 then (E[c / 10]'(hget c hc)).at g (c / 10) (c % 10) else [], fun c hc => by simp [hc]⟩
  have hgd : ∀ i (hi : i < E.length), B ≤ E[i].lo ∧ E[i].Good w := fun i hi => h3 _ (List.getElem_mem hi)
  have hq : ∀ c (hc : c < E.length * 10), ∀ p ∈ qs c, (p.1 = ⟨g, c, none⟩) ∨ ((c % 10 = 2 ∨ c % 10 = 3 ∨ c % 10 = 6 ∨ c % 10 = 7) ∧ p ∈ (E[c / 10]'(hget c hc)).pl) := fun c hc p hp => by
    rw [hqs c hc] at hp
    rcases (E[c / 10]'(hget c hc)).at_cases g (c / 10) (c % 10) with ⟨κ, e⟩ | ⟨hj, hall⟩ | e
    · rw [e] at hp
      simp at hp; subst hp
      left
      simp; omega
    · exact Or.inr ⟨hj, hall p hp⟩
    · rw [e] at hp; simp at hp
  refine ⟨upTo qs (E.length * 10), Or.inr ⟨g, E.length, cap, cap * 10, fun i => cur.getD i default, qs, by rw [List.length_map], hl, ⟨cur, hg, hs, fun i hi => by simp [Array.getD, hs, hi]⟩, Nat.mul_le_mul_right _ hc1, rfl, fun i hi j hj => ?_⟩, ?_, fun p hp => ?_⟩
  · have hj10 : j < 10 := hj
    have hlt : i * 10 + j < E.length * 10 := by omega
    have e1 := flat_at (E.map Est.cells) h0 i (by simpa using hi) j hj10
    have hle : E.length * 10 ≤ cap * 10 := Nat.mul_le_mul_right _ hc1
    rw [← ht, List.getElem?_take, if_pos hlt, Array.getElem?_toList, Array.getElem?_eq_getElem (by omega)] at e1
    have e2 : cur.getD (i * 10 + j) default = cur[i * 10 + j]'(by omega) := by simp [Array.getD, show i * 10 + j < cur.size by omega]
    simp only [List.getElem_map] at e1
    have hi10 : (i * 10 + j) / 10 = i := by omega
    have hj10' : (i * 10 + j) % 10 = j := by omega
    have eq := hqs (i * 10 + j) hlt
    simp only [hi10, hj10'] at eq
    have rd := (hgd i hi).2.reads w fun _ _ _ => rfl
    have key : ∀ (j : Nat) (hj : j < ([LeafP 0, LeafP 1, NestP ValsP, NestP ValsP, LeafP 0, LeafP 1, NestP ColsP, NestP StrsP, LeafP 1, LeafP 1] : List CellP).length) (u : Value), (Est.cells E[i])[j]? = some u → ([LeafP 0, LeafP 1, NestP ValsP, NestP ValsP, LeafP 0, LeafP 1, NestP ColsP, NestP StrsP, LeafP 1, LeafP 1] : List CellP)[j] w ⟨g, i * 10 + j, none⟩ u (E[i].at g i j) := fun j hj u e1 => by
      match j, hj, e1 with
      | 0, _, e1 => simp at e1; subst e1; exact ⟨⟨_, rfl⟩, rfl⟩
      | 1, _, e1 => simp at e1; subst e1; exact ⟨⟨_, rfl⟩, rfl⟩
      | 2, _, e1 => simp at e1; subst e1; exact rd.1.2
      | 3, _, e1 => simp at e1; subst e1; exact rd.2.1.2
      | 4, _, e1 => simp at e1; subst e1; exact ⟨⟨_, rfl⟩, rfl⟩
      | 5, _, e1 => simp at e1; subst e1; exact ⟨⟨_, rfl⟩, rfl⟩
      | 6, _, e1 => simp at e1; subst e1; exact rd.2.2.1.2
      | 7, _, e1 => simp at e1; subst e1; exact rd.2.2.2.2
      | 8, _, e1 => simp at e1; subst e1; exact ⟨⟨_, rfl⟩, rfl⟩
      | 9, _, e1 => simp at e1; subst e1; exact ⟨⟨_, rfl⟩, rfl⟩
    have h9 := key j hj _ e1.symm
    rw [← eq, ← e2] at h9
    exact h9
  · refine nodup_upTo _ (fun c hc => by rw [hqs c hc]; exact Est.at_nodup (hgd _ (hget c hc)).2.nodup _ _ _) (fun c d hcd hd p hp q hq' e => ?_)
    have hc : c < E.length * 10 := by omega
    have ci := hget c hc
    have di := hget d hd
    have hin := (hgd _ ci).2.inside
    have hin' := (hgd _ di).2.inside
    rcases hq c hc p hp with e1 | ⟨j1, m1⟩
    · rcases hq d hd q hq' with e2 | ⟨j2, m2⟩
      · rw [e1, e2] at e; simp at e
      · have hb2 := hin' q m2
        rw [← e, e1] at hb2
        rcases h5 g rfl _ (List.getElem_mem di) with h | h
        · have := hb2.1; simp at this; omega
        · have := hb2.2; simp at this; omega
    · rcases hq d hd q hq' with e2 | ⟨j2, m2⟩
      · have hb1 := hin p m1
        rw [e, e2] at hb1
        rcases h5 g rfl _ (List.getElem_mem ci) with h | h
        · have := hb1.1; simp at this; omega
        · have := hb1.2; simp at this; omega
      · by_cases hij : c / 10 = d / 10
        · rw [hqs c hc] at hp
          rw [hqs d hd] at hq'
          simp only [hij] at hp
          exact Est.parts_apart (hgd _ di).2.nodup g (d / 10) (by omega) j1 j2 p hp q hq' e
        · rw [List.pairwise_iff_getElem] at h4
          have hlt : c / 10 < d / 10 := by
            have := Nat.div_le_div_right (c := 10) (Nat.le_of_lt hcd)
            omega
          have h6 := h4 _ _ ci di hlt
          have a1 := (hin p m1).2
          have a2 := (hin' q m2).1
          rw [e] at a1
          omega
  · obtain ⟨c, hc, hp⟩ := List.mem_flatMap.1 hp
    rw [List.mem_range] at hc
    rcases hq c hc p hp with e1 | ⟨_, m1⟩
    · rw [e1]; exact hb
    · have := ((hgd _ (hget c hc)).2.inside p m1).1
      have := (hgd _ (hget c hc)).1
      omega
/-- Held: the marks stand. -/
def HeldS (w : World) (v : Value) (ps : List Plc) : Prop := StmtsP w v ps ∧ Marked w 1 ps
theorem HeldS.on {w w' : World} {v : Value} {ps : List Plc} (h : HeldS w v ps) (b : Below w.heap.size w w') : HeldS w' v ps := ⟨StmtsP.lay.2 (fun _ => False) _ _ _ _ ((Marks.refl _ w).below b) h.1, h.2.on b⟩
theorem markS {w : World} {B : Nat} {v : Value} {ps : List Plc} (h1 : StmtsP w v ps) (h2 : (ps.map (·.1)).Nodup) (h3 : ∀ p ∈ ps, B ≤ p.1.block) (hB : B ≤ w.heap.size) :
    Calls Try.prog 22 #[v, .int .i64 1] w fun e w' => e = .returned (.int .i64 ((1 + ps.length : Nat) : Int)) ∧ Below B w w' ∧ HeldS w' v ps :=
  (markStmtS_pl h1 h2 1 (by omega)).mono fun e w' ⟨e1, hm⟩ => ⟨e1, hm.marks.turns.down (fun c ⟨p, hp, e⟩ => e ▸ h3 p hp) hB, StmtsP.lay.2 _ _ _ _ _ hm.marks h1, fun j hj => hm.done j hj⟩
theorem heldS {w : World} {v : Value} {ps : List Plc} (h : HeldS w v ps) : Calls Try.prog 23 #[v, .int .i64 1] w fun e w' => e = .returned (.int .i64 ((1 + ps.length : Nat) : Int)) ∧ Below w.heap.size w w' := heldStmtS_pl h.1 1 (by omega) h.2
theorem StmtsV.lit3 {w : World} {v : Value} {ss : List Sc} (h : StmtsV w v ss) : ∃ a n c, v = .slice a n c := by
  obtain ⟨a, c, rfl, _⟩ := h.lit; exact ⟨a, _, c, rfl⟩
theorem StmtsG.lit3 {w : World} {B : Nat} {v : Value} {ss : List Sc} (h : StmtsG w B v ss) : ∃ a n c, v = .slice a n c := by
  obtain ⟨a, n, c, e, _⟩ := h.lit; exact ⟨a, n, c, e⟩
end Go.Proofs.Ytbjnonondnemhab
