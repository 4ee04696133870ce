/- A record passed over the open transactions: the landed pass. -/
import Derived.Test.YtmcjchaokpcomaaOj
namespace Go.Proofs.Ytmcjchaokpcomaa
open Go.ChangeShapes Go.WideShapes Go.ChangeAt Go.RowKit

theorem infoSt : (Try.prog.info? 42).map (fun i => (i.zero, i.size, i.bytes)) = some (some (.agg #[.int .i64 0, .string ByteArray.empty, .slice none 0 0, .slice none 0 0, .int .i64 0, .string ByteArray.empty, .slice none 0 0, .slice none 0 0, .string ByteArray.empty, .string ByteArray.empty]), 10, 176) := by kernel_rfl
theorem StmtV.one {w : World} {x : Array Value} {s : Sc} (h : StmtV w x s) : ∀ u ∈ x.toList, u.oneCell' = true := fun u hu => by
  obtain ⟨a, p, b, q, c, r, d, t, rfl, _⟩ := h.lit
  simp at hu
  rcases hu with rfl | rfl | rfl | rfl | rfl | rfl | rfl | rfl | rfl | rfl <;> rfl
theorem StmtV.ten {w : World} {x : Array Value} {s : Sc} (h : StmtV w x s) : x.size = 10 := by
  obtain ⟨a, p, b, q, c, r, d, t, rfl, _⟩ := h.lit; rfl
/-- One more, at the end. -/
theorem OpenG.add {w0 w w1 : World} {B : Nat} {v v' : Value} {L : List (Xc × Value)} {x : Int} (hL : Got w B 96 2 v (L.map tcell)) (h3 : ∀ p ∈ L, StsG w0 w B p.2 p.1.sts) (h4 : L.Pairwise (fun p q => ∀ c, p.2.ownBlock = some c → q.2.ownBlock ≠ some c))
    (hg : Got w1 B 96 2 v' (L.map tcell ++ [#[.int .i64 x, .slice none 0 0]])) (ht : Turns (fun c => v.ownBlock = some c) w w1) : OpenG w0 w1 B v' (L.map (fun p => p.1) ++ [⟨x, []⟩]) := by
  refine ⟨L ++ [(⟨x, []⟩, .slice none 0 0)], by simp, by simpa using hg, fun p hp => ?_, ?_⟩
  · rcases List.mem_append.1 hp with hp | hp
    · obtain ⟨xs, g1, g2⟩ := h3 p hp
      exact ⟨xs, g1.turned ht (fun c hc hv => g1.apart hL (by decide) hc hv), g2⟩
    · simp at hp; subst hp
      exact StsG.nil _ _ _
  · rw [List.pairwise_append]
    exact ⟨h4, by simp, fun p _ q hq c _ => by simp at hq; subst hq; simp [Value.ownBlock]⟩
/-- One less. -/
theorem OpenG.out {w0 w w1 : World} {B : Nat} {v v' : Value} {L : List (Xc × Value)} {i : Nat} (hL : Got w B 96 2 v (L.map tcell)) (h3 : ∀ p ∈ L, StsG w0 w B p.2 p.1.sts) (h4 : L.Pairwise (fun p q => ∀ c, p.2.ownBlock = some c → q.2.ownBlock ≠ some c))
    (hg : Got w1 B 96 2 v' ((L.map tcell).take i ++ (L.map tcell).drop (i + 1))) (ht : Turns (fun c => v.ownBlock = some c) w w1) : OpenG w0 w1 B v' ((L.map (fun p => p.1)).eraseIdx i) := by
  have hs : (L.eraseIdx i).Sublist L := List.eraseIdx_sublist _ _
  refine ⟨L.eraseIdx i, ?_, ?_, fun p hp => ?_, h4.sublist hs⟩
  · rw [List.eraseIdx_eq_take_drop_succ, List.eraseIdx_eq_take_drop_succ, List.map_append, List.map_take, List.map_drop]
  · rw [List.eraseIdx_eq_take_drop_succ, List.map_append, List.map_take, List.map_drop]
    exact hg
  · obtain ⟨xs, g1, g2⟩ := h3 p (hs.subset hp)
    exact ⟨xs, g1.turned ht (fun c hc hv => g1.apart hL (by decide) hc hv), g2⟩
/-- One changed. -/
theorem OpenG.change {w0 w w1 : World} {B : Nat} {a : Option Addr} {n cap : Nat} {v' : Value} {L : List (Xc × Value)} {i : Nat} (hi : i < L.length) {st : Sc} {sx : Array Value} (hL : Got w B 96 2 (.slice a n cap) (L.map tcell)) (h3 : ∀ p ∈ L, StsG w0 w B p.2 p.1.sts) (h4 : L.Pairwise (fun p q => ∀ c, p.2.ownBlock = some c → q.2.ownBlock ≠ some c))
    {xs : List (Array Value)} (hxs : xs.length = L[i].1.sts.length) (hxv : ∀ j (h : j < xs.length) (g : j < L[i].1.sts.length), StmtV w0 xs[j] L[i].1.sts[j]) (hst : StmtV w0 sx st)
    (hg : Got w1 B 42 10 v' (xs ++ [sx])) (ht : Turns (fun c => L[i].2.ownBlock = some c) w w1) (hli : Lies w L[i].2 v') :
    ∃ g, a = some ⟨g, 0, none⟩ ∧ B ≤ g ∧ w1.cell? ⟨g, i * 2 + 1, none⟩ = some L[i].2 ∧ w1.frozen? ⟨g, i * 2 + 1, none⟩ = false ∧ (∃ cur, w.heap[g]? = some (.cells cur 96)) ∧
      OpenG w0 (w1.setCell ⟨g, i * 2 + 1, none⟩ v') B (.slice a n cap) ((L.map (fun p => p.1)).set i ⟨L[i].1.xid, L[i].1.sts ++ [st]⟩) := by
  obtain ⟨ys, gy, _⟩ := h3 L[i] (List.getElem_mem hi)
  have hL1 : Got w1 B 96 2 (.slice a n cap) (L.map tcell) := hL.turned ht (fun c hc hv => hL.apart gy (by decide) hc hv)
  have hi' : i < (L.map tcell).length := by simpa using hi
  obtain ⟨g, rfl, hb, hc, hf, hp⟩ := hL1.poke i 1 hi' (by omega) v'
  have e : (L.map tcell)[i] = tcell L[i] := by simp
  rw [e] at hc hp
  have hpt : ∃ cur, w.heap[g]? = some (.cells cur 96) := hL.tag (c := g) rfl
  refine ⟨g, rfl, hb, by simpa using hc, hf, hpt, L.set i (⟨L[i].1.xid, L[i].1.sts ++ [st]⟩, v'), ?_, ?_, fun p hp' => ?_, ?_⟩
  · rw [List.map_set]
  · rw [List.map_set]
    exact hp
  · -- the statements of each
    have hne : ∀ {B' : Nat} {u : Value} {zs : List (Array Value)} {w' : World}, Got w' B' 42 10 u zs → ∀ c, u.ownBlock = some c → (∃ cur, w'.heap[g]? = some (.cells cur 96)) → c ≠ g := fun {B' u zs w'} hu c hoc ⟨cur, hcur⟩ ec => by
      obtain ⟨cur', hh⟩ := hu.tag hoc
      rw [ec, hcur] at hh
      cases hh
    have hpt1 : ∃ cur, w1.heap[g]? = some (.cells cur 96) := hL1.tag (c := g) rfl
    obtain ⟨j, hj, rfl⟩ := List.getElem_of_mem hp'
    rw [List.length_set] at hj
    by_cases hji : i = j
    · subst hji
      rw [List.getElem_set_self]
      refine ⟨xs ++ [sx], hg.turned ((Turns.refl (fun c => c = g) w1).set (p := ⟨g, i * 2 + 1, none⟩) rfl v') (fun c hc => hne hg c hc hpt1), by simp [hxs], fun k h1 h2 => ?_⟩
      by_cases hk : k < xs.length
      · simp only [List.getElem_append_left hk]
        rw [List.getElem_append_left (by omega)]
        exact hxv k hk (by omega)
      · simp at h1
        have : k = xs.length := by omega
        subst this
        simp only [List.getElem_append_right (Nat.le_refl _), Nat.sub_self, List.getElem_cons_zero]
        rw [List.getElem_append_right (by omega)]
        simp only [hxs, Nat.sub_self, List.getElem_cons_zero]
        exact hst
    · rw [List.getElem_set_ne hji]
      obtain ⟨zs, g1, g2⟩ := h3 L[j] (List.getElem_mem hj)
      have g1' : Got w1 B 42 10 L[j].2 zs := g1.turned ht (fun c hc hv => by
        rw [List.pairwise_iff_getElem] at h4
        rcases Nat.lt_or_gt_of_ne hji with hl | hl
        · exact h4 i j hi hj hl c hv hc
        · exact h4 j i hj hi hl c hc hv)
      exact ⟨zs, g1'.turned ((Turns.refl (fun c => c = g) w1).set (p := ⟨g, i * 2 + 1, none⟩) rfl v') (fun c hc => hne g1' c hc hpt1), g2⟩
  · -- apart
    have hlt : ∀ j (hj : j < L.length) c, L[j].2.ownBlock = some c → c < w.heap.size := fun j hj c hc => by
      obtain ⟨zs, g1, _⟩ := h3 L[j] (List.getElem_mem hj)
      obtain ⟨cur, hh⟩ := g1.tag hc
      exact (Array.getElem?_eq_some_iff.1 hh).1
    have hnew : ∀ j (hj : j < L.length), j ≠ i → ∀ c, v'.ownBlock = some c → L[j].2.ownBlock ≠ some c := fun j hj hji c hc hv => by
      have := hlt j hj c hv
      rcases hli c hc with hc' | hc'
      · rw [List.pairwise_iff_getElem] at h4
        rcases Nat.lt_or_gt_of_ne hji with hl | hl
        · exact h4 j i hj hi hl c hv hc'
        · exact h4 i j hi hj hl c hc' hv
      · omega
    rw [List.pairwise_iff_getElem]
    intro j k hj hk hjk c
    rw [List.length_set] at hj hk
    by_cases h1 : i = j
    · subst h1
      rw [List.getElem_set_self, List.getElem_set_ne (by omega)]
      exact fun hc => hnew k hk (by omega) c hc
    · rw [List.getElem_set_ne h1]
      by_cases h2 : i = k
      · subst h2
        rw [List.getElem_set_self]
        exact fun hc hv => hnew j hj (by omega) c hv hc
      · rw [List.getElem_set_ne h2]
        rw [List.pairwise_iff_getElem] at h4
        exact h4 j k hj hk hjk c
end Go.Proofs.Ytmcjchaokpcomaa
