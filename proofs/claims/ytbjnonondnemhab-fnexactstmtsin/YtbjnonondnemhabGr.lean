/- Places of rows of values, columns and texts: marked, held. A region that draws its order, in worlds that only grow: one walk serves every order. -/
import Derived.Test.YtbjnonondnemhabPc
import Derived.Test.YtbjnonondnemhabWm
import Derived.Test.YtbjnonondnemhabCh
import Derived.Deep.QuietTactic
import Derived.BigQuiet
namespace Go.Proofs.Ytbjnonondnemhab
open Go.ChangeShapes Go.WideShapes Go.ChangeAt Go.RowKit

/-- All cells of a row are places. -/
theorem RowP.leaves {T : TypeId} {κs : List Nat} {w : World} {v : Value} {ps : List Plc} (hz : 0 < κs.length) (h : RowP T (κs.map LeafP) w v ps) : (v = .slice none 0 0 ∧ ps = []) ∨ ∃ b n cap m f, v = .slice (some ⟨b, 0, none⟩) n cap ∧ n ≤ 1048576 ∧ w.rowIs b T m f ∧ n * κs.length ≤ m ∧ ps = upTo (fun c => [(⟨b, c, none⟩, κs.getD (c % κs.length) 0)]) (n * κs.length) ∧ ∀ c, c < n * κs.length → leafK (κs.getD (c % κs.length) 0) (f c) := by
  rcases h with h | ⟨b, n, cap, m, f, qs, rfl, hn, hr, hl, rfl, hf⟩
  · exact Or.inl h
  · rw [List.length_map] at hl ⊢
    have key : ∀ c, c < n * κs.length → leafK (κs.getD (c % κs.length) 0) (f c) ∧ qs c = [(⟨b, c, none⟩, κs.getD (c % κs.length) 0)] := fun c hc => by
      have hi : c / κs.length < n := Nat.div_lt_of_lt_mul (by rwa [Nat.mul_comm])
      have hj : c % κs.length < κs.length := Nat.mod_lt _ hz
      have hd : c / κs.length * κs.length + c % κs.length = c := by rw [Nat.mul_comm]; exact Nat.div_add_mod c κs.length
      have h1 := hf _ hi (c % κs.length) (by simpa using hj)
      simp only [List.getElem_map, List.length_map, hd] at h1
      rw [List.getD_eq_getElem?_getD, List.getElem?_eq_getElem hj]
      exact h1
    refine Or.inr ⟨b, n, cap, m, f, rfl, hn, hr, hl, ?_, fun c hc => (key c hc).1⟩
    have hfm : ∀ N, N ≤ n * κs.length → upTo qs N = upTo (fun c => [(⟨b, c, none⟩, κs.getD (c % κs.length) 0)]) N := fun N => by
      induction N with
      | zero => intro _; rfl
      | succ N ih => intro hN; rw [upTo_succ, upTo_succ, ih (by omega), (key N (by omega)).2]
    exact hfm _ (Nat.le_refl _)
theorem leaves_len (g : Nat → Plc) : ∀ M, (upTo (fun c => [g c]) M).length = M
  | 0 => rfl
  | M + 1 => by rw [upTo_len, leaves_len g M]; rfl
theorem leaves_at (g : Nat → Plc) : ∀ M c (h : c < (upTo (fun c => [g c]) M).length), (upTo (fun c => [g c]) M)[c] = g c
  | 0, c, h => by simp at h
  | M + 1, c, h => by
    have hl := leaves_len g M
    have h' := h
    rw [leaves_len] at h'
    simp only [upTo_succ]
    by_cases e : c < M
    · rw [List.getElem_append_left (by omega)]; exact leaves_at g M c (by omega)
    · obtain rfl : c = M := by omega
      rw [List.getElem_append_right (by omega)]
      simp
theorem Mk.of_row {w w' : World} {b M m k : Nat} {T : TypeId} {f g : Nat → Value} {κ : Nat → Nat} (ht : Turns (· = b) w w') (hr : w.rowIs b T m f) (hr' : w'.rowIs b T m (fun i => if i < M then g i else f i)) (hM : M ≤ m) (hg : ∀ c, c < M → g c = mkV (κ c) (k + c)) (hf : ∀ c, c < M → leafK (κ c) (f c)) : Mk w w' k (upTo (fun c => [(⟨b, c, none⟩, κ c)]) M) := by
  have hmem : ∀ c, c < M → ((⟨b, c, none⟩, κ c) : Plc) ∈ upTo (fun c => [(⟨b, c, none⟩, κ c)]) M := fun c hc => List.mem_flatMap.2 ⟨c, List.mem_range.2 hc, by simp⟩
  by_cases h0 : M = 0
  · subst h0
    have hww : w'.rowIs b T m f := hr'.congr fun i _ => by simp
    refine ⟨⟨⟨ht.os, ht.tape, ht.output, ht.size, fun c hc _ => ?_⟩, fun x T' m' f' hx => by obtain ⟨p, hp, _⟩ := hx; simp at hp⟩, fun a ha _ => ?_, fun j hj => by simp at hj⟩
    · by_cases e : c = b
      · subst e
        obtain ⟨c1, h1, h2, h3⟩ := hr
        obtain ⟨c2, g1, g2, g3⟩ := hww
        rw [h1, g1]
        have : c2 = c1 := by
          apply Array.ext (by omega)
          intro i hi1 hi2
          have e1 := h3 i (by omega)
          have e2 := g3 i (by omega)
          rw [Array.getElem?_eq_getElem hi2] at e1
          rw [Array.getElem?_eq_getElem hi1] at e2
          exact Option.some.inj (e2.trans e1.symm)
        rw [this]
      · exact ht.block c hc e
    · by_cases e : a.block = b
      · obtain ⟨bb, o, sp⟩ := a
        simp only at e
        subst e
        obtain ⟨c1, h1, h2, h3⟩ := hr
        obtain ⟨c2, g1, g2, g3⟩ := hww
        have : c2 = c1 := by
          apply Array.ext (by omega)
          intro i hi1 hi2
          have e1 := h3 i (by omega)
          have e2 := g3 i (by omega)
          rw [Array.getElem?_eq_getElem hi2] at e1
          rw [Array.getElem?_eq_getElem hi1] at e2
          exact Option.some.inj (e2.trans e1.symm)
        unfold World.cell?
        simp only [h1, g1, this]
      · have := ht.block a.block ha e
        unfold World.cell?
        rw [this]
  · have hS : ∃ p ∈ upTo (fun c => [(⟨b, c, none⟩, κ c)]) M, p.1.block = b := ⟨_, hmem 0 (by omega), rfl⟩
    refine ⟨Marks.one hS ht hr hr' fun i hi => ?_, fun a ha hn => ?_, fun j hj => ?_⟩
    · by_cases hiM : i < M
      · simp only [if_pos hiM, hg i hiM]
        exact mkV_kind (hf i hiM)
      · simp only [if_neg hiM]; exact kind1.refl _
    · by_cases e : a.block = b
      · obtain ⟨bb, o, sp⟩ := a
        simp only at e
        subst e
        cases sp with
        | some s =>
          obtain ⟨c1, h1, h2, h3⟩ := hr
          obtain ⟨c2, g1, g2, g3⟩ := hr'
          unfold World.cell?
          simp [h1, g1]
        | none =>
          have ho : ¬ o < M := fun h => hn (List.mem_map.2 ⟨_, hmem o h, rfl⟩)
          by_cases hom : o < m
          · rw [hr'.cell hom, hr.cell hom, if_neg ho]
          · obtain ⟨c1, h1, h2, h3⟩ := hr
            obtain ⟨c2, g1, g2, g3⟩ := hr'
            unfold World.cell?
            simp only [h1, g1]
            rw [Array.getElem?_eq_none (by omega), Array.getElem?_eq_none (by omega)]
      · have := ht.block a.block ha e
        unfold World.cell?
        rw [this]
    · have hl := leaves_len (fun c => ((⟨b, c, none⟩, κ c) : Plc)) M
      have hjM : j < M := by omega
      rw [leaves_at (fun c => ((⟨b, c, none⟩, κ c) : Plc)) M j hj]
      show w'.cell? ⟨b, j, none⟩ = _
      rw [hr'.cell (by omega), if_pos hjM, hg j hjM]
def ValsP := RowP 84 ([0, 0, 1].map LeafP)
def ColsP := RowP 86 ([1, 0, 2, 2, 0, 0, 1].map LeafP)
def StrsP := RowP 9 ([1].map LeafP)
def IntsP := RowP 3 ([0].map LeafP)
theorem leaves_lay (T : TypeId) (κs : List Nat) : Lay (RowP T (κs.map LeafP)) := RowP.lay fun j h => Or.inl ⟨κs[j]'(by simpa using h), by simp⟩
theorem leaves_lenP {T : TypeId} {κs : List Nat} (hz : 0 < κs.length) {w : World} {v : Value} {ps : List Plc} (h : RowP T (κs.map LeafP) w v ps) : ps.length ≤ 1048576 * κs.length := by
  rcases RowP.leaves hz h with ⟨rfl, rfl⟩ | ⟨b, n, cap, m, f, rfl, hn, hr, hl, rfl, hf⟩
  · simp
  · rw [leaves_len (fun c => ((⟨b, c, none⟩, κs.getD (c % κs.length) 0) : Plc))]; exact Nat.mul_le_mul_right _ hn
theorem ValsP_len {w : World} {v : Value} {ps : List Plc} (h : ValsP w v ps) : ps.length ≤ 3145728 := leaves_lenP (by simp) h
theorem ColsP_len {w : World} {v : Value} {ps : List Plc} (h : ColsP w v ps) : ps.length ≤ 7340032 := leaves_lenP (by simp) h
theorem StrsP_len {w : World} {v : Value} {ps : List Plc} (h : StrsP w v ps) : ps.length ≤ 1048576 := leaves_lenP (by simp) h
theorem markV_mkV (k c : Nat) : markV k c = mkV ([0, 0, 1].getD (c % 3) 0) (k + c) := by
  unfold markV
  rcases (by omega : c % 3 = 0 ∨ c % 3 = 1 ∨ c % 3 = 2) with h | h | h <;> rw [h] <;> rfl
theorem markC_mkV (k c : Nat) : markC k c = mkV ([1, 0, 2, 2, 0, 0, 1].getD (c % 7) 0) (k + c) := by
  unfold markC
  rcases (by omega : c % 7 = 0 ∨ c % 7 = 1 ∨ c % 7 = 2 ∨ c % 7 = 3 ∨ c % 7 = 4 ∨ c % 7 = 5 ∨ c % 7 = 6) with h | h | h | h | h | h | h <;> rw [h] <;> rfl
theorem markValS_pl {w : World} {v : Value} {ps : List Plc} (h : ValsP w v ps) (k : Nat) (hk : k ≤ 8000000000000000000) :
    Calls Try.prog 51 #[v, .int .i64 k] w fun e w' => e = .returned (.int .i64 ((k + ps.length : Nat) : Int)) ∧ Mk w w' k ps := by
  rcases RowP.leaves (by simp) h with ⟨rfl, rfl⟩ | ⟨b, n, cap, m, f, rfl, hn, hr, hl, rfl, hf⟩
  · exact (markValS_nil k w).mono fun e w' ⟨h1, h2⟩ => ⟨by simpa using h1, (Mk.refl w k).below h2⟩
  · refine (markValS_any b n cap m _ f k w hr hl hn hk).mono fun e w' ⟨h1, h2, h3⟩ => ⟨?_, Mk.of_row h2 hr h3 hl (fun c _ => markV_mkV k c) hf⟩
    rw [leaves_len (fun c => ((⟨b, c, none⟩, _) : Plc))]; exact h1
theorem markColS_pl {w : World} {v : Value} {ps : List Plc} (h : ColsP w v ps) (k : Nat) (hk : k ≤ 8000000000000000000) :
    Calls Try.prog 52 #[v, .int .i64 k] w fun e w' => e = .returned (.int .i64 ((k + ps.length : Nat) : Int)) ∧ Mk w w' k ps := by
  rcases RowP.leaves (by simp) h with ⟨rfl, rfl⟩ | ⟨b, n, cap, m, f, rfl, hn, hr, hl, rfl, hf⟩
  · exact (markColS_nil k w).mono fun e w' ⟨h1, h2⟩ => ⟨by simpa using h1, (Mk.refl w k).below h2⟩
  · refine (markColS_any b n cap m _ f k w hr hl hn hk).mono fun e w' ⟨h1, h2, h3⟩ => ⟨?_, Mk.of_row h2 hr h3 hl (fun c _ => markC_mkV k c) hf⟩
    rw [leaves_len (fun c => ((⟨b, c, none⟩, _) : Plc))]; exact h1
theorem markStringS_pl {w : World} {v : Value} {ps : List Plc} (h : StrsP w v ps) (k : Nat) (hk : k ≤ 8000000000000000000) :
    Calls Try.prog 13 #[v, .int .i64 k] w fun e w' => e = .returned (.int .i64 ((k + ps.length : Nat) : Int)) ∧ Mk w w' k ps := by
  rcases RowP.leaves (by simp) h with ⟨rfl, rfl⟩ | ⟨b, n, cap, m, f, rfl, hn, hr, hl, rfl, hf⟩
  · exact (markStringS_nil k w).mono fun e w' ⟨h1, h2⟩ => ⟨by simpa using h1, (Mk.refl w k).below h2⟩
  · refine (markStringS_wide b n cap m _ f k w hr (by simpa using hl) (by omega) hk).mono fun e w' ⟨h1, h2, h3⟩ => ⟨?_, Mk.of_row h2 hr (M := n * [1].length) (g := fun i => .string (markB (k + i))) (by simpa using h3) hl (fun c _ => by simp [mkV, Nat.mod_one]) hf⟩
    rw [leaves_len (fun c => ((⟨b, c, none⟩, _) : Plc))]; simpa using h1
theorem heldValS_pl {w : World} {v : Value} {ps : List Plc} (h : ValsP w v ps) (k : Nat) (hk : k ≤ 8000000000000000000) (hm : Marked w k ps) :
    Calls Try.prog 53 #[v, .int .i64 k] w fun e w' => e = .returned (.int .i64 ((k + ps.length : Nat) : Int)) ∧ Below w.heap.size w w' := by
  rcases RowP.leaves (by simp) h with ⟨rfl, rfl⟩ | ⟨b, n, cap, m, f, rfl, hn, hr, hl, rfl, hf⟩
  · exact (heldValS_nil k w).mono fun e w' ⟨h1, h2⟩ => ⟨by simpa using h1, h2⟩
  · have hlen := leaves_len (fun c => ((⟨b, c, none⟩, [0, 0, 1].getD (c % [0, 0, 1].length) 0) : Plc)) (n * [0, 0, 1].length)
    refine (heldValS_any b n cap m _ f k w hr hl hn hk fun c hc => ?_).mono fun e w' ⟨h1, h2⟩ => ⟨by rw [hlen]; exact h1, h2⟩
    have h1 := hm c (by rw [hlen]; exact hc)
    rw [leaves_at (fun c => ((⟨b, c, none⟩, [0, 0, 1].getD (c % [0, 0, 1].length) 0) : Plc))] at h1
    rw [markV_mkV]
    exact Option.some.inj ((hr.cell (by simp at hl; omega)).symm.trans h1)
theorem heldColS_pl {w : World} {v : Value} {ps : List Plc} (h : ColsP w v ps) (k : Nat) (hk : k ≤ 8000000000000000000) (hm : Marked w k ps) :
    Calls Try.prog 54 #[v, .int .i64 k] w fun e w' => e = .returned (.int .i64 ((k + ps.length : Nat) : Int)) ∧ Below w.heap.size w w' := by
  rcases RowP.leaves (by simp) h with ⟨rfl, rfl⟩ | ⟨b, n, cap, m, f, rfl, hn, hr, hl, rfl, hf⟩
  · exact (heldColS_nil k w).mono fun e w' ⟨h1, h2⟩ => ⟨by simpa using h1, h2⟩
  · have hlen := leaves_len (fun c => ((⟨b, c, none⟩, [1, 0, 2, 2, 0, 0, 1].getD (c % [1, 0, 2, 2, 0, 0, 1].length) 0) : Plc)) (n * [1, 0, 2, 2, 0, 0, 1].length)
    refine (heldColS_any b n cap m _ f k w hr hl hn hk fun c hc => ?_).mono fun e w' ⟨h1, h2⟩ => ⟨by rw [hlen]; exact h1, h2⟩
    have h1 := hm c (by rw [hlen]; exact hc)
    rw [leaves_at (fun c => ((⟨b, c, none⟩, [1, 0, 2, 2, 0, 0, 1].getD (c % [1, 0, 2, 2, 0, 0, 1].length) 0) : Plc))] at h1
    rw [markC_mkV]
    exact Option.some.inj ((hr.cell (by simp at hl; omega)).symm.trans h1)
theorem heldStringS_pl {w : World} {v : Value} {ps : List Plc} (h : StrsP w v ps) (k : Nat) (hk : k ≤ 8000000000000000000) (hm : Marked w k ps) :
    Calls Try.prog 14 #[v, .int .i64 k] w fun e w' => e = .returned (.int .i64 ((k + ps.length : Nat) : Int)) ∧ Below w.heap.size w w' := by
  rcases RowP.leaves (by simp) h with ⟨rfl, rfl⟩ | ⟨b, n, cap, m, f, rfl, hn, hr, hl, rfl, hf⟩
  · exact (heldStringS_nil k w).mono fun e w' ⟨h1, h2⟩ => ⟨by simpa using h1, h2⟩
  · have hlen := leaves_len (fun c => ((⟨b, c, none⟩, [1].getD (c % [1].length) 0) : Plc)) (n * [1].length)
    refine (heldStringS_wide b n cap m _ f k w hr (by simpa using hl) (by omega) hk fun c hc => ?_).mono fun e w' ⟨h1, h2⟩ => ⟨by rw [hlen]; simpa using h1, h2⟩
    have h1 := hm c (by rw [hlen]; simpa using hc)
    rw [leaves_at (fun c => ((⟨b, c, none⟩, [1].getD (c % [1].length) 0) : Plc))] at h1
    have h2 := (hr.cell (i := c) (by simp at hl; omega)).symm.trans h1
    simpa [mkV, Nat.mod_one] using Option.some.inj h2
end Go.Proofs.Ytbjnonondnemhab

namespace Go.Proofs.Ytbjnonondnemhab
open Go.ChangeShapes Go.WideShapes Go.ChangeAt Go.RowKit

/-- A world grown out of another, nothing that was there turned. -/
def Grows (u w : World) : Prop := Below u.heap.size u w
theorem Grows.drawn (u : World) : Grows u { u with drawn := u.drawn + 1 } := ⟨rfl, rfl, rfl, Nat.le_refl _, fun _ _ => rfl⟩
theorem region_grown {P : Program} {id : Nat} {Q : Exit → Act → World → Prop} {a : Act} {u : World} {l : List Oper} (hm : P.follows .mixedOrders = true) (hB : Region.lexB .any l.toArray = true)
    (h : wpQuiet P l.toArray (Grows u) (fun a' => ∀ w', Grows u w' → Q .normal a' w') l a) : (Code.region id l.toArray true).wp P Q a u :=
  wp_region_quiet (C := Grows u) hm hB (Grows.drawn u) (by simpa using h)
/-- A callee that returns a value and only grows the world. -/
theorem Grows.call {P : Program} {f : FuncId} {args : Array Value} {u w : World} {v : Value} (hw : Grows u w) (h : Calls P f args w fun e w' => e = .returned v ∧ Below w.heap.size w w') : Calls P f args w fun e w' => e = .returned v ∧ Grows u w' :=
  h.mono fun _ _ ⟨h1, h2⟩ => ⟨h1, ch_trans hw h2⟩
theorem Grows.cell {u w : World} {p : Addr} {v : Value} (hw : Grows u w) (h : u.cell? p = some v) : w.cell? p = some v := cell_on h hw
end Go.Proofs.Ytbjnonondnemhab
