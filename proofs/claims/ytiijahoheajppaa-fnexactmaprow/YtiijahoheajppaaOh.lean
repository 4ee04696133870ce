/- A drawn region walked in one order, where the worlds may follow one another by any relation (Ord has it for grown worlds alone). A drawn region walked in one order whose last operation is a store: by any relation of worlds. -/
import Derived.Test.YtiijahoheajppaaOrd
import Derived.Test.YtiijahoheajppaaFl
namespace Go.Proofs.Ytiijahoheajppaa
open Go.ChangeShapes Go.WideShapes Go.ChangeAt Go.RowKit
section
variable {P : Program} {ops : Array Oper} {md : Region.Mode} {Q : Act → World → Prop} {G : World → World → Prop}
def wpPlanG (P : Program) (ops : Array Oper) (G : World → World → Prop) (Q : Act → World → Prop) : List (List Nat × Nat) → List Nat → Act → World → Prop
  | [], last, a, w => wpQuiet P ops (G w) (fun a' => Q a' w) (pick ops last) a
  | (l, h) :: r, last, a, w => wpQuiet P ops (G w) (fun a' => gOp P ops h (fun a'' w'' => G w w'' ∧ wpPlanG P ops G Q r last a'' w'') a' w) (pick ops l) a
theorem gAny_planG (hG : Rel G) (hs : Region.noSelect ops = true) (n : Nat) : ∀ (pl : List (List Nat × Nat)) (last : List Nat) (listed : Array Bool) (a : Act) (w : World), planB md ops pl last listed = true →
    wpPlanG P ops G Q pl last a w → gAny P md ops G Q (n + planLen pl last) listed a w
  | [], last, listed, a, w, hB, h => by
    simp only [planB, Bool.and_eq_true, List.isEmpty_iff] at hB
    exact gAny_lights hG hs n last listed a hB.1 h fun a' hq => gAny_more hB.2 hq n
  | (l, x) :: r, last, listed, a, w, hB, h => by
    simp only [planB, Bool.and_eq_true, beq_iff_eq] at hB
    obtain ⟨⟨hl, hr⟩, hB⟩ := hB
    have : n + planLen ((l, x) :: r) last = (n + planLen r last + 1) + l.length := by simp only [planLen]; omega
    rw [this]
    refine gAny_lights hG hs _ l listed a hl h fun a' hq => ⟨fun h0 => (by rw [hr] at h0; cases h0), fun i hi => ?_⟩
    rw [hr] at hi
    have hi : i = x := by simpa using hi
    subst hi
    exact gOp_mono (fun a'' w'' hh => ⟨Or.inr hh.1, gAny_planG hG hs n r last _ a'' w'' hB hh.2⟩) hq
theorem region_planG {id : Nat} {Q : Exit → Act → World → Prop} {a : Act} {w : World} {l : List Oper} (G : World → World → Prop) (hG : Rel G) (pl : List (List Nat × Nat)) (last : List Nat) (hm : P.follows .mixedOrders = true) (hB : regionB l.toArray pl last = true)
    (h : wpPlanG P l.toArray G (Q .normal) pl last a { w with drawn := w.drawn + 1 }) : (Code.region id l.toArray true).wp P Q a w := by
  simp only [regionB, Bool.and_eq_true, decide_eq_true_eq] at hB
  obtain ⟨⟨hs, hB⟩, hn⟩ := hB
  refine wp_region_any hm (wpAny_of_gAny (G := G) (Q := Q .normal) (fun _ _ h => h) _ _ _ _ ?_)
  have := gAny_planG (P := P) (Q := Q .normal) hG hs (l.toArray.size - planLen pl last) pl last (Array.replicate l.toArray.size false) a _ hB h
  rwa [Nat.sub_add_cancel hn] at this
theorem planG_on {l : List Nat} {L : List Oper} {i : Nat} {r : List (List Nat × Nat)} {last : List Nat} {a : Act} {w : World} (hL : pick ops l = L)
    (h : wpQuiet P ops (G w) (fun a' => gOp P ops i (fun a'' w'' => G w w'' ∧ wpPlanG P ops G Q r last a'' w'') a' w) L a) : wpPlanG P ops G Q ((l, i) :: r) last a w := by
  subst hL; exact h
theorem planG_end {l : List Nat} {L : List Oper} {a : Act} {w : World} (hL : pick ops l = L) (h : wpQuiet P ops (G w) (fun a' => Q a' w) L a) : wpPlanG P ops G Q [] l a w := by
  subst hL; exact h
end
end Go.Proofs.Ytiijahoheajppaa

namespace Go.Proofs.Ytiijahoheajppaa
open Go.ChangeShapes Go.WideShapes Go.ChangeAt Go.RowKit
theorem Turns.rel (S : Nat → Prop) : Rel (Turns S) := ⟨fun w => Turns.refl S w, fun h k => h.trans k⟩
section
variable {P : Program} {ops : Array Oper} {md : Region.Mode} {Q : Act → World → Prop} {G : World → World → Prop}
theorem gAny_planXG (hG : Rel G) {x : Nat} (hE : endsB md ops x = true) (hs : Region.noSelect ops = true) (n : Nat) : ∀ (pl : List (List Nat × Nat)) (last : List Nat) (listed : Array Bool) (a : Act) (w : World), planX md ops x pl last listed = true →
    wpPlanG P ops G (fun a' w' => gOp P ops x Q a' w') pl last a w → gAny P md ops G Q (n + 1 + planLen pl last) listed a w
  | [], last, listed, a, w, hB, h => by
    simp only [planX, Bool.and_eq_true, List.isEmpty_iff, beq_iff_eq] at hB
    obtain ⟨⟨hl, hr⟩, h0⟩ := hB
    refine gAny_lights hG hs (n + 1) last listed a hl h fun a' hq => ⟨fun h1 => (by rw [hr] at h1; cases h1), fun i hi => ?_⟩
    rw [hr] at hi
    have hi : i = x := by simpa using hi
    subst hi
    exact gOp_mono (fun a'' w'' hh => ⟨Or.inl hE, gAny_more h0 hh n⟩) hq
  | (l, y) :: r, last, listed, a, w, hB, h => by
    simp only [planX, Bool.and_eq_true, beq_iff_eq] at hB
    obtain ⟨⟨hl, hr⟩, hB⟩ := hB
    have : n + 1 + planLen ((l, y) :: r) last = (n + 1 + planLen r last + 1) + l.length := by simp only [planLen]; omega
    rw [this]
    refine gAny_lights hG hs _ l listed a hl h fun a' hq => ⟨fun h0 => (by rw [hr] at h0; cases h0), fun i hi => ?_⟩
    rw [hr] at hi
    have hi : i = y := by simpa using hi
    subst hi
    exact gOp_mono (fun a'' w'' hh => ⟨Or.inr hh.1, gAny_planXG hG hE hs n r last _ a'' w'' hB hh.2⟩) hq
theorem region_storeG {id : Nat} {Q : Exit → Act → World → Prop} {a : Act} {w : World} {l : List Oper} (G : World → World → Prop) (hG : Rel G) (pl : List (List Nat × Nat)) (last : List Nat) (x : Nat) (hm : P.follows .mixedOrders = true) (hB : regionX l.toArray pl last x = true)
    (h : wpPlanG P l.toArray G (fun a' w' => gOp P l.toArray x (Q .normal) a' w') pl last a { w with drawn := w.drawn + 1 }) : (Code.region id l.toArray true).wp P Q a w := by
  simp only [regionX, Bool.and_eq_true, decide_eq_true_eq] at hB
  obtain ⟨⟨⟨hE, hs⟩, hB⟩, hn⟩ := hB
  refine wp_region_any hm (wpAny_of_gAny (G := G) (Q := Q .normal) (fun _ _ h => h) _ _ _ _ ?_)
  have := gAny_planXG (P := P) (Q := Q .normal) hG hE hs (l.toArray.size - (1 + planLen pl last)) pl last (Array.replicate l.toArray.size false) a _ hB h
  rwa [show l.toArray.size - (1 + planLen pl last) + 1 + planLen pl last = l.toArray.size by omega] at this
end
end Go.Proofs.Ytiijahoheajppaa
