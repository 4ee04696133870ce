/- A region that draws its order, walked in ONE order of our choice: operations that only look are taken as soon as they may come up; a call comes up alone. -/
import Derived.Test.YtiijahoheajppaaMr
namespace Go.Proofs.Ytiijahoheajppaa
open Go.ChangeShapes Go.WideShapes Go.ChangeAt Go.RowKit

theorem Grows.refl (w : World) : Grows w w := Below.refl _ _
theorem Grows.trans {a b c : World} (h : Grows a b) (k : Grows b c) : Grows a c := ch_trans h k
/-- How worlds may follow one another. -/
structure Rel (G : World → World → Prop) : Prop where
  refl : ∀ w, G w w
  trans : ∀ {a b c}, G a b → G b c → G a c
theorem Grows.rel : Rel Grows := ⟨Grows.refl, Grows.trans⟩
theorem Below.rel (B : Nat) : Rel (Below B) := ⟨fun _ => Below.refl _ _, fun h k => Below.trans h k⟩

/-- An operation that enters no function. -/
def lightB (o : Oper) : Bool := match o.op with
  | .move .. | .assign .. | .build .. | .load .. | .binOp .. | .unOp .. | .convert .. | .makeInterface .. | .slice .. | .fieldAddr .. | .field .. | .indexAddr .. | .index .. | .lookup .. | .extract .. | .pick .. => true
  | _ => false
theorem light_calm {P : Program} {ρ : Operand → Value} {o : Oper} (h : lightB o = true) {w w' : World} {f : FuncId} {args : Array Value} : (execOp ρ o).run P w ≠ .ok (.enter f args) w' := by
  have key : ∀ (s : Sem Value), Sem.run P (do let x ← s; pure (Next.value x)) w ≠ .ok (.enter f args) w' := by
    intro s
    rw [Sem.run_bind]
    cases s.run P w <;> simp [go_sem]
  unfold lightB at h
  unfold execOp
  have key' : ∀ (s : Sem Bool) (g : Bool → Value), Sem.run P (do pure (Next.value (g (← s)))) w ≠ .ok (.enter f args) w' := by
    intro s g
    rw [Sem.run_bind]
    cases s.run P w <;> simp [go_sem]
  cases ho : o.op <;> simp only [ho] at h ⊢ <;> first | exact key _ | exact key' _ (fun b => if b = true then _ else _) | (cases h; done) | simp [go_sem]

section
variable {P : Program} {ops : Array Oper} {md : Region.Mode} {Q : Act → World → Prop}

/-- What is asked of one operation: no panic. -/
def calmUpon (P : Program) (o : Oper) (a : Act) (K : Act → World → Prop) : Result Next → Prop
  | .ok (.value v) w' => K (a.put o.dst v) w'
  | .ok .skip w' => K (a.put o.dst undef) w'
  | .ok (.enter f args) w' => Calls P f args w' fun e w'' => ∃ v, e = .returned v ∧ K (a.put o.dst v) w''
  | _ => False
def calm (P : Program) (o : Oper) (a : Act) (w : World) (K : Act → World → Prop) : Prop := calmUpon P o a K ((execOp a.eval o).run P w)
def gOp (P : Program) (ops : Array Oper) (i : Nat) (K : Act → World → Prop) (a : Act) (w : World) : Prop :=
  match ops[i]? with
  | none => K a w
  | some o => if Region.wanted o (yielded ops a.tmps) then calm P o a w K else K (a.put o.dst undef) w
theorem calm_mono {o : Oper} {a : Act} {w : World} {K K' : Act → World → Prop} (h : ∀ a w, K a w → K' a w) (hh : calm P o a w K) : calm P o a w K' := by
  unfold calm at *
  generalize (execOp a.eval o).run P w = r at *
  cases r with
  | ok n w' =>
    cases n <;> simp only [calmUpon] at hh ⊢ <;> first | exact h _ _ hh | exact Calls.mono hh (fun e w'' ⟨v, he, hk⟩ => ⟨v, he, h _ _ hk⟩)
  | halt x w' => simp only [calmUpon] at hh
theorem gOp_mono {i : Nat} {a : Act} {w : World} {K K' : Act → World → Prop} (h : ∀ a w, K a w → K' a w) (hh : gOp P ops i K a w) : gOp P ops i K' a w := by
  unfold gOp at *
  split
  · exact h _ _ (by simpa [*] using hh)
  · rename_i o ho
    simp only [ho] at hh
    split
    · rename_i hw; simp only [hw, if_true] at hh; exact calm_mono h hh
    · rename_i hw; simp only [hw] at hh; exact h _ _ hh
theorem wpOp_of_gOp {i : Nat} {a : Act} {w : World} {K K' : Act → World → Prop} {Q' : Exit → Act → World → Prop} (h : ∀ a w, K a w → K' a w) (hh : gOp P ops i K a w) : wpOp P ops Q' i K' a w := by
  unfold gOp at hh
  unfold wpOp
  split
  · rename_i ho; simp only [ho] at hh; exact h _ _ hh
  · rename_i o ho
    simp only [ho] at hh
    split
    · rename_i hw
      simp only [hw, if_true] at hh
      refine .inl ?_
      unfold calm at hh
      unfold Oper.wp
      generalize (execOp a.eval o).run P w = r at *
      cases r with
      | ok n w' =>
        cases n <;> simp only [calmUpon] at hh <;> simp only [Oper.upon] <;> first | exact h _ _ hh | exact Calls.mono hh (fun e w'' ⟨v, he, hk⟩ => by subst he; exact h _ _ hk)
      | halt x w' => simp only [calmUpon] at hh
    · rename_i hw; simp only [hw] at hh; exact h _ _ hh

/-- An operation that every other one comes ahead of. -/
def endsB (md : Region.Mode) (ops : Array Oper) (j : Nat) : Bool := match ops[j]? with
  | some o => (List.range ops.size).all fun k => k == j || o.after.any fun e => Region.binds md e && e.on == k
  | none => false
theorem ends_on {md : Region.Mode} {ops : Array Oper} {i j : Nat} {oj : Oper} (h : endsB md ops j = true) (hj : ops[j]? = some oj) (hi : i < ops.size) (hne : j ≠ i) : ∃ e ∈ oj.after, Region.binds md e = true ∧ e.on = i := by
  unfold endsB at h
  simp only [hj, List.all_eq_true, List.mem_range] at h
  have h1 := h i hi
  simp only [Bool.or_eq_true, beq_iff_eq, Array.any_eq_true'] at h1
  rcases h1 with h1 | ⟨e, he, h2⟩
  · exact absurd h1.symm hne
  · simp only [Bool.and_eq_true, beq_iff_eq] at h2
    exact ⟨e, he, h2⟩
variable {G : World → World → Prop}
/-- Whatever order is picked, every world grown out of the one before; but for the operation at the end. -/
def gAny (P : Program) (md : Region.Mode) (ops : Array Oper) (G : World → World → Prop) (Q : Act → World → Prop) : Nat → Array Bool → Act → World → Prop
  | 0, listed, a, w => Region.ready md ops listed = [] ∧ Q a w
  | fuel + 1, listed, a, w => (Region.ready md ops listed = [] → Q a w) ∧
    ∀ i ∈ Region.ready md ops listed, gOp P ops i (fun a' w' => (endsB md ops i = true ∨ G w w') ∧ gAny P md ops G Q fuel (listed.setIfInBounds i true) a' w') a w
theorem wpAny_of_gAny {Q' : Exit → Act → World → Prop} (hQ : ∀ a w, Q a w → Q' .normal a w) : ∀ (fuel : Nat) (listed : Array Bool) (a : Act) (w : World), gAny P md ops G Q fuel listed a w → wpAny P md ops Q' fuel listed a w
  | 0, _, _, _, h => ⟨h.1, hQ _ _ h.2⟩
  | fuel + 1, _, _, _, h => ⟨fun h0 => hQ _ _ (h.1 h0), fun i hi => wpOp_of_gOp (fun a' w' h' => wpAny_of_gAny hQ fuel _ a' w' h'.2) (h.2 i hi)⟩

/-- In every world grown out of 'u' the operation leaves 'v', and the world as it is. -/
def Looks (P : Program) (ops : Array Oper) (G : World → World → Prop) (u : World) (o : Oper) (v : Value) (a : Act) : Prop :=
  (Region.wanted o (yielded ops a.tmps) = true ∧ ∀ w, G u w → ((execOp a.eval o).run P w = .ok (.value v) w ∨ ((execOp a.eval o).run P w = .ok .skip w ∧ v = undef))) ∨
  (Region.wanted o (yielded ops a.tmps) = false ∧ v = undef)
theorem Looks.on (hG : Rel G) {u u' : World} {o : Oper} {v : Value} {a : Act} (h : Looks P ops G u o v a) (k : G u u') : Looks P ops G u' o v a :=
  h.imp (fun h => ⟨h.1, fun w hw => h.2 w (hG.trans k hw)⟩) id
theorem Looks.gOp (hG : Rel G) {i : Nat} {o : Oper} {v : Value} {a : Act} {w : World} (hi : ops[i]? = some o) (hy : Looks P ops G w o v a) {K : Act → World → Prop} (h : K (a.put o.dst v) w) : gOp P ops i K a w := by
  unfold Go.Proofs.Ytiijahoheajppaa.gOp
  simp only [hi]
  rcases hy with ⟨hw, hv⟩ | ⟨hw, rfl⟩
  · simp only [hw, if_true, calm]
    rcases hv w (hG.refl w) with hx | ⟨hx, rfl⟩ <;> rw [hx] <;> exact h
  · simp only [hw, Bool.false_eq_true, if_false]; exact h
theorem Looks.of_same {u : World} {o : Oper} {v : Value} {a a' : Act} (hy : Looks P ops G u o v a) (he : execOp a'.eval o = execOp a.eval o)
    (hw : Region.wanted o (yielded ops a'.tmps) = Region.wanted o (yielded ops a.tmps)) : Looks P ops G u o v a' := by
  unfold Looks at *
  rw [he, hw]
  exact hy
theorem gOp_put {u : World} {j : Nat} {oi oj : Oper} {v : Value} (hj : ops[j]? = some oj) (hap : oi.apart ops oj = true)
    (hsi : ∀ cs b, oi.op ≠ .select cs b) (hsj : ∀ cs b, oj.op ≠ .select cs b) {K : Act → World → Prop} {a : Act} {w : World}
    (hy : Looks P ops G u oi v a) (h : gOp P ops j K (a.put oi.dst v) w) : gOp P ops j (fun a' w' => Looks P ops G u oi v a' ∧ K (a'.put oi.dst v) w') a w := by
  obtain ⟨h1, h2, h3⟩ := Oper.apart_spec hap
  have keep : ∀ (a : Act), Looks P ops G u oi v a → ∀ x, Looks P ops G u oi v (a.put oj.dst x) := fun a hy x =>
    hy.of_same (execOp_put oi hsi a oj.dst x h3) (wanted_put oi a oj.dst x h3)
  unfold gOp at *
  simp only [hj] at *
  rw [wanted_put oj a oi.dst v h1] at h
  split
  · rename_i hw
    simp only [hw, if_true] at h
    unfold calm at *
    rw [execOp_put oj hsj a oi.dst v h1] at h
    generalize (execOp a.eval oj).run P w = r at *
    cases r with
    | ok n w' =>
      cases n <;> simp only [calmUpon] at h ⊢
      case value x => exact ⟨keep a hy x, by rw [← Act.put_comm a v x h2]; exact h⟩
      case skip => exact ⟨keep a hy _, by rw [← Act.put_comm a v undef h2]; exact h⟩
      case enter f args =>
        exact Calls.mono h fun e w'' ⟨x, he, hk⟩ => ⟨x, he, keep a hy x, by rw [← Act.put_comm a v x h2]; exact hk⟩
    | halt x w' => simp only [calmUpon] at h
  · rename_i hw
    simp only [hw] at h
    exact ⟨keep a hy _, by rw [← Act.put_comm a v undef h2]; exact h⟩
/-- An operation that only looks may be taken first. -/
theorem gAny_first (hG : Rel G) {i : Nat} {oi : Oper} {v : Value} (hi : ops[i]? = some oi) (hsel : ∀ (j : Nat) (o : Oper) cs b, ops[j]? = some o → o.op ≠ .select cs b) :
    ∀ (fuel : Nat) (listed : Array Bool) (a : Act) (w : World),
      (∀ j oj, ops[j]? = some oj → j ≠ i → listed.getD j true = false → (∀ e ∈ oj.after, Region.binds md e = true → e.on ≠ i) → oi.apart ops oj = true) →
      i ∈ Region.ready md ops listed → Looks P ops G w oi v a →
      gAny P md ops G Q fuel (listed.setIfInBounds i true) (a.put oi.dst v) w → gAny P md ops G Q (fuel + 1) listed a w := by
  intro fuel
  induction fuel with
  | zero =>
    intro listed a w _ hr hy H
    refine ⟨fun h => (by rw [h] at hr; cases hr), fun j hj => ?_⟩
    by_cases hji : j = i
    · subst hji; exact hy.gOp hG hi ⟨Or.inr (hG.refl w), H⟩
    · have := ready_mono hj hji
      rw [H.1] at this
      cases this
  | succ fuel ih =>
    intro listed a w hfree hr hy H
    refine ⟨fun h => (by rw [h] at hr; cases hr), fun j hj => ?_⟩
    by_cases hji : j = i
    · subst hji; exact hy.gOp hG hi ⟨Or.inr (hG.refl w), H⟩
    · have h1 := H.2 j (ready_mono hj hji)
      obtain ⟨hjun, oj, hoj, hall⟩ := mem_ready.1 hj
      have hnot : ∀ e ∈ oj.after, Region.binds md e = true → e.on ≠ i := fun e he hb heq => by
        have h1 := hall e he hb
        have h0 := (mem_ready.1 hr).1
        rw [heq] at h1
        rcases Nat.lt_or_ge i listed.size with h' | h'
        · simp [h'] at h0 h1; rw [h0] at h1; cases h1
        · simp [Array.getElem?_eq_none h'] at h1
      have h2 := gOp_put hoj (hfree j oj hoj hji hjun hnot) (fun cs b => hsel i oi cs b hi) (fun cs b => hsel j oj cs b hoj) hy h1
      have hfree' : ∀ k ok, ops[k]? = some ok → k ≠ i → (listed.setIfInBounds j true).getD k true = false →
          (∀ e ∈ ok.after, Region.binds md e = true → e.on ≠ i) → oi.apart ops ok = true := fun k ok hk hki hun hno => by
        refine hfree k ok hk hki ?_ hno
        by_cases hjk : j = k
        · subst hjk; exact hjun
        · rw [getD_set_ne true hjk] at hun; exact hun
      have hlt : i < ops.size := (Array.getElem?_eq_some_iff.1 hi).1
      refine gOp_mono (fun a' w' h3 => ?_) h2
      have hg : G w w' := by
        rcases h3.2.1 with hE | hg
        · obtain ⟨e, he, hb, heq⟩ := ends_on hE hoj hlt hji
          exact absurd heq (hnot e he hb)
        · exact hg
      refine ⟨Or.inr hg, ih (listed.setIfInBounds j true) a' w' hfree' (ready_mono hr (Ne.symm hji)) (h3.1.on hG hg) ?_⟩
      rw [Array.setIfInBounds_comm _ _ hji]
      exact h3.2.2

/-- The operations of some numbers. -/
def pick (ops : Array Oper) : List Nat → List Oper
  | [] => []
  | i :: r => match ops[i]? with
    | some o => o :: pick ops r
    | none => pick ops r
/-- The numbers are of operations that only look, each may come up, and is apart from what has not. -/
def lightsB (md : Region.Mode) (ops : Array Oper) : List Nat → Array Bool → Bool
  | [], _ => true
  | i :: r, listed => (match ops[i]? with | some o => lightB o | none => false) && (Region.ready md ops listed).contains i && Region.free md ops listed i && lightsB md ops r (listed.setIfInBounds i true)
def after' : List Nat → Array Bool → Array Bool
  | [], listed => listed
  | i :: r, listed => after' r (listed.setIfInBounds i true)
theorem looks_of_quiet {i : Nat} {o : Oper} {a : Act} {w : World} {K : Act → Prop} (hl : lightB o = true) (hi : ops[i]? = some o) (h : qOp P ops (G w) i K a) : ∃ v, Looks P ops G w o v a ∧ K (a.put o.dst v) := by
  obtain ⟨v, hy, hk⟩ := yieldsIn_of_qOp hi h
  refine ⟨v, ?_, hk⟩
  rcases hy with ⟨hw, hv⟩ | hy
  · refine .inl ⟨hw, fun w' hw' => ?_⟩
    have h1 := hv w' hw'
    unfold Oper.quietAt at h1
    cases hr : (execOp a.eval o).run P w' with
    | ok n w'' =>
      rw [hr] at h1
      cases n <;> simp only [Oper.quietUpon] at h1
      case value u => obtain ⟨rfl, rfl⟩ := h1; exact .inl rfl
      case skip => obtain ⟨rfl, rfl⟩ := h1; exact .inr ⟨rfl, rfl⟩
      case enter f args => exact absurd hr (light_calm hl)
    | halt x w'' => rw [hr] at h1; simp only [Oper.quietUpon] at h1
  · exact .inr hy
theorem gAny_lights (hG : Rel G) {R : Act → Prop} {w : World} (hs : Region.noSelect ops = true) (fuel : Nat) : ∀ (l : List Nat) (listed : Array Bool) (a : Act), lightsB md ops l listed = true →
    wpQuiet P ops (G w) R (pick ops l) a → (∀ a', R a' → gAny P md ops G Q fuel (after' l listed) a' w) → gAny P md ops G Q (fuel + l.length) listed a w
  | [], _, _, _, h, k => k _ h
  | i :: r, listed, a, hB, h, k => by
    simp only [lightsB, Bool.and_eq_true] at hB
    obtain ⟨⟨⟨hl, hr⟩, hf⟩, hB⟩ := hB
    cases hi : ops[i]? with
    | none => simp [hi] at hl
    | some o =>
      simp only [hi] at hl
      simp only [pick, hi] at h
      have hq : qOp P ops (G w) i (wpQuiet P ops (G w) R (pick ops r)) a := by unfold qOp; simp only [hi]; exact h
      obtain ⟨v, hy, hK⟩ := looks_of_quiet hl hi hq
      exact gAny_first hG hi (Region.noSelect_spec hs) (fuel + r.length) listed a w (Region.free_spec hi hf) (by simpa using hr) hy (gAny_lights hG hs fuel r _ _ hB hK k)

/-- The walk: looks, then a call, and so on. -/
def wpPlan (P : Program) (ops : Array Oper) (Q : Act → World → Prop) : List (List Nat × Nat) → List Nat → Act → World → Prop
  | [], last, a, w => wpQuiet P ops (Grows w) (fun a' => Q a' w) (pick ops last) a
  | (l, h) :: r, last, a, w => wpQuiet P ops (Grows w) (fun a' => gOp P ops h (fun a'' w'' => Grows w w'' ∧ wpPlan P ops Q r last a'' w'') a' w) (pick ops l) a
def planB (md : Region.Mode) (ops : Array Oper) : List (List Nat × Nat) → List Nat → Array Bool → Bool
  | [], last, listed => lightsB md ops last listed && (Region.ready md ops (after' last listed)).isEmpty
  | (l, h) :: r, last, listed => lightsB md ops l listed && (Region.ready md ops (after' l listed) == [h]) && planB md ops r last ((after' l listed).setIfInBounds h true)
def planLen : List (List Nat × Nat) → List Nat → Nat
  | [], last => last.length
  | (l, _) :: r, last => planLen r last + 1 + l.length
theorem gAny_more {G : World → World → Prop} {w : World} {a : Act} {listed : Array Bool} (h : Region.ready md ops listed = []) (hq : Q a w) : ∀ n, gAny P md ops G Q n listed a w
  | 0 => ⟨h, hq⟩
  | n + 1 => ⟨fun _ => hq, fun i hi => by rw [h] at hi; cases hi⟩
theorem gAny_plan (hs : Region.noSelect ops = true) (n : Nat) : ∀ (pl : List (List Nat × Nat)) (last : List Nat) (listed : Array Bool) (a : Act) (w : World), planB md ops pl last listed = true →
    wpPlan P ops Q pl last a w → gAny P md ops Grows Q (n + planLen pl last) listed a w
  | [], last, listed, a, w, hB, h => by
    simp only [planB, Bool.and_eq_true, List.isEmpty_iff] at hB
    exact gAny_lights Grows.rel hs n last listed a hB.1 h fun a' hq => gAny_more hB.2 hq n
  | (l, x) :: r, last, listed, a, w, hB, h => by
    simp only [planB, Bool.and_eq_true, beq_iff_eq] at hB
    obtain ⟨⟨hl, hr⟩, hB⟩ := hB
    have : n + planLen ((l, x) :: r) last = (n + planLen r last + 1) + l.length := by simp only [planLen]; omega
    rw [this]
    refine gAny_lights Grows.rel hs _ l listed a hl h fun a' hq => ⟨fun h0 => (by rw [hr] at h0; cases h0), fun i hi => ?_⟩
    rw [hr] at hi
    have hi : i = x := by simpa using hi
    subst hi
    exact gOp_mono (fun a'' w'' hh => ⟨Or.inr hh.1, gAny_plan hs n r last _ a'' w'' hB hh.2⟩) hq
def regionB (ops : Array Oper) (pl : List (List Nat × Nat)) (last : List Nat) : Bool := Region.noSelect ops && planB .any ops pl last (Array.replicate ops.size false) && decide (planLen pl last ≤ ops.size)
theorem region_plan {id : Nat} {Q : Exit → Act → World → Prop} {a : Act} {w : World} {l : List Oper} (pl : List (List Nat × Nat)) (last : List Nat) (hm : P.follows .mixedOrders = true) (hB : regionB l.toArray pl last = true)
    (h : wpPlan P l.toArray (Q .normal) pl last a { w with drawn := w.drawn + 1 }) : (Code.region id l.toArray true).wp P Q a w := by
  simp only [regionB, Bool.and_eq_true, decide_eq_true_eq] at hB
  obtain ⟨⟨hs, hB⟩, hn⟩ := hB
  refine wp_region_any hm (wpAny_of_gAny (G := Grows) (Q := Q .normal) (fun _ _ h => h) _ _ _ _ ?_)
  have := gAny_plan (P := P) (Q := Q .normal) hs (l.toArray.size - planLen pl last) pl last (Array.replicate l.toArray.size false) a _ hB h
  rwa [Nat.sub_add_cancel hn] at this
/-- A plan whose last operation may turn what was there: a store. -/
def planX (md : Region.Mode) (ops : Array Oper) (x : Nat) : List (List Nat × Nat) → List Nat → Array Bool → Bool
  | [], last, listed => lightsB md ops last listed && (Region.ready md ops (after' last listed) == [x]) && (Region.ready md ops ((after' last listed).setIfInBounds x true)).isEmpty
  | (l, h) :: r, last, listed => lightsB md ops l listed && (Region.ready md ops (after' l listed) == [h]) && planX md ops x r last ((after' l listed).setIfInBounds h true)
theorem gAny_planX {x : Nat} (hE : endsB md ops x = true) (hs : Region.noSelect ops = true) (n : Nat) : ∀ (pl : List (List Nat × Nat)) (last : List Nat) (listed : Array Bool) (a : Act) (w : World), planX md ops x pl last listed = true →
    wpPlan P ops (fun a' w' => gOp P ops x Q a' w') pl last a w → gAny P md ops Grows Q (n + 1 + planLen pl last) listed a w
  | [], last, listed, a, w, hB, h => by
    simp only [planX, Bool.and_eq_true, List.isEmpty_iff, beq_iff_eq] at hB
    obtain ⟨⟨hl, hr⟩, h0⟩ := hB
    refine gAny_lights Grows.rel hs (n + 1) last listed a hl h fun a' hq => ⟨fun h1 => (by rw [hr] at h1; cases h1), fun i hi => ?_⟩
    rw [hr] at hi
    have hi : i = x := by simpa using hi
    subst hi
    exact gOp_mono (fun a'' w'' hh => ⟨Or.inl hE, gAny_more h0 hh n⟩) hq
  | (l, y) :: r, last, listed, a, w, hB, h => by
    simp only [planX, Bool.and_eq_true, beq_iff_eq] at hB
    obtain ⟨⟨hl, hr⟩, hB⟩ := hB
    have : n + 1 + planLen ((l, y) :: r) last = (n + 1 + planLen r last + 1) + l.length := by simp only [planLen]; omega
    rw [this]
    refine gAny_lights Grows.rel hs _ l listed a hl h fun a' hq => ⟨fun h0 => (by rw [hr] at h0; cases h0), fun i hi => ?_⟩
    rw [hr] at hi
    have hi : i = y := by simpa using hi
    subst hi
    exact gOp_mono (fun a'' w'' hh => ⟨Or.inr hh.1, gAny_planX hE hs n r last _ a'' w'' hB hh.2⟩) hq
def regionX (ops : Array Oper) (pl : List (List Nat × Nat)) (last : List Nat) (x : Nat) : Bool := endsB .any ops x && Region.noSelect ops && planX .any ops x pl last (Array.replicate ops.size false) && decide (1 + planLen pl last ≤ ops.size)
theorem region_store {id : Nat} {Q : Exit → Act → World → Prop} {a : Act} {w : World} {l : List Oper} (pl : List (List Nat × Nat)) (last : List Nat) (x : Nat) (hm : P.follows .mixedOrders = true) (hB : regionX l.toArray pl last x = true)
    (h : wpPlan P l.toArray (fun a' w' => gOp P l.toArray x (Q .normal) a' w') pl last a { w with drawn := w.drawn + 1 }) : (Code.region id l.toArray true).wp P Q a w := by
  simp only [regionX, Bool.and_eq_true, decide_eq_true_eq] at hB
  obtain ⟨⟨⟨hE, hs⟩, hB⟩, hn⟩ := hB
  refine wp_region_any hm (wpAny_of_gAny (G := Grows) (Q := Q .normal) (fun _ _ h => h) _ _ _ _ ?_)
  have := gAny_planX (P := P) (Q := Q .normal) hE hs (l.toArray.size - (1 + planLen pl last)) pl last (Array.replicate l.toArray.size false) a _ hB h
  rwa [show l.toArray.size - (1 + planLen pl last) + 1 + planLen pl last = l.toArray.size by omega] at this
/-- One step of a walk over all orders: looks, then whatever may come up. -/
theorem gAny_fork {G : World → World → Prop} (hG : Rel G) (hs : Region.noSelect ops = true) {fuel : Nat} {listed : Array Bool} {a : Act} {w : World} (l : List Nat) (R : List Nat) {L : List Oper} (hL : pick ops l = L) (hl : lightsB md ops l listed = true) (hr : Region.ready md ops (after' l listed) = R) (hne : R.isEmpty = false)
    (h : wpQuiet P ops (G w) (fun a' => ∀ i ∈ R, gOp P ops i (fun a'' w'' => G w w'' ∧ gAny P md ops G Q fuel ((after' l listed).setIfInBounds i true) a'' w'') a' w) L a) : gAny P md ops G Q (fuel + 1 + l.length) listed a w := by
  subst hL
  refine gAny_lights hG hs (fuel + 1) l listed a hl h fun a' hq => ⟨fun h0 => (by rw [hr] at h0; subst h0; cases hne), fun i hi => ?_⟩
  rw [hr] at hi
  exact gOp_mono (fun a'' w'' hh => ⟨Or.inr hh.1, hh.2⟩) (hq i hi)
/-- The end of such a walk: looks, then an operation that may turn what was there. -/
theorem gAny_stop {G : World → World → Prop} (hG : Rel G) (hs : Region.noSelect ops = true) {listed : Array Bool} {a : Act} {w : World} (l : List Nat) (x : Nat) {L : List Oper} (hL : pick ops l = L) (hE : endsB md ops x = true) (hl : lightsB md ops l listed = true) (hr : Region.ready md ops (after' l listed) = [x]) (h0 : Region.ready md ops ((after' l listed).setIfInBounds x true) = [])
    (h : wpQuiet P ops (G w) (fun a' => gOp P ops x Q a' w) L a) : gAny P md ops G Q (0 + 1 + l.length) listed a w := by
  subst hL
  refine gAny_lights hG hs (0 + 1) l listed a hl h fun a' hq => ⟨fun h1 => (by rw [hr] at h1; cases h1), fun i hi => ?_⟩
  rw [hr] at hi
  have hi : i = x := by simpa using hi
  subst hi
  exact gOp_mono (fun a'' w'' hh => ⟨Or.inl hE, gAny_more h0 hh 0⟩) hq
theorem region_fork {id : Nat} {Q : Exit → Act → World → Prop} {a : Act} {w : World} {l : List Oper} (G : World → World → Prop) (n : Nat) (hm : P.follows .mixedOrders = true) (hn : l.length = n)
    (h : gAny P .any l.toArray G (Q .normal) n (Array.replicate n false) a { w with drawn := w.drawn + 1 }) : (Code.region id l.toArray true).wp P Q a w := by
  subst hn
  refine wp_region_any hm (wpAny_of_gAny (G := G) (Q := Q .normal) (fun _ _ h => h) _ _ _ _ ?_)
  simpa using h
/-- The call that comes up. -/
theorem plan_call {i : Nat} {o : Oper} {a : Act} {w : World} {K : Act → World → Prop} (ho : ops[i]? = some o) (hw : Region.wanted o (yielded ops a.tmps) = true)
    (h : ∀ K' : Act → World → Prop, (∀ a' w', K a' w' → K' a' w') → calm P o a w K') : gOp P ops i K a w := by
  unfold gOp; simp only [ho, hw, if_true]; exact h K fun _ _ h => h
theorem plan_skip {i : Nat} {o : Oper} {a : Act} {w : World} {K : Act → World → Prop} (ho : ops[i]? = some o) (hw : Region.wanted o (yielded ops a.tmps) = false)
    (h : ∀ K' : Act → World → Prop, (∀ a' w', K a' w' → K' a' w') → K' (a.put o.dst undef) w) : gOp P ops i K a w := by
  unfold gOp; simp only [ho, hw, Bool.false_eq_true, if_false]; exact h K fun _ _ h => h
theorem plan_on {l : List Nat} {L : List Oper} {i : Nat} {r : List (List Nat × Nat)} {last : List Nat} {a : Act} {w : World} (hL : pick ops l = L)
    (h : wpQuiet P ops (Grows w) (fun a' => gOp P ops i (fun a'' w'' => Grows w w'' ∧ wpPlan P ops Q r last a'' w'') a' w) L a) : wpPlan P ops Q ((l, i) :: r) last a w := by
  subst hL; exact h
theorem plan_end {l : List Nat} {L : List Oper} {a : Act} {w : World} (hL : pick ops l = L) (h : wpQuiet P ops (Grows w) (fun a' => Q a' w) L a) : wpPlan P ops Q [] l a w := by
  subst hL; exact h
end
attribute [go_sem] calm calmUpon
end Go.Proofs.Ytiijahoheajppaa
