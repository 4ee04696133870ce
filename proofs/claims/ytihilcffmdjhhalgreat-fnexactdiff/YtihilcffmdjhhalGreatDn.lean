/- Names in rising order: such a list is told by its members alone. spec.l04Name: a name put into a rising list. -/
import Derived.Test.YtihilcffmdjhhalGreatPa
import Derived.Lib.SlicesCompact
import Derived.Test.YtihilcffmdjhhalGreatCn
namespace Go.Proofs.YtihilcffmdjhhalGreat

theorem less_flip : ∀ x y : List UInt8, x ≠ y → Op.bytesLess x y = false → Op.bytesLess y x = true
  | [], [], h, _ => absurd rfl h
  | [], _ :: _, _, h => by simp [Op.bytesLess] at h
  | _ :: _, [], _, _ => by simp [Op.bytesLess]
  | a :: x, b :: y, h, k => by
    simp only [Op.bytesLess, Bool.or_eq_false_iff, Bool.and_eq_false_iff, decide_eq_false_iff_not, beq_eq_false_iff_ne, Bool.or_eq_true, Bool.and_eq_true, decide_eq_true_eq, beq_iff_eq] at k ⊢
    obtain ⟨k1, k2⟩ := k
    by_cases e : a = b
    · subst e
      refine Or.inr ⟨rfl, less_flip x y (fun e => h (by rw [e])) ?_⟩
      rcases k2 with k2 | k2
      · exact absurd rfl k2
      · exact k2
    · refine Or.inl ?_
      rcases UInt8.lt_or_lt_of_ne e with h1 | h1
      · exact absurd h1 k1
      · exact h1
theorem lt_less : ∀ x y : List UInt8, x < y → Op.bytesLess x y = true
  | _, [], h => by cases h
  | [], _ :: _, _ => by simp [Op.bytesLess]
  | a :: x, b :: y, h => by
    rw [List.cons_lt_cons_iff] at h
    simp only [Op.bytesLess, Bool.or_eq_true, Bool.and_eq_true, decide_eq_true_eq, beq_iff_eq]
    rcases h with h | ⟨e, h⟩
    · exact Or.inl h
    · exact Or.inr ⟨e, lt_less x y h⟩
/-- Names that rise. -/
def rising (l : List ByteArray) : Prop := l.Pairwise fun x y => lessB' x y = true
theorem lessB_irrefl (x : ByteArray) : lessB' x x = false := less_irrefl _
theorem lessB_trans {x y z : ByteArray} (h : lessB' x y = true) (k : lessB' y z = true) : lessB' x z = true := less_trans _ _ _ h k
theorem lessB_flip {x y : ByteArray} (h : x ≠ y) (k : lessB' x y = false) : lessB' y x = true :=
  less_flip _ _ (fun e => h (Go.WideShapes.bytes_inj (by rwa [ByteArray.toList_eq, ByteArray.toList_eq] at e))) k
theorem rising_unique : ∀ {l m : List ByteArray}, rising l → rising m → (∀ x, x ∈ l ↔ x ∈ m) → l = m
  | [], [], _, _, _ => rfl
  | [], y :: m, _, _, h => by have := (h y).2 (by simp); simp at this
  | x :: l, [], _, _, h => by have := (h x).1 (by simp); simp at this
  | x :: l, y :: m, hl, hm, h => by
    have hl' := List.pairwise_cons.1 hl
    have hm' := List.pairwise_cons.1 hm
    have e : x = y := by
      rcases List.mem_cons.1 ((h x).1 (by simp)) with e | hx
      · exact e
      · rcases List.mem_cons.1 ((h y).2 (by simp)) with e | hy
        · exact e.symm
        · have := lessB_trans (hl'.1 y hy) (hm'.1 x hx)
          rw [lessB_irrefl] at this; cases this
    subst e
    have : l = m := rising_unique hl'.2 hm'.2 fun z => by
      have hz := h z
      simp only [List.mem_cons] at hz
      constructor
      · intro h1
        rcases hz.1 (Or.inr h1) with e | h'
        · subst e; have := hl'.1 _ h1; rw [lessB_irrefl] at this; cases this
        · exact h'
      · intro h1
        rcases hz.2 (Or.inr h1) with e | h'
        · subst e; have := hm'.1 _ h1; rw [lessB_irrefl] at this; cases this
        · exact h'
    rw [this]
theorem rising_nil : rising [] := List.Pairwise.nil
theorem rising_snoc {l : List ByteArray} {s : ByteArray} (h : rising l) (k : ∀ x ∈ l, lessB' x s = true) : rising (l ++ [s]) := by
  unfold rising
  rw [List.pairwise_append]
  exact ⟨h, by simp, fun x hx y hy => by simp at hy; subst hy; exact k x hx⟩

/-- How far l04Name has come: k names of l are in o, and s too where d. -/
structure Nam (l : List ByteArray) (s : ByteArray) (k : Nat) (d : Bool) (o : List ByteArray) : Prop where
  rise : rising o
  mem : ∀ x, x ∈ o ↔ x ∈ l.take k ∨ (d = true ∧ x = s)
  no : ∀ x ∈ l.take k, x ≠ s
  low : d = false → ∀ x ∈ o, lessB' x s = true
  top : ∀ x ∈ o, ∀ y ∈ l.drop k, lessB' x y = true ∨ (x = s ∧ d = true ∧ lessB' s y = true)
  len : o.length ≤ k + d.toNat
theorem Nam.start (l : List ByteArray) (s : ByteArray) : Nam l s 0 false [] := ⟨rising_nil, by simp, by simp, by simp, by simp, by simp⟩
theorem take_one {l : List ByteArray} {k : Nat} (hk : k < l.length) : l.take (k + 1) = l.take k ++ [l[k]] := by simp
theorem drop_one {l : List ByteArray} {k : Nat} (hk : k < l.length) : l.drop k = l[k] :: l.drop (k + 1) := List.drop_eq_getElem_cons hk
theorem rising_drop {l : List ByteArray} (h : rising l) {k : Nat} (hk : k < l.length) : ∀ y ∈ l.drop (k + 1), lessB' l[k] y = true := by
  have := List.Pairwise.sublist (List.drop_sublist k l) h
  rw [drop_one hk] at this
  exact (List.pairwise_cons.1 this).1
/-- The name as it comes. -/
theorem Nam.step {l : List ByteArray} {s : ByteArray} {k : Nat} {d : Bool} {o : List ByteArray} (h : Nam l s k d o) (hl : rising l) (hk : k < l.length) (hx : l[k] ≠ s) (hd : d = true ∨ lessB' s l[k] = false) : Nam l s (k + 1) d (o ++ [l[k]]) := by
  have hmem : l[k] ∈ l.drop k := by rw [drop_one hk]; exact List.mem_cons_self
  have hlow : ∀ x ∈ o, lessB' x l[k] = true := fun x hxo => by
    rcases h.top x hxo _ hmem with h1 | ⟨e, _, h1⟩
    · exact h1
    · rw [e]; exact h1
  refine ⟨rising_snoc h.rise hlow, fun x => ?_, fun x hx' => ?_, fun hd' x hx' => ?_, fun x hx' y hy => ?_, ?_⟩
  · rw [List.mem_append, h.mem, take_one hk, List.mem_append]
    constructor <;> intro h1 <;> rcases h1 with (h1 | h1) | h1
    · exact Or.inl (Or.inl h1)
    · exact Or.inr h1
    · exact Or.inl (Or.inr h1)
    · exact Or.inl (Or.inl h1)
    · exact Or.inr h1
    · exact Or.inl (Or.inr h1)
  · rw [take_one hk, List.mem_append] at hx'
    rcases hx' with h1 | h1
    · exact h.no x h1
    · simp at h1; subst h1; exact hx
  · rcases List.mem_append.1 hx' with h1 | h1
    · exact h.low hd' x h1
    · simp at h1; subst h1
      rcases hd with hd | hd
      · rw [hd'] at hd; cases hd
      · exact lessB_flip (Ne.symm hx) hd
  · rcases List.mem_append.1 hx' with h1 | h1
    · refine h.top x h1 y ?_
      rw [drop_one hk]; exact List.mem_cons_of_mem _ hy
    · simp at h1; subst h1
      exact Or.inl (rising_drop hl hk y hy)
  · simp only [List.length_append, List.length_cons, List.length_nil]
    have := h.len; omega
/-- The new name ahead of one that is greater. -/
theorem Nam.put {l : List ByteArray} {s : ByteArray} {k : Nat} {o : List ByteArray} (h : Nam l s k false o) (hl : rising l) (hk : k < l.length) (hs : lessB' s l[k] = true) : Nam l s k true (o ++ [s]) := by
  refine ⟨rising_snoc h.rise (h.low rfl), fun x => ?_, h.no, fun hd => (Bool.noConfusion hd), fun x hx y hy => ?_, ?_⟩
  · rw [List.mem_append, h.mem]; simp
  · rcases List.mem_append.1 hx with h1 | h1
    · rcases h.top x h1 y hy with h2 | ⟨_, h2, _⟩
      · exact Or.inl h2
      · cases h2
    · simp at h1; subst h1
      refine Or.inl ?_
      rw [drop_one hk] at hy
      rcases List.mem_cons.1 hy with e | h2
      · subst e; exact hs
      · exact lessB_trans hs (rising_drop hl hk y h2)
  · have := h.len
    simp only [Bool.toNat_false, Bool.toNat_true, List.length_append, List.length_cons, List.length_nil] at this ⊢
    omega
theorem Nam.done {l : List ByteArray} {s : ByteArray} {o : List ByteArray} (h : Nam l s l.length true o) : rising o ∧ ∀ x, x ∈ o ↔ x ∈ l ∨ x = s := by
  refine ⟨h.rise, fun x => ?_⟩
  rw [h.mem]; simp
theorem Nam.last {l : List ByteArray} {s : ByteArray} {o : List ByteArray} (h : Nam l s l.length false o) : rising (o ++ [s]) ∧ ∀ x, x ∈ o ++ [s] ↔ x ∈ l ∨ x = s := by
  refine ⟨rising_snoc h.rise (h.low rfl), fun x => ?_⟩
  rw [List.mem_append, h.mem]; simp
end Go.Proofs.YtihilcffmdjhhalGreat

namespace Go.Proofs.YtihilcffmdjhhalGreat
open Go.ChangeShapes Go.WideShapes Go.ChangeAt Go.RowKit
theorem infoStrD : (Tryz.prog.info? 9).map (fun i => (i.zero, i.size, i.bytes)) = some (some (.string ByteArray.empty), 1, 16) := by kernel_rfl

set_option maxRecDepth 100000 in
set_option maxHeartbeats 1000000 in
/-- spec.l04Name -/
theorem l04Name_any (lv : Value) (l : List ByteArray) (s : ByteArray) (B : Nat) (w : World) (hv : Got w B 9 1 lv (l.map strX)) (hB : B ≤ w.heap.size) (hl : rising l) (hn : l.length ≤ 1000) :
    Calls Tryz.prog 23 #[lv, .string s] w fun e w' => ∃ kv l', e = .returned kv ∧ Below w.heap.size w w' ∧ Got w' B 9 1 kv (l'.map strX) ∧ rising l' ∧ (∀ x, x ∈ l' ↔ x ∈ l ∨ x = s) ∧ l'.length ≤ l.length + 1 := by
  obtain ⟨a, p, ev, hv⟩ := hv.lit
  simp only [List.length_map] at hv ev
  subst ev
  have HV : Hid (Got w B 9 1 (.slice a l.length p) (l.map strX)) := hv
  have HX : Hid (RowAt w a 1 (l.map strX)) := by
    obtain ⟨a2, c2, e, _, _, h, _⟩ := hv.row
    simp only [List.length_map] at e
    cases e; exact h
  have HR : Hid (rising l) := hl
  clear hv hl
  go_enter Tryz.func23, Tryz.ntmps23
  have HG0 : Hid (Got (w.alloc (.cells #[] 9)) w.heap.size 9 1 (.slice (some ⟨w.heap.size, 0, none⟩) 0 0) (([] : List ByteArray).map strX)) := Got.empty w _ _
  go_wp2
  go_loopw [5, 6, 12] (fun o d i wr => ∃ (k : Nat) (dn : Bool) (ol : List ByteArray), k ≤ l.length ∧ d = .bool dn ∧ i = .int .i64 k ∧ Below w.heap.size w wr ∧ Hid (Nam l s k dn ol) ∧ Hid (Got wr w.heap.size 9 1 o (ol.map strX))) (fun _ _ i _ => l.length - (intOf i).toNat)
  case atStart => exact ⟨0, false, [], Nat.zero_le _, rfl, rfl, (by repeat (first | with_reducible exact Below.refl _ _ | with_reducible assumption | with_reducible refine ch_alloc ?_ _ | with_reducible refine Below.drew ?_ | with_reducible refine below_draws _ ?_ | (with_reducible refine Below.setCell ?_ ?_ _; rotate_left; focus (first | with_reducible exact Nat.le_refl _ | (simp; done) | (simp; omega) | (simp at *; omega))) | with_reducible refine ch_trans ?_ (by with_reducible assumption))), Nam.start l s, HG0⟩
  case round =>
    clear HG0
    obtain ⟨k, dn, ol, hk, rfl, rfl, hb, HN, HG⟩ := hrel
    obtain ⟨a', n', cap', rfl, hg⟩ := HG.out.lit2
    have HG' : Hid (Got wr w.heap.size 9 1 (.slice a' n' cap') (ol.map strX)) := hg
    have hol : ol.length ≤ 1002 := by have := HN.out.len; have := dn.toNat_le; omega
    clear HG hg
    have hki : (k : Int) ≤ l.length := by omega
    have hBs : w.heap.size ≤ wr.heap.size := hb.size
    by_cases hlt : k < l.length
    · have hlti : (k : Int) < l.length := by omega
      obtain ⟨b, off, rfl, c0⟩ := (HX.out.on hb).strs k hlt
      by_cases e : l[k] = s
      · have HM : Hid (∀ x, x ∈ l ↔ x ∈ l ∨ x = s) := fun x => ⟨Or.inl, fun h => h.elim id fun e' => by rw [e', ← e]; exact List.getElem_mem hlt⟩
        have hq := str_yes e
        clear e
        go_wp2
        go_ret
        exact ⟨_, l, rfl, hb, HV.out.on hb, HR.out, HM.out, by omega⟩
      · have HE : Hid (l[k] ≠ s) := e
        have hq := str_no e
        clear e
        cases dn
        · cases hs : lessB' s l[k]
          · have hs' : Op.bytesLess s.toList l[k].toList = false := hs
            have HN' : Hid (Nam l s (k + 1) false (ol ++ [l[k]])) := HN.out.step HR.out hlt HE.out (Or.inr hs)
            have hB2 : w.heap.size ≤ (wr.alloc (.cells #[.string l[k]] 9)).heap.size := by simp; omega
            clear hs
            go_wp2_with (at_builtin; refine app_one rfl (.tmp 31) (.tmp 33) rfl Tryz.underlying29 infoStrD rfl (by decide) (by decide) w.heap.size _ (ol.map strX) rfl (HG'.out.on (ch_alloc (Below.refl _ _) _)) wr.heap.size 1 (strX l[k]) rfl (Loc.new _ _ _) rfl (fun u hu => by simp at hu; subst hu; rfl) (by simp; omega) hB2 ?_; intro v' w2 hg2 hb2)
            have HG2 : Hid (Got w2 w.heap.size 9 1 v' ((ol ++ [l[k]]).map strX)) := by
              show Got _ _ _ _ _ _
              rw [List.map_append]; exact hg2
            have hb3 : Below w.heap.size w w2 := Below.trans (ch_alloc hb _) hb2
            clear hg2 hb2
            go_round
            case rel => exact ⟨k + 1, false, _, hlt, rfl, by go_num, hb3, HN', HG2⟩
            case measure => simp [intOf]; omega
          · have hs' : Op.bytesLess s.toList l[k].toList = true := hs
            have HN' : Hid (Nam l s (k + 1) true ((ol ++ [s]) ++ [l[k]])) := (HN.out.put HR.out hlt hs).step HR.out hlt HE.out (Or.inl rfl)
            have hB2 : w.heap.size ≤ (wr.alloc (.cells #[.string s] 9)).heap.size := by simp; omega
            clear hs
            go_wp2_with (at_builtin; first | (refine app_one rfl (.tmp 27) (.tmp 29) rfl Tryz.underlying29 infoStrD rfl (by decide) (by decide) w.heap.size _ (ol.map strX) rfl (HG'.out.on (ch_alloc (Below.refl _ _) _)) wr.heap.size 1 (strX s) rfl (Loc.new _ _ _) rfl (fun u hu => by simp at hu; subst hu; rfl) (by simp; omega) hB2 ?_; intro v' w2 hg2 hb2; obtain ⟨a2, n2, p2, rfl, hg2⟩ := hg2.lit2; have HG2 : Hid (Got w2 w.heap.size 9 1 (.slice a2 n2 p2) ((ol ++ [s]).map strX)) := (by show Got _ _ _ _ _ _; rw [List.map_append]; exact hg2); have hb3 : Below w.heap.size w w2 := Below.trans (ch_alloc hb _) hb2; have hB3 : w.heap.size ≤ (w2.alloc (.cells #[.string l[k]] 9)).heap.size := (by have := hb3.size; simp; omega); clear hg2 hb2) | (refine app_one rfl (.tmp 31) (.tmp 33) rfl Tryz.underlying29 infoStrD rfl (by decide) (by decide) w.heap.size _ ((ol ++ [s]).map strX) rfl (HG2.out.on (ch_alloc (Below.refl _ _) _)) w2.heap.size 1 (strX l[k]) rfl (Loc.new _ _ _) rfl (fun u hu => by simp at hu; subst hu; rfl) (by simp; omega) hB3 ?_; intro v3 w3 hg3 hb4))
            have HG3 : Hid (Got w3 w.heap.size 9 1 v3 (((ol ++ [s]) ++ [l[k]]).map strX)) := by
              show Got _ _ _ _ _ _
              rw [List.map_append]; exact hg3
            have hb5 : Below w.heap.size w w3 := Below.trans (ch_alloc hb3 _) hb4
            clear hg3 hb4
            go_round
            case rel => exact ⟨k + 1, true, _, hlt, rfl, by go_num, hb5, HN', HG3⟩
            case measure => simp [intOf]; omega
        · have HN' : Hid (Nam l s (k + 1) true (ol ++ [l[k]])) := HN.out.step HR.out hlt HE.out (Or.inl rfl)
          have hB2 : w.heap.size ≤ (wr.alloc (.cells #[.string l[k]] 9)).heap.size := by simp; omega
          go_wp2_with (at_builtin; refine app_one rfl (.tmp 31) (.tmp 33) rfl Tryz.underlying29 infoStrD rfl (by decide) (by decide) w.heap.size _ (ol.map strX) rfl (HG'.out.on (ch_alloc (Below.refl _ _) _)) wr.heap.size 1 (strX l[k]) rfl (Loc.new _ _ _) rfl (fun u hu => by simp at hu; subst hu; rfl) (by simp; omega) hB2 ?_; intro v' w2 hg2 hb2)
          have HG2 : Hid (Got w2 w.heap.size 9 1 v' ((ol ++ [l[k]]).map strX)) := by
            show Got _ _ _ _ _ _
            rw [List.map_append]; exact hg2
          have hb3 : Below w.heap.size w w2 := Below.trans (ch_alloc hb _) hb2
          clear hg2 hb2
          go_round
          case rel => exact ⟨k + 1, true, _, hlt, rfl, by go_num, hb3, HN', HG2⟩
          case measure => simp [intOf]; omega
    · have hlti : (l.length : Int) ≤ k := by omega
      obtain rfl : k = l.length := by omega
      cases dn
      · have HD := HN.out.last
        have hlen : ol.length ≤ l.length := by have := HN.out.len; simpa using this
        have HD' : Hid (rising (ol ++ [s]) ∧ ∀ x, x ∈ ol ++ [s] ↔ x ∈ l ∨ x = s) := HD
        have hB2 : w.heap.size ≤ (wr.alloc (.cells #[.string s] 9)).heap.size := by simp; omega
        clear HD
        go_wp2_with (at_builtin; refine app_one rfl (.tmp 38) (.tmp 40) rfl Tryz.underlying29 infoStrD rfl (by decide) (by decide) w.heap.size _ (ol.map strX) rfl (HG'.out.on (ch_alloc (Below.refl _ _) _)) wr.heap.size 1 (strX s) rfl (Loc.new _ _ _) rfl (fun u hu => by simp at hu; subst hu; rfl) (by simp; omega) hB2 ?_; intro v' w2 hg2 hb2)
        have HG2 : Hid (Got w2 w.heap.size 9 1 v' ((ol ++ [s]).map strX)) := by
          show Got _ _ _ _ _ _
          rw [List.map_append]; exact hg2
        have hb3 : Below w.heap.size w w2 := Below.trans (ch_alloc hb _) hb2
        clear hg2 hb2
        go_ret
        exact ⟨_, ol ++ [s], rfl, hb3, HG2.out.mono hB, HD'.out.1, HD'.out.2, by simp; omega⟩
      · have HD' : Hid (rising ol ∧ ∀ x, x ∈ ol ↔ x ∈ l ∨ x = s) := HN.out.done
        have hlen : ol.length ≤ l.length + 1 := by have := HN.out.len; simpa using this
        go_wp2
        go_ret
        exact ⟨_, ol, rfl, hb, HG'.out.mono hB, HD'.out.1, HD'.out.2, hlen⟩
end Go.Proofs.YtihilcffmdjhhalGreat
