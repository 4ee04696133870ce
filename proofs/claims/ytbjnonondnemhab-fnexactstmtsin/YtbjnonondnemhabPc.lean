/- The places of a right table's keys: the landed keyPlacesOf. Lists of numbers of a call's own: looked at, marked, held. Places that a law marks: what they are, what stands there afterwards. -/
import Derived.Test.YtbjnonondnemhabAp
import Derived.Test.YtbjnonondnemhabTbOkI
import Derived.Test.YtbjnonondnemhabWm
import Derived.Test.YtbjnonondnemhabMs
namespace Go.Proofs.Ytbjnonondnemhab
open Go.ChangeShapes Go.WideShapes Go.ChangeAt Go.RowKit

theorem MapIs.look_at {P : Program} {k t e : TypeId} {w : World} {b n : Nat} {L : List (ByteArray × Value)} (h : MapIs P k w b n L) (hk : P.underlying k = some .string) (ht : P.underlying t = some (.map k e)) {z : Value} (hz : (zeroValue e).run P w = .ok z w) {s : ByteArray} (hs : s.size ≤ maxLen) {p : ByteArray × Value} (hp : L.find? (fun p => decide (p.1 = s)) = some p) :
    (Instr.lookup t (.map (some b)) (.string s) false).run P w = .ok p.2 w := by
  obtain ⟨D, ho, h1, h2, _⟩ := h
  obtain ⟨v, ps, hr, hv⟩ := ho.lookup (Maps.string_keyed hk) ht hz (zd := .held z) (zp := []) rfl (WideMaps.keyOf_string_mk hk hs)
  rw [h2 s p hp] at hv
  have hv' : v = p.2 := by simp [rv] at hv; exact hv.1
  rw [hr, hv']
/-- Each key of a right table is at a place. -/
theorem right_key {t : Tc} (h : t.right) (j : Nat) (hj : j < t.keys.length) : ∃ i, ∃ hi : i < t.cols.length, colAt t.cols t.keys[j] = (i : Int) ∧ t.cols[i].nt = true := by
  obtain ⟨h1, g, h2⟩ := h.2.2.2.2.2.2 j hj
  have h3 := lastAt_ge t.cols t.keys j
  refine ⟨_, g, by omega, h2⟩
theorem right_keys {t : Tc} (h : t.right) : t.keys.length ≤ t.cols.length := by
  have hl : ∀ j, j ≤ t.keys.length → (j : Int) - 1 ≤ lastAt t.cols t.keys j := by
    intro j
    induction j with
    | zero => intro _; rw [lastAt]; omega
    | succ j ih =>
      intro hj
      have h1 := ih (by omega)
      have h2 := (h.2.2.2.2.2.2 j (by omega)).1
      rw [lastAt_succ (by omega)]
      omega
  have h0 := h.2.2.2.1
  have h1 := hl t.keys.length (Nat.le_refl _)
  obtain ⟨n, hn⟩ : ∃ n, t.keys.length = n + 1 := ⟨t.keys.length - 1, by omega⟩
  rw [hn, lastAt_succ (by omega)] at h1
  have := (colAt_lt t.cols t.keys[n]).2
  omega
/-- The places of the keys. -/
def Tc.places (t : Tc) : List Int := t.keys.map (colAt t.cols)
abbrev intX (i : Int) : Array Value := #[.int .i64 i]
/-- Numbers behind a slice. -/
def IntsV (w : World) (v : Value) (is : List Int) : Prop := ∃ a cap, v = .slice a is.length cap ∧ is.length ≤ cap ∧ cap ≤ maxLen ∧ RowAt w a 1 (is.map intX)
theorem IntsV.on {w w' : World} {v : Value} {is : List Int} (h : IntsV w v is) (b : Below w.heap.size w w') : IntsV w' v is := by
  obtain ⟨a, cap, e, h1, h2, h⟩ := h; exact ⟨a, cap, e, h1, h2, h.on b⟩
theorem IntsV.lit {w : World} {v : Value} {is : List Int} (h : IntsV w v is) : ∃ a cap, v = .slice a is.length cap ∧ is.length ≤ cap ∧ cap ≤ maxLen ∧ IntsV w (.slice a is.length cap) is := by
  obtain ⟨a, cap, rfl, h1, h2, h3⟩ := h; exact ⟨a, cap, rfl, h1, h2, a, cap, rfl, h1, h2, h3⟩
theorem IntsV.row {w : World} {a : Option Addr} {n cap : Nat} {is : List Int} (h : IntsV w (.slice a n cap) is) : RowAt w a 1 (is.map intX) := by
  obtain ⟨a', cap', e, _, _, h⟩ := h; cases e; exact h
theorem RowAt.ints {w : World} {a : Option Addr} {ks : List Int} (h : RowAt w a 1 (ks.map intX)) (k : Nat) (hk : k < ks.length) : ∃ b off, a = some ⟨b, off, none⟩ ∧ w.cell? ⟨b, off + k, none⟩ = some (.int .i64 ks[k]) := by
  rcases h.2 with h0 | ⟨b, off, ha, h⟩
  · rw [List.map_eq_nil_iff] at h0; subst h0; exact absurd hk (Nat.not_lt_zero _)
  · have hk' : k < (ks.map intX).length := by simpa using hk
    have e : (ks.map intX)[k] = intX ks[k] := by simp
    have := h k hk' 0 (by omega)
    rw [e, Nat.mul_one] at this
    exact ⟨b, off, ha, this⟩

theorem fieldAt (i ty dt dn : Int) (s ds : ByteArray) (nt has : Bool) (w : World) : (Instr.field 229 (.agg #[.int .i64 i, .string s, .int .i64 ty, .bool nt, .bool has, .int .i64 dt, .int .i64 dn, .string ds]) 0).run Try.prog w = .ok (.int .i64 i) w := by kernel_rfl
theorem infoInt : (Try.prog.info? 3).map (fun i => (i.zero, i.size, i.bytes)) = some (some (.int .i64 0), 1, 8) := by kernel_rfl

set_option maxRecDepth 100000 in
set_option maxHeartbeats 2000000 in
/-- impl.keyPlacesOf -/
theorem keyPlacesOf_any (x : Array Value) (t : Tc) (w : World) (hx : TabV w x t) (hf : t.fit) (hr : t.right) :
    Calls Try.prog 122 #[.agg x] w fun e w' => ∃ v, e = .returned v ∧ Below w.heap.size w w' ∧ IntsV w' v t.places := by
  obtain ⟨a, p, o, q, rfl, hx, hc, hk⟩ := hx.lit
  have hcap : t.keys.length ≤ 8 ∧ t.cols.length ≤ 8 := by have := right_keys hr; have := hr.2.2.1; omega
  obtain ⟨hl1, hl2⟩ := hcap
  have HC : Hid (∀ u : World, ColsV u (.slice a t.cols.length p) t.cols → Calls Try.prog 161 #[.slice a t.cols.length p] u fun e w' => ∃ b, e = .returned (.map (some b)) ∧ Below u.heap.size u w' ∧ MapIs Try.prog 9 w' b t.cols.length (plist t.cols t.cols.length)) := fun u hu => columnsOf_any _ t.cols u hu hf.2.1
  have HV : Hid (ColsV w (.slice a t.cols.length p) t.cols) := hc
  have HK : Hid (RowAt w o 1 (t.keys.map strX)) := by
    obtain ⟨_, _, e, _, _, h⟩ := hk
    cases e
    exact h
  have HF : Hid (t.right ∧ ∀ s ∈ t.keys, s.size ≤ maxLen) := ⟨hr, hf.2.2⟩
  have HL := Loc.new w #[.string t.name, .slice a t.cols.length p, .slice o t.keys.length q] 79
  clear hx hc hk hf hr
  go_enter Try.func122, Try.ntmps122
  go_wp2_with fail
  refine (HC.out _ (HV.out.on (w' := w.alloc (.cells #[.string t.name, .slice a t.cols.length p, .slice o t.keys.length q] 79)) (by repeat (first | with_reducible exact Below.refl _ _ | with_reducible assumption | with_reducible refine ch_alloc ?_ _ | with_reducible refine Below.drew ?_ | with_reducible refine below_draws _ ?_ | (with_reducible refine Below.setCell ?_ ?_ _; rotate_left; focus (first | with_reducible exact Nat.le_refl _ | (simp; done) | (simp; omega) | (simp at *; omega))) | with_reducible refine ch_trans ?_ (by with_reducible assumption))))).mono ?_
  rintro e w1 ⟨b, rfl, b1, hm⟩
  have HM : Hid (MapIs Try.prog 9 w1 b t.cols.length (plist t.cols t.cols.length)) := hm
  have HL1 := HL.on b1
  have hb1 : Below w.heap.size w w1 := (by repeat (first | with_reducible exact Below.refl _ _ | with_reducible assumption | with_reducible refine ch_alloc ?_ _ | with_reducible refine Below.drew ?_ | with_reducible refine below_draws _ ?_ | (with_reducible refine Below.setCell ?_ ?_ _; rotate_left; focus (first | with_reducible exact Nat.le_refl _ | (simp; done) | (simp; omega) | (simp at *; omega))) | with_reducible refine ch_trans ?_ (by with_reducible assumption)))
  clear hm b1
  obtain ⟨l0, l1, l2⟩ := HL1.three
  go_wp2
  have HG0 : Hid (Got w1 w1.heap.size 3 1 (.slice none 0 0) ((t.places.take 0).map intX)) := Got.nil _ _ _ _
  go_loopw [4, 13] (fun v i wr => ∃ k : Nat, k ≤ t.keys.length ∧ i = .int .i64 k ∧ Below w1.heap.size w1 wr ∧ Hid (Got wr w1.heap.size 3 1 v ((t.places.take k).map intX))) (fun _ i _ => t.keys.length - (intOf i).toNat)
  case atStart => exact ⟨0, Nat.zero_le _, rfl, Below.refl _ _, HG0⟩
  case round =>
    clear HG0
    obtain ⟨k, hk, rfl, hb, HG⟩ := hrel
    obtain ⟨a', n', cap', rfl, hg⟩ := HG.out.lit2
    have HG' : Hid (Got wr w1.heap.size 3 1 (.slice a' n' cap') ((t.places.take k).map intX)) := hg
    clear HG hg
    by_cases hlt : k < t.keys.length
    · have hlti : (k : Int) < t.keys.length := by omega
      obtain ⟨b', off', rfl, d0⟩ := (HK.out.on (ch_trans hb1 hb)).strs k hlt
      obtain ⟨i, hi, hci⟩ : ∃ i, ∃ hi : i < t.cols.length, colAt t.cols t.keys[k] = (i : Int) := by
        obtain ⟨i, hi, h, _⟩ := right_key HF.out.1 k hlt
        exact ⟨i, hi, h⟩
      have hfd := plist_find t.cols t.cols.length t.keys[k]
      rcases colAt_firsts t.cols t.keys[k] with ⟨h1, h2⟩ | ⟨i', hi', h1, h2⟩
      · omega
      rw [h1] at hfd
      obtain rfl : i' = i := by omega
      have hlook : _ = Result.ok (Value.agg #[.int .i64 i', .string t.cols[i'].name, .int .i64 t.cols[i'].ty, .bool t.cols[i'].nt, .bool t.cols[i'].has, .int .i64 t.cols[i'].dt, .int .i64 t.cols[i'].dn, .string t.cols[i'].ds]) _ := (HM.out.on hb HM.out.lt).look_at Try.underlying9 Try.underlying225 (zeroP _) (HF.out.2 _ (List.getElem_mem hlt)) hfd
      have hpl : (t.places.take (k + 1)).map intX = (t.places.take k).map intX ++ [intX i'] := by
        have hlp : k < t.places.length := by simpa [Tc.places] using hlt
        rw [List.take_succ_eq_append_getElem hlp, List.map_append]
        simp [Tc.places, hci]
      have HPL : Hid _ := hpl
      have hfa := fieldAt i' t.cols[i'].ty t.cols[i'].dt t.cols[i'].dn t.cols[i'].name t.cols[i'].ds t.cols[i'].nt t.cols[i'].has wr
      have hB : w1.heap.size ≤ (wr.alloc (.cells #[.int .i64 (i' : Int)] 3)).heap.size := by have := hb.size; simp; omega
      clear hfd h1 h2 hci hpl
      go_wp2_with (at_builtin; refine app_one rfl (.tmp 17) (.tmp 22) rfl Try.underlying192 infoInt rfl (by decide) (by decide) w1.heap.size _ ((t.places.take k).map intX) rfl (HG'.out.on (ch_alloc (Below.refl _ _) _)) wr.heap.size 1 (intX i') rfl (Loc.new _ _ _) rfl (fun u hu => by simp at hu; subst hu; rfl) (by simp; omega) hB ?_; intro v' w2 hg2 hb2)
      have HG2 : Hid (Got w2 w1.heap.size 3 1 v' ((t.places.take (k + 1)).map intX)) := by
        show Got _ _ _ _ _ _
        rw [HPL.out]; exact hg2
      have hb3 : Below w1.heap.size w1 w2 := Below.trans (ch_alloc hb _) hb2
      go_round
      case rel => exact ⟨k + 1, by omega, by go_num, hb3, HG2⟩
      case measure => simp [intOf]; omega
    · have hlti : (t.keys.length : Int) ≤ k := by omega
      have HI : Hid (IntsV wr (.slice a' n' cap') t.places) := by
        obtain ⟨a2, cap2, e, h1, h2, h3, _⟩ := HG'.out.row
        have hpl : t.places.take k = t.places := List.take_of_length_le (by simp [Tc.places]; omega)
        rw [hpl] at e h1 h3
        exact ⟨a2, cap2, by simpa using e, by simpa using h1, h2, h3⟩
      go_wp2
      go_ret
      exact ⟨_, rfl, ch_trans hb1 hb, HI.out⟩
end Go.Proofs.Ytbjnonondnemhab

namespace Go.Proofs.Ytbjnonondnemhab
open Go.ChangeShapes Go.WideShapes Go.ChangeAt Go.RowKit

/-- The mark of a number at a place. -/
abbrev markN (k i : Nat) : Value := .int .i64 ((k + i : Nat) : Int)
end Go.Proofs.Ytbjnonondnemhab

namespace Go.Proofs.Ytbjnonondnemhab
open Go.ChangeShapes Go.WideShapes Go.ChangeAt Go.RowKit

/-- A place, and what is marked there: 0 a number, 1 a text, 2 a yes or no. -/
abbrev Plc := Addr × Nat
/-- The mark. -/
def mkV (κ k : Nat) : Value := match κ with | 0 => .int .i64 (k : Int) | 1 => .string (markB k) | _ => .bool (k % 3 == 0)
/-- What stands where such a mark comes. -/
def leafK (κ : Nat) (v : Value) : Prop := match κ with | 0 => ∃ a, v = .int .i64 a | 1 => ∃ s, v = .string s | _ => ∃ b, v = .bool b
theorem mkV_kind {κ k : Nat} {v : Value} (h : leafK κ v) : kind1 v (mkV κ k) := by
  match κ, h with
  | 0, ⟨a, e⟩ => exact Or.inr (Or.inl ⟨_, _, e, rfl⟩)
  | 1, ⟨a, e⟩ => exact Or.inr (Or.inr (Or.inl ⟨_, _, e, rfl⟩))
  | n + 2, ⟨a, e⟩ => exact Or.inr (Or.inr (Or.inr ⟨_, _, e, rfl⟩))
theorem leafK_stay {κ : Nat} {u v : Value} (h : leafK κ u) (k : kind1 u v) : leafK κ v := by
  rcases k with rfl | ⟨a, b, rfl, rfl⟩ | ⟨a, b, rfl, rfl⟩ | ⟨a, b, rfl, rfl⟩
  · exact h
  all_goals
    match κ, h with
    | 0, ⟨a, e⟩ => first | (cases e; done) | exact ⟨_, rfl⟩
    | 1, ⟨a, e⟩ => first | (cases e; done) | exact ⟨_, rfl⟩
    | n + 2, ⟨a, e⟩ => first | (cases e; done) | exact ⟨_, rfl⟩
/-- The places ps are marked from k on, nothing else has turned. -/
structure Mk (w wr : World) (k : Nat) (ps : List Plc) : Prop where
  marks : Marks (fun c => ∃ p ∈ ps, p.1.block = c) w wr
  cell : ∀ a : Addr, a.block < w.heap.size → a ∉ ps.map (·.1) → wr.cell? a = w.cell? a
  done : ∀ j (h : j < ps.length), wr.cell? ps[j].1 = some (mkV ps[j].2 (k + j))
theorem Mk.refl (w : World) (k : Nat) : Mk w w k [] := ⟨Marks.refl _ _, fun _ _ _ => rfl, fun j h => by simp at h⟩
theorem Mk.below {w wr wr' : World} {k : Nat} {ps : List Plc} (h : Mk w wr k ps) (b : Below wr.heap.size wr wr') : Mk w wr' k ps :=
  ⟨h.marks.below b, fun a ha hn => (b.cell (Nat.lt_of_lt_of_le ha h.marks.turns.size)).trans (h.cell a ha hn), fun j hj => cell_on (h.done j hj) b⟩
/-- A block of before, afterwards. -/
theorem Mk.row {w wr : World} {k : Nat} {ps : List Plc} (h : Mk w wr k ps) {b : Nat} {T : TypeId} {m : Nat} {f : Nat → Value} (hr : w.rowIs b T m f) : ∃ f', wr.rowIs b T m f' ∧ ∀ i, i < m → kind1 (f i) (f' i) := by
  by_cases hb : ∃ p ∈ ps, p.1.block = b
  · exact h.marks.kinds b T m f hb hr
  · exact ⟨f, hr.of_block (h.marks.turns.block b hr.lt hb), fun _ _ => kind1.refl _⟩
theorem Mk.trans {w u wr : World} {k : Nat} {ps qs : List Plc} (h : Mk w u k ps) (g : Mk u wr (k + ps.length) qs) (hps : ∀ p ∈ ps, p.1.block < u.heap.size) (hd : ∀ p ∈ ps, p.1 ∉ qs.map (·.1)) : Mk w wr k (ps ++ qs) := by
  refine ⟨(h.marks.mono fun c ⟨p, hp, e⟩ => ⟨p, by simp [hp], e⟩).trans (g.marks.mono fun c ⟨p, hp, e⟩ => ⟨p, by simp [hp], e⟩), fun a ha hn => ?_, fun j hj => ?_⟩
  · rw [List.map_append, List.mem_append, not_or] at hn
    exact (g.cell a (Nat.lt_of_lt_of_le ha h.marks.turns.size) hn.2).trans (h.cell a ha hn.1)
  · by_cases hl : j < ps.length
    · simp only [List.getElem_append_left hl]
      exact (g.cell _ (hps _ (List.getElem_mem hl)) (hd _ (List.getElem_mem hl))).trans (h.done j hl)
    · simp only [List.length_append] at hj
      simp only [List.getElem_append_right (Nat.le_of_not_lt hl)]
      have := g.done (j - ps.length) (by omega)
      rwa [show k + ps.length + (j - ps.length) = k + j by omega] at this
/-- One place marked. -/
theorem Mk.one {w : World} {k κ b o : Nat} {T : TypeId} {m : Nat} {f : Nat → Value} (hr : w.rowIs b T m f) (ho : o < m) (hκ : leafK κ (f o)) : Mk w (w.setCell ⟨b, o, none⟩ (mkV κ k)) k [(⟨b, o, none⟩, κ)] := by
  refine ⟨Marks.set ⟨(⟨b, o, none⟩, κ), by simp, rfl⟩ hr fun _ => mkV_kind hκ, fun a ha hn => ?_, fun j hj => ?_⟩
  · rw [World.cell?_setCell_other]
    exact fun e => hn (by simp [← e])
  · simp at hj; subst hj
    simpa using World.cell?_setCell_same w _ _ (hr.cell ho)
/-- Places gathered cell by cell. -/
abbrev upTo (qs : Nat → List Plc) (c : Nat) : List Plc := (List.range c).flatMap qs
theorem upTo_succ (qs : Nat → List Plc) (c : Nat) : upTo qs (c + 1) = upTo qs c ++ qs c := by simp [upTo, List.range_succ]
theorem upTo_len (qs : Nat → List Plc) (c : Nat) : (upTo qs (c + 1)).length = (upTo qs c).length + (qs c).length := by rw [upTo_succ, List.length_append]
theorem upTo_sub (qs : Nat → List Plc) {c d : Nat} (h : c ≤ d) : ∃ r, upTo qs d = upTo qs c ++ r := by
  induction d with
  | zero => obtain rfl : c = 0 := by omega
            exact ⟨[], by simp⟩
  | succ d ih =>
    by_cases e : c = d + 1
    · subst e; exact ⟨[], by simp⟩
    · obtain ⟨r, hr⟩ := ih (by omega)
      exact ⟨r ++ qs d, by rw [upTo_succ, hr, List.append_assoc]⟩
theorem upTo_apart {qs : Nat → List Plc} {M c : Nat} (hn : ((upTo qs M).map (·.1)).Nodup) (hc : c < M) : ∀ p ∈ upTo qs c, p.1 ∉ (qs c).map (·.1) := by
  intro p hp hq
  obtain ⟨r, hr⟩ := upTo_sub qs (show c + 1 ≤ M from hc)
  rw [hr, upTo_succ, List.map_append, List.map_append, List.nodup_append, List.nodup_append] at hn
  exact hn.1.2.2 _ (List.mem_map.2 ⟨p, hp, rfl⟩) _ hq rfl
theorem upTo_mono (qs : Nat → List Plc) {c d : Nat} (h : c ≤ d) : (upTo qs c).length ≤ (upTo qs d).length := by
  obtain ⟨r, hr⟩ := upTo_sub qs h
  rw [hr, List.length_append]; omega
theorem upTo_le {L : Nat} (qs : Nat → List Plc) : ∀ M, (∀ c, c < M → (qs c).length ≤ L) → (upTo qs M).length ≤ M * L
  | 0, _ => by simp
  | M + 1, h => by
    have h1 := upTo_le qs M fun c hc => h c (by omega)
    have h2 := h M (by omega)
    rw [upTo_len, Nat.add_mul, Nat.one_mul]; omega
theorem upTo_nodup {qs : Nat → List Plc} {M c : Nat} (hn : ((upTo qs M).map (·.1)).Nodup) (hc : c < M) : ((qs c).map (·.1)).Nodup := by
  obtain ⟨r, hr⟩ := upTo_sub qs (show c + 1 ≤ M from hc)
  rw [hr, upTo_succ, List.map_append, List.map_append, List.nodup_append, List.nodup_append] at hn
  exact hn.1.2.1
/-- One cell more: a place. -/
theorem Mk.leaf {w W : World} {k b c : Nat} {κ : Nat} {T : TypeId} {m M : Nat} {f : Nat → Value} {qs : Nat → List Plc} (h : Mk w W k (upTo qs c)) (hr : w.rowIs b T m f) (hc : c < m) (hM : c < M) (hκ : leafK κ (f c)) (hq : qs c = [(⟨b, c, none⟩, κ)]) (hn : ((upTo qs M).map (·.1)).Nodup) (hb : ∀ p ∈ upTo qs M, p.1.block < w.heap.size) {u : Value} (hu : u = mkV κ (k + (upTo qs c).length)) : Mk w (W.setCell ⟨b, c, none⟩ u) k (upTo qs (c + 1)) := by
  subst hu
  obtain ⟨f', hr', hk⟩ := h.row hr
  rw [upTo_succ, hq]
  refine h.trans (Mk.one hr' hc (leafK_stay hκ (hk c hc))) (fun p hp => ?_) (fun p hp => ?_)
  · obtain ⟨r, hr2⟩ := upTo_sub qs (Nat.le_of_lt hM)
    exact Nat.lt_of_lt_of_le (hb p (by rw [hr2]; simp [hp])) h.marks.turns.size
  · have := upTo_apart hn hM p hp
    rwa [hq] at this
/-- One cell more: what lies behind it. -/
theorem Mk.nest {w W W' : World} {k c M : Nat} {qs : Nat → List Plc} (h : Mk w W k (upTo qs c)) (g : Mk W W' (k + (upTo qs c).length) (qs c)) (hM : c < M) (hn : ((upTo qs M).map (·.1)).Nodup) (hb : ∀ p ∈ upTo qs M, p.1.block < w.heap.size) : Mk w W' k (upTo qs (c + 1)) := by
  rw [upTo_succ]
  refine h.trans g (fun p hp => ?_) (upTo_apart hn hM)
  obtain ⟨r, hr2⟩ := upTo_sub qs (Nat.le_of_lt hM)
  exact Nat.lt_of_lt_of_le (hb p (by rw [hr2]; simp [hp])) h.marks.turns.size
/-- The places are marked. -/
def Marked (w : World) (k : Nat) (ps : List Plc) : Prop := ∀ j (h : j < ps.length), w.cell? ps[j].1 = some (mkV ps[j].2 (k + j))
theorem Marked.on {w w' : World} {k : Nat} {ps : List Plc} (h : Marked w k ps) (b : Below w.heap.size w w') : Marked w' k ps := fun j hj => cell_on (h j hj) b
theorem Marked.at {w : World} {k M c : Nat} {qs : Nat → List Plc} (h : Marked w k (upTo qs M)) (hc : c < M) : Marked w (k + (upTo qs c).length) (qs c) := by
  intro j hj
  obtain ⟨r, hr⟩ := upTo_sub qs (show c + 1 ≤ M from hc)
  have h1 := h ((upTo qs c).length + j) (by rw [hr, upTo_succ, List.length_append, List.length_append]; omega)
  have e : (upTo qs M)[(upTo qs c).length + j]'(by rw [hr, upTo_succ, List.length_append, List.length_append]; omega) = (qs c)[j] := by
    simp only [hr, upTo_succ, List.append_assoc]
    rw [List.getElem_append_right (by omega), List.getElem_append_left (by omega)]
    simp
  rw [e] at h1
  rw [h1, Nat.add_assoc]
theorem Marked.leaf {w : World} {k M c b κ : Nat} {qs : Nat → List Plc} (h : Marked w k (upTo qs M)) (hc : c < M) (hq : qs c = [(⟨b, c, none⟩, κ)]) : w.cell? ⟨b, c, none⟩ = some (mkV κ (k + (upTo qs c).length)) := by
  have h1 := h.at hc
  rw [hq] at h1
  simpa using h1 0 (by simp)

/-- What one cell of an element is: a place, or a slice with places behind it. -/
abbrev CellP := World → Addr → Value → List Plc → Prop
def LeafP (κ : Nat) : CellP := fun _ a u ps => leafK κ u ∧ ps = [(a, κ)]
def NestP (P : World → Value → List Plc → Prop) : CellP := fun w _ u ps => P w u ps
/-- The places of a list of elements. -/
def RowP (T : TypeId) (es : List CellP) (w : World) (v : Value) (ps : List Plc) : Prop := (v = .slice none 0 0 ∧ ps = []) ∨ ∃ b n cap m f qs, v = .slice (some ⟨b, 0, none⟩) n cap ∧ n ≤ 1048576 ∧ w.rowIs b T m f ∧ n * es.length ≤ m ∧ ps = upTo qs (n * es.length) ∧ ∀ i, i < n → ∀ j (h : j < es.length), es[j] w ⟨b, i * es.length + j, none⟩ (f (i * es.length + j)) (qs (i * es.length + j))
/-- It lies in blocks that are there. -/
def Lay (P : World → Value → List Plc → Prop) : Prop := (∀ w v ps, P w v ps → ∀ p ∈ ps, p.1.block < w.heap.size) ∧ (∀ S w w' u ps, Marks S w w' → P w u ps → P w' u ps)
theorem RowP.lay {T : TypeId} {es : List CellP} (he : ∀ j (h : j < es.length), (∃ κ, es[j] = LeafP κ) ∨ ∃ P, es[j] = NestP P ∧ Lay P ∧ ∀ w v ps, P w v ps → ∃ a n c, v = .slice a n c) : Lay (RowP T es) := by
  refine ⟨fun w v ps h p hp => ?_, fun S w w' u ps hm h => ?_⟩
  · rcases h with ⟨_, rfl⟩ | ⟨b, n, cap, m, f, qs, rfl, hn, hr, hl, rfl, hf⟩
    · simp at hp
    · obtain ⟨c, hc, hp⟩ := List.mem_flatMap.1 hp
      rw [List.mem_range] at hc
      have hz : 0 < es.length := by
        rcases Nat.eq_zero_or_pos es.length with h0 | h0
        · rw [h0, Nat.mul_zero] at hc; omega
        · exact h0
      have hi : c / es.length < n := Nat.div_lt_of_lt_mul (by rwa [Nat.mul_comm])
      have hj : c % es.length < es.length := Nat.mod_lt _ hz
      have hd : c / es.length * es.length + c % es.length = c := by rw [Nat.mul_comm]; exact Nat.div_add_mod c es.length
      have h1 := hf _ hi _ hj
      rw [hd] at h1
      rcases he _ hj with ⟨κ, e⟩ | ⟨P, e, hP, _⟩
      · rw [e] at h1
        rw [h1.2] at hp
        simp at hp; subst hp
        exact hr.lt
      · rw [e] at h1
        exact hP.1 _ _ _ h1 p hp
  · rcases h with ⟨rfl, rfl⟩ | ⟨b, n, cap, m, f, qs, rfl, hn, hr, hl, rfl, hf⟩
    · exact Or.inl ⟨rfl, rfl⟩
    · obtain ⟨f', hr', hk⟩ : ∃ f', w'.rowIs b T m f' ∧ ∀ i, i < m → kind1 (f i) (f' i) := by
        by_cases hb : S b
        · exact hm.kinds b T m f hb hr
        · exact ⟨f, hr.of_block (hm.turns.block b hr.lt hb), fun _ _ => kind1.refl _⟩
      refine Or.inr ⟨b, n, cap, m, f', qs, rfl, hn, hr', hl, rfl, fun i hi j hj => ?_⟩
      have h1 := hf i hi j hj
      have hlt : i * es.length + j < m := by
        have : (i + 1) * es.length ≤ n * es.length := Nat.mul_le_mul_right _ hi
        rw [Nat.add_mul, Nat.one_mul] at this
        omega
      have h2 := hk _ hlt
      rcases he j hj with ⟨κ, e⟩ | ⟨P, e, hP, hs⟩
      · rw [e] at h1 ⊢
        exact ⟨leafK_stay h1.1 h2, h1.2⟩
      · rw [e] at h1 ⊢
        obtain ⟨a, n', c', e2⟩ := hs _ _ _ h1
        rw [e2] at h1 h2
        show P w' _ _
        rw [h2.slice]
        exact hP.2 _ _ _ _ _ hm h1
theorem RowP.lit {T : TypeId} {es : List CellP} {w : World} {v : Value} {ps : List Plc} (h : RowP T es w v ps) : ∃ a n c, v = .slice a n c := by
  rcases h with ⟨rfl, _⟩ | ⟨b, n, cap, m, f, qs, rfl, _⟩ <;> exact ⟨_, _, _, rfl⟩
end Go.Proofs.Ytbjnonondnemhab
