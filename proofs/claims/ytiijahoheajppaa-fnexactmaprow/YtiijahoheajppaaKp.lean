/- The places of a right table's keys: the landed keyPlacesOf. -/
import Derived.Test.YtiijahoheajppaaAp
import Derived.Test.YtiijahoheajppaaTbOkI
namespace Go.Proofs.Ytiijahoheajppaa
open Go.ChangeShapes Go.WideShapes Go.ChangeAt Go.RowKit

theorem MapIs.look_at {P : Program} {k t e : TypeId} {w : World} {b n : Nat} {L : List (ByteArray × Value)} (h : MapIs P k w b n L) (hk : P.underlying k = some .string) (ht : P.underlying t = some (.map k e)) {z : Value} (hz : (zeroValue e).run P w = .ok z w) {s : ByteArray} (hs : s.size ≤ maxLen) {p : ByteArray × Value} (hp : L.find? (fun p => decide (p.1 = s)) = some p) :
    (Instr.lookup t (.map (some b)) (.string s) false).run P w = .ok p.2 w := by
  obtain ⟨D, ho, h1, h2, _⟩ := h
  obtain ⟨v, ps, hr, hv⟩ := ho.lookup (Maps.string_keyed hk) ht hz (zd := .held z) (zp := []) rfl (WideMaps.keyOf_string_mk hk hs)
  rw [h2 s p hp] at hv
  have hv' : v = p.2 := by simp [rv] at hv; exact hv.1
  rw [hr, hv']
/-- Each key of a right table is at a place. -/
theorem right_key {t : Tc} (h : t.right) (j : Nat) (hj : j < t.keys.length) : ∃ i, ∃ hi : i < t.cols.length, colAt t.cols t.keys[j] = (i : Int) ∧ t.cols[i].nt = true := by
  obtain ⟨h1, g, h2⟩ := h.2.2.2.2.2.2 j hj
  have h3 := lastAt_ge t.cols t.keys j
  refine ⟨_, g, by omega, h2⟩
theorem right_keys {t : Tc} (h : t.right) : t.keys.length ≤ t.cols.length := by
  have hl : ∀ j, j ≤ t.keys.length → (j : Int) - 1 ≤ lastAt t.cols t.keys j := by
    intro j
    induction j with
    | zero => intro _; rw [lastAt]; omega
    | succ j ih =>
      intro hj
      have h1 := ih (by omega)
      have h2 := (h.2.2.2.2.2.2 j (by omega)).1
      rw [lastAt_succ (by omega)]
      omega
  have h0 := h.2.2.2.1
  have h1 := hl t.keys.length (Nat.le_refl _)
  obtain ⟨n, hn⟩ : ∃ n, t.keys.length = n + 1 := ⟨t.keys.length - 1, by omega⟩
  rw [hn, lastAt_succ (by omega)] at h1
  have := (colAt_lt t.cols t.keys[n]).2
  omega
/-- The places of the keys. -/
def Tc.places (t : Tc) : List Int := t.keys.map (colAt t.cols)
abbrev intX (i : Int) : Array Value := #[.int .i64 i]
/-- Numbers behind a slice. -/
def IntsV (w : World) (v : Value) (is : List Int) : Prop := ∃ a cap, v = .slice a is.length cap ∧ is.length ≤ cap ∧ cap ≤ maxLen ∧ RowAt w a 1 (is.map intX)
theorem IntsV.on {w w' : World} {v : Value} {is : List Int} (h : IntsV w v is) (b : Below w.heap.size w w') : IntsV w' v is := by
  obtain ⟨a, cap, e, h1, h2, h⟩ := h; exact ⟨a, cap, e, h1, h2, h.on b⟩
theorem IntsV.lit {w : World} {v : Value} {is : List Int} (h : IntsV w v is) : ∃ a cap, v = .slice a is.length cap ∧ is.length ≤ cap ∧ cap ≤ maxLen ∧ IntsV w (.slice a is.length cap) is := by
  obtain ⟨a, cap, rfl, h1, h2, h3⟩ := h; exact ⟨a, cap, rfl, h1, h2, a, cap, rfl, h1, h2, h3⟩
theorem IntsV.row {w : World} {a : Option Addr} {n cap : Nat} {is : List Int} (h : IntsV w (.slice a n cap) is) : RowAt w a 1 (is.map intX) := by
  obtain ⟨a', cap', e, _, _, h⟩ := h; cases e; exact h
theorem RowAt.ints {w : World} {a : Option Addr} {ks : List Int} (h : RowAt w a 1 (ks.map intX)) (k : Nat) (hk : k < ks.length) : ∃ b off, a = some ⟨b, off, none⟩ ∧ w.cell? ⟨b, off + k, none⟩ = some (.int .i64 ks[k]) := by
  rcases h.2 with h0 | ⟨b, off, ha, h⟩
  · rw [List.map_eq_nil_iff] at h0; subst h0; exact absurd hk (Nat.not_lt_zero _)
  · have hk' : k < (ks.map intX).length := by simpa using hk
    have e : (ks.map intX)[k] = intX ks[k] := by simp
    have := h k hk' 0 (by omega)
    rw [e, Nat.mul_one] at this
    exact ⟨b, off, ha, this⟩

theorem fieldAt (i ty dt dn : Int) (s ds : ByteArray) (nt has : Bool) (w : World) : (Instr.field 102 (.agg #[.int .i64 i, .string s, .int .i64 ty, .bool nt, .bool has, .int .i64 dt, .int .i64 dn, .string ds]) 0).run Try.prog w = .ok (.int .i64 i) w := by kernel_rfl
theorem infoInt : (Try.prog.info? 3).map (fun i => (i.zero, i.size, i.bytes)) = some (some (.int .i64 0), 1, 8) := by kernel_rfl

set_option maxRecDepth 100000 in
set_option maxHeartbeats 2000000 in
/-- impl.keyPlacesOf -/
theorem keyPlacesOf_any (x : Array Value) (t : Tc) (w : World) (hx : TabV w x t) (hf : t.fit) (hr : t.right) :
    Calls Try.prog 69 #[.agg x] w fun e w' => ∃ v, e = .returned v ∧ Below w.heap.size w w' ∧ IntsV w' v t.places := by
  obtain ⟨a, p, o, q, rfl, hx, hc, hk⟩ := hx.lit
  have hcap : t.keys.length ≤ 8 ∧ t.cols.length ≤ 8 := by have := right_keys hr; have := hr.2.2.1; omega
  obtain ⟨hl1, hl2⟩ := hcap
  have HC : Hid (∀ u : World, ColsV u (.slice a t.cols.length p) t.cols → Calls Try.prog 61 #[.slice a t.cols.length p] u fun e w' => ∃ b, e = .returned (.map (some b)) ∧ Below u.heap.size u w' ∧ MapIs Try.prog 9 w' b t.cols.length (plist t.cols t.cols.length)) := fun u hu => columnsOf_any _ t.cols u hu hf.2.1
  have HV : Hid (ColsV w (.slice a t.cols.length p) t.cols) := hc
  have HK : Hid (RowAt w o 1 (t.keys.map strX)) := by
    obtain ⟨_, _, e, _, _, h⟩ := hk
    cases e
    exact h
  have HF : Hid (t.right ∧ ∀ s ∈ t.keys, s.size ≤ maxLen) := ⟨hr, hf.2.2⟩
  have HL := Loc.new w #[.string t.name, .slice a t.cols.length p, .slice o t.keys.length q] 32
  clear hx hc hk hf hr
  go_enter Try.func69, Try.ntmps69
  go_wp2_with fail
  refine (HC.out _ (HV.out.on (w' := w.alloc (.cells #[.string t.name, .slice a t.cols.length p, .slice o t.keys.length q] 32)) (by repeat (first | with_reducible exact Below.refl _ _ | with_reducible assumption | with_reducible refine ch_alloc ?_ _ | with_reducible refine Below.drew ?_ | with_reducible refine below_draws _ ?_ | (with_reducible refine Below.setCell ?_ ?_ _; rotate_left; focus (first | with_reducible exact Nat.le_refl _ | (simp; done) | (simp; omega) | (simp at *; omega))) | with_reducible refine ch_trans ?_ (by with_reducible assumption))))).mono ?_
  rintro e w1 ⟨b, rfl, b1, hm⟩
  have HM : Hid (MapIs Try.prog 9 w1 b t.cols.length (plist t.cols t.cols.length)) := hm
  have HL1 := HL.on b1
  have hb1 : Below w.heap.size w w1 := (by repeat (first | with_reducible exact Below.refl _ _ | with_reducible assumption | with_reducible refine ch_alloc ?_ _ | with_reducible refine Below.drew ?_ | with_reducible refine below_draws _ ?_ | (with_reducible refine Below.setCell ?_ ?_ _; rotate_left; focus (first | with_reducible exact Nat.le_refl _ | (simp; done) | (simp; omega) | (simp at *; omega))) | with_reducible refine ch_trans ?_ (by with_reducible assumption)))
  clear hm b1
  obtain ⟨l0, l1, l2⟩ := HL1.three
  go_wp2
  have HG0 : Hid (Got w1 w1.heap.size 3 1 (.slice none 0 0) ((t.places.take 0).map intX)) := Got.nil _ _ _ _
  go_loopw [4, 13] (fun v i wr => ∃ k : Nat, k ≤ t.keys.length ∧ i = .int .i64 k ∧ Below w1.heap.size w1 wr ∧ Hid (Got wr w1.heap.size 3 1 v ((t.places.take k).map intX))) (fun _ i _ => t.keys.length - (intOf i).toNat)
  case atStart => exact ⟨0, Nat.zero_le _, rfl, Below.refl _ _, HG0⟩
  case round =>
    clear HG0
    obtain ⟨k, hk, rfl, hb, HG⟩ := hrel
    obtain ⟨a', n', cap', rfl, hg⟩ := HG.out.lit2
    have HG' : Hid (Got wr w1.heap.size 3 1 (.slice a' n' cap') ((t.places.take k).map intX)) := hg
    clear HG hg
    by_cases hlt : k < t.keys.length
    · have hlti : (k : Int) < t.keys.length := by omega
      obtain ⟨b', off', rfl, d0⟩ := (HK.out.on (ch_trans hb1 hb)).strs k hlt
      obtain ⟨i, hi, hci⟩ : ∃ i, ∃ hi : i < t.cols.length, colAt t.cols t.keys[k] = (i : Int) := by
        obtain ⟨i, hi, h, _⟩ := right_key HF.out.1 k hlt
        exact ⟨i, hi, h⟩
      have hfd := plist_find t.cols t.cols.length t.keys[k]
      rcases colAt_firsts t.cols t.keys[k] with ⟨h1, h2⟩ | ⟨i', hi', h1, h2⟩
      · omega
      rw [h1] at hfd
      obtain rfl : i' = i := by omega
      have hlook : _ = Result.ok (Value.agg #[.int .i64 i', .string t.cols[i'].name, .int .i64 t.cols[i'].ty, .bool t.cols[i'].nt, .bool t.cols[i'].has, .int .i64 t.cols[i'].dt, .int .i64 t.cols[i'].dn, .string t.cols[i'].ds]) _ := (HM.out.on hb HM.out.lt).look_at Try.underlying9 Try.underlying90 (zeroP _) (HF.out.2 _ (List.getElem_mem hlt)) hfd
      have hpl : (t.places.take (k + 1)).map intX = (t.places.take k).map intX ++ [intX i'] := by
        have hlp : k < t.places.length := by simpa [Tc.places] using hlt
        rw [List.take_succ_eq_append_getElem hlp, List.map_append]
        simp [Tc.places, hci]
      have HPL : Hid _ := hpl
      have hfa := fieldAt i' t.cols[i'].ty t.cols[i'].dt t.cols[i'].dn t.cols[i'].name t.cols[i'].ds t.cols[i'].nt t.cols[i'].has wr
      have hB : w1.heap.size ≤ (wr.alloc (.cells #[.int .i64 (i' : Int)] 3)).heap.size := by have := hb.size; simp; omega
      clear hfd h1 h2 hci hpl
      go_wp2_with (at_builtin; refine app_one rfl (.tmp 17) (.tmp 22) rfl Try.underlying98 infoInt rfl (by decide) (by decide) w1.heap.size _ ((t.places.take k).map intX) rfl (HG'.out.on (ch_alloc (Below.refl _ _) _)) wr.heap.size 1 (intX i') rfl (Loc.new _ _ _) rfl (fun u hu => by simp at hu; subst hu; rfl) (by simp; omega) hB ?_; intro v' w2 hg2 hb2)
      have HG2 : Hid (Got w2 w1.heap.size 3 1 v' ((t.places.take (k + 1)).map intX)) := by
        show Got _ _ _ _ _ _
        rw [HPL.out]; exact hg2
      have hb3 : Below w1.heap.size w1 w2 := Below.trans (ch_alloc hb _) hb2
      go_round
      case rel => exact ⟨k + 1, by omega, by go_num, hb3, HG2⟩
      case measure => simp [intOf]; omega
    · have hlti : (t.keys.length : Int) ≤ k := by omega
      have HI : Hid (IntsV wr (.slice a' n' cap') t.places) := by
        obtain ⟨a2, cap2, e, h1, h2, h3, _⟩ := HG'.out.row
        have hpl : t.places.take k = t.places := List.take_of_length_le (by simp [Tc.places]; omega)
        rw [hpl] at e h1 h3
        exact ⟨a2, cap2, by simpa using e, by simpa using h1, h2, h3⟩
      go_wp2
      go_ret
      exact ⟨_, rfl, ch_trans hb1 hb, HI.out⟩
end Go.Proofs.Ytiijahoheajppaa
