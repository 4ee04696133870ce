/- Words, values and rows as bytes: given. -/
import Derived.Test.YtikccmgpmbnkfaaGreatWq
import Derived.Lib.ConvBytes
namespace Go.Proofs.YtikccmgpmbnkfaaGreat
open Go.ChangeShapes Go.WideShapes Go.ChangeAt Go.RowKit

theorem bytes_below (w : World) (e : TypeId) (s : ByteArray) : Below w.heap.size w (Lib.bytesWorld w e s) :=
  ⟨rfl, rfl, rfl, by rw [Lib.bytesWorld_size]; omega, fun k hk => Lib.bytesWorld_at_old w e s k hk⟩
theorem ch_bytes {a b : World} (h : Below a.heap.size a b) (e : TypeId) (s : ByteArray) : Below a.heap.size a (Lib.bytesWorld b e s) := ch_trans h (bytes_below b e s)
theorem bytes_row (w : World) (e : TypeId) (s : ByteArray) : RowAt (Lib.bytesWorld w e s) (some ⟨w.heap.size, 0, none⟩) 1 (s.data.toList.map byX) := by
  refine ⟨fun q hq => ?_, Or.inr ⟨w.heap.size, 0, rfl, fun i hi j hj => ?_⟩⟩
  · obtain ⟨u, _, rfl⟩ := List.mem_map.1 hq; rfl
  · obtain rfl : j = 0 := by omega
    have hi' : i < s.size := by simpa using hi
    rw [Nat.mul_one, Nat.zero_add, Nat.add_zero, Lib.bytesWorld_cell w e s i hi']
    have e1 : ((s.data.toList.map byX)[i]) = byX (s.data.toList[i]'(by simpa using hi)) := by simp
    rw [e1, List.getD_eq_getElem?_getD, List.getElem?_eq_getElem (by simpa using hi)]
    rfl
theorem conv_bytes (w : World) (s : ByteArray) : (convert 9 26 (.string s)).run Tryz.prog w = .ok (.slice (some ⟨w.heap.size, 0, none⟩) s.size (grownCap w s.size 0 5)) (Lib.bytesWorld w 5 s) :=
  Lib.run_convert_string_bytes w 9 26 5 s Tryz.underlying9 Tryz.underlying26 Tryz.underlying5
theorem RowAt.turned {w w' : World} {b off z : Nat} {xs : List (Array Value)} (h : RowAt w (some ⟨b, off, none⟩) z xs) {S : Nat → Prop} (k : Turns S w w') (hb : b < w.heap.size) (hS : ¬ S b) : RowAt w' (some ⟨b, off, none⟩) z xs := by
  refine ⟨h.1, ?_⟩
  rcases h.2 with h0 | ⟨b', off', e, h1⟩
  · exact Or.inl h0
  · cases e
    exact Or.inr ⟨b, off, rfl, fun i hi j hj => (World.cell?_of_block (w := w) (a := ⟨b, off + i * z + j, none⟩) (k.block b hb hS)).trans (h1 i hi j hj)⟩
section
variable {P : Program} {w : World} {ops : Array Oper} {o : Oper} {a : Act} {Q : Exit → Act → World → Prop} {t T : TypeId} {z bytes : Nat} {zv : Value}
theorem app_steps {K : Act → World → Prop} {E : Prop} (hgd : o.guard = none) (s y : Operand) (ho : o.op = .call { callee := .builtin .append, args := #[s, y], argTypes := #[t, t] })
    (ht : P.underlying t = some (.slice T)) (hinfo : (P.info? T).map (fun i => (i.zero, i.size, i.bytes)) = some (some zv, z, bytes)) (hzs : zv.cells.size = z) (hsz : 0 < z) (hby : bytes ≤ 1000)
    (B : Nat) (v : Value) (xs : List (Array Value)) (hs : a.eval s = v) (hown : Got w B T z v xs) (b off c : Nat) (ys : List (Array Value)) (n : Nat) (hn : n = ys.length) (hy : a.eval y = .slice (some ⟨b, off, none⟩) n c) (hrow : RowAt w (some ⟨b, off, none⟩) z ys) (h1 : ∀ x ∈ ys, ∀ u ∈ x.toList, u.oneCell' = true) (hlen : xs.length + ys.length < 1000000000) (hB : B ≤ w.heap.size)
    (h : ∀ v' w', Got w' B T z v' (xs ++ ys) → Below B w w' → K (a.put o.dst v') w') : if Region.wanted o (yielded ops a.tmps) = true then Oper.wp P o a w K Q else E := by
  have hw : Region.wanted o (yielded ops a.tmps) = true := by simp [Region.wanted, hgd]
  rw [if_pos hw]
  subst hn
  obtain ⟨v', w', hr, h2, h3, _⟩ := app_all ht hinfo hzs hsz hby hown hrow h1 hlen hB (c := c) o.type
  unfold Oper.wp execOp
  simp only [ho, resolve, invoke, builtin, Sem.run_bind, Sem.run_pure, Result.andThen_ok, List.map_toArray, List.map_cons, List.map_nil, hs, hy, hr]
  exact h v' w' h2 h3
theorem app_stepsT {K : Act → World → Prop} {E : Prop} (hgd : o.guard = none) (s y : Operand) (ho : o.op = .call { callee := .builtin .append, args := #[s, y], argTypes := #[t, t] })
    (ht : P.underlying t = some (.slice T)) (hinfo : (P.info? T).map (fun i => (i.zero, i.size, i.bytes)) = some (some zv, z, bytes)) (hzs : zv.cells.size = z) (hsz : 0 < z) (hby : bytes ≤ 1000)
    (B : Nat) (v : Value) (xs : List (Array Value)) (hs : a.eval s = v) (hown : Got w B T z v xs) (b off c : Nat) (ys : List (Array Value)) (n : Nat) (hn : n = ys.length) (hy : a.eval y = .slice (some ⟨b, off, none⟩) n c) (hrow : RowAt w (some ⟨b, off, none⟩) z ys) (h1 : ∀ x ∈ ys, ∀ u ∈ x.toList, u.oneCell' = true) (hlen : xs.length + ys.length < 1000000000) (hB : B ≤ w.heap.size)
    (h : ∀ v' w', Got w' B T z v' (xs ++ ys) → Below B w w' → Turns (fun c => v.ownBlock = some c) w w' → K (a.put o.dst v') w') : if Region.wanted o (yielded ops a.tmps) = true then Oper.wp P o a w K Q else E := by
  have hw : Region.wanted o (yielded ops a.tmps) = true := by simp [Region.wanted, hgd]
  rw [if_pos hw]
  subst hn
  obtain ⟨v', w', hr, h2, h3, h4⟩ := app_all ht hinfo hzs hsz hby hown hrow h1 hlen hB (c := c) o.type
  unfold Oper.wp execOp
  simp only [ho, resolve, invoke, builtin, Sem.run_bind, Sem.run_pure, Result.andThen_ok, List.map_toArray, List.map_cons, List.map_nil, hs, hy, hr]
  exact h v' w' h2 h3 h4
end
/-- One byte in a block of the call's own. -/
theorem got_one (w : World) (x : UInt8) : Got (w.alloc (.cells (byX x) 5)) w.heap.size 5 1 (.slice (some ⟨w.heap.size, 0, none⟩) 1 1) ([x].map byX) :=
  ⟨fun q hq => by simp at hq; subst hq; rfl, by simp, Or.inr ⟨w.heap.size, 1, byX x, rfl, Nat.le_refl _, Own.new _ _ _, Nat.le_refl _, by unfold maxLen; omega, rfl, rfl⟩⟩
set_option maxRecDepth 100000 in
set_option maxHeartbeats 1000000 in
/-- spec.WordBytes -/
theorem wordBytes_spec (s : ByteArray) (w : World) (hs : s.size ≤ maxLen) (q : Bool) (L : List UInt8) (hq : (q = true ∧ okWord s ∧ L = textL s) ∨ (q = false ∧ ¬ okWord s ∧ L = [])) :
    Calls Tryz.prog 102 #[.string s] w fun e w' => ∃ v', e = .returned (.tuple #[v', .bool q]) ∧ Below w.heap.size w w' ∧ Got w' w.heap.size 5 1 v' (L.map byX) := by
  have HS : Hid (∀ u : World, Calls Tryz.prog 98 #[.string s] u fun e w' => e = .returned (.bool (wordB s)) ∧ w' = u) := fun u => word_spec s u hs
  by_cases hok : okWord s
  · obtain ⟨rfl, rfl⟩ : q = true ∧ L = textL s := by
      rcases hq with ⟨h, _, h'⟩ | ⟨_, h, _⟩
      · exact ⟨h, h'⟩
      · exact absurd hok h
    clear hq
    have hs8 := okWord_size hok
    have hcase : s.toList.isEmpty = true ∨ (s.toList.isEmpty = false ∧ wordB s = true) := by
      rcases hok with h | h
      · exact Or.inl (empty_yes h)
      · cases h0 : s.toList.isEmpty
        · exact Or.inr ⟨rfl, h⟩
        · exact Or.inl rfl
    clear hok
    have hcv := conv_bytes (w.alloc (.cells #[.int .u8 (s.size : Int)] 5)) s
    have HX : Hid (byX (UInt8.ofNat s.size) = #[.int .u8 (s.size : Int)]) := by
      show #[Value.int .u8 _] = _
      rw [UInt8.toNat_ofNat', Nat.mod_eq_of_lt (by omega)]
    have hszw : (w.alloc (.cells #[.int .u8 (s.size : Int)] 5)).heap.size = w.heap.size + 1 := by simp
    have HGo : Hid (Got (Lib.bytesWorld (w.alloc (.cells #[.int .u8 (s.size : Int)] 5)) 5 s) w.heap.size 5 1 (.slice (some ⟨w.heap.size, 0, none⟩) 1 1) ([UInt8.ofNat s.size].map byX)) := by
      have h := got_one w (UInt8.ofNat s.size)
      rw [HX.out] at h
      exact h.on (bytes_below _ _ _)
    have HRo : Hid (RowAt (Lib.bytesWorld (w.alloc (.cells #[.int .u8 (s.size : Int)] 5)) 5 s) (some ⟨w.heap.size + 1, 0, none⟩) 1 (s.data.toList.map byX)) := by
      have h := bytes_row (w.alloc (.cells #[.int .u8 (s.size : Int)] 5)) 5 s
      rw [hszw] at h
      exact h
    have HBo : Hid (Below w.heap.size w (Lib.bytesWorld (w.alloc (.cells #[.int .u8 (s.size : Int)] 5)) 5 s)) := ch_trans (ch_alloc (Below.refl _ _) _) (bytes_below _ _ _)
    clear hszw
    rcases hcase with he | ⟨he, hwd⟩
    · go_enter Tryz.func102, Tryz.ntmps102
      go_wp2_with (at_builtin; refine app_lot rfl (.tmp 14) (.tmp 16) rfl Tryz.underlying26 infoByte rfl (by decide) (by decide) w.heap.size _ ([UInt8.ofNat s.size].map byX) rfl HGo.out (w.heap.size + 1) 0 _ (s.data.toList.map byX) s.size (by simp) rfl HRo.out (byte_one _) (by simp; omega) HBo.out.size ?_; intro v2 w2 hg2 hb2)
      go_ret2
      exact ⟨_, rfl, HBo.out.trans hb2, by rw [← List.map_append] at hg2; exact hg2⟩
    · have HSt : Hid (∀ u : World, Calls Tryz.prog 98 #[.string s] u fun e w' => e = .returned (.bool true) ∧ w' = u) := fun u => by
        have := HS.out u
        rwa [hwd] at this
      go_enter Tryz.func102, Tryz.ntmps102
      go_wp2_with fail
      refine (HSt.out _).mono ?_
      rintro e w0 ⟨rfl, rfl⟩
      go_wp2_with (at_builtin; refine app_lot rfl (.tmp 14) (.tmp 16) rfl Tryz.underlying26 infoByte rfl (by decide) (by decide) w0.heap.size _ ([UInt8.ofNat s.size].map byX) rfl HGo.out (w0.heap.size + 1) 0 _ (s.data.toList.map byX) s.size (by simp) rfl HRo.out (byte_one _) (by simp; omega) HBo.out.size ?_; intro v2 w2 hg2 hb2)
      go_ret2
      exact ⟨_, rfl, HBo.out.trans hb2, by rw [← List.map_append] at hg2; exact hg2⟩
  · obtain ⟨rfl, rfl⟩ : q = false ∧ L = [] := by
      rcases hq with ⟨_, h, _⟩ | ⟨h, _, h'⟩
      · exact absurd h hok
      · exact ⟨h, h'⟩
    clear hq
    have he : s.toList.isEmpty = false := by
      cases h0 : s.toList.isEmpty
      · rfl
      · exact absurd (Or.inl (size_empty h0)) hok
    have HSt : Hid (∀ u : World, Calls Tryz.prog 98 #[.string s] u fun e w' => e = .returned (.bool false) ∧ w' = u) := fun u => by
      have := HS.out u
      have hwd : wordB s = false := by
        cases h0 : wordB s
        · rfl
        · exact absurd (Or.inr h0) hok
      rwa [hwd] at this
    clear hok
    go_enter Tryz.func102, Tryz.ntmps102
    go_wp2_with fail
    refine (HSt.out _).mono ?_
    rintro e w0 ⟨rfl, rfl⟩
    go_wp2
    go_ret2
    exact ⟨_, rfl, (by repeat (first | with_reducible exact Below.refl _ _ | with_reducible assumption | with_reducible refine ch_alloc ?_ _ | with_reducible refine Below.drew ?_ | with_reducible refine below_draws _ ?_ | (with_reducible refine Below.setCell ?_ ?_ _; rotate_left; focus (first | with_reducible exact Nat.le_refl _ | (simp; done) | (simp; omega) | (simp at *; omega))) | with_reducible refine ch_trans ?_ (by with_reducible assumption))), Got.nil _ _ _ _⟩

theorem oks_below (c : Vc) (w : World) : Calls Tryz.prog 127 #[.agg c.cells] w fun e w' => e = .returned (.bool (okB c.ty c.n c.s)) ∧ Below w.heap.size w w' :=
  (ok_spec c.ty c.n c.s w).mono fun e w' ⟨he, hw⟩ => ⟨he, by subst hw; exact (by repeat (first | with_reducible exact Below.refl _ _ | with_reducible assumption | with_reducible refine ch_alloc ?_ _ | with_reducible refine Below.drew ?_ | with_reducible refine below_draws _ ?_ | (with_reducible refine Below.setCell ?_ ?_ _; rotate_left; focus (first | with_reducible exact Nat.le_refl _ | (simp; done) | (simp; omega) | (simp at *; omega))) | with_reducible refine ch_trans ?_ (by with_reducible assumption)))⟩
theorem got_oneI (w : World) (x : UInt8) (n : Int) (h : (x.toNat : Int) = n) : Got (w.alloc (.cells #[.int .u8 n] 5)) w.heap.size 5 1 (.slice (some ⟨w.heap.size, 0, none⟩) 1 1) ([x].map byX) := by
  subst h; exact got_one w x
set_option maxRecDepth 100000 in
set_option maxHeartbeats 1000000 in
/-- spec.ValBytes -/
theorem valBytes_spec (ty n : Int) (x : ByteArray) (w : World) (q : Bool) (L : List UInt8) (hq : (q = true ∧ okB ty n x = true ∧ L = valL ⟨ty, n, x⟩) ∨ (q = false ∧ okB ty n x = false ∧ L = [])) :
    Calls Tryz.prog 103 #[.agg #[.int .i64 ty, .int .i64 n, .string x]] w fun e w' => ∃ v', e = .returned (.tuple #[v', .bool q]) ∧ Below w.heap.size w w' ∧ Got w' w.heap.size 5 1 v' (L.map byX) := by
  have HS : Hid (∀ u : World, Calls Tryz.prog 127 #[.agg #[.int .i64 ty, .int .i64 n, .string x]] u fun e w' => e = .returned (.bool (okB ty n x)) ∧ Below u.heap.size u w') := fun u => oks_below ⟨ty, n, x⟩ u
  have HL := Loc.new w #[.int .i64 ty, .int .i64 n, .string x] 128
  rcases hq with ⟨rfl, hok, rfl⟩ | ⟨rfl, hok, rfl⟩
  · rw [hok] at HS
    have hty := okB_ty (c := ⟨ty, n, x⟩) hok
    simp only at hty
    clear hok
    rcases hty with rfl | ⟨rfl, hn0, hn1⟩ | ⟨rfl, hn0, hn1⟩ | ⟨rfl, hx30⟩
    · go_enter Tryz.func103, Tryz.ntmps103
      go_wp2_with fail
      refine (HS.out _).mono ?_
      rintro e w0 ⟨rfl, b0⟩
      have HL0 := HL.on b0
      obtain ⟨d0, d1, d2⟩ := HL0.three
      have hlt0 : w.heap.size < w0.heap.size := cell_lt d0
      have hb0 : Below w.heap.size w w0 := (by repeat (first | with_reducible exact Below.refl _ _ | with_reducible assumption | with_reducible refine ch_alloc ?_ _ | with_reducible refine Below.drew ?_ | with_reducible refine below_draws _ ?_ | (with_reducible refine Below.setCell ?_ ?_ _; rotate_left; focus (first | with_reducible exact Nat.le_refl _ | (simp; done) | (simp; omega) | (simp at *; omega))) | with_reducible refine ch_trans ?_ (by with_reducible assumption)))
      have HG : Hid (Got (w0.alloc (.cells #[.int .u8 0] 5)) w.heap.size 5 1 (.slice (some ⟨w0.heap.size, 0, none⟩) 1 1) ((valL ⟨0, n, x⟩).map byX)) := (got_oneI w0 0 0 rfl).mono hb0.size
      go_wp2
      go_ret2
      exact ⟨_, rfl, (by repeat (first | with_reducible exact Below.refl _ _ | with_reducible assumption | with_reducible refine ch_alloc ?_ _ | with_reducible refine Below.drew ?_ | with_reducible refine below_draws _ ?_ | (with_reducible refine Below.setCell ?_ ?_ _; rotate_left; focus (first | with_reducible exact Nat.le_refl _ | (simp; done) | (simp; omega) | (simp at *; omega))) | with_reducible refine ch_trans ?_ (by with_reducible assumption))), HG.out⟩
    · obtain ⟨N, rfl⟩ : ∃ N : Nat, n = (N : Int) := ⟨n.toNat, by omega⟩
      go_enter Tryz.func103, Tryz.ntmps103
      go_wp2_with fail
      refine (HS.out _).mono ?_
      rintro e w0 ⟨rfl, b0⟩
      have HL0 := HL.on b0
      obtain ⟨d0, d1, d2⟩ := HL0.three
      have hlt0 : w.heap.size < w0.heap.size := cell_lt d0
      have hb0 : Below w.heap.size w w0 := (by repeat (first | with_reducible exact Below.refl _ _ | with_reducible assumption | with_reducible refine ch_alloc ?_ _ | with_reducible refine Below.drew ?_ | with_reducible refine below_draws _ ?_ | (with_reducible refine Below.setCell ?_ ?_ _; rotate_left; focus (first | with_reducible exact Nat.le_refl _ | (simp; done) | (simp; omega) | (simp at *; omega))) | with_reducible refine ch_trans ?_ (by with_reducible assumption)))
      have HG : Hid (Got (w0.alloc (.cells #[.int .u8 1] 5)) w.heap.size 5 1 (.slice (some ⟨w0.heap.size, 0, none⟩) 1 1) ([1].map byX)) := (got_oneI w0 1 1 rfl).mono hb0.size
      have HX : Hid (byX (UInt8.ofNat N) = #[.int .u8 (N : Int)]) := by
        show #[Value.int .u8 _] = _
        rw [UInt8.toNat_ofNat', Nat.mod_eq_of_lt (by omega)]
      go_wp2_with (at_builtin; refine app_one rfl (.tmp 18) (.tmp 22) rfl Tryz.underlying26 infoByte rfl (by decide) (by decide) w.heap.size _ ([1].map byX) rfl (HG.out.on (ch_alloc (Below.refl _ _) _)) (w0.heap.size + 1) 1 #[.int .u8 (N : Int)] rfl (Own.at (w0.alloc (.cells #[.int .u8 1] 5)) _ _ (by simp)).loc rfl (fun u hu => by simp at hu; subst hu; rfl) (by simp) (by simp; omega) ?_; intro v2 w2 hg2 hb2)
      go_ret2
      exact ⟨_, rfl, (show Below w.heap.size w ((w0.alloc (.cells #[.int .u8 1] 5)).alloc (.cells #[.int .u8 (N : Int)] 5)) from (by repeat (first | with_reducible exact Below.refl _ _ | with_reducible assumption | with_reducible refine ch_alloc ?_ _ | with_reducible refine Below.drew ?_ | with_reducible refine below_draws _ ?_ | (with_reducible refine Below.setCell ?_ ?_ _; rotate_left; focus (first | with_reducible exact Nat.le_refl _ | (simp; done) | (simp; omega) | (simp at *; omega))) | with_reducible refine ch_trans ?_ (by with_reducible assumption)))).trans hb2, by
        rw [← HX.out] at hg2
        have e1 : (valL ⟨1, N, x⟩) = [1] ++ [UInt8.ofNat N] := by simp [valL]
        rw [e1, List.map_append]; exact hg2⟩
    · go_enter Tryz.func103, Tryz.ntmps103
      go_wp2_with fail
      refine (HS.out _).mono ?_
      rintro e w0 ⟨rfl, b0⟩
      have HL0 := HL.on b0
      obtain ⟨d0, d1, d2⟩ := HL0.three
      have hlt0 : w.heap.size < w0.heap.size := cell_lt d0
      have hb0 : Below w.heap.size w w0 := (by repeat (first | with_reducible exact Below.refl _ _ | with_reducible assumption | with_reducible refine ch_alloc ?_ _ | with_reducible refine Below.drew ?_ | with_reducible refine below_draws _ ?_ | (with_reducible refine Below.setCell ?_ ?_ _; rotate_left; focus (first | with_reducible exact Nat.le_refl _ | (simp; done) | (simp; omega) | (simp at *; omega))) | with_reducible refine ch_trans ?_ (by with_reducible assumption)))
      have HG : Hid (Got (w0.alloc (.cells #[.int .u8 2] 5)) w.heap.size 5 1 (.slice (some ⟨w0.heap.size, 0, none⟩) 1 1) ([2].map byX)) := (got_oneI w0 2 2 rfl).mono hb0.size
      by_cases hneg : n < 0
      · have HPN : Hid (∀ (u : World) (b off p : Nat), RowAt u (some ⟨b, off, none⟩) 1 (([2, 1] : List UInt8).map byX) → Calls Tryz.prog 30 #[.slice (some ⟨b, off, none⟩) 2 p, .int .i64 (-n), .int .i64 6] u fun e w' => ∃ v', e = .returned (.tuple #[v', .bool true]) ∧ Below u.heap.size u w' ∧ Got w' u.heap.size 5 1 v' ((valL ⟨2, n, x⟩).map byX)) := fun u b off p hu => putNum_spec b off p [2, 1] (-n) 6 u hu (by simp) true _ (Or.inl ⟨rfl, ⟨by omega, by omega, by omega, by
            have e6 : ((256 ^ (6 : Int).toNat : Nat) : Int) = 281474976710656 := by decide
            rw [e6]; omega⟩, by
            have e1 : (-n).toNat = n.natAbs := by omega
            rw [e1]
            simp [valL, flagN, hneg]⟩)
        go_wp2_with (at_builtin; refine app_one rfl (.tmp 32) (.tmp 34) rfl Tryz.underlying26 infoByte rfl (by decide) (by decide) w.heap.size _ ([2].map byX) rfl (HG.out.on (ch_alloc (Below.refl _ _) _)) (w0.heap.size + 1) 1 #[.int .u8 1] rfl (Own.at (w0.alloc (.cells #[.int .u8 2] 5)) _ _ (by simp)).loc rfl (fun u hu => by simp at hu; subst hu; rfl) (by simp) (by simp; omega) ?_; intro v2 w2 hg2 hb2; have HG2 : Hid (Got w2 w.heap.size 5 1 v2 (([2, 1] : List UInt8).map byX)) := hg2; obtain ⟨a2, c2, rfl, _, _, hr2, _⟩ := HG2.out.row; obtain ⟨b2, off2, rfl, _⟩ := hr2.bytes 0 (by simp); have HR2 : Hid (RowAt w2 (some ⟨b2, off2, none⟩) 1 (([2, 1] : List UInt8).map byX)) := hr2; have HB2 : Hid (Below w.heap.size w w2) := (show Below w.heap.size w ((w0.alloc (.cells #[.int .u8 2] 5)).alloc (.cells #[.int .u8 1] 5)) from (by repeat (first | with_reducible exact Below.refl _ _ | with_reducible assumption | with_reducible refine ch_alloc ?_ _ | with_reducible refine Below.drew ?_ | with_reducible refine below_draws _ ?_ | (with_reducible refine Below.setCell ?_ ?_ _; rotate_left; focus (first | with_reducible exact Nat.le_refl _ | (simp; done) | (simp; omega) | (simp at *; omega))) | with_reducible refine ch_trans ?_ (by with_reducible assumption)))).trans hb2; clear hg2 hb2 hr2)
        refine (HPN.out _ _ _ _ HR2.out).mono ?_
        rintro e w3 ⟨v3, rfl, b3, hg3⟩
        have HG3 : Hid (Got w3 w.heap.size 5 1 v3 ((valL ⟨2, n, x⟩).map byX)) := hg3.mono HB2.out.size
        have HB3 : Hid (Below w.heap.size w w3) := ch_trans HB2.out b3
        clear hg3 b3
        go_wp2
        go_ret2
        exact ⟨_, rfl, HB3.out, HG3.out⟩
      · have HPN : Hid (∀ (u : World) (b off p : Nat), RowAt u (some ⟨b, off, none⟩) 1 (([2, 0] : List UInt8).map byX) → Calls Tryz.prog 30 #[.slice (some ⟨b, off, none⟩) 2 p, .int .i64 n, .int .i64 6] u fun e w' => ∃ v', e = .returned (.tuple #[v', .bool true]) ∧ Below u.heap.size u w' ∧ Got w' u.heap.size 5 1 v' ((valL ⟨2, n, x⟩).map byX)) := fun u b off p hu => putNum_spec b off p [2, 0] n 6 u hu (by simp) true _ (Or.inl ⟨rfl, ⟨by omega, by omega, by omega, by
            have e6 : ((256 ^ (6 : Int).toNat : Nat) : Int) = 281474976710656 := by decide
            rw [e6]; omega⟩, by
            have e1 : n.toNat = n.natAbs := by omega
            rw [e1]
            simp [valL, flagN, hneg]⟩)
        go_wp2_with (at_builtin; refine app_one rfl (.tmp 32) (.tmp 34) rfl Tryz.underlying26 infoByte rfl (by decide) (by decide) w.heap.size _ ([2].map byX) rfl (HG.out.on (ch_alloc (Below.refl _ _) _)) (w0.heap.size + 1) 1 #[.int .u8 0] rfl (Own.at (w0.alloc (.cells #[.int .u8 2] 5)) _ _ (by simp)).loc rfl (fun u hu => by simp at hu; subst hu; rfl) (by simp) (by simp; omega) ?_; intro v2 w2 hg2 hb2; have HG2 : Hid (Got w2 w.heap.size 5 1 v2 (([2, 0] : List UInt8).map byX)) := hg2; obtain ⟨a2, c2, rfl, _, _, hr2, _⟩ := HG2.out.row; obtain ⟨b2, off2, rfl, _⟩ := hr2.bytes 0 (by simp); have HR2 : Hid (RowAt w2 (some ⟨b2, off2, none⟩) 1 (([2, 0] : List UInt8).map byX)) := hr2; have HB2 : Hid (Below w.heap.size w w2) := (show Below w.heap.size w ((w0.alloc (.cells #[.int .u8 2] 5)).alloc (.cells #[.int .u8 0] 5)) from (by repeat (first | with_reducible exact Below.refl _ _ | with_reducible assumption | with_reducible refine ch_alloc ?_ _ | with_reducible refine Below.drew ?_ | with_reducible refine below_draws _ ?_ | (with_reducible refine Below.setCell ?_ ?_ _; rotate_left; focus (first | with_reducible exact Nat.le_refl _ | (simp; done) | (simp; omega) | (simp at *; omega))) | with_reducible refine ch_trans ?_ (by with_reducible assumption)))).trans hb2; clear hg2 hb2 hr2)
        refine (HPN.out _ _ _ _ HR2.out).mono ?_
        rintro e w3 ⟨v3, rfl, b3, hg3⟩
        have HG3 : Hid (Got w3 w.heap.size 5 1 v3 ((valL ⟨2, n, x⟩).map byX)) := hg3.mono HB2.out.size
        have HB3 : Hid (Below w.heap.size w w3) := ch_trans HB2.out b3
        clear hg3 b3
        go_wp2
        go_ret2
        exact ⟨_, rfl, HB3.out, HG3.out⟩
    · go_enter Tryz.func103, Tryz.ntmps103
      go_wp2_with fail
      refine (HS.out _).mono ?_
      rintro e w0 ⟨rfl, b0⟩
      have HL0 := HL.on b0
      obtain ⟨d0, d1, d2⟩ := HL0.three
      have hlt0 : w.heap.size < w0.heap.size := cell_lt d0
      have hb0 : Below w.heap.size w w0 := (by repeat (first | with_reducible exact Below.refl _ _ | with_reducible assumption | with_reducible refine ch_alloc ?_ _ | with_reducible refine Below.drew ?_ | with_reducible refine below_draws _ ?_ | (with_reducible refine Below.setCell ?_ ?_ _; rotate_left; focus (first | with_reducible exact Nat.le_refl _ | (simp; done) | (simp; omega) | (simp at *; omega))) | with_reducible refine ch_trans ?_ (by with_reducible assumption)))
      have HG : Hid (Got (w0.alloc (.cells #[.int .u8 3] 5)) w.heap.size 5 1 (.slice (some ⟨w0.heap.size, 0, none⟩) 1 1) ([3].map byX)) := (got_oneI w0 3 3 rfl).mono hb0.size
      have HX : Hid (byX (UInt8.ofNat x.size) = #[.int .u8 (x.size : Int)]) := by
        show #[Value.int .u8 _] = _
        rw [UInt8.toNat_ofNat', Nat.mod_eq_of_lt (by omega)]
      have hwr : IntKind.u8.wrap (x.size : Int) = (x.size : Int) := by
        have := wrapY x.size
        rw [Nat.mod_eq_of_lt (by omega)] at this
        exact this
      have HG0 : Hid (Got (w0.alloc (.cells #[.int .u8 3] 5)) w0.heap.size 5 1 (.slice (some ⟨w0.heap.size, 0, none⟩) 1 1) ([3].map byX)) := got_oneI w0 3 3 rfl
      go_wp2_with fail
      have hcv := fun u : World => conv_bytes u x
      have e3 := ((show Below w0.heap.size w0 (Lib.bytesWorld ((w0.alloc (.cells #[.int .u8 3] 5)).drew) 5 x) from (by repeat (first | with_reducible exact Below.refl _ _ | with_reducible assumption | with_reducible refine ch_bytes ?_ _ _ | with_reducible refine ch_alloc ?_ _ | with_reducible refine Below.drew ?_ | with_reducible refine below_draws _ ?_ | with_reducible refine ch_trans ?_ (by with_reducible assumption)))).cell (p := ⟨w.heap.size, 2, none⟩) hlt0).trans d2
      go_region_law (first
        | (refine app_step rfl (.tmp 42) (.tmp 47) rfl Tryz.underlying26 infoByte rfl (by decide) (by decide) w0.heap.size _ ([3].map byX) rfl (HG0.out.on (by repeat (first | with_reducible exact Below.refl _ _ | with_reducible assumption | with_reducible refine ch_bytes ?_ _ _ | with_reducible refine ch_alloc ?_ _ | with_reducible refine Below.drew ?_ | with_reducible refine below_draws _ ?_ | with_reducible refine ch_trans ?_ (by with_reducible assumption)))) (w0.heap.size + 1) 1 #[.int .u8 (x.size : Int)] rfl ((Own.at (w0.alloc (.cells #[.int .u8 3] 5)) _ _ (by simp)).on (by repeat (first | with_reducible exact Below.refl _ _ | with_reducible assumption | with_reducible refine ch_bytes ?_ _ _ | with_reducible refine ch_alloc ?_ _ | with_reducible refine Below.drew ?_ | with_reducible refine below_draws _ ?_ | with_reducible refine ch_trans ?_ (by with_reducible assumption)))).loc rfl (fun u hu => by simp at hu; subst hu; rfl) (by simp) (by simp; omega) ?_; intro v2 w2 hg2 hb2; have e2 := (hb2.cell (p := ⟨w.heap.size, 2, none⟩) hlt0).trans ((show Below w0.heap.size w0 (((w0.alloc (.cells #[.int .u8 3] 5)).alloc (.cells #[.int .u8 (x.size : Int)] 5)).drew) from (by repeat (first | with_reducible exact Below.refl _ _ | with_reducible assumption | with_reducible refine ch_bytes ?_ _ _ | with_reducible refine ch_alloc ?_ _ | with_reducible refine Below.drew ?_ | with_reducible refine below_draws _ ?_ | with_reducible refine ch_trans ?_ (by with_reducible assumption)))).cell (p := ⟨w.heap.size, 2, none⟩) hlt0 |>.trans d2); have HG2 : Hid (Got w2 w0.heap.size 5 1 v2 ([3].map byX ++ [#[.int .u8 (x.size : Int)]])) := hg2; have hw02 : w0.heap.size ≤ w2.heap.size := (by have h1 := hb2.size; simp at h1; omega); have HB2 : Hid (Below w0.heap.size w0 w2) := (show Below w0.heap.size w0 (((w0.alloc (.cells #[.int .u8 3] 5)).alloc (.cells #[.int .u8 (x.size : Int)] 5)).drew) from (by repeat (first | with_reducible exact Below.refl _ _ | with_reducible assumption | with_reducible refine ch_bytes ?_ _ _ | with_reducible refine ch_alloc ?_ _ | with_reducible refine Below.drew ?_ | with_reducible refine below_draws _ ?_ | with_reducible refine ch_trans ?_ (by with_reducible assumption)))).trans hb2)
        | (refine app_stepsT rfl (.tmp 42) (.tmp 47) rfl Tryz.underlying26 infoByte rfl (by decide) (by decide) w0.heap.size _ ([3].map byX) rfl (HG0.out.on (show Below _ _ (Lib.bytesWorld (((w0.alloc (.cells #[.int .u8 3] 5)).alloc (.cells #[.int .u8 (x.size : Int)] 5)).drew) 5 x) from (by repeat (first | with_reducible exact Below.refl _ _ | with_reducible assumption | with_reducible refine ch_bytes ?_ _ _ | with_reducible refine ch_alloc ?_ _ | with_reducible refine Below.drew ?_ | with_reducible refine below_draws _ ?_ | with_reducible refine ch_trans ?_ (by with_reducible assumption))))) (w0.heap.size + 1) 0 1 [#[.int .u8 (x.size : Int)]] 1 rfl rfl (((Own.at (w0.alloc (.cells #[.int .u8 3] 5)) _ _ (by simp)).on (show Below _ _ (Lib.bytesWorld (((w0.alloc (.cells #[.int .u8 3] 5)).alloc (.cells #[.int .u8 (x.size : Int)] 5)).drew) 5 x) from (by repeat (first | with_reducible exact Below.refl _ _ | with_reducible assumption | with_reducible refine ch_bytes ?_ _ _ | with_reducible refine ch_alloc ?_ _ | with_reducible refine Below.drew ?_ | with_reducible refine below_draws _ ?_ | with_reducible refine ch_trans ?_ (by with_reducible assumption))))).loc.row1 rfl) (fun q hq u hu => by simp at hq; subst hq; simp at hu; subst hu; rfl) (by simp) (show Below w0.heap.size w0 (Lib.bytesWorld (((w0.alloc (.cells #[.int .u8 3] 5)).alloc (.cells #[.int .u8 (x.size : Int)] 5)).drew) 5 x) from (by repeat (first | with_reducible exact Below.refl _ _ | with_reducible assumption | with_reducible refine ch_bytes ?_ _ _ | with_reducible refine ch_alloc ?_ _ | with_reducible refine Below.drew ?_ | with_reducible refine below_draws _ ?_ | with_reducible refine ch_trans ?_ (by with_reducible assumption)))).size ?_; intro v2 w2 hg2 hb2 ht2; have HG2 : Hid (Got w2 w0.heap.size 5 1 v2 ([3].map byX ++ [#[.int .u8 (x.size : Int)]])) := hg2; have HR2 : Hid (RowAt w2 (some ⟨w0.heap.size + 1 + 1, 0, none⟩) 1 (x.data.toList.map byX)) := RowAt.turned ((show RowAt (Lib.bytesWorld (((w0.alloc (.cells #[.int .u8 3] 5)).alloc (.cells #[.int .u8 (x.size : Int)] 5)).drew) 5 x) (some ⟨w0.heap.size + 1 + 1, 0, none⟩) 1 (x.data.toList.map byX) from by (have h1 := bytes_row (((w0.alloc (.cells #[.int .u8 3] 5)).alloc (.cells #[.int .u8 (x.size : Int)] 5)).drew) 5 x; rw [show (((w0.alloc (.cells #[.int .u8 3] 5)).alloc (.cells #[.int .u8 (x.size : Int)] 5)).drew).heap.size = w0.heap.size + 1 + 1 from by simp] at h1; exact h1)).on (show Below _ _ (Lib.bytesWorld (((w0.alloc (.cells #[.int .u8 3] 5)).alloc (.cells #[.int .u8 (x.size : Int)] 5)).drew) 5 x) from (by repeat (first | with_reducible exact Below.refl _ _ | with_reducible assumption | with_reducible refine ch_bytes ?_ _ _ | with_reducible refine ch_alloc ?_ _ | with_reducible refine Below.drew ?_ | with_reducible refine below_draws _ ?_ | with_reducible refine ch_trans ?_ (by with_reducible assumption))))) ht2 (show w0.heap.size + 1 + 1 < (Lib.bytesWorld (((w0.alloc (.cells #[.int .u8 3] 5)).alloc (.cells #[.int .u8 (x.size : Int)] 5)).drew) 5 x).heap.size from by simp [Lib.bytesWorld_size]) (fun h1 => by (have h2 : w0.heap.size = w0.heap.size + 1 + 1 := Option.some.inj h1; omega)); have hw02 : w0.heap.size ≤ w2.heap.size := Nat.le_trans (show Below w0.heap.size w0 (Lib.bytesWorld (((w0.alloc (.cells #[.int .u8 3] 5)).alloc (.cells #[.int .u8 (x.size : Int)] 5)).drew) 5 x) from (by repeat (first | with_reducible exact Below.refl _ _ | with_reducible assumption | with_reducible refine ch_bytes ?_ _ _ | with_reducible refine ch_alloc ?_ _ | with_reducible refine Below.drew ?_ | with_reducible refine below_draws _ ?_ | with_reducible refine ch_trans ?_ (by with_reducible assumption)))).size hb2.size; have HB2 : Hid (Below w0.heap.size w0 w2) := (show Below w0.heap.size w0 (Lib.bytesWorld (((w0.alloc (.cells #[.int .u8 3] 5)).alloc (.cells #[.int .u8 (x.size : Int)] 5)).drew) 5 x) from (by repeat (first | with_reducible exact Below.refl _ _ | with_reducible assumption | with_reducible refine ch_bytes ?_ _ _ | with_reducible refine ch_alloc ?_ _ | with_reducible refine Below.drew ?_ | with_reducible refine below_draws _ ?_ | with_reducible refine ch_trans ?_ (by with_reducible assumption)))).trans hb2)
        | (refine app_stepsT rfl (.tmp 42) (.tmp 47) rfl Tryz.underlying26 infoByte rfl (by decide) (by decide) w0.heap.size _ ([3].map byX) rfl (HG0.out.on (show Below _ _ ((Lib.bytesWorld ((w0.alloc (.cells #[.int .u8 3] 5)).drew) 5 x).alloc (.cells #[.int .u8 (x.size : Int)] 5)) from (by repeat (first | with_reducible exact Below.refl _ _ | with_reducible assumption | with_reducible refine ch_bytes ?_ _ _ | with_reducible refine ch_alloc ?_ _ | with_reducible refine Below.drew ?_ | with_reducible refine below_draws _ ?_ | with_reducible refine ch_trans ?_ (by with_reducible assumption))))) ((Lib.bytesWorld ((w0.alloc (.cells #[.int .u8 3] 5)).drew) 5 x).heap.size) 0 1 [#[.int .u8 (x.size : Int)]] 1 rfl rfl ((Own.new (Lib.bytesWorld ((w0.alloc (.cells #[.int .u8 3] 5)).drew) 5 x) _ _).loc.row1 rfl) (fun q hq u hu => by simp at hq; subst hq; simp at hu; subst hu; rfl) (by simp) (show Below w0.heap.size w0 ((Lib.bytesWorld ((w0.alloc (.cells #[.int .u8 3] 5)).drew) 5 x).alloc (.cells #[.int .u8 (x.size : Int)] 5)) from (by repeat (first | with_reducible exact Below.refl _ _ | with_reducible assumption | with_reducible refine ch_bytes ?_ _ _ | with_reducible refine ch_alloc ?_ _ | with_reducible refine Below.drew ?_ | with_reducible refine below_draws _ ?_ | with_reducible refine ch_trans ?_ (by with_reducible assumption)))).size ?_; intro v2 w2 hg2 hb2 ht2; have HG2 : Hid (Got w2 w0.heap.size 5 1 v2 ([3].map byX ++ [#[.int .u8 (x.size : Int)]])) := hg2; have HR2 : Hid (RowAt w2 (some ⟨w0.heap.size + 1, 0, none⟩) 1 (x.data.toList.map byX)) := RowAt.turned ((show RowAt (Lib.bytesWorld ((w0.alloc (.cells #[.int .u8 3] 5)).drew) 5 x) (some ⟨w0.heap.size + 1, 0, none⟩) 1 (x.data.toList.map byX) from by (have h1 := bytes_row ((w0.alloc (.cells #[.int .u8 3] 5)).drew) 5 x; rw [show ((w0.alloc (.cells #[.int .u8 3] 5)).drew).heap.size = w0.heap.size + 1 from by simp] at h1; exact h1)).on (show Below _ _ ((Lib.bytesWorld ((w0.alloc (.cells #[.int .u8 3] 5)).drew) 5 x).alloc (.cells #[.int .u8 (x.size : Int)] 5)) from (by repeat (first | with_reducible exact Below.refl _ _ | with_reducible assumption | with_reducible refine ch_bytes ?_ _ _ | with_reducible refine ch_alloc ?_ _ | with_reducible refine Below.drew ?_ | with_reducible refine below_draws _ ?_ | with_reducible refine ch_trans ?_ (by with_reducible assumption))))) ht2 (show w0.heap.size + 1 < ((Lib.bytesWorld ((w0.alloc (.cells #[.int .u8 3] 5)).drew) 5 x).alloc (.cells #[.int .u8 (x.size : Int)] 5)).heap.size from by simp [Lib.bytesWorld_size]) (fun h1 => by (have h2 : w0.heap.size = w0.heap.size + 1 := Option.some.inj h1; omega)); have hw02 : w0.heap.size ≤ w2.heap.size := Nat.le_trans (show Below w0.heap.size w0 ((Lib.bytesWorld ((w0.alloc (.cells #[.int .u8 3] 5)).drew) 5 x).alloc (.cells #[.int .u8 (x.size : Int)] 5)) from (by repeat (first | with_reducible exact Below.refl _ _ | with_reducible assumption | with_reducible refine ch_bytes ?_ _ _ | with_reducible refine ch_alloc ?_ _ | with_reducible refine Below.drew ?_ | with_reducible refine below_draws _ ?_ | with_reducible refine ch_trans ?_ (by with_reducible assumption)))).size hb2.size; have HB2 : Hid (Below w0.heap.size w0 w2) := (show Below w0.heap.size w0 ((Lib.bytesWorld ((w0.alloc (.cells #[.int .u8 3] 5)).drew) 5 x).alloc (.cells #[.int .u8 (x.size : Int)] 5)) from (by repeat (first | with_reducible exact Below.refl _ _ | with_reducible assumption | with_reducible refine ch_bytes ?_ _ _ | with_reducible refine ch_alloc ?_ _ | with_reducible refine Below.drew ?_ | with_reducible refine below_draws _ ?_ | with_reducible refine ch_trans ?_ (by with_reducible assumption)))).trans hb2)
        | (refine app_steps rfl (.tmp 48) (.tmp 51) rfl Tryz.underlying26 infoByte rfl (by decide) (by decide) w0.heap.size v2 ([3].map byX ++ [#[.int .u8 (x.size : Int)]]) rfl (HG2.out.on (bytes_below _ _ _)) w2.heap.size 0 _ (x.data.toList.map byX) x.size (by simp) rfl (bytes_row _ _ _) (byte_one _) (by simp; omega) (by rw [Lib.bytesWorld_size]; omega) ?_; intro v3 w3 hg3 hb3; have HB3 : Hid (Below w0.heap.size w0 w3) := (HB2.out.trans ((bytes_below w2 _ _).mono hw02)).trans hb3)
        | (refine app_steps rfl (.tmp 48) (.tmp 51) rfl Tryz.underlying26 infoByte rfl (by decide) (by decide) w0.heap.size v2 ([3].map byX ++ [#[.int .u8 (x.size : Int)]]) rfl HG2.out _ 0 _ (x.data.toList.map byX) x.size (by simp) rfl HR2.out (byte_one _) (by simp; omega) hw02 ?_; intro v3 w3 hg3 hb3; have HB3 : Hid (Below w0.heap.size w0 w3) := HB2.out.trans hb3)
        | fail)
      all_goals
        have HG3 : Hid (Got w3 w.heap.size 5 1 v3 ((valL ⟨3, n, x⟩).map byX)) := by
          have e1 : (valL ⟨3, n, x⟩).map byX = ([3].map byX ++ [byX (UInt8.ofNat x.size)]) ++ x.data.toList.map byX := by simp [valL, textL]
          show Got _ _ _ _ _ _
          rw [e1, HX.out]
          exact hg3.mono hb0.size
        have HB4 : Hid (Below w.heap.size w w3) := hb0.trans (HB3.out.mono hb0.size)
        clear hg3
        go_wp2
        go_ret2
        exact ⟨_, rfl, HB4.out, HG3.out⟩
  · rw [hok] at HS
    clear hok
    go_enter Tryz.func103, Tryz.ntmps103
    go_wp2_with fail
    refine (HS.out _).mono ?_
    rintro e w0 ⟨rfl, b0⟩
    go_wp2
    go_ret2
    exact ⟨_, rfl, (by repeat (first | with_reducible exact Below.refl _ _ | with_reducible assumption | with_reducible refine ch_alloc ?_ _ | with_reducible refine Below.drew ?_ | with_reducible refine below_draws _ ?_ | (with_reducible refine Below.setCell ?_ ?_ _; rotate_left; focus (first | with_reducible exact Nat.le_refl _ | (simp; done) | (simp; omega) | (simp at *; omega))) | with_reducible refine ch_trans ?_ (by with_reducible assumption))), Got.nil _ _ _ _⟩
end Go.Proofs.YtikccmgpmbnkfaaGreat
