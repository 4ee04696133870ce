/- One statement of a call's own marked and held, by its places. -/
import Derived.Test.YtikccmgpmbnkfaaGreatGp
namespace Go.Proofs.YtikccmgpmbnkfaaGreat
open Go.ChangeShapes Go.WideShapes Go.ChangeAt Go.RowKit

theorem Mk.front {w u wr : World} {k : Nat} {ps : List Plc} (b : Below w.heap.size w u) (g : Mk u wr k ps) : Mk w wr k ps := by
  have := ((Mk.refl w k).below b).trans (qs := ps) (wr := wr) (by simpa using g) (by simp) (by simp)
  simpa using this
theorem Mk.loc {w wr : World} {k b : Nat} {ps : List Plc} {x : Array Value} (h : Mk w wr k ps) (hl : Loc w b x) (hb : b < w.heap.size) (hn : ∀ p ∈ ps, p.1.block ≠ b) : Loc wr b x := fun j hj =>
  (h.cell ⟨b, j, none⟩ hb fun hm => by
    obtain ⟨p, hp, e⟩ := List.mem_map.1 hm
    exact hn p hp (by rw [e])).trans (hl j hj)
theorem Marked.split {w : World} {k : Nat} {ps qs : List Plc} (h : Marked w k (ps ++ qs)) : Marked w k ps ∧ Marked w (k + ps.length) qs := by
  refine ⟨fun j hj => ?_, fun j hj => ?_⟩
  · have := h j (by simp; omega)
    rwa [List.getElem_append_left hj] at this
  · have := h (ps.length + j) (by simp; omega)
    rw [List.getElem_append_right (by omega)] at this
    simpa [Nat.add_assoc] using this
theorem ValsP.lay : Lay ValsP := leaves_lay _ _
theorem ColsP.lay : Lay ColsP := leaves_lay _ _
theorem StrsP.lay : Lay StrsP := leaves_lay _ _

set_option maxRecDepth 100000 in
/-- laws.markRow -/
theorem markRow_pl {w : World} {v : Value} {ps : List Plc} (h : ValsP w v ps) (k : Nat) (hk : k ≤ 1000000000000000000) :
    Calls Tryz.prog 50 #[.agg #[v], .int .i64 k] w fun e w' => e = .returned (.int .i64 ((k + ps.length : Nat) : Int)) ∧ Mk w w' k ps := by
  obtain ⟨a, n, c, rfl⟩ := RowP.lit h
  have hb : Below w.heap.size w (w.alloc (.cells #[.slice a n c] 42)) := ch_alloc (Below.refl _ _) _
  have HM : Hid (Calls Tryz.prog 49 #[.slice a n c, .int .i64 k] (w.alloc (.cells #[.slice a n c] 42)) fun e w' => e = .returned (.int .i64 ((k + ps.length : Nat) : Int)) ∧ Mk (w.alloc (.cells #[.slice a n c] 42)) w' k ps) := markValS_pl (ValsP.lay.2 (fun _ => False) _ _ _ _ ((Marks.refl _ w).below hb) h) k (by omega)
  clear h
  generalize k + ps.length = K at HM ⊢
  go_enter Tryz.func50, Tryz.ntmps50
  go_wp2_with fail
  refine HM.out.mono ?_
  rintro e w1 ⟨rfl, hm⟩
  have HK : Hid (Mk w w1 k ps) := Mk.front hb hm
  clear hm HM
  go_wp2
  go_ret
  exact ⟨rfl, HK.out⟩

set_option maxRecDepth 100000 in
/-- laws.heldRow -/
theorem heldRow_pl {w : World} {v : Value} {ps : List Plc} (h : ValsP w v ps) (k : Nat) (hk : k ≤ 1000000000000000000) (hm : Marked w k ps) :
    Calls Tryz.prog 53 #[.agg #[v], .int .i64 k] w fun e w' => e = .returned (.int .i64 ((k + ps.length : Nat) : Int)) ∧ Below w.heap.size w w' := by
  obtain ⟨a, n, c, rfl⟩ := RowP.lit h
  have hb : Below w.heap.size w (w.alloc (.cells #[.slice a n c] 42)) := ch_alloc (Below.refl _ _) _
  have HM : Hid (Calls Tryz.prog 52 #[.slice a n c, .int .i64 k] (w.alloc (.cells #[.slice a n c] 42)) fun e w' => e = .returned (.int .i64 ((k + ps.length : Nat) : Int)) ∧ Below (w.alloc (.cells #[.slice a n c] 42)).heap.size (w.alloc (.cells #[.slice a n c] 42)) w') := heldValS_pl (ValsP.lay.2 (fun _ => False) _ _ _ _ ((Marks.refl _ w).below hb) h) k (by omega) (hm.on hb)
  have hK : decide (((k + ps.length : Nat) : Int) < 0) = false := by simp; omega
  clear h hm
  generalize k + ps.length = K at HM hK ⊢
  go_enter Tryz.func53, Tryz.ntmps53
  go_wp2_with fail
  refine HM.out.mono ?_
  rintro e w1 ⟨rfl, hm⟩
  have HK : Hid (Below w.heap.size w w1) := ch_trans hb hm
  clear hm HM
  go_wp2
  go_ret
  exact ⟨rfl, HK.out⟩

set_option maxRecDepth 100000 in
set_option maxHeartbeats 1000000 in
/-- laws.markDdl -/
theorem markDdl_pl {w : World} {dk : Int} {dt dn dto : ByteArray} {c o : Value} {ps qs : List Plc} (hc : ColsP w c ps) (ho : StrsP w o qs) (hn : ((ps ++ qs).map (·.1)).Nodup) (k : Nat) (hk : k ≤ 1000000000000000000) :
    Calls Tryz.prog 51 #[.agg #[.int .i64 dk, .string dt, c, o, .string dn, .string dto], .int .i64 k] w fun e w' => e = .returned (.int .i64 ((k + (ps ++ qs).length : Nat) : Int)) ∧ Mk w w' k (ps ++ qs) := by
  obtain ⟨a, n, x, rfl⟩ := RowP.lit hc
  obtain ⟨a', n', x', rfl⟩ := RowP.lit ho
  have hpl := ColsP_len hc
  have hpb := ColsP.lay.1 _ _ _ hc
  have hb : Below w.heap.size w (w.alloc (.cells #[.int .i64 dk, .string dt, .slice a n x, .slice a' n' x', .string dn, .string dto] 46)) := ch_alloc (Below.refl _ _) _
  have hL := Loc.new w #[.int .i64 dk, .string dt, .slice a n x, .slice a' n' x', .string dn, .string dto] 46
  have HC : Hid (ColsP (w.alloc (.cells #[.int .i64 dk, .string dt, .slice a n x, .slice a' n' x', .string dn, .string dto] 46)) (.slice a n x) ps) := ColsP.lay.2 (fun _ => False) _ _ _ _ ((Marks.refl _ w).below hb) hc
  have HO : Hid (StrsP (w.alloc (.cells #[.int .i64 dk, .string dt, .slice a n x, .slice a' n' x', .string dn, .string dto] 46)) (.slice a' n' x') qs) := StrsP.lay.2 (fun _ => False) _ _ _ _ ((Marks.refl _ w).below hb) ho
  have hz : (w.alloc (.cells #[.int .i64 dk, .string dt, .slice a n x, .slice a' n' x', .string dn, .string dto] 46)).heap.size = w.heap.size + 1 := by simp
  clear hc ho
  go_enter Tryz.func51, Tryz.ntmps51
  go_wp2_with fail
  refine (markColS_pl HC.out k (by omega)).mono ?_
  rintro e w1 ⟨rfl, hm⟩
  have hl1 := (hm.loc hL (by omega) fun p hp => by have := hpb p hp; omega).six
  obtain ⟨d0, d1, d2, d3, d4, d5⟩ := hl1
  have HO1 : Hid (StrsP w1 (.slice a' n' x') qs) := StrsP.lay.2 _ _ _ _ _ hm.marks HO.out
  have HM1 : Hid (Mk (w.alloc (.cells #[.int .i64 dk, .string dt, .slice a n x, .slice a' n' x', .string dn, .string dto] 46)) w1 k ps) := hm
  clear hm HC HO
  go_wp2_with fail
  refine (markStringS_pl HO1.out (k + ps.length) (by omega)).mono ?_
  rintro e w2 ⟨rfl, hm⟩
  have HK : Hid (Mk w w2 k (ps ++ qs)) := Mk.front hb (HM1.out.trans hm (fun p hp => by have := hpb p hp; have := HM1.out.marks.turns.size; omega) fun p hp hq => by
    rw [List.map_append, List.nodup_append] at hn
    exact hn.2.2 _ (List.mem_map.2 ⟨p, hp, rfl⟩) _ hq rfl)
  have hK : k + ps.length + qs.length = k + (ps ++ qs).length := by rw [List.length_append]; omega
  rw [hK]
  clear hm HM1 HO1 hK
  obtain ⟨K, hKd⟩ : ∃ K, k + (ps ++ qs).length = K := ⟨_, rfl⟩
  rw [hKd]
  have HKd : Hid (k + (ps ++ qs).length = K) := hKd
  clear hKd
  go_wp2
  go_ret
  exact ⟨by rw [HKd.out]; rfl, HK.out⟩

set_option maxRecDepth 100000 in
set_option maxHeartbeats 1000000 in
/-- laws.heldDdl -/
theorem heldDdl_pl {w : World} {dk : Int} {dt dn dto : ByteArray} {c o : Value} {ps qs : List Plc} (hc : ColsP w c ps) (ho : StrsP w o qs) (k : Nat) (hk : k ≤ 1000000000000000000) (hm : Marked w k (ps ++ qs)) :
    Calls Tryz.prog 54 #[.agg #[.int .i64 dk, .string dt, c, o, .string dn, .string dto], .int .i64 k] w fun e w' => e = .returned (.int .i64 ((k + (ps ++ qs).length : Nat) : Int)) ∧ Below w.heap.size w w' := by
  obtain ⟨a, n, x, rfl⟩ := RowP.lit hc
  obtain ⟨a', n', x', rfl⟩ := RowP.lit ho
  have hpl := ColsP_len hc
  have hb : Below w.heap.size w (w.alloc (.cells #[.int .i64 dk, .string dt, .slice a n x, .slice a' n' x', .string dn, .string dto] 46)) := ch_alloc (Below.refl _ _) _
  have hL := Loc.new w #[.int .i64 dk, .string dt, .slice a n x, .slice a' n' x', .string dn, .string dto] 46
  have HC : Hid (∀ u : World, Below w.heap.size w u → ColsP u (.slice a n x) ps ∧ StrsP u (.slice a' n' x') qs ∧ Marked u k ps ∧ Marked u (k + ps.length) qs) := fun u hu => ⟨ColsP.lay.2 (fun _ => False) _ _ _ _ ((Marks.refl _ w).below hu) hc, StrsP.lay.2 (fun _ => False) _ _ _ _ ((Marks.refl _ w).below hu) ho, hm.split.1.on hu, hm.split.2.on hu⟩
  have h1 : decide (((k + ps.length : Nat) : Int) < 0) = false := by simp; omega
  clear hc ho hm
  go_enter Tryz.func54, Tryz.ntmps54
  go_wp2_with fail
  refine (heldColS_pl (HC.out _ hb).1 k (by omega) (HC.out _ hb).2.2.1).mono ?_
  rintro e w1 ⟨rfl, b1⟩
  obtain ⟨d0, d1, d2, d3, d4, d5⟩ := (hL.on b1).six
  have hb1 := ch_trans hb b1
  clear b1
  go_wp2_with fail
  refine (heldStringS_pl (HC.out _ hb1).2.1 (k + ps.length) (by omega) (HC.out _ hb1).2.2.2).mono ?_
  rintro e w2 ⟨rfl, b2⟩
  have hK : k + ps.length + qs.length = k + (ps ++ qs).length := by rw [List.length_append]; omega
  have h2 : decide (((k + (ps ++ qs).length : Nat) : Int) < 0) = false := by simp; omega
  rw [hK]
  have hb2 := ch_trans hb1 b2
  clear b2 HC
  obtain ⟨K, hKd⟩ : ∃ K, k + (ps ++ qs).length = K := ⟨_, rfl⟩
  rw [hKd] at h2 ⊢
  have HKd : Hid (k + (ps ++ qs).length = K) := hKd
  clear hKd
  go_wp2
  go_ret
  exact ⟨by rw [HKd.out]; rfl, hb2⟩

/-- A statement's lists, marked from k on. -/
def HeldE (w : World) (E : Est) (k : Nat) : Prop := (ValsP w E.k E.p2 ∧ ValsP w E.r E.p3 ∧ ColsP w E.c E.p6 ∧ StrsP w E.o E.p7) ∧ Marked w k (E.p2 ++ (E.p3 ++ (E.p6 ++ E.p7)))
theorem HeldE.on {w w' : World} {E : Est} {k : Nat} (h : HeldE w E k) (b : Below w.heap.size w w') : HeldE w' E k :=
  ⟨⟨ValsP.lay.2 (fun _ => False) _ _ _ _ ((Marks.refl _ w).below b) h.1.1, ValsP.lay.2 (fun _ => False) _ _ _ _ ((Marks.refl _ w).below b) h.1.2.1, ColsP.lay.2 (fun _ => False) _ _ _ _ ((Marks.refl _ w).below b) h.1.2.2.1, StrsP.lay.2 (fun _ => False) _ _ _ _ ((Marks.refl _ w).below b) h.1.2.2.2⟩, h.2.on b⟩
theorem Est.Good.parts {w : World} {E : Est} (h : E.Good w) : ValsP w E.k E.p2 ∧ ValsP w E.r E.p3 ∧ ColsP w E.c E.p6 ∧ StrsP w E.o E.p7 := by
  obtain ⟨h1, h2, h3, h4⟩ := h.reads w fun _ _ _ => rfl
  exact ⟨h1.2, h2.2, h3.2, h4.2⟩

set_option maxRecDepth 100000 in
set_option maxHeartbeats 2000000 in
/-- laws.markStmt -/
theorem markStmt_pl {w : World} {E : Est} (h : E.Good w) (k : Nat) (hk : k ≤ 100000000000000000) :
    Calls Tryz.prog 21 #[.agg E.cells, .int .i64 k] w fun e w' => e = .returned (.int .i64 ((k + (E.p2 ++ (E.p3 ++ (E.p6 ++ E.p7))).length : Nat) : Int)) ∧ Turns (fun c => E.lo ≤ c ∧ c < E.hi) w w' ∧ HeldE w' E k := by
  obtain ⟨q2, q3, q6, q7⟩ := h.parts
  have hin := h.inside
  have htop := h.top
  have hnd := h.nodup
  obtain ⟨s, vk, vr, vc, vo, p2, p3, p6, p7, lo, hi⟩ := E
  simp only [Est.pl] at hin hnd q2 q3 q6 q7 htop ⊢
  have hnd' : ((p2 ++ (p3 ++ (p6 ++ p7))).map (·.1)).Nodup := by simpa [List.append_assoc] using hnd
  have hin' : ∀ p ∈ p2 ++ (p3 ++ (p6 ++ p7)), lo ≤ p.1.block ∧ p.1.block < hi := fun p hp => hin p (by simpa [List.append_assoc] using hp)
  have n2 := hnd'
  rw [List.map_append, List.nodup_append] at n2
  have n3 := n2.2.1
  rw [List.map_append, List.nodup_append] at n3
  obtain ⟨a2, m2, c2, rfl⟩ := RowP.lit q2
  obtain ⟨a3, m3, c3, rfl⟩ := RowP.lit q3
  obtain ⟨a6, m6, c6, rfl⟩ := RowP.lit q6
  obtain ⟨a7, m7, c7, rfl⟩ := RowP.lit q7
  have l2 := ValsP_len q2
  have l3 := ValsP_len q3
  have l6 := ColsP_len q6
  have l7 := StrsP_len q7
  have hb : Below w.heap.size w (w.alloc (.cells #[.int .i64 s.kind, .string s.table, .slice a2 m2 c2, .slice a3 m3 c3, .int .i64 s.ddl.kind, .string s.ddl.table, .slice a6 m6 c6, .slice a7 m7 c7, .string s.ddl.name, .string s.ddl.to] 48)) := ch_alloc (Below.refl _ _) _
  have hL := Loc.new w #[.int .i64 s.kind, .string s.table, .slice a2 m2 c2, .slice a3 m3 c3, .int .i64 s.ddl.kind, .string s.ddl.table, .slice a6 m6 c6, .slice a7 m7 c7, .string s.ddl.name, .string s.ddl.to] 48
  have hz : (w.alloc (.cells #[.int .i64 s.kind, .string s.table, .slice a2 m2 c2, .slice a3 m3 c3, .int .i64 s.ddl.kind, .string s.ddl.table, .slice a6 m6 c6, .slice a7 m7 c7, .string s.ddl.name, .string s.ddl.to] 48)).heap.size = w.heap.size + 1 := by simp
  have HP : Hid (ValsP (w.alloc (.cells #[.int .i64 s.kind, .string s.table, .slice a2 m2 c2, .slice a3 m3 c3, .int .i64 s.ddl.kind, .string s.ddl.table, .slice a6 m6 c6, .slice a7 m7 c7, .string s.ddl.name, .string s.ddl.to] 48)) (.slice a2 m2 c2) p2 ∧ ValsP (w.alloc (.cells #[.int .i64 s.kind, .string s.table, .slice a2 m2 c2, .slice a3 m3 c3, .int .i64 s.ddl.kind, .string s.ddl.table, .slice a6 m6 c6, .slice a7 m7 c7, .string s.ddl.name, .string s.ddl.to] 48)) (.slice a3 m3 c3) p3 ∧ ColsP (w.alloc (.cells #[.int .i64 s.kind, .string s.table, .slice a2 m2 c2, .slice a3 m3 c3, .int .i64 s.ddl.kind, .string s.ddl.table, .slice a6 m6 c6, .slice a7 m7 c7, .string s.ddl.name, .string s.ddl.to] 48)) (.slice a6 m6 c6) p6 ∧ StrsP (w.alloc (.cells #[.int .i64 s.kind, .string s.table, .slice a2 m2 c2, .slice a3 m3 c3, .int .i64 s.ddl.kind, .string s.ddl.table, .slice a6 m6 c6, .slice a7 m7 c7, .string s.ddl.name, .string s.ddl.to] 48)) (.slice a7 m7 c7) p7) :=
    ⟨ValsP.lay.2 (fun _ => False) _ _ _ _ ((Marks.refl _ w).below hb) q2, ValsP.lay.2 (fun _ => False) _ _ _ _ ((Marks.refl _ w).below hb) q3, ColsP.lay.2 (fun _ => False) _ _ _ _ ((Marks.refl _ w).below hb) q6, StrsP.lay.2 (fun _ => False) _ _ _ _ ((Marks.refl _ w).below hb) q7⟩
  have HIN : Hid (∀ p ∈ p2 ++ (p3 ++ (p6 ++ p7)), lo ≤ p.1.block ∧ p.1.block < hi) := hin'
  have HND : Hid ((∀ p ∈ p2, p.1 ∉ (p3 ++ (p6 ++ p7)).map (·.1)) ∧ (∀ p ∈ p3, p.1 ∉ (p6 ++ p7).map (·.1)) ∧ ((p6 ++ p7).map (·.1)).Nodup) := ⟨fun p hp hq => n2.2.2 _ (List.mem_map.2 ⟨p, hp, rfl⟩) _ hq rfl, fun p hp hq => n3.2.2 _ (List.mem_map.2 ⟨p, hp, rfl⟩) _ hq rfl, n3.2.1⟩
  clear q2 q3 q6 q7 hin hnd hin' hnd' n2 n3 h
  go_enter Tryz.func21, Tryz.ntmps21
  go_wp2_with fail
  refine (markValS_pl HP.out.1 k (by omega)).mono ?_
  rintro e w1 ⟨rfl, hm1⟩
  have HM1 : Hid (Mk (w.alloc (.cells #[.int .i64 s.kind, .string s.table, .slice a2 m2 c2, .slice a3 m3 c3, .int .i64 s.ddl.kind, .string s.ddl.table, .slice a6 m6 c6, .slice a7 m7 c7, .string s.ddl.name, .string s.ddl.to] 48)) w1 k p2) := hm1
  have hL1 := hm1.loc hL (by omega) fun p hp => by have := (HIN.out p (by simp [hp])).2; omega
  obtain ⟨d0, d1, d2, d3, d4, d5, d6, d7, d8, d9⟩ := hL1.ten
  have HQ3 : Hid (ValsP w1 (.slice a3 m3 c3) p3) := ValsP.lay.2 _ _ _ _ _ hm1.marks HP.out.2.1
  have hs1 := hm1.marks.turns.size
  clear hm1
  go_wp2_with fail
  refine (markRow_pl HQ3.out (k + p2.length) (by omega)).mono ?_
  rintro e w2 ⟨rfl, hm2⟩
  have HM2 : Hid (Mk w1 w2 (k + p2.length) p3) := hm2
  have hL2 := hm2.loc hL1 (by omega) fun p hp => by have := (HIN.out p (by simp [hp])).2; omega
  have hs2 := hm2.marks.turns.size
  have HQ6 : Hid (ColsP w2 (.slice a6 m6 c6) p6) := ColsP.lay.2 _ _ _ _ _ hm2.marks (ColsP.lay.2 _ _ _ _ _ HM1.out.marks HP.out.2.2.1)
  have HQ7 : Hid (StrsP w2 (.slice a7 m7 c7) p7) := StrsP.lay.2 _ _ _ _ _ hm2.marks (StrsP.lay.2 _ _ _ _ _ HM1.out.marks HP.out.2.2.2)
  clear hm2 d0 d1 d2 d3 d4 d5 d6 d7 d8 d9
  obtain ⟨d0, d1, d2, d3, d4, d5, d6, d7, d8, d9⟩ := hL2.ten
  go_wp2_with fail
  refine (markDdl_pl HQ6.out HQ7.out HND.out.2.2 (k + p2.length + p3.length) (by omega)).mono ?_
  rintro e w3 ⟨rfl, hm3⟩
  have hm23 := HM2.out.trans hm3 (fun p hp => by have := (HIN.out p (by simp [hp])).2; omega) HND.out.2.1
  have hm13 := HM1.out.trans hm23 (fun p hp => by have := (HIN.out p (by simp [hp])).2; omega) HND.out.1
  have HMK : Hid (Mk w w3 k (p2 ++ (p3 ++ (p6 ++ p7)))) := Mk.front hb hm13
  have HE : Hid (HeldE w3 ⟨s, .slice a2 m2 c2, .slice a3 m3 c3, .slice a6 m6 c6, .slice a7 m7 c7, p2, p3, p6, p7, lo, hi⟩ k) := ⟨⟨ValsP.lay.2 _ _ _ _ _ hm13.marks HP.out.1, ValsP.lay.2 _ _ _ _ _ hm13.marks HP.out.2.1, ColsP.lay.2 _ _ _ _ _ hm13.marks HP.out.2.2.1, StrsP.lay.2 _ _ _ _ _ hm13.marks HP.out.2.2.2⟩, fun j hj => hm13.done j hj⟩
  have HT : Hid (Turns (fun c => lo ≤ c ∧ c < hi) w w3) := HMK.out.marks.turns.mono fun c ⟨p, hp, e⟩ => e ▸ HIN.out p hp
  have hK : k + p2.length + p3.length + (p6 ++ p7).length = k + (p2 ++ (p3 ++ (p6 ++ p7))).length := by simp; omega
  rw [hK]
  clear hm23 hm13 hm3 HM1 HM2 HQ3 HQ6 HQ7 HP HMK hK d0 d1 d2 d3 d4 d5 d6 d7 d8 d9 hL1 hL2 hL
  obtain ⟨K, hKd⟩ : ∃ K, k + (p2 ++ (p3 ++ (p6 ++ p7))).length = K := ⟨_, rfl⟩
  rw [hKd]
  have HKd : Hid (k + (p2 ++ (p3 ++ (p6 ++ p7))).length = K) := hKd
  clear hKd
  go_wp2
  go_ret
  exact ⟨by rw [HKd.out]; rfl, HT.out, HE.out⟩

set_option maxRecDepth 100000 in
set_option maxHeartbeats 2000000 in
/-- laws.heldStmt -/
theorem heldStmt_pl {w : World} {E : Est} (k : Nat) (hk : k ≤ 100000000000000000) (h : HeldE w E k) :
    Calls Tryz.prog 22 #[.agg E.cells, .int .i64 k] w fun e w' => e = .returned (.int .i64 ((k + (E.p2 ++ (E.p3 ++ (E.p6 ++ E.p7))).length : Nat) : Int)) ∧ Below w.heap.size w w' := by
  have HE : Hid (∀ u : World, Below w.heap.size w u → HeldE u E k) := fun u hu => h.on hu
  obtain ⟨⟨q2, q3, q6, q7⟩, _⟩ := h
  obtain ⟨s, vk, vr, vc, vo, p2, p3, p6, p7, lo, hi⟩ := E
  simp only at q2 q3 q6 q7 ⊢
  obtain ⟨a2, m2, c2, rfl⟩ := RowP.lit q2
  obtain ⟨a3, m3, c3, rfl⟩ := RowP.lit q3
  obtain ⟨a6, m6, c6, rfl⟩ := RowP.lit q6
  obtain ⟨a7, m7, c7, rfl⟩ := RowP.lit q7
  have l2 := ValsP_len q2
  have l3 := ValsP_len q3
  have l6 := ColsP_len q6
  have l7 := StrsP_len q7
  have hb : Below w.heap.size w (w.alloc (.cells #[.int .i64 s.kind, .string s.table, .slice a2 m2 c2, .slice a3 m3 c3, .int .i64 s.ddl.kind, .string s.ddl.table, .slice a6 m6 c6, .slice a7 m7 c7, .string s.ddl.name, .string s.ddl.to] 48)) := ch_alloc (Below.refl _ _) _
  have hL := Loc.new w #[.int .i64 s.kind, .string s.table, .slice a2 m2 c2, .slice a3 m3 c3, .int .i64 s.ddl.kind, .string s.ddl.table, .slice a6 m6 c6, .slice a7 m7 c7, .string s.ddl.name, .string s.ddl.to] 48
  have HM : Hid (∀ u : World, Below w.heap.size w u → (ValsP u (.slice a2 m2 c2) p2 ∧ ValsP u (.slice a3 m3 c3) p3 ∧ ColsP u (.slice a6 m6 c6) p6 ∧ StrsP u (.slice a7 m7 c7) p7) ∧ Marked u k p2 ∧ Marked u (k + p2.length) p3 ∧ Marked u (k + p2.length + p3.length) (p6 ++ p7)) := fun u hu => ⟨(HE.out u hu).1, (HE.out u hu).2.split.1, (HE.out u hu).2.split.2.split.1, (HE.out u hu).2.split.2.split.2⟩
  have h1 : decide (((k + p2.length : Nat) : Int) < 0) = false := by simp; omega
  have h2 : decide (((k + p2.length + p3.length : Nat) : Int) < 0) = false := by simp; omega
  clear q2 q3 q6 q7 HE
  go_enter Tryz.func22, Tryz.ntmps22
  go_wp2_with fail
  refine (heldValS_pl (HM.out _ hb).1.1 k (by omega) (HM.out _ hb).2.1).mono ?_
  rintro e w1 ⟨rfl, b1⟩
  have hL1 := hL.on b1
  have hb1 := ch_trans hb b1
  obtain ⟨d0, d1, d2, d3, d4, d5, d6, d7, d8, d9⟩ := hL1.ten
  clear b1 hL
  go_wp2_with fail
  refine (heldRow_pl (HM.out _ hb1).1.2.1 (k + p2.length) (by omega) (HM.out _ hb1).2.2.1).mono ?_
  rintro e w2 ⟨rfl, b2⟩
  have hL2 := hL1.on b2
  have hb2 := ch_trans hb1 b2
  clear b2 hL1 d0 d1 d2 d3 d4 d5 d6 d7 d8 d9
  obtain ⟨d0, d1, d2, d3, d4, d5, d6, d7, d8, d9⟩ := hL2.ten
  go_wp2_with fail
  refine (heldDdl_pl (HM.out _ hb2).1.2.2.1 (HM.out _ hb2).1.2.2.2 (k + p2.length + p3.length) (by omega) (HM.out _ hb2).2.2.2).mono ?_
  rintro e w3 ⟨rfl, b3⟩
  have hb3 := ch_trans hb2 b3
  have hK : k + p2.length + p3.length + (p6 ++ p7).length = k + (p2 ++ (p3 ++ (p6 ++ p7))).length := by simp; omega
  rw [hK]
  have h3 : decide (((k + (p2 ++ (p3 ++ (p6 ++ p7))).length : Nat) : Int) < 0) = false := by simp; omega
  clear hK HM b3
  obtain ⟨K, hKd⟩ : ∃ K, k + (p2 ++ (p3 ++ (p6 ++ p7))).length = K := ⟨_, rfl⟩
  rw [hKd] at h3 ⊢
  have HKd : Hid (k + (p2 ++ (p3 ++ (p6 ++ p7))).length = K) := hKd
  clear hKd
  go_wp2
  go_ret
  exact ⟨by rw [HKd.out]; rfl, hb3⟩
end Go.Proofs.YtikccmgpmbnkfaaGreat
