/- A row by names: the whole landed MapRow; the given one. -/
import Derived.Test.YtiijahoheajppaaMrw
import Derived.Test.YtiijahoheajppaaCq
namespace Go.Proofs.Ytiijahoheajppaa
open Go.ChangeShapes Go.WideShapes Go.ChangeAt Go.RowKit

set_option maxRecDepth 100000 in
set_option maxHeartbeats 4000000 in
/-- impl.MapRow -/
theorem mapRow_impl (x : Array Value) (cv vv : Value) (cols : List ByteArray) (t : Tc) (vs : List Vc) (w : World) (hx : TabV w x t) (hc : StrsV w cv cols) (hv : ValsV w vv vs) (hf : t.fit) (hcf : ∀ s ∈ cols, s.size ≤ maxLen) (hn : t.cols.length ≤ 1048576) :
    Calls Try.prog 17 #[cv, .agg x, vv] w fun e w' => ∃ (v : Value) (out : List Vc) (r : Int), e = .returned (.tuple #[.agg #[v], .int .i64 r]) ∧ isMapRow cols t vs (defs t) out r ∧ Below w.heap.size w w' ∧ Got w' w.heap.size 58 3 v (out.map Vc.cells) := by
  obtain ⟨a, p, o, z, rfl, hx, hcs, hks⟩ := hx.lit
  obtain ⟨qt, hqt⟩ := boolOf t.right
  have HQ : Hid (qt = true ↔ t.right) := hqt
  have HT : Hid (∀ u : World, Below w.heap.size w u → Calls Try.prog 36 #[.agg #[.string t.name, .slice a t.cols.length p, .slice o t.keys.length z]] u fun e w' => e = .returned (.bool qt) ∧ Below u.heap.size u w') := fun u hu => (tableOk_impl _ t u (hx.on hu) hf).mono fun e w' ⟨q, h1, h2, h3⟩ => ⟨by rw [h1, bool_same h2 hqt], h3⟩
  have HDF : Hid (∀ u : World, Below w.heap.size w u → Calls Try.prog 47 #[.agg #[.string t.name, .slice a t.cols.length p, .slice o t.keys.length z]] u fun e w' => ∃ v, e = .returned v ∧ Below u.heap.size u w' ∧ Got w' u.heap.size 58 3 v ((defs t).map Vc.cells)) := fun u hu => defaultsOf_any _ t u (hx.on hu) hn
  have HMR : Hid (t.right → ∀ (u : World) (rv : Value), Below w.heap.size w u → ValsV u rv (defs t) → Calls Try.prog 46 #[cv, .agg #[.string t.name, .slice a t.cols.length p, .slice o t.keys.length z], vv, rv] u fun e w' => ∃ (v : Value) (out : List Vc) (r : Int), e = .returned (.tuple #[.agg #[v], .int .i64 r]) ∧ isMapRow cols t vs (defs t) out r ∧ Below u.heap.size u w' ∧ Got w' u.heap.size 58 3 v (out.map Vc.cells)) := fun ht u rv hu hr => mapRow_any _ cv vv rv cols t vs (defs t) u (hx.on hu) (hc.on hu) (hv.on hu) hr hf hcf ht (defs_len t)
  obtain ⟨ac, pc, rfl, _, hpc, _⟩ := hc
  obtain ⟨av, pv, rfl, _, hpv, _⟩ := hv
  have HL0 := Loc.new w #[.string t.name, .slice a t.cols.length p, .slice o t.keys.length z] 32
  have HL := HL0.on (ch_alloc (Below.refl _ _) (.cells #[.slice none 0 0] 41))
  have HO := Own.at (w.alloc (.cells #[.string t.name, .slice a t.cols.length p, .slice o t.keys.length z] 32)) 41 #[.slice none 0 0] (n := w.heap.size + 1) (by simp)
  have hb0 : Below w.heap.size w ((w.alloc (.cells #[.string t.name, .slice a t.cols.length p, .slice o t.keys.length z] 32)).alloc (.cells #[.slice none 0 0] 41)) := (by repeat (first | with_reducible exact Below.refl _ _ | with_reducible assumption | with_reducible refine ch_alloc ?_ _ | with_reducible refine Below.drew ?_ | with_reducible refine below_draws _ ?_ | (with_reducible refine Below.setCell ?_ ?_ _; rotate_left; focus (first | with_reducible exact Nat.le_refl _ | (simp; done) | (simp; omega) | (simp at *; omega))) | with_reducible refine ch_trans ?_ (by with_reducible assumption)))
  clear hx hcs hks hf hcf hqt HL0 hn
  obtain ⟨l0, l1, l2⟩ := HL.three
  go_enter Try.func17, Try.ntmps17
  go_wp2_with fail
  generalize (w.alloc (.cells #[.string t.name, .slice a t.cols.length p, .slice o t.keys.length z] 32)).alloc (.cells #[.slice none 0 0] 41) = u0 at HL HO hb0 l0 l1 l2 ⊢
  refine (HT.out _ hb0).mono ?_
  rintro e w1 ⟨rfl, b1⟩
  have HL1 := HL.on b1
  have HO1 := HO.on b1
  have hb1 := ch_trans hb0 b1
  clear l0 l1 l2 HT HL HO hb0 b1
  cases qt
  · have HI : Hid (isMapRow cols t vs (defs t) [] 1) := Or.inl ⟨fun h => (by have := HQ.out.2 h.1; cases this), rfl, rfl⟩
    have hQ : Own (w1.setCell ⟨w.heap.size + 1, 0, none⟩ (.slice none 0 0)) (w.heap.size + 1) 41 #[.slice none 0 0] := HO1.set 0 _
    have HBd : Hid (Below w.heap.size w (w1.setCell ⟨w.heap.size + 1, 0, none⟩ (.slice none 0 0))) := hb1.setCell (p := ⟨w.heap.size + 1, 0, none⟩) (by show w.heap.size ≤ w.heap.size + 1; omega) _
    have k0 := HO1.frozen 0
    have r0 := HO1.loc.one
    go_wp2
    generalize w1.setCell ⟨w.heap.size + 1, 0, none⟩ (.slice none 0 0) = W at hQ HBd ⊢
    have q0 := hQ.loc.one
    exact bodyPost_ret (v := .tuple #[.agg #[.slice none 0 0], .int .i64 1]) (by simp [results, Try.results17, go_sem, q0]) rfl ⟨_, _, _, rfl, HI.out, HBd.out, Got.nil _ _ _ _⟩
  have HTR : Hid t.right := HQ.out.1 (by trivial)
  obtain ⟨l0, l1, l2⟩ := HL1.three
  go_wp2_with fail
  refine region_planG (Turns fun c => c = w.heap.size + 1) (Turns.rel _) [([0, 1, 2, 3], 4), ([], 5), ([6, 7], 8)] [9] (by kernel_rfl) (by kernel_rfl) ?_
  have hgd := Grows.drawn w1
  generalize { w1 with drawn := w1.drawn + 1 } = wd at hgd ⊢
  have HLd := HL1.on hgd
  have HOd := HO1.on hgd
  have hbd := ch_trans hb1 hgd
  clear l0 l1 l2 HL1 HO1 hb1 hgd HQ
  refine planG_on (by simp only [pick, List.getElem?_toArray, List.getElem?_cons_succ, List.getElem?_cons_zero]; rfl) ?_
  repeat (go_big_quiet_step ((intro hu; have l0 := hu.cell (p := ⟨w.heap.size, 0, none⟩) (by show ¬ (w.heap.size = w.heap.size + 1); omega) HLd.three.1; have l1 := hu.cell (p := ⟨w.heap.size, 1, none⟩) (by show ¬ (w.heap.size = w.heap.size + 1); omega) HLd.three.2.1; have l2 := hu.cell (p := ⟨w.heap.size, 2, none⟩) (by show ¬ (w.heap.size = w.heap.size + 1); omega) HLd.three.2.2; go_simp; (try exact rfl))))
  refine wpQuiet_nil ?_
  refine plan_call rfl rfl (fun K hK => ?_)
  go_simp
  go_at_call 47
  refine (HDF.out _ hbd).mono ?_
  rintro e w2 ⟨v2, rfl, b2, hg2⟩
  refine ⟨_, rfl, hK _ _ ⟨(Turns.refl _ _).below b2, ?_⟩⟩
  have hv2 := hg2.vals
  have HO2 := HOd.on b2
  have hb2 := ch_trans hbd b2
  clear hK K hg2 b2 HLd HOd hbd HDF
  refine planG_on rfl ?_
  refine wpQuiet_nil ?_
  refine plan_call rfl rfl (fun K hK => ?_)
  go_simp
  go_at_call 46
  refine (HMR.out HTR.out _ _ hb2 hv2).mono ?_
  rintro e w3 ⟨v3, out, r, rfl, hi, b3, hg3⟩
  obtain ⟨a3, n3, c3, rfl, hg3⟩ := hg3.lit2
  refine ⟨_, rfl, hK _ _ ⟨(Turns.refl _ _).below b3, ?_⟩⟩
  have HI : Hid (isMapRow cols t vs (defs t) out r) := hi
  have HO3 := HO2.on b3
  have hb3 := ch_trans hb2 b3
  have HG3 : Hid (Got w3 w2.heap.size 58 3 (.slice a3 n3 c3) (out.map Vc.cells)) := hg3
  have hs2 : w.heap.size + 1 < w2.heap.size := HO2.lt
  clear hK K hi hg3 b3 HO2 hb2 hv2 HMR
  refine planG_on (by simp only [pick, List.getElem?_toArray, List.getElem?_cons_succ, List.getElem?_cons_zero]; rfl) ?_
  repeat (go_big_quiet_step ((intro hu; go_simp; (try exact rfl))))
  refine wpQuiet_nil ?_
  refine plan_call rfl rfl (fun K hK => ?_)
  have g0 := HO3.loc.one
  have i0 := HO3.frozen 0
  have hT := (Turns.refl (fun c => c = w.heap.size + 1) w3).set (p := ⟨w.heap.size + 1, 0, none⟩) rfl (.slice a3 n3 c3)
  have hQ : Own (w3.setCell ⟨w.heap.size + 1, 0, none⟩ (.slice a3 n3 c3)) (w.heap.size + 1) 41 #[.slice a3 n3 c3] := HO3.set 0 _
  have HBd : Hid (Below w.heap.size w (w3.setCell ⟨w.heap.size + 1, 0, none⟩ (.slice a3 n3 c3))) := hb3.setCell (p := ⟨w.heap.size + 1, 0, none⟩) (by show w.heap.size ≤ w.heap.size + 1; omega) _
  have HGd : Hid (Got (w3.setCell ⟨w.heap.size + 1, 0, none⟩ (.slice a3 n3 c3)) w.heap.size 58 3 (.slice a3 n3 c3) (out.map Vc.cells)) := (HG3.out.turns hT fun c hc => by have h2 : c = w.heap.size + 1 := hc; omega).mono (by omega)
  go_simp
  refine hK _ _ ⟨hT, ?_⟩
  clear hK K hT g0 i0 HO3 HG3 hb3
  generalize w3.setCell ⟨w.heap.size + 1, 0, none⟩ (.slice a3 n3 c3) = W at hQ HBd HGd ⊢
  refine planG_end (by simp only [pick, List.getElem?_toArray, List.getElem?_cons_succ, List.getElem?_cons_zero]; rfl) ?_
  repeat (go_big_quiet_step ((intro hu; go_simp; (try exact rfl))))
  refine wpQuiet_nil ?_
  have q0 := hQ.loc.one
  go_wp2
  exact bodyPost_ret (v := .tuple #[.agg #[.slice a3 n3 c3], .int .i64 r]) (by simp [results, Try.results17, go_sem, q0]) rfl ⟨_, _, _, rfl, HI.out, HBd.out, HGd.out⟩

end Go.Proofs.Ytiijahoheajppaa
