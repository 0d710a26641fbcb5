/- FuSame, FuFew, SpWMath, put together. -/
import Derived.Test.YtbokhofdgdcpdaaDoorFu23
import Derived.Test.YtbokhofdgdcpdaaDoorFu27
import Derived.Test.YtbokhofdgdcpdaaDoorFu17
import Derived.Test.YtbokhofdgdcpdaaDoorFu03
/- The reference's Same: nets that read as the same are. -/
namespace Go.Proofs.YtbokhofdgdcpdaaDoor
open Go.RowKit Go.Lib Go.Joins
/-- the boxes of two nets -/
theorem net_box2 (w : World) (vs vo vl vf v1 us uo ul uf u1 : Value) (t : TypeId) : ∀ w', Below (w.heap.size + 2) ((w.alloc (.cells #[vs, vo, vl, vf, v1] t)).alloc (.cells #[us, uo, ul, uf, u1] t)) w' →
    (w'.cell? ⟨w.heap.size, 0, none⟩ = some vs ∧ w'.cell? ⟨w.heap.size, 1, none⟩ = some vo ∧ w'.cell? ⟨w.heap.size, 2, none⟩ = some vl ∧ w'.cell? ⟨w.heap.size, 3, none⟩ = some vf ∧ w'.cell? ⟨w.heap.size, 4, none⟩ = some v1) ∧
    (w'.cell? ⟨w.heap.size + 1, 0, none⟩ = some us ∧ w'.cell? ⟨w.heap.size + 1, 1, none⟩ = some uo ∧ w'.cell? ⟨w.heap.size + 1, 2, none⟩ = some ul ∧ w'.cell? ⟨w.heap.size + 1, 3, none⟩ = some uf ∧ w'.cell? ⟨w.heap.size + 1, 4, none⟩ = some u1) := fun w' hb => by
  have hg := (hb.block w.heap.size (by omega)).trans (heap_alloc2_old w (.cells #[vs, vo, vl, vf, v1] t) (.cells #[us, uo, ul, uf, u1] t))
  have hh := (hb.block (w.heap.size + 1) (by omega)).trans (heap_alloc2_new w (.cells #[vs, vo, vl, vf, v1] t) (.cells #[us, uo, ul, uf, u1] t))
  exact ⟨⟨cell_of_row _ _ 0 _ _ _ hg, cell_of_row _ _ 1 _ _ _ hg, cell_of_row _ _ 2 _ _ _ hg, cell_of_row _ _ 3 _ _ _ hg, cell_of_row _ _ 4 _ _ _ hg⟩, cell_of_row _ _ 0 _ _ _ hh, cell_of_row _ _ 1 _ _ _ hh, cell_of_row _ _ 2 _ _ _ hh, cell_of_row _ _ 3 _ _ _ hh, cell_of_row _ _ 4 _ _ _ hh⟩
set_option maxHeartbeats 8000000 in
set_option maxRecDepth 100000 in
theorem rsame12_calls {w : World} {vs vo vl vf v1 us uo ul uf u1 : Value} {N : NetM} (h : RdNet w.heap.size w vs vo vl vf v1 N) (h' : RdNet w.heap.size w us uo ul uf u1 N) (hln : N.sets.length ≤ 100000 ∧ N.last.length ≤ 100000 ∧ N.fol.length ≤ 100000) :
    Calls Tryd.prog 31 #[.agg #[vs, vo, vl, vf, v1], .agg #[us, uo, ul, uf, u1]] w fun e w' => e = .returned (.bool true) ∧ Below w.heap.size w w' := by
  have hba := ((Below.refl w.heap.size w).alloc (Nat.le_refl _) (.cells #[vs, vo, vl, vf, v1] 48)).alloc (by simp) (.cells #[us, uo, ul, uf, u1] 48)
  have hbx := net_box2 w vs vo vl vf v1 us uo ul uf u1 48
  obtain ⟨w0, hw0⟩ : ∃ w0, w0 = (w.alloc (.cells #[vs, vo, vl, vf, v1] 48)).alloc (.cells #[us, uo, ul, uf, u1] 48) := ⟨_, rfl⟩
  have hs0 : w0.heap.size = w.heap.size + 2 := by rw [hw0]; simp
  rw [← hw0] at hba hbx
  obtain ⟨sa, cs, rfl⟩ := h.sets.form
  obtain ⟨so, co, rfl⟩ := h.of.form
  obtain ⟨sl, cl, rfl⟩ := h.last.form
  obtain ⟨sf, cf, rfl⟩ := h.fol.form
  obtain ⟨s1, c1, rfl⟩ := h.first.form
  obtain ⟨ta, ds, rfl⟩ := h'.sets.form
  obtain ⟨t_o, d_o, rfl⟩ := h'.of.form
  obtain ⟨tl, dl, rfl⟩ := h'.last.form
  obtain ⟨tf, df, rfl⟩ := h'.fol.form
  obtain ⟨t1, d1, rfl⟩ := h'.first.form
  have HBA := hidden hba
  have HBX := hidden hbx
  have HW0 := hidden hw0
  have HS0 := hidden hs0
  have HA := hidden (fun W (hb : Below w.heap.size w W) i (hi : i < N.sets.length) => h.sets.at hb i hi)
  have HA' := hidden (fun W (hb : Below w.heap.size w W) i (hi : i < N.sets.length) => h'.sets.at hb i hi)
  have HL := hidden (fun W (hb : Below w.heap.size w W) i (hi : i < N.last.length) => h.last.at hb i hi)
  have HL' := hidden (fun W (hb : Below w.heap.size w W) i (hi : i < N.last.length) => h'.last.at hb i hi)
  have HF := hidden (fun W (hb : Below w.heap.size w W) i (hi : i < N.fol.length) => h.fol.at hb i hi)
  have HF' := hidden (fun W (hb : Below w.heap.size w W) i (hi : i < N.fol.length) => h'.fol.at hb i hi)
  have HSO := hidden (fun W (hb : Below w.heap.size w W) => rsame_calls (h.of.below hb hb.size) (h'.of.below hb hb.size))
  have HS1 := hidden (fun W (hb : Below w.heap.size w W) => rsame_calls (h.first.below hb hb.size) (h'.first.below hb hb.size))
  rw [decide_eq_true (rfl : N.of = N.of)] at HSO
  rw [decide_eq_true (rfl : N.first = N.first)] at HS1
  have HSF := hidden (fun W B i a c a' c' (h1 : RdZ B W (.slice a (N.fol.getD i []).length c) (N.fol.getD i [])) (h2 : RdZ B W (.slice a' (N.fol.getD i []).length c') (N.fol.getD i [])) => (by have := rsame_calls h1 h2; rw [decide_eq_true rfl] at this; exact this : Calls Tryd.prog 36 #[.slice a (N.fol.getD i []).length c, .slice a' (N.fol.getD i []).length c'] W fun e w' => e = .returned (.bool true) ∧ Below W.heap.size W w'))
  obtain ⟨ns, hns⟩ : ∃ k, k = N.sets.length := ⟨_, rfl⟩
  obtain ⟨no, hno⟩ : ∃ k, k = N.of.length := ⟨_, rfl⟩
  obtain ⟨nl, hnl⟩ : ∃ k, k = N.last.length := ⟨_, rfl⟩
  obtain ⟨nf, hnf⟩ : ∃ k, k = N.fol.length := ⟨_, rfl⟩
  obtain ⟨n1, hn1⟩ : ∃ k, k = N.first.length := ⟨_, rfl⟩
  rw [← hns, ← hnl, ← hnf] at hln
  obtain ⟨hl1, hl2, hl3⟩ := hln
  rw [← hns] at HA HA' HBX HW0 ⊢
  rw [← hno] at HBX HW0 HSO ⊢
  rw [← hnl] at HL HL' HBX HW0 ⊢
  rw [← hnf] at HF HF' HBX HW0 ⊢
  rw [← hn1] at HBX HW0 HS1 ⊢
  have q0 : ((ns : Int) != (ns : Int)) = false := by simp
  have q1 : ((nl : Int) != (nl : Int)) = false := by simp
  have q2 : ((nf : Int) != (nf : Int)) = false := by simp
  clear h h' hba hbx hw0 hs0 hns hno hnl hnf hn1
  obtain ⟨⟨b0, b1, b2, b3, b4⟩, e0, e1, e2, e3, e4⟩ := HBX.out w0 (Below.refl _ _)
  rw [HW0.out] at b0 b1 b2 b3 b4 e0 e1 e2 e3 e4
  go_enter Tryd.func31, Tryd.ntmps31
  go_wp2_with fail
  rw [← HW0.out]
  refine (HSO.out w0 HBA.out).mono ?_
  rintro e w1 ⟨rfl, hb1⟩
  have HB1 := hidden (below_then HBA.out HBA.out.size hb1)
  have HX1 := hidden (show Below (w.heap.size + 2) w0 w1 by rw [← HS0.out]; exact hb1)
  clear b0 b1 b2 b3 b4 e0 e1 e2 e3 e4 hb1
  obtain ⟨⟨b0, b1, b2, b3, b4⟩, e0, e1, e2, e3, e4⟩ := HBX.out w1 HX1.out
  go_wp2_with fail
  refine (HS1.out w1 HB1.out).mono ?_
  rintro e w2 ⟨rfl, hb2⟩
  have HB2 := hidden (below_after HB1.out hb2)
  have HX2 := hidden (below_then HX1.out (by have := HX1.out.size; have := HS0.out; omega) hb2)
  clear b0 b1 b2 b3 b4 e0 e1 e2 e3 e4 hb2
  go_wp2
  go_loopw [5] (fun i wr => ∃ k : Nat, k ≤ ns ∧ i = .int .i64 k ∧ Below (w.heap.size + 2) w0 wr) (fun i _ => ns - (Go.RowKit.intOf i).toNat)
  case atStart => exact ⟨0, by omega, rfl, HX2.out⟩
  case round =>
    obtain ⟨k, hk, rfl, hb⟩ := hrel
    have HX := hidden hb
    have HB := hidden (HBA.out.trans (hb.mono (by omega)))
    have hsz : w.heap.size + 2 ≤ wr.heap.size := by have := hb.size; have := HS0.out; omega
    have HSZ := hidden hsz
    obtain ⟨⟨b0, b1, b2, b3, b4⟩, e0, e1, e2, e3, e4⟩ := HBX.out wr HX.out
    clear hb HB1 HB2 HX1 HX2
    by_cases hlt : k < ns
    · obtain ⟨ba, oa, rfl, hba, a0, a1, a2, a3⟩ := HA.out wr HB.out k hlt
      obtain ⟨bb, ob, rfl, hbb, f0, f1, f2, f3⟩ := HA'.out wr HB.out k hlt
      have hkb : IntKind.i64.wrap ((k : Int) + 1) = (k : Int) + 1 := by rw [IntKind.wrap_i64]; omega
      have hq := fun w => eq_four w (N.sets.getD k default).a (N.sets.getD k default).b (N.sets.getD k default).c (N.sets.getD k default).d (N.sets.getD k default).a (N.sets.getD k default).b (N.sets.getD k default).c (N.sets.getD k default).d
      simp only [beq_self_eq_true, Bool.and_true] at hq
      generalize N.sets.getD k default = x at *
      obtain ⟨xk, xa, xb, xc, xd⟩ := x
      dsimp only at a0 a1 a2 a3 f0 f1 f2 f3 hq
      have h0 := fun (p : Later wr) => Later.cell b0 (show w.heap.size < wr.heap.size by omega) p
      have h1 := fun (p : Later wr) => Later.cell e0 (show w.heap.size + 1 < wr.heap.size by omega) p
      have g0 := fun (p : Later wr) => Later.cell a0 (cell_lt a0) p
      have g1 := fun (p : Later wr) => Later.cell a1 (cell_lt a0) p
      have g2 := fun (p : Later wr) => Later.cell a2 (cell_lt a0) p
      have g3 := fun (p : Later wr) => Later.cell a3 (cell_lt a0) p
      have j0 := fun (p : Later wr) => Later.cell f0 (cell_lt f0) p
      have j1 := fun (p : Later wr) => Later.cell f1 (cell_lt f0) p
      have j2 := fun (p : Later wr) => Later.cell f2 (cell_lt f0) p
      have j3 := fun (p : Later wr) => Later.cell f3 (cell_lt f0) p
      go_wp2
      refine wp_region_later (by kernel_rfl) (by kernel_rfl) ?_
      repeat (go_big_quiet_step (fail))
      refine wpQuiet_nil ?_
      rintro _ ⟨⟨_, hb5⟩, rfl⟩
      rename_i w5
      have HX5 := hidden (below_then HX.out HSZ.out hb5)
      clear hb5 h0 h1 g0 g1 g2 g3 j0 j1 j2 j3 b0 b1 b2 b3 b4 e0 e1 e2 e3 e4 a0 a1 a2 a3 f0 f1 f2 f3
      go_wp2
      go_roundw
      case rel => exact ⟨k + 1, by omega, by go_num, HX5.out⟩
      case measure => simp [Go.RowKit.intOf]; omega
    · have HX := HX
      clear b0 b1 b2 b3 b4 e0 e1 e2 e3 e4
      obtain ⟨wo, rfl⟩ : ∃ wo, wo = wr := ⟨wr, rfl⟩
      have e : k = ns := by omega
      subst e
      obtain ⟨⟨b0, b1, b2, b3, b4⟩, e0, e1, e2, e3, e4⟩ := HBX.out wo HX.out
      go_wp2
      go_loopw [6] (fun i wr => ∃ k : Nat, k ≤ nl ∧ i = .int .i64 k ∧ Below (w.heap.size + 2) w0 wr) (fun i _ => nl - (Go.RowKit.intOf i).toNat)
      case atStart => exact ⟨0, by omega, rfl, HX.out⟩
      case round =>
        clear b0 b1 b2 b3 b4 e0 e1 e2 e3 e4 hlt
        obtain ⟨j, hj, rfl, hb⟩ := hrel
        have HX := hidden hb
        have HB := hidden (HBA.out.trans (hb.mono (by omega)))
        have hsz : w.heap.size + 2 ≤ wr.heap.size := by have := hb.size; have := HS0.out; omega
        have HSZ := hidden hsz
        obtain ⟨⟨b0, b1, b2, b3, b4⟩, e0, e1, e2, e3, e4⟩ := HBX.out wr HX.out
        clear hb
        by_cases hlt : j < nl
        · obtain ⟨ba, oa, rfl, hba, a0⟩ := HL.out wr HB.out j hlt
          obtain ⟨bb, ob, rfl, hbb, f0⟩ := HL'.out wr HB.out j hlt
          have hkb : IntKind.i64.wrap ((j : Int) + 1) = (j : Int) + 1 := by rw [IntKind.wrap_i64]; omega
          generalize N.last.getD j false = x at *
          have h0 := fun (p : Later wr) => Later.cell b2 (show w.heap.size < wr.heap.size by omega) p
          have h1 := fun (p : Later wr) => Later.cell e2 (show w.heap.size + 1 < wr.heap.size by omega) p
          have g0 := fun (p : Later wr) => Later.cell a0 (cell_lt a0) p
          have j0 := fun (p : Later wr) => Later.cell f0 (cell_lt f0) p
          have hq : (x != x) = false := by simp
          go_wp2
          refine wp_region_later (by kernel_rfl) (by kernel_rfl) ?_
          repeat (go_big_quiet_step (fail))
          refine wpQuiet_nil ?_
          rintro _ ⟨⟨_, hb5⟩, rfl⟩
          rename_i w5
          have HX5 := hidden (below_then HX.out HSZ.out hb5)
          clear hb5 h0 h1 g0 j0 b0 b1 b2 b3 b4 e0 e1 e2 e3 e4 a0 f0
          go_wp2
          go_roundw
          case rel => exact ⟨j + 1, by omega, by go_num, HX5.out⟩
          case measure => simp [Go.RowKit.intOf]; omega
        · clear b0 b1 b2 b3 b4 e0 e1 e2 e3 e4
          obtain ⟨wo, rfl⟩ : ∃ wo, wo = wr := ⟨wr, rfl⟩
          have e : j = nl := by omega
          subst e
          obtain ⟨⟨b0, b1, b2, b3, b4⟩, e0, e1, e2, e3, e4⟩ := HBX.out wo HX.out
          go_wp2
          go_loopw [7] (fun i wr => ∃ k : Nat, k ≤ nf ∧ i = .int .i64 k ∧ Below (w.heap.size + 2) w0 wr) (fun i _ => nf - (Go.RowKit.intOf i).toNat)
          case atStart => exact ⟨0, by omega, rfl, HX.out⟩
          case round =>
            clear b0 b1 b2 b3 b4 e0 e1 e2 e3 e4 hlt
            obtain ⟨i, hi, rfl, hb⟩ := hrel
            have HX := hidden hb
            have HB := hidden (HBA.out.trans (hb.mono (by omega)))
            have hsz : w.heap.size + 2 ≤ wr.heap.size := by have := hb.size; have := HS0.out; omega
            have HSZ := hidden hsz
            obtain ⟨⟨b0, b1, b2, b3, b4⟩, e0, e1, e2, e3, e4⟩ := HBX.out wr HX.out
            clear hb
            by_cases hlt : i < nf
            · obtain ⟨ba, oa, a', c', rfl, hba, a0, hr1⟩ := HF.out wr HB.out i hlt
              obtain ⟨bb, ob, a'', c'', rfl, hbb, f0, hr2⟩ := HF'.out wr HB.out i hlt
              have hkb : IntKind.i64.wrap ((i : Int) + 1) = (i : Int) + 1 := by rw [IntKind.wrap_i64]; omega
              have HR1 := hidden (fun (p : Later wr) => hr1.below (p.ok.mono HB.out.size) (Nat.le_refl _))
              have HR2 := hidden (fun (p : Later wr) => hr2.below (p.ok.mono HB.out.size) (Nat.le_refl _))
              have HSI := hidden (fun W B a c a' c' => HSF.out W B i a c a' c')
              obtain ⟨l, hl⟩ : ∃ l, l = N.fol.getD i [] := ⟨_, rfl⟩
              rw [← hl] at a0 f0 HR1 HR2 HSI
              obtain ⟨m, hm⟩ : ∃ m, m = l.length := ⟨_, rfl⟩
              rw [← hm] at a0 f0 HR1 HR2 HSI
              have h0 := fun (p : Later wr) => Later.cell b3 (show w.heap.size < wr.heap.size by omega) p
              have h1 := fun (p : Later wr) => Later.cell e3 (show w.heap.size + 1 < wr.heap.size by omega) p
              have g0 := fun (p : Later wr) => Later.cell a0 (cell_lt a0) p
              have j0 := fun (p : Later wr) => Later.cell f0 (cell_lt f0) p
              clear hr1 hr2 hl hm
              go_wp2
              refine wp_region_later (by kernel_rfl) (by kernel_rfl) ?_
              repeat (go_big_quiet_step ((go_at_call 36; exact Later.calls (HSI.out _ _ _ _ _ _ (HR1.out _) (HR2.out _)))))
              refine wpQuiet_nil ?_
              rintro _ ⟨⟨_, hb5⟩, rfl⟩
              rename_i w5
              have HX5 := hidden (below_then HX.out HSZ.out hb5)
              clear hb5 h0 h1 g0 j0 b0 b1 b2 b3 b4 e0 e1 e2 e3 e4 a0 f0
              go_wp2
              go_roundw
              case rel => exact ⟨i + 1, by omega, by go_num, HX5.out⟩
              case measure => simp [Go.RowKit.intOf]; omega
            · go_wp2
              go_ret
              exact ⟨rfl, HB.out⟩
end Go.Proofs.YtbokhofdgdcpdaaDoor

/- Few: few tokens, of few steps. -/
namespace Go.Proofs.YtbokhofdgdcpdaaDoor
open Go.RowKit Go.Lib Go.Joins
/-- how many steps, each expression's at most 1000 -/
def totT (T : List (List Stp)) : Nat := (T.map fun L => min L.length 1000).sum
theorem totT_more (T : List (List Stp)) (k : Nat) (hk : k < T.length) : totT (T.take (k + 1)) = totT (T.take k) + min (T.getD k []).length 1000 := by
  unfold totT
  rw [List.take_succ_eq_append_getElem hk, List.map_append, List.sum_append, List.getD_eq_getElem?_getD, List.getElem?_eq_getElem hk]
  simp
theorem totT_le (T : List (List Stp)) : totT T ≤ T.length * 1000 := by
  unfold totT
  induction T with
  | nil => simp
  | cons L r ih => simp only [List.map_cons, List.sum_cons, List.length_cons]; omega
def fewB (T : List (List Stp)) : Bool := decide (T.length ≤ 12) && decide (totT T ≤ 90)
theorem totT_each : ∀ (T : List (List Stp)) (i : Nat), min (T.getD i []).length 1000 ≤ totT T
  | [], i => by simp
  | L :: r, 0 => by simp [totT]
  | L :: r, i + 1 => by
    have := totT_each r i
    simp only [totT, List.map_cons, List.sum_cons, List.getD_cons_succ] at *
    omega
theorem few_yes {T : List (List Stp)} (h : fewB T = true) (hw : ∀ i, ∀ s ∈ T.getD i [], s.wide) : FewT T := by
  simp only [fewB, Bool.and_eq_true, decide_eq_true_eq] at h
  exact ⟨h.1, fun i => by have := totT_each T i; omega, hw⟩
set_option maxHeartbeats 4000000 in
set_option maxRecDepth 100000 in
theorem Few_calls {C : Nat → Prop} {v : Value} {T : List (List Stp)} {w : World} (h : Toks C w v T) : Calls Tryd.prog 28 #[v] w fun e w' => e = .returned (.bool (fewB T)) ∧ w = w' := by
  have HV := hidden h
  obtain ⟨av, cv, rfl, h1, h2, _⟩ := h
  have HF := hidden (show fewB T = (decide (T.length ≤ 12) && decide (totT T ≤ 90)) from rfl)
  have HMO := hidden (fun k (hk : k < T.length) => totT_more T k hk)
  have HLE := hidden (fun k => (show totT (T.take k) ≤ k * 1000 from Nat.le_trans (totT_le _) (Nat.mul_le_mul_right _ (by rw [List.length_take]; omega))))
  have HALL := hidden (show totT (T.take T.length) = totT T by rw [List.take_length])
  have H0 := hidden (show totT (T.take 0) = 0 by simp [totT])
  have HAT := hidden (fun k (hk : k < T.length) => HV.out.at (C' := C) (w' := w) (fun b hb => ⟨hb, rfl⟩) k hk)
  obtain ⟨m, hm⟩ : ∃ m, m = T.length := ⟨_, rfl⟩
  rw [← hm] at HF HMO HALL HAT h1
  rw [← hm]
  have hmx : m ≤ 9223372036854775807 := Nat.le_trans h1 h2
  clear h1 h2 hm
  go_enter Tryd.func28, Tryd.ntmps28
  go_wp2
  go_loopw [3, 4] (fun n i wr => ∃ (k : Nat) (x : Int), k ≤ m ∧ n = .int .i64 x ∧ i = .int .i64 k ∧ Hid (m ≤ 12 → x = totT (T.take k)) ∧ wr = w) (fun _ i _ => m - (Go.RowKit.intOf i).toNat)
  case atStart => exact ⟨0, 0, by omega, rfl, rfl, hidden (fun _ => by rw [H0.out]; rfl), rfl⟩
  case round =>
    obtain ⟨k, x, hk, rfl, rfl, HX, rfl⟩ := hrel
    by_cases hlt : k < m
    · obtain ⟨b, off, a2, c2, rfl, _, hc, _⟩ := HAT.out k hlt
      obtain ⟨l, hl⟩ : ∃ l, l = (T.getD k []).length := ⟨_, rfl⟩
      have HK := hidden (HMO.out k hlt)
      rw [← hl] at hc HK
      have HLK := hidden (HLE.out k)
      clear hl
      go_wp2
      go_roundw
      case rel =>
        refine ⟨k + 1, _, by omega, rfl, rfl, hidden (fun h => ?_), trivial⟩
        have h1 := HX.out h
        have h2 := HLK.out
        rw [HK.out, h1]
        unfold wrap64
        omega
      case measure => simp [Go.RowKit.intOf]; omega
    · have e : k = m := by omega
      subst e
      by_cases h12 : k ≤ 12
      · have hx := HX.out h12
        rw [HALL.out] at hx
        have HX2 := hidden hx
        have HT := hidden (HLE.out k)
        obtain ⟨tt, htt⟩ : ∃ t, t = totT T := ⟨_, rfl⟩
        have HTT := hidden htt
        rw [← htt] at hx
        subst hx
        by_cases h90 : tt ≤ 90
        · have q0 : decide (k ≤ 12) = true := decide_eq_true h12
          have q1 : decide ((k : Int) ≤ 12) = true := decide_eq_true (by omega)
          have q2 : decide ((tt : Int) ≤ 90) = true := decide_eq_true (by omega)
          have q3 : decide (tt ≤ 90) = true := decide_eq_true h90
          have HE := hidden (show fewB T = true by rw [HF.out, q0, ← HTT.out, q3]; rfl)
          clear h12 h90 htt
          go_wp2
          go_ret
          exact ⟨ret_b HE.out.symm, rfl⟩
        · have q0 : decide (k ≤ 12) = true := decide_eq_true h12
          have q1 : decide ((k : Int) ≤ 12) = true := decide_eq_true (by omega)
          have q2 : decide ((tt : Int) ≤ 90) = false := decide_eq_false (by omega)
          have q3 : decide (tt ≤ 90) = false := decide_eq_false h90
          have HE := hidden (show fewB T = false by rw [HF.out, q0, ← HTT.out, q3]; rfl)
          clear h12 h90 htt
          go_wp2
          go_ret
          exact ⟨ret_b HE.out.symm, rfl⟩
      · have q0 : decide (k ≤ 12) = false := decide_eq_false h12
        have q1 : decide ((k : Int) ≤ 12) = false := decide_eq_false (by omega)
        have HE := hidden (show fewB T = false by rw [HF.out, q0]; rfl)
        clear h12
        go_wp2
        go_ret
        exact ⟨ret_b HE.out.symm, rfl⟩
end Go.Proofs.YtbokhofdgdcpdaaDoor

/- Spots that a word leads to, byte by byte; the mathematics, without the program. -/
namespace Go.Proofs.YtbokhofdgdcpdaaDoor

/-- a path, and one step more -/
theorem Path.snoc {S E : Nat → Nat → Bool} {p r q c : Nat} {u : List Nat} (h : Path S E p u r) (e : E r q = true) (s : S q c = true) : Path S E p (u ++ [c]) q := h.then e (.one s)
theorem Path.unsnoc {S E : Nat → Nat → Bool} : ∀ {p q c : Nat} {u : List Nat}, u ≠ [] → Path S E p (u ++ [c]) q → ∃ r, Path S E p u r ∧ E r q = true ∧ S q c = true
  | p, q, c, [], h, _ => absurd rfl h
  | p, q, c, [a], _, h => by
    cases h with
    | more h e t =>
      cases t with
      | one h2 => exact ⟨p, .one h, e, h2⟩
      | more _ _ t2 => exact absurd rfl (path_ne t2)
  | p, q, c, a :: b :: u, _, h => by
    cases h with
    | more h e t =>
      obtain ⟨r, h1, h2, h3⟩ := Path.unsnoc (u := b :: u) (by simp) t
      exact ⟨r, .more h e h1, h2, h3⟩
/-- the first k bytes lead to q -/
def Come (e : Ex) (W : List Nat) (k q : Nat) : Prop := 0 < k ∧ ∃ p, gF e 0 p = true ∧ Path (gS e 0) (gE e 0) p (W.take k) q
/-- what may come next -/
def Nxt (e : Ex) (W : List Nat) (k q : Nat) : Prop := (k = 0 ∧ gF e 0 q = true) ∨ ∃ p, Come e W k p ∧ gE e 0 p q = true
theorem come_zero (e : Ex) (W : List Nat) (q : Nat) : ¬ Come e W 0 q := fun h => Nat.lt_irrefl _ h.1
theorem come_more {e : Ex} {W : List Nat} {k : Nat} (hk : k < W.length) (q : Nat) : Come e W (k + 1) q ↔ Nxt e W k q ∧ gS e 0 q (W.getD k 0) = true := by
  have htk : W.take (k + 1) = W.take k ++ [W.getD k 0] := by
    rw [List.take_succ_eq_append_getElem hk, List.getD_eq_getElem?_getD, List.getElem?_eq_getElem hk]
    rfl
  unfold Come Nxt
  rw [htk]
  constructor
  · rintro ⟨_, p, hp, h⟩
    by_cases h0 : k = 0
    · subst h0
      rw [List.take_zero, List.nil_append] at h
      cases h with
      | one h => exact ⟨.inl ⟨rfl, hp⟩, h⟩
      | more _ _ t => exact absurd rfl (path_ne t)
    · obtain ⟨r, h1, h2, h3⟩ := Path.unsnoc (List.length_pos_iff.1 (by rw [List.length_take]; omega)) h
      exact ⟨.inr ⟨r, ⟨by omega, p, hp, h1⟩, h2⟩, h3⟩
  · rintro ⟨h | ⟨r, ⟨h0, p, hp, h1⟩, h2⟩, h3⟩
    · obtain ⟨rfl, hp⟩ := h
      refine ⟨by omega, q, hp, ?_⟩
      rw [List.take_zero, List.nil_append]
      exact .one h3
    · exact ⟨by omega, p, hp, h1.snoc h2 h3⟩
theorem come_lt {e : Ex} {W : List Nat} {k q : Nat} (h : Come e W k q) : q < plc e := by
  obtain ⟨h0, p, _, h⟩ := h
  have key : ∀ {p q : Nat} {u : List Nat}, Path (gS e 0) (gE e 0) p u q → q < plc e := by
    intro p q u h
    induction h with
    | one h => have := gS_in _ _ _ _ h; omega
    | more _ _ _ ih => exact ih
  exact key h
theorem nxt_lt {e : Ex} {W : List Nat} {k q : Nat} (h : Nxt e W k q) : q < plc e := by
  rcases h with ⟨_, h⟩ | ⟨p, _, h⟩
  · have := gF_in _ _ _ h; omega
  · have := gE_in _ _ _ _ h; omega
/-- said, just if the word leads to a last spot, or is empty and may be -/
theorem come_said {e : Ex} (he : e.ok) (W : List Nat) : ((W.length = 0 ∧ nul e = true) ∨ ∃ p, Come e W W.length p ∧ gL e 0 p = true) ↔ Lang e W := by
  by_cases h0 : W = []
  · subst h0
    rw [← nul_iff e he]
    constructor
    · rintro (h | ⟨p, h, _⟩)
      · exact h.2
      · exact absurd h (come_zero _ _ _)
    · exact fun h => .inl ⟨rfl, h⟩
  · have hl : 0 < W.length := List.length_pos_iff.2 h0
    rw [← led_iff e he 0 W h0]
    unfold Led Come
    rw [List.take_length]
    constructor
    · rintro (h | ⟨q, ⟨_, p, hp, h⟩, hq⟩)
      · omega
      · exact ⟨p, q, hp, h, hq⟩
    · rintro ⟨p, q, hp, h, hq⟩
      exact .inr ⟨q, ⟨hl, p, hp, h⟩, hq⟩
/-- numbers below m, each once, are m at most -/
theorem nodup_len : ∀ (m : Nat) (l : List Nat), l.Nodup → (∀ x ∈ l, x < m) → l.length ≤ m
  | 0, [], _, _ => Nat.le_refl _
  | 0, x :: r, _, h => by have := h x (by simp); omega
  | m + 1, l, hn, h => by
    by_cases hm : m ∈ l
    · have h1 := nodup_len m (l.erase m) (hn.erase m) (fun x hx => by
        have h2 := (hn.mem_erase_iff).1 hx
        have := h x h2.2
        have := h2.1
        omega)
      rw [List.length_erase_of_mem hm] at h1
      omega
    · have h1 := nodup_len m l hn (fun x hx => by
        have h2 := h x hx
        have h3 : x ≠ m := fun e => hm (e ▸ hx)
        omega)
      omega
theorem sets_sets : ∀ e : Ex, e.ok → sets (ops e) = (setsE e).map sStp
  | .set f, _ => rfl
  | .emp, _ => rfl
  | .un k a, ⟨hk, ha⟩ => by
    have h := sets_sets a ha
    unfold sets at *
    simp only [ops, setsE, List.filter_append, h]
    rcases hk with rfl | rfl | rfl <;> simp [kStp]
  | .alt a c, ⟨ha, hc⟩ => by
    have h := sets_sets a ha
    have h' := sets_sets c hc
    unfold sets at *
    simp only [ops, setsE, List.filter_append, h, h', List.map_append]
    simp [kStp]
  | .cat a c, ⟨ha, hc⟩ => by
    have h := sets_sets a ha
    have h' := sets_sets c hc
    unfold sets at *
    simp only [ops, setsE, List.filter_append, h, h', List.map_append]
    simp [kStp]
theorem set_at {e : Ex} (he : e.ok) {q : Nat} (hq : q < plc e) : ∃ f, (sets (ops e)).getD q default = sStp f ∧ ∀ c, c < 256 → gS e 0 q c = f c := by
  refine ⟨(setsE e).getD q fNone, ?_, fun c hc => ?_⟩
  · rw [sets_sets e he, List.getD_eq_getElem?_getD, List.getD_eq_getElem?_getD, List.getElem?_map, List.getElem?_eq_getElem (by rw [setsE_len]; exact hq)]
    rfl
  · rw [gS_sets]
    simp [hc]
end Go.Proofs.YtbokhofdgdcpdaaDoor
