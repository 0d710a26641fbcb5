/- LvEach, DfPRight, LvPReach, MaRef, put together. -/
import Derived.Test.YtnjjbaodfjmiaaaGreatLt32
import Derived.Test.YtnjjbaodfjmiaaaGreatLt31
import Derived.Test.YtnjjbaodfjmiaaaGreatLt33
import Derived.Test.YtnjjbaodfjmiaaaGreatLt15
import Derived.Test.YtnjjbaodfjmiaaaGreatLt34
import Derived.Test.YtnjjbaodfjmiaaaGreatLt26
import Derived.Conc.MuLone
import Derived.Test.YtnjjbaodfjmiaaaGreatLt07
/- Contract of each: the reached states are shown, with their least words, in the order of these. -/
namespace Go.Proofs.YtnjjbaodfjmiaaaGreat
open Go.RowKit Go.Lib Go.Joins
attribute [local go_sem] Rl.evalR_tmp Rl.evalR_const Rl.evalR_global Rl.evalR_func

/-- a word's value -/
def WordV (u : List Nat) (v : Value) (w : World) : Prop := ∃ bv ov, v = .agg #[bv, ov] ∧ WordAt w bv ov u
theorem WordV.below {u : List Nat} {v : Value} {w w' : World} (h : WordV u v w) (hb : Below w.heap.size w w') : WordV u v w' := by
  obtain ⟨bv, ov, e, h⟩ := h
  exact ⟨bv, ov, e, h.mono (KeepW.of_below hb)⟩
set_option maxHeartbeats 8000000 in
set_option maxRecDepth 100000 in
theorem each_calls {w : World} {vn vl : Value} {D : DfaM} {f : FuncId} {caps : Array Value} (J : List Vis → World → Prop) (P : World → Prop) (hR : rightD D = true) (hN : D.next.length ≤ 1000) (hcl : ∀ j, j < 256 → D.cls j < 256)
    {m0 : Nat} (hD : RdDfa m0 w vn vl D) (_hm0 : m0 ≤ w.heap.size) (hJB : ∀ pre W, J pre W → Below m0 w W) (hJE : ∀ pre W W', J pre W → EachF w.heap.size W W' → J pre W') (hJ0 : J [] w) (hef : ∀ args w, (callFunc f args).run Tryz.prog w = .ok (.enter f args) w)
    (hsee : ∀ (pre : List Vis) (x : Vis) W bv ov, pre ++ [x] <+: visA D → J pre W → WordAt W bv ov x.2 → w.heap.size ≤ W.heap.size → Calls Tryz.prog f (#[.int .i64 (x.1 : Nat), .agg #[bv, ov]] ++ caps) W (SeeR w.heap.size W (J (pre ++ [x])) P)) :
    Calls Tryz.prog 32 #[dfaA D.cls D.width vn vl, .func (.func f) #[] caps] w fun e w' => e = .returned (.tuple #[]) ∧ (J (visA D) w' ∨ P w') := by
  obtain ⟨an, cn, rfl⟩ := hD.next.form
  obtain ⟨n, hn⟩ : ∃ n, n = D.next.length := ⟨_, rfl⟩
  rw [← hn] at hD hN ⊢
  have HN := hidden hn
  have HRT := hidden hR
  have HD := hidden hD
  have HJB := hidden hJB
  have HJE := hidden hJE
  have HSEE := hidden hsee
  have HCL := hidden hcl
  have hn0 : 0 < n := by have := (rightD_spec hR).2.2.1; omega
  obtain ⟨W, hW, hWn⟩ := rch_width hR
  have HW := hidden hW
  have HWN := hidden hWn
  have hbx := run_box_dfa D.cls D.width (.slice an n cn) vl
  have hal := run_zero_arr
  have HB0 := hidden (((Below.refl w.heap.size w).alloc (Nat.le_refl _) (.cells (dfaC D.cls D.width (.slice an n cn) vl) 26)).alloc (by simp) (.cells #[.func (.func f) #[] caps] 54))
  have HX := hidden ((DfaAt.new w D.cls D.width (.slice an n cn) vl).alloc (.cells #[.func (.func f) #[] caps] 54))
  have HSB := hidden (show Boxed ((w.alloc (.cells (dfaC D.cls D.width (.slice an n cn) vl) 26)).alloc (.cells #[.func (.func f) #[] caps] 54)) (w.heap.size + 1) 54 (.func (.func f) #[] caps) from by
    have := Boxed.new (w.alloc (.cells (dfaC D.cls D.width (.slice an n cn) vl) 26)) 54 (.func (.func f) #[] caps)
    simpa using this)
  have HJ0 := hidden hJ0
  clear hn hR hD hJB hJE hsee hcl hW hWn hJ0
  go_enter Tryz.func32, Tryz.ntmps32
  go_wp2
  go_step3
  go_wp2_with (first | (refine load_any14 rfl (x := .tmp 11) rfl rfl (run_load_cls HX.out) ?_) | (refine wp_load_any (x := .tmp 11) rfl rfl (run_load_cls HX.out) ?_))
  refine (leastBytes_calls D.cls _ HCL.out).mono ?_
  rintro e w1 ⟨rfl, hb1⟩
  have HX1 := hidden (HX.out.below hb1)
  have HSB1 := hidden (show Boxed w1 (w.heap.size + 1) 54 (.func (.func f) #[] caps) from (hb1.block _ HSB.out.lt).trans HSB.out)
  have HB1 := hidden (below_then HB0.out HB0.out.size hb1)
  clear hb1
  have hm := fun W' => run_make_b W' n (by omega)
  go_wp2_with (first
    | (refine store_arr rfl (x := .tmp 4) (y := .tmp 13) rfl (B := w1.heap.size) (lbC D.cls) rfl rfl (ArrAt.new _ _ _) ?_; intro w2 hw2 hs2; have HA2 := hidden (show ArrAt w2 w1.heap.size 22 (nV (lbC D.cls)) from by rw [hw2.out]; exact (ArrAt.new _ _ _).storedRow _); have HB2 := hidden (show Below w1.heap.size w1 w2 from by rw [hw2.out]; exact below_setRow ((Below.refl _ _).alloc (Nat.le_refl _) _) (Nat.le_refl _) _); have HS2 := hidden hs2; have e2 := (HX1.out.under HB2.out HX1.out.lt).next; clear hw2 hs2)
    | fail)
  have HEV0 := hidden (show EaV w.heap.size (((w2.alloc (.cells (Array.replicate n (.bool false)) 4)).alloc (.cells #[.slice (some ⟨w2.heap.size, 0, none⟩) n n] 30)).alloc (.cells #[.slice none 0 0] 81)) D J w.heap.size w1.heap.size (w2.heap.size + 1) (w2.heap.size + 1 + 1) (w.heap.size + 1) w2.heap.size (.slice an n cn) vl (.slice none 0 0) (.func (.func f) #[] caps) (List.replicate n false) [] [] [] from by
    have hb : Below w.heap.size w w2 := below_then HB1.out HB1.out.size HB2.out
    have h3 : Below w2.heap.size w2 (((w2.alloc (.cells (Array.replicate n (.bool false)) 4)).alloc (.cells #[.slice (some ⟨w2.heap.size, 0, none⟩) n n] 30)).alloc (.cells #[.slice none 0 0] 81)) := (((Below.refl _ _).alloc (Nat.le_refl _) _).alloc (by simp) _).alloc (by simp; omega) _
    have hs1 := HX1.out.lt
    have hs2 := HB2.out.size
    refine ⟨EaSt.start ((HB2.out.block _ HSB1.out.lt).trans HSB1.out) (by omega) hb.size n, by rw [List.length_replicate]; exact HN.out, fun j _ => ⟨fun h => absurd h (on_none n j), fun h => absurd h (by simp [inV])⟩, HJE.out _ _ _ HJ0.out ?_, (HX1.out.under HB2.out HX1.out.lt).below h3, HA2.out.below h3, by omega⟩
    exact EachF.of_below (below_then hb hb.size h3))
  obtain ⟨RB, hRB⟩ : ∃ b, b = w2.heap.size := ⟨_, rfl⟩
  rw [← hRB] at HEV0 ⊢
  obtain ⟨AB, hAB⟩ : ∃ b, b = w1.heap.size := ⟨_, rfl⟩
  rw [← hAB] at HEV0 ⊢
  generalize ((w2.alloc (.cells (Array.replicate n (.bool false)) 4)).alloc (.cells #[.slice (some ⟨RB, 0, none⟩) n n] 30)).alloc (.cells #[.slice none 0 0] 81) = wa at *
  clear hRB hAB HB0 HX HSB HX1 HSB1 HB1 HA2 HB2 HS2 e2 hm hbx hal
  refine (wait_ea P HEV0.out hef HJE.out (WordAt.nil _) (s := 0) (u := []) (by rw [← HN.out]; exact hn0) (by simp) (fun W bv ov hj hw hnsz => HSEE.out [] (0, []) W bv ov (visN_all HRT.out (n := 0) (Nat.zero_le _)) hj hw hnsz)).mono ?_
  rintro e w3 ⟨_, _, ⟨rfl, qv3, hE3, _⟩ | ⟨rfl, hp3⟩⟩
  · have HE3 := hidden (show EaV w.heap.size w3 D J w.heap.size AB (RB + 1) (RB + 1 + 1) (w.heap.size + 1) RB (.slice an n cn) vl qv3 (.func (.func f) #[] caps) ((List.replicate n false).set 0 true) [(0, .pointer none, .slice none 0 0)] (visN D 0) ((visN D 0).drop 0) from hE3)
    clear hE3 HEV0
    go_wp2
    go_step3
    go_wp2
    go_loopg [] (n + 1) (fun k wr => ∃ h qv fnd qs, h + k = n + 1 ∧ h ≤ (visN D h).length ∧ EaV w.heap.size wr D J w.heap.size AB (RB + 1) (RB + 1 + 1) (w.heap.size + 1) RB (.slice an n cn) vl qv (.func (.func f) #[] caps) fnd qs (visN D h) ((visN D h).drop h))
    case atStart => exact ⟨0, _, _, _, by omega, Nat.zero_le _, HE3.out⟩
    case round =>
      obtain ⟨h, qv, fnd, qs, hgk, hh, hE⟩ := hrel
      have HV := hidden (visN_ok HRT.out h hh)
      have hvl : (visN D h).length ≤ n := by rw [HN.out]; exact HV.out.len HRT.out
      have l0 := hE.e.l.cell
      have hql : qs.length = (visN D h).length - h := by rw [hE.e.e.1, List.length_drop]
      by_cases hlt : h < (visN D h).length
      · have hx : (visN D h)[h]? = some (visN D h)[h] := List.getElem?_eq_getElem hlt
        have hdr : (visN D h).drop h = (visN D h)[h] :: (visN D h).drop (h + 1) := List.drop_eq_getElem_cons hlt
        obtain ⟨⟨s, u⟩, hsu⟩ : ∃ x : Vis, x = (visN D h)[h] := ⟨_, rfl⟩
        rw [← hsu] at hx hdr
        rw [hdr] at hE
        have HNX := hidden (visN_more hx)
        have HXX := hidden hx
        obtain ⟨⟨s', bv, ov⟩, qs', rfl⟩ : ∃ y r, qs = y :: r := by
          cases qs with
          | nil => simp at hql; omega
          | cons y r => exact ⟨y, r, rfl⟩
        obtain ⟨e1, hwd, _⟩ := hE.e.e.tail
        simp only at e1 hwd
        subst e1
        have hsn : s' < n := by
          have := (HV.out.leads _ (List.mem_of_getElem? hx)).lt HRT.out
          rw [HN.out]; exact this
        obtain ⟨g, off, cap, rfl, _, hgl, hc1, hc2, hcs⟩ := hE.e.q.at (by simp)
        have c0 := hcs 0 _ rfl
        have c1 := hcs 1 _ rfl
        have c2 := hcs 2 _ rfl
        simp only at c0 c1 c2
        obtain ⟨x, a, m, c, rfl, rfl⟩ := hwd.form
        obtain ⟨qn, hqn⟩ : ∃ k, k = qs'.length := ⟨_, rfl⟩
        simp only [List.length_cons] at l0 hE hql hc1
        rw [← hqn] at l0 hE hql hc1
        have HE := hidden hE
        have HWD := hidden hwd
        have HQN := hidden hqn
        have HQL := hidden (show qn ≤ n by omega)
        have HGK := hidden hgk
        clear hE hwd hcs hx hdr hsu hqn hql hgk
        rw [Nat.add_zero] at c0
        have hq0 : decide ((0 : Int) < (qn : Int) + 1) = true := decide_eq_true (by omega)
        have hq1 : decide (0 < qn + 1) = true := decide_eq_true (by omega)
        have hal2 : Below wr.heap.size wr (wr.alloc (.cells #[.int .i64 (s' : Nat), .pointer x, .slice a m c] 83)) := (Below.refl _ _).alloc (Nat.le_refl _) _
        have HEa := hidden (HE.out.below HJE.out hal2)
        have l1 := HEa.out.e.l.cell
        have l1f := HEa.out.e.l.frozen
        have hAT : (wr.alloc (.cells #[.int .i64 (s' : Nat), .pointer x, .slice a m c] 83)).heap[wr.heap.size]? = some (.cells #[.int .i64 (s' : Nat), .pointer x, .slice a m c] 83 (0, 0)) := heap_alloc_new _ _
        obtain ⟨b, ro, b2, off2, c', han, q1, hbl, hb2l, q2⟩ := HD.out.row HRT.out HW.out (Below.refl _ _) s' (by rw [← HN.out]; exact hsn)
        subst han
        have HQ2 := hidden q2
        have htail := HEa.out.e.q
        simp only [List.length_cons] at htail
        rw [← HQN.out] at htail
        have htail := htail.tail
        rw [show (qCells ((s', .pointer x, .slice a m c) :: qs')).drop 3 = qCells qs' from rfl] at htail
        have hLB := HEa.out.e.l.lt
        have key : ∀ qv2, QRow (wr.alloc (.cells #[.int .i64 (s' : Nat), .pointer x, .slice a m c] 83)) w.heap.size 83 3 qv2 qs'.length (qCells qs') → (∀ k, qv2.ownBlock = some k → k < wr.heap.size) →
            EaV w.heap.size ((wr.alloc (.cells #[.int .i64 (s' : Nat), .pointer x, .slice a m c] 83)).setCell ⟨RB + 1 + 1, 0, none⟩ qv2) D J w.heap.size AB (RB + 1) (RB + 1 + 1) (w.heap.size + 1) RB (.slice (some ⟨b, ro, none⟩) n cn) vl qv2 (.func (.func f) #[] caps) fnd qs' (visN D h) ((visN D h).drop (h + 1)) ∧
            ((wr.alloc (.cells #[.int .i64 (s' : Nat), .pointer x, .slice a m c] 83)).setCell ⟨RB + 1 + 1, 0, none⟩ qv2).heap[wr.heap.size]? = some (.cells #[.int .i64 (s' : Nat), .pointer x, .slice a m c] 83 (0, 0)) ∧
            WordAt ((wr.alloc (.cells #[.int .i64 (s' : Nat), .pointer x, .slice a m c] 83)).setCell ⟨RB + 1 + 1, 0, none⟩ qv2) (.pointer x) (.slice a m c) u ∧ qv2.ownBlock ≠ some wr.heap.size := fun qv2 hq hk => by
          obtain ⟨k1, k2, k3⟩ := HEa.out.e.pop hq
          have hlb : RB + 1 + 1 ≠ wr.heap.size := by have := HE.out.e.l.lt; omega
          have hg := setCell_grown (wr.alloc (.cells #[.int .i64 (s' : Nat), .pointer x, .slice a m c] 83)) (RB + 1 + 1) 0 qv2
          have hne : ∀ {B : Nat} {t : TypeId} {cs : Array Value} {fr : Nat × Nat}, (wr.alloc (.cells #[.int .i64 (s' : Nat), .pointer x, .slice a m c] 83)).heap[B]? = some (.cells cs t fr) → t ≠ 81 → B ≠ RB + 1 + 1 := fun hb ht e => by
            subst e
            have h5 := HEa.out.e.l
            unfold Boxed at h5
            rw [h5] at hb
            simp only [Option.some.injEq, Obj.cells.injEq] at hb
            exact ht hb.2.1.symm
          refine ⟨⟨k1, HEa.out.fl, HEa.out.fo, HJE.out _ _ _ HEa.out.j k2, HEa.out.d.put _ (hne HEa.out.d (by decide)), HEa.out.a.other (hne HEa.out.a (by decide)) _, HEa.out.lo⟩, (heap_setCell_other _ _ _ _ (Ne.symm hlb)).trans hAT, (HWD.out.mono (KeepW.of_below hal2)).mono k3, fun e => by have := hk _ e; omega⟩
        have KEY := hidden key
        have HAT := hidden hAT
        clear key hAT hal2
        have hbl' := HJB.out _ _ HE.out.j
        have hsi : (s' : Int) < (n : Int) := by omega
        by_cases hcap : cap = 1
        case' pos =>
          subst hcap
          obtain rfl : qn = 0 := by omega
          obtain ⟨k1, k2, k3, k4⟩ := KEY.out (.slice (some ⟨g, off, none⟩) 0 0) (by rw [← HQN.out]; exact htail.1 rfl) (fun k e => by simp only [Value.ownBlock, Option.some.injEq] at e; omega)
          have d2 := k1.d.next
          have t0 := cell_of_row _ _ 0 _ _ _ k2
          have r1 := ((HJB.out _ _ k1.j).cell (p := ⟨b, ro + s', none⟩) hbl).trans q1
          have HK1 := hidden k1
          have HK2 := hidden k2
          have HK3 := hidden k3
          have HK4 := hidden k4
          clear k1 k2 k3 k4 q1 q2 htail hbl'
          go_wp2
          obtain ⟨qv5, hqv5⟩ : ∃ q, q = Value.slice (some ⟨g, off, none⟩) 0 0 := ⟨_, rfl⟩
          rw [← hqv5] at HK1 HK2 HK3 HK4 d2 t0 r1 ⊢
          generalize (wr.alloc (.cells #[.int .i64 (s' : Nat), .pointer x, .slice a m c] 83)).setCell ⟨RB + 1 + 1, 0, none⟩ qv5 = w5 at *
        case' neg =>
          obtain ⟨k1, k2, k3, k4⟩ := KEY.out (.slice (some ⟨g, off + 3, none⟩) qn (cap - 1)) (by rw [← HQN.out]; exact htail.2 hcap) (fun k e => by simp only [Value.ownBlock, Option.some.injEq] at e; omega)
          have d2 := k1.d.next
          have t0 := cell_of_row _ _ 0 _ _ _ k2
          have r1 := ((HJB.out _ _ k1.j).cell (p := ⟨b, ro + s', none⟩) hbl).trans q1
          have HK1 := hidden k1
          have HK2 := hidden k2
          have HK3 := hidden k3
          have HK4 := hidden k4
          clear k1 k2 k3 k4 q1 q2 htail hbl'
          go_wp2
          obtain ⟨qv5, hqv5⟩ : ∃ q, q = Value.slice (some ⟨g, off + 3, none⟩) qn (cap - 1) := ⟨_, rfl⟩
          rw [← hqv5] at HK1 HK2 HK3 HK4 d2 t0 r1 ⊢
          generalize (wr.alloc (.cells #[.int .i64 (s' : Nat), .pointer x, .slice a m c] 83)).setCell ⟨RB + 1 + 1, 0, none⟩ qv5 = w5 at *
        all_goals
          have HQV5 := hidden hqv5
          obtain ⟨wo, rfl⟩ : ∃ wo, wo = wr := ⟨wr, rfl⟩
          obtain ⟨AT, hATe⟩ : ∃ b, b = wo.heap.size := ⟨_, rfl⟩
          rw [← hATe] at HK2 HK4 ⊢
          have HATN := hidden (show w.heap.size ≤ AT from by rw [hATe]; exact HE.out.e.nsz)
          clear hqv5 d2 t0 r1 l0 l1 l1f c0 c1 c2 hc1 hc2 hq0 hq1 hLB hgl KEY HAT hATe HE HEa
          have HLT := hidden hlt
          have hwid : W ≤ 256 := by
            have h2 := (rightD_spec HRT.out).2.1
            have := wid_le D.cls 256 256 HCL.out
            have := HW.out
            omega
          go_loopw [38] (fun iv wr => ∃ (cc : Nat) (qv : Value) (fnd : List Bool) (qs : List Ent), cc ≤ W ∧ iv = .int .i64 cc ∧ EaV w.heap.size wr D J w.heap.size AB (RB + 1) (RB + 1 + 1) (w.heap.size + 1) RB (.slice (some ⟨b, ro, none⟩) n cn) vl qv (.func (.func f) #[] caps) fnd qs (visC D s' u (visN D h) cc) ((visC D s' u (visN D h) cc).drop (h + 1)) ∧ wr.heap[AT]? = some (.cells #[.int .i64 (s' : Nat), .pointer x, .slice a m c] 83 (0, 0)) ∧ WordAt wr (.pointer x) (.slice a m c) u ∧ qv.ownBlock ≠ some AT) (fun i _ => W - (Go.RowKit.intOf i).toNat)
          case atStart => exact ⟨0, _, _, _, by omega, rfl, HK1.out, HK2.out, HK3.out, HK4.out⟩
          case round =>
            obtain ⟨cc, qv, fnd, qs, hcc, rfl, hE, hT, hwd, hqa⟩ := hrel
            have HE := hidden hE
            have HT := hidden hT
            have HWD := hidden hwd
            have HQA := hidden hqa
            have hbm := HJB.out _ _ hE.j
            by_cases hcw : cc < W
            · have r2 := (hbm.cell (p := ⟨b2, off2 + cc, none⟩) hb2l).trans (HQ2.out cc hcw)
              have hin := to_in HRT.out (i := s') (c := cc) (by rw [← HN.out]; exact hsn) (by rw [HWN.out]; exact hcw)
              rw [← HN.out] at hin
              have HVC := hidden (show visC D s' u (visN D h) (cc + 1) = visS D s' u (visC D s' u (visN D h) cc) cc from rfl)
              have HVS := hidden (show visS D s' u (visC D s' u (visN D h) cc) cc = if toD D s' cc < 0 ∨ inV (visC D s' u (visN D h) cc) (toD D s' cc).toNat then visC D s' u (visN D h) cc else visC D s' u (visN D h) cc ++ [((toD D s' cc).toNat, u ++ [lbC D.cls cc])] from rfl)
              obtain ⟨y, hy⟩ : ∃ y, y = toD D s' cc := ⟨_, rfl⟩
              rw [← hy] at r2 hin HVS
              have HPR := hidden (visC_all HRT.out HXX.out (c := cc + 1) (by rw [HWN.out]; omega))
              have HDL := hidden (show h + 1 ≤ (visC D s' u (visN D h) cc).length from by have := (visC_pre (D := D) s' u (visN D h) 0 cc).length_le; rw [Nat.zero_add] at this; have h9 := HLT.out; exact Nat.le_trans h9 this)
              obtain ⟨V, hV⟩ : ∃ V, V = visC D s' u (visN D h) cc := ⟨_, rfl⟩
              rw [← hV] at HE HVC HVS HDL
              have f2 := HE.out.e.f.cell
              rw [HE.out.fl, ← HN.out] at f2
              clear hE hT hwd hqa hy hV hbm
              by_cases hy0 : y < 0
              · obtain rfl : y = -1 := by omega
                have HST := hidden (show visC D s' u (visN D h) (cc + 1) = V from by rw [HVC.out, HVS.out, if_pos (.inl (by omega))])
                clear hin hy0
                go_wp2
                go_roundw
                case rel => exact ⟨cc + 1, qv, fnd, qs, by omega, by go_num, by rw [HST.out]; exact HE.out, HT.out, HWD.out, HQA.out⟩
                case measure => simp [Go.RowKit.intOf]; omega
              · obtain ⟨k, rfl⟩ : ∃ k : Nat, y = k := ⟨y.toNat, by omega⟩
                have hkn : k < n := by omega
                rw [Int.toNat_natCast] at HVS
                have r3 := HE.out.e.r.cell (i := k) (by rw [HE.out.fl, ← HN.out]; exact hkn) false
                rw [getD_on] at r3
                have q9 : ((k : Int) == -1) = false := by simp <;> omega
                have q9' : decide ((k : Int) = -1) = false := by simp <;> omega
                by_cases hon : On fnd k
                · rw [decide_eq_true hon] at r3
                  have HST := hidden (show visC D s' u (visN D h) (cc + 1) = V from by rw [HVC.out, HVS.out, if_pos (.inr ((HE.out.fo k (by rw [← HN.out]; exact hkn)).1 hon))])
                  clear hin hy0 hon
                  go_wp2
                  go_roundw
                  case rel => exact ⟨cc + 1, qv, fnd, qs, by omega, by go_num, by rw [HST.out]; exact HE.out, HT.out, HWD.out, HQA.out⟩
                  case measure => simp [Go.RowKit.intOf]; omega
                · rw [decide_eq_false hon] at r3
                  have HNI := hidden (show ¬ inV V k from fun hi => hon ((HE.out.fo k (by rw [← HN.out]; exact hkn)).2 hi))
                  have HST := hidden (show visC D s' u (visN D h) (cc + 1) = V ++ [(k, u ++ [lbC D.cls cc])] from by rw [HVC.out, HVS.out, if_neg (fun hh => hh.elim (fun h0 => by omega) HNI.out)])
                  rw [HST.out] at HPR
                  clear hin hy0 hon
                  go_wp2
                  refine Rl.wp_region_stepsT (R := fun w1 w2 => Below w1.heap.size w1 w2) 8 (Rl.typ [Rl.Is (.func (.func 54) #[] #[.pointer (some ⟨RB + 1, 0, none⟩), .pointer (some ⟨RB + 1 + 1, 0, none⟩), .pointer (some ⟨w.heap.size + 1, 0, none⟩)]), Rl.Is (.int .i64 (k : Nat)), Rl.Is (.pointer (some ⟨AT, 1, none⟩)), Rl.Is (.agg #[.pointer x, .slice a m c]), Rl.Is (.int .i64 (cc : Nat)), Rl.Is (.pointer (some ⟨AB, cc, none⟩)), Rl.Is (.int .u8 (lbC D.cls cc : Nat)), WordV (u ++ [lbC D.cls cc])]) (fun w1 => Below wr.heap.size wr w1) (fun w => Below.refl _ _) (by kernel_rfl) (by kernel_rfl) (by kernel_rfl) (by kernel_rfl) (by kernel_rfl) (by kernel_rfl) ?mono (Below.refl _ _).drew ?step ?last
                  case mono =>
                    refine Rl.typ_mono ?_
                    simp only [List.forall_mem_cons]
                    repeat' (first | exact (fun v w w' h _ => h) | exact (fun v w w' h hb => WordV.below h hb) | (intro p hp; cases hp; done) | refine And.intro ?_ ?_)
                  case step =>
                    refine ⟨?_, ?_, ?_, ?_, ?_, ?_, ?_, ?_, trivial⟩
                    · change Rl.StepOk _ _ _ _ _ _ _ _
                      intro ρ w2 hF hW
                      have e7 : ρ 7 = .func (.func 54) #[] #[.pointer (some ⟨RB + 1, 0, none⟩), .pointer (some ⟨RB + 1 + 1, 0, none⟩), .pointer (some ⟨w.heap.size + 1, 0, none⟩)] := hF 7 (by decide)
                      have HW2 := hidden hW
                      clear hF hW
                      unfold Rl.Does
                      go_simp
                      exact ⟨rfl, HW2.out, Below.refl _ _⟩
                    · change Rl.StepOk _ _ _ _ _ _ _ _
                      intro ρ w2 hF hW
                      have e10 : ρ 10 = .int .i64 (k : Nat) := hF 10 (by decide)
                      have HW2 := hidden hW
                      clear hF hW
                      unfold Rl.Does
                      go_simp
                      exact ⟨rfl, HW2.out, Below.refl _ _⟩
                    · change Rl.StepOk _ _ _ _ _ _ _ _
                      intro ρ w2 hF hW
                      have e8 : ρ 8 = .pointer (some ⟨AT, 0, none⟩) := hF 8 (by decide)
                      have HW2 := hidden hW
                      clear hF hW
                      unfold Rl.Does
                      go_simp
                      exact ⟨rfl, HW2.out, Below.refl _ _⟩
                    · change Rl.StepOk _ _ _ _ _ _ _ _
                      intro ρ w2 hF hW
                      have e53 : ρ 53 = .pointer (some ⟨AT, 1, none⟩) := hF 53 (by decide)
                      have h5 := (hW.block AT (Array.getElem?_eq_some_iff.1 HT.out).1).trans HT.out
                      have t1 := cell_of_row w2 AT 1 _ _ _ h5
                      have t2 := cell_of_row w2 AT 2 _ _ _ h5
                      have HW2 := hidden hW
                      clear hF hW h5
                      unfold Rl.Does
                      go_simp
                      exact ⟨rfl, HW2.out, Below.refl _ _⟩
                    · change Rl.StepOk _ _ _ _ _ _ _ _
                      intro ρ w2 hF hW
                      have e9 : ρ 9 = .int .i64 (cc : Nat) := hF 9 (by decide)
                      have HW2 := hidden hW
                      clear hF hW
                      unfold Rl.Does
                      go_simp
                      exact ⟨rfl, HW2.out, Below.refl _ _⟩
                    · change Rl.StepOk _ _ _ _ _ _ _ _
                      intro ρ w2 hF hW
                      have e4 : ρ 4 = .pointer (some ⟨AB, 0, none⟩) := hF 4 (by decide)
                      have e55 : ρ 55 = .int .i64 (cc : Nat) := hF 55 (by decide)
                      have HW2 := hidden hW
                      have hc256 : (cc : Int) < 256 := by omega
                      clear hF hW
                      unfold Rl.Does
                      go_simp
                      exact ⟨rfl, HW2.out, Below.refl _ _⟩
                    · change Rl.StepOk _ _ _ _ _ _ _ _
                      intro ρ w2 hF hW
                      have e56 : ρ 56 = .pointer (some ⟨AB, cc, none⟩) := hF 56 (by decide)
                      have t1 := (HE.out.a.below hW).cell (j := cc) (by omega)
                      unfold nV at t1
                      have HW2 := hidden hW
                      clear hF hW
                      unfold Rl.Does
                      go_simp
                      exact ⟨rfl, HW2.out, Below.refl _ _⟩
                    · change Rl.StepOk _ _ _ _ _ _ _ _
                      intro ρ w2 hF hW
                      have e54 : ρ 54 = .agg #[.pointer x, .slice a m c] := hF 54 (by decide)
                      have e57 : ρ 57 = .int .u8 (lbC D.cls cc : Nat) := hF 57 (by decide)
                      have HW2 := hidden hW
                      clear hF hW
                      unfold Rl.Does
                      go_simp
                      refine (wordWith_calls (lbC D.cls cc) (HWD.out.mono (KeepW.of_below HW2.out))).mono ?_
                      rintro e w4 ⟨⟨bv', ov', rfl, hw4⟩, hb4⟩
                      exact ⟨_, rfl, ⟨bv', ov', rfl, hw4⟩, below_then HW2.out HW2.out.size hb4, hb4⟩
                  case last =>
                    intro a1 w2 hs hv hW
                    have h51 : a1.tmps.getD 51 undef = .func (.func 54) #[] #[.pointer (some ⟨RB + 1, 0, none⟩), .pointer (some ⟨RB + 1 + 1, 0, none⟩), .pointer (some ⟨w.heap.size + 1, 0, none⟩)] := hv 0 51 (by decide) (by kernel_rfl)
                    have h52 : a1.tmps.getD 52 undef = .int .i64 (k : Nat) := hv 1 52 (by decide) (by kernel_rfl)
                    obtain ⟨bv', ov', h58, hw4⟩ : WordV (u ++ [lbC D.cls cc]) (a1.tmps.getD 58 undef) w2 := hv 7 58 (by decide) (by kernel_rfl)
                    have hd := hs.defers
                    have hz := hs.lit [51, 52, 53, 54, 55, 56, 57, 58, 59, 60] (by kernel_rfl)
                    have HE2 := hidden (HE.out.below HJE.out hW)
                    have HT2 := hidden ((hW.block AT (Array.getElem?_eq_some_iff.1 HT.out).1).trans HT.out)
                    have HWD2 := hidden (HWD.out.mono (KeepW.of_below hW))
                    have HW4 := hidden hw4
                    clear hs hv hW hw4
                    obtain ⟨tm, df⟩ := a1
                    simp only at hz hd h51 h52 h58
                    simp only [List.foldl_cons, List.foldl_nil, List.setIfInBounds_toArray, List.set_cons_zero, List.set_cons_succ] at hz
                    rw [h51, h52, h58] at hz
                    generalize tm.getD 53 undef = u53 at hz
                    generalize tm.getD 54 undef = u54 at hz
                    generalize tm.getD 55 undef = u55 at hz
                    generalize tm.getD 56 undef = u56 at hz
                    generalize tm.getD 57 undef = u57 at hz
                    generalize tm.getD 59 undef = u59 at hz
                    generalize tm.getD 60 undef = u60 at hz
                    clear h51 h52 h58
                    subst hz hd
                    refine Rl.wpOp_of_list2 rfl rfl rfl rfl ?_
                    go_wp2_with fail
                    have hql2 : qs.length ≤ 100000 := by
                      have h1 := HE2.out.e.e.1
                      rw [List.length_drop] at h1
                      obtain ⟨_, _, hvd⟩ := vis_done HRT.out
                      have h2 := hvd.len HRT.out
                      have h3 := HPR.out.length_le
                      rw [List.length_append] at h3
                      rw [← HN.out] at h2
                      omega
                    refine (wait_ea P HE2.out hef HJE.out HW4.out (s := k) (u := u ++ [lbC D.cls cc]) (by rw [← HN.out]; exact hkn) hql2 (fun W bv ov hj hw hn => HSEE.out V (k, _) W bv ov HPR.out hj hw hn)).mono ?_
                    rintro e w6 ⟨hk, hwf, ⟨rfl, qv6, hE6, hli⟩ | ⟨rfl, hp⟩⟩
                    · have HST6 := hidden (show EaV w.heap.size w6 D J w.heap.size AB (RB + 1) (RB + 1 + 1) (w.heap.size + 1) RB (.slice (some ⟨b, ro, none⟩) n cn) vl qv6 (.func (.func f) #[] caps) (fnd.set k true) (qs ++ [(k, bv', ov')]) (visC D s' u (visN D h) (cc + 1)) ((visC D s' u (visN D h) (cc + 1)).drop (h + 1)) from by rw [HST.out, List.drop_append_of_le_length HDL.out]; exact hE6)
                      have HT6 := hidden (hwf.keep HE2.out.e HT2.out HATN.out ⟨by decide, by decide, by decide⟩ HQA.out)
                      have HWD6 := hidden (HWD2.out.mono hk)
                      have HQA6 := hidden (show qv6.ownBlock ≠ some AT from fun e => by
                        rcases hli _ e with h | h
                        · exact HQA.out h
                        · have := (Array.getElem?_eq_some_iff.1 HT2.out).1
                          omega)
                      clear hk hwf hE6 hli
                      go_wp2
                      go_roundw
                      case rel => exact ⟨cc + 1, qv6, _, _, by omega, by go_num, HST6.out, HT6.out, HWD6.out, HQA6.out⟩
                      case measure => simp [Go.RowKit.intOf]; omega
                    · have HP6 := hidden hp
                      clear hk hwf hp
                      go_wp2
                      (try rw [Exit.noGoto_normal])
                      refine bodyPost_end (results_none rfl _ _ _) rfl ⟨rfl, .inr HP6.out⟩
            · obtain rfl : cc = W := by omega
              have HFI := hidden (show EaV w.heap.size wr D J w.heap.size AB (RB + 1) (RB + 1 + 1) (w.heap.size + 1) RB (.slice (some ⟨b, ro, none⟩) n cn) vl qv (.func (.func f) #[] caps) fnd qs (visN D (h + 1)) ((visN D (h + 1)).drop (h + 1)) from by rw [HNX.out, HWN.out]; exact hE)
              clear hE hT hwd hqa hbm
              go_wp2
              go_roundg (gk - 1)
              case measure => have := HGK.out; have := HLT.out; omega
              case rel => exact ⟨h + 1, qv, fnd, qs, by have := HGK.out; have := HLT.out; omega, Nat.le_trans (Nat.succ_le_of_lt HLT.out) (visN_pre h 1).length_le, HFI.out⟩
      · obtain ⟨qa, qc, hqv⟩ := hE.e.q.form
        subst hqv
        have hq0 : qs.length = 0 := by omega
        have HJF := hidden (show J (visA D) wr from by rw [← visN_end HRT.out hh (by omega)]; exact hE.j)
        rw [hq0] at l0
        clear hE hql hq0
        go_wp2
        rw [Exit.noGoto_normal]
        refine bodyPost_end (results_none rfl _ _ _) rfl ⟨rfl, .inl HJF.out⟩
  · have HP3 := hidden hp3
    clear hp3 HEV0
    go_wp2
    (try rw [Exit.noGoto_ret])
    refine bodyPost_ret (results_none rfl _ _ _) rfl ⟨rfl, .inr HP3.out⟩
end Go.Proofs.YtnjjbaodfjmiaaaGreat

/- Contracts of the program's isRow and Right of a machine. -/
namespace Go.Proofs.YtnjjbaodfjmiaaaGreat
open Go.RowKit

def entP (n : Nat) (x : Int) : Bool := decide (-1 ≤ x) && decide (x < n)
def rowP (l : List Int) (wd : Int) (n : Nat) : Bool := decide ((l.length : Int) = wd) && l.all (entP n)
set_option maxHeartbeats 2000000 in
set_option maxRecDepth 100000 in
theorem isRow_calls {w : World} {v : Value} {l : List Int} (wd : Int) (n : Nat) (h : RdZ w.heap.size w v l) :
    Calls Tryz.prog 47 #[v, .int .i64 wd, .int .i64 n] w fun e w' => e = .returned (.bool (rowP l wd n)) ∧ Below w.heap.size w w' := by
  obtain ⟨a, c, rfl⟩ := h.form
  have hb : l.length ≤ 9223372036854775807 := by
    obtain ⟨_, _, e, h1, h2, _⟩ := h
    unfold maxLen at h2
    omega
  have HA := hidden (fun i (hi : i < l.length) => h.atZ (Below.refl _ _) i hi)
  have HE := hidden (fun i (hi : i < l.length) (he : entP n (l.getD i 0) = false) => (show l.all (entP n) = false from by
    rw [List.all_eq_false]
    refine ⟨l.getD i 0, ?_, by rw [he]; decide⟩
    rw [List.getD_eq_getElem?_getD, List.getElem?_eq_getElem hi]
    exact List.getElem_mem hi))
  have HAL := hidden (show (∀ i, i < l.length → entP n (l.getD i 0) = true) → l.all (entP n) = true from fun h => by
    rw [List.all_eq_true]
    intro x hx
    obtain ⟨i, hi, rfl⟩ := List.getElem_of_mem hx
    have := h i hi
    rwa [List.getD_eq_getElem?_getD, List.getElem?_eq_getElem hi] at this)
  have HR := hidden (show rowP l wd n = (decide ((l.length : Int) = wd) && l.all (entP n)) from rfl)
  obtain ⟨m, hm⟩ : ∃ m, m = l.length := ⟨_, rfl⟩
  rw [← hm] at HA HE HAL HR hb ⊢
  clear h hm
  by_cases hw : (m : Int) = wd
  case neg =>
    have hq : decide ((m : Int) = wd) = false := decide_eq_false hw
    have hq2 : ((m : Int) == wd) = false := by simpa using hw
    rw [hq, Bool.false_and] at HR
    clear hw
    go_enter Tryz.func47, Tryz.ntmps47
    go_wp2
    go_ret
    exact ⟨ret_b HR.out.symm, Below.refl _ _⟩
  have hq : decide ((m : Int) = wd) = true := decide_eq_true hw
  have hq2 : ((m : Int) == wd) = true := by simpa using hw
  rw [hq, Bool.true_and] at HR
  subst hw
  clear hq
  go_enter Tryz.func47, Tryz.ntmps47
  go_wp2
  go_loopw [15] (fun i wr => ∃ k : Nat, k ≤ m ∧ i = .int .i64 k ∧ Hid (∀ j, j < k → entP n (l.getD j 0) = true) ∧ wr = w) (fun i _ => m - (Go.RowKit.intOf i).toNat)
  case atStart => exact ⟨0, by omega, rfl, hidden fun j hj => by omega, rfl⟩
  case round =>
    obtain ⟨k, hk, rfl, hA, rfl⟩ := hrel
    by_cases hlt : k < m
    · obtain ⟨b, off, rfl, _, d0⟩ := HA.out k hlt
      have HEN := hidden (show entP n (l.getD k 0) = (decide (-1 ≤ l.getD k 0) && decide (l.getD k 0 < n)) from rfl)
      have HEX := hidden (HE.out k hlt)
      obtain ⟨x, hx⟩ : ∃ x, x = l.getD k 0 := ⟨_, rfl⟩
      have HX := hidden hx
      rw [← hx] at d0 HEN HEX
      clear hx
      by_cases h1 : x < -1
      · have HF := hidden (HEX.out (by rw [HEN.out, decide_eq_false (by omega)]; rfl))
        go_wp2
        go_ret
        exact ⟨ret_b (HR.out.trans HF.out).symm, Below.refl _ _⟩
      · by_cases h2 : x < (n : Int)
        · have HT := hidden (show entP n x = true by rw [HEN.out, decide_eq_true (by omega), decide_eq_true h2]; rfl)
          have hq3 : decide ((n : Int) ≤ x) = false := decide_eq_false (by omega)
          go_wp2
          go_roundw
          case rel =>
            refine ⟨k + 1, by omega, by go_num, hidden fun j hj => ?_, trivial⟩
            by_cases e : j = k
            · subst e; rw [← HX.out]; exact HT.out
            · exact hA.out j (by omega)
          case measure => simp [Go.RowKit.intOf]; omega
        · have HF := hidden (HEX.out (by rw [HEN.out, decide_eq_false h2, Bool.and_false]))
          have hq3 : decide ((n : Int) ≤ x) = true := decide_eq_true (by omega)
          go_wp2
          go_ret
          exact ⟨ret_b (HR.out.trans HF.out).symm, Below.refl _ _⟩
    · obtain rfl : k = m := by omega
      have HF := hidden (HAL.out hA.out)
      go_wp2
      go_ret
      exact ⟨ret_b (HR.out.trans HF.out).symm, Below.refl _ _⟩
theorem rowOk_p (D : DfaM) (i : Nat) : rowOk D i = (decide (-1 ≤ D.label.getD i 0) && rowP (D.next.getD i []) D.width D.next.length) := by
  unfold rowOk rowP
  have e : entB D = entP D.next.length := rfl
  rw [e]
  cases decide (((D.next.getD i []).length : Int) = D.width) <;> simp
set_option maxHeartbeats 4000000 in
set_option maxRecDepth 100000 in
theorem right14_calls {w : World} {vn vl : Value} {D : DfaM} (h : RdDfa w.heap.size w vn vl D) :
    Calls Tryz.prog 27 #[dfaA D.cls D.width vn vl] w fun e w' => e = .returned (.bool (rightD D)) ∧ Below w.heap.size w w' := by
  obtain ⟨an, cn, rfl⟩ := h.next.form
  obtain ⟨al, cl, rfl⟩ := h.label.form
  have hbn : D.next.length ≤ 9223372036854775807 := by
    obtain ⟨_, _, e, h1, h2, _⟩ := h.next
    unfold maxLen at h2
    omega
  have HROW := hidden (fun i => rowOk_p D i)
  have HRF := hidden (fun i (hi : i < D.next.length) (hf : rowOk D i = false) => rightD_row hi hf)
  have HRA := hidden (fun (h1 : headOk D = true) (h2 : ∀ i, i < D.next.length → rowOk D i = true) => rightD_all h1 h2)
  obtain ⟨n, hn⟩ : ∃ n, n = D.next.length := ⟨_, rfl⟩
  obtain ⟨m, hm⟩ : ∃ m, m = D.label.length := ⟨_, rfl⟩
  rw [← hn] at hbn h HROW HRF HRA ⊢
  rw [← hm] at h ⊢
  have HN := hidden hn
  have HM := hidden hm
  have HD := hidden h
  have HX := hidden (DfaAt.new w D.cls D.width (.slice an n cn) (.slice al m cl))
  have HB0 := hidden ((Below.refl w.heap.size w).alloc (Nat.le_refl _) (.cells (dfaC D.cls D.width (.slice an n cn) (.slice al m cl)) 26))
  have hbx := run_box_dfa D.cls D.width (.slice an n cn) (.slice al m cl)
  clear h hn hm
  go_enter Tryz.func27, Tryz.ntmps27
  go_wp2
  obtain ⟨w0, hw0⟩ : ∃ w0, w0 = w.alloc (.cells (dfaC D.cls D.width (.slice an n cn) (.slice al m cl)) 26) := ⟨_, rfl⟩
  rw [← hw0] at HX HB0 ⊢
  have hz0 : w.heap.size < w0.heap.size := by rw [hw0]; simp
  clear hw0
  have HL := hidden (show ∀ w', (∃ p : Later w0, w' = p.at') → (loadVar 22 ⟨w.heap.size, 0, none⟩).run Tryz.prog w' = .ok (ar D.cls) w' from fun w' ⟨p, e⟩ => by subst e; exact run_load_cls (HX.out.below p.ok))
  have c1 := fun (p : Later w0) => Later.cell HX.out.width hz0 p
  have HR := hidden (fun w' => kright_calls D.cls w' HD.out.small)
  have HV := hidden (fun w' => width_calls D.cls w' HD.out.small)
  obtain ⟨nn, hnn⟩ : ∃ nn, nn = wid D.cls 256 := ⟨_, rfl⟩
  rw [← hnn] at HV
  obtain ⟨r1, hr1⟩ : ∃ r, r = rightV D.cls := ⟨_, rfl⟩
  rw [← hr1] at HR
  have HH := hidden (show headOk D = (r1 && (decide (D.width = (nn : Int)) && (decide (n ≠ 0) && decide (m = n)))) from by unfold headOk; rw [hr1, hnn, HN.out, HM.out])
  clear hr1 hnn
  cases r1 with
  | false =>
    have HF := hidden (show rightD D = false by unfold rightD; rw [HH.out]; rfl)
    clear HH
    refine wp_region_later (by kernel_rfl) (by kernel_rfl) ?_
    repeat (first
      | (go_big_quiet_want; (first | (refine quiet_load (x := .tmp 5) rfl rfl HL.out ?_) | (refine quiet_load (x := .tmp 12) rfl rfl HL.out ?_)); simp only [Act.put, List.setIfInBounds_toArray, List.set_cons_zero, List.set_cons_succ]; go_big_quiet_on)
      | go_big_quiet_step ((first | (go_at_call 45; exact Later.calls (HR.out _)) | (go_at_call 46; exact Later.calls (HV.out _)))))
    refine wpQuiet_nil ?_
    rintro _ ⟨⟨_, hb1⟩, rfl⟩
    rename_i w1
    go_wp2
    go_ret
    exact ⟨ret_b HF.out.symm, below_then HB0.out HB0.out.size hb1⟩
  | true =>
    by_cases k2 : D.width = (nn : Int)
    case neg =>
      have HF := hidden (show rightD D = false by unfold rightD; rw [HH.out, decide_eq_false k2]; rfl)
      have q2 : (D.width == (nn : Int)) = false := by simp [k2]
      have q2' : (D.width != (nn : Int)) = true := by simp [k2]
      have k2H := hidden k2
      clear HH k2
      refine wp_region_later (by kernel_rfl) (by kernel_rfl) ?_
      repeat (first
        | (go_big_quiet_want; (first | (refine quiet_load (x := .tmp 5) rfl rfl HL.out ?_) | (refine quiet_load (x := .tmp 12) rfl rfl HL.out ?_)); simp only [Act.put, List.setIfInBounds_toArray, List.set_cons_zero, List.set_cons_succ]; go_big_quiet_on)
        | go_big_quiet_step ((first | (go_at_call 45; exact Later.calls (HR.out _)) | (go_at_call 46; exact Later.calls (HV.out _)))))
      refine wpQuiet_nil ?_
      rintro _ ⟨⟨_, hb1⟩, rfl⟩
      rename_i w1
      go_wp2
      go_ret
      exact ⟨ret_b HF.out.symm, below_then HB0.out HB0.out.size hb1⟩
    have q2 : (D.width == (nn : Int)) = true := by simp [k2]
    have q2' : (D.width != (nn : Int)) = false := by simp [k2]
    have k2H := hidden k2
    rw [decide_eq_true k2, Bool.true_and, Bool.true_and] at HH
    clear k2
    refine wp_region_later (by kernel_rfl) (by kernel_rfl) ?_
    repeat (first
      | (go_big_quiet_want; (first | (refine quiet_load (x := .tmp 5) rfl rfl HL.out ?_) | (refine quiet_load (x := .tmp 12) rfl rfl HL.out ?_)); simp only [Act.put, List.setIfInBounds_toArray, List.set_cons_zero, List.set_cons_succ]; go_big_quiet_on)
      | go_big_quiet_step ((first | (go_at_call 45; exact Later.calls (HR.out _)) | (go_at_call 46; exact Later.calls (HV.out _)))))
    refine wpQuiet_nil ?_
    rintro _ ⟨⟨_, hb1⟩, rfl⟩
    rename_i w1
    have hz1 := hb1.size
    have HX1 := hidden (HX.out.below hb1)
    have HB1 := hidden (below_then HB0.out HB0.out.size hb1)
    have e1 := HX1.out.width
    have e2 := HX1.out.next
    have e3 := HX1.out.label
    clear hb1 c1 HL HR HV q2 q2'
    by_cases k3 : n = 0
    · have HF := hidden (show rightD D = false by unfold rightD; rw [HH.out]; simp [k3])
      have q3 : ((n : Int) == 0) = true := by simp [k3]
      have q4 : decide ((n : Int) = 0) = true := by simp [k3]
      have k3H := hidden k3
      clear HH k3
      go_wp2
      go_ret
      exact ⟨ret_b HF.out.symm, HB1.out⟩
    have q3 : ((n : Int) == 0) = false := by simp [k3]
    have q3' : decide ((n : Int) = 0) = false := by simp [k3]
    by_cases k4 : m = n
    case neg =>
      have HF := hidden (show rightD D = false by unfold rightD; rw [HH.out]; simp [k4])
      have q4 : ((m : Int) == (n : Int)) = false := by simp; omega
      have q4' : decide ((m : Int) = (n : Int)) = false := by simp; omega
      have k3H := hidden k3
      have k4H := hidden k4
      clear HH k3 k4
      go_wp2
      go_ret
      exact ⟨ret_b HF.out.symm, HB1.out⟩
    have HOK := hidden (show headOk D = true by rw [HH.out]; simp [k3, k4])
    subst k4
    have k3H := hidden k3
    clear HH k3
    go_wp2
    clear q3 q3'
    go_loopw [30] (fun i wr => ∃ k : Nat, k ≤ m ∧ i = .int .i64 k ∧ Hid (∀ j, j < k → rowOk D j = true) ∧ Below w1.heap.size w1 wr) (fun i _ => m - (Go.RowKit.intOf i).toNat)
    case atStart => exact ⟨0, by omega, rfl, hidden fun j hj => by omega, Below.refl _ _⟩
    case round =>
      obtain ⟨k, hk, rfl, hA, hb⟩ := hrel
      have HB := hidden hb
      clear hb e1 e2 e3
      by_cases hlt : k < m
      · have hX := HX1.out.below HB.out
        have HBW := hidden (below_then HB1.out HB1.out.size HB.out)
        obtain ⟨b, off, rfl, hbb, hcl⟩ := HD.out.label.atZ HBW.out k (by have := HM.out; omega)
        obtain ⟨b2, off2, a2, c2, rfl, hbb2, hcl2, hrr⟩ := HD.out.next.at HBW.out k (by have := HN.out; omega)
        have d1 := fun (p : Later wr) => Later.cell hX.width hX.lt p
        have d2 := fun (p : Later wr) => Later.cell hX.next hX.lt p
        have d3 := fun (p : Later wr) => Later.cell hX.label hX.lt p
        have d4 := fun (p : Later wr) => Later.cell hcl (cell_lt hcl) p
        have d5 := fun (p : Later wr) => Later.cell hcl2 (cell_lt hcl2) p
        have HIR := hidden (fun (W : World) (hb : Below wr.heap.size wr W) => isRow_calls (w := W) D.width m (hrr.below (hb.mono (Nat.le_trans HBW.out.size (Nat.le_refl _))) (Nat.le_trans HBW.out.size hb.size)))
        have HRK := hidden (HROW.out k)
        obtain ⟨lx, hlx⟩ : ∃ x, x = D.label.getD k 0 := ⟨_, rfl⟩
        obtain ⟨rl, hrl⟩ : ∃ x, x = D.next.getD k [] := ⟨_, rfl⟩
        rw [← hlx] at d4 HRK
        rw [← hrl] at d5 HIR HRK
        obtain ⟨rn, hrn⟩ : ∃ x, x = rl.length := ⟨_, rfl⟩
        rw [← hrn] at d5 HIR
        obtain ⟨rp, hrp⟩ : ∃ x, x = rowP rl D.width m := ⟨_, rfl⟩
        rw [← hrp] at HIR HRK
        have hki : (k : Int) < (m : Int) := by omega
        clear hX hcl hcl2 hrr hlx hrl hrn hrp
        by_cases h1 : lx < -1
        · have HF := hidden (HRF.out k hlt (by rw [HRK.out, decide_eq_false (by omega)]; rfl))
          go_wp2
          refine wp_region_later (by kernel_rfl) (by kernel_rfl) ?_
          repeat (go_big_quiet_step (fail))
          refine wpQuiet_nil ?_
          rintro _ ⟨⟨_, hb5⟩, rfl⟩
          rename_i w5
          go_wp2
          go_ret
          exact ⟨ret_b HF.out.symm, below_then HBW.out HBW.out.size hb5⟩
        · have hq1 : decide (lx < -1) = false := decide_eq_false h1
          have HIL := hidden (show ∀ (p : Later wr), Calls Tryz.prog 47 #[.slice a2 rn c2, .int .i64 D.width, .int .i64 m] p.at' fun e w' => e = .returned (.bool rp) ∧ Below p.at'.heap.size p.at' w' from fun p => HIR.out _ p.ok)
          cases rp with
          | false =>
            have HF := hidden (HRF.out k hlt (by rw [HRK.out, Bool.and_false]))
            go_wp2
            refine wp_region_later (by kernel_rfl) (by kernel_rfl) ?_
            repeat (go_big_quiet_step ((go_at_call 47; exact Later.calls (HIL.out _))))
            refine wpQuiet_nil ?_
            rintro _ ⟨⟨_, hb5⟩, rfl⟩
            rename_i w5
            go_wp2
            go_ret
            exact ⟨ret_b HF.out.symm, below_then HBW.out HBW.out.size hb5⟩
          | true =>
            have HT := hidden (show rowOk D k = true by rw [HRK.out, decide_eq_true (by omega)]; rfl)
            go_wp2
            refine wp_region_later (by kernel_rfl) (by kernel_rfl) ?_
            repeat (go_big_quiet_step ((go_at_call 47; exact Later.calls (HIL.out _))))
            refine wpQuiet_nil ?_
            rintro _ ⟨⟨_, hb5⟩, rfl⟩
            rename_i w5
            have HB5 := hidden (below_then HB.out HB.out.size hb5)
            clear hb5
            go_wp2
            go_roundw
            case rel =>
              refine ⟨k + 1, by omega, by go_num, hidden fun j hj => ?_, HB5.out⟩
              by_cases e : j = k
              · subst e; exact HT.out
              · exact hA.out j (by omega)
            case measure => simp [Go.RowKit.intOf]; omega
      · obtain rfl : k = m := by omega
        have HF := hidden (HRA.out HOK.out hA.out)
        go_wp2
        go_ret
        exact ⟨ret_b HF.out.symm, below_then HB1.out HB1.out.size HB.out⟩
end Go.Proofs.YtnjjbaodfjmiaaaGreat

/- Contract of the program's reached, Reached. -/
namespace Go.Proofs.YtnjjbaodfjmiaaaGreat
open Go.RowKit Go.Lib Go.Joins

section
variable {n : Nat} {a b c : World}
theorem SeeF.refl (n : Nat) (w : World) : SeeF n w w := ⟨rfl, rfl, rfl, Nat.le_refl _, fun _ _ _ _ => rfl, KeepW.refl _⟩
theorem SeeF.of_below (h : Below a.heap.size a b) : SeeF n a b := ⟨h.os, h.tape, h.output, h.size, fun k hk _ _ => h.block k hk, .of_below h⟩
theorem SeeF.trans (h : SeeF n a b) (k : SeeF n b c) : SeeF n a c :=
  ⟨k.os.trans h.os, k.tape.trans h.tape, k.output.trans h.output, Nat.le_trans h.size k.size, fun i hi hn ho => by
    have e := h.block i hi hn ho
    refine (k.block i (Nat.lt_of_lt_of_le hi h.size) hn ?_).trans e
    rintro ⟨cs, fr, hb⟩
    exact ho ⟨cs, fr, e.symm.trans hb⟩, h.words.trans k.words⟩
/-- one block is turned: a row of numbers, or one that was there before; of no word -/
theorem SeeF.grown {o : Option Nat} (hg : a.grownBy b o) (ho : ∀ k, o = some k → ∃ cs t fr, a.heap[k]? = some (.cells cs t fr) ∧ (k < n ∨ t = 3) ∧ t ≠ 52 ∧ t ≠ 5) : SeeF n a b := by
  refine ⟨hg.os, hg.tape, hg.output, hg.size, fun k hk hn hi => hg.block k hk fun e => ?_, KeepW.grown hg fun k e cs t fr hb => ?_⟩
  · obtain ⟨cs, t, fr, h1, h2, _⟩ := ho k e.symm
    rcases h2 with h2 | h2
    · omega
    · subst h2
      exact hi ⟨cs, fr, h1⟩
  · obtain ⟨cs', t', fr', h1, _, h3⟩ := ho k e
    rw [h1] at hb
    simp only [Option.some.injEq, Obj.cells.injEq] at hb
    rw [← hb.2.1]
    exact h3
end
theorem EachF.below {n m : Nat} {a b : World} (h : EachF n a b) (hm : m ≤ n) (hn : n ≤ a.heap.size) : Below m a b := ⟨h.os, h.tape, h.output, h.size, fun k hk => h.block k (by omega) (.inl (by omega))⟩
/-- a row of truths in a box of its own -/
structure FndAt (W : World) (XB RB m : Nat) (S : List Bool) : Prop where
  x : Boxed W XB 30 (.slice (some ⟨RB, 0, none⟩) m m)
  r : RowAt W RB 4 Value.bool S
  l : S.length = m
theorem FndAt.below {W W' : World} {XB RB m : Nat} {S : List Bool} (h : FndAt W XB RB m S) (hb : Below W.heap.size W W') : FndAt W' XB RB m S := ⟨(hb.block _ h.x.lt).trans h.x, h.r.below hb, h.l⟩
theorem FndAt.keep {W W' : World} {XB RB m : Nat} {S : List Bool} (h : FndAt W XB RB m S) (hx : W'.heap[XB]? = W.heap[XB]?) (hr : W'.heap[RB]? = W.heap[RB]?) : FndAt W' XB RB m S := ⟨hx.trans h.x, hr.trans h.r, h.l⟩
theorem FndAt.ne {W : World} {XB RB m : Nat} {S : List Bool} (h : FndAt W XB RB m S) : XB ≠ RB := fun e => by
  subst e
  have h1 := h.x
  have h2 := h.r
  unfold Boxed at h1
  unfold RowAt at h2
  rw [h1] at h2
  simp at h2
theorem FndAt.put {W : World} {XB RB m : Nat} {S : List Bool} (h : FndAt W XB RB m S) (i : Nat) (b : Bool) : FndAt (W.setCell ⟨RB, i, none⟩ (.bool b)) XB RB m (S.set i b) := ⟨(heap_setCell_other _ _ _ _ h.ne).trans h.x, h.r.set i b, by rw [List.length_set]; exact h.l⟩
theorem off_len {S : List Bool} {i : Nat} (h : S.length ≤ i) : ¬ On S i := fun e => by
  unfold On at e
  rw [List.getD_eq_getElem?_getD, List.getElem?_eq_none h] at e
  cases e
/-- what is found so far -/
def ReJ (base : Nat) (w : World) (XB RB m : Nat) (pre : List Vis) (W : World) : Prop := ∃ S, FndAt W XB RB m S ∧ (∀ j, j < m → (On S j ↔ inV pre j)) ∧ Below base w W ∧ base ≤ W.heap.size
theorem below_join {n : Nat} {a b c : World} (h : Below n a b) (k : Below n b c) : Below n a c := ⟨k.os.trans h.os, k.tape.trans h.tape, k.output.trans h.output, Nat.le_trans h.size k.size, fun i hi => (k.block i hi).trans (h.block i hi)⟩
set_option maxHeartbeats 4000000 in
set_option maxRecDepth 100000 in
theorem reach1_calls {w W : World} {base XB RB m n s : Nat} {u : List Nat} {pre : List Vis} {bv ov : Value} (hj : ReJ base w XB RB m pre W) (hs : s < m) (hlo : base ≤ RB) (hn : RB < n) (hw : WordAt W bv ov u) :
    Calls Tryz.prog 48 (#[.int .i64 (s : Nat), .agg #[bv, ov]] ++ #[.pointer (some ⟨XB, 0, none⟩)]) W (SeeR n W (ReJ base w XB RB m (pre ++ [(s, u)])) fun _ => False) := by
  obtain ⟨S, hF, hS, hB, hbs⟩ := hj
  obtain ⟨x, a, k, c, rfl, rfl⟩ := hw.form
  have hb1 : Below W.heap.size W (W.alloc (.cells #[.pointer x, .slice a k c] 52)) := (Below.refl _ _).alloc (Nat.le_refl _) _
  have HF := hidden (hF.below hb1)
  have x0 := HF.out.x.cell
  have r0 := HF.out.r.cell (i := s) (by rw [HF.out.l]; exact hs) false
  have r1 := HF.out.r.frozen s
  have HG := hidden (show SeeF n W ((W.alloc (.cells #[.pointer x, .slice a k c] 52)).setCell ⟨RB, s, none⟩ (.bool true)) from
    (SeeF.of_below hb1).trans (SeeF.grown (setCell_grown _ RB s (.bool true)) fun k e => by
      obtain rfl := Option.some.inj e
      exact ⟨_, _, _, HF.out.r, .inl hn, by decide, by decide⟩))
  have HJ := hidden (show ReJ base w XB RB m (pre ++ [(s, u)]) ((W.alloc (.cells #[.pointer x, .slice a k c] 52)).setCell ⟨RB, s, none⟩ (.bool true)) from
    ⟨_, HF.out.put s true, fun j hj => by rw [on_set (by rw [HF.out.l]; exact hs), inV_snoc, hS j hj], (hB.alloc hbs _).setCell (p := ⟨RB, s, none⟩) hlo _, by simp; omega⟩)
  clear hF hS hB hb1 hw
  show Calls Tryz.prog 48 #[.int .i64 (s : Nat), .agg #[.pointer x, .slice a k c], .pointer (some ⟨XB, 0, none⟩)] W _
  go_enter Tryz.func48, Tryz.ntmps48
  go_wp2
  go_ret
  exact ⟨HG.out, .inl ⟨rfl, HJ.out⟩⟩
set_option maxHeartbeats 4000000 in
set_option maxRecDepth 100000 in
theorem preached_calls {w : World} {vn vl : Value} {D : DfaM} (hR : rightD D = true) (h : RdDfa w.heap.size w vn vl D) (hN : D.next.length ≤ 1000) :
    Calls Tryz.prog 28 #[dfaA D.cls D.width vn vl] w (RetBo w (reachedL D)) := by
  obtain ⟨an, cn, rfl⟩ := h.next.form
  obtain ⟨n, hn⟩ : ∃ n, n = D.next.length := ⟨_, rfl⟩
  have hbx := run_box_dfa D.cls D.width (.slice an D.next.length cn) vl
  have HX := hidden (DfaAt.new w D.cls D.width (.slice an D.next.length cn) vl)
  have e2 := HX.out.next
  have hb0 : Below w.heap.size w (w.alloc (.cells (dfaC D.cls D.width (.slice an D.next.length cn) vl) 26)) := (Below.refl w.heap.size w).alloc (Nat.le_refl _) _
  have hm := run_make_b (w.alloc (.cells (dfaC D.cls D.width (.slice an D.next.length cn) vl) 26)) n (by omega)
  have HL := hidden (show ∀ (S : List Bool), S.length = n → (∀ j, j < n → (On S j ↔ inV (visA D) j)) → S = reachedL D from fun S hl hS => on_ext (by rw [hl, reached_len hR, hn]) fun i => by
    by_cases hi : i < n
    · rw [hS i hi, vis_rch hR, reached_iff hR]
    · have h1 := off_len (S := S) (i := i) (by omega)
      have h2 := off_len (S := reachedL D) (i := i) (by rw [reached_len hR]; omega)
      exact ⟨fun h => absurd h h1, fun h => absurd h h2⟩)
  have hsz : (w.alloc (.cells (dfaC D.cls D.width (.slice an D.next.length cn) vl) 26)).heap.size = w.heap.size + 1 := by simp
  rw [← hn] at h hN hbx HX e2 hb0 hm hsz ⊢
  have HB0 := hidden hb0
  have HN := hidden hn
  have HD := hidden h
  have HRT := hidden hR
  clear hb0 h hR hn
  have HXb := hidden ((HX.out.alloc (.cells (Array.replicate n (.bool false)) 4)).alloc (.cells #[.slice (some ⟨w.heap.size + 1, 0, none⟩) n n] 30))
  go_enter Tryz.func28, Tryz.ntmps28
  go_wp2_with (first | (refine load_dfa rfl (x := .tmp 1) rfl rfl HXb.out ?_) | fail)
  obtain ⟨w3, hw3⟩ : ∃ w3, w3 = (((w.alloc (.cells (dfaC D.cls D.width (.slice an n cn) vl) 26)).alloc (.cells (Array.replicate n (.bool false)) 4)).alloc (.cells #[.slice (some ⟨w.heap.size + 1, 0, none⟩) n n] 30)) := ⟨_, rfl⟩
  have HB3 := hidden (show Below w.heap.size w w3 from by rw [hw3]; exact (HB0.out.alloc HB0.out.size _).alloc (by simp; omega) _)
  have hs3 : w3.heap.size = w.heap.size + 1 + 1 + 1 := by rw [hw3]; simp
  have HJ0 := hidden (show ReJ w.heap.size w3 (w.heap.size + 1 + 1) (w.heap.size + 1) n [] w3 from ⟨List.replicate n false, ⟨by rw [hw3]; have := Boxed.new ((w.alloc (.cells (dfaC D.cls D.width (.slice an n cn) vl) 26)).alloc (.cells (Array.replicate n (.bool false)) 4)) 30 (.slice (some ⟨w.heap.size + 1, 0, none⟩) n n); simpa using this,
    by rw [hw3]; refine RowAt.alloc (RowAt.newAt (by simp) ?_) _; rw [List.map_replicate, List.toArray_replicate], by simp⟩, fun j _ => ⟨fun h => absurd h (on_none n j), fun h => absurd h (by simp [inV])⟩, Below.refl _ _, by omega⟩)
  rw [← hw3]
  have HS3 := hidden hs3
  have HL3 := hidden (show n ≤ 1000 from hN)
  clear hw3 hs3 hbx e2 hm hsz HX HXb hN
  refine (each_calls (ReJ w.heap.size w3 (w.heap.size + 1 + 1) (w.heap.size + 1) n) (fun _ => False) (caps := #[.pointer (some ⟨w.heap.size + 1 + 1, 0, none⟩)]) HRT.out (by rw [← HN.out]; exact HL3.out) HD.out.small (m0 := w.heap.size) (HD.out.below HB3.out (Nat.le_refl _)) (by have := HS3.out; omega) ?_ ?_ HJ0.out ?_ ?_).mono ?_
  · rintro pre W ⟨S, _, _, hb, _⟩
    exact hb
  · rintro pre W W' ⟨S, hF, hS, hb, hbs⟩ hE
    refine ⟨S, hF.keep (hE.block _ hF.x.lt (.inl (by have := HS3.out; omega))) (hE.block _ hF.r.lt (.inl (by have := HS3.out; omega))), hS, below_join hb (hE.below (by have := HS3.out; omega) (hb.size)), Nat.le_trans hbs hE.size⟩
  · exact fun args W => Go.MuLone.run_callFunc_enter Tryz.func48 (by kernel_rfl) rfl args W
  · intro pre x W bv ov hp hj hw hnsz
    refine reach1_calls hj ?_ (by omega) (by have := HS3.out; omega) hw
    have := (vis_sound HRT.out x (hp.subset (by simp))).lt HRT.out
    rw [HN.out]
    exact this
  · rintro e W ⟨rfl, ⟨S, hF, hS, hb, _⟩ | hf⟩
    · have HF := hidden hF
      have HSE := hidden (HL.out S hF.l hS)
      have HB := hidden (below_join HB3.out hb)
      have x0 := hF.x.cell
      clear hF hS hb
      go_wp2
      go_ret
      exact ⟨_, rfl, by rw [← HSE.out]; exact HF.out.r.reads (by rw [HF.out.l]; have := HL3.out; omega) HF.out.l.symm, HB.out, own_at (by omega)⟩
    · exact hf.elim
set_option maxHeartbeats 4000000 in
set_option maxRecDepth 100000 in
theorem lreached_calls {w : World} {vn vl : Value} {D : DfaM} (h : RdDfa w.heap.size w vn vl D) (hN : D.next.length ≤ 1000) :
    Calls Tryz.prog 10 #[dfaA D.cls D.width vn vl] w (RetBo w (reachedL D)) := by
  have HR := hidden (fun w' (hb : Below w.heap.size w w') => right14_calls (h.below hb hb.size))
  have HP := hidden (fun hr w' (hb : Below w.heap.size w w') => preached_calls hr (h.below hb hb.size) hN)
  have hbx := run_box_dfa D.cls D.width vn vl
  have HX := hidden (DfaAt.new w D.cls D.width vn vl)
  have HB0 := hidden ((Below.refl w.heap.size w).alloc (Nat.le_refl _) (.cells (dfaC D.cls D.width vn vl) 26))
  clear h
  go_enter Tryz.func10, Tryz.ntmps10
  go_wp2_with (refine load_dfa rfl (x := .tmp 1) rfl rfl HX.out ?_)
  refine (HR.out _ HB0.out).mono ?_
  rintro e w1 ⟨rfl, hb1⟩
  have HX1 := hidden (HX.out.below hb1)
  have HB1 := hidden (below_then HB0.out HB0.out.size hb1)
  clear hb1
  cases hr : rightD D with
  | false =>
    have HF := hidden (show reachedL D = [] by unfold reachedL; rw [if_neg (by simp [hr])])
    clear hr
    go_wp2
    go_ret
    exact ⟨_, rfl, by rw [HF.out]; exact rdb_nil, HB1.out, fun k hk => by cases hk⟩
  | true =>
    have HRT := hidden hr
    clear hr
    go_wp2_with (refine load_dfa rfl (x := .tmp 1) rfl rfl HX1.out ?_)
    refine (HP.out HRT.out _ HB1.out).mono ?_
    rintro e w2 ⟨v, rfl, hr2, hb2, hown⟩
    have HR2 := hidden hr2
    have HB2 := hidden (below_then HB1.out HB1.out.size hb2)
    have HOW := hidden (show ∀ k, v.ownBlock = some k → w.heap.size ≤ k from fun k hk => Nat.le_trans HB1.out.size (hown k hk))
    clear hr2 hb2 hown
    go_wp2
    go_ret
    exact ⟨_, rfl, HR2.out, HB2.out, HOW.out⟩
end Go.Proofs.YtnjjbaodfjmiaaaGreat

/- Contracts of the reference's put, Of, Union and Kept. -/
namespace Go.Proofs.YtnjjbaodfjmiaaaGreat
open Go.RowKit Go.Lib Go.Joins

/-- a row of the call's own, and what was there -/
def MkZ (w : World) (l : List Int) (v : Value) (wr : World) : Prop := RowZ wr w.heap.size v l ∧ Below w.heap.size w wr
theorem MkZ.below {w wr w' : World} {l : List Int} {v : Value} (h : MkZ w l v wr) (hb : Below wr.heap.size wr w') : MkZ w l v w' := ⟨h.1.kept hb, below_then h.2 h.2.size hb⟩
theorem take_moreZ (l : List Int) (k : Nat) (h : k < l.length) : l.take (k + 1) = l.take k ++ [l.getD k 0] := by
  rw [List.take_succ_eq_append_getElem h, List.getD_eq_getElem?_getD, List.getElem?_eq_getElem h]
  rfl
set_option maxHeartbeats 8000000 in
set_option maxRecDepth 100000 in
theorem rput11_calls (w : World) (v : Value) (l : List Int) (n : Int) (h : RdZ w.heap.size w v l) (hl : l.length ≤ 90000) : Calls Tryz.prog 60 #[v, .int .i64 n] w fun e w' => ∃ u, e = .returned u ∧ ((u = v ∧ n ∈ l) ∨ (n ∉ l ∧ RowZ w' w.heap.size u (putV l n))) ∧ Below w.heap.size w w' := by
  have HH := hidden (has11_calls w v l n h)
  have HR := hidden h
  by_cases hm : n ∈ l
  · rw [decide_eq_true hm] at HH
    have HM := hidden hm
    obtain ⟨a, cap, rfl⟩ := h.form
    clear h hm
    go_enter Tryz.func60, Tryz.ntmps60
    go_wp2_with fail
    refine HH.out.mono ?_
    rintro e w1 ⟨rfl, hb1⟩
    go_wp2
    go_ret
    exact ⟨_, rfl, .inl ⟨rfl, HM.out⟩, hb1⟩
  · rw [decide_eq_false hm] at HH
    have HM := hidden hm
    have HPV := hidden (show putV l n = l.take (lead l n) ++ n :: l.drop (lead l n) from if_neg hm)
    have HLA := hidden (fun i hi => lead_at l n i hi)
    have hle := lead_le l n
    have HTM := hidden (fun k hk => take_moreZ l k hk)
    obtain ⟨a, cap, rfl, h1, h2, _, h4⟩ := h
    have H4 := hidden h4
    have HTL := hidden (fun k (hk : k ≤ l.length) => (show (l.take k).length = k by rw [List.length_take]; omega))
    obtain ⟨m, hmm⟩ : ∃ m, m = l.length := ⟨_, rfl⟩
    have HMM := hidden hmm
    rw [← hmm] at HLA hle HTM H4 HTL HH hl h1 ⊢
    obtain ⟨ld, hld⟩ : ∃ ld, ld = lead l n := ⟨_, rfl⟩
    rw [← hld] at HLA HPV hle
    unfold maxLen at h2
    clear h4 hm hmm hld
    go_enter Tryz.func60, Tryz.ntmps60
    go_wp2_with fail
    refine HH.out.mono ?_
    rintro e w1 ⟨rfl, hb1⟩
    have HS := hidden (show MkZ w [] (.slice (some ⟨w1.heap.size, 0, none⟩) 0 0) (w1.alloc (.cells #[] 3)) from ⟨(RowZ.lit w1 _ rfl _ rfl).lower hb1.size, hb1.alloc hb1.size _⟩)
    clear hb1
    go_wp2
    go_loopw [5, 6] (fun ov i wr => ∃ (k : Nat) (o : Value), k ≤ ld ∧ i = .int .i64 k ∧ o = ov ∧ MkZ w (l.take k) o wr) (fun _ i _ => ld - (Go.RowKit.intOf i).toNat)
    case atStart => exact ⟨0, _, by omega, rfl, rfl, HS.out⟩
    case round =>
      obtain ⟨k, o, hk, rfl, rfl, hr⟩ := hrel
      have HK := hidden hr
      have hla := HLA.out k hk
      have htl := HTL.out k (by omega)
      obtain ⟨av, cv, rfl⟩ := hr.1.form
      rw [htl] at HK ⊢
      have HTK := hidden htl
      clear hr htl
      by_cases hlt : k < ld
      · obtain ⟨hkm, hx⟩ := hla.1 hlt
        obtain ⟨b, off, rfl, hbB, hc⟩ := H4.out (by omega)
        have c1 := (HK.out.2.cell (p := ⟨b, off + k, none⟩) hbB).trans (hc k hkm)
        have HT := hidden (HTM.out k hkm)
        have hq : decide (l.getD k 0 < n) = true := decide_eq_true hx
        have d0 : decide ((k : Int) < (m : Int)) = true := decide_eq_true (by omega)
        have d0' : decide (k < m) = true := decide_eq_true hkm
        generalize l.getD k 0 = x at *
        have HLT := hidden hlt
        clear hc hx hla
        go_wp2_with (at_builtin; refine app_z rfl _ _ rfl rfl (HK.out.1.kept ((Below.refl wr.heap.size wr).alloc (Nat.le_refl _) (.cells #[.int .i64 x] 3))) rfl (heap_alloc_new wr _) HTK.out (by omega) (Nat.le_trans HK.out.2.size (by simp)) ?_; intro g' c' w4 hr4 hg4 hb4)
        have HK4 := hidden (show MkZ w (l.take (k + 1)) (.slice (some ⟨g', 0, none⟩) (k + 1) c') w4 from ⟨by rw [HT.out]; exact hr4, (HK.out.2.alloc HK.out.2.size _).trans hb4⟩)
        clear hr4 hg4 hb4
        go_wp2
        have hlt' := HLT.out
        go_roundw
        case rel => exact ⟨k + 1, _, by omega, by go_num, rfl, HK4.out⟩
        case measure => simp [Go.RowKit.intOf]; omega
      · obtain rfl : k = ld := by omega
        have hcs : (m ≤ k) ∨ (k < m ∧ n ≤ l.getD k 0) := by
          by_cases h : k < m
          · exact .inr ⟨h, by have := mt hla.2 hlt; simp only [h, true_and] at this; omega⟩
          · exact .inl (by omega)
        clear hla hlt
        have HCS := hidden (True.intro)
        rcases hcs with hcs | ⟨hcs, hx⟩
        case' inl =>
          have d0 : decide ((k : Int) < (m : Int)) = false := decide_eq_false (by omega)
          have d0' : decide (k < m) = false := decide_eq_false (by omega)
          clear hcs
        case' inr =>
          obtain ⟨b, off, rfl, hbB, hc⟩ := H4.out (by omega)
          have c1 := (HK.out.2.cell (p := ⟨b, off + k, none⟩) hbB).trans (hc k hcs)
          have hq : decide (l.getD k 0 < n) = false := decide_eq_false (by omega)
          have d0 : decide ((k : Int) < (m : Int)) = true := decide_eq_true (by omega)
          have d0' : decide (k < m) = true := decide_eq_true hcs
          generalize l.getD k 0 = x at *
          clear hc hx
        all_goals
          go_wp2_with (at_builtin; refine app_z rfl _ _ rfl rfl (HK.out.1.kept ((Below.refl wr.heap.size wr).alloc (Nat.le_refl _) (.cells #[.int .i64 n] 3))) rfl (heap_alloc_new wr _) HTK.out (by omega) (Nat.le_trans HK.out.2.size (by simp)) ?_; intro g' c' w4 hr4 hg4 hb4)
          have HK4 := hidden (show MkZ w (l.take k ++ n :: (l.drop k).take 0) (.slice (some ⟨g', 0, none⟩) (k + 1) c') w4 from ⟨by rw [List.take_zero]; exact hr4, (HK.out.2.alloc HK.out.2.size _).trans hb4⟩)
          clear hr4 hg4 hb4
          go_wp2
          go_loopw [5, 8] (fun ov i wr2 => ∃ (j : Nat) (o : Value), k ≤ j ∧ j ≤ m ∧ i = .int .i64 j ∧ o = ov ∧ MkZ w (l.take k ++ n :: (l.drop k).take (j - k)) o wr2) (fun _ i _ => m - (Go.RowKit.intOf i).toNat)
          case atStart => exact ⟨k, _, Nat.le_refl _, by omega, rfl, rfl, by rw [Nat.sub_self]; exact HK4.out⟩
          case round =>
            obtain ⟨j, o, hkj, hjm, rfl, rfl, hr⟩ := hrel
            have HJ := hidden hr
            have hlen : (l.take k ++ n :: (l.drop k).take (j - k)).length = j + 1 := by
              have := HMM.out
              simp only [List.length_append, List.length_take, List.length_cons, List.length_drop]
              omega
            obtain ⟨av2, cv2, rfl⟩ := hr.1.form
            rw [hlen] at HJ ⊢
            have HLN := hidden hlen
            clear hr hlen
            by_cases hlj : j < m
            · obtain ⟨b2, off2, e2, hbB2, hc2⟩ := H4.out (by omega)
              have c2 := (HJ.out.2.cell (p := ⟨b2, off2 + j, none⟩) hbB2).trans (hc2 j hlj)
              have HT := hidden (show l.take k ++ n :: (l.drop k).take (j + 1 - k) = (l.take k ++ n :: (l.drop k).take (j - k)) ++ [l.getD j 0] from by
                have e : (l.drop k).getD (j - k) 0 = l.getD j 0 := by
                  simp only [List.getD_eq_getElem?_getD, List.getElem?_drop, show k + (j - k) = j by omega]
                rw [show j + 1 - k = (j - k) + 1 by omega, take_moreZ (l.drop k) (j - k) (by rw [List.length_drop]; have := HMM.out; omega), e]
                simp)
              have E2 := hidden e2
              have f0 : decide ((j : Int) < (m : Int)) = true := decide_eq_true (by omega)
              have f0' : decide (j < m) = true := decide_eq_true hlj
              generalize l.getD j 0 = y at *
              have HLT := hidden hlj
              clear hc2
              try (cases e2)
              go_wp2_with (at_builtin; refine app_z rfl _ _ rfl rfl (HJ.out.1.kept ((Below.refl wr.heap.size wr).alloc (Nat.le_refl _) (.cells #[.int .i64 y] 3))) rfl (heap_alloc_new wr _) HLN.out (by omega) (Nat.le_trans HJ.out.2.size (by simp)) ?_; intro g2 c3 w5 hr5 hg5 hb5)
              have HK5 := hidden (show MkZ w (l.take k ++ n :: (l.drop k).take (j + 1 - k)) (.slice (some ⟨g2, 0, none⟩) (j + 1 + 1) c3) w5 from ⟨by rw [HT.out]; exact hr5, (HJ.out.2.alloc HJ.out.2.size _).trans hb5⟩)
              clear hr5 hg5 hb5
              go_wp2
              have hlt' := HLT.out
              go_roundw
              case rel => exact ⟨j + 1, _, by omega, by omega, by go_num, rfl, HK5.out⟩
              case measure => simp [Go.RowKit.intOf]; omega
            · obtain rfl : j = m := by omega
              have HD := hidden (show l.take k ++ n :: (l.drop k).take (j - k) = putV l n from by
                have e : (l.drop k).take (j - k) = l.drop k := List.take_of_length_le (by rw [List.length_drop, ← HMM.out]; exact Nat.le_refl _)
                rw [HPV.out, e])
              have f0 : decide ((j : Int) < (j : Int)) = false := by simp
              go_wp2
              go_ret
              exact ⟨_, rfl, .inr ⟨HM.out, by rw [← HD.out]; exact HJ.out.1⟩, HJ.out.2⟩
end Go.Proofs.YtnjjbaodfjmiaaaGreat
