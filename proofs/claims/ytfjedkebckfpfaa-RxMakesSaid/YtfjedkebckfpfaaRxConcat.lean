/- Contracts of slices.Grow at no steps, slices.Concat at steps; Star, Plus, Opt. -/
import Derived.Test.YtfjedkebckfpfaaRxMany
import Derived.Lib.AppendZerosOnto
namespace Go.Proofs.Ytfjedkebckfpfaa
open Go.RowKit Go.Lib Go.Joins

set_option maxHeartbeats 1000000 in
theorem grow_none (w : World) (n : Nat) (hn0 : 0 < n) (hn : n ≤ 1000000) :
    Calls Try.prog 35 #[.slice none 0 0, .int .i64 n] w (RetX w []) := by
  obtain ⟨i0, hi, hz0, hz1, hz2⟩ := info_parts infoRx
  have hold : (Builtin.firstCells i0.size 0 (.slice none 0 0)).run Try.prog w.drew = .ok ([] : List Value).toArray w.drew := run_firstCells_none w.drew i0.size 0 0 0
  have hrz : ∀ ty, (Builtin.append_ #[28, 3] ty #[.slice none 0 0, .int .i64 n]).run Try.prog w =
      .ok (.slice (some ⟨w.heap.size, 0, none⟩) n (grownCap w n 0 44)) (w.drew.alloc (.cells (([] : List Value).toArray ++ Builtin.zeroCells (kStp 0).val.cells n ++ Builtin.zeroCells (kStp 0).val.cells (grownCap w n 0 44 - n)) 44)) := fun ty => by
    have h := Lib.run_append_grow_zeros w 28 3 ty 44 i0 (kStp 0).val .i64 .i64 Try.underlying28 Try.underlying3 hi hz0 none 0 0 [] hold n (by omega) (by omega) (by omega) (by omega)
      (by rw [hz2]; omega) (by rw [hz2]; exact growslice_fits (by omega) (by omega))
    simpa using h
  have hGn : n ≤ grownCap w n 0 44 := grownCap_ge w _ _ _
  have hGm : grownCap w n 0 44 ≤ maxLen := grownCap_le_maxLen w n 0 44 (by unfold maxLen; omega)
  generalize grownCap w n 0 44 = G at *
  have e5 : (kStp 0).val.cells.size = 5 := rfl
  have R : RetX w [] (.returned (.slice (some ⟨w.heap.size, 0, none⟩) 0 G)) (w.drew.alloc (.cells (([] : List Value).toArray ++ Builtin.zeroCells (kStp 0).val.cells n ++ Builtin.zeroCells (kStp 0).val.cells (G - n)) 44)) := by
    refine ⟨_, rfl, World.ownsRow_made (base := w.heap.size) (size := 5) w.drew _ G (Nat.le_refl _) hGm ?_, ?_⟩
    · simp [size_zeroCells, e5]
      omega
    · exact ((Below.refl w.heap.size w).drew).alloc (Nat.le_refl _) _
  generalize ([] : List Value).toArray ++ Builtin.zeroCells (kStp 0).val.cells n ++ Builtin.zeroCells (kStp 0).val.cells (G - n) = Rw at *
  have HR := hidden R
  have hG63 : G ≤ 9223372036854775807 := hGm
  clear R hold hGm hi hz0 hz1 hz2
  go_enter Try.func35, Try.ntmps35
  go_wp2_with (at_builtin; refine Lib.wpList_append_run _ rfl _ _ _ _ rfl _ _ rfl rfl _ _ (hrz _) ?_)
  all_goals (go_ret; exact HR.out)

/-! ### slices.Concat -/
def ct : List (List Stp) → List Stp
  | [] => []
  | x :: r => x ++ ct r
theorem ct_append : ∀ a b, ct (a ++ b) = ct a ++ ct b
  | [], b => rfl
  | x :: r, b => by simp [ct, ct_append r b]
theorem ct_take (LL : List (List Stp)) (j : Nat) (h : j < LL.length) : ct (LL.take (j + 1)) = ct (LL.take j) ++ LL.getD j [] := by
  rw [take_moreL LL j h, ct_append]
  simp [ct]
theorem ct_le (LL : List (List Stp)) (j : Nat) : (ct (LL.take j)).length ≤ (ct LL).length := by
  have := ct_append (LL.take j) (LL.drop j)
  rw [List.take_append_drop] at this
  rw [this]
  simp
theorem ret_mk {w wr : World} {L : List Stp} {v : Value} (h : Mk w w.heap.size L v wr) : RetX w L (.returned v) wr := ⟨v, rfl, h.1, h.2.1⟩
set_option maxHeartbeats 4000000 in
set_option maxRecDepth 100000 in
theorem concat_calls {C : Nat → Prop} (w : World) (v : Value) (LL : List (List Stp)) (h : SlXs C w v LL) (hC : ∀ b, C b → b < w.heap.size) (hsz : (ct LL).length ≤ 1000000) (hpos : 0 < (ct LL).length) :
    Calls Try.prog 28 #[v] w (RetX w (ct LL)) := by
  obtain ⟨a, cap, rfl, h1, h2, hS⟩ := h
  obtain ⟨m, hm⟩ : ∃ m, m = LL.length := ⟨_, rfl⟩
  rw [← hm] at h1 hS ⊢
  have HS := hidden hS
  have HM := hidden hm
  have HK := hidden (fun (W : World) (hb : Below w.heap.size w W) c hc => (⟨trivial, hb.block c (hC c hc)⟩ : True ∧ W.heap[c]? = w.heap[c]?))
  unfold maxLen at h2
  clear hS hm
  go_enter Try.func28, Try.ntmps28
  go_wp2
  go_loopw [3, 11] (fun s i wr => ∃ j : Nat, j ≤ m ∧ i = .int .i64 j ∧ s = .int .i64 ((ct (LL.take j)).length : Nat) ∧ w = wr) (fun _ i _ => m - (intOf i).toNat)
  case atStart => exact ⟨0, by omega, rfl, rfl, rfl⟩
  case round =>
    obtain ⟨j, hj, rfl, rfl, rfl⟩ := hrel
    by_cases hlt : j < m
    · obtain ⟨b, off, rfl, hCb, hc⟩ := HS.out.2 (by omega)
      obtain ⟨y, hy, hyx⟩ := hc j hlt
      have hmL : j < LL.length := by rw [← HM.out]; exact hlt
      have hle := ct_le LL (j + 1)
      have HN := hidden (ct_take LL j hmL)
      rw [HN.out, List.length_append] at hle
      obtain ⟨ya, yc, rfl, _⟩ := hyx
      clear hc
      have HL : Hid ((ct (LL.take (j + 1))).length = (ct (LL.take j)).length + (LL.getD j []).length) := hidden (by rw [HN.out, List.length_append])
      generalize (ct (LL.take j)).length = n1 at *
      generalize (LL.getD j []).length = n2 at *
      have hd : decide ((n1 : Int) + n2 < 0) = false := decide_eq_false (by omega)
      go_wp2
      go_roundw
      case rel => exact ⟨j + 1, by omega, by go_num, by rw [HL.out]; go_num, trivial⟩
      case measure => simp [intOf]; omega
    · obtain rfl : j = m := by omega
      have HG := hidden (fun w => grow_none w (ct LL).length hpos hsz)
      rw [List.take_of_length_le (by rw [HM.out]; exact Nat.le_refl _)] at *
      go_wp2_with fail
      refine (HG.out _).mono ?_
      rintro e w1 ⟨u, rfl, hr, hb⟩
      have HJ0 := hidden (show Mk w w.heap.size [] u w1 from ⟨hr, hb, hb.size⟩)
      clear hr hb
      go_wp2
      go_loopw [6, 27] (fun o i wr => ∃ i' : Nat, i' ≤ j ∧ i = .int .i64 i' ∧ Mk w w.heap.size (ct (LL.take i')) o wr) (fun _ i _ => j - (intOf i).toNat)
      case atStart => exact ⟨0, by omega, rfl, HJ0.out⟩
      case round =>
        obtain ⟨i, hi, rfl, hmk⟩ := hrel
        have HJ := hidden hmk
        clear hmk
        by_cases hlt : i < j
        · obtain ⟨b, off, rfl, hCb, hc⟩ := HS.out.2 (by omega)
          obtain ⟨y, hy, hyx⟩ := hc i hlt
          have hy' : wr.cell? ⟨b, off + i, none⟩ = some y := (HJ.out.2.1.cell (p := ⟨b, off + i, none⟩) (hC b hCb)).trans hy
          have HY := hidden (SlX.below (w' := wr) (C' := fun _ => True) hyx (HK.out wr HJ.out.2.1))
          have hle := ct_le LL (i + 1)
          have HN := hidden (ct_take LL i (by rw [← HM.out]; exact hlt))
          rw [HN.out, List.length_append] at hle
          clear hc hyx hy
          go_wp2_with (at_builtin; refine append_rx rfl rfl _ _ rfl w.heap.size _ _ _ _ rfl HJ.out.1 rfl HY.out (by omega) HJ.out.2.2 ?_; intro a' l' c' w2 hr1 hg1; have HJ1 := hidden (HJ.out.grown (Nat.le_refl _) hr1 hg1); clear hr1 hg1)
          go_roundw
          case rel => exact ⟨i + 1, by omega, by go_num, by rw [HN.out]; exact HJ1.out⟩
          case measure => simp [intOf]; omega
        · obtain rfl : i = j := by omega
          rw [List.take_of_length_le (by rw [HM.out]; exact Nat.le_refl _)] at HJ
          go_wp2
          go_ret
          exact ret_mk HJ.out

/-! ### one step behind an expression -/
theorem row_slice {w : World} {base : Nat} {v : Value} {L : List Stp} (h : RowX w base v L) : ∃ a l c, v = .slice a l c := by
  rcases ownsRow_forms h with ⟨rfl, _⟩ | ⟨g, cap, rfl⟩
  · exact ⟨_, _, _, rfl⟩
  · exact ⟨_, _, _, rfl⟩
theorem two_slXs {C : Nat → Prop} {w w1 : World} {v u : Value} {L M : List Stp} (h : SlX C w v L) (hC : ∀ b, C b → b < w.heap.size) (hr : RowX w1 w.heap.size u M) (hb : Below w.heap.size w w1) :
    SlXs (fun b => b ≤ w1.heap.size) (w1.alloc (.cells #[v, u] 28)) (.slice (some ⟨w1.heap.size, 0, none⟩) 2 2) [L, M] ∧ (∀ b, b ≤ w1.heap.size → b < (w1.alloc (.cells #[v, u] 28)).heap.size) ∧ Below w.heap.size w (w1.alloc (.cells #[v, u] 28)) := by
  have hs := hb.size
  refine ⟨⟨_, 2, rfl, Nat.le_refl _, by decide, rfl, fun _ => ⟨w1.heap.size, 0, rfl, Nat.le_refl _, fun i hi => ?_⟩⟩, fun b hb => by simp; omega, hb.alloc hs _⟩
  have hg := heap_alloc_new w1 (.cells #[v, u] 28)
  rw [Nat.zero_add]
  match i, hi with
  | 0, _ => exact ⟨v, cell_of_row _ _ 0 _ _ _ hg, h.below fun b hb' => ⟨by have := hC b hb'; omega, (heap_alloc_old w1 _ (by have := hC b hb'; omega)).trans (hb.block b (hC b hb'))⟩⟩
  | 1, _ => exact ⟨u, cell_of_row _ _ 1 _ _ _ hg, SlX.below hr.reads fun b hb' => ⟨by omega, heap_alloc_old w1 _ hb'.2⟩⟩
theorem ret_two_x {w W w2 : World} {u : Value} {L M : List Stp} (h : Below w.heap.size w W) (hr : RowX w2 W.heap.size u (ct [L, M])) (hb : Below W.heap.size W w2) : RowX w2 w.heap.size u (L ++ M) ∧ Below w.heap.size w w2 := by
  refine ⟨?_, below_after h hb⟩
  have := hr.lower h.size
  simpa [ct] using this
set_option maxRecDepth 100000 in
theorem star_calls {C : Nat → Prop} (w : World) (v : Value) (L : List Stp) (h : SlX C w v L) (hC : ∀ b, C b → b < w.heap.size) (hsz : L.length ≤ 900000) :
    Calls Try.prog 12 #[v] w (RetX w (L ++ [kStp 5])) := by
  have HV := hidden h
  have HC := hidden hC
  obtain ⟨a, cap, rfl, _⟩ := h
  clear hC
  go_enter Try.func12, Try.ntmps12
  go_wp2_with fail
  refine (step_rx _ _).mono ?_
  rintro e w1 ⟨u, rfl, hr, hb⟩
  have HR := hidden hr
  have HB := hidden hb
  clear hr hb
  obtain ⟨a1, n1, c1, rfl⟩ := row_slice HR.out
  have H2 := hidden (two_slXs HV.out HC.out HR.out HB.out)
  go_wp2_with fail
  refine (concat_calls _ _ _ H2.out.1 H2.out.2.1 (by simp [ct]; omega) (by simp [ct])).mono ?_
  rintro e w2 ⟨u2, rfl, hr2, hb2⟩
  have HE := hidden (ret_two_x H2.out.2.2 hr2 hb2)
  clear hr2 hb2
  obtain ⟨a3, n3, c3, rfl⟩ := row_slice HE.out.1
  go_wp2
  go_ret
  exact ⟨_, rfl, HE.out.1, HE.out.2⟩
set_option maxRecDepth 100000 in
theorem plus_calls {C : Nat → Prop} (w : World) (v : Value) (L : List Stp) (h : SlX C w v L) (hC : ∀ b, C b → b < w.heap.size) (hsz : L.length ≤ 900000) :
    Calls Try.prog 14 #[v] w (RetX w (L ++ [kStp 6])) := by
  have HV := hidden h
  have HC := hidden hC
  obtain ⟨a, cap, rfl, _⟩ := h
  clear hC
  go_enter Try.func14, Try.ntmps14
  go_wp2_with fail
  refine (step_rx _ _).mono ?_
  rintro e w1 ⟨u, rfl, hr, hb⟩
  have HR := hidden hr
  have HB := hidden hb
  clear hr hb
  obtain ⟨a1, n1, c1, rfl⟩ := row_slice HR.out
  have H2 := hidden (two_slXs HV.out HC.out HR.out HB.out)
  go_wp2_with fail
  refine (concat_calls _ _ _ H2.out.1 H2.out.2.1 (by simp [ct]; omega) (by simp [ct])).mono ?_
  rintro e w2 ⟨u2, rfl, hr2, hb2⟩
  have HE := hidden (ret_two_x H2.out.2.2 hr2 hb2)
  clear hr2 hb2
  obtain ⟨a3, n3, c3, rfl⟩ := row_slice HE.out.1
  go_wp2
  go_ret
  exact ⟨_, rfl, HE.out.1, HE.out.2⟩
set_option maxRecDepth 100000 in
theorem opt_calls {C : Nat → Prop} (w : World) (v : Value) (L : List Stp) (h : SlX C w v L) (hC : ∀ b, C b → b < w.heap.size) (hsz : L.length ≤ 900000) :
    Calls Try.prog 15 #[v] w (RetX w (L ++ [kStp 7])) := by
  have HV := hidden h
  have HC := hidden hC
  obtain ⟨a, cap, rfl, _⟩ := h
  clear hC
  go_enter Try.func15, Try.ntmps15
  go_wp2_with fail
  refine (step_rx _ _).mono ?_
  rintro e w1 ⟨u, rfl, hr, hb⟩
  have HR := hidden hr
  have HB := hidden hb
  clear hr hb
  obtain ⟨a1, n1, c1, rfl⟩ := row_slice HR.out
  have H2 := hidden (two_slXs HV.out HC.out HR.out HB.out)
  go_wp2_with fail
  refine (concat_calls _ _ _ H2.out.1 H2.out.2.1 (by simp [ct]; omega) (by simp [ct])).mono ?_
  rintro e w2 ⟨u2, rfl, hr2, hb2⟩
  have HE := hidden (ret_two_x H2.out.2.2 hr2 hb2)
  clear hr2 hb2
  obtain ⟨a3, n3, c3, rfl⟩ := row_slice HE.out.1
  go_wp2
  go_ret
  exact ⟨_, rfl, HE.out.1, HE.out.2⟩
end Go.Proofs.Ytfjedkebckfpfaa
