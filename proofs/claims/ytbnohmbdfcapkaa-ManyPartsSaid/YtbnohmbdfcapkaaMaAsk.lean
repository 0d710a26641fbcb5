/- Contracts of Has, Same and Within. -/
import Derived.Test.YtbnohmbdfcapkaaMaOf
namespace Go.Proofs.Ytbnohmbdfcapkaa
open Go.RowKit Go.Lib Go.Joins

theorem RdZ.nums {B : Nat} {w : World} {a : Option Addr} {n c : Nat} {l : List Int} (h : RdZ B w (.slice a n c) l) : n = l.length ∧ l.length ≤ c ∧ c ≤ maxLen ∧ (0 < l.length → ∃ b off, a = some ⟨b, off, none⟩ ∧ b < B ∧ ∀ i, i < l.length → w.cell? ⟨b, off + i, none⟩ = some (.int .i64 (l.getD i 0))) := by
  obtain ⟨a', c', e, h1, h2, _, h4⟩ := h
  simp only [Value.slice.injEq] at e
  obtain ⟨rfl, rfl, rfl⟩ := e
  exact ⟨rfl, h1, h2, h4⟩
theorem below_drawnN (w : World) (q : Nat) : Below w.heap.size w (w.drewN q) := below_drawn (Below.refl _ _) q
set_option maxRecDepth 100000 in
theorem has_calls {B : Nat} (w : World) (v : Value) (l : List Int) (n : Int) (h : RdZ B w v l) (hu : Up l) (hl : l.length ≤ 100000) : Calls Try.prog 7 #[v, .int .i64 n] w fun e w' => e = .returned (.bool (decide (n ∈ l))) ∧ Below w.heap.size w w' := by
  obtain ⟨a, cap, rfl⟩ := h.form
  obtain ⟨_, h1, h2, h4⟩ := h.nums
  by_cases h0 : l.length = 0
  · have HE := hidden (show decide (n ∈ l) = false by rw [List.eq_nil_of_length_eq_zero h0]; simp)
    rw [h0]
    clear h4 h h1
    go_enter Try.func7, Try.ntmps7
    go_wp2_with fail
    refine (Go.Proofs.Try.slices_BinarySearch_int_empty _ _ _ _).mono ?_
    rintro e w1 ⟨rfl, rfl⟩
    go_wp2
    go_ret
    exact ⟨ret_b HE.out.symm, Below.refl _ _⟩
  · obtain ⟨b, off, rfl, hlt, hc⟩ := h4 (by omega)
    have HC := hidden (Go.Proofs.Try.slices_BinarySearch_int b off l.length cap l n w (Nat.le_refl _) (by omega) hc (by rw [List.take_of_length_le (Nat.le_refl _)]; exact List.Pairwise.imp (fun h => by omega) hu))
    rw [List.take_of_length_le (Nat.le_refl _)] at HC
    have HE := hidden (show l.contains n = decide (n ∈ l) by simp)
    obtain ⟨m, hm⟩ : ∃ m, m = l.length := ⟨_, rfl⟩
    rw [← hm] at HC ⊢
    generalize l.contains n = cb at *
    generalize l.countP (· < n) = cp at *
    clear h4 h h1 hc hm h0 hl
    go_enter Try.func7, Try.ntmps7
    go_wp2_with fail
    refine HC.out.mono ?_
    rintro e w1 ⟨rfl, q, rfl⟩
    go_wp2
    go_ret
    exact ⟨ret_b HE.out, below_drawnN _ _⟩
set_option maxRecDepth 100000 in
theorem same_calls {B : Nat} (w : World) (va vb : Value) (l m : List Int) (ha : RdZ B w va l) (hb : RdZ B w vb m) : Calls Try.prog 17 #[va, vb] w fun e w' => e = .returned (.bool (decide (l = m))) ∧ Below w.heap.size w w' := by
  obtain ⟨a, ca, rfl⟩ := ha.form
  obtain ⟨b, cb, rfl⟩ := hb.form
  obtain ⟨_, h1, h2, h4⟩ := ha.nums
  obtain ⟨_, g1, g2, g4⟩ := hb.nums
  unfold maxLen at h2 g2
  have key : Calls Try.prog 31 #[.slice a l.length ca, .slice b m.length cb] w fun e w' => e = .returned (.bool (decide (l = m))) ∧ Below w.heap.size w w' := by
    by_cases hne : l.length = m.length
    · by_cases h0 : l.length = 0
      · have e1 := List.eq_nil_of_length_eq_zero h0
        have e2 := List.eq_nil_of_length_eq_zero (hne ▸ h0)
        subst e1 e2
        refine (Go.Proofs.Try.slices_Equal_int_empty a b ca 0 cb w (by omega)).mono ?_
        rintro e w1 ⟨rfl, rfl⟩
        exact ⟨by simp, Below.refl _ _⟩
      · obtain ⟨b1, o1, rfl, _, c1⟩ := h4 (by omega)
        obtain ⟨b2, o2, rfl, _, c2⟩ := g4 (by omega)
        refine (Go.Proofs.Try.slices_Equal_int b1 o1 l.length ca b2 o2 m.length cb l m w (Nat.le_refl _) (Nat.le_refl _) (by omega) (by omega) c1 c2).mono ?_
        rintro e w1 ⟨rfl, q, rfl⟩
        rw [List.take_of_length_le (Nat.le_refl _), List.take_of_length_le (Nat.le_refl _)]
        refine ⟨ret_b ?_, below_drawnN _ _⟩
        rw [Bool.eq_iff_iff]
        simp
    · refine (Go.Proofs.Try.slices_Equal_int_lens a b l.length ca m.length cb w hne).mono ?_
      rintro e w1 ⟨rfl, rfl⟩
      refine ⟨ret_b ?_, Below.refl _ _⟩
      symm
      exact decide_eq_false fun e => hne (by rw [e])
  have HK := hidden key
  generalize decide (l = m) = r at *
  obtain ⟨p, hp⟩ : ∃ p, p = l.length := ⟨_, rfl⟩
  obtain ⟨q, hq⟩ : ∃ p, p = m.length := ⟨_, rfl⟩
  rw [← hp, ← hq] at HK ⊢
  clear ha hb h1 h2 h4 g1 g2 g4 key hp hq
  go_enter Try.func17, Try.ntmps17
  go_wp2_with fail
  refine HK.out.mono ?_
  rintro e w1 ⟨rfl, hb1⟩
  go_wp2
  go_ret
  exact ⟨rfl, hb1⟩
/-- what Within keeps: has none of the first alone come? -/
def WinJ (w0 : World) (D : List (Nat × Int)) (w : World) : Prop := Boxed w w0.heap.size 4 (.bool (pickV (fun k => k == 0) D).isEmpty) ∧ Below w0.heap.size w0 w
theorem WinJ.below {w0 w w' : World} {D : List (Nat × Int)} (h : WinJ w0 D w) (hb : Below w.heap.size w w') : WinJ w0 D w' := ⟨(hb.block _ h.1.lt).trans h.1, below_then h.2 h.2.size hb⟩
theorem WinJ.past {w0 w : World} {D : List (Nat × Int)} (h : WinJ w0 D w) (k : Nat) (x : Int) (hk : (k == 0) = false) : WinJ w0 (D ++ [(k, x)]) w := by
  have e : pickV (fun k => k == 0) (D ++ [(k, x)]) = pickV (fun k => k == 0) D := by rw [pick_append]; simp [pickV, hk]
  unfold WinJ at *
  rw [e]
  exact h
set_option maxRecDepth 100000 in
theorem win_step {w0 w : World} {D : List (Nat × Int)} {x : Int} (h : WinJ w0 D w) :
    Calls Try.prog 27 #[.int .i64 x, .pointer (some ⟨w0.heap.size, 0, none⟩)] w fun e w' => e = .returned (.tuple #[]) ∧ WinJ w0 (D ++ [(0, x)]) w' ∧ Keep w w' := by
  obtain ⟨hv, hb⟩ := h
  have hc := hv.cell
  have hf := hv.frozen
  have hvl := hv.lt
  have HV := hidden hv
  have HB := hidden hb
  have HP := hidden (show (pickV (fun k => k == 0) (D ++ [(0, x)])).isEmpty = false by rw [pick_one _ 0 x D rfl]; simp)
  generalize (pickV (fun k => k == 0) D).isEmpty = c at *
  clear hv hb
  go_enter Try.func27, Try.ntmps27
  go_wp2
  refine bodyPost_end (results_none rfl _ _ _) rfl ?_
  refine ⟨rfl, ⟨?_, HB.out.setCell (p := ⟨w0.heap.size, 0, none⟩) (Nat.le_refl _) _⟩, by simp [World.setCell], fun j cs fr hj => heap_setCell_other _ _ _ _ fun e => ?_⟩
  · rw [HP.out]
    exact HV.out.set _
  · have h2 := HV.out
    have e' : j = w0.heap.size := e
    unfold Boxed at h2
    rw [← e', hj] at h2
    simp only [Option.some.injEq, Obj.cells.injEq] at h2
    exact absurd h2.2.1 (by decide)
set_option maxHeartbeats 4000000 in
set_option maxRecDepth 100000 in
theorem within_calls (w : World) (va vb : Value) (xs ys : List Int) (ha : RdZ w.heap.size w va xs) (hb : RdZ w.heap.size w vb ys) :
    Calls Try.prog 15 #[va, vb] w fun e w' => e = .returned (.bool (pickV (fun k => k == 0) (evs xs ys)).isEmpty) ∧ Below w.heap.size w w' := by
  have hal := (Below.refl w.heap.size w).alloc (Nat.le_refl _) (.cells #[.bool true] 4)
  have HM := hidden (merge_calls (w := w.alloc (.cells #[.bool true] 4)) (f1 := 27) (f2 := 25) (f3 := 25) (c1 := #[.pointer (some ⟨w.heap.size, 0, none⟩)]) (c2 := #[]) (c3 := #[]) (WinJ w) (ha.below hal (Nat.le_refl _)) (hb.below hal (Nat.le_refl _)) (by simp)
    (enters_of Try.func27 (by kernel_rfl) rfl) (enters_of Try.func25 (by kernel_rfl) rfl) (enters_of Try.func25 (by kernel_rfl) rfl)
    ⟨Boxed.new w _ _, hal⟩ (fun D w1 w2 h hb => h.below hb) (fun D w1 h => below_back hal h.2 (by have := h.1.lt; simp; omega))
    (fun D w1 x h _ => win_step h)
    (fun D w1 x h _ => (pass_calls x w1).mono fun e w2 ⟨he, hw⟩ => ⟨he, hw ▸ h.past 1 x rfl, hw ▸ Keep.refl _⟩)
    (fun D w1 x h _ => (pass_calls x w1).mono fun e w2 ⟨he, hw⟩ => ⟨he, hw ▸ h.past 2 x rfl, hw ▸ Keep.refl _⟩))
  obtain ⟨a, ca, rfl⟩ := ha.form
  obtain ⟨b, cb, rfl⟩ := hb.form
  generalize evs xs ys = E at *
  clear ha hb hal
  go_enter Try.func15, Try.ntmps15
  go_wp2_with fail
  refine HM.out.mono ?_
  rintro e w1 ⟨rfl, hv, hb1⟩
  have hc := hv.cell
  have HB := hidden hb1
  clear hv hb1
  go_wp2
  go_ret
  exact ⟨rfl, HB.out⟩
end Go.Proofs.Ytbnohmbdfcapkaa
