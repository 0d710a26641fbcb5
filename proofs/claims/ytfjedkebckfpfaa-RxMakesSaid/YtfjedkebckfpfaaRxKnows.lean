/- Contracts of facsimilelaw07's few and knows. -/
import Derived.Test.YtfjedkebckfpfaaRxText
namespace Go.Proofs.Ytfjedkebckfpfaa
open Go.RowKit

theorem ab_text : textV ⟨#[97, 98]⟩ = [bStp 97, bStp 98, kStp 3] := by
  simp [textV, catV, byteL, jn, jt]
theorem ab_meas : measV [bStp 97, bStp 98, kStp 3] = (2, 0) := by
  simp [measV, measGo, Stp.good, Stp.plain, bStp, kStp, kOps]
  decide
theorem star_meas : measV [kStp 5] = (0, 3) := by
  simp [measV, measGo, Stp.good, Stp.plain, kStp, kOps]
set_option maxRecDepth 100000 in
theorem knows_calls (w : World) : Calls Try.prog 6 #[] w fun e w' => e = .returned (.bool true) ∧ Below w.heap.size w w' := by
  have HT := hidden (text_calls ⟨#[97, 98]⟩ w (by decide))
  rw [ab_text] at HT
  go_enter Try.func6, Try.ntmps6
  go_wp2_with fail
  refine HT.out.mono ?_
  rintro e w1 ⟨v, rfl, hr, hb⟩
  have HR := hidden hr.reads
  have HB := hidden hb
  clear hr hb
  obtain ⟨a, cap, rfl, h1, h2, _, hS⟩ := HR.out
  obtain ⟨b, off, rfl, _, hc⟩ := hS.2 (by simp)
  have c0 : w1.cell? ⟨b, off + 10, none⟩ = some (.int .i64 3) := (hc 2 (by simp)).1
  have hl3 : ([bStp 97, bStp 98, kStp 3] : List Stp).length = 3 := rfl
  rw [hl3] at h1 HR ⊢
  unfold maxLen at h2
  clear hc hS
  go_wp2_with fail
  refine (high_slX HR.out fun b hb => hb.2).mono ?_
  rintro e w2 ⟨rfl, hb2⟩
  rw [ab_meas]
  have HB2 := hidden (below_after HB.out hb2)
  clear hb2
  go_wp2_with fail
  refine (check_slX (row_one w2 (kStp 5) _ rfl 0 (Nat.zero_le _)).reads fun b hb => hb.2).mono ?_
  rintro e w3 ⟨rfl, hb3⟩
  rw [star_meas]
  have HB3 := hidden (below_then (HB2.out.alloc HB2.out.size _) (by have := HB2.out.size; simp; omega) hb3)
  clear hb3
  go_wp2
  go_ret
  exact ⟨rfl, HB3.out⟩

/-- the sum of few's lengths -/
def capSum : List (List Stp) → Nat
  | [] => 0
  | x :: r => min x.length 1000 + capSum r
theorem capSum_append : ∀ a b, capSum (a ++ b) = capSum a + capSum b
  | [], b => by simp [capSum]
  | x :: r, b => by
    simp only [List.cons_append, capSum, capSum_append r b]
    omega
theorem capSum_take (LL : List (List Stp)) (j : Nat) (h : j < LL.length) : capSum (LL.take (j + 1)) = capSum (LL.take j) + min (LL.getD j []).length 1000 := by
  rw [take_moreL LL j h, capSum_append]
  simp [capSum]
theorem capSum_le : ∀ LL, capSum LL ≤ 1000 * LL.length
  | [] => by simp [capSum]
  | x :: r => by
    have := capSum_le r
    simp only [capSum, List.length_cons]
    omega
theorem capSum_ct : ∀ LL, capSum LL ≤ 900 → (ct LL).length ≤ capSum LL
  | [], _ => by simp [ct]
  | x :: r, h => by
    simp only [capSum] at h ⊢
    have := capSum_ct r (by omega)
    simp only [ct, List.length_append]
    omega
def fewV (LL : List (List Stp)) : Bool := decide (LL.length ≤ 40) && decide (capSum LL ≤ 900)
set_option maxHeartbeats 2000000 in
set_option maxRecDepth 100000 in
theorem few_calls {C : Nat → Prop} (w : World) (v : Value) (LL : List (List Stp)) (h : SlXs C w v LL) : Calls Try.prog 5 #[v] w fun e w' => e = .returned (.bool (fewV LL)) ∧ w = w' := by
  obtain ⟨a, cap, rfl, h1, h2, hS⟩ := h
  obtain ⟨m, hm⟩ : ∃ m, m = LL.length := ⟨_, rfl⟩
  rw [← hm] at h1 hS ⊢
  have HS := hidden hS
  have HM := hidden hm
  unfold maxLen at h2
  clear hS hm
  go_enter Try.func5, Try.ntmps5
  go_wp2
  go_loop [3, 4] (fun s i => ∃ (j : Nat) (N : Int), j ≤ m ∧ i = .int .i64 j ∧ s = .int .i64 N ∧ (m ≤ 40 → N = capSum (LL.take j))) (fun _ i => m - (intOf i).toNat)
  case atStart => exact ⟨0, 0, by omega, rfl, rfl, fun _ => by simp [capSum]⟩
  case round =>
    obtain ⟨j, N, hj, rfl, rfl, hN⟩ := hrel
    by_cases hlt : j < m
    · obtain ⟨b, off, rfl, _, hc⟩ := HS.out.2 (by omega)
      obtain ⟨y, hy, hyx⟩ := hc j hlt
      have HC := hidden (capSum_take LL j (by rw [← HM.out]; exact hlt))
      have hle := capSum_le (LL.take (j + 1))
      rw [HC.out, List.length_take] at hle
      obtain ⟨ya, yc, rfl, _⟩ := hyx
      clear hc
      have HN : Hid (m ≤ 40 → N = capSum (LL.take j)) := hidden hN
      generalize (LL.getD j []).length = n at *
      clear hN
      go_wp2
      go_round
      case rel =>
        refine ⟨j + 1, _, by omega, by go_num, rfl, fun h40 => ?_⟩
        rw [HC.out]
        have := HN.out h40
        unfold wrap64
        split <;> omega
      case measure => simp [intOf]; omega
    · obtain rfl : j = m := by omega
      rw [List.take_of_length_le (by rw [HM.out]; exact Nat.le_refl _)] at hN
      have HR : Hid (fewV LL = (decide (j ≤ 40) && decide (capSum LL ≤ 900))) := hidden (by rw [HM.out]; rfl)
      by_cases h40 : j ≤ 40
      · have e := hN h40
        subst e
        clear hN
        go_wp2
        go_ret
        exact ⟨ret_b (by rw [HR.out, decide_eq_true h40, Bool.true_and]; exact decide_eq_decide.2 (by omega)), rfl⟩
      · clear hN
        go_wp2
        go_ret
        exact ⟨ret_b (by rw [HR.out, decide_eq_false h40, Bool.false_and]), rfl⟩
end Go.Proofs.Ytfjedkebckfpfaa
