/- Contracts of what is asked of steps: operands, measure, Check, High, Begin, slices.Equal at steps, Same. -/
import Derived.Test.YtfjedkebckfpfaaRxRow
namespace Go.Proofs.Ytfjedkebckfpfaa
open Go.RowKit

set_option maxRecDepth 100000 in
theorem operands_calls (k : Int) (w : World) : Calls Try.prog 33 #[.int .i64 k] w fun e w' => e = .returned (.int .i64 (kOps k)) ∧ w = w' := by
  have hk : k = 1 ∨ k = 2 ∨ k = 3 ∨ k = 4 ∨ k = 5 ∨ k = 6 ∨ k = 7 ∨ (¬ k = 1 ∧ ¬ k = 2 ∧ ¬ k = 3 ∧ ¬ k = 4 ∧ ¬ k = 5 ∧ ¬ k = 6 ∧ ¬ k = 7) := by omega
  rcases hk with rfl | rfl | rfl | rfl | rfl | rfl | rfl | ⟨h1, h2, h3, h4, h5, h6, h7⟩
  case inr.inr.inr.inr.inr.inr.inr =>
    have e : kOps k = -1 := by unfold kOps; rw [if_neg (by omega), if_neg (by omega), if_neg (by omega)]
    have HE := hidden e
    clear e
    have q1 : (k == 1) = false := by simp [h1]
    have q2 : (k == 2) = false := by simp [h2]
    have q3 : (k == 3) = false := by simp [h3]
    have q4 : (k == 4) = false := by simp [h4]
    have q5 : (k == 5) = false := by simp [h5]
    have q6 : (k == 6) = false := by simp [h6]
    have q7 : (k == 7) = false := by simp [h7]
    clear h1 h2 h3 h4 h5 h6 h7
    go_enter Try.func33, Try.ntmps33
    go_wp2
    go_ret
    exact ⟨ret_i HE.out.symm, rfl⟩
  all_goals
    go_enter Try.func33, Try.ntmps33
    go_wp2
    go_ret
    exact ⟨ret_i (by decide), rfl⟩

/-- two lists, element by element -/
theorem take_moreX (L : List Stp) (k : Nat) (h : k < L.length) : L.take (k + 1) = L.take k ++ [L.getD k default] := by
  rw [List.take_succ_eq_append_getElem h, List.getD_eq_getElem?_getD, List.getElem?_eq_getElem h]
  rfl
theorem take_eqX {a b : List Stp} (h : a.length = b.length) (k : Nat) (hk : k < a.length) (h2 : a.take k = b.take k) :
    (a.getD k default = b.getD k default → a.take (k + 1) = b.take (k + 1)) ∧ (a.getD k default ≠ b.getD k default → a ≠ b) := by
  refine ⟨fun e => ?_, fun e e' => e (by rw [e'])⟩
  rw [take_moreX a k hk, take_moreX b k (by omega), h2, e]
set_option maxHeartbeats 1000000 in
set_option maxRecDepth 100000 in
theorem equal_calls {C C' : Nat → Prop} (a a' : Option Addr) (n n' cap cap' : Nat) (L M : List Stp) (w : World) (hl : n ≤ cap) (hcap : cap ≤ maxLen) (hS : Rxs C w a n L) (hl' : n' ≤ cap') (_ : cap' ≤ maxLen) (hT : Rxs C' w a' n' M) :
    Calls Try.prog 25 #[.slice a n cap, .slice a' n' cap'] w fun e w' => e = .returned (.bool (sameX L M)) ∧ Below w.heap.size w w' := by
  unfold maxLen at hcap
  have HS := hidden hS
  have HT := hidden hT
  clear hS hT
  by_cases hn : n = n'
  · subst hn
    go_enter Try.func25, Try.ntmps25
    go_wp2
    go_loopw [13] (fun i wr => ∃ k : Nat, k ≤ n ∧ i = .int .i64 k ∧ L.take k = M.take k ∧ w.heap = wr.heap ∧ Below w.heap.size w wr) (fun i _ => n - (intOf i).toNat)
    case atStart => exact ⟨0, by omega, rfl, rfl, rfl, Below.refl _ _⟩
    case round =>
      obtain ⟨k, hk, rfl, hf, hh, hb⟩ := hrel
      have HB := hidden hb
      have HH := hidden hh
      by_cases hlt : k < n
      · obtain ⟨b, off, rfl, _, hc⟩ := HS.out.2 (by omega)
        obtain ⟨b', off', rfl, _, hc'⟩ := HT.out.2 (by omega)
        obtain ⟨x0, x1, x2, x3, x4⟩ := (hc k hlt).kept (w' := wr) (by rw [hh])
        obtain ⟨y0, y1, y2, y3, y4⟩ := (hc' k hlt).kept (w' := wr) (by rw [hh])
        have H1 := hidden (take_eqX (HS.out.1.trans HT.out.1.symm) k (by rw [HS.out.1]; exact hlt) hf)
        have hq := fun w => eq_stp w (L.getD k default) (M.getD k default)
        unfold Stp.val at hq
        clear hc hc' hb hf hh
        by_cases he : L.getD k default = M.getD k default
        · have H2 := hidden (H1.out.1 he)
          have e := (eqStp_iff _ _).2 he
          rw [e] at hq
          clear he H1 e
          generalize L.getD k default = x at *
          generalize M.getD k default = y at *
          go_wp2
          go_quiet (fail)
          go_wp2
          go_roundw
          case rel => exact ⟨k + 1, by omega, by go_num, H2.out, HH.out, below_drawn HB.out _⟩
          case measure => simp [intOf]; omega
        · have H2 := hidden (sameX_no (H1.out.2 he))
          have e : eqStp (L.getD k default) (M.getD k default) = false := by
            rw [Bool.eq_false_iff]
            exact fun h => he ((eqStp_iff _ _).1 h)
          rw [e] at hq
          clear he H1 e
          generalize L.getD k default = x at *
          generalize M.getD k default = y at *
          go_wp2
          go_quiet (fail)
          go_wp2
          go_ret
          exact ⟨ret_b H2.out.symm, below_drawn HB.out _⟩
      · obtain rfl : k = n := by omega
        rw [List.take_of_length_le (by rw [HS.out.1]; omega), List.take_of_length_le (by rw [HT.out.1]; omega)] at hf
        have H2 : Hid (sameX L M = true) := hidden (by rw [hf]; exact sameX_yes _)
        clear hf
        go_wp2
        go_ret
        exact ⟨ret_b H2.out.symm, hb⟩
  · have H2 : Hid (sameX L M = false) := hidden (sameX_no (fun e => hn (by rw [← HS.out.1, ← HT.out.1, e])))
    have hn' : ((n : Int) == n') = false := by simp; omega
    have hn'' : (!((n : Int) == n')) = true := by rw [hn']; rfl
    go_enter Try.func25, Try.ntmps25
    go_wp2
    go_ret
    exact ⟨ret_b H2.out.symm, Below.refl _ _⟩
theorem same_rx {C C' : Nat → Prop} (a a' : Option Addr) (n n' cap cap' : Nat) (L M : List Stp) (w : World) (hl : n ≤ cap) (hcap : cap ≤ maxLen) (hS : Rxs C w a n L) (hl' : n' ≤ cap') (hcap' : cap' ≤ maxLen) (hT : Rxs C' w a' n' M) :
    Calls Try.prog 7 #[.slice a n cap, .slice a' n' cap'] w fun e w' => e = .returned (.bool (sameX L M)) ∧ Below w.heap.size w w' := by
  have H := hidden (equal_calls a a' n n' cap cap' L M w hl hcap hS hl' hcap' hT)
  clear hl hcap hS hl' hcap' hT
  go_enter Try.func7, Try.ntmps7
  go_wp2_with fail
  refine H.out.mono ?_
  rintro e w' ⟨rfl, hb⟩
  go_wp2
  go_ret
  exact ⟨rfl, hb⟩
theorem same_slX {C C' : Nat → Prop} {v v' : Value} {L M : List Stp} {w : World} (h : SlX C w v L) (h' : SlX C' w v' M) :
    Calls Try.prog 7 #[v, v'] w fun e w' => e = .returned (.bool (sameX L M)) ∧ Below w.heap.size w w' := by
  obtain ⟨a, cap, rfl, h1, h2, _, hS⟩ := h
  obtain ⟨a', cap', rfl, h1', h2', _, hT⟩ := h'
  exact same_rx _ _ _ _ _ _ _ _ _ h1 h2 hS h1' h2' hT

/-! ### what is wrong with steps, and how many parts they make -/
theorem meas_step {L : List Stp} {k : Nat} {p h : Int} {r : Int × Int} (e : r = measGo (L.drop k) p h) (hk : k < L.length) :
    (¬ (L.getD k default).good → r = (0, 1)) ∧ ((L.getD k default).good → p < kOps (L.getD k default).k → r = (0, 3)) ∧ ((L.getD k default).good → kOps (L.getD k default).k ≤ p → r = measGo (L.drop (k + 1)) (p + (1 - kOps (L.getD k default).k)) (max h (p + (1 - kOps (L.getD k default).k)))) := by
  rw [List.drop_eq_getElem_cons hk, measGo] at e
  have e1 : L.getD k default = L[k] := by rw [List.getD_eq_getElem?_getD, List.getElem?_eq_getElem hk]; rfl
  rw [e1]
  refine ⟨fun h1 => ?_, fun h1 h2 => ?_, fun h1 h2 => ?_⟩
  · rw [if_neg h1] at e; exact e
  · rw [if_pos h1, if_pos h2] at e; exact e
  · rw [if_pos h1, if_neg (by omega)] at e; exact e
theorem meas_end {L : List Stp} {k : Nat} {p h : Int} {r : Int × Int} (e : r = measGo (L.drop k) p h) (hk : L.length ≤ k) : r = if p = 1 then (h, 0) else (0, 3) := by
  rw [List.drop_eq_nil_of_le hk] at e
  exact e
theorem ret_two_i {a b : Int} {r : Int × Int} (h : r = (a, b)) : Ending.returned (.tuple #[.int .i64 a, .int .i64 b]) = .returned (.tuple #[.int .i64 r.1, .int .i64 r.2]) := by rw [h]
set_option maxHeartbeats 4000000 in
set_option maxRecDepth 100000 in
theorem measure_calls {C : Nat → Prop} (a : Option Addr) (n cap : Nat) (L : List Stp) (w : World) (_ : n ≤ cap) (_ : cap ≤ maxLen) (hS : Rxs C w a n L) (hC : ∀ b, C b → b < w.heap.size) :
    Calls Try.prog 32 #[.slice a n cap] w fun e w' => e = .returned (.tuple #[.int .i64 (measV L).1, .int .i64 (measV L).2]) ∧ Below w.heap.size w w' := by
  by_cases hn : 512 < n
  · have e : measV L = (0, 4) := by unfold measV; rw [if_pos (by rw [hS.1]; exact hn)]
    have HE := hidden e
    clear e hS
    go_enter Try.func32, Try.ntmps32
    go_wp2
    go_ret2
    exact ⟨ret_two_i HE.out, Below.refl _ _⟩
  · have hM : measV L = measGo (L.drop 0) 0 0 := by
      unfold measV
      rw [if_neg (by rw [hS.1]; exact hn), List.drop_zero]
    obtain ⟨r, hr⟩ : ∃ r, r = measV L := ⟨_, rfl⟩
    rw [← hr] at hM ⊢
    have HM := hidden hM
    have HS := hidden hS
    have HC := hidden hC
    clear hM hS hC hr
    go_enter Try.func32, Try.ntmps32
    go_wp2
    go_loopw [4, 5, 14] (fun p h i wr => ∃ (k : Nat) (P H : Int), k ≤ n ∧ i = .int .i64 k ∧ p = .int .i64 P ∧ h = .int .i64 H ∧ 0 ≤ P ∧ P ≤ k ∧ 0 ≤ H ∧ H ≤ k ∧ r = measGo (L.drop k) P H ∧ Below w.heap.size w wr) (fun _ _ i _ => n - (intOf i).toNat)
    case atStart => exact ⟨0, 0, 0, by omega, rfl, rfl, rfl, by omega, by omega, by omega, by omega, HM.out, Below.refl _ _⟩
    case round =>
      obtain ⟨k, P, H, hk, rfl, rfl, rfl, hP0, hPk, hH0, hHk, he, hb⟩ := hrel
      have HE := hidden he
      have HB := hidden hb
      clear he hb
      by_cases hlt : k < n
      · obtain ⟨b, off, rfl, hCb, hc⟩ := HS.out.2 (by omega)
        obtain ⟨c0, c1, c2, c3, c4⟩ := (hc k hlt).kept (w' := wr) (HB.out.block b (HC.out b hCb))
        have H1 := hidden (meas_step HE.out (by rw [HS.out.1]; exact hlt))
        obtain ⟨x, hx⟩ : ∃ x, x = L.getD k default := ⟨_, rfl⟩
        rw [← hx] at c0 c1 c2 c3 c4 H1
        have hO := kOps_range x.k
        have HK := hidden (operands_calls x.k)
        clear hc hCb hx
        obtain ⟨K, x1, x2, x3, x4⟩ := x
        simp only at c0 c1 c2 c3 c4 hO HK
        have hg : ((⟨K, x1, x2, x3, x4⟩ : Stp).good ↔ 0 ≤ kOps K ∧ (K = 1 ∨ (x1 = 0 ∧ x2 = 0 ∧ x3 = 0 ∧ x4 = 0))) := Iff.rfl
        have HG := hidden hg
        have hq := fun w => eq_four w x1 x2 x3 x4 0 0 0 0
        simp only [Bool.and_true] at hq
        clear hg
        have H2 : Hid ((⟨K, x1, x2, x3, x4⟩ : Stp).k = K) := hidden rfl
        rw [H2.out] at H1
        clear H2
        generalize kOps K = o at *
        by_cases q0 : o < 0
        · have hres := hidden (H1.out.1 (fun h => by have := (HG.out.1 h).1; omega))
          clear H1
          go_wp2_with fail
          refine (HK.out _).mono ?_
          rintro e w1 ⟨rfl, rfl⟩
          go_wp2
          go_ret2
          exact ⟨ret_two_i hres.out, by have hq := HB.out; go_grown; exact hq.size⟩
        · have hd0 : decide (o < 0) = false := decide_eq_false q0
          have hcase : (K = 1) ∨ (K ≠ 1 ∧ x1 = 0 ∧ x2 = 0 ∧ x3 = 0 ∧ x4 = 0) ∨ (K ≠ 1 ∧ ¬ (x1 = 0 ∧ x2 = 0 ∧ x3 = 0 ∧ x4 = 0)) := by
            by_cases h1 : K = 1
            · exact .inl h1
            · by_cases h2 : x1 = 0 ∧ x2 = 0 ∧ x3 = 0 ∧ x4 = 0
              · exact .inr (.inl ⟨h1, h2⟩)
              · exact .inr (.inr ⟨h1, h2⟩)
          rcases hcase with h1 | ⟨h1, h2, h3, h4, h5⟩ | ⟨h1, h2⟩
          case' inl =>
            have hgood := HG.out.2 ⟨by omega, .inl h1⟩
            have q1 : (K == 1) = true := by simp [h1]
            have q2 : (K != 1) = false := by simp [h1]
            clear hq
          case' inr.inl =>
            have hgood := HG.out.2 ⟨by omega, .inr ⟨h2, h3, h4, h5⟩⟩
            have q1 : (K == 1) = false := by simp [h1]
            have q2 : (K != 1) = true := by simp [h1]
            have q3 : (x1 == 0 && (x2 == 0 && (x3 == 0 && x4 == 0))) = true := by simp [h2, h3, h4, h5]
            rw [q3] at hq
            clear q3 h2 h3 h4 h5
          case inr.inr =>
            have hres := hidden (H1.out.1 (fun h => (HG.out.1 h).2.elim h1 h2))
            have q1 : (K == 1) = false := by simp [h1]
            have q2 : (K != 1) = true := by simp [h1]
            have q3 : (x1 == 0 && (x2 == 0 && (x3 == 0 && x4 == 0))) = false := by
              rw [Bool.eq_false_iff]
              intro h
              simp at h
              exact h2 ⟨h.1, h.2.1, h.2.2.1, h.2.2.2⟩
            rw [q3] at hq
            clear q3 h2 H1
            go_wp2_with fail
            refine (HK.out _).mono ?_
            rintro e w1 ⟨rfl, rfl⟩
            go_wp2
            go_ret2
            exact ⟨ret_two_i hres.out, by have hq := HB.out; go_grown; exact hq.size⟩
          all_goals
            have H2 := hidden (H1.out.2.1 hgood)
            have H3 := hidden (H1.out.2.2 hgood)
            clear H1 HG hgood h1
            by_cases q5 : P < o
            · have hres := hidden (H2.out q5)
              clear H2 H3
              go_wp2_with fail
              refine (HK.out _).mono ?_
              rintro e w1 ⟨rfl, rfl⟩
              go_wp2
              go_ret2
              exact ⟨ret_two_i hres.out, by have hq := HB.out; go_grown; exact hq.size⟩
            · have hres := hidden (H3.out (by omega))
              have hd5 : decide (P < o) = false := decide_eq_false q5
              clear H2 H3
              go_wp2_with fail
              refine (HK.out _).mono ?_
              rintro e w1 ⟨rfl, rfl⟩
              go_wp2
              go_roundw
              case rel => exact ⟨k + 1, P + (1 - o), max H (P + (1 - o)), by omega, by go_num, by go_num, by go_num, by omega, by omega, by omega, by omega, hres.out, by have hq := HB.out; go_grown; exact hq.size⟩
              case measure => simp [intOf]; omega
      · have hres := hidden (meas_end HE.out (by rw [HS.out.1]; omega))
        by_cases q : P = 1
        · subst q
          rw [if_pos rfl] at hres
          go_wp2
          go_ret2
          exact ⟨ret_two_i hres.out, HB.out⟩
        · rw [if_neg q] at hres
          have q' : (P == 1) = false := by simp [q]
          go_wp2
          go_ret2
          exact ⟨ret_two_i hres.out, HB.out⟩
theorem check_rx {C : Nat → Prop} (a : Option Addr) (n cap : Nat) (L : List Stp) (w : World) (hl : n ≤ cap) (hcap : cap ≤ maxLen) (hS : Rxs C w a n L) (hC : ∀ b, C b → b < w.heap.size) :
    Calls Try.prog 22 #[.slice a n cap] w fun e w' => e = .returned (.int .i64 (measV L).2) ∧ Below w.heap.size w w' := by
  have H := hidden (measure_calls a n cap L w hl hcap hS hC)
  generalize measV L = r at *
  clear hl hcap hS hC
  go_enter Try.func22, Try.ntmps22
  go_wp2_with fail
  refine H.out.mono ?_
  rintro e w' ⟨rfl, hb⟩
  go_wp2
  go_ret
  exact ⟨rfl, hb⟩
theorem high_rx {C : Nat → Prop} (a : Option Addr) (n cap : Nat) (L : List Stp) (w : World) (hl : n ≤ cap) (hcap : cap ≤ maxLen) (hS : Rxs C w a n L) (hC : ∀ b, C b → b < w.heap.size) :
    Calls Try.prog 24 #[.slice a n cap] w fun e w' => e = .returned (.int .i64 (measV L).1) ∧ Below w.heap.size w w' := by
  have H := hidden (measure_calls a n cap L w hl hcap hS hC)
  generalize measV L = r at *
  clear hl hcap hS hC
  go_enter Try.func24, Try.ntmps24
  go_wp2_with fail
  refine H.out.mono ?_
  rintro e w' ⟨rfl, hb⟩
  go_wp2
  go_ret
  exact ⟨rfl, hb⟩
theorem check_slX {C : Nat → Prop} {v : Value} {L : List Stp} {w : World} (h : SlX C w v L) (hC : ∀ b, C b → b < w.heap.size) :
    Calls Try.prog 22 #[v] w fun e w' => e = .returned (.int .i64 (measV L).2) ∧ Below w.heap.size w w' := by
  obtain ⟨a, cap, rfl, h1, h2, _, hS⟩ := h
  exact check_rx _ _ _ _ _ h1 h2 hS hC
theorem high_slX {C : Nat → Prop} {v : Value} {L : List Stp} {w : World} (h : SlX C w v L) (hC : ∀ b, C b → b < w.heap.size) :
    Calls Try.prog 24 #[v] w fun e w' => e = .returned (.int .i64 (measV L).1) ∧ Below w.heap.size w w' := by
  obtain ⟨a, cap, rfl, h1, h2, _, hS⟩ := h
  exact high_rx _ _ _ _ _ h1 h2 hS hC

/-! ### where a part begins -/
theorem beg_step {L : List Stp} {k : Nat} {m r : Int} (e : r = begGo L (k + 1) m) :
    (kOps (L.getD k default).k < 0 → r = -1) ∧ (0 ≤ kOps (L.getD k default).k → m + (kOps (L.getD k default).k - 1) = 0 → r = k) ∧ (0 ≤ kOps (L.getD k default).k → m + (kOps (L.getD k default).k - 1) ≠ 0 → r = begGo L k (m + (kOps (L.getD k default).k - 1))) := by
  rw [begGo] at e
  refine ⟨fun h1 => ?_, fun h1 h2 => ?_, fun h1 h2 => ?_⟩
  · rw [if_pos h1] at e; exact e
  · rw [if_neg (by omega), if_pos h2] at e; exact e
  · rw [if_neg (by omega), if_neg h2] at e; exact e
set_option maxHeartbeats 4000000 in
set_option maxRecDepth 100000 in
theorem begin_rx {C : Nat → Prop} (a : Option Addr) (n cap : Nat) (L : List Stp) (i : Int) (w : World) (_ : n ≤ cap) (_ : cap ≤ maxLen) (hn : n ≤ 4294967296) (hS : Rxs C w a n L) :
    Calls Try.prog 23 #[.slice a n cap, .int .i64 i] w fun e w' => e = .returned (.int .i64 (begV L i)) ∧ w = w' := by
  by_cases hi : i < 0 ∨ (n : Int) ≤ i
  · have e : begV L i = -1 := by unfold begV; rw [if_pos (by rw [hS.1]; exact hi)]
    have HE := hidden e
    clear e hS
    rcases hi with h1 | h1
    · go_enter Try.func23, Try.ntmps23
      go_wp2
      go_ret
      exact ⟨ret_i HE.out.symm, rfl⟩
    · by_cases h2 : i < 0
      · go_enter Try.func23, Try.ntmps23
        go_wp2
        go_ret
        exact ⟨ret_i HE.out.symm, rfl⟩
      · have hd : decide (i < 0) = false := decide_eq_false h2
        go_enter Try.func23, Try.ntmps23
        go_wp2
        go_ret
        exact ⟨ret_i HE.out.symm, rfl⟩
  · obtain ⟨m, rfl⟩ := Int.eq_ofNat_of_zero_le (show 0 ≤ i by omega)
    have hm : m < n := by omega
    obtain ⟨r, hr⟩ : ∃ r, r = begV L m := ⟨_, rfl⟩
    have hM : r = begGo L (m + 1) 1 := by
      rw [hr]
      unfold begV
      rw [if_neg (by rw [hS.1]; exact hi)]
      rfl
    rw [← hr]
    have HM := hidden hM
    have HS := hidden hS
    have hd1 : decide ((m : Int) < 0) = false := decide_eq_false (by omega)
    have hd2 : decide ((n : Int) ≤ m) = false := decide_eq_false (by omega)
    have hd3 : decide (n ≤ m) = false := decide_eq_false (by omega)
    clear hM hS hr hi
    go_enter Try.func23, Try.ntmps23
    go_wp2
    go_loop [5, 6] (fun p i => ∃ (k : Nat) (P : Int), k ≤ m + 1 ∧ i = .int .i64 ((k : Int) - 1) ∧ p = .int .i64 P ∧ (k : Int) - m ≤ P ∧ P ≤ 1 + (m + 1 - (k : Int)) ∧ r = begGo L k P) (fun _ i => (intOf i + 1).toNat)
    case atStart => exact ⟨m + 1, 1, by omega, by go_num, rfl, by omega, by omega, HM.out⟩
    case round =>
      obtain ⟨k, P, hk, rfl, rfl, hP1, hP2, he⟩ := hrel
      have HE := hidden he
      clear he
      by_cases hz : k = 0
      · subst hz
        have hres : Hid (r = -1) := hidden HE.out
        go_wp2
        go_ret
        exact ⟨ret_i hres.out.symm, rfl⟩
      · obtain ⟨j, rfl⟩ : ∃ j, k = j + 1 := ⟨k - 1, by omega⟩
        have hj : ((j + 1 : Nat) : Int) - 1 = j := by omega
        rw [hj] at *
        have hjn : j < n := by omega
        obtain ⟨b, off, rfl, _, hc⟩ := HS.out.2 (by omega)
        obtain ⟨c0, c1, c2, c3, c4⟩ := hc j hjn
        have H1 := hidden (beg_step HE.out)
        have hO := kOps_range (L.getD j default).k
        have HK := hidden (operands_calls (L.getD j default).k)
        clear hc HE c1 c2 c3 c4
        generalize (L.getD j default).k = K at *
        generalize kOps K = o at *
        have w1 : wrap64 (o - 1) = o - 1 := by unfold wrap64; omega
        have w2 : wrap64 (P + (o - 1)) = P + (o - 1) := by unfold wrap64; omega
        by_cases q0 : o < 0
        · have hres := hidden (H1.out.1 q0)
          clear H1
          go_wp2_with fail
          refine (HK.out _).mono ?_
          rintro e w1 ⟨rfl, rfl⟩
          go_wp2
          go_ret
          exact ⟨ret_i hres.out.symm, rfl⟩
        · have hd0 : decide (o < 0) = false := decide_eq_false q0
          by_cases q1 : P + (o - 1) = 0
          · have hres := hidden (H1.out.2.1 (by omega) q1)
            have q2 : (P + (o - 1) == 0) = true := by simp [q1]
            clear H1
            go_wp2_with fail
            refine (HK.out _).mono ?_
            rintro e w1 ⟨rfl, rfl⟩
            go_wp2
            go_ret
            exact ⟨ret_i hres.out.symm, rfl⟩
          · have hres := hidden (H1.out.2.2 (by omega) q1)
            have q2 : (P + (o - 1) == 0) = false := by simp [q1]
            clear H1
            go_wp2_with fail
            refine (HK.out _).mono ?_
            rintro e w1 ⟨rfl, rfl⟩
            go_wp2
            go_round
            case rel => exact ⟨j, P + (o - 1), by omega, by go_num, by go_num, by omega, by omega, hres.out⟩
            case measure => simp [intOf]
theorem begin_slX {C : Nat → Prop} {v : Value} {L : List Stp} {w : World} (i : Int) (h : SlX C w v L) (hn : L.length ≤ 4294967296) :
    Calls Try.prog 23 #[v, .int .i64 i] w fun e w' => e = .returned (.int .i64 (begV L i)) ∧ w = w' := by
  obtain ⟨a, cap, rfl, h1, h2, _, hS⟩ := h
  exact begin_rx _ _ _ _ _ _ h1 h2 hn hS
end Go.Proofs.Ytfjedkebckfpfaa
