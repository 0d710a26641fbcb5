/- RxAsk, RxMake, RxJoin, put together. -/
import Derived.Test.YtbokhofdgdcpdaaDoorSp03
import Derived.RangeFuncBox
import Derived.Laws.AppendOwnNone
/- Contracts of what is asked of steps: operands, measure, Check, High, Begin, slices.Equal at steps, Same. -/
namespace Go.Proofs.YtbokhofdgdcpdaaDoor
open Go.RowKit

set_option maxRecDepth 100000 in
theorem operands_calls (k : Int) (w : World) : Calls Tryd.prog 92 #[.int .i64 k] w fun e w' => e = .returned (.int .i64 (kOps k)) ∧ w = w' := by
  have hk : k = 1 ∨ k = 2 ∨ k = 3 ∨ k = 4 ∨ k = 5 ∨ k = 6 ∨ k = 7 ∨ (¬ k = 1 ∧ ¬ k = 2 ∧ ¬ k = 3 ∧ ¬ k = 4 ∧ ¬ k = 5 ∧ ¬ k = 6 ∧ ¬ k = 7) := by omega
  rcases hk with rfl | rfl | rfl | rfl | rfl | rfl | rfl | ⟨h1, h2, h3, h4, h5, h6, h7⟩
  case inr.inr.inr.inr.inr.inr.inr =>
    have e : kOps k = -1 := by unfold kOps; rw [if_neg (by omega), if_neg (by omega), if_neg (by omega)]
    have HE := hidden e
    clear e
    have q1 : (k == 1) = false := by simp [h1]
    have q2 : (k == 2) = false := by simp [h2]
    have q3 : (k == 3) = false := by simp [h3]
    have q4 : (k == 4) = false := by simp [h4]
    have q5 : (k == 5) = false := by simp [h5]
    have q6 : (k == 6) = false := by simp [h6]
    have q7 : (k == 7) = false := by simp [h7]
    clear h1 h2 h3 h4 h5 h6 h7
    go_enter Tryd.func92, Tryd.ntmps92
    go_wp2
    go_ret
    exact ⟨ret_i HE.out.symm, rfl⟩
  all_goals
    go_enter Tryd.func92, Tryd.ntmps92
    go_wp2
    go_ret
    exact ⟨ret_i (by decide), rfl⟩

/-! ### what is wrong with steps, and how many parts they make -/
theorem meas_step {L : List Stp} {k : Nat} {p h : Int} {r : Int × Int} (e : r = measGo (L.drop k) p h) (hk : k < L.length) :
    (¬ (L.getD k default).good → r = (0, 1)) ∧ ((L.getD k default).good → p < kOps (L.getD k default).k → r = (0, 3)) ∧ ((L.getD k default).good → kOps (L.getD k default).k ≤ p → r = measGo (L.drop (k + 1)) (p + (1 - kOps (L.getD k default).k)) (max h (p + (1 - kOps (L.getD k default).k)))) := by
  rw [List.drop_eq_getElem_cons hk, measGo] at e
  have e1 : L.getD k default = L[k] := by rw [List.getD_eq_getElem?_getD, List.getElem?_eq_getElem hk]; rfl
  rw [e1]
  refine ⟨fun h1 => ?_, fun h1 h2 => ?_, fun h1 h2 => ?_⟩
  · rw [if_neg h1] at e; exact e
  · rw [if_pos h1, if_pos h2] at e; exact e
  · rw [if_pos h1, if_neg (by omega)] at e; exact e
theorem meas_end {L : List Stp} {k : Nat} {p h : Int} {r : Int × Int} (e : r = measGo (L.drop k) p h) (hk : L.length ≤ k) : r = if p = 1 then (h, 0) else (0, 3) := by
  rw [List.drop_eq_nil_of_le hk] at e
  exact e
theorem ret_two_i {a b : Int} {r : Int × Int} (h : r = (a, b)) : Ending.returned (.tuple #[.int .i64 a, .int .i64 b]) = .returned (.tuple #[.int .i64 r.1, .int .i64 r.2]) := by rw [h]
set_option maxHeartbeats 4000000 in
set_option maxRecDepth 100000 in
theorem measure_calls {C : Nat → Prop} (a : Option Addr) (n cap : Nat) (L : List Stp) (w : World) (_ : n ≤ cap) (_ : cap ≤ maxLen) (hS : Rxs C w a n L) (hC : ∀ b, C b → b < w.heap.size) :
    Calls Tryd.prog 73 #[.slice a n cap] w fun e w' => e = .returned (.tuple #[.int .i64 (measV L).1, .int .i64 (measV L).2]) ∧ Below w.heap.size w w' := by
  by_cases hn : 512 < n
  · have e : measV L = (0, 4) := by unfold measV; rw [if_pos (by rw [hS.1]; exact hn)]
    have HE := hidden e
    clear e hS
    go_enter Tryd.func73, Tryd.ntmps73
    go_wp2
    go_ret2
    exact ⟨ret_two_i HE.out, Below.refl _ _⟩
  · have hM : measV L = measGo (L.drop 0) 0 0 := by
      unfold measV
      rw [if_neg (by rw [hS.1]; exact hn), List.drop_zero]
    obtain ⟨r, hr⟩ : ∃ r, r = measV L := ⟨_, rfl⟩
    rw [← hr] at hM ⊢
    have HM := hidden hM
    have HS := hidden hS
    have HC := hidden hC
    clear hM hS hC hr
    go_enter Tryd.func73, Tryd.ntmps73
    go_wp2
    go_loopw [4, 5, 14] (fun p h i wr => ∃ (k : Nat) (P H : Int), k ≤ n ∧ i = .int .i64 k ∧ p = .int .i64 P ∧ h = .int .i64 H ∧ 0 ≤ P ∧ P ≤ k ∧ 0 ≤ H ∧ H ≤ k ∧ r = measGo (L.drop k) P H ∧ Below w.heap.size w wr) (fun _ _ i _ => n - (intOf i).toNat)
    case atStart => exact ⟨0, 0, 0, by omega, rfl, rfl, rfl, by omega, by omega, by omega, by omega, HM.out, Below.refl _ _⟩
    case round =>
      obtain ⟨k, P, H, hk, rfl, rfl, rfl, hP0, hPk, hH0, hHk, he, hb⟩ := hrel
      have HE := hidden he
      have HB := hidden hb
      clear he hb
      by_cases hlt : k < n
      · obtain ⟨b, off, rfl, hCb, hc⟩ := HS.out.2 (by omega)
        obtain ⟨c0, c1, c2, c3, c4⟩ := (hc k hlt).kept (w' := wr) (HB.out.block b (HC.out b hCb))
        have H1 := hidden (meas_step HE.out (by rw [HS.out.1]; exact hlt))
        obtain ⟨x, hx⟩ : ∃ x, x = L.getD k default := ⟨_, rfl⟩
        rw [← hx] at c0 c1 c2 c3 c4 H1
        have hO := kOps_range x.k
        have HK := hidden (operands_calls x.k)
        clear hc hCb hx
        obtain ⟨K, x1, x2, x3, x4⟩ := x
        simp only at c0 c1 c2 c3 c4 hO HK
        have hg : ((⟨K, x1, x2, x3, x4⟩ : Stp).good ↔ 0 ≤ kOps K ∧ (K = 1 ∨ (x1 = 0 ∧ x2 = 0 ∧ x3 = 0 ∧ x4 = 0))) := Iff.rfl
        have HG := hidden hg
        have hq := fun w => eq_four w x1 x2 x3 x4 0 0 0 0
        simp only [Bool.and_true] at hq
        clear hg
        have H2 : Hid ((⟨K, x1, x2, x3, x4⟩ : Stp).k = K) := hidden rfl
        rw [H2.out] at H1
        clear H2
        generalize kOps K = o at *
        by_cases q0 : o < 0
        · have hres := hidden (H1.out.1 (fun h => by have := (HG.out.1 h).1; omega))
          clear H1
          go_wp2_with fail
          refine (HK.out _).mono ?_
          rintro e w1 ⟨rfl, rfl⟩
          go_wp2
          go_ret2
          exact ⟨ret_two_i hres.out, by have hq := HB.out; go_grown; exact hq.size⟩
        · have hd0 : decide (o < 0) = false := decide_eq_false q0
          have hcase : (K = 1) ∨ (K ≠ 1 ∧ x1 = 0 ∧ x2 = 0 ∧ x3 = 0 ∧ x4 = 0) ∨ (K ≠ 1 ∧ ¬ (x1 = 0 ∧ x2 = 0 ∧ x3 = 0 ∧ x4 = 0)) := by
            by_cases h1 : K = 1
            · exact .inl h1
            · by_cases h2 : x1 = 0 ∧ x2 = 0 ∧ x3 = 0 ∧ x4 = 0
              · exact .inr (.inl ⟨h1, h2⟩)
              · exact .inr (.inr ⟨h1, h2⟩)
          rcases hcase with h1 | ⟨h1, h2, h3, h4, h5⟩ | ⟨h1, h2⟩
          case' inl =>
            have hgood := HG.out.2 ⟨by omega, .inl h1⟩
            have q1 : (K == 1) = true := by simp [h1]
            have q2 : (K != 1) = false := by simp [h1]
            clear hq
          case' inr.inl =>
            have hgood := HG.out.2 ⟨by omega, .inr ⟨h2, h3, h4, h5⟩⟩
            have q1 : (K == 1) = false := by simp [h1]
            have q2 : (K != 1) = true := by simp [h1]
            have q3 : (x1 == 0 && (x2 == 0 && (x3 == 0 && x4 == 0))) = true := by simp [h2, h3, h4, h5]
            rw [q3] at hq
            clear q3 h2 h3 h4 h5
          case inr.inr =>
            have hres := hidden (H1.out.1 (fun h => (HG.out.1 h).2.elim h1 h2))
            have q1 : (K == 1) = false := by simp [h1]
            have q2 : (K != 1) = true := by simp [h1]
            have q3 : (x1 == 0 && (x2 == 0 && (x3 == 0 && x4 == 0))) = false := by
              rw [Bool.eq_false_iff]
              intro h
              simp at h
              exact h2 ⟨h.1, h.2.1, h.2.2.1, h.2.2.2⟩
            rw [q3] at hq
            clear q3 h2 H1
            go_wp2_with fail
            refine (HK.out _).mono ?_
            rintro e w1 ⟨rfl, rfl⟩
            go_wp2
            go_ret2
            exact ⟨ret_two_i hres.out, by have hq := HB.out; go_grown; exact hq.size⟩
          all_goals
            have H2 := hidden (H1.out.2.1 hgood)
            have H3 := hidden (H1.out.2.2 hgood)
            clear H1 HG hgood h1
            by_cases q5 : P < o
            · have hres := hidden (H2.out q5)
              clear H2 H3
              go_wp2_with fail
              refine (HK.out _).mono ?_
              rintro e w1 ⟨rfl, rfl⟩
              go_wp2
              go_ret2
              exact ⟨ret_two_i hres.out, by have hq := HB.out; go_grown; exact hq.size⟩
            · have hres := hidden (H3.out (by omega))
              have hd5 : decide (P < o) = false := decide_eq_false q5
              clear H2 H3
              go_wp2_with fail
              refine (HK.out _).mono ?_
              rintro e w1 ⟨rfl, rfl⟩
              go_wp2
              go_roundw
              case rel => exact ⟨k + 1, P + (1 - o), max H (P + (1 - o)), by omega, by go_num, by go_num, by go_num, by omega, by omega, by omega, by omega, hres.out, by have hq := HB.out; go_grown; exact hq.size⟩
              case measure => simp [intOf]; omega
      · have hres := hidden (meas_end HE.out (by rw [HS.out.1]; omega))
        by_cases q : P = 1
        · subst q
          rw [if_pos rfl] at hres
          go_wp2
          go_ret2
          exact ⟨ret_two_i hres.out, HB.out⟩
        · rw [if_neg q] at hres
          have q' : (P == 1) = false := by simp [q]
          go_wp2
          go_ret2
          exact ⟨ret_two_i hres.out, HB.out⟩
theorem check_rx {C : Nat → Prop} (a : Option Addr) (n cap : Nat) (L : List Stp) (w : World) (hl : n ≤ cap) (hcap : cap ≤ maxLen) (hS : Rxs C w a n L) (hC : ∀ b, C b → b < w.heap.size) :
    Calls Tryd.prog 47 #[.slice a n cap] w fun e w' => e = .returned (.int .i64 (measV L).2) ∧ Below w.heap.size w w' := by
  have H := hidden (measure_calls a n cap L w hl hcap hS hC)
  generalize measV L = r at *
  clear hl hcap hS hC
  go_enter Tryd.func47, Tryd.ntmps47
  go_wp2_with fail
  refine H.out.mono ?_
  rintro e w' ⟨rfl, hb⟩
  go_wp2
  go_ret
  exact ⟨rfl, hb⟩
theorem high_rx {C : Nat → Prop} (a : Option Addr) (n cap : Nat) (L : List Stp) (w : World) (hl : n ≤ cap) (hcap : cap ≤ maxLen) (hS : Rxs C w a n L) (hC : ∀ b, C b → b < w.heap.size) :
    Calls Tryd.prog 78 #[.slice a n cap] w fun e w' => e = .returned (.int .i64 (measV L).1) ∧ Below w.heap.size w w' := by
  have H := hidden (measure_calls a n cap L w hl hcap hS hC)
  generalize measV L = r at *
  clear hl hcap hS hC
  go_enter Tryd.func78, Tryd.ntmps78
  go_wp2_with fail
  refine H.out.mono ?_
  rintro e w' ⟨rfl, hb⟩
  go_wp2
  go_ret
  exact ⟨rfl, hb⟩
theorem check_slX {C : Nat → Prop} {v : Value} {L : List Stp} {w : World} (h : SlX C w v L) (hC : ∀ b, C b → b < w.heap.size) :
    Calls Tryd.prog 47 #[v] w fun e w' => e = .returned (.int .i64 (measV L).2) ∧ Below w.heap.size w w' := by
  obtain ⟨a, cap, rfl, h1, h2, _, hS⟩ := h
  exact check_rx _ _ _ _ _ h1 h2 hS hC
theorem high_slX {C : Nat → Prop} {v : Value} {L : List Stp} {w : World} (h : SlX C w v L) (hC : ∀ b, C b → b < w.heap.size) :
    Calls Tryd.prog 78 #[v] w fun e w' => e = .returned (.int .i64 (measV L).1) ∧ Below w.heap.size w w' := by
  obtain ⟨a, cap, rfl, h1, h2, _, hS⟩ := h
  exact high_rx _ _ _ _ _ h1 h2 hS hC

/-! ### where a part begins -/
end Go.Proofs.YtbokhofdgdcpdaaDoor

/- Contracts of what makes one step: step, Set, Empty, the reference's Set and Empty. -/
namespace Go.Proofs.YtbokhofdgdcpdaaDoor
open Go.RowKit

theorem row_one (w : World) (s : Stp) (b : Nat) (hb : b = w.heap.size) (base : Nat) (h : base ≤ w.heap.size) : RowX (w.alloc (.cells #[.int .i64 s.k, .int .u64 s.a, .int .u64 s.b, .int .u64 s.c, .int .u64 s.d] 67)) base (.slice (some ⟨b, 0, none⟩) 1 1) [s] := by
  subst hb
  exact World.ownsRow_lit (e := 67) (size := 5) w _ 1 h (by decide) rfl
theorem rset_rx (a b c d : Int) (w : World) : Calls Tryd.prog 61 #[.agg #[.int .u64 a, .int .u64 b, .int .u64 c, .int .u64 d]] w (RetX w [⟨1, a, b, c, d⟩]) := by
  go_enter Tryd.func61, Tryd.ntmps61
  go_wp2
  go_ret
  exact ⟨_, rfl, row_one _ ⟨1, a, b, c, d⟩ _ (by simp) _ (by simp), by go_grown⟩
theorem rempty_rx (w : World) : Calls Tryd.prog 59 #[] w (RetX w [kStp 2]) := by
  go_enter Tryd.func59, Tryd.ntmps59
  go_wp2
  go_ret
  exact ⟨_, rfl, row_one w (kStp 2) _ rfl _ (Nat.le_refl _), by go_grown⟩
end Go.Proofs.YtbokhofdgdcpdaaDoor

/- Lists of lists of steps; contracts of what joins them: the closure of joined, joined, the reference's many. -/
namespace Go.Proofs.YtbokhofdgdcpdaaDoor
open Go.RowKit Go.Lib Go.Joins

/-- a slice of slices of steps that reads as a list of lists; all blocks meet C -/
def Rxss (C : Nat → Prop) (w : World) (a : Option Addr) (len : Nat) (LL : List (List Stp)) : Prop :=
  LL.length = len ∧ (0 < len → ∃ b off, a = some ⟨b, off, none⟩ ∧ C b ∧ ∀ i, i < len → ∃ v, w.cell? ⟨b, off + i, none⟩ = some v ∧ SlX C w v (LL.getD i []))
def SlXs (C : Nat → Prop) (w : World) (v : Value) (LL : List (List Stp)) : Prop := ∃ a cap, v = .slice a LL.length cap ∧ LL.length ≤ cap ∧ cap ≤ maxLen ∧ Rxss C w a LL.length LL
theorem Rxss.below {C C' : Nat → Prop} {w w' : World} {a : Option Addr} {len : Nat} {LL : List (List Stp)} (h : Rxss C w a len LL) (hb : ∀ b, C b → C' b ∧ w'.heap[b]? = w.heap[b]?) : Rxss C' w' a len LL := by
  refine ⟨h.1, fun hp => ?_⟩
  obtain ⟨b, off, e, hC, hc⟩ := h.2 hp
  refine ⟨b, off, e, (hb b hC).1, fun i hi => ?_⟩
  obtain ⟨v, h1, h2⟩ := hc i hi
  exact ⟨v, (World.cell?_of_block (a := ⟨b, off + i, none⟩) (hb b hC).2).trans h1, h2.below hb⟩
theorem SlXs.below {C C' : Nat → Prop} {w w' : World} {v : Value} {LL : List (List Stp)} (h : SlXs C w v LL) (hb : ∀ b, C b → C' b ∧ w'.heap[b]? = w.heap[b]?) : SlXs C' w' v LL := by
  obtain ⟨a, cap, rfl, h1, h2, hS⟩ := h
  exact ⟨a, cap, rfl, h1, h2, hS.below hb⟩

/-- an append to a row of the call's own, from wherever the steps lie -/
theorem append_rx {P : Program} {w : World} {ops : Array Oper} {rest : List Oper} {o : Oper} {a : Act} {Q : Exit → Act → World → Prop} (hP : P = Tryd.prog) (hgd : o.guard = none) (s x : Operand)
    (ho : o.op = .call { callee := .builtin .append, args := #[s, x], argTypes := #[22, 22] })
    (base : Nat) (v u : Value) (L M : List Stp) (hs : a.eval s = v) (hown : RowX w base v L) {C : Nat → Prop} (hx : a.eval x = u) (hM : SlX C w u M) (hsz : L.length + M.length ≤ 1000000) (hbase : base ≤ w.heap.size)
    (h : ∀ a' l' c' w', RowX w' base (.slice a' l' c') (L ++ M) → w.grownBy w' v.ownBlock → wpList P ops Q rest (a.put o.dst (.slice a' l' c')) w') : wpList P ops Q (o :: rest) a w := by
  have h : ∀ v' w', RowX w' base v' (L ++ M) → w.grownBy w' v.ownBlock → wpList P ops Q rest (a.put o.dst v') w' := fun v' w' h1 h2 => by
    rcases ownsRow_forms h1 with ⟨rfl, _⟩ | ⟨g, cap, rfl⟩
    · exact h _ _ _ _ h1 h2
    · exact h _ _ _ _ h1 h2
  subst hP
  obtain ⟨i0, hi, hz0, hz1, hz2⟩ := info_parts infoRx
  obtain ⟨ad, cap, rfl, h1, h2, h0, hS⟩ := hM
  cases ad with
  | none =>
    have e0 := h0 rfl
    subst e0
    have hM0 : M = [] := List.eq_nil_of_length_eq_zero (by omega)
    subst hM0
    refine wpList_append_own_none hgd s x 22 ho base 67 i0 5 Tryd.underlying22 hi v L.length (rxCells L) hs hown hx (h v w ?_ ⟨rfl, rfl, rfl, Nat.le_refl _, fun _ _ _ => rfl⟩)
    rw [List.append_nil]
    exact hown
  | some ad =>
    obtain ⟨b, off, spot⟩ := ad
    have hnews : ∀ j z, (rxCells M)[j]? = some z → w.cell? ((⟨b, off, spot⟩ : Addr).add j) = some z := by
      by_cases hm : 0 < M.length
      · obtain ⟨b', off', e, _⟩ := hS.2 hm
        simp only [Option.some.injEq, Addr.mk.injEq] at e
        obtain ⟨rfl, rfl, rfl⟩ := e
        exact hS.news
      · have hM0 : M = [] := List.eq_nil_of_length_eq_zero (by omega)
        subst hM0
        intro j z hz
        simp [rxCells] at hz
    refine wpList_append_own w hgd s x 22 ho base 67 i0 _ 5 40 Tryd.underlying22 hi hz0 hz1 hz2 rfl (by decide) v L.length (rxCells L) hs hown ⟨b, off, spot⟩ M.length cap (rxCells M) hx (rxCells_len M) hnews (fun z hz => rxCells_one hz) (by unfold maxLen; omega) (by omega) hbase fun v' w' h3 h4 _ => h v' w' (RowX.more h3) h4
/-! ### lists of steps put behind one another -/
def jt (k : Int) : List (List Stp) → List Stp
  | [] => []
  | x :: r => x ++ [kStp k] ++ jt k r
def jn (k : Int) : List (List Stp) → List Stp
  | [] => []
  | x :: r => x ++ jt k r
theorem jt_append (k : Int) : ∀ a b, jt k (a ++ b) = jt k a ++ jt k b
  | [], b => rfl
  | x :: r, b => by simp [jt, jt_append k r b]
theorem take_moreL (R : List (List Stp)) (i : Nat) (h : i < R.length) : R.take (i + 1) = R.take i ++ [R.getD i []] := by
  rw [List.take_succ_eq_append_getElem h, List.getD_eq_getElem?_getD, List.getElem?_eq_getElem h]
  rfl
theorem jt_take (k : Int) (R : List (List Stp)) (i : Nat) (h : i < R.length) : jt k (R.take (i + 1)) = jt k (R.take i) ++ R.getD i [] ++ [kStp k] := by
  rw [take_moreL R i h, jt_append]
  simp [jt]
theorem jt_le (k : Int) (R : List (List Stp)) (i : Nat) : (jt k (R.take i)).length ≤ (jt k R).length := by
  have := jt_append k (R.take i) (R.drop i)
  rw [List.take_append_drop] at this
  rw [this]
  simp
theorem jt_room (k : Int) (R : List (List Stp)) (i : Nat) (h : i < R.length) : (jt k (R.take i)).length + (R.getD i []).length + 1 ≤ (jt k R).length := by
  have h1 := jt_le k R (i + 1)
  rw [jt_take k R i h] at h1
  simp only [List.length_append, List.length_cons, List.length_nil] at h1
  omega
theorem cell_lt1 {w : World} {b o : Nat} {v : Value} (h : w.cell? ⟨b, o, none⟩ = some v) : b < w.heap.size := cell_lt h
/-- the elements behind the first one, as a slice of their own -/
theorem rxss_tail {C : Nat → Prop} {w : World} {b off m cap : Nat} {x : List Stp} {R : List (List Stp)} (h : Rxss C w (some ⟨b, off, none⟩) m (x :: R)) (hcap : m ≤ cap) :
    m = R.length + 1 ∧ C b ∧ (∃ u, w.cell? ⟨b, off, none⟩ = some u ∧ SlX C w u x) ∧ (cap = 1 → Rxss C w (some ⟨b, off, none⟩) 0 R) ∧ Rxss C w (some ⟨b, off + 1, none⟩) (m - 1) R := by
  obtain ⟨hm, h2⟩ := h
  simp only [List.length_cons] at hm
  obtain ⟨b', off', e, hC, hc⟩ := h2 (by omega)
  simp only [Option.some.injEq, Addr.mk.injEq, and_true] at e
  obtain ⟨rfl, rfl⟩ := e
  refine ⟨hm.symm, hC, hc 0 (by omega), fun h1 => ⟨by omega, fun h => absurd h (by omega)⟩, by omega, fun _ => ⟨b, off + 1, rfl, hC, fun i hi => ?_⟩⟩
  have := hc (i + 1) (by omega)
  rw [show off + 1 + i = off + (i + 1) by omega]
  exact this
theorem one_slX (w : World) (s : Stp) (b : Nat) (hb : b = w.heap.size) : SlX (fun _ => True) (w.alloc (.cells #[.int .i64 s.k, .int .u64 s.a, .int .u64 s.b, .int .u64 s.c, .int .u64 s.d] 67)) (.slice (some ⟨b, 0, none⟩) 1 1) [s] :=
  SlX.below (row_one w s b hb 0 (Nat.zero_le _)).reads fun _ _ => ⟨trivial, rfl⟩
end Go.Proofs.YtbokhofdgdcpdaaDoor
