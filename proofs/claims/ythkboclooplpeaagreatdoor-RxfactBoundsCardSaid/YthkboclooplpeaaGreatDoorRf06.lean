/- RxMake, RxJoin, put together. -/
import Derived.Test.YthkboclooplpeaaGreatDoorRf05
import Derived.RangeFuncBox
import Derived.Laws.AppendOwnNone
/- Contracts of what makes one step: step, Set, Empty, the reference's Set and Empty. -/
namespace Go.Proofs.YthkboclooplpeaaGreatDoor
open Go.RowKit

theorem row_one (w : World) (s : Stp) (b : Nat) (hb : b = w.heap.size) (base : Nat) (h : base ≤ w.heap.size) : RowX (w.alloc (.cells #[.int .i64 s.k, .int .u64 s.a, .int .u64 s.b, .int .u64 s.c, .int .u64 s.d] 73)) base (.slice (some ⟨b, 0, none⟩) 1 1) [s] := by
  subst hb
  exact World.ownsRow_lit (e := 73) (size := 5) w _ 1 h (by decide) rfl
theorem step_rx (k : Int) (w : World) : Calls Tryz.prog 66 #[.int .i64 k] w (RetX w [kStp k]) := by
  go_enter Tryz.func66, Tryz.ntmps66
  go_wp2
  go_ret
  exact ⟨_, rfl, row_one w (kStp k) _ rfl _ (Nat.le_refl _), by go_grown⟩
theorem set_rx (a b c d : Int) (w : World) : Calls Tryz.prog 67 #[.agg #[.int .u64 a, .int .u64 b, .int .u64 c, .int .u64 d]] w (RetX w [⟨1, a, b, c, d⟩]) := by
  go_enter Tryz.func67, Tryz.ntmps67
  go_wp2
  go_ret
  exact ⟨_, rfl, row_one _ ⟨1, a, b, c, d⟩ _ (by simp) _ (by simp), by go_grown⟩
theorem rset_rx (a b c d : Int) (w : World) : Calls Tryz.prog 117 #[.agg #[.int .u64 a, .int .u64 b, .int .u64 c, .int .u64 d]] w (RetX w [⟨1, a, b, c, d⟩]) := by
  go_enter Tryz.func117, Tryz.ntmps117
  go_wp2
  go_ret
  exact ⟨_, rfl, row_one _ ⟨1, a, b, c, d⟩ _ (by simp) _ (by simp), by go_grown⟩
theorem empty_rx (w : World) : Calls Tryz.prog 69 #[] w (RetX w [kStp 2]) := by
  go_enter Tryz.func69, Tryz.ntmps69
  go_wp2_with fail
  refine (step_rx _ _).mono ?_
  rintro e w' ⟨v, rfl, hr, hb⟩
  go_wp2
  go_ret
  exact ⟨v, rfl, hr, hb⟩
theorem rempty_rx (w : World) : Calls Tryz.prog 129 #[] w (RetX w [kStp 2]) := by
  go_enter Tryz.func129, Tryz.ntmps129
  go_wp2
  go_ret
  exact ⟨_, rfl, row_one w (kStp 2) _ rfl _ (Nat.le_refl _), by go_grown⟩
end Go.Proofs.YthkboclooplpeaaGreatDoor

/- Lists of lists of steps; contracts of what joins them: the closure of joined, joined, the reference's many. -/
namespace Go.Proofs.YthkboclooplpeaaGreatDoor
open Go.RowKit Go.Lib Go.Joins

/-- a slice of slices of steps that reads as a list of lists; all blocks meet C -/
def Rxss (C : Nat → Prop) (w : World) (a : Option Addr) (len : Nat) (LL : List (List Stp)) : Prop :=
  LL.length = len ∧ (0 < len → ∃ b off, a = some ⟨b, off, none⟩ ∧ C b ∧ ∀ i, i < len → ∃ v, w.cell? ⟨b, off + i, none⟩ = some v ∧ SlX C w v (LL.getD i []))
def SlXs (C : Nat → Prop) (w : World) (v : Value) (LL : List (List Stp)) : Prop := ∃ a cap, v = .slice a LL.length cap ∧ LL.length ≤ cap ∧ cap ≤ maxLen ∧ Rxss C w a LL.length LL
theorem Rxss.below {C C' : Nat → Prop} {w w' : World} {a : Option Addr} {len : Nat} {LL : List (List Stp)} (h : Rxss C w a len LL) (hb : ∀ b, C b → C' b ∧ w'.heap[b]? = w.heap[b]?) : Rxss C' w' a len LL := by
  refine ⟨h.1, fun hp => ?_⟩
  obtain ⟨b, off, e, hC, hc⟩ := h.2 hp
  refine ⟨b, off, e, (hb b hC).1, fun i hi => ?_⟩
  obtain ⟨v, h1, h2⟩ := hc i hi
  exact ⟨v, (World.cell?_of_block (a := ⟨b, off + i, none⟩) (hb b hC).2).trans h1, h2.below hb⟩
theorem SlXs.below {C C' : Nat → Prop} {w w' : World} {v : Value} {LL : List (List Stp)} (h : SlXs C w v LL) (hb : ∀ b, C b → C' b ∧ w'.heap[b]? = w.heap[b]?) : SlXs C' w' v LL := by
  obtain ⟨a, cap, rfl, h1, h2, hS⟩ := h
  exact ⟨a, cap, rfl, h1, h2, hS.below hb⟩

/-- an append to a row of the call's own, from wherever the steps lie -/
theorem append_rx {P : Program} {w : World} {ops : Array Oper} {rest : List Oper} {o : Oper} {a : Act} {Q : Exit → Act → World → Prop} (hP : P = Tryz.prog) (hgd : o.guard = none) (s x : Operand)
    (ho : o.op = .call { callee := .builtin .append, args := #[s, x], argTypes := #[22, 22] })
    (base : Nat) (v u : Value) (L M : List Stp) (hs : a.eval s = v) (hown : RowX w base v L) {C : Nat → Prop} (hx : a.eval x = u) (hM : SlX C w u M) (hsz : L.length + M.length ≤ 1000000) (hbase : base ≤ w.heap.size)
    (h : ∀ a' l' c' w', RowX w' base (.slice a' l' c') (L ++ M) → w.grownBy w' v.ownBlock → wpList P ops Q rest (a.put o.dst (.slice a' l' c')) w') : wpList P ops Q (o :: rest) a w := by
  have h : ∀ v' w', RowX w' base v' (L ++ M) → w.grownBy w' v.ownBlock → wpList P ops Q rest (a.put o.dst v') w' := fun v' w' h1 h2 => by
    rcases ownsRow_forms h1 with ⟨rfl, _⟩ | ⟨g, cap, rfl⟩
    · exact h _ _ _ _ h1 h2
    · exact h _ _ _ _ h1 h2
  subst hP
  obtain ⟨i0, hi, hz0, hz1, hz2⟩ := info_parts infoRx
  obtain ⟨ad, cap, rfl, h1, h2, h0, hS⟩ := hM
  cases ad with
  | none =>
    have e0 := h0 rfl
    subst e0
    have hM0 : M = [] := List.eq_nil_of_length_eq_zero (by omega)
    subst hM0
    refine wpList_append_own_none hgd s x 22 ho base 73 i0 5 Tryz.underlying22 hi v L.length (rxCells L) hs hown hx (h v w ?_ ⟨rfl, rfl, rfl, Nat.le_refl _, fun _ _ _ => rfl⟩)
    rw [List.append_nil]
    exact hown
  | some ad =>
    obtain ⟨b, off, spot⟩ := ad
    have hnews : ∀ j z, (rxCells M)[j]? = some z → w.cell? ((⟨b, off, spot⟩ : Addr).add j) = some z := by
      by_cases hm : 0 < M.length
      · obtain ⟨b', off', e, _⟩ := hS.2 hm
        simp only [Option.some.injEq, Addr.mk.injEq] at e
        obtain ⟨rfl, rfl, rfl⟩ := e
        exact hS.news
      · have hM0 : M = [] := List.eq_nil_of_length_eq_zero (by omega)
        subst hM0
        intro j z hz
        simp [rxCells] at hz
    refine wpList_append_own w hgd s x 22 ho base 73 i0 _ 5 40 Tryz.underlying22 hi hz0 hz1 hz2 rfl (by decide) v L.length (rxCells L) hs hown ⟨b, off, spot⟩ M.length cap (rxCells M) hx (rxCells_len M) hnews (fun z hz => rxCells_one hz) (by unfold maxLen; omega) (by omega) hbase fun v' w' h3 h4 _ => h v' w' (RowX.more h3) h4
set_option maxRecDepth 100000 in
/-- the closure of joined -/
theorem add_calls {C : Nat → Prop} (W : World) (B base : Nat) (v u : Value) (acc L : List Stp) (hv : Boxed W B 22 v) (hr : RowX W base v acc) (hB : B < base) (hbase : base ≤ W.heap.size) (hL : SlX C W u L) (hsz : acc.length + L.length ≤ 1000000) :
    Calls Tryz.prog 95 #[u, .pointer (some ⟨B, 0, none⟩)] W fun e w' => e = .returned (.tuple #[]) ∧ (∃ v', Boxed w' B 22 v' ∧ RowX w' base v' (acc ++ L)) ∧ Below B W w' ∧ base ≤ w'.heap.size := by
  have hc := hv.cell
  have hf := hv.frozen
  have HL := hidden hL
  have HR := hidden hr
  have HV := hidden hv
  clear hL hr hv
  go_enter Tryz.func95, Tryz.ntmps95
  go_wp2_with (at_builtin; refine append_rx rfl rfl _ _ rfl base _ _ acc L rfl HR.out rfl HL.out hsz hbase ?_; intro a' l' c' w1 hr1 hg1; have hv1 := HV.out.kept hg1 (HV.out.not_row (by decide) HR.out); have hc1 := hv1.cell; have hf1 := hv1.frozen)
  go_end0
  have hlow : ∀ j, v.ownBlock = some j → base ≤ j := fun j e => (HR.out.lt j e).1
  refine ⟨rfl, ⟨_, hv1.set _, ?_⟩, ?_, ?_⟩
  · exact World.ownsRow.kept hr1 (grownBy_setCell' w1 B _) (.inr (hv1.not_row (by decide) hr1).symm)
  · exact ((Below.refl B W).grown hg1 (Nat.le_trans (Nat.le_of_lt hB) hbase) fun j e => by have := hlow j e; omega).setCell (p := ⟨B, 0, none⟩) (Nat.le_refl _) _
  · have := hg1.size
    simpa [World.setCell] using Nat.le_trans hbase this

/-! ### lists of steps put behind one another -/
def jt (k : Int) : List (List Stp) → List Stp
  | [] => []
  | x :: r => x ++ [kStp k] ++ jt k r
def jn (k : Int) : List (List Stp) → List Stp
  | [] => []
  | x :: r => x ++ jt k r
theorem jt_append (k : Int) : ∀ a b, jt k (a ++ b) = jt k a ++ jt k b
  | [], b => rfl
  | x :: r, b => by simp [jt, jt_append k r b]
theorem take_moreL (R : List (List Stp)) (i : Nat) (h : i < R.length) : R.take (i + 1) = R.take i ++ [R.getD i []] := by
  rw [List.take_succ_eq_append_getElem h, List.getD_eq_getElem?_getD, List.getElem?_eq_getElem h]
  rfl
theorem jt_take (k : Int) (R : List (List Stp)) (i : Nat) (h : i < R.length) : jt k (R.take (i + 1)) = jt k (R.take i) ++ R.getD i [] ++ [kStp k] := by
  rw [take_moreL R i h, jt_append]
  simp [jt]
theorem jt_le (k : Int) (R : List (List Stp)) (i : Nat) : (jt k (R.take i)).length ≤ (jt k R).length := by
  have := jt_append k (R.take i) (R.drop i)
  rw [List.take_append_drop] at this
  rw [this]
  simp
theorem jt_room (k : Int) (R : List (List Stp)) (i : Nat) (h : i < R.length) : (jt k (R.take i)).length + (R.getD i []).length + 1 ≤ (jt k R).length := by
  have h1 := jt_le k R (i + 1)
  rw [jt_take k R i h] at h1
  simp only [List.length_append, List.length_cons, List.length_nil] at h1
  omega
theorem cell_lt1 {w : World} {b o : Nat} {v : Value} (h : w.cell? ⟨b, o, none⟩ = some v) : b < w.heap.size := cell_lt h
/-- the elements behind the first one, as a slice of their own -/
theorem rxss_tail {C : Nat → Prop} {w : World} {b off m cap : Nat} {x : List Stp} {R : List (List Stp)} (h : Rxss C w (some ⟨b, off, none⟩) m (x :: R)) (hcap : m ≤ cap) :
    m = R.length + 1 ∧ C b ∧ (∃ u, w.cell? ⟨b, off, none⟩ = some u ∧ SlX C w u x) ∧ (cap = 1 → Rxss C w (some ⟨b, off, none⟩) 0 R) ∧ Rxss C w (some ⟨b, off + 1, none⟩) (m - 1) R := by
  obtain ⟨hm, h2⟩ := h
  simp only [List.length_cons] at hm
  obtain ⟨b', off', e, hC, hc⟩ := h2 (by omega)
  simp only [Option.some.injEq, Addr.mk.injEq, and_true] at e
  obtain ⟨rfl, rfl⟩ := e
  refine ⟨hm.symm, hC, hc 0 (by omega), fun h1 => ⟨by omega, fun h => absurd h (by omega)⟩, by omega, fun _ => ⟨b, off + 1, rfl, hC, fun i hi => ?_⟩⟩
  have := hc (i + 1) (by omega)
  rw [show off + 1 + i = off + (i + 1) by omega]
  exact this
/-- what stays while joined goes on -/
def Jn (w : World) (B base : Nat) (acc : List Stp) (wr : World) : Prop := (∃ v, Boxed wr B 22 v ∧ RowX wr base v acc) ∧ Below B w wr ∧ base ≤ wr.heap.size
theorem add_jn {C : Nat → Prop} {w W : World} {B base : Nat} {u : Value} {acc L : List Stp} (h : Jn w B base acc W) (hB : B < base) (hL : SlX C W u L) (hsz : acc.length + L.length ≤ 1000000) :
    Calls Tryz.prog 95 #[u, .pointer (some ⟨B, 0, none⟩)] W fun e w' => e = .returned (.tuple #[]) ∧ Jn w B base (acc ++ L) w' := by
  obtain ⟨⟨v, h1, h2⟩, h3, h4⟩ := h
  refine (add_calls W B base v u acc L h1 h2 hB h4 hL hsz).mono ?_
  rintro e w' ⟨rfl, h5, h6, h7⟩
  exact ⟨rfl, h5, h3.trans h6, h7⟩
theorem Jn.alloc {w W : World} {B base : Nat} {acc : List Stp} (h : Jn w B base acc W) (hB : B < base) (o : Obj) : Jn w B base acc (W.alloc o) := by
  obtain ⟨⟨v, h1, h2⟩, h3, h4⟩ := h
  exact ⟨⟨v, h1.alloc o, World.ownsRow.alloc h2 o⟩, h3.alloc (by omega) o, by simp; omega⟩
theorem one_slX (w : World) (s : Stp) (b : Nat) (hb : b = w.heap.size) : SlX (fun _ => True) (w.alloc (.cells #[.int .i64 s.k, .int .u64 s.a, .int .u64 s.b, .int .u64 s.c, .int .u64 s.d] 73)) (.slice (some ⟨b, 0, none⟩) 1 1) [s] :=
  SlX.below (row_one w s b hb 0 (Nat.zero_le _)).reads fun _ _ => ⟨trivial, rfl⟩
set_option maxHeartbeats 4000000 in
set_option maxRecDepth 100000 in
theorem joined_calls {C : Nat → Prop} (w : World) (k : Int) (v : Value) (LL : List (List Stp)) (h : SlXs C w v LL) (hC : ∀ b, C b → b < w.heap.size) (hne : 0 < LL.length) (hsz : (jn k LL).length ≤ 1000000) :
    Calls Tryz.prog 68 #[v, .int .i64 k] w (RetX w (jn k LL)) := by
  obtain ⟨a, cap, rfl, h1, h2, hS⟩ := h
  obtain ⟨x, R, rfl⟩ : ∃ x R, LL = x :: R := by
    cases LL with
    | nil => simp at hne
    | cons x R => exact ⟨x, R, rfl⟩
  obtain ⟨b, off, rfl, hCb, _⟩ := hS.2 hne
  obtain ⟨m, hm⟩ : ∃ m, m = (x :: R).length := ⟨_, rfl⟩
  rw [← hm] at h1 hS hne ⊢
  obtain ⟨hmR, _, ⟨u, hu, hux⟩, t1, t2⟩ := rxss_tail hS h1
  have hsz' : x.length + (jt k R).length ≤ 1000000 := by simpa [jn] using hsz
  have hkeep : ∀ W, Below w.heap.size w W → ∀ c, C c → C c ∧ W.heap[c]? = w.heap[c]? := fun W hb c hc => ⟨hc, hb.block c (hC c hc)⟩
  have HK := hidden hkeep
  have hJ0 : Jn w w.heap.size (w.heap.size + 1) [] (w.alloc (.cells #[.slice none 0 0] 22)) :=
    ⟨⟨_, Boxed.new w _ _, RowX.nil _ _⟩, by go_grown, by simp⟩
  have HU := hidden hux
  have HJ := hidden hJ0
  have hCb' := hC b hCb
  clear hm hsz hJ0 hkeep hux
  unfold maxLen at h2
  have hcap1 : 1 ≤ m := by omega
  by_cases hc1 : cap = 1
  case pos =>
    obtain rfl : R = [] := List.eq_nil_of_length_eq_zero (by omega)
    have HT := hidden (t1 hc1)
    clear t1 t2 hS
    subst hc1
    go_enter Tryz.func68, Tryz.ntmps68
    go_wp2_with fail
    refine (add_jn HJ.out (Nat.lt_succ_self _) (HU.out.below fun c hc => ⟨hC c hc, (heap_alloc_old w _ (hC c hc))⟩) (by simp; omega)).mono ?_
    rintro e w1 ⟨rfl, hj⟩
    have HJ1 := hidden hj
    have hmm : ((m : Int) - 1).toNat = 0 := by simp at hmR; omega
    clear hj
    go_wp2
    go_loopw [18] (fun i wr => i = .int .i64 0 ∧ w1 = wr) (fun i _ => 0)
    case atStart => exact ⟨rfl, rfl⟩
    case round =>
      obtain ⟨rfl, rfl⟩ := hrel
      obtain ⟨⟨v, hv, hr⟩, hb, _⟩ := HJ1.out
      have hc := hv.cell
      have HR := hidden hr
      clear hr
      go_wp2
      go_ret
      exact ⟨v, rfl, by rw [jn, jt, List.append_nil]; exact HR.out.lower (Nat.le_succ _), hb⟩
  case neg =>
    have HT := hidden t2
    have hc2 : 1 < cap := by omega
    clear t1 t2 hS
    go_enter Tryz.func68, Tryz.ntmps68
    go_wp2_with fail
    refine (add_jn HJ.out (Nat.lt_succ_self _) (HU.out.below fun c hc => ⟨hC c hc, (heap_alloc_old w _ (hC c hc))⟩) (by simp; omega)).mono ?_
    rintro e w1 ⟨rfl, hj⟩
    have HJ1 := hidden hj
    have HT1 := hidden (HT.out.below (HK.out w1 hj.2.1))
    have hmm : ((m : Int) - 1).toNat = R.length := by omega
    have hmi : (m : Int) - 1 = R.length := by omega
    have hms : m - 1 = R.length := by omega
    clear hj
    go_wp2
    go_loopw [18] (fun i wr => ∃ j : Nat, j ≤ R.length ∧ i = .int .i64 j ∧ Jn w w.heap.size (w.heap.size + 1) (x ++ jt k (R.take j)) wr) (fun i _ => R.length - (intOf i).toNat)
    case atStart => exact ⟨0, by omega, rfl, by simpa [jt] using HJ1.out⟩
    case round =>
      obtain ⟨j, hj, rfl, hjn⟩ := hrel
      have HJ2 := hidden hjn
      clear hjn
      by_cases hlt : j < R.length
      · obtain ⟨b', off', e, _, hc⟩ := HT1.out.2 (by omega)
        simp only [Option.some.injEq, Addr.mk.injEq, and_true] at e
        obtain ⟨rfl, rfl⟩ := e
        obtain ⟨y, hy, hyx⟩ := hc j (by omega)
        have hy' : wr.cell? ⟨b, off + 1 + j, none⟩ = some y := (HJ2.out.2.1.cell (p := ⟨b, off + 1 + j, none⟩) hCb').trans ((HJ1.out.2.1.cell (p := ⟨b, off + 1 + j, none⟩) hCb').symm.trans hy)
        have hroom := jt_room k R j hlt
        have HN := hidden (jt_take k R j hlt)
        have HY := hidden (hyx.below (w' := wr) (C' := fun _ => True) fun c hc => ⟨trivial, ((HK.out wr HJ2.out.2.1 c hc).2).trans ((HK.out w1 HJ1.out.2.1 c hc).2).symm⟩)
        clear hc hyx hy
        go_wp2_with fail
        refine (add_jn HJ2.out (Nat.lt_succ_self _) HY.out (by rw [List.length_append]; omega)).mono ?_
        rintro e w2 ⟨rfl, hj2⟩
        have HJ3 := hidden hj2
        clear hj2
        go_wp2_with fail
        refine (add_jn (HJ3.out.alloc (Nat.lt_succ_self _) _) (Nat.lt_succ_self _) (one_slX w2 (kStp k) _ rfl) (by rw [List.length_append, List.length_append]; show _ + 1 ≤ _; omega)).mono ?_
        rintro e w3 ⟨rfl, hj3⟩
        have HJ4 := hidden hj3
        clear hj3
        go_wp2
        go_roundw
        case rel => exact ⟨j + 1, by omega, by go_num, by rw [HN.out, ← List.append_assoc, ← List.append_assoc]; exact HJ4.out⟩
        case measure => simp [intOf]; omega
      · obtain rfl : j = R.length := by omega
        obtain ⟨⟨v, hv, hr⟩, hb, _⟩ := HJ2.out
        have hc := hv.cell
        rw [List.take_length] at hr
        have HR := hidden hr
        clear hr
        go_wp2
        go_ret
        exact ⟨v, rfl, HR.out.lower (Nat.le_succ _), hb⟩
end Go.Proofs.YthkboclooplpeaaGreatDoor
