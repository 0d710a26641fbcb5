/- FaRdC, RxMake, RxJoin, put together. -/
import Derived.Test.YtbokhofdgdcpdaaDoorFu01
import Derived.Test.YtbokhofdgdcpdaaDoorFu08
import Derived.RangeFuncBox
import Derived.Laws.AppendOwnNone
/- The reference's reader: a byte that stands for itself. -/
namespace Go.Proofs.YtbokhofdgdcpdaaDoor
open Go.RowKit

def txt (l : List UInt8) : ByteArray := ⟨l.toArray⟩
theorem txt_list (s : ByteArray) : txt s.data.toList = s := rfl
theorem list_txt (l : List UInt8) : (txt l).data.toList = l := rfl
theorem txt_size (l : List UInt8) : (txt l).size = l.length := rfl
def vis (n : Nat) : Bool := decide (32 < n) && decide (n ≤ 126)
theorem toNat_ne {c d : UInt8} (h : c ≠ d) : ((c.toNat : Int) == (d.toNat : Int)) = false := by
  rw [Bool.eq_false_iff]
  intro e
  rw [beq_iff_eq] at e
  exact h (UInt8.toNat_inj.1 (by omega))
theorem drop_at {s : ByteArray} {k : Nat} {c : UInt8} {r : List UInt8} (h : s.data.toList.drop k = c :: r) : (∃ hp : k < s.size, s[k]'hp = c) ∧ s.data.toList.drop (k + 1) = r ∧ r.length + k + 1 = s.size := by
  have hl : k < s.data.toList.length := by
    rcases Nat.lt_or_ge k s.data.toList.length with g | g
    · exact g
    · rw [List.drop_eq_nil_of_le g] at h
      cases h
  have hs : s.data.toList.length = s.size := by simp
  rw [List.drop_eq_getElem_cons hl] at h
  obtain ⟨h1, h2⟩ := List.cons.inj h
  refine ⟨⟨by omega, ?_⟩, h2, ?_⟩
  · rw [← h1]
    rfl
  · rw [← h2, List.length_drop]
    omega
theorem drop_nil {s : ByteArray} {k : Nat} (h : s.data.toList.drop k = []) : s.size ≤ k := by
  have := List.drop_eq_nil_iff.1 h
  simpa using this
/-- the byte at a place, as a number -/
theorem num_at {s : ByteArray} {k : Nat} {c : UInt8} (h : ∃ hp : k < s.size, s[k]'hp = c) : ∃ hp : k < s.size, ((s[k]'hp).toNat : Int) = (c.toNat : Int) := by
  obtain ⟨hp, e⟩ := h
  exact ⟨hp, by rw [e]⟩

set_option maxRecDepth 100000 in
theorem seen_calls (n : Nat) (w : World) : Calls Tryd.prog 116 #[.int .u8 n] w fun e w' => e = .returned (.bool (vis n)) ∧ w = w' := by
  have hv : vis n = (decide (32 < n) && decide (n ≤ 126)) := rfl
  have HV := hidden hv
  clear hv
  by_cases h1 : 32 < n
  · have d1 : decide ((33 : Int) ≤ n) = true := decide_eq_true (by omega)
    rw [decide_eq_true h1, Bool.true_and] at HV
    have d2 : decide ((n : Int) ≤ 126) = decide (n ≤ 126) := by simp; omega
    generalize decide (n ≤ 126) = c at *
    go_enter Tryd.func116, Tryd.ntmps116
    go_wp2
    go_ret
    exact ⟨ret_b HV.out.symm, rfl⟩
  · have d1 : decide ((33 : Int) ≤ n) = false := decide_eq_false (by omega)
    rw [decide_eq_false h1, Bool.false_and] at HV
    go_enter Tryd.func116, Tryd.ntmps116
    go_wp2
    go_ret
    exact ⟨ret_b HV.out.symm, rfl⟩
set_option maxHeartbeats 2000000 in
set_option maxRecDepth 100000 in
theorem in_calls (R : List UInt8) (c : UInt8) (w : World) (hR : R.length ≤ 1000) : Calls Tryd.prog 102 #[.string (txt R), .int .u8 (c.toNat : Int)] w fun e w' => e = .returned (.bool (decide (c ∈ R))) ∧ w = w' := by
  obtain ⟨s, hs⟩ : ∃ s, s = txt R := ⟨_, rfl⟩
  have hL : s.data.toList = R := by rw [hs]; rfl
  have hsz : s.size ≤ 1000 := by rw [hs, txt_size]; exact hR
  have HRes := hidden (fun (b : Bool) (h : (c ∈ R) ↔ b = true) => (show decide (c ∈ R) = b by cases b <;> simp_all))
  rw [← hs]
  have hne : ∀ d : UInt8, d ≠ c → (((d.toNat : Int)) == (c.toNat : Int)) = false := fun d h => toNat_ne h
  have HNE := hidden hne
  have HL := hidden hL
  obtain ⟨n, hn⟩ : ∃ n : Int, n = (c.toNat : Int) := ⟨_, rfl⟩
  rw [← hn] at HNE ⊢
  have HN := hidden hn
  clear hs hL hR hne hn
  go_enter Tryd.func102, Tryd.ntmps102
  go_wp2
  go_loop [5] (fun i => ∃ k : Nat, k ≤ s.size ∧ i = .int .i64 k ∧ Hid ((c ∈ R) ↔ c ∈ R.drop k)) (fun i => s.size - (RowKit.intOf i).toNat)
  case atStart => exact ⟨0, by omega, rfl, hidden Iff.rfl⟩
  case round =>
    obtain ⟨k, hk, rfl, hm⟩ := hrel
    match hd : R.drop k with
    | [] =>
      rw [← HL.out] at hd
      have h0 := drop_nil hd
      have q0 : decide ((k : Int) < s.size) = false := decide_eq_false (by omega)
      have HF := hidden (HRes.out false (by rw [hm.out, ← HL.out, hd]; simp))
      clear hm hd
      go_wp2
      go_ret
      exact ⟨ret_b HF.out.symm, rfl⟩
    | d :: t =>
      have hd2 := hd
      rw [← HL.out] at hd2
      obtain ⟨h1, h2, h3⟩ := drop_at hd2
      obtain ⟨hp, hx⟩ := num_at h1
      have q0 : decide ((k : Int) < s.size) = true := decide_eq_true (by omega)
      have hadd : IntKind.i64.wrap ((k : Int) + 1) = (k : Int) + 1 := by rw [IntKind.wrap_i64]; omega
      by_cases hdc : d = c
      · have HF := hidden (HRes.out true (by rw [hm.out, hd, hdc]; simp))
        have q1 : ((d.toNat : Int) == n) = true := by rw [hdc, HN.out]; simp
        generalize (d.toNat : Int) = m at *
        clear hm hd hd2 h1 h2 h3 hdc
        go_wp2
        go_ret
        exact ⟨ret_b HF.out.symm, rfl⟩
      · have HM := hidden (show (c ∈ R) ↔ c ∈ R.drop (k + 1) by
          rw [hm.out, hd, ← HL.out, h2]
          simp [Ne.symm hdc])
        have q1 := HNE.out d hdc
        generalize (d.toNat : Int) = m at *
        clear hm hd hd2 h1 h2 hdc
        go_wp2
        go_round
        case rel => exact ⟨k + 1, by omega, by go_num, HM⟩
        case measure => simp [RowKit.intOf]; omega
/-- the byte of a text at a place -/
def At (s : ByteArray) (p : Nat) (c : UInt8) : Prop := ∃ hp : p < s.size, ((s[p]'hp).toNat : Int) = (c.toNat : Int)
theorem byte_ne {c d : UInt8} (h : c ≠ d) : ((c.toNat : Int) == (d.toNat : Int)) = false := toNat_ne h
set_option maxRecDepth 100000 in
theorem rchar_at (s : ByteArray) (p : Nat) (c : UInt8) (R : List UInt8) (w : World) (hat : At s p c) (hs : s.size ≤ 1000) (hR : R.length ≤ 1000) (hv : vis c.toNat = true) (h92 : c ≠ 92) (hin : c ∉ R) :
    Calls Tryd.prog 110 #[.string s, .int .i64 (p : Int), .string (txt R)] w fun e w' => e = .returned (.tuple #[.int .u8 (c.toNat : Int), .int .i64 ((p + 1 : Nat) : Int), .bool true]) ∧ w = w' := by
  obtain ⟨hp, hx⟩ := hat
  have hI := fun w => in_calls R c w hR
  simp only [decide_eq_false hin] at hI
  have HI := hidden hI
  have hV := fun w => seen_calls c.toNat w
  simp only [hv] at hV
  have HV := hidden hV
  have q0 : decide ((s.size : Int) ≤ (p : Int)) = false := decide_eq_false (by omega)
  have q0' : decide (s.size ≤ p) = false := decide_eq_false (by omega)
  have q1 : ((c.toNat : Int) == 92) = false := toNat_ne (d := 92) h92
  have hadd : IntKind.i64.wrap ((p : Int) + 1) = ((p + 1 : Nat) : Int) := by rw [IntKind.wrap_i64]; omega
  generalize (c.toNat : Int) = n at *
  generalize txt R = T at *
  clear hI hV hv hin h92
  go_enter Tryd.func110, Tryd.ntmps110
  go_wp2_with fail
  refine (HV.out _).mono ?_
  rintro e w1 ⟨rfl, rfl⟩
  go_wp2_with fail
  refine (HI.out _).mono ?_
  rintro e w1 ⟨rfl, rfl⟩
  go_wp2
  go_ret3
  exact ⟨rfl, rfl⟩
end Go.Proofs.YtbokhofdgdcpdaaDoor

/- Contracts of what makes one step: step, Set, Empty, the reference's Set and Empty. -/
namespace Go.Proofs.YtbokhofdgdcpdaaDoor
open Go.RowKit

theorem row_one (w : World) (s : Stp) (b : Nat) (hb : b = w.heap.size) (base : Nat) (h : base ≤ w.heap.size) : RowX (w.alloc (.cells #[.int .i64 s.k, .int .u64 s.a, .int .u64 s.b, .int .u64 s.c, .int .u64 s.d] 67)) base (.slice (some ⟨b, 0, none⟩) 1 1) [s] := by
  subst hb
  exact World.ownsRow_lit (e := 67) (size := 5) w _ 1 h (by decide) rfl
theorem rset_rx (a b c d : Int) (w : World) : Calls Tryd.prog 61 #[.agg #[.int .u64 a, .int .u64 b, .int .u64 c, .int .u64 d]] w (RetX w [⟨1, a, b, c, d⟩]) := by
  go_enter Tryd.func61, Tryd.ntmps61
  go_wp2
  go_ret
  exact ⟨_, rfl, row_one _ ⟨1, a, b, c, d⟩ _ (by simp) _ (by simp), by go_grown⟩
theorem rempty_rx (w : World) : Calls Tryd.prog 59 #[] w (RetX w [kStp 2]) := by
  go_enter Tryd.func59, Tryd.ntmps59
  go_wp2
  go_ret
  exact ⟨_, rfl, row_one w (kStp 2) _ rfl _ (Nat.le_refl _), by go_grown⟩
end Go.Proofs.YtbokhofdgdcpdaaDoor

/- Lists of lists of steps; contracts of what joins them: the closure of joined, joined, the reference's many. -/
namespace Go.Proofs.YtbokhofdgdcpdaaDoor
open Go.RowKit Go.Lib Go.Joins

/-- a slice of slices of steps that reads as a list of lists; all blocks meet C -/
def Rxss (C : Nat → Prop) (w : World) (a : Option Addr) (len : Nat) (LL : List (List Stp)) : Prop :=
  LL.length = len ∧ (0 < len → ∃ b off, a = some ⟨b, off, none⟩ ∧ C b ∧ ∀ i, i < len → ∃ v, w.cell? ⟨b, off + i, none⟩ = some v ∧ SlX C w v (LL.getD i []))
def SlXs (C : Nat → Prop) (w : World) (v : Value) (LL : List (List Stp)) : Prop := ∃ a cap, v = .slice a LL.length cap ∧ LL.length ≤ cap ∧ cap ≤ maxLen ∧ Rxss C w a LL.length LL
theorem Rxss.below {C C' : Nat → Prop} {w w' : World} {a : Option Addr} {len : Nat} {LL : List (List Stp)} (h : Rxss C w a len LL) (hb : ∀ b, C b → C' b ∧ w'.heap[b]? = w.heap[b]?) : Rxss C' w' a len LL := by
  refine ⟨h.1, fun hp => ?_⟩
  obtain ⟨b, off, e, hC, hc⟩ := h.2 hp
  refine ⟨b, off, e, (hb b hC).1, fun i hi => ?_⟩
  obtain ⟨v, h1, h2⟩ := hc i hi
  exact ⟨v, (World.cell?_of_block (a := ⟨b, off + i, none⟩) (hb b hC).2).trans h1, h2.below hb⟩
theorem SlXs.below {C C' : Nat → Prop} {w w' : World} {v : Value} {LL : List (List Stp)} (h : SlXs C w v LL) (hb : ∀ b, C b → C' b ∧ w'.heap[b]? = w.heap[b]?) : SlXs C' w' v LL := by
  obtain ⟨a, cap, rfl, h1, h2, hS⟩ := h
  exact ⟨a, cap, rfl, h1, h2, hS.below hb⟩

/-- an append to a row of the call's own, from wherever the steps lie -/
theorem append_rx {P : Program} {w : World} {ops : Array Oper} {rest : List Oper} {o : Oper} {a : Act} {Q : Exit → Act → World → Prop} (hP : P = Tryd.prog) (hgd : o.guard = none) (s x : Operand)
    (ho : o.op = .call { callee := .builtin .append, args := #[s, x], argTypes := #[22, 22] })
    (base : Nat) (v u : Value) (L M : List Stp) (hs : a.eval s = v) (hown : RowX w base v L) {C : Nat → Prop} (hx : a.eval x = u) (hM : SlX C w u M) (hsz : L.length + M.length ≤ 1000000) (hbase : base ≤ w.heap.size)
    (h : ∀ a' l' c' w', RowX w' base (.slice a' l' c') (L ++ M) → w.grownBy w' v.ownBlock → wpList P ops Q rest (a.put o.dst (.slice a' l' c')) w') : wpList P ops Q (o :: rest) a w := by
  have h : ∀ v' w', RowX w' base v' (L ++ M) → w.grownBy w' v.ownBlock → wpList P ops Q rest (a.put o.dst v') w' := fun v' w' h1 h2 => by
    rcases ownsRow_forms h1 with ⟨rfl, _⟩ | ⟨g, cap, rfl⟩
    · exact h _ _ _ _ h1 h2
    · exact h _ _ _ _ h1 h2
  subst hP
  obtain ⟨i0, hi, hz0, hz1, hz2⟩ := info_parts infoRx
  obtain ⟨ad, cap, rfl, h1, h2, h0, hS⟩ := hM
  cases ad with
  | none =>
    have e0 := h0 rfl
    subst e0
    have hM0 : M = [] := List.eq_nil_of_length_eq_zero (by omega)
    subst hM0
    refine wpList_append_own_none hgd s x 22 ho base 67 i0 5 Tryd.underlying22 hi v L.length (rxCells L) hs hown hx (h v w ?_ ⟨rfl, rfl, rfl, Nat.le_refl _, fun _ _ _ => rfl⟩)
    rw [List.append_nil]
    exact hown
  | some ad =>
    obtain ⟨b, off, spot⟩ := ad
    have hnews : ∀ j z, (rxCells M)[j]? = some z → w.cell? ((⟨b, off, spot⟩ : Addr).add j) = some z := by
      by_cases hm : 0 < M.length
      · obtain ⟨b', off', e, _⟩ := hS.2 hm
        simp only [Option.some.injEq, Addr.mk.injEq] at e
        obtain ⟨rfl, rfl, rfl⟩ := e
        exact hS.news
      · have hM0 : M = [] := List.eq_nil_of_length_eq_zero (by omega)
        subst hM0
        intro j z hz
        simp [rxCells] at hz
    refine wpList_append_own w hgd s x 22 ho base 67 i0 _ 5 40 Tryd.underlying22 hi hz0 hz1 hz2 rfl (by decide) v L.length (rxCells L) hs hown ⟨b, off, spot⟩ M.length cap (rxCells M) hx (rxCells_len M) hnews (fun z hz => rxCells_one hz) (by unfold maxLen; omega) (by omega) hbase fun v' w' h3 h4 _ => h v' w' (RowX.more h3) h4
/-! ### lists of steps put behind one another -/
def jt (k : Int) : List (List Stp) → List Stp
  | [] => []
  | x :: r => x ++ [kStp k] ++ jt k r
def jn (k : Int) : List (List Stp) → List Stp
  | [] => []
  | x :: r => x ++ jt k r
theorem jt_append (k : Int) : ∀ a b, jt k (a ++ b) = jt k a ++ jt k b
  | [], b => rfl
  | x :: r, b => by simp [jt, jt_append k r b]
theorem take_moreL (R : List (List Stp)) (i : Nat) (h : i < R.length) : R.take (i + 1) = R.take i ++ [R.getD i []] := by
  rw [List.take_succ_eq_append_getElem h, List.getD_eq_getElem?_getD, List.getElem?_eq_getElem h]
  rfl
theorem jt_take (k : Int) (R : List (List Stp)) (i : Nat) (h : i < R.length) : jt k (R.take (i + 1)) = jt k (R.take i) ++ R.getD i [] ++ [kStp k] := by
  rw [take_moreL R i h, jt_append]
  simp [jt]
theorem jt_le (k : Int) (R : List (List Stp)) (i : Nat) : (jt k (R.take i)).length ≤ (jt k R).length := by
  have := jt_append k (R.take i) (R.drop i)
  rw [List.take_append_drop] at this
  rw [this]
  simp
theorem jt_room (k : Int) (R : List (List Stp)) (i : Nat) (h : i < R.length) : (jt k (R.take i)).length + (R.getD i []).length + 1 ≤ (jt k R).length := by
  have h1 := jt_le k R (i + 1)
  rw [jt_take k R i h] at h1
  simp only [List.length_append, List.length_cons, List.length_nil] at h1
  omega
theorem cell_lt1 {w : World} {b o : Nat} {v : Value} (h : w.cell? ⟨b, o, none⟩ = some v) : b < w.heap.size := cell_lt h
/-- the elements behind the first one, as a slice of their own -/
theorem rxss_tail {C : Nat → Prop} {w : World} {b off m cap : Nat} {x : List Stp} {R : List (List Stp)} (h : Rxss C w (some ⟨b, off, none⟩) m (x :: R)) (hcap : m ≤ cap) :
    m = R.length + 1 ∧ C b ∧ (∃ u, w.cell? ⟨b, off, none⟩ = some u ∧ SlX C w u x) ∧ (cap = 1 → Rxss C w (some ⟨b, off, none⟩) 0 R) ∧ Rxss C w (some ⟨b, off + 1, none⟩) (m - 1) R := by
  obtain ⟨hm, h2⟩ := h
  simp only [List.length_cons] at hm
  obtain ⟨b', off', e, hC, hc⟩ := h2 (by omega)
  simp only [Option.some.injEq, Addr.mk.injEq, and_true] at e
  obtain ⟨rfl, rfl⟩ := e
  refine ⟨hm.symm, hC, hc 0 (by omega), fun h1 => ⟨by omega, fun h => absurd h (by omega)⟩, by omega, fun _ => ⟨b, off + 1, rfl, hC, fun i hi => ?_⟩⟩
  have := hc (i + 1) (by omega)
  rw [show off + 1 + i = off + (i + 1) by omega]
  exact this
theorem one_slX (w : World) (s : Stp) (b : Nat) (hb : b = w.heap.size) : SlX (fun _ => True) (w.alloc (.cells #[.int .i64 s.k, .int .u64 s.a, .int .u64 s.b, .int .u64 s.c, .int .u64 s.d] 67)) (.slice (some ⟨b, 0, none⟩) 1 1) [s] :=
  SlX.below (row_one w s b hb 0 (Nat.zero_le _)).reads fun _ _ => ⟨trivial, rfl⟩
end Go.Proofs.YtbokhofdgdcpdaaDoor
