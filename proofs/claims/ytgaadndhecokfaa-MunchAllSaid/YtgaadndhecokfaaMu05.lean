/- ZMany, ZApp, Two, RxMath, put together. -/
import Derived.Test.YtgaadndhecokfaaMu04
import Derived.Laws.OwnMore
import Derived.Lib.SmallJoins
import Derived.Laws.AppendOwn
import Derived.Laws.Rows
import Derived.Laws.AppendOwnNone
import Derived.Test.YtgaadndhecokfaaMu03
import Derived.Test.YtgaadndhecokfaaMu01
/- Slices of numbers: what they read as; rows of the call's own; contracts of the reference's Has, Right and Same. -/
namespace Go.Proofs.Ytgaadndhecokfaa
open Go.RowKit Go.Lib Go.Joins

set_option maxHeartbeats 2000000 in
set_option maxRecDepth 100000 in
theorem has11_calls {B : Nat} (w : World) (v : Value) (l : List Int) (n : Int) (h : RdZ B w v l) : Calls Try.prog 41 #[v, .int .i64 n] w fun e w' => e = .returned (.bool (decide (n ∈ l))) ∧ Below w.heap.size w w' := by
  obtain ⟨a, cap, rfl, h1, h2, _, h4⟩ := h
  have HR := hidden (fun (b : Bool) (h : (n ∈ l) ↔ b = true) => (show decide (n ∈ l) = b by cases b <;> simp_all))
  have HD := hidden (fun i hi => mem_drop l n i hi)
  have HE := hidden (fun i (hi : l.length ≤ i) => (show ¬ n ∈ l.drop i by rw [List.drop_eq_nil_of_le hi]; simp))
  have H4 := hidden h4
  obtain ⟨m, hm⟩ : ∃ m, m = l.length := ⟨_, rfl⟩
  rw [← hm] at HD HE H4 h1 ⊢
  unfold maxLen at h2
  clear h4 hm
  go_enter Try.func41, Try.ntmps41
  go_wp2
  go_loopw [5] (fun i wr => ∃ k : Nat, k ≤ m ∧ i = .int .i64 k ∧ Hid ((n ∈ l) ↔ n ∈ l.drop k) ∧ Below w.heap.size w wr) (fun i _ => m - (Go.RowKit.intOf i).toNat)
  case atStart => exact ⟨0, by omega, rfl, hidden (by simp), Below.refl _ _⟩
  case round =>
    obtain ⟨k, hk, rfl, hd, hb⟩ := hrel
    have HB := hidden hb
    by_cases hlt : k < m
    · obtain ⟨b, off, rfl, hbB, hc⟩ := H4.out (by omega)
      have c1 := (hb.cell (p := ⟨b, off + k, none⟩) (cell_lt (hc k hlt))).trans (hc k hlt)
      have HK := hidden (HD.out k hlt)
      clear hc hb
      by_cases he : l.getD k 0 = n
      · have HF := hidden (HR.out true (by rw [hd.out, HK.out]; exact iff_of_true (.inl he.symm) rfl))
        rw [he] at c1
        have hq : (n == n) = true := by simp
        clear he HK hd
        go_wp2
        go_ret
        exact ⟨ret_b HF.out.symm, HB.out⟩
      · have HF := hidden (show (n ∈ l) ↔ n ∈ l.drop (k + 1) by rw [hd.out, HK.out]; exact ⟨fun h => h.resolve_left (Ne.symm he), .inr⟩)
        have hq : (l.getD k 0 == n) = false := by simpa using he
        generalize l.getD k 0 = x at *
        clear he HK hd
        go_wp2
        go_roundw
        case rel => exact ⟨k + 1, by omega, by go_num, HF, HB.out⟩
        case measure => simp [Go.RowKit.intOf]; omega
    · have HF := hidden (HR.out false (by rw [hd.out]; simp [HE.out k (by omega)]))
      clear hd
      go_wp2
      go_ret
      exact ⟨ret_b HF.out.symm, HB.out⟩
/-- does a list rise? -/
def upB (l : List Int) : Bool := decide (Up l)
theorem up_idx : ∀ l : List Int, (∀ i, i + 1 < l.length → l.getD i 0 < l.getD (i + 1) 0) ↔ Up l
  | [] => by simp [Up]
  | [x] => by simp [Up]
  | x :: y :: l => by
    have ih := up_idx (y :: l)
    rw [up_cons, ← ih]
    constructor
    · intro h
      have h2 : ∀ i, i + 1 < (y :: l).length → (y :: l).getD i 0 < (y :: l).getD (i + 1) 0 := fun i hi => by
        have := h (i + 1) (by simp only [List.length_cons] at hi ⊢; omega)
        simpa using this
      have hy := h 0 (by simp)
      have hu := up_cons.1 (ih.1 h2)
      refine ⟨fun z hz => ?_, h2⟩
      have hxy : x < y := by simpa using hy
      rcases List.mem_cons.1 hz with rfl | hz
      · exact hxy
      · have := hu.1 z hz
        omega
    · rintro ⟨h1, h2⟩ i hi
      cases i with
      | zero => simpa using h1 y (by simp)
      | succ i =>
        have := h2 i (by simp only [List.length_cons] at hi ⊢; omega)
        simpa using this
/-- 'rises' as both texts go through it -/
theorem up_false {l : List Int} {k : Nat} (hk : 0 < k) (hl : k < l.length) (h : l.getD k 0 ≤ l.getD (k - 1) 0) : upB l = false := by
  unfold upB
  refine decide_eq_false fun hc => ?_
  have := (up_idx l).2 hc (k - 1) (by omega)
  rw [show k - 1 + 1 = k by omega] at this
  omega
theorem up_true {l : List Int} (h : ∀ i, i + 1 < l.length → l.getD i 0 < l.getD (i + 1) 0) : upB l = true := decide_eq_true ((up_idx l).1 h)
set_option maxHeartbeats 2000000 in
set_option maxRecDepth 100000 in
theorem rright_calls {B : Nat} (w : World) (v : Value) (l : List Int) (h : RdZ B w v l) : Calls Try.prog 70 #[v] w fun e w' => e = .returned (.bool (upB l)) ∧ Below w.heap.size w w' := by
  obtain ⟨a, cap, rfl, h1, h2, _, h4⟩ := h
  have HT := hidden (fun (h : ∀ i, i + 1 < l.length → l.getD i 0 < l.getD (i + 1) 0) => up_true h)
  have HF := hidden (fun k (hk : 0 < k) (hl : k < l.length) h => up_false (l := l) hk hl h)
  have H4 := hidden h4
  obtain ⟨m, hm⟩ : ∃ m, m = l.length := ⟨_, rfl⟩
  rw [← hm] at HT HF H4 h1 ⊢
  unfold maxLen at h2
  generalize upB l = ub at *
  clear h4 hm
  go_enter Try.func70, Try.ntmps70
  go_wp2
  go_loopw [3] (fun i wr => ∃ k : Nat, 0 < k ∧ (k ≤ m ∨ k = 1) ∧ i = .int .i64 k ∧ Hid (∀ i, i + 1 < k → l.getD i 0 < l.getD (i + 1) 0) ∧ Below w.heap.size w wr) (fun i _ => m - (Go.RowKit.intOf i).toNat)
  case atStart => exact ⟨1, by omega, .inr rfl, rfl, hidden (fun i hi => by omega), Below.refl _ _⟩
  case round =>
    obtain ⟨k, hk0, hk, rfl, hd, hb⟩ := hrel
    have HB := hidden hb
    by_cases hlt : k < m
    · obtain ⟨b, off, rfl, hbB, hc⟩ := H4.out (by omega)
      have c1 := (hb.cell (p := ⟨b, off + k, none⟩) (cell_lt (hc k hlt))).trans (hc k hlt)
      have c0 := (hb.cell (p := ⟨b, off + (k - 1), none⟩) (cell_lt (hc (k - 1) (by omega)))).trans (hc (k - 1) (by omega))
      have hw : IntKind.i64.wrap ((k : Int) - 1) = ((k - 1 : Nat) : Int) := by rw [IntKind.wrap_i64]; omega
      have hkm : k - 1 < m := by omega
      clear hc hb
      by_cases he : l.getD (k - 1) 0 < l.getD k 0
      · have HN := hidden (show ∀ i, i + 1 < k + 1 → l.getD i 0 < l.getD (i + 1) 0 from fun i hi => by
          by_cases e : i + 1 < k
          · exact hd.out i e
          · obtain rfl : k = i + 1 := by omega
            exact he)
        have hq : decide (l.getD k 0 ≤ l.getD (k - 1) 0) = false := decide_eq_false (by omega)
        generalize l.getD k 0 = x at *
        generalize l.getD (k - 1) 0 = y at *
        generalize hk1 : k - 1 = k1 at *
        have HL := hidden hlt
        clear he hd hk hk1
        go_wp2
        first | go_region | skip
        all_goals
          have hlt' := HL.out
          go_wp2
          go_roundw
          case rel => exact ⟨k + 1, by omega, .inl (by omega), by go_num, HN, by first | exact HB.out | exact HB.out.drew⟩
          case measure => simp [Go.RowKit.intOf]; omega
      · have HN := hidden (HF.out k hk0 hlt (by omega))
        have hq : decide (l.getD k 0 ≤ l.getD (k - 1) 0) = true := decide_eq_true (by omega)
        generalize l.getD k 0 = x at *
        generalize l.getD (k - 1) 0 = y at *
        generalize hk1 : k - 1 = k1 at *
        clear he hd hk hk1
        go_wp2
        first | go_region | skip
        all_goals
          go_wp2
          go_ret
          exact ⟨ret_b HN.out.symm, by first | exact HB.out | exact HB.out.drew⟩
    · have HN := hidden (HT.out fun i hi => hd.out i (by omega))
      clear hd hk
      go_wp2
      go_ret
      exact ⟨ret_b HN.out.symm, HB.out⟩
set_option maxHeartbeats 4000000 in
set_option maxRecDepth 100000 in
theorem rsame_calls {B : Nat} {va vb : Value} {l m : List Int} {w : World} (ha : RdZ B w va l) (hb : RdZ B w vb m) :
    Calls Try.prog 55 #[va, vb] w fun e w' => e = .returned (.bool (decide (l = m))) ∧ Below w.heap.size w w' := by
  obtain ⟨a, ca, rfl, _, hmx, _, h1⟩ := ha
  obtain ⟨b, cb, rfl, _, hmy, _, h2⟩ := hb
  have hlx : l.length ≤ maxLen := by omega
  unfold maxLen at hlx
  clear hmx hmy
  by_cases hne : l.length = m.length
  · have HR := hidden (fun (x : Bool) (h : (l = m) ↔ x = true) => (show decide (l = m) = x by cases x <;> simp_all))
    have HD := hidden (fun k hk => drop_eqZ k hk hne)
    have HEnd := hidden (fun k (hk : l.length ≤ k) => (show l.drop k = m.drop k by rw [List.drop_eq_nil_of_le hk, List.drop_eq_nil_of_le (by omega)]))
    have H1 := hidden h1
    rw [← hne] at h2
    have H2 := hidden h2
    rw [← hne]
    obtain ⟨n, hn⟩ : ∃ n, n = l.length := ⟨_, rfl⟩
    rw [← hn] at HD HEnd H1 H2 hlx ⊢
    have hq : ((n : Int) != (n : Int)) = false := by simp
    clear h1 h2 hn hne
    go_enter Try.func55, Try.ntmps55
    go_wp2
    go_loopw [5] (fun i wr => ∃ k : Nat, k ≤ n ∧ i = .int .i64 k ∧ Hid ((l = m) ↔ l.drop k = m.drop k) ∧ Below w.heap.size w wr) (fun i _ => n - (Go.RowKit.intOf i).toNat)
    case atStart => exact ⟨0, by omega, rfl, hidden (by simp), Below.refl _ _⟩
    case round =>
      obtain ⟨k, hk, rfl, hd, hb⟩ := hrel
      have HB := hidden hb
      by_cases hlt : k < n
      · obtain ⟨ba, oa, rfl, la, c1⟩ := H1.out (by omega)
        obtain ⟨bb, ob, rfl, lb, c2⟩ := H2.out (by omega)
        have d1 := (hb.cell (p := ⟨ba, oa + k, none⟩) (cell_lt (c1 k hlt))).trans (c1 k hlt)
        have d2 := (hb.cell (p := ⟨bb, ob + k, none⟩) (cell_lt (c2 k hlt))).trans (c2 k hlt)
        have HK := hidden (HD.out k hlt)
        clear c1 c2 hb
        by_cases he : l.getD k 0 = m.getD k 0
        · have HE := hidden (show (l = m) ↔ l.drop (k + 1) = m.drop (k + 1) by rw [hd.out, HK.out]; exact ⟨fun h => h.2, fun h => ⟨he, h⟩⟩)
          rw [he] at d1
          generalize m.getD k 0 = x at *
          have hq : (x != x) = false := by simp
          clear he HK hd
          go_wp2
          go_region
          all_goals
            go_wp2
            go_roundw
            case rel => exact ⟨k + 1, by omega, by go_num, HE, HB.out.drew⟩
            case measure => simp [Go.RowKit.intOf]; omega
        · have HE := hidden (HR.out false (by rw [hd.out, HK.out]; exact ⟨fun h => absurd h.1 he, fun h => by cases h⟩))
          have hq : (l.getD k 0 != m.getD k 0) = true := bne_iff_ne.2 he
          generalize l.getD k 0 = x at *
          generalize m.getD k 0 = y at *
          clear he HK hd
          go_wp2
          go_region
          all_goals
            go_wp2
            go_ret
            exact ⟨ret_b HE.out.symm, HB.out.drew⟩
      · have HE := hidden (HR.out true (by rw [hd.out]; simp [HEnd.out k (by omega)]))
        clear hd
        go_wp2
        go_ret
        exact ⟨ret_b HE.out.symm, HB.out⟩
  · have HE := hidden (show decide (l = m) = false from decide_eq_false fun e => hne (by rw [e]))
    obtain ⟨n, hn⟩ : ∃ n, n = l.length := ⟨_, rfl⟩
    obtain ⟨k, hk⟩ : ∃ n, n = m.length := ⟨_, rfl⟩
    rw [← hn, ← hk] at hne ⊢
    have hq : ((n : Int) != (k : Int)) = true := by simp; omega
    clear hn hk h1 h2 hne
    go_enter Try.func55, Try.ntmps55
    go_wp2
    go_ret
    exact ⟨ret_b HE.out.symm, Below.refl _ _⟩
end Go.Proofs.Ytgaadndhecokfaa

/- append of a whole list of numbers behind a list of the call's own. -/
namespace Go.Proofs.Ytgaadndhecokfaa
open Go.RowKit Go.Lib Go.Joins
theorem ints_one {l : List Int} {u : Value} (h : u ∈ l.map (Value.int .i64)) : u.oneCell' = true := by
  obtain ⟨x, _, rfl⟩ := List.mem_map.1 h
  rfl
theorem app_zz {w : World} {ops : Array Oper} {rest : List Oper} {o : Oper} {a : Act} {Q : Exit → Act → World → Prop} (hgd : o.guard = none) (s x : Operand)
    (ho : o.op = .call { callee := .builtin .append, args := #[s, x], argTypes := #[24, 24] }) {base B : Nat} {v u : Value} {l m : List Int}
    (hs : a.eval s = v) (hown : RowZ w base v l) (hx : a.eval x = u) (hM : RdZ B w u m) (hsz : l.length + m.length ≤ 1000000) (hb0 : base ≤ w.heap.size)
    (h : ∀ a' l' c' w', RowZ w' base (.slice a' l' c') (l ++ m) → w.grownBy w' v.ownBlock → Below base w w' → wpList Try.prog ops Q rest (a.put o.dst (.slice a' l' c')) w') : wpList Try.prog ops Q (o :: rest) a w := by
  have hlow : ∀ j, v.ownBlock = some j → base ≤ j := fun j e => (World.ownsRow.lt hown j e).1
  have h : ∀ v' w', RowZ w' base v' (l ++ m) → w.grownBy w' v.ownBlock → wpList Try.prog ops Q rest (a.put o.dst v') w' := fun v' w' h1 h2 => by
    obtain ⟨a', c', rfl⟩ := h1.form
    exact h _ _ _ _ h1 h2 ((Below.refl base w).grown h2 hb0 hlow)
  obtain ⟨i0, hi, hz0, hz1, hz2⟩ := info_parts infoInt
  obtain ⟨ad, cap, rfl, h1, h2, h0, hS⟩ := hM
  cases ad with
  | none =>
    have e0 := h0 rfl
    subst e0
    have hM0 : m = [] := List.eq_nil_of_length_eq_zero (by omega)
    subst hM0
    refine wpList_append_own_none hgd s x 24 ho base 3 i0 1 Try.underlying24 hi v l.length (l.map (Value.int .i64)) hs hown hx (h v w ?_ ⟨rfl, rfl, rfl, Nat.le_refl _, fun _ _ _ => rfl⟩)
    rw [List.append_nil]
    exact hown
  | some ad =>
    obtain ⟨b, off, spot⟩ := ad
    have hnews : ∀ j z, (m.map (Value.int .i64))[j]? = some z → w.cell? ((⟨b, off, spot⟩ : Addr).add j) = some z := by
      intro j z hz
      have hj : j < m.length := by
        have := (List.getElem?_eq_some_iff.1 hz).1
        simpa using this
      obtain ⟨b', off', e, _, hc⟩ := hS (by omega)
      simp only [Option.some.injEq, Addr.mk.injEq] at e
      obtain ⟨rfl, rfl, rfl⟩ := e
      rw [Addr.add_lit, hc j hj]
      rw [List.getElem?_map, List.getElem?_eq_getElem hj] at hz
      rw [List.getD_eq_getElem?_getD, List.getElem?_eq_getElem hj]
      exact hz
    refine wpList_append_own w hgd s x 24 ho base 3 i0 _ 1 8 Try.underlying24 hi hz0 hz1 hz2 rfl (by decide) v l.length (l.map (Value.int .i64)) hs hown ⟨b, off, spot⟩ m.length cap (m.map (Value.int .i64)) hx (by simp) hnews (fun z hz => ints_one hz) (by unfold maxLen; omega) (by omega) hb0 fun v' w' h3 h4 _ => h v' w' ?_ h4
    unfold RowZ
    rw [List.length_append, List.map_append]
    exact h3
end Go.Proofs.Ytgaadndhecokfaa

/- Blocks of two cells of any one-cell values (structs of two fields), and results that are such structs, with and without a plain result behind them. -/
namespace Go.Proofs.Ytgaadndhecokfaa
open Go.RowKit

/-- block B is a struct of two one-cell fields -/
def TwoAt (t : TypeId) (w : World) (B : Nat) (u v : Value) : Prop := w.heap[B]? = some (.cells #[u, v] t (0, 0))
theorem TwoAt.cell1 {t : TypeId} {w : World} {B : Nat} {u v : Value} (h : TwoAt t w B u v) : w.cell? ⟨B, 1, none⟩ = some v := cell_of_row w B 1 _ _ _ h
theorem TwoAt.lt {t : TypeId} {w : World} {B : Nat} {u v : Value} (h : TwoAt t w B u v) : B < w.heap.size := by
  rcases Nat.lt_or_ge B w.heap.size with hlt | hge
  · exact hlt
  · unfold TwoAt at h
    rw [Array.getElem?_eq_none hge] at h
    cases h
theorem TwoAt.kept {t : TypeId} {w w' : World} {B n : Nat} {u v : Value} (h : TwoAt t w B u v) (hb : Below n w w') (hB : B < n) : TwoAt t w' B u v := (hb.block B hB).trans h
theorem TwoAt.below {t : TypeId} {w w' : World} {B : Nat} {u v : Value} (h : TwoAt t w B u v) (hb : Below w.heap.size w w') : TwoAt t w' B u v := h.kept hb h.lt
theorem TwoAt.new (t : TypeId) (w : World) (u v : Value) : TwoAt t (w.alloc (.cells #[u, v] t)) w.heap.size u v := heap_alloc_new w _
theorem TwoAt.made {t : TypeId} {w : World} {u v : Value} {B : Nat} (h : B = w.heap.size) : TwoAt t (w.alloc (.cells #[u, v] t)) B u v := by
  subst h
  exact TwoAt.new t w u v
theorem TwoAt.alloc {t : TypeId} {w : World} {B : Nat} {u v : Value} (h : TwoAt t w B u v) (o : Obj) : TwoAt t (w.alloc o) B u v := (heap_alloc_old w _ h.lt).trans h
theorem TwoAt.stored0 {t : TypeId} {w : World} {B : Nat} {u v : Value} (h : TwoAt t w B u v) (u' : Value) : TwoAt t (w.setCell ⟨B, 0, none⟩ u') B u' v := heap_setCell_same _ B 0 _ _ _ h
theorem TwoAt.stored1 {t : TypeId} {w : World} {B : Nat} {u v : Value} (h : TwoAt t w B u v) (v' : Value) : TwoAt t (w.setCell ⟨B, 1, none⟩ v') B u v' := heap_setCell_same _ B 1 _ _ _ h
theorem TwoAt.stored {t : TypeId} {w : World} {B : Nat} {u v : Value} (h : TwoAt t w B u v) (u' v' : Value) : TwoAt t ((w.setCell ⟨B, 0, none⟩ u').setCell ⟨B, 1, none⟩ v') B u' v' := (h.stored0 u').stored1 v'
theorem TwoAt.other {t : TypeId} {w : World} {B b i : Nat} {x y : Value} (h : TwoAt t w B x y) (hne : B ≠ b) (v : Value) : TwoAt t (w.setCell ⟨b, i, none⟩ v) B x y := by
  unfold TwoAt at h ⊢
  rw [heap_setCell_other _ _ _ _ hne, h]
theorem TwoAt.drew {t : TypeId} {w : World} {B : Nat} {u v : Value} (h : TwoAt t w B u v) : TwoAt t w.drew B u v := h

end Go.Proofs.Ytgaadndhecokfaa

/- Lists of steps: what they come to, without the program. -/
namespace Go.Proofs.Ytgaadndhecokfaa

/-- one step: its kind, and the four words of its set -/
structure Stp where
  k : Int
  a : Int
  b : Int
  c : Int
  d : Int
instance stp_one : Inhabited Stp := ⟨⟨0, 0, 0, 0, 0⟩⟩
def Stp.val (s : Stp) : Value := .agg #[.int .i64 s.k, .int .u64 s.a, .int .u64 s.b, .int .u64 s.c, .int .u64 s.d]
def Stp.cells (s : Stp) : List Value := [.int .i64 s.k, .int .u64 s.a, .int .u64 s.b, .int .u64 s.c, .int .u64 s.d]
/-- a step of a kind, without a set -/
def kStp (k : Int) : Stp := ⟨k, 0, 0, 0, 0⟩
/-- of how many parts a kind is -/
def kOps (k : Int) : Int := if k = 1 ∨ k = 2 then 0 else if k = 3 ∨ k = 4 then 2 else if k = 5 ∨ k = 6 ∨ k = 7 then 1 else -1
theorem kOps_range (k : Int) : -1 ≤ kOps k ∧ kOps k ≤ 2 := by
  unfold kOps
  split <;> (try split) <;> (try split) <;> omega
def Stp.plain (s : Stp) : Prop := s.k = 1 ∨ (s.a = 0 ∧ s.b = 0 ∧ s.c = 0 ∧ s.d = 0)
instance plain_dec (s : Stp) : Decidable s.plain := by unfold Stp.plain; infer_instance
def Stp.good (s : Stp) : Prop := 0 ≤ kOps s.k ∧ s.plain
instance good_dec (s : Stp) : Decidable s.good := by unfold Stp.good; infer_instance
/-- the greatest number of parts, and what is wrong -/
def measGo : List Stp → Int → Int → Int × Int
  | [], p, h => if p = 1 then (h, 0) else (0, 3)
  | s :: r, p, h => if s.good then (if p < kOps s.k then (0, 3) else measGo r (p + (1 - kOps s.k)) (max h (p + (1 - kOps s.k)))) else (0, 1)
def measV (l : List Stp) : Int × Int := if 512 < l.length then (0, 4) else measGo l 0 0
/-! ### what an expression is: parts at each place -/
/-- how many parts the steps leave -/
def net : List Stp → Int
  | [] => 0
  | s :: r => (1 - kOps s.k) + net r
theorem net_append : ∀ a b, net (a ++ b) = net a + net b
  | [], b => by simp [net]
  | s :: r, b => by
    simp only [List.cons_append, net, net_append r b]
    omega
/-- the steps go through behind p parts -/
def Goes : List Stp → Int → Prop
  | [], _ => True
  | s :: r, p => s.good ∧ kOps s.k ≤ p ∧ Goes r (p + (1 - kOps s.k))
theorem meas_goes : ∀ (l : List Stp) (p h : Int), (measGo l p h).2 = 0 → Goes l p ∧ p + net l = 1
  | [], p, h, e => by
    refine ⟨trivial, ?_⟩
    unfold measGo at e
    split at e
    · simpa [net]
    · simp at e
  | s :: r, p, h, e => by
    unfold measGo at e
    split at e
    · rename_i hg
      split at e
      · simp at e
      · have := meas_goes r _ _ e
        refine ⟨⟨hg, by omega, this.1⟩, ?_⟩
        simp only [net]
        omega
    · simp at e
theorem goes_append : ∀ (a b : List Stp) (p : Int), Goes (a ++ b) p ↔ Goes a p ∧ Goes b (p + net a)
  | [], b, p => by simp [Goes, net]
  | s :: r, b, p => by
    simp only [List.cons_append, Goes, goes_append r b, net]
    rw [show p + (1 - kOps s.k) + net r = p + (1 - kOps s.k + net r) by omega]
    constructor
    · rintro ⟨h1, h2, h3, h4⟩
      exact ⟨⟨h1, h2, h3⟩, h4⟩
    · rintro ⟨⟨h1, h2, h3⟩, h4⟩
      exact ⟨h1, h2, h3, h4⟩
theorem goes_more : ∀ (a : List Stp) (p q : Int), Goes a p → p ≤ q → Goes a q
  | [], _, _, _, _ => trivial
  | s :: r, p, q, ⟨h1, h2, h3⟩, h => ⟨h1, by omega, goes_more r _ _ h3 (by omega)⟩
/-- an expression -/
def Expr (l : List Stp) : Prop := Goes l 0 ∧ net l = 1
theorem expr_ne {l : List Stp} (h : Expr l) : 0 < l.length := by
  cases l with
  | nil => simp [Expr, net] at h
  | cons s r => simp
theorem meas_expr {l : List Stp} (h : (measV l).2 = 0) : l.length ≤ 512 ∧ Expr l := by
  unfold measV at h
  split at h
  · simp at h
  · have := meas_goes l 0 0 h
    exact ⟨by omega, this.1, by omega⟩
theorem expr_two {a b : List Stp} {k : Int} (ha : Expr a) (hb : Expr b) (hk : k = 3 ∨ k = 4) : Expr (a ++ b ++ [kStp k]) := by
  have e : kOps k = 2 := by rcases hk with rfl | rfl <;> decide
  refine ⟨?_, ?_⟩
  · rw [goes_append, goes_append, net_append, ha.2, hb.2]
    refine ⟨⟨ha.1, goes_more b _ _ hb.1 (by decide)⟩, ⟨?_, by simp [kStp, e], trivial⟩⟩
    exact ⟨by simp [kStp, e], .inr ⟨rfl, rfl, rfl, rfl⟩⟩
  · rw [net_append, net_append, ha.2, hb.2]
    simp [net, kStp, e]
theorem expr_one {a : List Stp} {k : Int} (ha : Expr a) (hk : k = 5 ∨ k = 6 ∨ k = 7) : Expr (a ++ [kStp k]) := by
  have e : kOps k = 1 := by rcases hk with rfl | rfl | rfl <;> decide
  refine ⟨?_, ?_⟩
  · rw [goes_append, ha.2]
    refine ⟨ha.1, ⟨?_, by simp [kStp, e], trivial⟩⟩
    exact ⟨by simp [kStp, e], .inr ⟨rfl, rfl, rfl, rfl⟩⟩
  · rw [net_append, ha.2]
    simp [net, kStp, e]
end Go.Proofs.Ytgaadndhecokfaa
