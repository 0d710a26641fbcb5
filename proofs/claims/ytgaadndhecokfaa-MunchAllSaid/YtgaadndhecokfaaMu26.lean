/- RxMany, FaRdA, FaRdB, FaRdT, put together. -/
import Derived.Test.YtgaadndhecokfaaMu25
import Derived.Test.YtgaadndhecokfaaMu07
import Derived.Test.YtgaadndhecokfaaMu14
import Derived.Test.YtgaadndhecokfaaMu02
/- Contracts of the reference's many, One, Cat and Alt; of the program's Cat and Alt. -/
namespace Go.Proofs.Ytgaadndhecokfaa
open Go.RowKit Go.Lib Go.Joins

theorem jn_zero (k : Int) (LL : List (List Stp)) (h : 0 < LL.length) : jn k (LL.take 1) = jn k (LL.take 0) ++ LL.getD 0 [] := by
  cases LL with
  | nil => simp at h
  | cons x R => simp [jn, jt]
theorem jn_take (k : Int) (LL : List (List Stp)) (j : Nat) (h : j < LL.length) (hj : 0 < j) : jn k (LL.take (j + 1)) = jn k (LL.take j) ++ LL.getD j [] ++ [kStp k] := by
  cases LL with
  | nil => simp at h
  | cons x R =>
    obtain ⟨i, rfl⟩ : ∃ i, j = i + 1 := ⟨j - 1, by omega⟩
    rw [List.take_succ_cons, List.take_succ_cons, List.getD_cons_succ]
    simp only [jn]
    rw [jt_take k R i (by simpa using h), List.append_assoc, List.append_assoc, List.append_assoc]
theorem jn_le (k : Int) (LL : List (List Stp)) (j : Nat) : (jn k (LL.take j)).length ≤ (jn k LL).length := by
  cases LL with
  | nil => simp
  | cons x R =>
    cases j with
    | zero => simp [jn]
    | succ i =>
      have := jt_le k R i
      simp [jn]
      omega
/-- a row of the call's own, and what was there -/
def Mk (w : World) (base : Nat) (L : List Stp) (v : Value) (wr : World) : Prop := RowX wr base v L ∧ Below w.heap.size w wr ∧ base ≤ wr.heap.size
theorem Mk.grown {w wr w1 : World} {base : Nat} {L M : List Stp} {v v' : Value} (h : Mk w base L v wr) (hB : w.heap.size ≤ base) (h1 : RowX w1 base v' M) (hg : wr.grownBy w1 v.ownBlock) : Mk w base M v' w1 :=
  ⟨h1, h.2.1.grown hg (Nat.le_trans hB h.2.2) fun j e => Nat.le_trans hB ((h.1.lt j e).1), Nat.le_trans h.2.2 hg.size⟩
theorem Mk.alloc {w wr : World} {base : Nat} {L : List Stp} {v : Value} (h : Mk w base L v wr) (hB : w.heap.size ≤ base) (o : Obj) : Mk w base L v (wr.alloc o) :=
  ⟨World.ownsRow.alloc h.1 o, h.2.1.alloc (Nat.le_trans hB h.2.2) o, by have := h.2.2; simp; omega⟩
theorem mk_nil (w : World) (cur : Array Value) (h : cur = #[]) (b : Nat) (hb : b = w.heap.size) : Mk w w.heap.size [] (.slice (some ⟨b, 0, none⟩) 0 0) (w.alloc (.cells cur 109)) := by
  subst h hb
  exact ⟨World.ownsRow_lit (e := 109) (size := 5) w #[] 0 (Nat.le_refl _) (by decide) rfl, (Below.refl _ _).alloc (Nat.le_refl _) _, by simp⟩
set_option maxHeartbeats 4000000 in
set_option maxRecDepth 100000 in
theorem many_calls {C : Nat → Prop} (w : World) (k : Int) (v : Value) (LL : List (List Stp)) (h : SlXs C w v LL) (hC : ∀ b, C b → b < w.heap.size) (hsz : (jn k LL).length ≤ 1000000) :
    Calls Try.prog 69 #[v, .int .i64 k] w (RetX w (jn k LL)) := by
  obtain ⟨a, cap, rfl, h1, h2, hS⟩ := h
  obtain ⟨m, hm⟩ : ∃ m, m = LL.length := ⟨_, rfl⟩
  rw [← hm] at h1 hS ⊢
  have HS := hidden hS
  have HM := hidden hm
  have HK := hidden (fun (W : World) (hb : Below w.heap.size w W) c hc => (⟨trivial, hb.block c (hC c hc)⟩ : True ∧ W.heap[c]? = w.heap[c]?))
  unfold maxLen at h2
  clear hS hm
  go_enter Try.func69, Try.ntmps69
  go_wp2
  go_loopw [5, 6] (fun o i wr => ∃ j : Nat, j ≤ m ∧ i = .int .i64 j ∧ Mk w w.heap.size (jn k (LL.take j)) o wr) (fun _ i _ => m - (Go.RowKit.intOf i).toNat)
  case atStart => exact ⟨0, by omega, rfl, mk_nil w _ rfl _ rfl⟩
  case round =>
    obtain ⟨j, hj, rfl, hmk⟩ := hrel
    have HJ := hidden hmk
    clear hmk
    by_cases hlt : j < m
    · obtain ⟨b, off, rfl, hCb, hc⟩ := HS.out.2 (by omega)
      obtain ⟨y, hy, hyx⟩ := hc j hlt
      have hy' : wr.cell? ⟨b, off + j, none⟩ = some y := (HJ.out.2.1.cell (p := ⟨b, off + j, none⟩) (hC b hCb)).trans hy
      have HY := hidden (SlX.below (w' := wr) (C' := fun _ => True) hyx (HK.out wr HJ.out.2.1))
      have hle := jn_le k LL (j + 1)
      have hmL : j < LL.length := by rw [← HM.out]; exact hlt
      clear hc hyx hy
      by_cases hj0 : j = 0
      · subst hj0
        have HN := hidden (jn_zero k LL hmL)
        rw [HN.out, List.length_append] at hle
        rw [Nat.add_zero] at hy'
        go_wp2_with (at_builtin; refine append_rx rfl rfl _ _ rfl w.heap.size _ _ _ _ rfl HJ.out.1 rfl HY.out (by omega) HJ.out.2.2 ?_; intro a' l' c' w1 hr1 hg1)
        have HJ1 := hidden (HJ.out.grown (Nat.le_refl _) hr1 hg1)
        clear hr1 hg1
        go_wp2
        go_roundw
        case rel => exact ⟨1, by omega, rfl, by rw [HN.out]; exact HJ1.out⟩
        case measure => simp [Go.RowKit.intOf]; omega
      · have HN := hidden (jn_take k LL j hmL (by omega))
        rw [HN.out, List.length_append, List.length_append] at hle
        have hl1 : ([kStp k] : List Stp).length = 1 := rfl
        have hjp : 0 < j := by omega
        have hjd : decide ((0 : Int) < j) = true := decide_eq_true (by omega)
        go_wp2_with (at_builtin; first
          | (refine append_rx rfl rfl _ _ rfl w.heap.size _ _ _ _ rfl HJ.out.1 rfl HY.out (by omega) HJ.out.2.2 ?_; intro a' l' c' w1 hr1 hg1; have HJ1 := hidden (HJ.out.grown (Nat.le_refl _) hr1 hg1); clear hr1 hg1)
          | (refine append_rx rfl rfl _ _ rfl w.heap.size _ _ _ _ rfl (HJ1.out.alloc (Nat.le_refl _) _).1 rfl (one_slX w1 (kStp k) _ rfl) (by rw [List.length_append]; omega) (HJ1.out.alloc (Nat.le_refl _) _).2.2 ?_; intro a2 l2 c2 w2 hr2 hg2; have HJ2 := hidden ((HJ1.out.alloc (Nat.le_refl _) _).grown (Nat.le_refl _) hr2 hg2); clear hr2 hg2))
        go_roundw
        case rel => exact ⟨j + 1, by omega, by go_num, by rw [HN.out]; exact HJ2.out⟩
        case measure => simp [Go.RowKit.intOf]; omega
    · obtain rfl : j = m := by omega
      obtain ⟨hr, hb, _⟩ := HJ.out
      rw [List.take_of_length_le (by rw [HM.out]; exact Nat.le_refl _)] at hr
      have HR := hidden hr
      clear hr
      go_wp2
      go_ret
      exact ⟨_, rfl, HR.out, hb⟩
set_option maxHeartbeats 4000000 in
set_option maxRecDepth 100000 in
theorem onex_calls {C : Nat → Prop} (w : World) (k : Int) (v : Value) (L : List Stp) (h : SlX C w v L) (hC : ∀ b, C b → b < w.heap.size) (hsz : L.length ≤ 900000) :
    Calls Try.prog 66 #[v, .int .i64 k] w (RetX w (L ++ [kStp k])) := by
  obtain ⟨a, cap, rfl, h1, h2, _, hS⟩ := h
  obtain ⟨m, hm⟩ : ∃ m, m = L.length := ⟨_, rfl⟩
  rw [← hm] at h1 hS hsz ⊢
  have HS := hidden hS
  have HM := hidden hm
  unfold maxLen at h2
  clear hS hm
  go_enter Try.func66, Try.ntmps66
  go_wp2
  go_loopw [5, 6] (fun o i wr => ∃ j : Nat, j ≤ m ∧ i = .int .i64 j ∧ Mk w w.heap.size (L.take j) o wr) (fun _ i _ => m - (Go.RowKit.intOf i).toNat)
  case atStart => exact ⟨0, by omega, rfl, mk_nil w _ rfl _ rfl⟩
  case round =>
    obtain ⟨j, hj, rfl, hmk⟩ := hrel
    have HJ := hidden hmk
    clear hmk
    have hlen : (L.take j).length = j := by rw [List.length_take, ← HM.out]; omega
    have hl1 : ∀ s : Stp, ([s] : List Stp).length = 1 := fun _ => rfl
    by_cases hlt : j < m
    · obtain ⟨b, off, rfl, hCb, hc⟩ := HS.out.2 (by omega)
      obtain ⟨c0, c1, c2, c3, c4⟩ := (hc j hlt).kept (w' := wr) (HJ.out.2.1.block b (hC b hCb))
      have HN := hidden (take_moreX L j (by rw [← HM.out]; exact hlt))
      clear hc
      generalize L.getD j default = x at *
      go_wp2_with (at_builtin; refine append_rx rfl rfl _ _ rfl w.heap.size _ _ _ _ rfl (HJ.out.alloc (Nat.le_refl _) _).1 rfl (one_slX wr x _ rfl) (by rw [hlen, hl1]; omega) (HJ.out.alloc (Nat.le_refl _) _).2.2 ?_; intro a2 l2 c2' w2 hr2 hg2; have HJ2 := hidden ((HJ.out.alloc (Nat.le_refl _) _).grown (Nat.le_refl _) hr2 hg2); clear hr2 hg2)
      go_roundw
      case rel => exact ⟨j + 1, by omega, by go_num, by rw [HN.out]; exact HJ2.out⟩
      case measure => simp [Go.RowKit.intOf]; omega
    · obtain rfl : j = m := by omega
      rw [List.take_of_length_le (by rw [HM.out]; exact Nat.le_refl _)] at HJ
      go_wp2_with (at_builtin; refine append_rx rfl rfl _ _ rfl w.heap.size _ _ _ _ rfl (HJ.out.alloc (Nat.le_refl _) _).1 rfl (one_slX wr (kStp k) _ rfl) (by rw [hl1, ← HM.out]; omega) (HJ.out.alloc (Nat.le_refl _) _).2.2 ?_; intro a2 l2 c2' w2 hr2 hg2; have HJ2 := hidden ((HJ.out.alloc (Nat.le_refl _) _).grown (Nat.le_refl _) hr2 hg2); clear hr2 hg2)
      go_ret
      exact ⟨_, rfl, HJ2.out.1, HJ2.out.2.1⟩

/-! ### Cat and Alt -/
def catV (LL : List (List Stp)) : List Stp := if LL.length = 0 then [kStp 2] else jn 3 LL
def altV (LL : List (List Stp)) : List Stp := if LL.length = 0 then [kStp 1] else jn 4 LL
theorem slxs_form {C : Nat → Prop} {w : World} {v : Value} {LL : List (List Stp)} (h : SlXs C w v LL) : ∃ a cap, v = .slice a LL.length cap := by
  obtain ⟨a, cap, rfl, _⟩ := h
  exact ⟨a, cap, rfl⟩
set_option maxRecDepth 100000 in
theorem rcat_calls {C : Nat → Prop} (w : World) (v : Value) (LL : List (List Stp)) (h : SlXs C w v LL) (hC : ∀ b, C b → b < w.heap.size) (hsz : (catV LL).length ≤ 1000000) :
    Calls Try.prog 67 #[v] w (RetX w (catV LL)) := by
  unfold catV at *
  by_cases h0 : LL.length = 0
  · have H := hidden (rempty_rx w)
    obtain ⟨a, cap, rfl⟩ := slxs_form h
    clear h hC hsz
    rw [if_pos h0]
    go_enter Try.func67, Try.ntmps67
    go_wp2_with fail
    refine H.out.mono ?_
    rintro e w' ⟨u, rfl, hr, hb⟩
    go_wp2
    go_ret
    exact ⟨_, rfl, hr, hb⟩
  · rw [if_neg h0] at hsz ⊢
    have H := hidden (many_calls w 3 v LL h hC hsz)
    obtain ⟨a, cap, rfl⟩ := slxs_form h
    have h0' : ((LL.length : Int) == 0) = false := by simp; intro e; exact h0 (by rw [e]; rfl)
    clear h hC hsz
    go_enter Try.func67, Try.ntmps67
    go_wp2_with fail
    refine H.out.mono ?_
    rintro e w' ⟨u, rfl, hr, hb⟩
    go_wp2
    go_ret
    exact ⟨_, rfl, hr, hb⟩
set_option maxRecDepth 100000 in
theorem ralt_calls {C : Nat → Prop} (w : World) (v : Value) (LL : List (List Stp)) (h : SlXs C w v LL) (hC : ∀ b, C b → b < w.heap.size) (hsz : (altV LL).length ≤ 1000000) :
    Calls Try.prog 51 #[v] w (RetX w (altV LL)) := by
  unfold altV at *
  by_cases h0 : LL.length = 0
  · have H := hidden (rset_rx 0 0 0 0 w)
    obtain ⟨a, cap, rfl⟩ := slxs_form h
    clear h hC hsz
    rw [if_pos h0]
    go_enter Try.func51, Try.ntmps51
    go_wp2_with fail
    refine H.out.mono ?_
    rintro e w' ⟨u, rfl, hr, hb⟩
    go_wp2
    go_ret
    exact ⟨_, rfl, hr, hb⟩
  · rw [if_neg h0] at hsz ⊢
    have H := hidden (many_calls w 4 v LL h hC hsz)
    obtain ⟨a, cap, rfl⟩ := slxs_form h
    have h0' : ((LL.length : Int) == 0) = false := by simp; intro e; exact h0 (by rw [e]; rfl)
    clear h hC hsz
    go_enter Try.func51, Try.ntmps51
    go_wp2_with fail
    refine H.out.mono ?_
    rintro e w' ⟨u, rfl, hr, hb⟩
    go_wp2
    go_ret
    exact ⟨_, rfl, hr, hb⟩
end Go.Proofs.Ytgaadndhecokfaa

/- The reference's reader: rows of lists of steps; an atom of one byte. -/
namespace Go.Proofs.Ytgaadndhecokfaa
open Go.RowKit Go.Lib Go.Joins

theorem rset_fn (f : Nat → Bool) (w : World) : Calls Try.prog 68 #[(.agg #[.int .u64 (word (f) 0), .int .u64 (word (f) 1), .int .u64 (word (f) 2), .int .u64 (word (f) 3)])] w (RetX w [sStp f]) := by
  go_enter Try.func68, Try.ntmps68
  go_wp2
  go_ret
  exact ⟨_, rfl, row_one _ (sStp f) _ (by simp) _ (by simp), by go_grown⟩
theorem rowX_slice {w : World} {base : Nat} {v : Value} {L : List Stp} (h : RowX w base v L) : ∃ a l c, v = .slice a l c := by
  rcases ownsRow_forms h with ⟨rfl, _⟩ | ⟨g, cap, rfl⟩
  · exact ⟨_, _, _, rfl⟩
  · exact ⟨_, _, _, rfl⟩
theorem infoSl : (Try.prog.info? 44).map (fun i => (i.zero, i.size, i.bytes)) = some (some (.slice none 0 0), 1, 24) := by kernel_rfl
def Typed (w : World) (b : Nat) : Prop := ∃ cur, w.heap[b]? = some (.cells cur 109 (0, 0))
theorem RowX.typed {w : World} {base : Nat} {v : Value} {L : List Stp} (h : RowX w base v L) : SlX (Typed w) w v L := by
  have h' := h
  obtain ⟨_, ⟨rfl, h1⟩ | ⟨g, cap, cur, rfl, hb, hg, h1, h2, h3, h4⟩⟩ := h
  · exact ⟨none, 0, by rw [h1], by omega, by decide, fun _ => rfl, rfl, fun h => by omega⟩
  · refine ⟨some ⟨g, 0, none⟩, cap, rfl, h1, h2, (fun e => by cases e), rfl, fun _ => ⟨g, 0, rfl, ⟨cur, hg⟩, fun i hi => ?_⟩⟩
    rw [Nat.zero_add]
    exact rxAt_of_cells hi fun j hj => World.ownsRow.cellAt h' j hj
theorem typed_kept {w w' : World} {u : Value} {L : List Stp} (h : SlX (Typed w) w u L) (hb : ∀ b, Typed w b → w'.heap[b]? = w.heap[b]?) : SlX (Typed w') w' u L :=
  h.below fun b hb' => ⟨by
    obtain ⟨cur, hc⟩ := hb'
    exact ⟨cur, (hb b ⟨cur, hc⟩).trans hc⟩, hb b hb'⟩
theorem typed_lt {w : World} {b : Nat} (h : Typed w b) : b < w.heap.size := by
  obtain ⟨cur, h⟩ := h
  exact (Array.getElem?_eq_some_iff.1 h).1
theorem typed_below {w w' : World} {u : Value} {L : List Stp} (h : SlX (Typed w) w u L) (hb : Below w.heap.size w w') : SlX (Typed w') w' u L := typed_kept h fun b hb' => hb.block b (typed_lt hb')
/-- a row of lists of steps, of the call's own -/
def Sg (w : World) (LL : List (List Stp)) (v : Value) (wr : World) : Prop :=
  ∃ vals : List Value, wr.ownsRow w.heap.size 44 1 v LL.length vals ∧ Below w.heap.size w wr ∧ ∀ i, i < LL.length → ∃ u, vals[i]? = some u ∧ SlX (Typed wr) wr u (LL.getD i [])
theorem Sg.frame {w : World} {LL : List (List Stp)} {v : Value} {wr : World} (h : Sg w LL v wr) : Below w.heap.size w wr := by
  obtain ⟨_, _, h, _⟩ := h
  exact h
theorem Sg.below {w : World} {LL : List (List Stp)} {v : Value} {wr w' : World} (h : Sg w LL v wr) (hb : Below wr.heap.size wr w') : Sg w LL v w' := by
  obtain ⟨vals, h1, h2, h3⟩ := h
  refine ⟨vals, ⟨h1.1, ?_⟩, below_then h2 h2.size hb, fun i hi => ?_⟩
  · rcases h1.2 with hn | ⟨g, cap, cur, rfl, hb', hgg, rest⟩
    · exact .inl hn
    · exact .inr ⟨g, cap, cur, rfl, hb', by rw [hb.block g (Array.getElem?_eq_some_iff.1 hgg).1]; exact hgg, rest⟩
  · obtain ⟨u, g1, g2⟩ := h3 i hi
    exact ⟨u, g1, typed_below g2 hb⟩
theorem Sg.nil (w : World) (b : Nat) (hb : b = w.heap.size) (cur : Array Value) (hc : cur = #[]) : Sg w [] (.slice (some ⟨b, 0, none⟩) 0 0) (w.alloc (.cells cur 44)) := by
  subst hb hc
  exact ⟨[], World.ownsRow_lit (e := 44) (size := 1) w #[] 0 (Nat.le_refl _) (by decide) rfl, (Below.refl _ _).alloc (Nat.le_refl _) _, fun i hi => absurd hi (by simp)⟩
theorem Sg.one {w w1 : World} {u : Value} {L : List Stp} (hb : Below w.heap.size w w1) (hu : SlX (Typed w1) w1 u L) (b : Nat) (he : b = w1.heap.size) : Sg w [L] (.slice (some ⟨b, 0, none⟩) 1 1) (w1.alloc (.cells #[u] 44)) := by
  subst he
  refine ⟨[u], World.ownsRow_lit (e := 44) (size := 1) w1 #[u] 1 hb.size (by decide) rfl, hb.alloc hb.size _, fun i hi => ?_⟩
  obtain rfl : i = 0 := by simpa using hi
  exact ⟨u, rfl, typed_below hu ((Below.refl w1.heap.size w1).alloc (Nat.le_refl _) _)⟩
theorem Sg.all {w : World} {LL : List (List Stp)} {v : Value} {wr : World} (h : Sg w LL v wr) : SlXs (fun b => b < wr.heap.size) wr v LL := by
  obtain ⟨vals, h1, _, h3⟩ := h
  rcases h1.2 with ⟨rfl, h0⟩ | ⟨g, cap, cur, rfl, hb, hgg, g1, g2, _⟩
  · obtain rfl : LL = [] := List.eq_nil_of_length_eq_zero h0
    exact ⟨none, 0, rfl, Nat.le_refl _, by decide, rfl, fun h => absurd h (by simp)⟩
  · refine ⟨some ⟨g, 0, none⟩, cap, rfl, by omega, g2, rfl, fun _ => ⟨g, 0, rfl, (Array.getElem?_eq_some_iff.1 hgg).1, fun i hi => ?_⟩⟩
    obtain ⟨u, q1, q2⟩ := h3 i hi
    exact ⟨u, by rw [Nat.zero_add, World.ownsRow.cellAt h1 i (by omega)]; exact q1, q2.below fun b hb => ⟨typed_lt hb, rfl⟩⟩
/-- one list more -/
theorem app_sg {w0 w : World} {ops : Array Oper} {rest : List Oper} {o : Oper} {a : Act} {Q : Exit → Act → World → Prop} (hgd : o.guard = none) (s x : Operand)
    (ho : o.op = .call { callee := .builtin .append, args := #[s, x], argTypes := #[101, 101] }) {xb : Nat} {v u : Value} {LL : List (List Stp)} {L : List Stp}
    (hs : a.eval s = v) (hS : Sg w0 LL v w) (hx : a.eval x = .slice (some ⟨xb, 0, none⟩) 1 1) (hxb : w.heap[xb]? = some (.cells #[u] 44 (0, 0))) (hu1 : u.oneCell' = true) (hu : SlX (Typed w) w u L) {n : Nat} (hn : LL.length = n) (hn2 : n ≤ 100000)
    (h : ∀ g' c' w', Sg w0 (LL ++ [L]) (.slice (some ⟨g', 0, none⟩) (n + 1) c') w' → wpList Try.prog ops Q rest (a.put o.dst (.slice (some ⟨g', 0, none⟩) (n + 1) c')) w') : wpList Try.prog ops Q (o :: rest) a w := by
  subst hn
  obtain ⟨i0, hi, hz0, hz1, hz2⟩ := info_parts infoSl
  obtain ⟨vals, hown, hB, hall⟩ := hS
  refine wpList_append_own w hgd s x 101 ho w0.heap.size 44 i0 (.slice none 0 0) 1 24 Try.underlying101 hi hz0 hz1 hz2 rfl (by decide) _ LL.length vals hs hown ⟨xb, 0, none⟩ 1 1 [u] hx rfl (fun j z hj => ?_) (fun z hz => by simp at hz; subst hz; exact hu1) (by unfold maxLen; omega) (by omega) hB.size fun v' w' h3 h4 _ => ?_
  · match j, hj with
    | 0, hj =>
      simp only [List.getElem?_cons_zero, Option.some.injEq] at hj
      subst hj
      rw [Addr.add_lit, cell_of_row w xb _ _ _ _ hxb]
      rfl
  · have hk : ∀ b, Typed w b → w'.heap[b]? = w.heap[b]? := fun b hb => h4.block b (typed_lt hb) fun e => by
      obtain ⟨cur, hc⟩ := hb
      rcases hown.2 with ⟨rfl, _⟩ | ⟨g, cap, cur', rfl, _, hgg, _⟩
      · cases e
      · simp only [Value.ownBlock, Option.some.injEq] at e
        subst e
        rw [hgg] at hc
        simp at hc
    have hlen : vals.length = LL.length := by simpa using hown.1
    have hS' : Sg w0 (LL ++ [L]) v' w' := by
      refine ⟨vals ++ [u], by simpa using h3, hB.grown h4 hB.size fun k e => (hown.lt k e).1, fun i hi => ?_⟩
      by_cases e : i = LL.length
      · subst e
        refine ⟨u, by rw [List.getElem?_append_right (by omega), hlen, Nat.sub_self]; rfl, ?_⟩
        have hg : (LL ++ [L]).getD LL.length [] = L := by simp [List.getD_eq_getElem?_getD]
        rw [hg]
        exact typed_kept hu hk
      · have hi' : i < LL.length := by simp at hi; omega
        obtain ⟨x, g1, g2⟩ := hall i hi'
        have hg : (LL ++ [L]).getD i [] = LL.getD i [] := by simp [List.getD_eq_getElem?_getD, List.getElem?_append_left hi']
        rw [hg]
        exact ⟨x, by rw [List.getElem?_append_left (by omega)]; exact g1, typed_kept g2 hk⟩
    rcases ownsRow_forms h3 with ⟨_, h0⟩ | ⟨g, c, rfl⟩
    · omega
    · exact h g c w' hS'
/-- what a reading of steps answers -/
def Rd (w : World) (L : List Stp) (n : Nat) (e : Ending) (w' : World) : Prop := ∃ v, e = .returned (.tuple #[v, .int .i64 (n : Int), .bool true]) ∧ RowX w' w.heap.size v L ∧ Below w.heap.size w w'
def RT : List UInt8 := [40, 41, 91, 93, 124, 42, 43, 63, 46]
/-- a byte that is an atom by itself -/
def Plain (c : UInt8) : Prop := vis c.toNat = true ∧ c ≠ 92 ∧ c ∉ RT
set_option maxHeartbeats 2000000 in
set_option maxRecDepth 100000 in
theorem ratom_at (s : ByteArray) (p : Nat) (c : UInt8) (w : World) (hat : At s p c) (hs : s.size ≤ 1000) (hc : Plain c) :
    Calls Try.prog 64 #[.string s, .int .i64 (p : Int)] w (Rd w [sStp (fOne c.toNat)] (p + 1)) := by
  have hC := fun w => rchar_at s p c RT w hat hs (by decide) hc.1 hc.2.1 hc.2.2
  have hO := fun w => rone_calls c.toNat w (UInt8.toNat_lt _)
  have q1 : ((c.toNat : Int) == 40) = false := toNat_ne (d := 40) fun h => hc.2.2 (by rw [h]; decide)
  have q2 : ((c.toNat : Int) == 46) = false := toNat_ne (d := 46) fun h => hc.2.2 (by rw [h]; decide)
  have q3 : ((c.toNat : Int) == 91) = false := toNat_ne (d := 91) fun h => hc.2.2 (by rw [h]; decide)
  obtain ⟨hp, hx⟩ := hat
  have hq := fun w => rset_fn (fOne c.toNat) w
  have HC := hidden hC
  have HO := hidden hO
  have HQ := hidden hq
  have q0 : decide ((p : Int) < (s.size : Int)) = true := decide_eq_true (by omega)
  have q0' : decide (p < s.size) = true := decide_eq_true (by omega)
  generalize fOne c.toNat = f at *
  generalize (c.toNat : Int) = n at *
  clear hC hO hq hc
  go_enter Try.func64, Try.ntmps64
  go_wp2_with fail
  refine (HC.out _).mono ?_
  rintro e w1 ⟨rfl, rfl⟩
  go_wp2_with fail
  refine (HO.out _).mono ?_
  rintro e w1 ⟨rfl, hb1⟩
  go_wp2_with fail
  refine (HQ.out _).mono ?_
  rintro e w2 ⟨v, rfl, hr, hb2⟩
  obtain ⟨a1, l1, c1, rfl⟩ := rowX_slice hr
  go_wp2
  go_ret3
  exact ⟨_, rfl, hr.lower hb1.size, below_after hb1 hb2⟩
end Go.Proofs.Ytgaadndhecokfaa

/- The reference's reader: a branch, a text, an atom in brackets; at what the statements read. -/
namespace Go.Proofs.Ytgaadndhecokfaa
open Go.RowKit Go.Lib Go.Joins

theorem Rd.later {w w0 : World} {L : List Stp} {n : Nat} {e : Ending} {w' : World} (h : Rd w L n e w') (hb : Below w0.heap.size w0 w) : Rd w0 L n e w' := by
  obtain ⟨v, h1, h2, h3⟩ := h
  exact ⟨v, h1, h2.lower hb.size, below_after hb h3⟩
/-- the parts of a branch: where each begins, what it has, where it ends, whether a star stands behind it -/
structure Part where
  p : Nat
  n : Nat
  sg : UInt8
  L : List Stp
/-- what a sign of a repetition stands for -/
def sgK (c : UInt8) : Int := if c = 43 then 6 else if c = 63 then 7 else 5
def Part.all (x : Part) : List Stp := if x.sg ≠ 0 then x.L ++ [kStp (sgK x.sg)] else x.L
def Part.to (x : Part) : Nat := if x.sg ≠ 0 then x.n + 1 else x.n
/-- no sign of a repetition stands at a place -/
def NoRep (s : ByteArray) (q : Nat) : Prop := q = s.size ∨ ∃ c, At s q c ∧ c ∉ ([42, 43, 63] : List UInt8)
def Stops (s : ByteArray) (q : Nat) : Prop := q = s.size ∨ At s q 124 ∨ At s q 41
structure PartOk (s : ByteArray) (w : World) (x : Part) : Prop where
  lt : x.n ≤ s.size
  beg : ∃ c, At s x.p c ∧ c ≠ 124 ∧ c ≠ 41
  atom : ∀ W, Below w.heap.size w W → Calls Try.prog 64 #[.string s, .int .i64 (x.p : Int)] W (Rd W x.L x.n)
  rep : if x.sg ≠ 0 then (x.sg = 42 ∨ x.sg = 43 ∨ x.sg = 63) ∧ At s x.n x.sg ∧ NoRep s (x.n + 1) else NoRep s x.n
  few : x.L.length ≤ 1000
  adv : x.p < x.n
theorem Part.adv {s : ByteArray} {w : World} {x : Part} (h : PartOk s w x) : x.p < x.to := by
  have := h.adv
  unfold Part.to
  split <;> omega
theorem rep_in (c : UInt8) (W : World) : Calls Try.prog 65 #[.string ⟨#[42, 43, 63]⟩, .int .u8 (c.toNat : Int)] W fun e w' => e = .returned (.bool (decide (c ∈ ([42, 43, 63] : List UInt8)))) ∧ W = w' := in_calls [42, 43, 63] c W (by decide)
theorem rep_no {c : UInt8} (h : c ∉ ([42, 43, 63] : List UInt8)) (W : World) : Calls Try.prog 65 #[.string ⟨#[42, 43, 63]⟩, .int .u8 (c.toNat : Int)] W fun e w' => e = .returned (.bool false) ∧ W = w' := by
  have := rep_in c W
  simpa only [decide_eq_false h] using this
theorem rep_sign (c : UInt8) (h : c = 42 ∨ c = 43 ∨ c = 63) (W : World) : Calls Try.prog 65 #[.string ⟨#[42, 43, 63]⟩, .int .u8 (c.toNat : Int)] W fun e w' => e = .returned (.bool true) ∧ W = w' := by
  have := rep_in c W
  rwa [decide_eq_true (show c ∈ ([42, 43, 63] : List UInt8) by rcases h with rfl | rfl | rfl <;> decide)] at this
set_option maxHeartbeats 8000000 in
set_option maxRecDepth 100000 in
theorem rbranch_calls (s : ByteArray) (w : World) (hs : s.size ≤ 1000) (l : List Part) (p : Nat) (hl : l.length ≤ 100) (pos : Nat → Nat) (h0 : pos 0 = p) (hok : ∀ j, j < l.length → ∃ x, l[j]? = some x ∧ PartOk s w x ∧ pos j = x.p ∧ pos (j + 1) = x.to) (hps : ∀ j, j ≤ l.length → pos j ≤ s.size) (hst : Stops s (pos l.length)) (hsz : (catV (l.map Part.all)).length ≤ 1000) :
    Calls Try.prog 50 #[.string s, .int .i64 (p : Int)] w (Rd w (catV (l.map Part.all)) (pos l.length)) := by
  have HOK := hidden hok
  have HPS := hidden hps
  have HST := hidden hst
  have HSZ := hidden hsz
  have HTK := hidden (fun j x (h : l[j]? = some x) => (show (l.take (j + 1)).map Part.all = (l.take j).map Part.all ++ [x.all] ∧ ((l.take j).map Part.all).length = j from by
    have hj : j < l.length := (List.getElem?_eq_some_iff.1 h).1
    rw [List.take_add_one, h]
    simp
    omega))
  subst h0
  obtain ⟨m, hm⟩ : ∃ m, m = l.length := ⟨_, rfl⟩
  rw [← hm] at HOK HPS HST hl ⊢
  have HM := hidden hm
  clear hok hps hst hsz hm
  go_enter Try.func50, Try.ntmps50
  go_wp2
  go_loopw [1, 7, 8, 9, 10, 11] (fun at1 pv _ _ _ _ wr => ∃ (j : Nat) (parts : Value), j ≤ m ∧ at1 = .int .i64 (pos j : Nat) ∧ parts = pv ∧ Sg w ((l.take j).map Part.all) parts wr) (fun at1 _ _ _ _ _ _ => s.size + 1 - (Go.RowKit.intOf at1).toNat)
  case atStart => exact ⟨0, _, by omega, rfl, rfl, Sg.nil w _ rfl _ rfl⟩
  case round =>
    obtain ⟨j, parts, hj, rfl, rfl, hp⟩ := hrel
    have HP := hidden hp
    clear hp
    have hpj := HPS.out j hj
    by_cases hlt : j < m
    · obtain ⟨x, hx, hX, e1, e2⟩ := HOK.out j hlt
      have hn2 := HPS.out (j + 1) (by omega)
      obtain ⟨c, hc, c1, c2⟩ := hX.beg
      have q1 : ((c.toNat : Int) != 124) = true := by have h : ((c.toNat : Int) == 124) = false := toNat_ne (d := 124) c1; rw [bne, h]; rfl
      have q2 : ((c.toNat : Int) != 41) = true := by have h : ((c.toNat : Int) == 41) = false := toNat_ne (d := 41) c2; rw [bne, h]; rfl
      have HAT := hidden (hX.atom wr HP.out.frame)
      have HREP := hidden (show (x.sg ≠ 0 ∧ x.to = x.n + 1 ∧ x.all = x.L ++ [kStp (sgK x.sg)] ∧ ((x.sg = 42 ∨ x.sg = 43 ∨ x.sg = 63) ∧ At s x.n x.sg) ∧ NoRep s x.to) ∨ (x.sg = 0 ∧ x.to = x.n ∧ x.all = x.L ∧ NoRep s x.to) from by
        have hr := hX.rep
        unfold Part.to Part.all
        by_cases hb : x.sg = 0
        · rw [if_neg (by simp [hb])] at hr
          rw [if_neg (by simp [hb]), if_neg (by simp [hb])]
          exact .inr ⟨hb, rfl, rfl, hr⟩
        · rw [if_pos hb] at hr
          rw [if_pos hb, if_pos hb]
          exact .inl ⟨hb, rfl, rfl, ⟨hr.1, hr.2.1⟩, hr.2.2⟩)
      have hnl := hX.lt
      have hfew := hX.few
      have HADV := hidden (Part.adv hX)
      have hadv2 := hX.adv
      obtain ⟨t1, t2⟩ := HTK.out j x hx
      have HT1 := hidden t1
      have HT2 := hidden t2
      rw [e2] at hn2
      have HE2 := hidden e2
      generalize Part.to x = xto at *
      generalize Part.all x = xall at *
      obtain ⟨qq, qs, st, L⟩ := x
      simp only at e1 hc HAT HREP hnl hfew hadv2 HADV
      rw [e1] at hpj ⊢
      obtain ⟨hp, hxc⟩ := hc
      have q0 : decide ((qq : Int) < (s.size : Int)) = true := decide_eq_true (by omega)
      have q0' : decide (qq < s.size) = true := decide_eq_true (by omega)
      generalize (c.toNat : Int) = n at *
      clear c1 c2 t1 t2 hX hx e1 e2
      go_wp2_with fail
      refine HAT.out.mono ?_
      rintro e w1 ⟨v, rfl, hr, hb1⟩
      have HP1 := hidden (HP.out.below hb1)
      have HV1 := hidden hr.typed
      obtain ⟨a1, l1, c1, rfl⟩ := rowX_slice hr
      clear hr hb1
      go_wp2
      go_loopw [8, 9, 11] (fun lv nx _ wr2 => ∃ (a2 : Option Addr) (l2 c2 : Nat) (M : List Stp) (q' : Nat), lv = .slice a2 l2 c2 ∧ nx = .int .i64 (q' : Nat) ∧ Sg w ((l.take j).map Part.all) parts wr2 ∧ SlX (Typed wr2) wr2 (.slice a2 l2 c2) M ∧ Hid ((M = L ∧ q' = qs ∧ st ≠ 0) ∨ (M = xall ∧ q' = xto))) (fun _ nx _ _ => s.size + 1 - (Go.RowKit.intOf nx).toNat)
      case atStart =>
        refine ⟨a1, l1, c1, L, qs, rfl, rfl, HP1.out, HV1.out, hidden ?_⟩
        rcases HREP.out with ⟨r1, r2, r3, r4, r5⟩ | ⟨r1, r2, r3, r4⟩
        · exact .inl ⟨rfl, rfl, r1⟩
        · exact .inr ⟨r3.symm, r2.symm⟩
      case round =>
        obtain ⟨a2, l2, c2, M, q', rfl, rfl, hp2, hv2, hM⟩ := hrel
        have HP2 := hidden hp2
        have HV2 := hidden hv2
        clear hp2 hv2
        rcases hM.out with ⟨rfl, rfl, hst⟩ | ⟨rfl, rfl⟩
        · have HR := hidden (show xto = q' + 1 ∧ xall = M ++ [kStp (sgK st)] ∧ (st = 42 ∨ st = 43 ∨ st = 63) ∧ At s q' st from by
            rcases HREP.out with ⟨r1, r2, r3, r4, r5⟩ | ⟨r1, r2, r3, r4⟩
            · exact ⟨r2, r3, r4⟩
            · exact absurd r1 hst)
          obtain ⟨hp3, hx0⟩ := HR.out.2.2.2
          have HSG := hidden HR.out.2.2.1
          have g0 : decide ((q' : Int) < (s.size : Int)) = true := decide_eq_true (by omega)
          have g0' : decide (q' < s.size) = true := decide_eq_true (by omega)
          have HRS := hidden (fun W => rep_sign st HSG.out W)
          clear hM hst
          rcases HSG.out with e3 | e3 | e3
          case' inl =>
            have hx3 : ((s[q']'hp3).toNat : Int) = 42 := hx0.trans (by rw [e3]; rfl)
            have HKK := hidden (show sgK st = 5 by rw [e3]; rfl)
            rw [show (st.toNat : Int) = 42 by rw [e3]; rfl] at HRS
          case' inr.inl =>
            have hx3 : ((s[q']'hp3).toNat : Int) = 43 := hx0.trans (by rw [e3]; rfl)
            have HKK := hidden (show sgK st = 6 by rw [e3]; rfl)
            rw [show (st.toNat : Int) = 43 by rw [e3]; rfl] at HRS
          case' inr.inr =>
            have hx3 : ((s[q']'hp3).toNat : Int) = 63 := hx0.trans (by rw [e3]; rfl)
            have HKK := hidden (show sgK st = 7 by rw [e3]; rfl)
            rw [show (st.toNat : Int) = 63 by rw [e3]; rfl] at HRS
          all_goals
            clear e3 HSG hx0
            go_wp2_with fail
            refine (HRS.out _).mono ?_
            rintro e w3 ⟨rfl, rfl⟩
            go_wp2_with fail
            refine (onex_calls _ _ _ M HV2.out (fun b hb => typed_lt hb) (by omega)).mono ?_
            rintro e w3 ⟨u, rfl, hr3, hb3⟩
            have HP3 := hidden (HP2.out.below hb3)
            have HV3 := hidden hr3.typed
            obtain ⟨a3, l3, c3, rfl⟩ := rowX_slice hr3
            clear hr3 hb3
            go_wp2
            go_roundw
            case rel => exact ⟨a3, l3, c3, _, q' + 1, rfl, by go_num, HP3.out, HV3.out, hidden (.inr ⟨by rw [HR.out.2.1, HKK.out], HR.out.1.symm⟩)⟩
            case measure => simp [Go.RowKit.intOf]; omega
        · have HNR := hidden (show NoRep s q' from by
            rcases HREP.out with ⟨r1, r2, r3, r4, r5⟩ | ⟨r1, r2, r3, r4⟩
            · exact r5
            · exact r4)
          have hN := HNR.out
          clear hM
          have HADV' := HADV.out
          rcases hN with hq | ⟨d, ⟨hp3, hx3⟩, hd⟩
          case' inl =>
            have g0 : decide ((q' : Int) < (s.size : Int)) = false := decide_eq_false (by omega)
            have g0' : decide (q' < s.size) = false := decide_eq_false (by omega)
            clear hq
            go_wp2_with (at_builtin; refine app_sg rfl _ _ rfl rfl (HP2.out.below ((Below.refl _ _).alloc (Nat.le_refl _) (.cells #[.slice a2 l2 c2] 44))) rfl (heap_alloc_new _ _) rfl (typed_below HV2.out ((Below.refl _ _).alloc (Nat.le_refl _) (.cells #[.slice a2 l2 c2] 44))) HT2.out (by omega) ?_; intro g' c' w4 hS4)
          case' inr =>
            have g0 : decide ((q' : Int) < (s.size : Int)) = true := decide_eq_true (by omega)
            have g0' : decide (q' < s.size) = true := decide_eq_true (by omega)
            have HRN := hidden (fun W => rep_no hd W)
            generalize (d.toNat : Int) = nd at *
            clear hd
            go_wp2_with fail
            refine (HRN.out _).mono ?_
            rintro e w3 ⟨rfl, rfl⟩
            go_wp2_with (at_builtin; refine app_sg rfl _ _ rfl rfl (HP2.out.below ((Below.refl _ _).alloc (Nat.le_refl _) (.cells #[.slice a2 l2 c2] 44))) rfl (heap_alloc_new _ _) rfl (typed_below HV2.out ((Below.refl _ _).alloc (Nat.le_refl _) (.cells #[.slice a2 l2 c2] 44))) HT2.out (by omega) ?_; intro g' c' w4 hS4)
          all_goals
            have HS4 := hidden hS4
            clear hS4
            rw [← HT1.out] at HS4
            go_wp2
            go_roundw
            case rel => exact ⟨j + 1, _, by omega, by rw [HE2.out], rfl, HS4.out⟩
            case measure => simp [Go.RowKit.intOf]; omega
    · obtain rfl : j = m := by omega
      have HA := hidden HP.out.all
      rw [List.take_of_length_le (by rw [HM.out]; exact Nat.le_refl _)] at HA HP
      have HC := hidden (rcat_calls wr _ _ HA.out (fun b hb => hb) (by have := HSZ.out; omega))
      have HB := hidden HP.out.frame
      have hE := HST.out
      rcases hE with hq | ⟨hp3, hx3⟩ | ⟨hp3, hx3⟩
      case' inl =>
        have g0 : decide (((pos j : Nat) : Int) < (s.size : Int)) = false := decide_eq_false (by omega)
        have g0' : decide (pos j < s.size) = false := decide_eq_false (by omega)
        clear hq
      case' inr.inl =>
        have hx3 : ((s[pos j]'hp3).toNat : Int) = 124 := hx3
        have g0 : decide (((pos j : Nat) : Int) < (s.size : Int)) = true := decide_eq_true (by omega)
        have g0' : decide (pos j < s.size) = true := decide_eq_true (by omega)
      case' inr.inr =>
        have hx3 : ((s[pos j]'hp3).toNat : Int) = 41 := hx3
        have g0 : decide (((pos j : Nat) : Int) < (s.size : Int)) = true := decide_eq_true (by omega)
        have g0' : decide (pos j < s.size) = true := decide_eq_true (by omega)
      all_goals
        go_wp2_with fail
        refine HC.out.mono ?_
        rintro e w2 ⟨v, rfl, hr, hb2⟩
        obtain ⟨a1, l1, c1, rfl⟩ := rowX_slice hr
        have HR := hidden (And.intro (hr.lower HB.out.size) (below_then HB.out HB.out.size hb2))
        clear hr hb2
        go_wp2
        go_ret3
        exact ⟨_, rfl, HR.out.1, HR.out.2⟩
end Go.Proofs.Ytgaadndhecokfaa

/- The reference's reader: a text, an atom in brackets, and what it reads of the one text that the statements read. -/
namespace Go.Proofs.Ytgaadndhecokfaa
open Go.RowKit Go.Lib Go.Joins

/-- the branches of a text: where each begins, what it has, where it ends -/
structure Bra where
  p : Nat
  n : Nat
  L : List Stp
structure BraOk (s : ByteArray) (w : World) (x : Bra) : Prop where
  lt : x.n ≤ s.size
  adv : x.p ≤ x.n
  call : ∀ W, Below w.heap.size w W → Calls Try.prog 50 #[.string s, .int .i64 (x.p : Int)] W (Rd W x.L x.n)
set_option maxHeartbeats 8000000 in
set_option maxRecDepth 100000 in
theorem rtext_calls (s : ByteArray) (w : World) (hs : s.size ≤ 1000) (x0 : Bra) (l : List Bra) (hl : l.length ≤ 100) (hx0 : BraOk s w x0) (pos : Nat → Nat) (hp0 : pos 0 = x0.n) (hok : ∀ j, j < l.length → ∃ x, l[j]? = some x ∧ BraOk s w x ∧ At s (pos j) 124 ∧ x.p = pos j + 1 ∧ pos (j + 1) = x.n) (hps : ∀ j, j ≤ l.length → pos j ≤ s.size) (hst : pos l.length = s.size ∨ ∃ c, At s (pos l.length) c ∧ c ≠ 124) (hsz : (altV ((x0 :: l).map Bra.L)).length ≤ 1000) :
    Calls Try.prog 31 #[.string s, .int .i64 (x0.p : Int)] w (Rd w (altV ((x0 :: l).map Bra.L)) (pos l.length)) := by
  have HX0 := hidden (hx0.call w (Below.refl _ _))
  have HOK := hidden hok
  have HPS := hidden hps
  have HST := hidden hst
  have HSZ := hidden hsz
  have HTK := hidden (fun j x (h : l[j]? = some x) => (show ((x0 :: l).take (j + 2)).map Bra.L = ((x0 :: l).take (j + 1)).map Bra.L ++ [x.L] ∧ (((x0 :: l).take (j + 1)).map Bra.L).length = j + 1 from by
    have hj : j < l.length := (List.getElem?_eq_some_iff.1 h).1
    rw [List.take_succ_cons, List.take_succ_cons, List.take_add_one, h]
    simp
    omega))
  have HTE := hidden (show ((x0 :: l).take (l.length + 1)).map Bra.L = (x0 :: l).map Bra.L from by rw [List.take_of_length_le (by simp)])
  have HT0 := hidden (show ((x0 :: l).take (0 + 1)).map Bra.L = [x0.L] from rfl)
  rw [← hp0] at HX0
  generalize (x0 :: l).map Bra.L = LL at *
  obtain ⟨m, hm⟩ : ∃ m, m = l.length := ⟨_, rfl⟩
  rw [← hm] at HOK HPS HST hl HTE ⊢
  generalize x0.p = p0 at *
  clear hok hps hst hsz hm hx0 hp0
  go_enter Try.func31, Try.ntmps31
  go_wp2_with fail
  refine HX0.out.mono ?_
  rintro e w1 ⟨v, rfl, hr, hb1⟩
  have HS1 := hidden (Sg.one hb1 hr.typed _ rfl)
  rw [← HT0.out] at HS1
  obtain ⟨a1, l1, c1, rfl⟩ := rowX_slice hr
  clear hr hb1
  go_wp2
  go_loopw [7, 8, 9, 10] (fun _ nx ok pv wr => ∃ (j : Nat) (parts : Value), j ≤ m ∧ nx = .int .i64 (pos j : Nat) ∧ ok = .bool true ∧ parts = pv ∧ Sg w (((x0 :: l).take (j + 1)).map Bra.L) parts wr) (fun _ nx _ _ _ => s.size + 1 - (Go.RowKit.intOf nx).toNat)
  case atStart => exact ⟨0, _, by omega, rfl, rfl, rfl, HS1.out⟩
  case round =>
    obtain ⟨j, parts, hj, rfl, rfl, rfl, hp⟩ := hrel
    have HP := hidden hp
    clear hp
    have hpj := HPS.out j hj
    by_cases hlt : j < m
    · obtain ⟨x, hx, hX, hat, e1, e2⟩ := HOK.out j hlt
      have HAT := hidden (hX.call wr HP.out.frame)
      have hadv := hX.adv
      obtain ⟨t1, t2⟩ := HTK.out j x hx
      have HT1 := hidden t1
      have HT2 := hidden t2
      have HE2 := hidden e2
      have hnl := hX.lt
      obtain ⟨hp3, hx3⟩ := hat
      have hx3 : ((s[pos j]'hp3).toNat : Int) = 124 := hx3
      have g0 : decide (((pos j : Nat) : Int) < (s.size : Int)) = true := decide_eq_true (by omega)
      have g0' : decide (pos j < s.size) = true := decide_eq_true (by omega)
      have hadd : IntKind.i64.wrap (((pos j : Nat) : Int) + 1) = (x.p : Int) := by rw [IntKind.wrap_i64]; omega
      have HLT := hidden (show pos j < pos (j + 1) from by omega)
      rw [← e2] at HAT hnl
      generalize x.p = xp at *
      generalize x.L = xL at *
      clear t1 t2 hX hx e1 e2 hadv
      go_wp2_with fail
      refine HAT.out.mono ?_
      rintro e w2 ⟨v, rfl, hr, hb2⟩
      have HP2 := hidden ((HP.out.below hb2).below ((Below.refl w2.heap.size w2).alloc (Nat.le_refl _) (.cells #[v] 44)))
      have HV2 := hidden (typed_below hr.typed ((Below.refl w2.heap.size w2).alloc (Nat.le_refl _) (.cells #[v] 44)))
      obtain ⟨a2, l2, c2, rfl⟩ := rowX_slice hr
      clear hr hb2
      go_wp2_with (at_builtin; refine app_sg rfl _ _ rfl rfl HP2.out rfl (heap_alloc_new _ _) rfl HV2.out HT2.out (by omega) ?_; intro g' c' w4 hS4)
      have HS4 := hidden hS4
      clear hS4
      rw [← HT1.out] at HS4
      have hlt2 := HLT.out
      go_wp2
      go_roundw
      case rel => exact ⟨j + 1, _, by omega, rfl, rfl, rfl, HS4.out⟩
      case measure => simp [Go.RowKit.intOf]; omega
    · obtain rfl : j = m := by omega
      rw [HTE.out] at HP
      have HA := hidden HP.out.all
      have HC := hidden (ralt_calls wr _ _ HA.out (fun b hb => hb) (by have := HSZ.out; omega))
      have HB := hidden HP.out.frame
      have hE := HST.out
      rcases hE with hq | ⟨c, ⟨hp3, hx3⟩, hc⟩
      case' inl =>
        have g0 : decide (((pos j : Nat) : Int) < (s.size : Int)) = false := decide_eq_false (by omega)
        have g0' : decide (pos j < s.size) = false := decide_eq_false (by omega)
        clear hq
      case' inr =>
        have g0 : decide (((pos j : Nat) : Int) < (s.size : Int)) = true := decide_eq_true (by omega)
        have g0' : decide (pos j < s.size) = true := decide_eq_true (by omega)
        have q1 : ((c.toNat : Int) == 124) = false := toNat_ne (d := 124) hc
        generalize (c.toNat : Int) = nc at *
        clear hc
      all_goals
        go_wp2_with fail
        refine HC.out.mono ?_
        rintro e w2 ⟨v, rfl, hr, hb2⟩
        obtain ⟨a1, l1, c1, rfl⟩ := rowX_slice hr
        have HR := hidden (And.intro (hr.lower HB.out.size) (below_then HB.out HB.out.size hb2))
        clear hr hb2
        go_wp2
        go_ret3
        exact ⟨_, rfl, HR.out.1, HR.out.2⟩
/-! ### "(a|b)*c" -/
def bS (c : UInt8) : Stp := sStp (fOne c.toNat)
theorem k_plain (c : UInt8) (h : c = 97 ∨ c = 98 ∨ c = 99) : Plain c := by
  rcases h with rfl | rfl | rfl <;> exact ⟨by decide, by decide, by decide⟩
end Go.Proofs.Ytgaadndhecokfaa
