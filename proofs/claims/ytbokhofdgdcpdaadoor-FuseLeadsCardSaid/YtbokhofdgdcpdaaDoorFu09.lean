/- TxtRefB, FaLeads, MaMath, put together. -/
import Derived.Test.YtbokhofdgdcpdaaDoorFu08
import Derived.Test.YtbokhofdgdcpdaaDoorFu06
import Derived.Test.YtbokhofdgdcpdaaDoorFu01
import Derived.Lib.SlicesCompact
/- The reference's Begin, at the steps of a tree. -/
namespace Go.Proofs.YtbokhofdgdcpdaaDoor
open Go.RowKit Go.Lib Go.Joins

/-- block b has the steps L from place off on -/
def Lay (b off : Nat) (L : List Stp) (W : World) : Prop := b < W.heap.size ∧ ∀ i, i < L.length → RxAt W b (off + i * 5) (L.getD i default)
theorem Lay.below {b off : Nat} {L : List Stp} {W W' : World} (h : Lay b off L W) (hb : Below W.heap.size W W') : Lay b off L W' := ⟨Nat.lt_of_lt_of_le h.1 hb.size, fun i hi => (h.2 i hi).kept (hb.block b h.1)⟩
theorem getD_end (x u z : List Stp) (s : Stp) : (x ++ (u ++ [s]) ++ z).getD (x.length + u.length) default = s := by
  rw [List.getD_eq_getElem?_getD, List.getElem?_append_left (by simp), List.getElem?_append_right (by omega), List.getElem?_append_right (by omega)]
  simp
theorem ops_last : ∀ e : Ex, ∃ u s, ops e = u ++ [s] ∧ s.k = e.kind
  | .set f => ⟨[], sStp f, rfl, rfl⟩
  | .emp => ⟨[], kStp 2, rfl, rfl⟩
  | .cat a b => ⟨ops a ++ ops b, kStp 3, rfl, rfl⟩
  | .alt a b => ⟨ops a ++ ops b, kStp 4, rfl, rfl⟩
  | .un k a => ⟨ops a, kStp k, rfl, rfl⟩
theorem ops_pos (e : Ex) : 1 ≤ (ops e).length := by
  obtain ⟨u, s, h, _⟩ := ops_last e
  rw [h]
  simp
theorem at_end {L x z : List Stp} {e : Ex} {i : Nat} (hL : L = x ++ ops e ++ z) (hi : i + 1 = x.length + (ops e).length) : i < L.length ∧ (L.getD i default).k = e.kind := by
  obtain ⟨u, s, h, hs⟩ := ops_last e
  rw [h] at hL hi
  simp only [List.length_append, List.length_cons, List.length_nil] at hi
  have hi' : i = x.length + u.length := by omega
  subst hi'
  refine ⟨by rw [hL]; simp only [List.length_append, List.length_cons, List.length_nil]; omega, ?_⟩
  rw [hL, getD_end, hs]
section
variable {b off cap : Nat} {L : List Stp} {w : World}
theorem Lay.kind (h : Lay b off L w) {i : Nat} (hi : i < L.length) {k : Int} (hk : (L.getD i default).k = k) : w.cell? ⟨b, off + i * 5, none⟩ = some (.int .i64 k) := by
  rw [← hk]
  exact (h.2 i hi).1
set_option maxRecDepth 100000 in
theorem begin0 (h : Lay b off L w) {i : Nat} (hi : i < L.length) {k : Int} (hk : (L.getD i default).k = k) (ho : kOps k = 0) (_ : L.length ≤ 1000) :
    Calls Tryd.prog 77 #[.slice (some ⟨b, off, none⟩) L.length cap, .int .i64 i] w fun e w' => e = .returned (.int .i64 i) ∧ w = w' := by
  have c0 := h.kind hi hk
  have hK := rof_calls k
  rw [ho] at hK
  have HK := hidden hK
  generalize L.length = n at *
  have q0 : decide ((i : Int) < 0) = false := decide_eq_false (by omega)
  have q1 : decide ((n : Int) ≤ i) = false := decide_eq_false (by omega)
  have q2 : decide (n ≤ i) = false := decide_eq_false (by omega)
  clear h hk hK ho
  go_enter Tryd.func77, Tryd.ntmps77
  go_wp2_with fail
  refine (HK.out _).mono ?_
  rintro e w1 ⟨rfl, rfl⟩
  go_wp2
  refine wp_loop_rounds 1 ?_
  rw [rounds_succ]
  go_wp2
  go_ret
  exact ⟨rfl, rfl⟩
set_option maxRecDepth 100000 in
theorem begin1 (h : Lay b off L w) {i j y : Nat} (hi : i < L.length) {k : Int} (hk : (L.getD i default).k = k) (ho : kOps k = 1) (hl : L.length ≤ 1000) (hj : j + 1 = i) (hy : y ≤ 1000)
    (H1 : Calls Tryd.prog 77 #[.slice (some ⟨b, off, none⟩) L.length cap, .int .i64 j] w fun e w' => e = .returned (.int .i64 y) ∧ w = w') :
    Calls Tryd.prog 77 #[.slice (some ⟨b, off, none⟩) L.length cap, .int .i64 i] w fun e w' => e = .returned (.int .i64 y) ∧ w = w' := by
  have c0 := h.kind hi hk
  have hK := rof_calls k
  rw [ho] at hK
  have HK := hidden hK
  have HC := hidden H1
  generalize L.length = n at *
  have q0 : decide ((i : Int) < 0) = false := decide_eq_false (by omega)
  have q1 : decide ((n : Int) ≤ i) = false := decide_eq_false (by omega)
  have q2 : decide (n ≤ i) = false := decide_eq_false (by omega)
  have q3 : decide ((y : Int) < 0) = false := decide_eq_false (by omega)
  have hsub : IntKind.i64.wrap ((i : Int) - 1) = j := by rw [IntKind.wrap_i64]; omega
  clear h hk hK ho H1 hj
  go_enter Tryd.func77, Tryd.ntmps77
  go_wp2_with fail
  refine (HK.out _).mono ?_
  rintro e w1 ⟨rfl, rfl⟩
  go_wp2
  refine wp_loop_rounds 2 ?_
  rw [rounds_succ]
  go_wp2_with fail
  refine HC.out.mono ?_
  rintro e w1 ⟨rfl, rfl⟩
  go_wp2
  rw [rounds_succ]
  go_wp2
  go_ret
  exact ⟨rfl, rfl⟩
set_option maxRecDepth 100000 in
theorem begin2 (h : Lay b off L w) {i j y j2 y2 : Nat} (hi : i < L.length) {k : Int} (hk : (L.getD i default).k = k) (ho : kOps k = 2) (hl : L.length ≤ 1000) (hj : j + 1 = i) (hy : y ≤ 1000) (hj2 : j2 + 1 = y) (hy2 : y2 ≤ 1000)
    (H1 : Calls Tryd.prog 77 #[.slice (some ⟨b, off, none⟩) L.length cap, .int .i64 j] w fun e w' => e = .returned (.int .i64 y) ∧ w = w')
    (H2 : Calls Tryd.prog 77 #[.slice (some ⟨b, off, none⟩) L.length cap, .int .i64 j2] w fun e w' => e = .returned (.int .i64 y2) ∧ w = w') :
    Calls Tryd.prog 77 #[.slice (some ⟨b, off, none⟩) L.length cap, .int .i64 i] w fun e w' => e = .returned (.int .i64 y2) ∧ w = w' := by
  have c0 := h.kind hi hk
  have hK := rof_calls k
  rw [ho] at hK
  have HK := hidden hK
  have HC := hidden H1
  have HD := hidden H2
  generalize L.length = n at *
  have q0 : decide ((i : Int) < 0) = false := decide_eq_false (by omega)
  have q1 : decide ((n : Int) ≤ i) = false := decide_eq_false (by omega)
  have q2 : decide (n ≤ i) = false := decide_eq_false (by omega)
  have q3 : decide ((y : Int) < 0) = false := decide_eq_false (by omega)
  have q4 : decide ((y2 : Int) < 0) = false := decide_eq_false (by omega)
  have hsub : IntKind.i64.wrap ((i : Int) - 1) = j := by rw [IntKind.wrap_i64]; omega
  have hsub2 : IntKind.i64.wrap ((y : Int) - 1) = j2 := by rw [IntKind.wrap_i64]; omega
  clear h hk hK ho H1 H2 hj hj2
  go_enter Tryd.func77, Tryd.ntmps77
  go_wp2_with fail
  refine (HK.out _).mono ?_
  rintro e w1 ⟨rfl, rfl⟩
  go_wp2
  refine wp_loop_rounds 3 ?_
  rw [rounds_succ]
  go_wp2_with fail
  refine HC.out.mono ?_
  rintro e w1 ⟨rfl, rfl⟩
  go_wp2
  rw [rounds_succ]
  go_wp2_with fail
  refine HD.out.mono ?_
  rintro e w1 ⟨rfl, rfl⟩
  go_wp2
  rw [rounds_succ]
  go_wp2
  go_ret
  exact ⟨rfl, rfl⟩
theorem rbegin_calls (h : Lay b off L w) (hl : L.length ≤ 1000) : ∀ (e : Ex), e.ok → ∀ (x z : List Stp) (i : Nat), L = x ++ ops e ++ z → i + 1 = x.length + (ops e).length →
    Calls Tryd.prog 77 #[.slice (some ⟨b, off, none⟩) L.length cap, .int .i64 i] w fun e' w' => e' = .returned (.int .i64 x.length) ∧ w = w'
  | .set f, _, x, z, i, hL, hi => by
    obtain ⟨h1, h2⟩ := at_end hL hi
    have hx : i = x.length := by simp [ops] at hi; omega
    subst hx
    exact begin0 h h1 h2 rfl hl
  | .emp, _, x, z, i, hL, hi => by
    obtain ⟨h1, h2⟩ := at_end hL hi
    have hx : i = x.length := by simp [ops] at hi; omega
    subst hx
    exact begin0 h h1 h2 rfl hl
  | .un k a, ⟨hk, ha⟩, x, z, i, hL, hi => by
    obtain ⟨h1, h2⟩ := at_end hL hi
    have hp := ops_pos a
    have hlen : (ops (.un k a)).length = (ops a).length + 1 := by simp [ops]
    rw [hlen] at hi
    have hxl : x.length ≤ 1000 := by rw [hL] at hl; simp only [List.length_append] at hl; omega
    exact begin1 (j := i - 1) h h1 h2 (by rcases hk with rfl | rfl | rfl <;> rfl) hl (by omega) hxl (rbegin_calls h hl a ha x ([kStp k] ++ z) (i - 1) (by rw [hL]; simp [ops]) (by omega))
  | .cat a c, ⟨ha, hc⟩, x, z, i, hL, hi => by
    obtain ⟨h1, h2⟩ := at_end hL hi
    have hp := ops_pos a
    have hp2 := ops_pos c
    have hlen : (ops (.cat a c)).length = (ops a).length + (ops c).length + 1 := by simp [ops]; omega
    rw [hlen] at hi
    have hxl : x.length + (ops a).length ≤ 1000 := by rw [hL] at hl; simp only [List.length_append] at hl; omega
    have H1 := rbegin_calls h hl c hc (x ++ ops a) ([kStp 3] ++ z) (i - 1) (by rw [hL]; simp [ops]) (by simp only [List.length_append]; omega)
    rw [List.length_append] at H1
    exact begin2 (j := i - 1) (j2 := x.length + (ops a).length - 1) h h1 h2 rfl hl (by omega) hxl (by omega) (by omega) H1 (rbegin_calls h hl a ha x (ops c ++ [kStp 3] ++ z) _ (by rw [hL]; simp [ops]) (by omega))
  | .alt a c, ⟨ha, hc⟩, x, z, i, hL, hi => by
    obtain ⟨h1, h2⟩ := at_end hL hi
    have hp := ops_pos a
    have hp2 := ops_pos c
    have hlen : (ops (.alt a c)).length = (ops a).length + (ops c).length + 1 := by simp [ops]; omega
    rw [hlen] at hi
    have hxl : x.length + (ops a).length ≤ 1000 := by rw [hL] at hl; simp only [List.length_append] at hl; omega
    have H1 := rbegin_calls h hl c hc (x ++ ops a) ([kStp 4] ++ z) (i - 1) (by rw [hL]; simp [ops]) (by simp only [List.length_append]; omega)
    rw [List.length_append] at H1
    exact begin2 (j := i - 1) (j2 := x.length + (ops a).length - 1) h h1 h2 rfl hl (by omega) hxl (by omega) (by omega) H1 (rbegin_calls h hl a ha x (ops c ++ [kStp 4] ++ z) _ (by rw [hL]; simp [ops]) (by omega))
end
end Go.Proofs.YtbokhofdgdcpdaaDoor

/- Contract of the reference's leads: step by step, a table for each tree that waits. -/
namespace Go.Proofs.YtbokhofdgdcpdaaDoor
open Go.RowKit Go.Lib Go.Joins

/-- slice value v reads as a list of tables -/
def StR (w : World) (v : Value) (N : Nat) (Ms : List (Nat → Nat → Bool)) : Prop :=
  ∃ b cap, ∃ vals : List Value, v = .slice (some ⟨b, 0, none⟩) vals.length cap ∧ vals.length ≤ cap ∧ vals.length = Ms.length ∧ (∀ j u, vals[j]? = some u → w.cell? ⟨b, j, none⟩ = some u) ∧ ∀ j u, vals[j]? = some u → MatR w u N (Ms.getD j mSame)
theorem StR.below {w w' : World} {v : Value} {N : Nat} {Ms : List (Nat → Nat → Bool)} (h : StR w v N Ms) (hb : Below w.heap.size w w') : StR w' v N Ms := by
  obtain ⟨b, cap, vals, rfl, h1, h2, h3, h4⟩ := h
  exact ⟨b, cap, vals, rfl, h1, h2, fun j u hj => (hb.cell (p := ⟨b, j, none⟩) (cell_lt (h3 j u hj))).trans (h3 j u hj), fun j u hj => (h4 j u hj).below hb⟩
theorem infoBB : (Tryd.prog.info? 107).map (fun i => (i.zero, i.size, i.bytes)) = some (some (.slice none 0 0), 1, 24) := by kernel_rfl
/-- the first n, and one more -/
theorem StR.next {w w' : World} {N base n cap' : Nat} {g : Addr} {vals : List Value} {u : Value} {Ms : List (Nat → Nat → Bool)} {M : Nat → Nat → Bool} (hl : vals.length = Ms.length) (h4 : ∀ j u, vals[j]? = some u → MatR w u N (Ms.getD j mSame)) (hn : n ≤ vals.length) (hu : MatR w u N M)
    (hown : w'.ownsRow base 107 1 (.slice (some g) (n + 1) cap') (n + 1) (vals.take n ++ [u])) (hb : Below w.heap.size w w') : StR w' (.slice (some g) (n + 1) cap') N (Ms.take n ++ [M]) := by
  have hlen : (vals.take n ++ [u]).length = n + 1 := by simp; omega
  rcases hown.2 with ⟨h, _⟩ | ⟨g', c', cur, e, _, hg, h5, _⟩
  · cases h
  · simp only [Value.slice.injEq, Option.some.injEq, true_and] at e
    obtain ⟨rfl, rfl⟩ := e
    refine ⟨g', cap', vals.take n ++ [u], by rw [hlen], by rw [hlen]; exact h5, by rw [hlen]; simp; omega, fun j x hj => ?_, fun j x hj => ?_⟩
    · have hjl : j < n + 1 := by rw [← hlen]; exact (List.getElem?_eq_some_iff.1 hj).1
      rw [World.ownsRow.cellAt hown j (by omega)]
      exact hj
    · by_cases hjn : j < n
      · rw [List.getElem?_append_left (by simp; omega), List.getElem?_take, if_pos hjn] at hj
        have h6 := (h4 j x hj).below hb
        have e : (Ms.take n ++ [M]).getD j mSame = Ms.getD j mSame := by
          rw [List.getD_eq_getElem?_getD, List.getD_eq_getElem?_getD, List.getElem?_append_left (by simp; omega), List.getElem?_take, if_pos hjn]
        rw [e]
        exact h6
      · have hjl : j < n + 1 := by rw [← hlen]; exact (List.getElem?_eq_some_iff.1 hj).1
        obtain rfl : j = n := by omega
        have hl1 : (vals.take j).length = j := by simp; omega
        have hl2 : (Ms.take j).length = j := by simp; omega
        rw [List.getElem?_append_right (by omega), hl1, Nat.sub_self] at hj
        simp only [List.getElem?_cons_zero, Option.some.injEq] at hj
        subst hj
        have e : (Ms.take j ++ [M]).getD j mSame = M := by
          rw [List.getD_eq_getElem?_getD, List.getElem?_append_right (by omega), hl2, Nat.sub_self]
          rfl
        rw [e]
        exact hu.below hb
/-- what the two appends want -/
theorem st_empty (w : World) (t : TypeId) : (w.alloc (.cells #[] t)).ownsRow w.heap.size t 1 (.slice (some ⟨w.heap.size, 0, none⟩) 0 0) 0 [] := World.ownsRow_lit (e := t) (size := 1) w #[] 0 (Nat.le_refl _) (by decide) rfl
/-- the tables of the trees -/
noncomputable def tabs (W : List Nat) (es : List Ex) : List (Nat → Nat → Bool) := es.map fun e => lgB e W
theorem tabs_len (W : List Nat) (es : List Ex) : (tabs W es).length = es.length := by simp [tabs]
theorem tabs_at (W : List Nat) (r q : List Ex) (e : Ex) (j : Nat) (hj : j = r.length) : (tabs W (r ++ e :: q)).getD j mSame = lgB e W := by
  subst hj
  simp [tabs, List.getD_eq_getElem?_getD]
theorem tabs_take (W : List Nat) (r q : List Ex) (e : Ex) (j : Nat) (hj : j = r.length) : (tabs W (r ++ q)).take j ++ [lgB e W] = tabs W (r ++ [e]) := by
  subst hj
  have h : (r.map fun e => lgB e W).length = r.length := by simp
  unfold tabs
  rw [List.map_append, ← h, List.take_left, List.map_append]
  rfl
theorem tabs_take0 (W : List Nat) (r : List Ex) (e : Ex) (j : Nat) (hj : j = r.length) : (tabs W r).take j ++ [lgB e W] = tabs W (r ++ [e]) := by
  have := tabs_take W r [] e j hj
  rwa [List.append_nil] at this
theorem vals_take {w : World} {b n : Nat} {vals : List Value} (h : ∀ j u, vals[j]? = some u → w.cell? ⟨b, j, none⟩ = some u) (o : Obj) : ∀ j u, (vals.take n)[j]? = some u → (w.alloc o).cell? ((⟨b, 0, none⟩ : Addr).add j) = some u := by
  intro j u hj
  rw [List.getElem?_take] at hj
  split at hj
  · have h1 := h j u hj
    rw [Addr.add_lit, Nat.zero_add]
    exact (World.cell?_of_block (a := ⟨b, j, none⟩) (heap_alloc_old w o (cell_lt h1))).trans h1
  · cases hj
/-- the first n tables are put into a new list -/
theorem app_copy {w : World} {ops : Array Oper} {rest : List Oper} {o : Oper} {a : Act} {Q : Exit → Act → World → Prop} (hgd : o.guard = none) (s x : Operand)
    (ho : o.op = .call { callee := .builtin .append, args := #[s, x], argTypes := #[112, 112] }) {b0 sb n scap : Nat} {vals : List Value}
    (hs : a.eval s = .slice (some ⟨b0, 0, none⟩) 0 0) (hb0 : w.heap[b0]? = some (.cells #[] 107)) (hx : a.eval x = .slice (some ⟨sb, 0, none⟩) n scap)
    (hc : ∀ j u, vals[j]? = some u → w.cell? ⟨sb, j, none⟩ = some u) (h1 : ∀ u ∈ vals, u.oneCell' = true) (hn : n ≤ vals.length) (hn2 : n ≤ 1000)
    (h : ∀ g' c' w', w'.ownsRow b0 107 1 (.slice (some ⟨g', 0, none⟩) n c') n (vals.take n) → Below b0 w w' → wpList Tryd.prog ops Q rest (a.put o.dst (.slice (some ⟨g', 0, none⟩) n c')) w') : wpList Tryd.prog ops Q (o :: rest) a w := by
  obtain ⟨i0, hi, hz0, hz1, hz2⟩ := info_parts infoBB
  have hlt := (Array.getElem?_eq_some_iff.1 hb0).1
  have hown : w.ownsRow b0 107 1 (.slice (some ⟨b0, 0, none⟩) 0 0) 0 [] := ⟨rfl, .inr ⟨b0, 0, #[], rfl, Nat.le_refl _, hb0, Nat.le_refl _, by decide, rfl, rfl⟩⟩
  refine wpList_append_own w hgd s x 112 ho b0 107 i0 _ 1 24 Tryd.underlying112 hi hz0 hz1 hz2 rfl (by decide) _ 0 [] hs hown ⟨sb, 0, none⟩ n scap (vals.take n) hx (by simp; omega) (fun j u hj => ?_) (fun u hu => h1 u (List.mem_of_mem_take hu)) (by unfold maxLen; omega) (by omega) (Nat.le_of_lt hlt) fun v' w' h3 h4 hnil => ?_
  · rw [List.getElem?_take] at hj
    split at hj
    · rw [Addr.add_lit, Nat.zero_add]; exact hc j u hj
    · cases hj
  · rw [Nat.zero_add, List.nil_append] at h3
    have hb : Below b0 w w' := (Below.refl b0 w).grown h4 (Nat.le_of_lt hlt) fun k e => by simp only [Value.ownBlock, Option.some.injEq] at e; omega
    rcases ownsRow_forms h3 with ⟨rfl, h0⟩ | ⟨g, c, rfl⟩
    · cases (hnil.1 rfl).1
    · exact h g c w' h3 hb
/-- and one more -/
theorem app_one {w : World} {ops : Array Oper} {rest : List Oper} {o : Oper} {a : Act} {Q : Exit → Act → World → Prop} (hgd : o.guard = none) (s x : Operand)
    (ho : o.op = .call { callee := .builtin .append, args := #[s, x], argTypes := #[112, 112] }) {b0 g c n xb : Nat} {xs : List Value} {u : Value}
    (hs : a.eval s = .slice (some ⟨g, 0, none⟩) n c) (hown : w.ownsRow b0 107 1 (.slice (some ⟨g, 0, none⟩) n c) n xs) (hx : a.eval x = .slice (some ⟨xb, 0, none⟩) 1 1)
    (hxb : w.heap[xb]? = some (.cells #[u] 107)) (h1 : u.oneCell' = true) (hn2 : n ≤ 1000) (hb0 : b0 ≤ w.heap.size)
    (h : ∀ g' c' w', w'.ownsRow b0 107 1 (.slice (some ⟨g', 0, none⟩) (n + 1) c') (n + 1) (xs ++ [u]) → Below b0 w w' → wpList Tryd.prog ops Q rest (a.put o.dst (.slice (some ⟨g', 0, none⟩) (n + 1) c')) w') : wpList Tryd.prog ops Q (o :: rest) a w := by
  obtain ⟨i0, hi, hz0, hz1, hz2⟩ := info_parts infoBB
  refine wpList_append_own w hgd s x 112 ho b0 107 i0 _ 1 24 Tryd.underlying112 hi hz0 hz1 hz2 rfl (by decide) _ n xs hs hown ⟨xb, 0, none⟩ 1 1 [u] hx rfl (fun j x hj => ?_) (fun x hx => by simp at hx; subst hx; exact h1) (by unfold maxLen; omega) (by omega) hb0 fun v' w' h3 h4 _ => ?_
  · match j, hj with
    | 0, hj =>
      simp only [List.getElem?_cons_zero, Option.some.injEq] at hj
      subst hj
      rw [Addr.add_lit, cell_of_row w xb _ _ _ _ hxb]
      rfl
  · have hb : Below b0 w w' := (Below.refl b0 w).grown h4 hb0 fun k e => (hown.lt k e).1
    rcases ownsRow_forms h3 with ⟨_, h0⟩ | ⟨g, c, rfl⟩
    · omega
    · exact h g c w' h3 hb
set_option maxHeartbeats 16000000 in
set_option maxRecDepth 100000 in
theorem leads_calls {C : Nat → Prop} {v0 : Value} {L : List Stp} {w : World} (h : SlX C w v0 L) (hC : ∀ b, C b → b < w.heap.size) (s : ByteArray) (hs : s.size ≤ 1000) (hv : (measV L).2 = 0) (hwd : ∀ s ∈ L, s.wide) :
    Calls Tryd.prog 87 #[v0, .string s] w (RetR w (s.size + 1) (lgB (treeE L) (byN s))) := by
  obtain ⟨h512, hE⟩ := meas_expr hv
  have hpos := expr_ne hE
  obtain ⟨a, cap, rfl, hl, hcap, _, hS⟩ := h
  obtain ⟨b, off, rfl, hCb, hc⟩ := hS.2 hpos
  have hbl := hC b hCb
  obtain ⟨hone, hok, _⟩ := tree_of hE hwd
  obtain ⟨i0, hi, hz0, hz1, hz2⟩ := info_parts infoBB
  have HNX := hidden (fun k (hk : k < L.length) => next_of hk hE.1 hwd (forms_at hE.1 hwd k (by omega)))
  have HFO := hidden (fun k (hk : k ≤ L.length) => forms_at hE.1 hwd k hk)
  have HCE := hidden (fun W (hW : Below w.heap.size w W) k (hk : k < L.length) => (hc k hk).kept (w' := W) (hW.block b hbl))
  have HONE := hidden hone
  obtain ⟨n, hn⟩ : ∃ n, n = L.length := ⟨_, rfl⟩
  rw [← hn] at HNX HFO HCE HONE h512 hpos hl ⊢
  obtain ⟨WD, hWD⟩ : ∃ WD, WD = byN s := ⟨_, rfl⟩
  have HLen := hidden (byN_len s)
  have HLt := hidden (byN_lt s)
  have HSET := hidden (fun W f => setR s W hs f)
  rw [← hWD] at HLen HLt HSET ⊢
  obtain ⟨T, hT⟩ : ∃ T, T = trees L := ⟨_, rfl⟩
  rw [← hT] at HNX HFO HONE
  have HO := hidden (fun k W => rof_calls k W)
  have HSAME := hidden (fun W => sameR s W hs)
  have HBOTH := hidden (fun W va vb A B => @bothR s W hs A B va vb)
  have HBEH := hidden (fun W va vb A B => @behindR s W hs A B va vb)
  have HAG := hidden (fun W va A => again_calls s A va W hs)
  have HL1 : Hid (WD.length + 1 = s.size + 1) := hidden (by rw [HLen.out])
  have HST0 := hidden (show StR (w.alloc (.cells #[] 107)) (.slice (some ⟨w.heap.size, 0, none⟩) 0 0) (s.size + 1) (tabs WD (T 0)) from by
    have e : T 0 = [] := by rw [hT]; rfl
    rw [e]
    exact ⟨_, 0, [], rfl, Nat.le_refl _, rfl, fun j u hj => by simp at hj, fun j u hj => by simp at hj⟩)
  clear hE hS hc hC hCb hone hok hv hwd hn hT hWD hcap
  go_enter Tryd.func87, Tryd.ntmps87
  go_wp2
  go_loopw [5, 6, 7, 8] (fun v i _ _ wr => ∃ k : Nat, k ≤ n ∧ i = .int .i64 k ∧ StR wr v (s.size + 1) (tabs WD (T k)) ∧ Below w.heap.size w wr) (fun _ i _ _ _ => n - (intOf i).toNat)
  case atStart => exact ⟨0, by omega, rfl, HST0.out, (Below.refl _ _).alloc (Nat.le_refl _) _⟩
  case round =>
    obtain ⟨k, hk, rfl, hst, hb⟩ := hrel
    have HST := hidden hst
    have HB := hidden hb
    obtain ⟨sb, scap, vals, rfl, v1, v2, v3, v4⟩ := hst
    have HV := hidden (And.intro v2 (And.intro v3 v4))
    clear hb v3 v4
    by_cases hlt : k < n
    · obtain ⟨hnx, _⟩ := HNX.out k hlt
      have HR := hidden (fun W (hW : Below wr.heap.size wr W) => HCE.out W (below_after HB.out hW) k hlt)
      have HVB := hidden (fun W (hW : Below wr.heap.size wr W) => (show (∀ j u, vals[j]? = some u → W.cell? ⟨sb, j, none⟩ = some u) ∧ ∀ j u, vals[j]? = some u → MatR W u (s.size + 1) ((tabs WD (T k)).getD j mSame) from
        ⟨fun j u hj => (hW.cell (p := ⟨sb, j, none⟩) (cell_lt (HV.out.2.1 j u hj))).trans (HV.out.2.1 j u hj), fun j u hj => (HV.out.2.2 j u hj).below hW⟩))
      have HK1 := hidden hlt
      have hvl : vals.length ≤ 512 := by
        rw [v2, tabs_len]
        obtain ⟨g1, g2⟩ := HFO.out k hk
        have h1 := flat_net _ g2
        have h3 : ∀ es : List Ex, es.length ≤ (es.flatMap ops).length := fun es => by
          induction es with
          | nil => simp
          | cons e r ih =>
            have := ops_pos e
            simp only [List.flatMap_cons, List.length_append, List.length_cons]
            omega
        have h2 := h3 (T k)
        rw [g1, List.length_take] at h2
        omega
      generalize L.getD k default = sk at *
      rw [tabs_len] at v2
      obtain ⟨TK, hTK⟩ : ∃ TK, TK = T k := ⟨_, rfl⟩
      obtain ⟨TK1, hTK1⟩ : ∃ TK1, TK1 = T (k + 1) := ⟨_, rfl⟩
      rw [← hTK] at hnx HV HVB HST v2
      rw [← hTK1] at hnx
      have HTK1 := hidden hTK1
      obtain ⟨K, hK⟩ : ∃ K, K = vals.length := ⟨_, rfl⟩
      rw [← hK] at v2 hvl v1 ⊢
      have HK := hidden hK
      clear hTK hTK1 hlt
      cases hnx with
      | set r h1 he =>
        have hkind : sk.k = 1 := h1
        obtain ⟨f, hf⟩ : ∃ f, f = bitsE sk := ⟨_, rfl⟩
        rw [← hf] at he HTK1
        have HKc := hidden (fun (W : World) (hW : Below wr.heap.size wr W) => (show W.cell? ⟨b, off + k * 5, none⟩ = some (.int .i64 (1)) from by have := (HR.out W hW).1; rw [hkind] at this; exact this))
        have HOk := hidden (fun (W : World) => (show Calls Tryd.prog 57 #[.int .i64 (1)] W fun e w' => e = .returned (.int .i64 (0)) ∧ W = w' from HO.out (1) W))
        have c0 := HKc.out wr (Below.refl _ _)
        have HW := hidden (fun (W : World) (hW : Below wr.heap.size wr W) => (show W.cell? ⟨b, off + k * 5 + 1, none⟩ = some (.int .u64 (word f 0)) ∧ W.cell? ⟨b, off + k * 5 + 2, none⟩ = some (.int .u64 (word f 1)) ∧ W.cell? ⟨b, off + k * 5 + 3, none⟩ = some (.int .u64 (word f 2)) ∧ W.cell? ⟨b, off + k * 5 + 4, none⟩ = some (.int .u64 (word f 3)) from by have := (HR.out W hW).2; rw [he] at this; exact this))
        have hn' : K ≤ 1000 := by omega
        have HN2 := hidden (show K ≤ vals.length by omega)
        have HN3 := hidden hn'
        have HNR := hidden (show K = TK.length from v2)
        have HV2 := hidden (show vals.length = (tabs WD TK).length by rw [tabs_len, ← v2, hK])
        have hw0 : IntKind.i64.wrap (K : Int) = (K : Int) := by rw [IntKind.wrap_i64]; omega
        clear he hf hkind h1 hK v2
        go_wp2_with fail
        refine (HOk.out _).mono ?_
        rintro e w1 ⟨rfl, rfl⟩
        go_wp2_with fail
        refine (HSAME.out _).mono ?_
        rintro e w1 ⟨x, rfl, hx, hb1⟩
        have HX := hidden hx
        have HB1 := hidden hb1
        obtain ⟨bx, ox, cx, rfl⟩ := hx.form
        have c1 := HKc.out w1 hb1
        obtain ⟨c2, c3, c4, c5⟩ := HW.out w1 hb1
        clear hx hb1
        go_wp2_with fail
        refine (HSET.out _ f).mono ?_
        rintro e w2 ⟨u, rfl, hu, hb2⟩
        have hbm := below_after HB1.out hb2
        have HU := hidden (hu.congr (by have := mat_set f HLt.out; rw [HL1.out] at this; exact this))
        obtain ⟨bu, ou, cu, rfl⟩ := hu.form
        clear hu hb2
        have HBm := hidden (below_after HB.out hbm)
        have HBw := hidden hbm
        have HVm := hidden (HVB.out w2 hbm)
        have HONEC := hidden (fun u (hu : u ∈ vals) => (show u.oneCell' = true from by
          obtain ⟨j, hj⟩ := List.getElem?_of_mem hu
          obtain ⟨_, _, _, rfl⟩ := (HVm.out.2 j u hj).form
          rfl))
        clear hbm
        go_wp2_with (at_builtin; first
          | (refine app_copy (vals := vals) (b0 := w2.heap.size) rfl _ _ rfl rfl (heap_alloc_new w2 _) rfl (fun j u hj => (World.cell?_of_block (a := ⟨sb, j, none⟩) (heap_alloc_old w2 _ (cell_lt (HVm.out.1 j u hj)))).trans (HVm.out.1 j u hj)) HONEC.out HN2.out HN3.out ?_; intro g5 c5 w5 hown5 hb5; have HO5 := hidden hown5; have HB5 := hidden (Below.trans ((Below.refl w2.heap.size w2).alloc (Nat.le_refl _) _) hb5); have hs5 := HB5.out.size; clear hown5 hb5)
          | (refine app_one (b0 := w2.heap.size) (u := .slice (some ⟨bu, ou, none⟩) (s.size + 1) cu) rfl _ _ rfl rfl (World.ownsRow.alloc HO5.out _) rfl (heap_alloc_new w5 _) rfl HN3.out (by simp; omega) ?_; intro g6 c6 w6 hown6 hb6; have HO6 := hidden hown6; have HB6 := hidden (Below.trans (HB5.out.alloc hs5 _) hb6); clear hown6 hb6))
        have HS6 := hidden (StR.next HV2.out HVm.out.2 HN2.out HU.out HO6.out HB6.out)
        rw [tabs_take0 WD TK _ _ HNR.out, HTK1.out] at HS6
        go_wp2
        go_roundw
        case rel => exact ⟨k + 1, by have := HK1.out; omega, by have := HK1.out; go_num, HS6.out, below_after HBm.out HB6.out⟩
        case measure => have := HK1.out; simp [intOf]; omega
      | emp r he =>
        have hkind : sk.k = 2 := by rw [he]; rfl
        have HKc := hidden (fun (W : World) (hW : Below wr.heap.size wr W) => (show W.cell? ⟨b, off + k * 5, none⟩ = some (.int .i64 (2)) from by have := (HR.out W hW).1; rw [hkind] at this; exact this))
        have HOk := hidden (fun (W : World) => (show Calls Tryd.prog 57 #[.int .i64 (2)] W fun e w' => e = .returned (.int .i64 (0)) ∧ W = w' from HO.out (2) W))
        have c0 := HKc.out wr (Below.refl _ _)
        have hn' : K ≤ 1000 := by omega
        have HN2 := hidden (show K ≤ vals.length by omega)
        have HN3 := hidden hn'
        have HNR := hidden (show K = TK.length from v2)
        have HV2 := hidden (show vals.length = (tabs WD TK).length by rw [tabs_len, ← v2, hK])
        have hw0 : IntKind.i64.wrap (K : Int) = (K : Int) := by rw [IntKind.wrap_i64]; omega
        clear he hkind hK v2
        go_wp2_with fail
        refine (HOk.out _).mono ?_
        rintro e w1 ⟨rfl, rfl⟩
        go_wp2_with fail
        refine (HSAME.out _).mono ?_
        rintro e w1 ⟨x, rfl, hx, hb1⟩
        have HX := hidden hx
        have HB1 := hidden hb1
        obtain ⟨bx, ox, cx, rfl⟩ := hx.form
        have c1 := HKc.out w1 hb1
        have hbm := hb1
        have HU := hidden (hx.congr (by have := mat_emp WD; rw [HL1.out] at this; exact this))
        clear hx hb1
        have HBm := hidden (below_after HB.out hbm)
        have HBw := hidden hbm
        have HVm := hidden (HVB.out w1 hbm)
        have HONEC := hidden (fun u (hu : u ∈ vals) => (show u.oneCell' = true from by
          obtain ⟨j, hj⟩ := List.getElem?_of_mem hu
          obtain ⟨_, _, _, rfl⟩ := (HVm.out.2 j u hj).form
          rfl))
        clear hbm
        go_wp2_with (at_builtin; first
          | (refine app_copy (vals := vals) (b0 := w1.heap.size) rfl _ _ rfl rfl (heap_alloc_new w1 _) rfl (fun j u hj => (World.cell?_of_block (a := ⟨sb, j, none⟩) (heap_alloc_old w1 _ (cell_lt (HVm.out.1 j u hj)))).trans (HVm.out.1 j u hj)) HONEC.out HN2.out HN3.out ?_; intro g5 c5 w5 hown5 hb5; have HO5 := hidden hown5; have HB5 := hidden (Below.trans ((Below.refl w1.heap.size w1).alloc (Nat.le_refl _) _) hb5); have hs5 := HB5.out.size; clear hown5 hb5)
          | (refine app_one (b0 := w1.heap.size) (u := .slice (some ⟨bx, ox, none⟩) (s.size + 1) cx) rfl _ _ rfl rfl (World.ownsRow.alloc HO5.out _) rfl (heap_alloc_new w5 _) rfl HN3.out (by simp; omega) ?_; intro g6 c6 w6 hown6 hb6; have HO6 := hidden hown6; have HB6 := hidden (Below.trans (HB5.out.alloc hs5 _) hb6); clear hown6 hb6))
        have HS6 := hidden (StR.next HV2.out HVm.out.2 HN2.out HU.out HO6.out HB6.out)
        rw [tabs_take0 WD TK _ _ HNR.out, HTK1.out] at HS6
        go_wp2
        go_roundw
        case rel => exact ⟨k + 1, by have := HK1.out; omega, by have := HK1.out; go_num, HS6.out, below_after HBm.out HB6.out⟩
        case measure => have := HK1.out; simp [intOf]; omega
      | cat r x y he =>
        have hkind : sk.k = 3 := by rw [he]; rfl
        have HKc := hidden (fun (W : World) (hW : Below wr.heap.size wr W) => (show W.cell? ⟨b, off + k * 5, none⟩ = some (.int .i64 (3)) from by have := (HR.out W hW).1; rw [hkind] at this; exact this))
        have HOk := hidden (fun (W : World) => (show Calls Tryd.prog 57 #[.int .i64 (3)] W fun e w' => e = .returned (.int .i64 (2)) ∧ W = w' from HO.out (3) W))
        have c0 := HKc.out wr (Below.refl _ _)
        obtain ⟨n', hnr⟩ : ∃ n', n' = r.length := ⟨_, rfl⟩
        have hKn : K = n' + 2 := by rw [v2, hnr]; simp
        obtain ⟨n1, hn1⟩ : ∃ n1, n1 = n' + 1 := ⟨_, rfl⟩
        have hw1 : IntKind.i64.wrap ((K : Int) - 2) = (n' : Int) := by rw [IntKind.wrap_i64]; omega
        have hw2 : IntKind.i64.wrap ((n' : Int) + 1) = (n1 : Int) := by rw [IntKind.wrap_i64]; omega
        have hlt1 : n' < K := by omega
        have hlt2 : n1 < K := by omega
        have HN2 := hidden (show n' ≤ vals.length by omega)
        have HN3 := hidden (show n' ≤ 1000 by omega)
        have HNR := hidden hnr
        have HV2 := hidden (show vals.length = (tabs WD (r ++ [x, y])).length by rw [tabs_len, ← v2, hK])
        obtain ⟨ua, hua⟩ : ∃ u, vals[n']? = some u := ⟨vals[n']'(by omega), by simp⟩
        obtain ⟨ub, hub⟩ : ∃ u, vals[n1]? = some u := ⟨vals[n1]'(by omega), by simp⟩
        have HVC := hidden (fun (W : World) (hW : Below wr.heap.size wr W) => (show (W.cell? ⟨sb, n', none⟩ = some ua ∧ W.cell? ⟨sb, n1, none⟩ = some ub) ∧ MatR W ua (s.size + 1) (lgB x WD) ∧ MatR W ub (s.size + 1) (lgB y WD) from by
          have g1 := (HVB.out W hW).1
          have g2 := (HVB.out W hW).2 n' ua hua
          have g3 := (HVB.out W hW).2 n1 ub hub
          rw [tabs_at WD r [y] x n' hnr] at g2
          rw [show r ++ [x, y] = (r ++ [x]) ++ y :: [] by simp, tabs_at WD (r ++ [x]) [] y n1 (by simp; omega)] at g3
          exact ⟨⟨g1 n' ua hua, g1 n1 ub hub⟩, g2, g3⟩))
        obtain ⟨ba, oa, ca, rfl⟩ := ((HVC.out wr (Below.refl _ _)).2.1).form
        obtain ⟨bb, ob, cb, rfl⟩ := ((HVC.out wr (Below.refl _ _)).2.2).form
        clear he hkind hK hKn hn1 hnr hua hub v2
        go_wp2_with fail
        refine (HOk.out _).mono ?_
        rintro e w1 ⟨rfl, rfl⟩
        go_wp2_with fail
        refine (HSAME.out _).mono ?_
        rintro e w1 ⟨xx, rfl, hx, hb1⟩
        have HX := hidden hx
        have HB1 := hidden hb1
        obtain ⟨bx, ox, cx, rfl⟩ := hx.form
        have c1 := HKc.out w1 hb1
        obtain ⟨c2, c3⟩ := (HVC.out w1 hb1).1
        have HM1 := hidden (HVC.out w1 hb1).2
        have HM1d := hidden (show MatR w1.drew (.slice (some ⟨ba, oa, none⟩) (s.size + 1) ca) (s.size + 1) (lgB x WD) ∧ MatR w1.drew (.slice (some ⟨bb, ob, none⟩) (s.size + 1) cb) (s.size + 1) (lgB y WD) from HM1.out)
        clear hx hb1
        go_wp2
        go_region_with (go_at_call 97; refine (HBEH.out _ _ _ _ _ HM1d.out.1 HM1d.out.2).mono ?_; rintro e w2 ⟨u, rfl, hu, hb2⟩; have hbm := below_after (show Below wr.heap.size wr w1.drew from HB1.out.drew) hb2; have HU := hidden (hu.congr (by have := mat_cat x y WD; rw [HL1.out] at this; exact this)); obtain ⟨bu, ou, cu, rfl⟩ := hu.form; clear hu hb2)
        all_goals
          have HBm := hidden (below_after HB.out hbm)
          have HBw := hidden hbm
          have HVm := hidden (HVB.out w2 hbm)
          have HONEC := hidden (fun u (hu : u ∈ vals) => (show u.oneCell' = true from by
            obtain ⟨j, hj⟩ := List.getElem?_of_mem hu
            obtain ⟨_, _, _, rfl⟩ := (HVm.out.2 j u hj).form
            rfl))
          clear hbm
          go_wp2_with (at_builtin; first
            | (refine app_copy (vals := vals) (b0 := w2.heap.size) rfl _ _ rfl rfl (heap_alloc_new w2 _) rfl (fun j u hj => (World.cell?_of_block (a := ⟨sb, j, none⟩) (heap_alloc_old w2 _ (cell_lt (HVm.out.1 j u hj)))).trans (HVm.out.1 j u hj)) HONEC.out HN2.out HN3.out ?_; intro g5 c5 w5 hown5 hb5; have HO5 := hidden hown5; have HB5 := hidden (Below.trans ((Below.refl w2.heap.size w2).alloc (Nat.le_refl _) _) hb5); have hs5 := HB5.out.size; clear hown5 hb5)
            | (refine app_one (b0 := w2.heap.size) (u := .slice (some ⟨bu, ou, none⟩) (s.size + 1) cu) rfl _ _ rfl rfl (World.ownsRow.alloc HO5.out _) rfl (heap_alloc_new w5 _) rfl HN3.out (by simp; omega) ?_; intro g6 c6 w6 hown6 hb6; have HO6 := hidden hown6; have HB6 := hidden (Below.trans (HB5.out.alloc hs5 _) hb6); clear hown6 hb6))
          have HS6 := hidden (StR.next HV2.out HVm.out.2 HN2.out HU.out HO6.out HB6.out)
          rw [tabs_take WD r [x, y] _ _ HNR.out, HTK1.out] at HS6
          go_wp2
          go_roundw
          case rel => exact ⟨k + 1, by have := HK1.out; omega, by have := HK1.out; go_num, HS6.out, below_after HBm.out HB6.out⟩
          case measure => have := HK1.out; simp [intOf]; omega
      | alt r x y he =>
        have hkind : sk.k = 4 := by rw [he]; rfl
        have HKc := hidden (fun (W : World) (hW : Below wr.heap.size wr W) => (show W.cell? ⟨b, off + k * 5, none⟩ = some (.int .i64 (4)) from by have := (HR.out W hW).1; rw [hkind] at this; exact this))
        have HOk := hidden (fun (W : World) => (show Calls Tryd.prog 57 #[.int .i64 (4)] W fun e w' => e = .returned (.int .i64 (2)) ∧ W = w' from HO.out (4) W))
        have c0 := HKc.out wr (Below.refl _ _)
        obtain ⟨n', hnr⟩ : ∃ n', n' = r.length := ⟨_, rfl⟩
        have hKn : K = n' + 2 := by rw [v2, hnr]; simp
        obtain ⟨n1, hn1⟩ : ∃ n1, n1 = n' + 1 := ⟨_, rfl⟩
        have hw1 : IntKind.i64.wrap ((K : Int) - 2) = (n' : Int) := by rw [IntKind.wrap_i64]; omega
        have hw2 : IntKind.i64.wrap ((n' : Int) + 1) = (n1 : Int) := by rw [IntKind.wrap_i64]; omega
        have hlt1 : n' < K := by omega
        have hlt2 : n1 < K := by omega
        have HN2 := hidden (show n' ≤ vals.length by omega)
        have HN3 := hidden (show n' ≤ 1000 by omega)
        have HNR := hidden hnr
        have HV2 := hidden (show vals.length = (tabs WD (r ++ [x, y])).length by rw [tabs_len, ← v2, hK])
        obtain ⟨ua, hua⟩ : ∃ u, vals[n']? = some u := ⟨vals[n']'(by omega), by simp⟩
        obtain ⟨ub, hub⟩ : ∃ u, vals[n1]? = some u := ⟨vals[n1]'(by omega), by simp⟩
        have HVC := hidden (fun (W : World) (hW : Below wr.heap.size wr W) => (show (W.cell? ⟨sb, n', none⟩ = some ua ∧ W.cell? ⟨sb, n1, none⟩ = some ub) ∧ MatR W ua (s.size + 1) (lgB x WD) ∧ MatR W ub (s.size + 1) (lgB y WD) from by
          have g1 := (HVB.out W hW).1
          have g2 := (HVB.out W hW).2 n' ua hua
          have g3 := (HVB.out W hW).2 n1 ub hub
          rw [tabs_at WD r [y] x n' hnr] at g2
          rw [show r ++ [x, y] = (r ++ [x]) ++ y :: [] by simp, tabs_at WD (r ++ [x]) [] y n1 (by simp; omega)] at g3
          exact ⟨⟨g1 n' ua hua, g1 n1 ub hub⟩, g2, g3⟩))
        obtain ⟨ba, oa, ca, rfl⟩ := ((HVC.out wr (Below.refl _ _)).2.1).form
        obtain ⟨bb, ob, cb, rfl⟩ := ((HVC.out wr (Below.refl _ _)).2.2).form
        clear he hkind hK hKn hn1 hnr hua hub v2
        go_wp2_with fail
        refine (HOk.out _).mono ?_
        rintro e w1 ⟨rfl, rfl⟩
        go_wp2_with fail
        refine (HSAME.out _).mono ?_
        rintro e w1 ⟨xx, rfl, hx, hb1⟩
        have HX := hidden hx
        have HB1 := hidden hb1
        obtain ⟨bx, ox, cx, rfl⟩ := hx.form
        have c1 := HKc.out w1 hb1
        obtain ⟨c2, c3⟩ := (HVC.out w1 hb1).1
        have HM1 := hidden (HVC.out w1 hb1).2
        have HM1d := hidden (show MatR w1.drew (.slice (some ⟨ba, oa, none⟩) (s.size + 1) ca) (s.size + 1) (lgB x WD) ∧ MatR w1.drew (.slice (some ⟨bb, ob, none⟩) (s.size + 1) cb) (s.size + 1) (lgB y WD) from HM1.out)
        clear hx hb1
        go_wp2
        go_region_with (go_at_call 98; refine (HBOTH.out _ _ _ _ _ HM1d.out.1 HM1d.out.2).mono ?_; rintro e w2 ⟨u, rfl, hu, hb2⟩; have hbm := below_after (show Below wr.heap.size wr w1.drew from HB1.out.drew) hb2; have HU := hidden (hu.congr (by have := mat_alt x y WD; rw [HL1.out] at this; exact this)); obtain ⟨bu, ou, cu, rfl⟩ := hu.form; clear hu hb2)
        all_goals
          have HBm := hidden (below_after HB.out hbm)
          have HBw := hidden hbm
          have HVm := hidden (HVB.out w2 hbm)
          have HONEC := hidden (fun u (hu : u ∈ vals) => (show u.oneCell' = true from by
            obtain ⟨j, hj⟩ := List.getElem?_of_mem hu
            obtain ⟨_, _, _, rfl⟩ := (HVm.out.2 j u hj).form
            rfl))
          clear hbm
          go_wp2_with (at_builtin; first
            | (refine app_copy (vals := vals) (b0 := w2.heap.size) rfl _ _ rfl rfl (heap_alloc_new w2 _) rfl (fun j u hj => (World.cell?_of_block (a := ⟨sb, j, none⟩) (heap_alloc_old w2 _ (cell_lt (HVm.out.1 j u hj)))).trans (HVm.out.1 j u hj)) HONEC.out HN2.out HN3.out ?_; intro g5 c5 w5 hown5 hb5; have HO5 := hidden hown5; have HB5 := hidden (Below.trans ((Below.refl w2.heap.size w2).alloc (Nat.le_refl _) _) hb5); have hs5 := HB5.out.size; clear hown5 hb5)
            | (refine app_one (b0 := w2.heap.size) (u := .slice (some ⟨bu, ou, none⟩) (s.size + 1) cu) rfl _ _ rfl rfl (World.ownsRow.alloc HO5.out _) rfl (heap_alloc_new w5 _) rfl HN3.out (by simp; omega) ?_; intro g6 c6 w6 hown6 hb6; have HO6 := hidden hown6; have HB6 := hidden (Below.trans (HB5.out.alloc hs5 _) hb6); clear hown6 hb6))
          have HS6 := hidden (StR.next HV2.out HVm.out.2 HN2.out HU.out HO6.out HB6.out)
          rw [tabs_take WD r [x, y] _ _ HNR.out, HTK1.out] at HS6
          go_wp2
          go_roundw
          case rel => exact ⟨k + 1, by have := HK1.out; omega, by have := HK1.out; go_num, HS6.out, below_after HBm.out HB6.out⟩
          case measure => have := HK1.out; simp [intOf]; omega
      | un r x he h =>
        rcases h with hk5 | hk6 | hk7
        · have hkind : sk.k = 5 := hk5
          rw [hkind] at HTK1
          have HKc := hidden (fun (W : World) (hW : Below wr.heap.size wr W) => (show W.cell? ⟨b, off + k * 5, none⟩ = some (.int .i64 (5)) from by have := (HR.out W hW).1; rw [hkind] at this; exact this))
          have HOk := hidden (fun (W : World) => (show Calls Tryd.prog 57 #[.int .i64 (5)] W fun e w' => e = .returned (.int .i64 (1)) ∧ W = w' from HO.out (5) W))
          have c0 := HKc.out wr (Below.refl _ _)
          obtain ⟨n', hnr⟩ : ∃ n', n' = r.length := ⟨_, rfl⟩
          have hKn : K = n' + 1 := by rw [v2, hnr]; simp
          have hw1 : IntKind.i64.wrap ((K : Int) - 1) = (n' : Int) := by rw [IntKind.wrap_i64]; omega
          have hlt1 : n' < K := by omega
          have HN2 := hidden (show n' ≤ vals.length by omega)
          have HN3 := hidden (show n' ≤ 1000 by omega)
          have HNR := hidden hnr
          have HV2 := hidden (show vals.length = (tabs WD (r ++ [x])).length by rw [tabs_len, ← v2, hK])
          obtain ⟨ua, hua⟩ : ∃ u, vals[n']? = some u := ⟨vals[n']'(by omega), by simp⟩
          have HVC := hidden (fun (W : World) (hW : Below wr.heap.size wr W) => (show W.cell? ⟨sb, n', none⟩ = some ua ∧ MatR W ua (s.size + 1) (lgB x WD) from by
            have g1 := (HVB.out W hW).1
            have g2 := (HVB.out W hW).2 n' ua hua
            rw [tabs_at WD r [] x n' hnr] at g2
            exact ⟨g1 n' ua hua, g2⟩))
          obtain ⟨ba, oa, ca, rfl⟩ := ((HVC.out wr (Below.refl _ _)).2).form
          clear he hkind hK hKn hnr hua v2 hk5
          go_wp2_with fail
          refine (HOk.out _).mono ?_
          rintro e w1 ⟨rfl, rfl⟩
          go_wp2_with fail
          refine (HSAME.out _).mono ?_
          rintro e w1 ⟨xx, rfl, hx, hb1⟩
          have HX := hidden hx
          have HB1 := hidden hb1
          obtain ⟨bx, ox, cx, rfl⟩ := hx.form
          have c1 := HKc.out w1 hb1
          obtain ⟨c2, hm1⟩ := HVC.out w1 hb1
          have HM1 := hidden hm1
          clear hx hb1 hm1
          go_wp2_with fail
          refine (HAG.out _ _ _ HM1.out).mono ?_
          rintro e w2 ⟨t, ht, ug, rfl, hug, hb2⟩
          have HT := hidden ht
          have HUG := hidden hug
          have HX2 := hidden (HX.out.below hb2)
          have HB2 := hidden (below_after HB1.out hb2)
          obtain ⟨bg, og, cg, rfl⟩ := hug.form
          clear hug hb2 ht
          go_wp2_with fail
          refine (HBOTH.out _ _ _ _ _ HX2.out HUG.out).mono ?_
          rintro e w3 ⟨u, rfl, hu, hb3⟩
          have hbm := below_after HB2.out hb3
          have HU := hidden (hu.congr (by have := mat_star x (W := WD) (t := t) (by rw [HL1.out]; exact HT.out); rw [HL1.out] at this; exact this))
          obtain ⟨bu, ou, cu, rfl⟩ := hu.form
          clear hu hb3
          have HBm := hidden (below_after HB.out hbm)
          have HBw := hidden hbm
          have HVm := hidden (HVB.out w3 hbm)
          have HONEC := hidden (fun u (hu : u ∈ vals) => (show u.oneCell' = true from by
            obtain ⟨j, hj⟩ := List.getElem?_of_mem hu
            obtain ⟨_, _, _, rfl⟩ := (HVm.out.2 j u hj).form
            rfl))
          clear hbm
          go_wp2_with (at_builtin; first
            | (refine app_copy (vals := vals) (b0 := w3.heap.size) rfl _ _ rfl rfl (heap_alloc_new w3 _) rfl (fun j u hj => (World.cell?_of_block (a := ⟨sb, j, none⟩) (heap_alloc_old w3 _ (cell_lt (HVm.out.1 j u hj)))).trans (HVm.out.1 j u hj)) HONEC.out HN2.out HN3.out ?_; intro g5 c5 w5 hown5 hb5; have HO5 := hidden hown5; have HB5 := hidden (Below.trans ((Below.refl w3.heap.size w3).alloc (Nat.le_refl _) _) hb5); have hs5 := HB5.out.size; clear hown5 hb5)
            | (refine app_one (b0 := w3.heap.size) (u := .slice (some ⟨bu, ou, none⟩) (s.size + 1) cu) rfl _ _ rfl rfl (World.ownsRow.alloc HO5.out _) rfl (heap_alloc_new w5 _) rfl HN3.out (by simp; omega) ?_; intro g6 c6 w6 hown6 hb6; have HO6 := hidden hown6; have HB6 := hidden (Below.trans (HB5.out.alloc hs5 _) hb6); clear hown6 hb6))
          have HS6 := hidden (StR.next HV2.out HVm.out.2 HN2.out HU.out HO6.out HB6.out)
          rw [tabs_take WD r [x] _ _ HNR.out, HTK1.out] at HS6
          go_wp2
          go_roundw
          case rel => exact ⟨k + 1, by have := HK1.out; omega, by have := HK1.out; go_num, HS6.out, below_after HBm.out HB6.out⟩
          case measure => have := HK1.out; simp [intOf]; omega
        · have hkind : sk.k = 6 := hk6
          rw [hkind] at HTK1
          have HKc := hidden (fun (W : World) (hW : Below wr.heap.size wr W) => (show W.cell? ⟨b, off + k * 5, none⟩ = some (.int .i64 (6)) from by have := (HR.out W hW).1; rw [hkind] at this; exact this))
          have HOk := hidden (fun (W : World) => (show Calls Tryd.prog 57 #[.int .i64 (6)] W fun e w' => e = .returned (.int .i64 (1)) ∧ W = w' from HO.out (6) W))
          have c0 := HKc.out wr (Below.refl _ _)
          obtain ⟨n', hnr⟩ : ∃ n', n' = r.length := ⟨_, rfl⟩
          have hKn : K = n' + 1 := by rw [v2, hnr]; simp
          have hw1 : IntKind.i64.wrap ((K : Int) - 1) = (n' : Int) := by rw [IntKind.wrap_i64]; omega
          have hlt1 : n' < K := by omega
          have HN2 := hidden (show n' ≤ vals.length by omega)
          have HN3 := hidden (show n' ≤ 1000 by omega)
          have HNR := hidden hnr
          have HV2 := hidden (show vals.length = (tabs WD (r ++ [x])).length by rw [tabs_len, ← v2, hK])
          obtain ⟨ua, hua⟩ : ∃ u, vals[n']? = some u := ⟨vals[n']'(by omega), by simp⟩
          have HVC := hidden (fun (W : World) (hW : Below wr.heap.size wr W) => (show W.cell? ⟨sb, n', none⟩ = some ua ∧ MatR W ua (s.size + 1) (lgB x WD) from by
            have g1 := (HVB.out W hW).1
            have g2 := (HVB.out W hW).2 n' ua hua
            rw [tabs_at WD r [] x n' hnr] at g2
            exact ⟨g1 n' ua hua, g2⟩))
          obtain ⟨ba, oa, ca, rfl⟩ := ((HVC.out wr (Below.refl _ _)).2).form
          clear he hkind hK hKn hnr hua v2 hk6
          go_wp2_with fail
          refine (HOk.out _).mono ?_
          rintro e w1 ⟨rfl, rfl⟩
          go_wp2_with fail
          refine (HSAME.out _).mono ?_
          rintro e w1 ⟨xx, rfl, hx, hb1⟩
          have HX := hidden hx
          have HB1 := hidden hb1
          obtain ⟨bx, ox, cx, rfl⟩ := hx.form
          have c1 := HKc.out w1 hb1
          obtain ⟨c2, hm1⟩ := HVC.out w1 hb1
          have HM1 := hidden hm1
          clear hx hb1 hm1
          go_wp2_with fail
          refine (HAG.out _ _ _ HM1.out).mono ?_
          rintro e w2 ⟨t, ht, u, rfl, hu, hb2⟩
          have hbm := below_after HB1.out hb2
          have HU := hidden (hu.congr (by have := mat_plus x (W := WD) (t := t) (by rw [HL1.out]; exact ht); rw [HL1.out] at this; exact this))
          obtain ⟨bu, ou, cu, rfl⟩ := hu.form
          clear hu hb2 ht
          have HBm := hidden (below_after HB.out hbm)
          have HBw := hidden hbm
          have HVm := hidden (HVB.out w2 hbm)
          have HONEC := hidden (fun u (hu : u ∈ vals) => (show u.oneCell' = true from by
            obtain ⟨j, hj⟩ := List.getElem?_of_mem hu
            obtain ⟨_, _, _, rfl⟩ := (HVm.out.2 j u hj).form
            rfl))
          clear hbm
          go_wp2_with (at_builtin; first
            | (refine app_copy (vals := vals) (b0 := w2.heap.size) rfl _ _ rfl rfl (heap_alloc_new w2 _) rfl (fun j u hj => (World.cell?_of_block (a := ⟨sb, j, none⟩) (heap_alloc_old w2 _ (cell_lt (HVm.out.1 j u hj)))).trans (HVm.out.1 j u hj)) HONEC.out HN2.out HN3.out ?_; intro g5 c5 w5 hown5 hb5; have HO5 := hidden hown5; have HB5 := hidden (Below.trans ((Below.refl w2.heap.size w2).alloc (Nat.le_refl _) _) hb5); have hs5 := HB5.out.size; clear hown5 hb5)
            | (refine app_one (b0 := w2.heap.size) (u := .slice (some ⟨bu, ou, none⟩) (s.size + 1) cu) rfl _ _ rfl rfl (World.ownsRow.alloc HO5.out _) rfl (heap_alloc_new w5 _) rfl HN3.out (by simp; omega) ?_; intro g6 c6 w6 hown6 hb6; have HO6 := hidden hown6; have HB6 := hidden (Below.trans (HB5.out.alloc hs5 _) hb6); clear hown6 hb6))
          have HS6 := hidden (StR.next HV2.out HVm.out.2 HN2.out HU.out HO6.out HB6.out)
          rw [tabs_take WD r [x] _ _ HNR.out, HTK1.out] at HS6
          go_wp2
          go_roundw
          case rel => exact ⟨k + 1, by have := HK1.out; omega, by have := HK1.out; go_num, HS6.out, below_after HBm.out HB6.out⟩
          case measure => have := HK1.out; simp [intOf]; omega
        · have hkind : sk.k = 7 := hk7
          rw [hkind] at HTK1
          have HKc := hidden (fun (W : World) (hW : Below wr.heap.size wr W) => (show W.cell? ⟨b, off + k * 5, none⟩ = some (.int .i64 (7)) from by have := (HR.out W hW).1; rw [hkind] at this; exact this))
          have HOk := hidden (fun (W : World) => (show Calls Tryd.prog 57 #[.int .i64 (7)] W fun e w' => e = .returned (.int .i64 (1)) ∧ W = w' from HO.out (7) W))
          have c0 := HKc.out wr (Below.refl _ _)
          obtain ⟨n', hnr⟩ : ∃ n', n' = r.length := ⟨_, rfl⟩
          have hKn : K = n' + 1 := by rw [v2, hnr]; simp
          have hw1 : IntKind.i64.wrap ((K : Int) - 1) = (n' : Int) := by rw [IntKind.wrap_i64]; omega
          have hlt1 : n' < K := by omega
          have HN2 := hidden (show n' ≤ vals.length by omega)
          have HN3 := hidden (show n' ≤ 1000 by omega)
          have HNR := hidden hnr
          have HV2 := hidden (show vals.length = (tabs WD (r ++ [x])).length by rw [tabs_len, ← v2, hK])
          obtain ⟨ua, hua⟩ : ∃ u, vals[n']? = some u := ⟨vals[n']'(by omega), by simp⟩
          have HVC := hidden (fun (W : World) (hW : Below wr.heap.size wr W) => (show W.cell? ⟨sb, n', none⟩ = some ua ∧ MatR W ua (s.size + 1) (lgB x WD) from by
            have g1 := (HVB.out W hW).1
            have g2 := (HVB.out W hW).2 n' ua hua
            rw [tabs_at WD r [] x n' hnr] at g2
            exact ⟨g1 n' ua hua, g2⟩))
          obtain ⟨ba, oa, ca, rfl⟩ := ((HVC.out wr (Below.refl _ _)).2).form
          clear he hkind hK hKn hnr hua v2 hk7
          go_wp2_with fail
          refine (HOk.out _).mono ?_
          rintro e w1 ⟨rfl, rfl⟩
          go_wp2_with fail
          refine (HSAME.out _).mono ?_
          rintro e w1 ⟨xx, rfl, hx, hb1⟩
          have HX := hidden hx
          have HB1 := hidden hb1
          obtain ⟨bx, ox, cx, rfl⟩ := hx.form
          have c1 := HKc.out w1 hb1
          obtain ⟨c2, hm1⟩ := HVC.out w1 hb1
          have HM1 := hidden hm1
          clear hx hb1 hm1
          go_wp2_with fail
          refine (HBOTH.out _ _ _ _ _ HX.out HM1.out).mono ?_
          rintro e w2 ⟨u, rfl, hu, hb2⟩
          have hbm := below_after HB1.out hb2
          have HU := hidden (hu.congr (by have := mat_opt x WD; rw [HL1.out] at this; exact this))
          obtain ⟨bu, ou, cu, rfl⟩ := hu.form
          clear hu hb2
          have HBm := hidden (below_after HB.out hbm)
          have HBw := hidden hbm
          have HVm := hidden (HVB.out w2 hbm)
          have HONEC := hidden (fun u (hu : u ∈ vals) => (show u.oneCell' = true from by
            obtain ⟨j, hj⟩ := List.getElem?_of_mem hu
            obtain ⟨_, _, _, rfl⟩ := (HVm.out.2 j u hj).form
            rfl))
          clear hbm
          go_wp2_with (at_builtin; first
            | (refine app_copy (vals := vals) (b0 := w2.heap.size) rfl _ _ rfl rfl (heap_alloc_new w2 _) rfl (fun j u hj => (World.cell?_of_block (a := ⟨sb, j, none⟩) (heap_alloc_old w2 _ (cell_lt (HVm.out.1 j u hj)))).trans (HVm.out.1 j u hj)) HONEC.out HN2.out HN3.out ?_; intro g5 c5 w5 hown5 hb5; have HO5 := hidden hown5; have HB5 := hidden (Below.trans ((Below.refl w2.heap.size w2).alloc (Nat.le_refl _) _) hb5); have hs5 := HB5.out.size; clear hown5 hb5)
            | (refine app_one (b0 := w2.heap.size) (u := .slice (some ⟨bu, ou, none⟩) (s.size + 1) cu) rfl _ _ rfl rfl (World.ownsRow.alloc HO5.out _) rfl (heap_alloc_new w5 _) rfl HN3.out (by simp; omega) ?_; intro g6 c6 w6 hown6 hb6; have HO6 := hidden hown6; have HB6 := hidden (Below.trans (HB5.out.alloc hs5 _) hb6); clear hown6 hb6))
          have HS6 := hidden (StR.next HV2.out HVm.out.2 HN2.out HU.out HO6.out HB6.out)
          rw [tabs_take WD r [x] _ _ HNR.out, HTK1.out] at HS6
          go_wp2
          go_roundw
          case rel => exact ⟨k + 1, by have := HK1.out; omega, by have := HK1.out; go_num, HS6.out, below_after HBm.out HB6.out⟩
          case measure => have := HK1.out; simp [intOf]; omega
    · obtain rfl : k = n := by omega
      have HE := hidden HONE.out
      obtain ⟨u, hu⟩ : ∃ u, vals[0]? = some u := by
        have : 0 < vals.length := by rw [v2, tabs_len, HONE.out]; simp
        exact ⟨vals[0]'this, by simp⟩
      have hm := HV.out.2.2 0 u hu
      rw [HONE.out] at hm
      have c0 := HV.out.2.1 0 u hu
      have hlen : vals.length = 1 := by rw [v2, tabs_len, HONE.out]; rfl
      have HM := hidden hm
      obtain ⟨bu, ou, cu, rfl⟩ := hm.form
      have hpos' : 0 < vals.length := by omega
      clear hm hu hlen v2
      go_wp2
      go_ret
      exact ⟨_, rfl, HM.out, HB.out⟩
end Go.Proofs.YtbokhofdgdcpdaaDoor

/- Strictly rising lists of numbers: what a merge does with two, what putting a number in makes. Of no program. -/
namespace Go.Proofs.YtbokhofdgdcpdaaDoor

def Up (l : List Int) : Prop := l.Pairwise (· < ·)
theorem up_nil : Up [] := List.Pairwise.nil
theorem up_ext : ∀ {a b : List Int}, Up a → Up b → (∀ x, x ∈ a ↔ x ∈ b) → a = b
  | [], [], _, _, _ => rfl
  | [], y :: b, _, _, h => by have := (h y).2 (by simp); simp at this
  | x :: a, [], _, _, h => by have := (h x).1 (by simp); simp at this
  | x :: a, y :: b, ha, hb, h => by
    have ha' := List.pairwise_cons.1 ha
    have hb' := List.pairwise_cons.1 hb
    have hxy : x = y := by
      have h1 := (h x).1 (by simp)
      have h2 := (h y).2 (by simp)
      simp only [List.mem_cons] at h1 h2
      rcases h1 with e | e
      · exact e
      · rcases h2 with e2 | e2
        · exact e2.symm
        · have := hb'.1 x e
          have := ha'.1 y e2
          omega
    subst hxy
    rw [up_ext ha'.2 hb'.2 fun z => ?_]
    have hz := h z
    simp only [List.mem_cons] at hz
    constructor
    · intro g
      rcases hz.1 (.inr g) with e | e
      · have := ha'.1 z g
        omega
      · exact e
    · intro g
      rcases hz.2 (.inr g) with e | e
      · have := hb'.1 z g
        omega
      · exact e
/-- what a merge does: 0: of the first alone, 1: of both, 2: of the second alone -/
def evs : List Int → List Int → List (Nat × Int)
  | [], b => b.map fun y => (2, y)
  | x :: a, [] => (x :: a).map fun y => (0, y)
  | x :: a, y :: b => if x < y then (0, x) :: evs a (y :: b) else if y < x then (2, y) :: evs (x :: a) b else (1, x) :: evs a b
termination_by a b => a.length + b.length
theorem evs_nil (b : List Int) : evs [] b = b.map fun y => (2, y) := by rw [evs]
theorem evs_none (a : List Int) : evs a [] = a.map fun y => (0, y) := by
  cases a with
  | nil => rw [evs]; rfl
  | cons x a => rw [evs]
theorem evs_lt {x y : Int} (h : x < y) (a b : List Int) : evs (x :: a) (y :: b) = (0, x) :: evs a (y :: b) := by rw [evs, if_pos h]
theorem evs_gt {x y : Int} (h : y < x) (a b : List Int) : evs (x :: a) (y :: b) = (2, y) :: evs (x :: a) b := by rw [evs, if_neg (by omega), if_pos h]
theorem evs_eq (x : Int) (a b : List Int) : evs (x :: a) (x :: b) = (1, x) :: evs a b := by rw [evs, if_neg (by omega), if_neg (by omega)]
/-- where one list is at its end -/
theorem evs_end {a b : List Int} (h : a = [] ∨ b = []) : evs a b = (a.map fun y => (0, y)) ++ b.map fun y => (2, y) := by
  rcases h with rfl | rfl
  · rw [evs_nil]; rfl
  · rw [evs_none]; simp
def Told (a b : List Int) (k : Nat) (x : Int) : Prop := (k = 0 ∧ x ∈ a ∧ x ∉ b) ∨ (k = 1 ∧ x ∈ a ∧ x ∈ b) ∨ (k = 2 ∧ x ∉ a ∧ x ∈ b)
theorem up_cons {x : Int} {a : List Int} : Up (x :: a) ↔ (∀ y ∈ a, x < y) ∧ Up a := List.pairwise_cons
theorem up_map_snd (k : Nat) (a : List Int) : (a.map fun y => (k, y)).map Prod.snd = a := by
  rw [List.map_map]
  exact (List.map_congr_left fun _ _ => rfl).trans (List.map_id a)
theorem evs_facts : ∀ (n : Nat) (a b : List Int), a.length + b.length ≤ n → Up a → Up b → Up ((evs a b).map Prod.snd) ∧ ∀ k x, (k, x) ∈ evs a b ↔ Told a b k x
  | _, [], b, _, _, hb => by
    rw [evs_nil, up_map_snd]
    refine ⟨hb, fun k x => ?_⟩
    simp only [List.mem_map, Prod.mk.injEq, Told, List.not_mem_nil, false_and, and_false, false_or, not_false_eq_true, true_and]
    constructor
    · rintro ⟨y, h, rfl, rfl⟩; exact ⟨rfl, h⟩
    · rintro ⟨rfl, h⟩; exact ⟨x, h, rfl, rfl⟩
  | _, x :: a, [], _, ha, _ => by
    rw [evs_none, up_map_snd]
    refine ⟨ha, fun k z => ?_⟩
    simp only [List.mem_map, Prod.mk.injEq, Told, List.not_mem_nil, and_false, or_false, not_false_eq_true, and_true]
    constructor
    · rintro ⟨y, h, rfl, rfl⟩; exact ⟨rfl, h⟩
    · rintro ⟨rfl, h⟩; exact ⟨z, h, rfl, rfl⟩
  | 0, x :: a, y :: b, h, _, _ => by simp at h
  | n + 1, x :: a, y :: b, h, ha, hb => by
    have ha' := up_cons.1 ha
    have hb' := up_cons.1 hb
    simp only [List.length_cons] at h
    rcases Int.lt_trichotomy x y with hxy | rfl | hxy
    · obtain ⟨i1, i2⟩ := evs_facts n a (y :: b) (by simp only [List.length_cons]; omega) ha'.2 hb
      rw [evs_lt hxy]
      have hlow : ∀ z ∈ y :: b, x < z := fun z hz => by
        rcases List.mem_cons.1 hz with rfl | hz
        · exact hxy
        · have := hb'.1 z hz; omega
      refine ⟨up_cons.2 ⟨fun z hz => ?_, i1⟩, fun k z => ?_⟩
      · obtain ⟨⟨k, w⟩, hm, rfl⟩ := List.mem_map.1 hz
        rcases (i2 k w).1 hm with h1 | h1 | h1
        · exact ha'.1 _ h1.2.1
        · exact ha'.1 _ h1.2.1
        · exact hlow _ h1.2.2
      · have hnx : x ∉ y :: b := fun hm => by have := hlow x hm; omega
        have hna : x ∉ a := fun hm => by have := ha'.1 x hm; omega
        rw [List.mem_cons, i2, Prod.mk.injEq]
        unfold Told
        constructor
        · rintro (⟨rfl, rfl⟩ | h1 | h1 | h1)
          · exact .inl ⟨rfl, by simp, hnx⟩
          · exact .inl ⟨h1.1, List.mem_cons_of_mem _ h1.2.1, h1.2.2⟩
          · exact .inr (.inl ⟨h1.1, List.mem_cons_of_mem _ h1.2.1, h1.2.2⟩)
          · refine .inr (.inr ⟨h1.1, fun hm => ?_, h1.2.2⟩)
            rcases List.mem_cons.1 hm with rfl | hm
            · exact hnx h1.2.2
            · exact h1.2.1 hm
        · rintro (h1 | h1 | h1)
          · rcases List.mem_cons.1 h1.2.1 with rfl | hm
            · exact .inl ⟨h1.1, rfl⟩
            · exact .inr (.inl ⟨h1.1, hm, h1.2.2⟩)
          · rcases List.mem_cons.1 h1.2.1 with rfl | hm
            · exact absurd h1.2.2 hnx
            · exact .inr (.inr (.inl ⟨h1.1, hm, h1.2.2⟩))
          · exact .inr (.inr (.inr ⟨h1.1, fun hm => h1.2.1 (List.mem_cons_of_mem _ hm), h1.2.2⟩))
    · obtain ⟨i1, i2⟩ := evs_facts n a b (by omega) ha'.2 hb'.2
      rw [evs_eq]
      have hna : x ∉ a := fun hm => by have := ha'.1 x hm; omega
      have hnb : x ∉ b := fun hm => by have := hb'.1 x hm; omega
      refine ⟨up_cons.2 ⟨fun z hz => ?_, i1⟩, fun k z => ?_⟩
      · obtain ⟨⟨k, w⟩, hm, rfl⟩ := List.mem_map.1 hz
        rcases (i2 k w).1 hm with h1 | h1 | h1
        · exact ha'.1 _ h1.2.1
        · exact ha'.1 _ h1.2.1
        · exact hb'.1 _ h1.2.2
      · rw [List.mem_cons, i2, Prod.mk.injEq]
        unfold Told
        simp only [List.mem_cons, not_or]
        constructor
        · rintro (⟨rfl, rfl⟩ | h1 | h1 | h1)
          · exact .inr (.inl ⟨rfl, .inl rfl, .inl rfl⟩)
          · exact .inl ⟨h1.1, .inr h1.2.1, fun e => by subst e; exact hna h1.2.1, h1.2.2⟩
          · exact .inr (.inl ⟨h1.1, .inr h1.2.1, .inr h1.2.2⟩)
          · exact .inr (.inr ⟨h1.1, ⟨fun e => by subst e; exact hnb h1.2.2, h1.2.1⟩, .inr h1.2.2⟩)
        · rintro (h1 | h1 | h1)
          · rcases h1.2.1 with e | hm
            · exact absurd e h1.2.2.1
            · exact .inr (.inl ⟨h1.1, hm, h1.2.2.2⟩)
          · by_cases e : z = x
            · exact .inl ⟨h1.1, e⟩
            · exact .inr (.inr (.inl ⟨h1.1, h1.2.1.resolve_left e, h1.2.2.resolve_left e⟩))
          · exact .inr (.inr (.inr ⟨h1.1, h1.2.1.2, h1.2.2.resolve_left h1.2.1.1⟩))
    · obtain ⟨i1, i2⟩ := evs_facts n (x :: a) b (by simp only [List.length_cons]; omega) ha hb'.2
      rw [evs_gt hxy]
      have hlow : ∀ z ∈ x :: a, y < z := fun z hz => by
        rcases List.mem_cons.1 hz with rfl | hz
        · exact hxy
        · have := ha'.1 z hz; omega
      refine ⟨up_cons.2 ⟨fun z hz => ?_, i1⟩, fun k z => ?_⟩
      · obtain ⟨⟨k, w⟩, hm, rfl⟩ := List.mem_map.1 hz
        rcases (i2 k w).1 hm with h1 | h1 | h1
        · exact hlow _ h1.2.1
        · exact hlow _ h1.2.1
        · exact hb'.1 _ h1.2.2
      · have hny : y ∉ x :: a := fun hm => by have := hlow y hm; omega
        have hnb : y ∉ b := fun hm => by have := hb'.1 y hm; omega
        rw [List.mem_cons, i2, Prod.mk.injEq]
        unfold Told
        constructor
        · rintro (⟨rfl, rfl⟩ | h1 | h1 | h1)
          · exact .inr (.inr ⟨rfl, hny, by simp⟩)
          · refine .inl ⟨h1.1, h1.2.1, fun hm => ?_⟩
            rcases List.mem_cons.1 hm with rfl | hm
            · exact hny h1.2.1
            · exact h1.2.2 hm
          · exact .inr (.inl ⟨h1.1, h1.2.1, List.mem_cons_of_mem _ h1.2.2⟩)
          · exact .inr (.inr ⟨h1.1, h1.2.1, List.mem_cons_of_mem _ h1.2.2⟩)
        · rintro (h1 | h1 | h1)
          · exact .inr (.inl ⟨h1.1, h1.2.1, fun hm => h1.2.2 (List.mem_cons_of_mem _ hm)⟩)
          · rcases List.mem_cons.1 h1.2.2 with rfl | hm
            · exact absurd h1.2.1 hny
            · exact .inr (.inr (.inl ⟨h1.1, h1.2.1, hm⟩))
          · rcases List.mem_cons.1 h1.2.2 with rfl | hm
            · exact .inl ⟨h1.1, rfl⟩
            · exact .inr (.inr (.inr ⟨h1.1, h1.2.1, hm⟩))
/-- the events of some kinds -/
def pickV (p : Nat → Bool) (E : List (Nat × Int)) : List Int := (E.filter fun e => p e.1).map Prod.snd
theorem pick_append (p : Nat → Bool) (E F : List (Nat × Int)) : pickV p (E ++ F) = pickV p E ++ pickV p F := by simp [pickV]
theorem pick_up {p : Nat → Bool} {a b : List Int} (ha : Up a) (hb : Up b) : Up (pickV p (evs a b)) :=
  List.Pairwise.sublist ((List.filter_sublist).map Prod.snd) (evs_facts _ a b (Nat.le_refl _) ha hb).1
theorem pick_mem {p : Nat → Bool} {a b : List Int} (ha : Up a) (hb : Up b) (x : Int) : x ∈ pickV p (evs a b) ↔ (p 0 = true ∧ x ∈ a ∧ x ∉ b) ∨ (p 1 = true ∧ x ∈ a ∧ x ∈ b) ∨ (p 2 = true ∧ x ∉ a ∧ x ∈ b) := by
  have h := (evs_facts _ a b (Nat.le_refl _) ha hb).2
  unfold pickV
  constructor
  · intro hx
    obtain ⟨⟨k, z⟩, hm, rfl⟩ := List.mem_map.1 hx
    obtain ⟨h1, h2⟩ := List.mem_filter.1 hm
    rcases (h k z).1 h1 with ⟨rfl, h3⟩ | ⟨rfl, h3⟩ | ⟨rfl, h3⟩
    · exact .inl ⟨h2, h3⟩
    · exact .inr (.inl ⟨h2, h3⟩)
    · exact .inr (.inr ⟨h2, h3⟩)
  · rintro (⟨h1, h2⟩ | ⟨h1, h2⟩ | ⟨h1, h2⟩)
    · exact List.mem_map.2 ⟨(0, x), List.mem_filter.2 ⟨(h 0 x).2 (.inl ⟨rfl, h2⟩), h1⟩, rfl⟩
    · exact List.mem_map.2 ⟨(1, x), List.mem_filter.2 ⟨(h 1 x).2 (.inr (.inl ⟨rfl, h2⟩)), h1⟩, rfl⟩
    · exact List.mem_map.2 ⟨(2, x), List.mem_filter.2 ⟨(h 2 x).2 (.inr (.inr ⟨rfl, h2⟩)), h1⟩, rfl⟩
theorem evs_len : ∀ (n : Nat) (a b : List Int), a.length + b.length ≤ n → (evs a b).length ≤ a.length + b.length
  | _, [], b, _ => by rw [evs_nil]; simp
  | _, x :: a, [], _ => by rw [evs_none]; simp
  | 0, x :: a, y :: b, h => by simp at h
  | n + 1, x :: a, y :: b, h => by
    simp only [List.length_cons] at h
    rcases Int.lt_trichotomy x y with hxy | rfl | hxy
    · have := evs_len n a (y :: b) (by simp only [List.length_cons]; omega)
      rw [evs_lt hxy]
      simp only [List.length_cons] at this ⊢
      omega
    · have := evs_len n a b (by omega)
      rw [evs_eq]
      simp only [List.length_cons]
      omega
    · have := evs_len n (x :: a) b (by simp only [List.length_cons]; omega)
      rw [evs_gt hxy]
      simp only [List.length_cons] at this ⊢
      omega
theorem pick_len (p : Nat → Bool) (E : List (Nat × Int)) : (pickV p E).length ≤ E.length := by
  unfold pickV
  rw [List.length_map]
  exact List.length_filter_le _ _
/-! ### a number more -/
/-- how many stand ahead that are less -/
def lead : List Int → Int → Nat
  | [], _ => 0
  | y :: l, n => if y < n then lead l n + 1 else 0
theorem lead_le : ∀ (l : List Int) (n : Int), lead l n ≤ l.length
  | [], _ => Nat.le_refl _
  | y :: l, n => by
    have := lead_le l n
    simp only [lead, List.length_cons]
    split <;> omega
theorem lead_at : ∀ (l : List Int) (n : Int) (i : Nat), i ≤ lead l n → (i < lead l n ↔ i < l.length ∧ l.getD i 0 < n)
  | [], n, i, h => by simp [lead] at h ⊢
  | y :: l, n, i, h => by
    simp only [lead] at h ⊢
    split
    · rename_i hy
      rw [if_pos hy] at h
      cases i with
      | zero => simp [hy]
      | succ i =>
        have := lead_at l n i (by omega)
        simp only [List.length_cons, List.getD_cons_succ]
        omega
    · rename_i hy
      rw [if_neg hy] at h
      obtain rfl : i = 0 := by omega
      simp [hy]
def putV (l : List Int) (n : Int) : List Int := if n ∈ l then l else l.take (lead l n) ++ n :: l.drop (lead l n)
theorem put_cons (y n : Int) (l : List Int) (h : y < n) : putV (y :: l) n = y :: putV l n := by
  unfold putV
  have hne : n ≠ y := by omega
  simp only [List.mem_cons, hne, false_or, lead, if_pos h]
  split <;> simp
theorem put_facts : ∀ {l : List Int} {n : Int}, Up l → Up (putV l n) ∧ ∀ x, x ∈ putV l n ↔ x = n ∨ x ∈ l
  | [], n, _ => by simp [putV, lead, Up]
  | y :: l, n, hu => by
    have hu' := up_cons.1 hu
    by_cases h : y < n
    · obtain ⟨i1, i2⟩ := put_facts (n := n) hu'.2
      rw [put_cons y n l h]
      refine ⟨up_cons.2 ⟨fun z hz => ?_, i1⟩, fun x => ?_⟩
      · rcases (i2 z).1 hz with rfl | hz
        · exact h
        · exact hu'.1 z hz
      · rw [List.mem_cons, i2, List.mem_cons]
        constructor
        · rintro (h | h | h)
          · exact .inr (.inl h)
          · exact .inl h
          · exact .inr (.inr h)
        · rintro (h | h | h)
          · exact .inr (.inl h)
          · exact .inl h
          · exact .inr (.inr h)
    · unfold putV
      split
      · rename_i hm
        refine ⟨hu, fun x => ⟨fun h => .inr h, fun h => ?_⟩⟩
        rcases h with rfl | h
        · exact hm
        · exact h
      · rename_i hm
        have hne : n ≠ y := fun e => hm (by simp [e])
        simp only [lead, if_neg h, List.take_zero, List.drop_zero, List.nil_append]
        refine ⟨up_cons.2 ⟨fun z hz => ?_, hu⟩, fun x => by simp⟩
        rcases List.mem_cons.1 hz with rfl | hz
        · omega
        · have := hu'.1 z hz
          omega
theorem put_len (l : List Int) (n : Int) : (putV l n).length ≤ l.length + 1 := by
  unfold putV
  split
  · omega
  · have := lead_le l n
    simp
    omega
def putsV (l m : List Int) : List Int := m.foldl putV l
theorem puts_facts : ∀ (m : List Int) {l : List Int}, Up l → Up (putsV l m) ∧ ∀ x, x ∈ putsV l m ↔ x ∈ l ∨ x ∈ m
  | [], l, h => ⟨h, by simp [putsV]⟩
  | n :: m, l, h => by
    obtain ⟨h1, h2⟩ := put_facts (n := n) h
    obtain ⟨i1, i2⟩ := puts_facts m h1
    refine ⟨i1, fun x => ?_⟩
    have := i2 x
    unfold putsV at this ⊢
    rw [List.foldl_cons, this, h2, List.mem_cons]
    constructor
    · rintro ((h | h) | h)
      · exact .inr (.inl h)
      · exact .inl h
      · exact .inr (.inr h)
    · rintro (h | h | h)
      · exact .inl (.inr h)
      · exact .inl (.inl h)
      · exact .inr h
theorem puts_take (l m : List Int) (i : Nat) (h : i < m.length) : putsV l (m.take (i + 1)) = putV (putsV l (m.take i)) (m.getD i 0) := by
  unfold putsV
  rw [List.take_succ_eq_append_getElem h, List.foldl_append, List.getD_eq_getElem?_getD, List.getElem?_eq_getElem h]
  rfl
theorem puts_len : ∀ (m l : List Int), (putsV l m).length ≤ l.length + m.length
  | [], l => by simp [putsV]
  | n :: m, l => by
    have h1 := puts_len m (putV l n)
    have h2 := put_len l n
    unfold putsV at h1 ⊢
    rw [List.foldl_cons, List.length_cons]
    omega
/-- all numbers of a list, rising -/
def ofV (l : List Int) : List Int := putsV [] l
theorem of_facts (l : List Int) : Up (ofV l) ∧ ∀ x, x ∈ ofV l ↔ x ∈ l := by
  obtain ⟨h1, h2⟩ := puts_facts l up_nil
  exact ⟨h1, fun x => by rw [show ofV l = putsV [] l from rfl, h2]; simp⟩
theorem of_self {l : List Int} (h : Up l) : ofV l = l := up_ext (of_facts l).1 h (of_facts l).2
/-- those of a that are in b, or are not -/
def keptV (a b : List Int) (c : Bool) : List Int := a.filter fun x => decide (x ∈ b) == c
theorem kept_up {a : List Int} (h : Up a) (b : List Int) (c : Bool) : Up (keptV a b c) := List.Pairwise.sublist List.filter_sublist h
theorem union_eq {a b : List Int} (ha : Up a) (hb : Up b) : pickV (fun _ => true) (evs a b) = putsV (ofV a) b := by
  obtain ⟨h1, h2⟩ := puts_facts b (of_facts a).1
  refine up_ext (pick_up ha hb) h1 fun x => ?_
  rw [pick_mem ha hb, h2, (of_facts a).2]
  by_cases h3 : x ∈ a <;> by_cases h4 : x ∈ b <;> simp [h3, h4]
theorem common_eq {a b : List Int} (ha : Up a) (hb : Up b) : pickV (fun k => k == 1) (evs a b) = keptV a b true := by
  refine up_ext (pick_up ha hb) (kept_up ha b true) fun x => ?_
  rw [pick_mem ha hb]
  simp [keptV]
theorem less_eq {a b : List Int} (ha : Up a) (hb : Up b) : pickV (fun k => k == 0) (evs a b) = keptV a b false := by
  refine up_ext (pick_up ha hb) (kept_up ha b false) fun x => ?_
  rw [pick_mem ha hb]
  simp [keptV]
end Go.Proofs.YtbokhofdgdcpdaaDoor
