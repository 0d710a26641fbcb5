/- ZApp, SpSets, FaLang, TxtRefB, put together. -/
import Derived.Test.YtnjjbaodfjmiaaaGreatLt07
import Derived.Laws.AppendOwn
import Derived.Laws.AppendOwnNone
import Derived.Test.YtnjjbaodfjmiaaaGreatLt03
import Derived.Laws.OwnMore
import Derived.Lib.SmallJoins
import Derived.Laws.Rows
import Derived.Test.YtnjjbaodfjmiaaaGreatLt04
/- append of a whole list of numbers behind a list of the call's own. -/
namespace Go.Proofs.YtnjjbaodfjmiaaaGreat
open Go.RowKit Go.Lib Go.Joins
theorem ints_one {l : List Int} {u : Value} (h : u ∈ l.map (Value.int .i64)) : u.oneCell' = true := by
  obtain ⟨x, _, rfl⟩ := List.mem_map.1 h
  rfl
theorem app_zz {w : World} {ops : Array Oper} {rest : List Oper} {o : Oper} {a : Act} {Q : Exit → Act → World → Prop} (hgd : o.guard = none) (s x : Operand)
    (ho : o.op = .call { callee := .builtin .append, args := #[s, x], argTypes := #[24, 24] }) {base B : Nat} {v u : Value} {l m : List Int}
    (hs : a.eval s = v) (hown : RowZ w base v l) (hx : a.eval x = u) (hM : RdZ B w u m) (hsz : l.length + m.length ≤ 1000000) (hb0 : base ≤ w.heap.size)
    (h : ∀ a' l' c' w', RowZ w' base (.slice a' l' c') (l ++ m) → w.grownBy w' v.ownBlock → Below base w w' → wpList Tryz.prog ops Q rest (a.put o.dst (.slice a' l' c')) w') : wpList Tryz.prog ops Q (o :: rest) a w := by
  have hlow : ∀ j, v.ownBlock = some j → base ≤ j := fun j e => (World.ownsRow.lt hown j e).1
  have h : ∀ v' w', RowZ w' base v' (l ++ m) → w.grownBy w' v.ownBlock → wpList Tryz.prog ops Q rest (a.put o.dst v') w' := fun v' w' h1 h2 => by
    obtain ⟨a', c', rfl⟩ := h1.form
    exact h _ _ _ _ h1 h2 ((Below.refl base w).grown h2 hb0 hlow)
  obtain ⟨i0, hi, hz0, hz1, hz2⟩ := info_parts infoInt
  obtain ⟨ad, cap, rfl, h1, h2, h0, hS⟩ := hM
  cases ad with
  | none =>
    have e0 := h0 rfl
    subst e0
    have hM0 : m = [] := List.eq_nil_of_length_eq_zero (by omega)
    subst hM0
    refine wpList_append_own_none hgd s x 24 ho base 3 i0 1 Tryz.underlying24 hi v l.length (l.map (Value.int .i64)) hs hown hx (h v w ?_ ⟨rfl, rfl, rfl, Nat.le_refl _, fun _ _ _ => rfl⟩)
    rw [List.append_nil]
    exact hown
  | some ad =>
    obtain ⟨b, off, spot⟩ := ad
    have hnews : ∀ j z, (m.map (Value.int .i64))[j]? = some z → w.cell? ((⟨b, off, spot⟩ : Addr).add j) = some z := by
      intro j z hz
      have hj : j < m.length := by
        have := (List.getElem?_eq_some_iff.1 hz).1
        simpa using this
      obtain ⟨b', off', e, _, hc⟩ := hS (by omega)
      simp only [Option.some.injEq, Addr.mk.injEq] at e
      obtain ⟨rfl, rfl, rfl⟩ := e
      rw [Addr.add_lit, hc j hj]
      rw [List.getElem?_map, List.getElem?_eq_getElem hj] at hz
      rw [List.getD_eq_getElem?_getD, List.getElem?_eq_getElem hj]
      exact hz
    refine wpList_append_own w hgd s x 24 ho base 3 i0 _ 1 8 Tryz.underlying24 hi hz0 hz1 hz2 rfl (by decide) v l.length (l.map (Value.int .i64)) hs hown ⟨b, off, spot⟩ m.length cap (m.map (Value.int .i64)) hx (by simp) hnews (fun z hz => ints_one hz) (by unfold maxLen; omega) (by omega) hb0 fun v' w' h3 h4 _ => h v' w' ?_ h4
    unfold RowZ
    rw [List.length_append, List.map_append]
    exact h3
end Go.Proofs.YtnjjbaodfjmiaaaGreat

/- Contract of Sets. -/
namespace Go.Proofs.YtnjjbaodfjmiaaaGreat
open Go.RowKit Go.Lib Go.Joins

theorem infoS : (Tryz.prog.info? 103).map (fun i => (i.zero, i.size, i.bytes)) = some (some (.agg #[.int .u64 0, .int .u64 0, .int .u64 0, .int .u64 0]), 4, 32) := by kernel_rfl
def setC (s : Stp) : List Value := [.int .u64 s.a, .int .u64 s.b, .int .u64 s.c, .int .u64 s.d]
/-- slice value v owns the sets of these steps, in a block from base on -/
def RowS (w : World) (base : Nat) (v : Value) (S : List Stp) : Prop := w.ownsRow base 103 4 v S.length (S.flatMap setC)
theorem RowS.nil (w : World) (base : Nat) : RowS w base (.slice none 0 0) [] := World.ownsRow_nil _ _ _ _
theorem RowS.kept {w w' : World} {base : Nat} {v : Value} {l : List Stp} (h : RowS w base v l) (hb : Below w.heap.size w w') : RowS w' base v l :=
  World.ownsRow.kept (row := none) h ⟨hb.os, hb.tape, hb.output, hb.size, fun k hk _ => hb.block k hk⟩ (by cases v.ownBlock <;> simp)
def RetS (w : World) (l : List Stp) (e : Ending) (w' : World) : Prop := ∃ v, e = .returned v ∧ RowS w' w.heap.size v l ∧ Below w.heap.size w w'
theorem app_s {w : World} {ops : Array Oper} {rest : List Oper} {o : Oper} {a : Act} {Q : Exit → Act → World → Prop} (hgd : o.guard = none) (s x : Operand)
    (ho : o.op = .call { callee := .builtin .append, args := #[s, x], argTypes := #[70, 70] }) {base xb : Nat} {z : Stp} {v : Value} {l : List Stp}
    (hs : a.eval s = v) (hown : RowS w base v l) (hx : a.eval x = .slice (some ⟨xb, 0, none⟩) 1 1) (hxb : w.heap[xb]? = some (.cells #[.int .u64 z.a, .int .u64 z.b, .int .u64 z.c, .int .u64 z.d] 103 (0, 0))) {n : Nat} (hn : l.length = n) (hn2 : n ≤ 100000) (hb0 : base ≤ w.heap.size)
    (h : ∀ g' c' w', RowS w' base (.slice (some ⟨g', 0, none⟩) (n + 1) c') (l ++ [z]) → w.grownBy w' v.ownBlock → Below base w w' → wpList Tryz.prog ops Q rest (a.put o.dst (.slice (some ⟨g', 0, none⟩) (n + 1) c')) w') : wpList Tryz.prog ops Q (o :: rest) a w := by
  subst hn
  obtain ⟨i0, hi, hz0, hz1, hz2⟩ := info_parts infoS
  refine wpList_append_own w hgd s x 70 ho base 103 i0 _ 4 32 Tryz.underlying70 hi hz0 hz1 hz2 rfl (by decide) _ l.length (l.flatMap setC) hs hown ⟨xb, 0, none⟩ 1 1 (setC z) hx rfl (fun j x hj => ?_) (fun x hx => by simp [setC] at hx; rcases hx with rfl | rfl | rfl | rfl <;> rfl) (by unfold maxLen; omega) (by omega) hb0 fun v' w' h3 h4 _ => ?_
  · rw [Addr.add_lit, Nat.zero_add, cell_of_row w xb _ _ _ _ hxb]
    simpa [setC] using hj
  · have hb : Below base w w' := (Below.refl base w).grown h4 hb0 fun k e => (hown.lt k e).1
    rcases ownsRow_forms h3 with ⟨_, h0⟩ | ⟨g, c, rfl⟩
    · omega
    · exact h g c w' (by unfold RowS; simpa using h3) h4 hb
/-- the steps that are sets -/
def sets (L : List Stp) : List Stp := L.filter fun s => s.k == 1
theorem sets_take {L : List Stp} {k : Nat} (h : k < L.length) : sets (L.take (k + 1)) = if (L.getD k default).k = 1 then sets (L.take k) ++ [L.getD k default] else sets (L.take k) := by
  have e : L.take (k + 1) = L.take k ++ [L.getD k default] := by rw [List.take_add_one, List.getElem?_eq_getElem h, List.getD_eq_getElem?_getD, List.getElem?_eq_getElem h]; rfl
  unfold sets
  rw [e, List.filter_append]
  generalize L.getD k default = s
  by_cases hk : s.k = 1
  · rw [if_pos hk]; simp [hk]
  · rw [if_neg hk]; simp [hk]
theorem sets_len (L : List Stp) (k : Nat) : (sets (L.take k)).length ≤ k := Nat.le_trans (List.length_filter_le _ _) (by simp; omega)
attribute [local irreducible] sets
end Go.Proofs.YtnjjbaodfjmiaaaGreat

/- What the tree of an expression matches, and what is told of all that it matches. Of no program. -/
namespace Go.Proofs.YtnjjbaodfjmiaaaGreat

/-- is the empty word matched? -/
def nul : Ex → Bool
  | .set _ => false
  | .emp => true
  | .cat a b => nul a && nul b
  | .alt a b => nul a || nul b
  | .un k a => if k = 6 then nul a else true
/-! ### how short, how long -/
def rep (a : Int) : Int := if 0 < a then -2 else a
/-! ### the bytes -/
def f2 (f g : Nat → Bool) (n : Nat) : Bool := f n || g n
end Go.Proofs.YtnjjbaodfjmiaaaGreat

/- The reference's Begin, at the steps of a tree. -/
namespace Go.Proofs.YtnjjbaodfjmiaaaGreat
open Go.RowKit Go.Lib Go.Joins

/-- block b has the steps L from place off on -/
def Lay (b off : Nat) (L : List Stp) (W : World) : Prop := b < W.heap.size ∧ ∀ i, i < L.length → RxAt W b (off + i * 5) (L.getD i default)
theorem Lay.below {b off : Nat} {L : List Stp} {W W' : World} (h : Lay b off L W) (hb : Below W.heap.size W W') : Lay b off L W' := ⟨Nat.lt_of_lt_of_le h.1 hb.size, fun i hi => (h.2 i hi).kept (hb.block b h.1)⟩
theorem getD_end (x u z : List Stp) (s : Stp) : (x ++ (u ++ [s]) ++ z).getD (x.length + u.length) default = s := by
  rw [List.getD_eq_getElem?_getD, List.getElem?_append_left (by simp), List.getElem?_append_right (by omega), List.getElem?_append_right (by omega)]
  simp
theorem ops_last : ∀ e : Ex, ∃ u s, ops e = u ++ [s] ∧ s.k = e.kind
  | .set f => ⟨[], sStp f, rfl, rfl⟩
  | .emp => ⟨[], kStp 2, rfl, rfl⟩
  | .cat a b => ⟨ops a ++ ops b, kStp 3, rfl, rfl⟩
  | .alt a b => ⟨ops a ++ ops b, kStp 4, rfl, rfl⟩
  | .un k a => ⟨ops a, kStp k, rfl, rfl⟩
theorem ops_pos (e : Ex) : 1 ≤ (ops e).length := by
  obtain ⟨u, s, h, _⟩ := ops_last e
  rw [h]
  simp
theorem at_end {L x z : List Stp} {e : Ex} {i : Nat} (hL : L = x ++ ops e ++ z) (hi : i + 1 = x.length + (ops e).length) : i < L.length ∧ (L.getD i default).k = e.kind := by
  obtain ⟨u, s, h, hs⟩ := ops_last e
  rw [h] at hL hi
  simp only [List.length_append, List.length_cons, List.length_nil] at hi
  have hi' : i = x.length + u.length := by omega
  subst hi'
  refine ⟨by rw [hL]; simp only [List.length_append, List.length_cons, List.length_nil]; omega, ?_⟩
  rw [hL, getD_end, hs]
section
variable {b off cap : Nat} {L : List Stp} {w : World}
theorem Lay.kind (h : Lay b off L w) {i : Nat} (hi : i < L.length) {k : Int} (hk : (L.getD i default).k = k) : w.cell? ⟨b, off + i * 5, none⟩ = some (.int .i64 k) := by
  rw [← hk]
  exact (h.2 i hi).1
set_option maxRecDepth 100000 in
theorem begin0 (h : Lay b off L w) {i : Nat} (hi : i < L.length) {k : Int} (hk : (L.getD i default).k = k) (ho : kOps k = 0) (_ : L.length ≤ 1000) :
    Calls Tryz.prog 112 #[.slice (some ⟨b, off, none⟩) L.length cap, .int .i64 i] w fun e w' => e = .returned (.int .i64 i) ∧ w = w' := by
  have c0 := h.kind hi hk
  have hK := rof_calls k
  rw [ho] at hK
  have HK := hidden hK
  generalize L.length = n at *
  have q0 : decide ((i : Int) < 0) = false := decide_eq_false (by omega)
  have q1 : decide ((n : Int) ≤ i) = false := decide_eq_false (by omega)
  have q2 : decide (n ≤ i) = false := decide_eq_false (by omega)
  clear h hk hK ho
  go_enter Tryz.func112, Tryz.ntmps112
  go_wp2_with fail
  refine (HK.out _).mono ?_
  rintro e w1 ⟨rfl, rfl⟩
  go_wp2
  refine wp_loop_rounds 1 ?_
  rw [rounds_succ]
  go_wp2
  go_ret
  exact ⟨rfl, rfl⟩
set_option maxRecDepth 100000 in
theorem begin1 (h : Lay b off L w) {i j y : Nat} (hi : i < L.length) {k : Int} (hk : (L.getD i default).k = k) (ho : kOps k = 1) (hl : L.length ≤ 1000) (hj : j + 1 = i) (hy : y ≤ 1000)
    (H1 : Calls Tryz.prog 112 #[.slice (some ⟨b, off, none⟩) L.length cap, .int .i64 j] w fun e w' => e = .returned (.int .i64 y) ∧ w = w') :
    Calls Tryz.prog 112 #[.slice (some ⟨b, off, none⟩) L.length cap, .int .i64 i] w fun e w' => e = .returned (.int .i64 y) ∧ w = w' := by
  have c0 := h.kind hi hk
  have hK := rof_calls k
  rw [ho] at hK
  have HK := hidden hK
  have HC := hidden H1
  generalize L.length = n at *
  have q0 : decide ((i : Int) < 0) = false := decide_eq_false (by omega)
  have q1 : decide ((n : Int) ≤ i) = false := decide_eq_false (by omega)
  have q2 : decide (n ≤ i) = false := decide_eq_false (by omega)
  have q3 : decide ((y : Int) < 0) = false := decide_eq_false (by omega)
  have hsub : IntKind.i64.wrap ((i : Int) - 1) = j := by rw [IntKind.wrap_i64]; omega
  clear h hk hK ho H1 hj
  go_enter Tryz.func112, Tryz.ntmps112
  go_wp2_with fail
  refine (HK.out _).mono ?_
  rintro e w1 ⟨rfl, rfl⟩
  go_wp2
  refine wp_loop_rounds 2 ?_
  rw [rounds_succ]
  go_wp2_with fail
  refine HC.out.mono ?_
  rintro e w1 ⟨rfl, rfl⟩
  go_wp2
  rw [rounds_succ]
  go_wp2
  go_ret
  exact ⟨rfl, rfl⟩
set_option maxRecDepth 100000 in
theorem begin2 (h : Lay b off L w) {i j y j2 y2 : Nat} (hi : i < L.length) {k : Int} (hk : (L.getD i default).k = k) (ho : kOps k = 2) (hl : L.length ≤ 1000) (hj : j + 1 = i) (hy : y ≤ 1000) (hj2 : j2 + 1 = y) (hy2 : y2 ≤ 1000)
    (H1 : Calls Tryz.prog 112 #[.slice (some ⟨b, off, none⟩) L.length cap, .int .i64 j] w fun e w' => e = .returned (.int .i64 y) ∧ w = w')
    (H2 : Calls Tryz.prog 112 #[.slice (some ⟨b, off, none⟩) L.length cap, .int .i64 j2] w fun e w' => e = .returned (.int .i64 y2) ∧ w = w') :
    Calls Tryz.prog 112 #[.slice (some ⟨b, off, none⟩) L.length cap, .int .i64 i] w fun e w' => e = .returned (.int .i64 y2) ∧ w = w' := by
  have c0 := h.kind hi hk
  have hK := rof_calls k
  rw [ho] at hK
  have HK := hidden hK
  have HC := hidden H1
  have HD := hidden H2
  generalize L.length = n at *
  have q0 : decide ((i : Int) < 0) = false := decide_eq_false (by omega)
  have q1 : decide ((n : Int) ≤ i) = false := decide_eq_false (by omega)
  have q2 : decide (n ≤ i) = false := decide_eq_false (by omega)
  have q3 : decide ((y : Int) < 0) = false := decide_eq_false (by omega)
  have q4 : decide ((y2 : Int) < 0) = false := decide_eq_false (by omega)
  have hsub : IntKind.i64.wrap ((i : Int) - 1) = j := by rw [IntKind.wrap_i64]; omega
  have hsub2 : IntKind.i64.wrap ((y : Int) - 1) = j2 := by rw [IntKind.wrap_i64]; omega
  clear h hk hK ho H1 H2 hj hj2
  go_enter Tryz.func112, Tryz.ntmps112
  go_wp2_with fail
  refine (HK.out _).mono ?_
  rintro e w1 ⟨rfl, rfl⟩
  go_wp2
  refine wp_loop_rounds 3 ?_
  rw [rounds_succ]
  go_wp2_with fail
  refine HC.out.mono ?_
  rintro e w1 ⟨rfl, rfl⟩
  go_wp2
  rw [rounds_succ]
  go_wp2_with fail
  refine HD.out.mono ?_
  rintro e w1 ⟨rfl, rfl⟩
  go_wp2
  rw [rounds_succ]
  go_wp2
  go_ret
  exact ⟨rfl, rfl⟩
theorem rbegin_calls (h : Lay b off L w) (hl : L.length ≤ 1000) : ∀ (e : Ex), e.ok → ∀ (x z : List Stp) (i : Nat), L = x ++ ops e ++ z → i + 1 = x.length + (ops e).length →
    Calls Tryz.prog 112 #[.slice (some ⟨b, off, none⟩) L.length cap, .int .i64 i] w fun e' w' => e' = .returned (.int .i64 x.length) ∧ w = w'
  | .set f, _, x, z, i, hL, hi => by
    obtain ⟨h1, h2⟩ := at_end hL hi
    have hx : i = x.length := by simp [ops] at hi; omega
    subst hx
    exact begin0 h h1 h2 rfl hl
  | .emp, _, x, z, i, hL, hi => by
    obtain ⟨h1, h2⟩ := at_end hL hi
    have hx : i = x.length := by simp [ops] at hi; omega
    subst hx
    exact begin0 h h1 h2 rfl hl
  | .un k a, ⟨hk, ha⟩, x, z, i, hL, hi => by
    obtain ⟨h1, h2⟩ := at_end hL hi
    have hp := ops_pos a
    have hlen : (ops (.un k a)).length = (ops a).length + 1 := by simp [ops]
    rw [hlen] at hi
    have hxl : x.length ≤ 1000 := by rw [hL] at hl; simp only [List.length_append] at hl; omega
    exact begin1 (j := i - 1) h h1 h2 (by rcases hk with rfl | rfl | rfl <;> rfl) hl (by omega) hxl (rbegin_calls h hl a ha x ([kStp k] ++ z) (i - 1) (by rw [hL]; simp [ops]) (by omega))
  | .cat a c, ⟨ha, hc⟩, x, z, i, hL, hi => by
    obtain ⟨h1, h2⟩ := at_end hL hi
    have hp := ops_pos a
    have hp2 := ops_pos c
    have hlen : (ops (.cat a c)).length = (ops a).length + (ops c).length + 1 := by simp [ops]; omega
    rw [hlen] at hi
    have hxl : x.length + (ops a).length ≤ 1000 := by rw [hL] at hl; simp only [List.length_append] at hl; omega
    have H1 := rbegin_calls h hl c hc (x ++ ops a) ([kStp 3] ++ z) (i - 1) (by rw [hL]; simp [ops]) (by simp only [List.length_append]; omega)
    rw [List.length_append] at H1
    exact begin2 (j := i - 1) (j2 := x.length + (ops a).length - 1) h h1 h2 rfl hl (by omega) hxl (by omega) (by omega) H1 (rbegin_calls h hl a ha x (ops c ++ [kStp 3] ++ z) _ (by rw [hL]; simp [ops]) (by omega))
  | .alt a c, ⟨ha, hc⟩, x, z, i, hL, hi => by
    obtain ⟨h1, h2⟩ := at_end hL hi
    have hp := ops_pos a
    have hp2 := ops_pos c
    have hlen : (ops (.alt a c)).length = (ops a).length + (ops c).length + 1 := by simp [ops]; omega
    rw [hlen] at hi
    have hxl : x.length + (ops a).length ≤ 1000 := by rw [hL] at hl; simp only [List.length_append] at hl; omega
    have H1 := rbegin_calls h hl c hc (x ++ ops a) ([kStp 4] ++ z) (i - 1) (by rw [hL]; simp [ops]) (by simp only [List.length_append]; omega)
    rw [List.length_append] at H1
    exact begin2 (j := i - 1) (j2 := x.length + (ops a).length - 1) h h1 h2 rfl hl (by omega) hxl (by omega) (by omega) H1 (rbegin_calls h hl a ha x (ops c ++ [kStp 4] ++ z) _ (by rw [hL]; simp [ops]) (by omega))
end
end Go.Proofs.YtnjjbaodfjmiaaaGreat
