/- ZApp, SpSets, SpFree, put together. -/
import Derived.Test.YtbokhofdgdcpdaaDoorFu10
import Derived.Laws.AppendOwn
import Derived.Laws.AppendOwnNone
import Derived.Test.YtbokhofdgdcpdaaDoorFu08
import Derived.Laws.OwnMore
import Derived.Lib.SmallJoins
import Derived.Laws.Rows
import Derived.Test.YtbokhofdgdcpdaaDoorFu03
import Derived.Test.YtbokhofdgdcpdaaDoorFu09
/- append of a whole list of numbers behind a list of the call's own. -/
namespace Go.Proofs.YtbokhofdgdcpdaaDoor
open Go.RowKit Go.Lib Go.Joins
theorem ints_one {l : List Int} {u : Value} (h : u ∈ l.map (Value.int .i64)) : u.oneCell' = true := by
  obtain ⟨x, _, rfl⟩ := List.mem_map.1 h
  rfl
theorem app_zz {w : World} {ops : Array Oper} {rest : List Oper} {o : Oper} {a : Act} {Q : Exit → Act → World → Prop} (hgd : o.guard = none) (s x : Operand)
    (ho : o.op = .call { callee := .builtin .append, args := #[s, x], argTypes := #[30, 30] }) {base B : Nat} {v u : Value} {l m : List Int}
    (hs : a.eval s = v) (hown : RowZ w base v l) (hx : a.eval x = u) (hM : RdZ B w u m) (hsz : l.length + m.length ≤ 1000000) (hb0 : base ≤ w.heap.size)
    (h : ∀ a' l' c' w', RowZ w' base (.slice a' l' c') (l ++ m) → w.grownBy w' v.ownBlock → Below base w w' → wpList Tryd.prog ops Q rest (a.put o.dst (.slice a' l' c')) w') : wpList Tryd.prog ops Q (o :: rest) a w := by
  have hlow : ∀ j, v.ownBlock = some j → base ≤ j := fun j e => (World.ownsRow.lt hown j e).1
  have h : ∀ v' w', RowZ w' base v' (l ++ m) → w.grownBy w' v.ownBlock → wpList Tryd.prog ops Q rest (a.put o.dst v') w' := fun v' w' h1 h2 => by
    obtain ⟨a', c', rfl⟩ := h1.form
    exact h _ _ _ _ h1 h2 ((Below.refl base w).grown h2 hb0 hlow)
  obtain ⟨i0, hi, hz0, hz1, hz2⟩ := info_parts infoInt
  obtain ⟨ad, cap, rfl, h1, h2, h0, hS⟩ := hM
  cases ad with
  | none =>
    have e0 := h0 rfl
    subst e0
    have hM0 : m = [] := List.eq_nil_of_length_eq_zero (by omega)
    subst hM0
    refine wpList_append_own_none hgd s x 30 ho base 3 i0 1 Tryd.underlying30 hi v l.length (l.map (Value.int .i64)) hs hown hx (h v w ?_ ⟨rfl, rfl, rfl, Nat.le_refl _, fun _ _ _ => rfl⟩)
    rw [List.append_nil]
    exact hown
  | some ad =>
    obtain ⟨b, off, spot⟩ := ad
    have hnews : ∀ j z, (m.map (Value.int .i64))[j]? = some z → w.cell? ((⟨b, off, spot⟩ : Addr).add j) = some z := by
      intro j z hz
      have hj : j < m.length := by
        have := (List.getElem?_eq_some_iff.1 hz).1
        simpa using this
      obtain ⟨b', off', e, _, hc⟩ := hS (by omega)
      simp only [Option.some.injEq, Addr.mk.injEq] at e
      obtain ⟨rfl, rfl, rfl⟩ := e
      rw [Addr.add_lit, hc j hj]
      rw [List.getElem?_map, List.getElem?_eq_getElem hj] at hz
      rw [List.getD_eq_getElem?_getD, List.getElem?_eq_getElem hj]
      exact hz
    refine wpList_append_own w hgd s x 30 ho base 3 i0 _ 1 8 Tryd.underlying30 hi hz0 hz1 hz2 rfl (by decide) v l.length (l.map (Value.int .i64)) hs hown ⟨b, off, spot⟩ m.length cap (m.map (Value.int .i64)) hx (by simp) hnews (fun z hz => ints_one hz) (by unfold maxLen; omega) (by omega) hb0 fun v' w' h3 h4 _ => h v' w' ?_ h4
    unfold RowZ
    rw [List.length_append, List.map_append]
    exact h3
end Go.Proofs.YtbokhofdgdcpdaaDoor

/- Contract of Sets. -/
namespace Go.Proofs.YtbokhofdgdcpdaaDoor
open Go.RowKit Go.Lib Go.Joins

theorem infoS : (Tryd.prog.info? 28).map (fun i => (i.zero, i.size, i.bytes)) = some (some (.agg #[.int .u64 0, .int .u64 0, .int .u64 0, .int .u64 0]), 4, 32) := by kernel_rfl
def setC (s : Stp) : List Value := [.int .u64 s.a, .int .u64 s.b, .int .u64 s.c, .int .u64 s.d]
/-- slice value v owns the sets of these steps, in a block from base on -/
def RowS (w : World) (base : Nat) (v : Value) (S : List Stp) : Prop := w.ownsRow base 28 4 v S.length (S.flatMap setC)
theorem RowS.nil (w : World) (base : Nat) : RowS w base (.slice none 0 0) [] := World.ownsRow_nil _ _ _ _
theorem RowS.kept {w w' : World} {base : Nat} {v : Value} {l : List Stp} (h : RowS w base v l) (hb : Below w.heap.size w w') : RowS w' base v l :=
  World.ownsRow.kept (row := none) h ⟨hb.os, hb.tape, hb.output, hb.size, fun k hk _ => hb.block k hk⟩ (by cases v.ownBlock <;> simp)
def RetS (w : World) (l : List Stp) (e : Ending) (w' : World) : Prop := ∃ v, e = .returned v ∧ RowS w' w.heap.size v l ∧ Below w.heap.size w w'
theorem app_s {w : World} {ops : Array Oper} {rest : List Oper} {o : Oper} {a : Act} {Q : Exit → Act → World → Prop} (hgd : o.guard = none) (s x : Operand)
    (ho : o.op = .call { callee := .builtin .append, args := #[s, x], argTypes := #[24, 24] }) {base xb : Nat} {z : Stp} {v : Value} {l : List Stp}
    (hs : a.eval s = v) (hown : RowS w base v l) (hx : a.eval x = .slice (some ⟨xb, 0, none⟩) 1 1) (hxb : w.heap[xb]? = some (.cells #[.int .u64 z.a, .int .u64 z.b, .int .u64 z.c, .int .u64 z.d] 28 (0, 0))) {n : Nat} (hn : l.length = n) (hn2 : n ≤ 100000) (hb0 : base ≤ w.heap.size)
    (h : ∀ g' c' w', RowS w' base (.slice (some ⟨g', 0, none⟩) (n + 1) c') (l ++ [z]) → w.grownBy w' v.ownBlock → Below base w w' → wpList Tryd.prog ops Q rest (a.put o.dst (.slice (some ⟨g', 0, none⟩) (n + 1) c')) w') : wpList Tryd.prog ops Q (o :: rest) a w := by
  subst hn
  obtain ⟨i0, hi, hz0, hz1, hz2⟩ := info_parts infoS
  refine wpList_append_own w hgd s x 24 ho base 28 i0 _ 4 32 Tryd.underlying24 hi hz0 hz1 hz2 rfl (by decide) _ l.length (l.flatMap setC) hs hown ⟨xb, 0, none⟩ 1 1 (setC z) hx rfl (fun j x hj => ?_) (fun x hx => by simp [setC] at hx; rcases hx with rfl | rfl | rfl | rfl <;> rfl) (by unfold maxLen; omega) (by omega) hb0 fun v' w' h3 h4 _ => ?_
  · rw [Addr.add_lit, Nat.zero_add, cell_of_row w xb _ _ _ _ hxb]
    simpa [setC] using hj
  · have hb : Below base w w' := (Below.refl base w).grown h4 hb0 fun k e => (hown.lt k e).1
    rcases ownsRow_forms h3 with ⟨_, h0⟩ | ⟨g, c, rfl⟩
    · omega
    · exact h g c w' (by unfold RowS; simpa using h3) h4 hb
/-- the steps that are sets -/
def sets (L : List Stp) : List Stp := L.filter fun s => s.k == 1
theorem sets_take {L : List Stp} {k : Nat} (h : k < L.length) : sets (L.take (k + 1)) = if (L.getD k default).k = 1 then sets (L.take k) ++ [L.getD k default] else sets (L.take k) := by
  have e : L.take (k + 1) = L.take k ++ [L.getD k default] := by rw [List.take_add_one, List.getElem?_eq_getElem h, List.getD_eq_getElem?_getD, List.getElem?_eq_getElem h]; rfl
  unfold sets
  rw [e, List.filter_append]
  generalize L.getD k default = s
  by_cases hk : s.k = 1
  · rw [if_pos hk]; simp [hk]
  · rw [if_neg hk]; simp [hk]
theorem sets_len (L : List Stp) (k : Nat) : (sets (L.take k)).length ≤ k := Nat.le_trans (List.length_filter_le _ _) (by simp; omega)
attribute [local irreducible] sets
set_option maxHeartbeats 4000000 in
set_option maxRecDepth 100000 in
theorem sets_none {C : Nat → Prop} {v : Value} {L : List Stp} {w : World} (h : SlX C w v L) (hC : ∀ b, C b → b < w.heap.size) (hz : (measV L).2 ≠ 0) : Calls Tryd.prog 11 #[v] w (RetS w []) := by
  have HK := hidden (check_slX h hC)
  obtain ⟨a, cap, rfl, _⟩ := h
  generalize (measV L).2 = r at *
  have hne : (r != 0) = true := by simpa using hz
  have HN := hidden (fun w' => RowS.nil w' w.heap.size)
  clear hC
  go_enter Tryd.func11, Tryd.ntmps11
  go_wp2_with fail
  refine HK.out.mono ?_
  rintro e w1 ⟨rfl, hb1⟩
  go_wp2
  go_ret
  exact ⟨_, rfl, HN.out _, hb1⟩
set_option maxHeartbeats 4000000 in
set_option maxRecDepth 100000 in
theorem sets_calls {C : Nat → Prop} {v : Value} {L : List Stp} {w : World} (h : SlX C w v L) (hC : ∀ b, C b → b < w.heap.size) (hz : (measV L).2 = 0) (hl : L.length ≤ 512) : Calls Tryd.prog 11 #[v] w (RetS w (sets L)) := by
  have HK := hidden (check_slX h hC)
  rw [hz] at HK
  have hpos := expr_ne (meas_expr hz).2
  obtain ⟨a, cap, rfl, hcap, hmax, _, hS⟩ := h
  obtain ⟨b, off, rfl, hCb, hc⟩ := hS.2 hpos
  have hbl := hC b hCb
  have HC := hidden (fun W2 (hW2 : Below w.heap.size w W2) k (hk : k < L.length) => (hc k hk).kept (w' := W2) (hW2.block b hbl))
  have HN := hidden (fun w' => RowS.nil w' w.heap.size)
  have HT := hidden (fun k (h : k < L.length) => sets_take h)
  have HLN := hidden (fun k => sets_len L k)
  have HE := hidden (show sets (L.take L.length) = sets L by rw [List.take_length])
  have H0 := hidden (show sets (L.take 0) = [] by unfold sets; rfl)
  obtain ⟨n, hn⟩ : ∃ n, n = L.length := ⟨_, rfl⟩
  rw [← hn] at HC HT HE hcap hl hpos HK ⊢
  unfold maxLen at hmax
  clear hC hS hc hn hz
  go_enter Tryd.func11, Tryd.ntmps11
  go_wp2_with fail
  refine HK.out.mono ?_
  rintro e w1 ⟨rfl, hb1⟩
  have HB1 := hidden hb1
  clear hb1
  go_wp2
  go_loopw [3, 5, 11] (fun v _ i wr => ∃ k : Nat, k ≤ n ∧ i = .int .i64 k ∧ RowS wr w.heap.size v (sets (L.take k)) ∧ Below w.heap.size w wr) (fun _ _ i _ => n - (intOf i).toNat)
  case atStart => exact ⟨0, by omega, rfl, by rw [H0.out]; exact HN.out _, HB1.out⟩
  case round =>
    obtain ⟨k, hk, rfl, hG, hb⟩ := hrel
    have HG := hidden hG
    have HB := hidden hb
    have hsz := hb.size
    by_cases hlt : k < n
    · obtain ⟨c0, c1, c2, c3, c4⟩ := HC.out wr hb k hlt
      have HTK := hidden (HT.out k hlt)
      have hln := HLN.out k
      generalize hst : L.getD k default = s at *
      obtain ⟨sk, sa, sb, sc, sd⟩ := s
      dsimp only at *
      have hbr : b < wr.heap.size := by omega
      obtain ⟨m, hm⟩ : ∃ m, m = (sets (L.take k)).length := ⟨_, rfl⟩
      rw [← hm] at hln
      have HM := hidden hm.symm
      clear hG hb hst hm
      by_cases h1 : sk = 1
      · subst h1
        have HR := hidden (show sets (L.take (k + 1)) = sets (L.take k) ++ [⟨1, sa, sb, sc, sd⟩] by rw [HTK.out]; rfl)
        have HA := hidden (HG.out.kept (((Below.refl wr.heap.size wr).alloc (Nat.le_refl _) (.cells #[.int .i64 1, .int .u64 sa, .int .u64 sb, .int .u64 sc, .int .u64 sd] 67)).alloc (by simp) (.cells #[.int .u64 sa, .int .u64 sb, .int .u64 sc, .int .u64 sd] 28)))
        have HBA := hidden ((HB.out.alloc hsz (.cells #[.int .i64 1, .int .u64 sa, .int .u64 sb, .int .u64 sc, .int .u64 sd] 67)).alloc (by simp; omega) (.cells #[.int .u64 sa, .int .u64 sb, .int .u64 sc, .int .u64 sd] 28))
        clear HTK
        go_wp2_with (at_builtin; refine app_s (z := ⟨1, sa, sb, sc, sd⟩) rfl _ _ rfl rfl HA.out rfl (heap_alloc2_new wr _ _) HM.out (by omega) (by simp; omega) ?_; intro g' c' w3 hr3 hg3 hb3; have HR3 := hidden hr3; have HB3 := hidden (HBA.out.trans hb3); clear hr3 hg3 hb3)
        go_roundw
        case rel => exact ⟨k + 1, by omega, by go_num, by rw [HR.out]; exact HR3.out, HB3.out⟩
        case measure => simp [intOf]; omega
      · have HR := hidden (show sets (L.take (k + 1)) = sets (L.take k) by rw [HTK.out, if_neg h1])
        have hq : (sk == 1) = false := by simpa using h1
        have HA := hidden (HG.out.kept ((Below.refl wr.heap.size wr).alloc (Nat.le_refl _) (.cells #[.int .i64 sk, .int .u64 sa, .int .u64 sb, .int .u64 sc, .int .u64 sd] 67)))
        have HBA := hidden (HB.out.alloc hsz (.cells #[.int .i64 sk, .int .u64 sa, .int .u64 sb, .int .u64 sc, .int .u64 sd] 67))
        clear HTK
        go_wp2
        go_roundw
        case rel => exact ⟨k + 1, by omega, by go_num, by rw [HR.out]; exact HA.out, HBA.out⟩
        case measure => simp [intOf]; omega
    · have e : k = n := by omega
      subst e
      clear hG hb
      go_wp2
      go_ret
      rw [HE.out] at HG
      exact ⟨_, rfl, HG.out, HB.out⟩
end Go.Proofs.YtbokhofdgdcpdaaDoor

/- Contract of the reference's free, at the steps of a tree. -/
namespace Go.Proofs.YtbokhofdgdcpdaaDoor
open Go.RowKit Go.Lib Go.Joins
section
variable {b off cap : Nat} {L : List Stp}
def Tell (b off cap : Nat) (L : List Stp) (F : FuncId) (i : Nat) (v : Value) : Prop := ∀ w, Lay b off L w → Calls Tryd.prog F #[.slice (some ⟨b, off, none⟩) L.length cap, .int .i64 i] w fun e w' => e = .returned v ∧ w = w'
def Begins (b off cap : Nat) (L : List Stp) (j y : Nat) : Prop := ∀ w, Lay b off L w → Calls Tryd.prog 77 #[.slice (some ⟨b, off, none⟩) L.length cap, .int .i64 j] w fun e w' => e = .returned (.int .i64 y) ∧ w = w'
theorem begins {e : Ex} (he : e.ok) (hl : L.length ≤ 1000) {x z : List Stp} {i : Nat} (hL : L = x ++ ops e ++ z) (hi : i + 1 = x.length + (ops e).length) : Begins b off cap L i x.length := fun _ hw => rbegin_calls hw hl e he x z i hL hi
/-- where the parts of two stand -/
theorem two_parts {k : Int} {a c : Ex} {e : Ex} (he : ops e = ops a ++ ops c ++ [kStp k]) {x z : List Stp} {i : Nat} (hL : L = x ++ ops e ++ z) (hi : i + 1 = x.length + (ops e).length) :
    (L = (x ++ ops a) ++ ops c ++ ([kStp k] ++ z) ∧ i - 1 + 1 = (x ++ ops a).length + (ops c).length) ∧ (L = x ++ ops a ++ (ops c ++ [kStp k] ++ z) ∧ x.length + (ops a).length - 1 + 1 = x.length + (ops a).length) ∧ i - 1 + 1 = i ∧ x.length + (ops a).length - 1 + 1 = (x ++ ops a).length ∧ (x ++ ops a).length ≤ L.length := by
  have hp := ops_pos a
  have hp2 := ops_pos c
  rw [he] at hL hi
  simp only [List.length_append, List.length_cons, List.length_nil] at hi
  refine ⟨⟨by rw [hL]; simp, ?_⟩, ⟨by rw [hL]; simp, by omega⟩, by omega, ?_, ?_⟩
  · simp only [List.length_append]; omega
  · simp only [List.length_append]; omega
  · rw [hL]; simp only [List.length_append]; omega
set_option maxRecDepth 100000 in
theorem rfrFlat {i : Nat} {k : Int} {r : Bool} (hi : i < L.length) (hk : (L.getD i default).k = k) (hk2 : k = 1 ∧ r = false ∨ (k = 2 ∨ k = 5 ∨ k = 7) ∧ r = true) : Tell b off cap L 56 i (.bool r) := by
  intro w h
  have c0 := h.kind hi hk
  generalize L.length = n at *
  clear h hk
  rcases hk2 with ⟨rfl, rfl⟩ | ⟨rfl | rfl | rfl, rfl⟩
  all_goals
    go_enter Tryd.func56, Tryd.ntmps56
    go_wp2
    go_ret
    exact ⟨rfl, rfl⟩
set_option maxRecDepth 100000 in
theorem rfrUn6 {i j : Nat} {x : Bool} (hi : i < L.length) (hk : (L.getD i default).k = 6) (hj : j + 1 = i) (hl : L.length ≤ 1000) (HA : Tell b off cap L 56 j (.bool x)) : Tell b off cap L 56 i (.bool x) := by
  intro w h
  have c0 := h.kind hi hk
  have HAA := hidden (HA w h)
  have hsub : IntKind.i64.wrap ((i : Int) - 1) = j := by rw [IntKind.wrap_i64]; omega
  generalize L.length = n at *
  clear h hk hj HA
  go_enter Tryd.func56, Tryd.ntmps56
  go_wp2_with fail
  refine HAA.out.mono ?_
  rintro e w1 ⟨rfl, rfl⟩
  go_wp2
  go_ret
  exact ⟨rfl, rfl⟩
set_option maxHeartbeats 2000000 in
set_option maxRecDepth 100000 in
theorem rfrTwo {i j y l : Nat} {k : Int} {x z r : Bool} (hi : i < L.length) (hk : (L.getD i default).k = k) (hk2 : k = 3 ∧ r = (x && z) ∨ k = 4 ∧ r = (x || z)) (hj : j + 1 = i) (hy : l + 1 = y) (hl : L.length ≤ 1000) (hyl : y ≤ 1000)
    (HA : Tell b off cap L 56 l (.bool x)) (HC : Tell b off cap L 56 j (.bool z)) (HB : Begins b off cap L j y) :
    Tell b off cap L 56 i (.bool r) := by
  intro w h
  have c0 := h.kind hi hk
  have HAA := hidden (HA w h)
  have HCC := hidden (HC w h)
  have HBB := hidden (HB w h)
  have hsub : IntKind.i64.wrap ((i : Int) - 1) = j := by rw [IntKind.wrap_i64]; omega
  have hsub2 : IntKind.i64.wrap ((y : Int) - 1) = l := by rw [IntKind.wrap_i64]; omega
  generalize L.length = n at *
  clear h hk hj HA HC HB hy
  rcases hk2 with ⟨rfl, rfl⟩ | ⟨rfl, rfl⟩
  all_goals cases x
  all_goals
    go_enter Tryd.func56, Tryd.ntmps56
    go_wp2_with fail
    refine HCC.out.mono ?_
    rintro e w1 ⟨rfl, rfl⟩
    go_wp2_with fail
    refine HBB.out.mono ?_
    rintro e w1 ⟨rfl, rfl⟩
    go_wp2_with fail
    refine HAA.out.mono ?_
    rintro e w1 ⟨rfl, rfl⟩
    go_wp2
    go_ret
    exact ⟨by simp, rfl⟩
theorem rfree (hl : L.length ≤ 1000) : ∀ (e : Ex), e.ok → ∀ (x z : List Stp) (i : Nat), L = x ++ ops e ++ z → i + 1 = x.length + (ops e).length → Tell b off cap L 56 i (.bool (nul e))
  | .set f, _, x, z, i, hL, hi => rfrFlat (at_end hL hi).1 (at_end hL hi).2 (.inl ⟨rfl, rfl⟩)
  | .emp, _, x, z, i, hL, hi => rfrFlat (at_end hL hi).1 (at_end hL hi).2 (.inr ⟨.inl rfl, rfl⟩)
  | .un k a, ⟨hk, ha⟩, x, z, i, hL, hi => by
    obtain ⟨h1, h2⟩ := at_end hL hi
    have hp := ops_pos a
    have hlen : (ops (.un k a)).length = (ops a).length + 1 := by simp [ops]
    rcases hk with rfl | rfl | rfl
    · exact rfrFlat h1 h2 (.inr ⟨.inr (.inl rfl), rfl⟩)
    · exact rfrUn6 (j := i - 1) h1 h2 (by omega) hl (rfree hl a ha x ([kStp 6] ++ z) (i - 1) (by rw [hL]; simp [ops]) (by omega))
    · exact rfrFlat h1 h2 (.inr ⟨.inr (.inr rfl), rfl⟩)
  | .cat a c, ⟨ha, hc⟩, x, z, i, hL, hi => by
    obtain ⟨h1, h2⟩ := at_end hL hi
    obtain ⟨⟨p1, p2⟩, ⟨p3, p4⟩, p5, p6, p7⟩ := two_parts (k := 3) (a := a) (c := c) rfl hL hi
    exact rfrTwo (b := b) (off := off) (cap := cap) h1 h2 (.inl ⟨rfl, rfl⟩) p5 p6 hl (by omega) (rfree hl a ha _ _ _ p3 p4) (rfree hl c hc _ _ _ p1 p2) (begins hc hl p1 p2)
  | .alt a c, ⟨ha, hc⟩, x, z, i, hL, hi => by
    obtain ⟨h1, h2⟩ := at_end hL hi
    obtain ⟨⟨p1, p2⟩, ⟨p3, p4⟩, p5, p6, p7⟩ := two_parts (k := 4) (a := a) (c := c) rfl hL hi
    exact rfrTwo (b := b) (off := off) (cap := cap) h1 h2 (.inr ⟨rfl, rfl⟩) p5 p6 hl (by omega) (rfree hl a ha _ _ _ p3 p4) (rfree hl c hc _ _ _ p1 p2) (begins hc hl p1 p2)
end
end Go.Proofs.YtbokhofdgdcpdaaDoor
